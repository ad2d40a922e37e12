/- What the good end of Do wants. Of no program. -/
/- joined and swapped of package deed: lists of its own. Of the program's text. -/
import Derived.BigQuiet
import Derived.Deep.RegionHeld3
import Derived.Test.YtkoohfkomlmhoacDoorKLP28
import Derived.Test.YtkoohfkomlmhoacDoorKLP29
import Derived.Test.YtkoohfkomlmhoacDoorProg
import Derived.Deep.LoopGhost
import Derived.WalkSmall
import Derived.Test.YtkoohfkomlmhoacDoorKLP09
import Derived.Test.YtkoohfkomlmhoacDoorKLP18
import Derived.Test.YtkoohfkomlmhoacDoorKLP27
import Derived.Test.YtkoohfkomlmhoacDoorKLP03
namespace Go.Proofs.YtkoohfkomlmhoacDoor.Deed
open Go.Deep Go.RowKit
set_option linter.unusedVariables false
set_option maxRecDepth 20000

theorem BackIs.drew {w : World} {c : Nat} {d : Dd} {pa : Option Addr} {pc : Nat} (h : BackIs w c d pa pc) : BackIs w.drew c d pa pc := h.block rfl
end Go.Proofs.YtkoohfkomlmhoacDoor.Deed
namespace Go.Proofs.YtkoohfkomlmhoacDoor.Deed
open Go.Deep Go.RowKit
set_option linter.unusedVariables false
set_option maxRecDepth 20000

def ints (l : List Int) : List Value := l.map fun p => Value.int .i64 p
end Go.Proofs.YtkoohfkomlmhoacDoor.Deed
