/- slices.Grow and slices.Concat at lists of numbers. Of the program's text. -/
/- What the good end of Do wants. Of no program. -/
import Derived.Test.YtkoohfkomlmhoacDoorProg
import Derived.Deep.LoopGhost
import Derived.WalkSmall
import Derived.Test.YtkoohfkomlmhoacDoorKBP10
import Derived.BigQuiet
import Derived.Deep.RegionHeld3
import Derived.Test.YtkoohfkomlmhoacDoorKBP29
namespace Go.Proofs.YtkoohfkomlmhoacDoor.Deed
open Go.Deep Go.RowKit
set_option linter.unusedVariables false
set_option maxRecDepth 20000

theorem Tryd.infoInt : (Tryd.prog.info? 3).map (fun i => (i.zero, i.size, i.bytes)) = some (some (.int .i64 0), 1, 8) := by kernel_rfl

end Go.Proofs.YtkoohfkomlmhoacDoor.Deed
namespace Go.Proofs.YtkoohfkomlmhoacDoor.Deed
open Go.Deep Go.RowKit
set_option linter.unusedVariables false
set_option maxRecDepth 20000

theorem BackIs.drew {w : World} {c : Nat} {d : Dd} {pa : Option Addr} {pc : Nat} (h : BackIs w c d pa pc) : BackIs w.drew c d pa pc := h.block rfl
end Go.Proofs.YtkoohfkomlmhoacDoor.Deed
