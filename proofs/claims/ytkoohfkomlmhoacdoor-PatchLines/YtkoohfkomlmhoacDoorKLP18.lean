/- slices.Grow and slices.Concat at lists of deeds. Of the program's text. -/
/- Own and OwnList of package pleachingref make, of trees that lie in memory, the same trees in new memory. Of the program's text. -/
import Derived.Test.YtkoohfkomlmhoacDoorProg
import Derived.Deep.LoopGhost
import Derived.WalkSmall
import Derived.Test.YtkoohfkomlmhoacDoorKLP09
import Derived.Test.YtkoohfkomlmhoacDoorKLP17
import Derived.WalkSpells
import Derived.Deep.RegionHeld3
import Derived.Test.YtkoohfkomlmhoacDoorKLP00
import Derived.Test.YtkoohfkomlmhoacDoorKLP02
import Derived.Test.YtkoohfkomlmhoacDoorKLP04
namespace Go.Proofs.YtkoohfkomlmhoacDoor.Deed
open Go.Deep Go.RowKit
set_option linter.unusedVariables false
set_option maxRecDepth 20000

theorem Tryd.infoDeed : (Tryd.prog.info? 35).map (fun i => (i.zero, i.size, i.bytes)) = some (some (.agg #[.int .i64 0, .slice none 0 0, .int .i64 0, .int .i64 0, .string ⟨#[]⟩]), 5, 64) := by kernel_rfl

end Go.Proofs.YtkoohfkomlmhoacDoor.Deed
namespace Go.Proofs.YtkoohfkomlmhoacDoor
open Go.Deep Go.RowKit
set_option linter.unusedVariables false
set_option maxRecDepth 20000

theorem set2_but (w : World) (g o1 o2 : Nat) (u1 u2 : Value) : ∀ b, b < w.heap.size → b ≠ g → ((w.setCell ⟨g, o1, none⟩ u1).setCell ⟨g, o2, none⟩ u2).heap[b]? = w.heap[b]? := by
  intro b _ hb
  rw [Below.heap_setCell _ _ _ _ hb, Below.heap_setCell _ _ _ _ hb]

end Go.Proofs.YtkoohfkomlmhoacDoor
