/- Own and OwnList of package pleachingref make, of trees that lie in memory, the same trees in new memory. Of the program's text. -/
/- A text read as a tree, and a tree told as a text: of lists of bytes alone. Of no program. -/
import Derived.Test.YtkoohfkomlmhoacDoorProg
import Derived.WalkSpells
import Derived.Deep.LoopGhost
import Derived.Deep.RegionHeld3
import Derived.Test.YtkoohfkomlmhoacDoorKBP00
import Derived.Test.YtkoohfkomlmhoacDoorKBP02
import Derived.Test.YtkoohfkomlmhoacDoorKBP04
namespace Go.Proofs.YtkoohfkomlmhoacDoor
open Go.Deep Go.RowKit
set_option linter.unusedVariables false
set_option maxRecDepth 20000

theorem set2_but (w : World) (g o1 o2 : Nat) (u1 u2 : Value) : ∀ b, b < w.heap.size → b ≠ g → ((w.setCell ⟨g, o1, none⟩ u1).setCell ⟨g, o2, none⟩ u2).heap[b]? = w.heap[b]? := by
  intro b _ hb
  rw [Below.heap_setCell _ _ _ _ hb, Below.heap_setCell _ _ _ _ hb]

end Go.Proofs.YtkoohfkomlmhoacDoor
namespace Go.Proofs.YtkoohfkomlmhoacDoor
open Go.Deep Go.RowKit
set_option linter.unusedVariables false
set_option maxRecDepth 20000

/-- What is read: a fault (its code; what is left where it stands), or a thing and what is left. -/
inductive Rd (α : Type) where
  | bad (code : Nat) (rest : List UInt8)
  | ok (x : α) (rest : List UInt8)

def Rd.map {α β : Type} (f : α → β) : Rd α → Rd β
  | .bad c l => .bad c l
  | .ok x l => .ok (f x) l

end Go.Proofs.YtkoohfkomlmhoacDoor
