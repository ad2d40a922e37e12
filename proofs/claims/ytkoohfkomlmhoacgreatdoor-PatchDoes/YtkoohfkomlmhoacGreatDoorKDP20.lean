/- Own and OwnList of package pleachingref make, of trees that lie in memory, the same trees in new memory. Of the program's text. -/
/- A text read as a tree, and a tree told as a text: of lists of bytes alone. Of no program. -/
import Derived.Test.YtkoohfkomlmhoacGreatDoorProg
import Derived.WalkSpells
import Derived.Deep.LoopGhost
import Derived.Deep.RegionHeld3
import Derived.Test.YtkoohfkomlmhoacGreatDoorKDP00
import Derived.Test.YtkoohfkomlmhoacGreatDoorKDP02
import Derived.Test.YtkoohfkomlmhoacGreatDoorKDP04
namespace Go.Proofs.YtkoohfkomlmhoacGreatDoor
open Go.Deep Go.RowKit
set_option linter.unusedVariables false
set_option maxRecDepth 20000

theorem Tryz.infoTree : (Tryz.prog.info? 47).map (fun i => (i.zero, i.size, i.bytes)) = some (some (.agg #[.string ⟨#[]⟩, .slice none 0 0]), 2, 40) := by kernel_rfl

theorem set2_but (w : World) (g o1 o2 : Nat) (u1 u2 : Value) : ∀ b, b < w.heap.size → b ≠ g → ((w.setCell ⟨g, o1, none⟩ u1).setCell ⟨g, o2, none⟩ u2).heap[b]? = w.heap[b]? := by
  intro b _ hb
  rw [Below.heap_setCell _ _ _ _ hb, Below.heap_setCell _ _ _ _ hb]

end Go.Proofs.YtkoohfkomlmhoacGreatDoor
namespace Go.Proofs.YtkoohfkomlmhoacGreatDoor
open Go.Deep Go.RowKit
set_option linter.unusedVariables false
set_option maxRecDepth 20000

/-- What is read: a fault (its code; what is left where it stands), or a thing and what is left. -/
inductive Rd (α : Type) where
  | bad (code : Nat) (rest : List UInt8)
  | ok (x : α) (rest : List UInt8)

def Rd.map {α β : Type} (f : α → β) : Rd α → Rd β
  | .bad c l => .bad c l
  | .ok x l => .ok (f x) l

end Go.Proofs.YtkoohfkomlmhoacGreatDoor
