/- Do of package pleachingref, where its code is not 0. Of the program's text. -/
/- The good end of Do: what is answered lies in its boxes; and the node at a path, as At answers it. Of no program. -/
import Derived.Test.YtkoohfkomlmhoacGreatDoorProg
import Derived.WalkSpells
import Derived.Deep.LoopGhost
import Derived.Test.YtkoohfkomlmhoacGreatDoorKDP30
import Derived.Test.YtkoohfkomlmhoacGreatDoorKDP00
import Derived.Test.YtkoohfkomlmhoacGreatDoorKDP02
import Derived.Test.YtkoohfkomlmhoacGreatDoorKDP23
namespace Go.Proofs.YtkoohfkomlmhoacGreatDoor.Deed
open Go.Deep Go.RowKit
set_option linter.unusedVariables false
set_option maxRecDepth 20000

/-- What Do comes to. -/
def DoEnd (r : Int × (ByteArray × Fo) × Dd) (w : World) (e : Ending) (w' : World) : Prop := ∃ s' ka' cap' k' pa' pc', e = .returned (.tuple #[.agg #[.string s', .slice ka' (flen k') cap'], ddV r.2.2 pa' pc', .int .i64 r.1]) ∧ s' = r.2.1.1 ∧ strip k' = r.2.1.2 ∧ TIn w' s' ka' cap' k' ∧ FFrom w.heap.size k' ∧ FPlain w' k' ∧ DIn w' r.2.2 pa' pc' ∧ Below w.heap.size w w'

theorem tIn_none (w : World) : TIn w ⟨#[]⟩ none 0 .nil := ⟨by decide, Nat.le_refl _, by decide, Or.inl rfl⟩
theorem dIn_none (w : World) : DIn w ⟨0, [], 0, 0, ⟨#[]⟩⟩ none 0 := ⟨Or.inl rfl, Nat.le_refl _, by decide, by decide⟩
theorem DoEnd.bad {c : Int} {w w' : World} (h : Below w.heap.size w w') : DoEnd (c, (⟨#[]⟩, .nil), ⟨0, [], 0, 0, ⟨#[]⟩⟩) w (.returned (.tuple #[.agg #[.string ⟨#[]⟩, .slice none 0 0], .agg #[.int .i64 0, .slice none 0 0, .int .i64 0, .int .i64 0, .string ⟨#[]⟩], .int .i64 c])) w' :=
  ⟨⟨#[]⟩, none, 0, .nil, none, 0, rfl, rfl, rfl, tIn_none _, trivial, trivial, dIn_none _, h⟩

end Go.Proofs.YtkoohfkomlmhoacGreatDoor.Deed
namespace Go.Proofs.YtkoohfkomlmhoacGreatDoor.Deed
open Go.Deep Go.RowKit
set_option linter.unusedVariables false
set_option maxRecDepth 20000

/-- What Do comes to, and, where that is asked, that no two lists of it share memory. -/
def DoEndN (nd : Prop) (fr : Addr → Prop) (r : Int × (ByteArray × Fo) × Dd) (w : World) (e : Ending) (w' : World) : Prop := ∃ s' ka' cap' k' pa' pc', e = .returned (.tuple #[.agg #[.string s', .slice ka' (flen k') cap'], ddV r.2.2 pa' pc', .int .i64 r.1]) ∧ s' = r.2.1.1 ∧ strip k' = r.2.1.2 ∧ TIn w' s' ka' cap' k' ∧ FFrom w.heap.size k' ∧ FPlain w' k' ∧ DIn w' r.2.2 pa' pc' ∧ Below w.heap.size w w' ∧ (nd → (ab k').Nodup) ∧ (r.2.2.path ≠ [] → ∀ a, pa' = some a → fr a)
theorem DoEndN.plain {nd : Prop} {fr : Addr → Prop} {r : Int × (ByteArray × Fo) × Dd} {w : World} {e : Ending} {w' : World} (h : DoEndN nd fr r w e w') : DoEnd r w e w' := by
  obtain ⟨s', ka', cap', k', pa', pc', h1, h2, h3, h4, h5, h6, h7, h8, _⟩ := h
  exact ⟨s', ka', cap', k', pa', pc', h1, h2, h3, h4, h5, h6, h7, h8⟩
theorem DoEndN.bad {nd : Prop} {fr : Addr → Prop} {c : Int} {w w' : World} (h : Below w.heap.size w w') : DoEndN nd fr (c, (⟨#[]⟩, .nil), ⟨0, [], 0, 0, ⟨#[]⟩⟩) w (.returned (.tuple #[.agg #[.string ⟨#[]⟩, .slice none 0 0], .agg #[.int .i64 0, .slice none 0 0, .int .i64 0, .int .i64 0, .string ⟨#[]⟩], .int .i64 c])) w' :=
  ⟨⟨#[]⟩, none, 0, .nil, none, 0, rfl, rfl, rfl, tIn_none _, trivial, trivial, dIn_none _, h, fun _ => List.nodup_nil, fun _ a h => by cases h⟩

end Go.Proofs.YtkoohfkomlmhoacGreatDoor.Deed
