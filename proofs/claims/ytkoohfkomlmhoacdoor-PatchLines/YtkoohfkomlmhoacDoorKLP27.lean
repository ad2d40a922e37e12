/- done of package pleachingref does a deed at what is left of its path. Of the program's text. -/
/- done of package pleachingref: where the deed's place is out of range; a step down the path. Of the program's text. -/
import Derived.Test.YtkoohfkomlmhoacDoorProg
import Derived.Deep.RegionHeld3
import Derived.Test.YtkoohfkomlmhoacDoorKLP20
import Derived.Test.YtkoohfkomlmhoacDoorKLP12
import Derived.BigQuiet
import Derived.Deep.RegionLaw
import Derived.Deep.DeepCutAuto
import Derived.Test.YtkoohfkomlmhoacDoorKLP03
namespace Go.Proofs.YtkoohfkomlmhoacDoor.Deed
open Go.Deep Go.RowKit
set_option linter.unusedVariables false
set_option maxRecDepth 20000

/-- What done comes to: a code, and where it is 0 the tree, in new memory. -/
def DoneEnd (r : Int × ByteArray × Fo) (w : World) (e : Ending) (w' : World) : Prop := ∃ s' ka' cap' k', e = .returned (.tuple #[.agg #[.string s', .slice ka' (flen k') cap'], .int .i64 r.1]) ∧ (r.1 = 0 → s' = r.2.1 ∧ strip k' = r.2.2 ∧ TIn w' s' ka' cap' k' ∧ FFrom w.heap.size k' ∧ FPlain w' k') ∧ Below w.heap.size w w'

theorem TIn.set {w : World} {g o : Nat} {v : Value} {s : ByteArray} {ka : Option Addr} {cap : Nat} {k : Fo} (h : TIn w s ka cap k) (ho : FOff g k) : TIn (w.setCell ⟨g, o, none⟩ v) s ka cap k :=
  TIn.but (g := g) (fun b _ hb => Below.heap_setCell _ _ _ _ hb) ho h
theorem FPlain.set {w : World} {g o : Nat} {v : Value} {k : Fo} (h : FPlain w k) (ho : FOff g k) : FPlain (w.setCell ⟨g, o, none⟩ v) k :=
  FPlain.but (g := g) (fun b _ hb => Below.heap_setCell _ _ _ _ hb) ho h

end Go.Proofs.YtkoohfkomlmhoacDoor.Deed
namespace Go.Proofs.YtkoohfkomlmhoacDoor.Deed
open Go.Deep Go.RowKit
set_option linter.unusedVariables false
set_option maxRecDepth 20000

/-- It is the same where it lies nowhere. -/
def OpS (op : Op) : Prop := ∀ s k, (op s (strip k)).1 = (op s k).1 ∧ ((op s k).1 = 0 → op s (strip k) = op s k)
theorem namOp_s (lab : ByteArray) : OpS (namOp lab) := fun s k => ⟨rfl, fun _ => by simp only [namOp, strip_strip]⟩
theorem delOp_s (i : Nat) : OpS (delOp i) := fun s k => by
  unfold delOp
  rw [gs_strip]
  cases (gsF k)[i]? with
  | none => exact ⟨rfl, fun h => by cases h⟩
  | some x => exact ⟨rfl, fun _ => rfl⟩
theorem insOp_s (i n : Nat) (lab : ByteArray) : OpS (insOp i n lab) := fun s k => by
  unfold insOp
  rw [gs_strip, flen_strip]
  split
  · exact ⟨rfl, fun _ => rfl⟩
  · exact ⟨rfl, fun h => by cases h⟩
theorem modP_s {op : Op} (h : OpS op) (p : List Nat) : OpS (modP op p) := fun s k => by
  cases p with
  | nil => exact h s k
  | cons p ps =>
    unfold modP
    rw [gs_strip]
    cases (gsF k)[p]? with
    | none => exact ⟨rfl, fun h => by cases h⟩
    | some x => exact ⟨rfl, fun _ => rfl⟩
theorem doneR_s (d : Dd) (rest : List Int) : OpS (doneR d rest) := by
  unfold doneR
  split
  · exact modP_s (namOp_s _) _
  · split
    · exact modP_s (delOp_s _) _
    · exact modP_s (insOp_s _ _ _) _

theorem DoneEnd.s {d : Dd} {rest : List Int} {s : ByteArray} {k : Fo} {w w' : World} {e : Ending} (h : DoneEnd (doneR d rest s k) w e w') : DoneEnd (doneR d rest s (strip k)) w e w' := by
  obtain ⟨h1, h2⟩ := doneR_s d rest s k
  obtain ⟨s', ka', cap', k', rfl, hg, hb⟩ := h
  refine ⟨s', ka', cap', k', by rw [h1], fun h0 => ?_, hb⟩
  rw [h1] at h0
  rw [h2 h0]
  exact hg h0

end Go.Proofs.YtkoohfkomlmhoacDoor.Deed
