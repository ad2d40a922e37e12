/- OwnList of package pleachingref makes a list of trees anew, in memory of its own. Of the program's text. -/
/- Deeds done along a path, step by step; and lists of trees in memory of one's own, in which one is put in another one's place, or others behind. Of no program. -/
import Derived.Test.YtkoohfkomlmhoacGreatDoorProg
import Derived.Test.YtkoohfkomlmhoacGreatDoorKDP20
import Derived.Test.YtkoohfkomlmhoacGreatDoorKDP21
import Derived.Test.YtkoohfkomlmhoacGreatDoorKDP03
import Derived.Test.YtkoohfkomlmhoacGreatDoorKDP06
namespace Go.Proofs.YtkoohfkomlmhoacGreatDoor.Deed
open Go.Deep Go.RowKit
set_option linter.unusedVariables false
set_option maxRecDepth 20000

/-- What OwnList comes to. -/
def OwnLEnd (l : Gs) (w : World) (e : Ending) (w' : World) : Prop := ∃ va vc L, e = .returned (.slice va (List.length (α := It) L) vc) ∧ KInv 47 w.heap.size w' (.slice va L.length vc) L ∧ L.map bareIt = l ∧ Below w.heap.size w w'

end Go.Proofs.YtkoohfkomlmhoacGreatDoor.Deed
namespace Go.Proofs.YtkoohfkomlmhoacGreatDoor.Deed
open Go.Deep Go.RowKit
set_option linter.unusedVariables false
set_option maxRecDepth 20000

def ftake : Nat → Fo → Fo
  | 0, _ => .nil
  | _ + 1, .nil => .nil
  | n + 1, .node b o x k r => .node b o x k (ftake n r)
theorem FIn.take {w : World} : ∀ (n : Nat) {f : Fo} {b o : Nat}, FIn w f b o → FIn w (ftake n f) b o
  | 0, _, _, _, _ => trivial
  | _ + 1, .nil, _, _, _ => trivial
  | n + 1, .node _ _ _ _ r, b, o, ⟨h1, h2, h3, h4, h5, h6, h7, h8, h9⟩ => ⟨h1, h2, h3, h4, h5, h6, h7, h8, FIn.take n h9⟩
/-- What is done at the end of a rest of the path. -/
def doneR (d : Dd) (rest : List Int) : Op := if d.kind = 1 then modP (namOp d.lab) (nats rest) else if d.kind = 2 then modP (delOp (nats rest).getLast!) (nats rest).dropLast else modP (insOp d.pos.toNat d.many.toNat d.lab) (nats rest)
/-- One tree of a list of one's own gives its place to another one. -/
theorem KInv.put {T B : Nat} {w : World} {g n cap p : Nat} {L : List It} {x : It} (h : KInv T B w (.slice (some ⟨g, 0, none⟩) n cap) L) (hn : L.length = n) (hp : p < n) (hx : ItIn w x) (hf : FFrom B x.2.2.2) (hq : FPlain w x.2.2.2) (ho : FOff g x.2.2.2) :
    KInv T B ((w.setCell ⟨g, p * 2, none⟩ (.string x.1)).setCell ⟨g, p * 2 + 1, none⟩ (.slice x.2.1 (flen x.2.2.2) x.2.2.1)) (.slice (some ⟨g, 0, none⟩) n cap) (L.set p x) := by
  subst hn
  have hbut := set2_but w g (p * 2) (p * 2 + 1) (.string x.1) (.slice x.2.1 (flen x.2.2.2) x.2.2.1)
  refine ⟨fun it hi => ?_, ?_⟩
  · rcases List.mem_or_eq_of_mem_set hi with hi | rfl
    · obtain ⟨h1, h2, h3, h4⟩ := h.each it hi
      have h5 := h4 g rfl
      exact ⟨TIn.but hbut h5 h1, h2, FPlain.but hbut h5 h3, h4⟩
    · refine ⟨TIn.but hbut ho hx, hf, FPlain.but hbut ho hq, fun g' hg' => ?_⟩
      simp only [Value.ownBlock, Option.some.injEq] at hg'
      subst hg'
      exact ho
  · have hr := own_setN (Value.slice x.2.1 (flen x.2.2.2) x.2.2.1) (own_setN (Value.string x.1) h.row (j := p * 2) (by omega)) (j := p * 2 + 1) (by omega)
    have e : ((rowCells L).set (p * 2) (.string x.1)).set (p * 2 + 1) (.slice x.2.1 (flen x.2.2.2) x.2.2.1) = rowCells (L.set p x) := by
      clear hr hbut h hx hf hq ho
      induction L generalizing p with
      | nil => simp at hp
      | cons a L ih =>
        cases p with
        | zero => simp [rowCells, itCells]
        | succ p =>
          have := ih (p := p) (by simpa using hp)
          rw [show (p + 1) * 2 = p * 2 + 2 by omega]
          simpa [rowCells, itCells] using this
    rw [e] at hr
    rw [List.length_set]
    exact hr
/-- A list of one's own, and another one behind. -/
theorem KInv.join {T B : Nat} {w1 w3 : World} {v : Value} {L L2 : List It} {g cap : Nat} (h : KInv T B w1 v L) (h2 : ∀ it, it ∈ L2 → ItIn w1 it ∧ FFrom B it.2.2.2 ∧ FPlain w1 it.2.2.2 ∧ ∀ g, v.ownBlock = some g → FOff g it.2.2.2)
    (hown : w3.ownsRow B T 2 (.slice (some ⟨g, 0, none⟩) (L.length + L2.length) cap) (L.length + L2.length) (rowCells L ++ rowCells L2)) (hgrow : w1.grownBy w3 v.ownBlock) (hat : v.ownBlock = some g ∨ g = w1.heap.size) :
    KInv T B w3 (.slice (some ⟨g, 0, none⟩) (L.length + L2.length) cap) (L ++ L2) := by
  have hsame : ∀ b, b < w1.heap.size → some b ≠ v.ownBlock → w3.heap[b]? = w1.heap[b]? := fun b hlt hne => hgrow.block b hlt hne
  have keep : ∀ it : It, (ItIn w1 it ∧ FFrom B it.2.2.2 ∧ FPlain w1 it.2.2.2 ∧ ∀ g, v.ownBlock = some g → FOff g it.2.2.2) → ItIn w3 it ∧ FFrom B it.2.2.2 ∧ FPlain w3 it.2.2.2 ∧ ∀ g', (Value.slice (some ⟨g, 0, none⟩) (L.length + L2.length) cap).ownBlock = some g' → FOff g' it.2.2.2 := fun it ⟨hi, hf, hq, hoff⟩ => by
    refine ⟨?_, hf, ?_, fun g' hg' => ?_⟩
    · cases hv : v.ownBlock with
      | none => exact TIn.but (g := w1.heap.size) (fun b hlt _ => hsame b hlt (by rw [hv]; simp)) (hi.kids.off (Nat.le_refl _)) hi
      | some g0 => exact TIn.but (g := g0) (fun b hlt hne => hsame b hlt (by rw [hv]; simpa using hne)) (hoff g0 hv) hi
    · cases hv : v.ownBlock with
      | none => exact FPlain.but (g := w1.heap.size) (fun b hlt _ => hsame b hlt (by rw [hv]; simp)) (hi.kids.off (Nat.le_refl _)) hq
      | some g0 => exact FPlain.but (g := g0) (fun b hlt hne => hsame b hlt (by rw [hv]; simpa using hne)) (hoff g0 hv) hq
    · simp only [Value.ownBlock, Option.some.injEq] at hg'
      subst hg'
      rcases hat with hat | hat
      · exact hoff _ hat
      · exact hi.kids.off (by omega)
  have rc : ∀ a b : List It, rowCells (a ++ b) = rowCells a ++ rowCells b := fun a b => by
    induction a with
    | nil => rfl
    | cons x a ih => simp [rowCells, ih]
  refine ⟨fun it hi => ?_, by rw [rc, List.length_append]; exact hown⟩
  rcases List.mem_append.1 hi with hi | hi
  · exact keep it (h.each it hi)
  · exact keep it (h2 it hi)
theorem KInv.below {T B : Nat} {w w' : World} {v : Value} {L : List It} (h : KInv T B w v L) (hb : Below w.heap.size w w') : KInv T B w' v L :=
  ⟨fun it hi => ⟨TIn.below hb (h.each it hi).1, (h.each it hi).2.1, (h.each it hi).2.2.1.below hb, (h.each it hi).2.2.2⟩, ownsRow_below h.row hb⟩
theorem KInv.lower {T B B' : Nat} {w : World} {v : Value} {L : List It} (h : KInv T B w v L) (hB : B' ≤ B) : KInv T B' w v L :=
  ⟨fun it hi => ⟨(h.each it hi).1, (h.each it hi).2.1.mono hB, (h.each it hi).2.2⟩, h.row.1, by
    rcases h.row.2 with h2 | ⟨g, cap, cur, hv, hg, r⟩
    · exact Or.inl h2
    · exact Or.inr ⟨g, cap, cur, hv, by omega, r⟩⟩
end Go.Proofs.YtkoohfkomlmhoacGreatDoor.Deed
