/- A text read as a tree, and a tree told as a text: of lists of bytes alone. Of no program. -/
/- What a loop that appends trees to a list of its own keeps, while one block beside turns: the list's items so far. And the reader's pure steps. Of no program. -/
import Derived.Test.YtkoohfkomlmhoacDoorKLP00
import Derived.Test.YtkoohfkomlmhoacDoorKLP02
import Derived.Test.YtkoohfkomlmhoacDoorKLP04
import Derived.Test.YtkoohfkomlmhoacDoorKLP05
namespace Go.Proofs.YtkoohfkomlmhoacDoor
open Go.Deep Go.RowKit
set_option linter.unusedVariables false
set_option maxRecDepth 20000

/-- What is read: a fault (its code; what is left where it stands), or a thing and what is left. -/
inductive Rd (α : Type) where
  | bad (code : Nat) (rest : List UInt8)
  | ok (x : α) (rest : List UInt8)

def Rd.map {α β : Type} (f : α → β) : Rd α → Rd β
  | .bad c l => .bad c l
  | .ok x l => .ok (f x) l

end Go.Proofs.YtkoohfkomlmhoacDoor
namespace Go.Proofs.YtkoohfkomlmhoacDoor
open Go.Deep Go.RowKit
set_option linter.unusedVariables false
set_option maxRecDepth 20000

structure KInv (T B : Nat) (wr : World) (v : Value) (L : List It) : Prop where
  each : ∀ it, it ∈ L → ItIn wr it ∧ FFrom B it.2.2.2 ∧ FPlain wr it.2.2.2 ∧ ∀ g, v.ownBlock = some g → FOff g it.2.2.2
  row : wr.ownsRow B T 2 v L.length (rowCells L)

/-- One block alone has turned, which lies ahead of B. -/
theorem KInv.but {T B g0 : Nat} {w w' : World} {v : Value} {L : List It} (h : KInv T B w v L) (hg : g0 < B) (hb : ∀ b, b < w.heap.size → b ≠ g0 → w'.heap[b]? = w.heap[b]?) : KInv T B w' v L := by
  refine ⟨fun it hi => ?_, ?_⟩
  · obtain ⟨h1, h2, h3, h4⟩ := h.each it hi
    exact ⟨TIn.but hb (h2.off hg) h1, h2, FPlain.but hb (h2.off hg) h3, h4⟩
  · obtain ⟨h1, h2⟩ := h.row
    refine ⟨h1, ?_⟩
    rcases h2 with h2 | ⟨g, cap, cur, hv, hg1, hh, r⟩
    · exact Or.inl h2
    · have hlt : g < w.heap.size := by
        rcases Nat.lt_or_ge g w.heap.size with h | h
        · exact h
        · rw [Array.getElem?_eq_none h] at hh; cases hh
      exact Or.inr ⟨g, cap, cur, hv, hg1, by rw [hb g hlt (by omega)]; exact hh, r⟩

theorem KInv.keeps {T B b : Nat} {w w' : World} {v : Value} {L : List It} (h : KInv T B w v L) (hb : b < B) (hk : Keeps [b] w w') : KInv T B w' v L :=
  h.but hb fun i hi hne => hk.block i hi (by simpa using hne)

theorem KInv.step {T B : Nat} {w1 w3 : World} {k' : Fo} {v : Value} {cap cap' g : Nat} {x : ByteArray} {ka' : Option Addr} {L : List It} {ob : Obj}
    (h1 : KInv T B w1 v L) (ht : TIn w1 x ka' cap' k') (hpl : FPlain w1 k') (hfr : FFrom B k') (hoff : ∀ g0, v.ownBlock = some g0 → FOff g0 k')
    (hown : w3.ownsRow B T 2 (.slice (some ⟨g, 0, none⟩) (L.length + 1) cap) (L.length + 1) (rowCells L ++ itCells (x, ka', cap', k'))) (hgrow : (w1.alloc ob).grownBy w3 v.ownBlock) (hat : v.ownBlock = some g ∨ g = w1.heap.size + 1) :
    KInv T B w3 (.slice (some ⟨g, 0, none⟩) (L.length + 1) cap) (L ++ [(x, ka', cap', k')]) := by
  have hsame : ∀ b, b < w1.heap.size → some b ≠ v.ownBlock → w3.heap[b]? = w1.heap[b]? := fun b hlt hne => by
    rw [hgrow.block b (by simp; omega) hne, Below.heap_alloc _ _ _ hlt]
  have keep : ∀ it : It, ItIn w1 it → (∀ g, v.ownBlock = some g → FOff g it.2.2.2) → ItIn w3 it := fun it hi hoff => by
    cases hv : v.ownBlock with
    | none => exact TIn.but (g := w1.heap.size) (fun b hlt _ => hsame b hlt (by rw [hv]; simp)) (hi.kids.off (Nat.le_refl _)) hi
    | some g0 => exact TIn.but (g := g0) (fun b hlt hne => hsame b hlt (by rw [hv]; simpa using hne)) (hoff g0 hv) hi
  have keepP : ∀ it : It, ItIn w1 it → FPlain w1 it.2.2.2 → (∀ g, v.ownBlock = some g → FOff g it.2.2.2) → FPlain w3 it.2.2.2 := fun it hi hq hoff => by
    cases hv : v.ownBlock with
    | none => exact FPlain.but (g := w1.heap.size) (fun b hlt _ => hsame b hlt (by rw [hv]; simp)) (hi.kids.off (Nat.le_refl _)) hq
    | some g0 => exact FPlain.but (g := g0) (fun b hlt hne => hsame b hlt (by rw [hv]; simpa using hne)) (hoff g0 hv) hq
  have off : ∀ it : It, ItIn w1 it → (∀ g, v.ownBlock = some g → FOff g it.2.2.2) → ∀ g', (Value.slice (some ⟨g, 0, none⟩) (L.length + 1) cap).ownBlock = some g' → FOff g' it.2.2.2 := fun it hi hoff g' hg' => by
    simp only [Value.ownBlock, Option.some.injEq] at hg'
    subst hg'
    rcases hat with hat | hat
    · exact hoff _ hat
    · exact hi.kids.off (by omega)
  refine ⟨fun it hi => ?_, by rw [rowCells_append]; simpa using hown⟩
  rcases List.mem_append.1 hi with hi | hi
  · obtain ⟨e1, e2, e4, e3⟩ := h1.each it hi
    exact ⟨keep it e1 e3, e2, keepP it e1 e4 e3, off it e1 e3⟩
  · have : it = (x, ka', cap', k') := by simpa using hi
    subst this
    exact ⟨keep _ ht hoff, hfr, keepP _ ht hpl hoff, off _ ht hoff⟩

theorem KInv.done {T B : Nat} {wr : World} {v : Value} {L : List It} (h : KInv T B wr v L) :
    ∃ ka cap k', v = .slice ka (flen k') cap ∧ strip k' = strip (joinF L .nil) ∧ flen k' ≤ cap ∧ cap ≤ maxLen ∧ KIn wr ka k' ∧ FFrom B k' ∧ FPlain wr k' := by
  rcases h.row.2 with ⟨hv, hn⟩ | ⟨g, cap, cur, hv, hg, hh, h1, h2, h3, h4⟩
  · have : L = [] := List.eq_nil_of_length_eq_zero hn
    subst this
    exact ⟨none, 0, .nil, by rw [hv]; rfl, rfl, Nat.le_refl _, Nat.zero_le _, Or.inl rfl, trivial, trivial⟩
  · refine ⟨some ⟨g, 0, none⟩, cap, place g 0 L, by rw [hv, flen_place], by rw [strip_place], by rw [flen_place]; exact h1, h2, Or.inr ⟨g, 0, rfl, ?_⟩, place_from hg L 0 fun i hi => (h.each i hi).2.1, place_plain ⟨_, _, hh⟩ L 0 fun i hi => (h.each i hi).2.2.1⟩
    have hr := h.row
    rw [hv] at hr
    exact place_in L 0 (fun i hi => (h.each i hi).1) (ownsRow_cell hr)

theorem Rd.map_map {α β γ : Type} (f : α → β) (g : β → γ) : ∀ r : Rd α, (r.map f).map g = r.map fun x => g (f x)
  | .bad _ _ => rfl
  | .ok _ _ => rfl

end Go.Proofs.YtkoohfkomlmhoacDoor
