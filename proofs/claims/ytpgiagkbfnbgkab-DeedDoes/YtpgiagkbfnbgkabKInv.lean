/- What a loop that appends trees to a list of its own keeps, while one block beside turns: the list's items so far. And the reader's pure steps. Of no program. -/
import Derived.Test.YtpgiagkbfnbgkabOwnInv
import Derived.Test.YtpgiagkbfnbgkabWalkInv
import Derived.Test.YtpgiagkbfnbgkabTxt
namespace Go.Proofs.Ytpgiagkbfnbgkab
open Go.Deep Go.RowKit
set_option linter.unusedVariables false
set_option maxRecDepth 20000

structure KInv (T B : Nat) (wr : World) (v : Value) (L : List It) : Prop where
  each : ∀ it, it ∈ L → ItIn wr it ∧ FFrom B it.2.2.2 ∧ FPlain wr it.2.2.2 ∧ ∀ g, v.ownBlock = some g → FOff g it.2.2.2
  row : wr.ownsRow B T 2 v L.length (rowCells L)

theorem KInv.start (T B : Nat) (w : World) : KInv T B w (.slice none 0 0) [] := ⟨fun _ h => by simp at h, ⟨rfl, Or.inl ⟨rfl, rfl⟩⟩⟩

/-- One block alone has turned, which lies ahead of B. -/
theorem KInv.but {T B g0 : Nat} {w w' : World} {v : Value} {L : List It} (h : KInv T B w v L) (hg : g0 < B) (hb : ∀ b, b < w.heap.size → b ≠ g0 → w'.heap[b]? = w.heap[b]?) : KInv T B w' v L := by
  refine ⟨fun it hi => ?_, ?_⟩
  · obtain ⟨h1, h2, h3, h4⟩ := h.each it hi
    exact ⟨TIn.but hb (h2.off hg) h1, h2, FPlain.but hb (h2.off hg) h3, h4⟩
  · obtain ⟨h1, h2⟩ := h.row
    refine ⟨h1, ?_⟩
    rcases h2 with h2 | ⟨g, cap, cur, hv, hg1, hh, r⟩
    · exact Or.inl h2
    · have hlt : g < w.heap.size := by
        rcases Nat.lt_or_ge g w.heap.size with h | h
        · exact h
        · rw [Array.getElem?_eq_none h] at hh; cases hh
      exact Or.inr ⟨g, cap, cur, hv, hg1, by rw [hb g hlt (by omega)]; exact hh, r⟩

theorem KInv.keeps {T B b : Nat} {w w' : World} {v : Value} {L : List It} (h : KInv T B w v L) (hb : b < B) (hk : Keeps [b] w w') : KInv T B w' v L :=
  h.but hb fun i hi hne => hk.block i hi (by simpa using hne)

theorem KInv.step {T B : Nat} {w1 w3 : World} {k' : Fo} {v : Value} {cap cap' g : Nat} {x : ByteArray} {ka' : Option Addr} {L : List It} {ob : Obj}
    (h1 : KInv T B w1 v L) (ht : TIn w1 x ka' cap' k') (hpl : FPlain w1 k') (hfr : FFrom B k') (hoff : ∀ g0, v.ownBlock = some g0 → FOff g0 k')
    (hown : w3.ownsRow B T 2 (.slice (some ⟨g, 0, none⟩) (L.length + 1) cap) (L.length + 1) (rowCells L ++ itCells (x, ka', cap', k'))) (hgrow : (w1.alloc ob).grownBy w3 v.ownBlock) (hat : v.ownBlock = some g ∨ g = w1.heap.size + 1) :
    KInv T B w3 (.slice (some ⟨g, 0, none⟩) (L.length + 1) cap) (L ++ [(x, ka', cap', k')]) := by
  have hsame : ∀ b, b < w1.heap.size → some b ≠ v.ownBlock → w3.heap[b]? = w1.heap[b]? := fun b hlt hne => by
    rw [hgrow.block b (by simp; omega) hne, Below.heap_alloc _ _ _ hlt]
  have keep : ∀ it : It, ItIn w1 it → (∀ g, v.ownBlock = some g → FOff g it.2.2.2) → ItIn w3 it := fun it hi hoff => by
    cases hv : v.ownBlock with
    | none => exact TIn.but (g := w1.heap.size) (fun b hlt _ => hsame b hlt (by rw [hv]; simp)) (hi.kids.off (Nat.le_refl _)) hi
    | some g0 => exact TIn.but (g := g0) (fun b hlt hne => hsame b hlt (by rw [hv]; simpa using hne)) (hoff g0 hv) hi
  have keepP : ∀ it : It, ItIn w1 it → FPlain w1 it.2.2.2 → (∀ g, v.ownBlock = some g → FOff g it.2.2.2) → FPlain w3 it.2.2.2 := fun it hi hq hoff => by
    cases hv : v.ownBlock with
    | none => exact FPlain.but (g := w1.heap.size) (fun b hlt _ => hsame b hlt (by rw [hv]; simp)) (hi.kids.off (Nat.le_refl _)) hq
    | some g0 => exact FPlain.but (g := g0) (fun b hlt hne => hsame b hlt (by rw [hv]; simpa using hne)) (hoff g0 hv) hq
  have off : ∀ it : It, ItIn w1 it → (∀ g, v.ownBlock = some g → FOff g it.2.2.2) → ∀ g', (Value.slice (some ⟨g, 0, none⟩) (L.length + 1) cap).ownBlock = some g' → FOff g' it.2.2.2 := fun it hi hoff g' hg' => by
    simp only [Value.ownBlock, Option.some.injEq] at hg'
    subst hg'
    rcases hat with hat | hat
    · exact hoff _ hat
    · exact hi.kids.off (by omega)
  refine ⟨fun it hi => ?_, by rw [rowCells_append]; simpa using hown⟩
  rcases List.mem_append.1 hi with hi | hi
  · obtain ⟨e1, e2, e4, e3⟩ := h1.each it hi
    exact ⟨keep it e1 e3, e2, keepP it e1 e4 e3, off it e1 e3⟩
  · have : it = (x, ka', cap', k') := by simpa using hi
    subst this
    exact ⟨keep _ ht hoff, hfr, keepP _ ht hpl hoff, off _ ht hoff⟩

theorem KInv.done {T B : Nat} {wr : World} {v : Value} {L : List It} (h : KInv T B wr v L) :
    ∃ ka cap k', v = .slice ka (flen k') cap ∧ strip k' = strip (joinF L .nil) ∧ flen k' ≤ cap ∧ cap ≤ maxLen ∧ KIn wr ka k' ∧ FFrom B k' ∧ FPlain wr k' := by
  rcases h.row.2 with ⟨hv, hn⟩ | ⟨g, cap, cur, hv, hg, hh, h1, h2, h3, h4⟩
  · have : L = [] := List.eq_nil_of_length_eq_zero hn
    subst this
    exact ⟨none, 0, .nil, by rw [hv]; rfl, rfl, Nat.le_refl _, Nat.zero_le _, Or.inl rfl, trivial, trivial⟩
  · refine ⟨some ⟨g, 0, none⟩, cap, place g 0 L, by rw [hv, flen_place], by rw [strip_place], by rw [flen_place]; exact h1, h2, Or.inr ⟨g, 0, rfl, ?_⟩, place_from hg L 0 fun i hi => (h.each i hi).2.1, place_plain ⟨_, _, hh⟩ L 0 fun i hi => (h.each i hi).2.2.1⟩
    have hr := h.row
    rw [hv] at hr
    exact place_in L 0 (fun i hi => (h.each i hi).1) (ownsRow_cell hr)

/-- A tree more, in the list and in the variable that holds it. -/
theorem kids_step {T b tb rb q0 : Nat} {w w3 w4 : World} {x x2 : ByteArray} {v : Value} {L : List It} {ka' : Option Addr} {cap' g cap2 : Nat} {k' : Fo} {ob : Obj} {OB OR : Obj}
    (hw : w.heap.size = rb) (hrt : rb < tb) (hbr : b < rb) (hq0 : tb < q0) (hK : KInv T (tb + 1) w3 v L) (hoffs : ∀ g0, v.ownBlock = some g0 → g0 < q0)
    (hT : w3.heap[tb]? = some (.cells #[.string x, v] T)) (hR : w3.heap[rb]? = some OR) (hO : w3.heap[b]? = some OB) (hk : Keeps [b] w w3) (ht : TIn w3 x2 ka' cap' k') (hpl : FPlain w3 k') (hfr : FFrom q0 k')
    (hown : w4.ownsRow (tb + 1) T 2 (.slice (some ⟨g, 0, none⟩) (L.length + 1) cap2) (L.length + 1) (rowCells L ++ itCells (x2, ka', cap', k'))) (hgrow : (w3.alloc ob).grownBy w4 v.ownBlock) (hat : v.ownBlock = some g ∨ g = w3.heap.size + 1) :
    w4.cell? ⟨tb, 1, none⟩ = some v ∧ w4.frozen? ⟨tb, 1, none⟩ = false ∧
    KInv T (tb + 1) (w4.setCell ⟨tb, 1, none⟩ (.slice (some ⟨g, 0, none⟩) (L.length + 1) cap2)) (.slice (some ⟨g, 0, none⟩) (L.length + 1) cap2) (L ++ [(x2, ka', cap', k')]) ∧
    (w4.setCell ⟨tb, 1, none⟩ (.slice (some ⟨g, 0, none⟩) (L.length + 1) cap2)).heap[tb]? = some (.cells #[.string x, .slice (some ⟨g, 0, none⟩) (L.length + 1) cap2] T) ∧
    (w4.setCell ⟨tb, 1, none⟩ (.slice (some ⟨g, 0, none⟩) (L.length + 1) cap2)).heap[rb]? = some OR ∧
    (w4.setCell ⟨tb, 1, none⟩ (.slice (some ⟨g, 0, none⟩) (L.length + 1) cap2)).heap[b]? = some OB ∧
    Keeps [b] w (w4.setCell ⟨tb, 1, none⟩ (.slice (some ⟨g, 0, none⟩) (L.length + 1) cap2)) := by
  have lt : ∀ {i : Nat} {o : Obj}, w3.heap[i]? = some o → i < w3.heap.size := fun {i o} h => by
    rcases Nat.lt_or_ge i w3.heap.size with h' | h'
    · exact h'
    · rw [Array.getElem?_eq_none h'] at h; cases h
  have row : ∀ i, i < tb + 1 → some i ≠ v.ownBlock := fun i hi e => by
    have := (ownBlock_lt hK.row e.symm).1
    omega
  have same : ∀ i, i < w3.heap.size → i < tb + 1 → w4.heap[i]? = w3.heap[i]? := fun i hlt hi => by
    rw [hgrow.block i (by simp; omega) (row i hi), Below.heap_alloc _ _ _ hlt]
  have hT4 : w4.heap[tb]? = some (.cells #[.string x, v] T) := (same tb (lt hT) (by omega)).trans hT
  have hK4 := hK.step ht hpl (hfr.mono (by omega)) (fun g0 hg0 => hfr.off (hoffs g0 hg0)) hown hgrow hat
  have oth : ∀ i, i ≠ tb → (w4.setCell ⟨tb, 1, none⟩ (.slice (some ⟨g, 0, none⟩) (L.length + 1) cap2)).heap[i]? = w4.heap[i]? := fun i hi => Below.heap_setCell _ _ _ _ hi
  refine ⟨by rw [cell_of_row _ _ 1 _ _ _ hT4]; rfl, by simp [World.frozen?, hT4], hK4.but (g0 := tb) (by omega) (fun i _ hi => oth i hi), ?_, ?_, ?_, ?_⟩
  · simp [World.setCell, Array.getElem?_modify, hT4]
  · rw [oth rb (by omega), same rb (lt hR) (by omega)]; exact hR
  · rw [oth b (by omega), same b (lt hO) (by omega)]; exact hO
  · have hz := hgrow.size
    simp at hz
    have hz3 := hk.size
    refine ⟨hgrow.os.trans hk.os, hgrow.tape.trans hk.tape, hgrow.output.trans hk.output, by simp [World.setCell]; omega, fun i hi hn => ?_⟩
    rw [oth i (by omega), same i (by omega) (by omega)]
    exact hk.block i hi hn

/-- What is read is without addresses. -/
def Bare : Rd Fo → Prop
  | .ok f _ => strip f = f
  | .bad _ _ => True
def BareT : Rd (ByteArray × Fo) → Prop
  | .ok x _ => strip x.2 = x.2
  | .bad _ _ => True
theorem bare_all : ∀ (n : Nat), (∀ a l, BareT (rdT n a l)) ∧ (∀ a l, Bare (rdK n a l))
  | 0 => ⟨fun _ _ => trivial, fun _ _ => trivial⟩
  | n + 1 => by
    obtain ⟨h1, h2⟩ := bare_all n
    constructor
    · intro a l
      unfold rdT
      split
      · trivial
      · split
        · trivial
        · split
          · rfl
          · rename_i q _
            have := h2 (a + 1) q
            cases hq : rdK n (a + 1) q with
            | bad c r => trivial
            | ok f r => rw [hq] at this; exact this
    · intro a l
      unfold rdK
      have hT := h1 a l
      split
      · trivial
      · rename_i x r hx
        rw [hx] at hT
        have hx2 : strip x.2 = x.2 := hT
        split
        · show strip _ = _
          simp [strip, hx2]
        · have := h2 a (skip r)
          cases hq : rdK n a (skip r) with
          | bad c r' => trivial
          | ok f r' =>
            rw [hq] at this
            have hf : strip f = f := this
            show strip _ = _
            simp [strip, hx2, hf]

def joinS (L : List It) (f : Fo) : Fo := strip (joinF L f)
theorem joinS_snoc (L : List It) (x : ByteArray) (ka : Option Addr) (cap : Nat) (k k' f : Fo) (hk : strip k' = k) (h : strip k = k) : joinS L (.node 0 0 (x, none, 0) k f) = joinS (L ++ [(x, ka, cap, k')]) f := by
  unfold joinS
  rw [joinF_snoc]
  refine strip_joinF L _ _ ?_
  simp [strip, hk, h]
theorem Rd.map_map {α β γ : Type} (f : α → β) (g : β → γ) : ∀ r : Rd α, (r.map f).map g = r.map fun x => g (f x)
  | .bad _ _ => rfl
  | .ok _ _ => rfl

end Go.Proofs.Ytpgiagkbfnbgkab
