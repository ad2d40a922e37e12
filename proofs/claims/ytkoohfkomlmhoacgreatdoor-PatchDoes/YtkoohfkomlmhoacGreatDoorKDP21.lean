/- What a loop that appends trees to a list of its own keeps, while one block beside turns: the list's items so far. And the reader's pure steps. Of no program. -/
/- What the loop of order.grow keeps: rows of trees, one for each node that is still to come. Of no program. -/
import Derived.Test.YtkoohfkomlmhoacGreatDoorKDP04
import Derived.Test.YtkoohfkomlmhoacGreatDoorKDP05
import Derived.Test.YtkoohfkomlmhoacGreatDoorKDP20
import Derived.Test.YtkoohfkomlmhoacGreatDoorKDP01
import Derived.Test.YtkoohfkomlmhoacGreatDoorKDP06
namespace Go.Proofs.YtkoohfkomlmhoacGreatDoor
open Go.Deep Go.RowKit
set_option linter.unusedVariables false
set_option maxRecDepth 20000

structure KInv (T B : Nat) (wr : World) (v : Value) (L : List It) : Prop where
  each : ∀ it, it ∈ L → ItIn wr it ∧ FFrom B it.2.2.2 ∧ FPlain wr it.2.2.2 ∧ ∀ g, v.ownBlock = some g → FOff g it.2.2.2
  row : wr.ownsRow B T 2 v L.length (rowCells L)

/-- One block alone has turned, which lies ahead of B. -/
theorem KInv.but {T B g0 : Nat} {w w' : World} {v : Value} {L : List It} (h : KInv T B w v L) (hg : g0 < B) (hb : ∀ b, b < w.heap.size → b ≠ g0 → w'.heap[b]? = w.heap[b]?) : KInv T B w' v L := by
  refine ⟨fun it hi => ?_, ?_⟩
  · obtain ⟨h1, h2, h3, h4⟩ := h.each it hi
    exact ⟨TIn.but hb (h2.off hg) h1, h2, FPlain.but hb (h2.off hg) h3, h4⟩
  · obtain ⟨h1, h2⟩ := h.row
    refine ⟨h1, ?_⟩
    rcases h2 with h2 | ⟨g, cap, cur, hv, hg1, hh, r⟩
    · exact Or.inl h2
    · have hlt : g < w.heap.size := by
        rcases Nat.lt_or_ge g w.heap.size with h | h
        · exact h
        · rw [Array.getElem?_eq_none h] at hh; cases hh
      exact Or.inr ⟨g, cap, cur, hv, hg1, by rw [hb g hlt (by omega)]; exact hh, r⟩

theorem KInv.keeps {T B b : Nat} {w w' : World} {v : Value} {L : List It} (h : KInv T B w v L) (hb : b < B) (hk : Keeps [b] w w') : KInv T B w' v L :=
  h.but hb fun i hi hne => hk.block i hi (by simpa using hne)

theorem KInv.step {T B : Nat} {w1 w3 : World} {k' : Fo} {v : Value} {cap cap' g : Nat} {x : ByteArray} {ka' : Option Addr} {L : List It} {ob : Obj}
    (h1 : KInv T B w1 v L) (ht : TIn w1 x ka' cap' k') (hpl : FPlain w1 k') (hfr : FFrom B k') (hoff : ∀ g0, v.ownBlock = some g0 → FOff g0 k')
    (hown : w3.ownsRow B T 2 (.slice (some ⟨g, 0, none⟩) (L.length + 1) cap) (L.length + 1) (rowCells L ++ itCells (x, ka', cap', k'))) (hgrow : (w1.alloc ob).grownBy w3 v.ownBlock) (hat : v.ownBlock = some g ∨ g = w1.heap.size + 1) :
    KInv T B w3 (.slice (some ⟨g, 0, none⟩) (L.length + 1) cap) (L ++ [(x, ka', cap', k')]) := by
  have hsame : ∀ b, b < w1.heap.size → some b ≠ v.ownBlock → w3.heap[b]? = w1.heap[b]? := fun b hlt hne => by
    rw [hgrow.block b (by simp; omega) hne, Below.heap_alloc _ _ _ hlt]
  have keep : ∀ it : It, ItIn w1 it → (∀ g, v.ownBlock = some g → FOff g it.2.2.2) → ItIn w3 it := fun it hi hoff => by
    cases hv : v.ownBlock with
    | none => exact TIn.but (g := w1.heap.size) (fun b hlt _ => hsame b hlt (by rw [hv]; simp)) (hi.kids.off (Nat.le_refl _)) hi
    | some g0 => exact TIn.but (g := g0) (fun b hlt hne => hsame b hlt (by rw [hv]; simpa using hne)) (hoff g0 hv) hi
  have keepP : ∀ it : It, ItIn w1 it → FPlain w1 it.2.2.2 → (∀ g, v.ownBlock = some g → FOff g it.2.2.2) → FPlain w3 it.2.2.2 := fun it hi hq hoff => by
    cases hv : v.ownBlock with
    | none => exact FPlain.but (g := w1.heap.size) (fun b hlt _ => hsame b hlt (by rw [hv]; simp)) (hi.kids.off (Nat.le_refl _)) hq
    | some g0 => exact FPlain.but (g := g0) (fun b hlt hne => hsame b hlt (by rw [hv]; simpa using hne)) (hoff g0 hv) hq
  have off : ∀ it : It, ItIn w1 it → (∀ g, v.ownBlock = some g → FOff g it.2.2.2) → ∀ g', (Value.slice (some ⟨g, 0, none⟩) (L.length + 1) cap).ownBlock = some g' → FOff g' it.2.2.2 := fun it hi hoff g' hg' => by
    simp only [Value.ownBlock, Option.some.injEq] at hg'
    subst hg'
    rcases hat with hat | hat
    · exact hoff _ hat
    · exact hi.kids.off (by omega)
  refine ⟨fun it hi => ?_, by rw [rowCells_append]; simpa using hown⟩
  rcases List.mem_append.1 hi with hi | hi
  · obtain ⟨e1, e2, e4, e3⟩ := h1.each it hi
    exact ⟨keep it e1 e3, e2, keepP it e1 e4 e3, off it e1 e3⟩
  · have : it = (x, ka', cap', k') := by simpa using hi
    subst this
    exact ⟨keep _ ht hoff, hfr, keepP _ ht hpl hoff, off _ ht hoff⟩

theorem KInv.done {T B : Nat} {wr : World} {v : Value} {L : List It} (h : KInv T B wr v L) :
    ∃ ka cap k', v = .slice ka (flen k') cap ∧ strip k' = strip (joinF L .nil) ∧ flen k' ≤ cap ∧ cap ≤ maxLen ∧ KIn wr ka k' ∧ FFrom B k' ∧ FPlain wr k' := by
  rcases h.row.2 with ⟨hv, hn⟩ | ⟨g, cap, cur, hv, hg, hh, h1, h2, h3, h4⟩
  · have : L = [] := List.eq_nil_of_length_eq_zero hn
    subst this
    exact ⟨none, 0, .nil, by rw [hv]; rfl, rfl, Nat.le_refl _, Nat.zero_le _, Or.inl rfl, trivial, trivial⟩
  · refine ⟨some ⟨g, 0, none⟩, cap, place g 0 L, by rw [hv, flen_place], by rw [strip_place], by rw [flen_place]; exact h1, h2, Or.inr ⟨g, 0, rfl, ?_⟩, place_from hg L 0 fun i hi => (h.each i hi).2.1, place_plain ⟨_, _, hh⟩ L 0 fun i hi => (h.each i hi).2.2.1⟩
    have hr := h.row
    rw [hv] at hr
    exact place_in L 0 (fun i hi => (h.each i hi).1) (ownsRow_cell hr)

theorem Rd.map_map {α β γ : Type} (f : α → β) (g : β → γ) : ∀ r : Rd α, (r.map f).map g = r.map fun x => g (f x)
  | .bad _ _ => rfl
  | .ok _ _ => rfl

end Go.Proofs.YtkoohfkomlmhoacGreatDoor
namespace Go.Proofs.YtkoohfkomlmhoacGreatDoor
open Go.Deep Go.RowKit
set_option linter.unusedVariables false
set_option maxRecDepth 20000

theorem place_off {g c : Nat} (hg : g ≠ c) : ∀ (l : List It) (o : Nat), (∀ i, i ∈ l → FOff c i.2.2.2) → FOff c (place g o l)
  | [], _, _ => trivial
  | a :: l, o, h => ⟨hg, h a (by simp), place_off hg l (o + 2) fun i hi => h i (by simp [hi])⟩

def bareIt (it : It) : ByteArray × Fo := (it.1, strip it.2.2.2)
theorem strip_join : ∀ L : List It, strip (joinF L .nil) = toFo (L.map bareIt)
  | [] => rfl
  | a :: l => by simp [joinF, strip, toFo, bareIt, strip_join l]

theorem KInv.done2 {T B : Nat} {wr : World} {v : Value} {L : List It} (h : KInv T B wr v L) :
    ∃ ka cap k', v = .slice ka (flen k') cap ∧ strip k' = toFo (L.map bareIt) ∧ flen k' ≤ cap ∧ cap ≤ maxLen ∧ KIn wr ka k' ∧ FFrom B k' ∧ FPlain wr k' ∧ ∀ c, v.ownBlock ≠ some c → (∀ it, it ∈ L → FOff c it.2.2.2) → FOff c k' := by
  rcases h.row.2 with ⟨hv, hn⟩ | ⟨g, cap, cur, hv, hg, hh, h1, h2, h3, h4⟩
  · have : L = [] := List.eq_nil_of_length_eq_zero hn
    subst this
    exact ⟨none, 0, .nil, by rw [hv]; rfl, rfl, Nat.le_refl _, Nat.zero_le _, Or.inl rfl, trivial, trivial, fun _ _ _ => trivial⟩
  · refine ⟨some ⟨g, 0, none⟩, cap, place g 0 L, by rw [hv, flen_place], by rw [strip_place, strip_join], by rw [flen_place]; exact h1, h2, Or.inr ⟨g, 0, rfl, ?_⟩, place_from hg L 0 fun i hi => (h.each i hi).2.1, place_plain ⟨_, _, hh⟩ L 0 fun i hi => (h.each i hi).2.2.1, ?_⟩
    · have hr := h.row
      rw [hv] at hr
      exact place_in L 0 (fun i hi => (h.each i hi).1) (ownsRow_cell hr)
    · intro c hc ho
      exact place_off (fun e => hc (by rw [hv, ← e]; rfl)) L 0 ho

/-- One block alone has turned, which is none of the row's and of its items'. -/
theorem KInv.but1 {T B c : Nat} {w w' : World} {v : Value} {L : List It} (h : KInv T B w v L) (hc : v.ownBlock ≠ some c) (hoff : ∀ it, it ∈ L → FOff c it.2.2.2) (hb : ∀ b, b < w.heap.size → b ≠ c → w'.heap[b]? = w.heap[b]?) : KInv T B w' v L := by
  refine ⟨fun it hi => ?_, ?_⟩
  · obtain ⟨h1, h2, h3, h4⟩ := h.each it hi
    exact ⟨TIn.but hb (hoff it hi) h1, h2, FPlain.but hb (hoff it hi) h3, h4⟩
  · exact ownsN_block h.row fun g hg => hb g (ownBlockN_lt h.row hg).2 (fun e => hc (by rw [hg, e]))

def updV {α : Type} (f : Nat → α) (p : Nat) (x : α) : Nat → α := fun m => if m = p then x else f m
theorem updV_same {α : Type} (f : Nat → α) (p : Nat) (x : α) : updV f p x p = x := by simp [updV]
theorem updV_other {α : Type} (f : Nat → α) {p m : Nat} (x : α) (h : m ≠ p) : updV f p x m = f m := by simp [updV, h]

structure GInv (T n i g : Nat) (wr : World) (lab : Nat → ByteArray) (vv : Nat → Value) (K : Nat → List It) : Prop where
  arr : ∃ cs : Array Value, wr.heap[g]? = some (.cells cs T (0, 0)) ∧ ∀ m, m < n → cs[m * 2]? = some (.string (lab m)) ∧ cs[m * 2 + 1]? = some (vv m)
  rows : ∀ m, i ≤ m → m < n → KInv T (g + 1) wr (vv m) (K m)
  apart : ∀ m m', i ≤ m → m < n → i ≤ m' → m' < n → m ≠ m' → ∀ b, (vv m).ownBlock = some b → (vv m').ownBlock ≠ some b
  offs : ∀ m m', i ≤ m → m < n → i ≤ m' → m' < n → m ≠ m' → ∀ it, it ∈ K m → ∀ b, (vv m').ownBlock = some b → FOff b it.2.2.2

theorem GInv.cells {T n i g : Nat} {wr : World} {lab : Nat → ByteArray} {vv : Nat → Value} {K : Nat → List It} (h : GInv T n i g wr lab vv K) {m : Nat} (hm : m < n) :
    wr.cell? ⟨g, m * 2, none⟩ = some (.string (lab m)) ∧ wr.cell? ⟨g, m * 2 + 1, none⟩ = some (vv m) ∧ g < wr.heap.size ∧ ∀ o, wr.frozen? ⟨g, o, none⟩ = false := by
  obtain ⟨cs, h1, h2⟩ := h.arr
  refine ⟨by rw [cell_of_row _ _ _ _ _ _ h1]; exact (h2 m hm).1, by rw [cell_of_row _ _ _ _ _ _ h1]; exact (h2 m hm).2, ?_, fun o => by simp [World.frozen?, h1]⟩
  rcases Nat.lt_or_ge g wr.heap.size with h' | h'
  · exact h'
  · rw [Array.getElem?_eq_none h'] at h1; cases h1

theorem GInv.below {T n i g : Nat} {wr w' : World} {lab : Nat → ByteArray} {vv : Nat → Value} {K : Nat → List It} (h : GInv T n i g wr lab vv K) (hb : Below wr.heap.size wr w') : GInv T n i g w' lab vv K := by
  obtain ⟨cs, h1, h2⟩ := h.arr
  have hg : g < wr.heap.size := by
    rcases Nat.lt_or_ge g wr.heap.size with h' | h'
    · exact h'
    · rw [Array.getElem?_eq_none h'] at h1; cases h1
  exact ⟨⟨cs, by rw [hb.block g hg]; exact h1, h2⟩, fun m hm hm' => (h.rows m hm hm').but (g0 := g) (by omega) (fun b hb' _ => hb.block b hb'), h.apart, h.offs⟩

/-- A label is written. -/
theorem GInv.label {T n i g : Nat} {wr : World} {lab : Nat → ByteArray} {vv : Nat → Value} {K : Nat → List It} (h : GInv T n i g wr lab vv K) {j : Nat} (hj : j < n) (x : ByteArray) : GInv T n i g (wr.setCell ⟨g, j * 2, none⟩ (.string x)) (updV lab j x) vv K := by
  obtain ⟨cs, h1, h2⟩ := h.arr
  refine ⟨⟨cs.setIfInBounds (j * 2) (.string x), by simp [World.setCell, Array.getElem?_modify, h1], fun m hm => ?_⟩, fun m hm hm' => (h.rows m hm hm').but (g0 := g) (by omega) (fun b hb' hne => Below.heap_setCell _ _ _ _ hne), h.apart, h.offs⟩
  have hsz : j * 2 < cs.size := by
    have := (h2 j hj).1
    rcases Nat.lt_or_ge (j * 2) cs.size with h' | h'
    · exact h'
    · rw [Array.getElem?_eq_none h'] at this; cases this
  rw [Array.getElem?_setIfInBounds, Array.getElem?_setIfInBounds]
  rw [if_neg (show ¬ j * 2 = m * 2 + 1 by omega)]
  by_cases hmj : m = j
  · subst hmj
    rw [if_pos rfl, if_pos hsz, updV_same]
    exact ⟨rfl, (h2 m hm).2⟩
  · rw [if_neg (by omega), updV_other _ _ hmj]
    exact h2 m hm

/-- A tree more stands beneath its parent; its own row is no more one of the rows. -/
theorem GInv.push {T n i g p : Nat} {w w3 : World} {lab : Nat → ByteArray} {vv : Nat → Value} {K : Nat → List It} (h : GInv T n i g w lab vv K) (hip : i < p) (hp : p < n) (hls : (lab i).size ≤ maxLen) {ob : Obj} {g' cap2 : Nat} {ka : Option Addr} {cap : Nat} {k' : Fo}
    (hvi : vv i = .slice ka (flen k') cap) (hl : flen k' ≤ cap) (hc : cap ≤ maxLen) (hk : KIn w ka k') (hfr : FFrom (g + 1) k') (hpl : FPlain w k') (hoffk : ∀ c, (vv i).ownBlock ≠ some c → (∀ it, it ∈ K i → FOff c it.2.2.2) → FOff c k')
    (hown : w3.ownsRow (g + 1) T 2 (.slice (some ⟨g', 0, none⟩) ((K p).length + 1) cap2) ((K p).length + 1) (rowCells (K p) ++ itCells (lab i, ka, cap, k'))) (hgrow : (w.alloc ob).grownBy w3 (vv p).ownBlock) (hat : (vv p).ownBlock = some g' ∨ g' = w.heap.size + 1) :
    GInv T n (i + 1) g (w3.setCell ⟨g, p * 2 + 1, none⟩ (.slice (some ⟨g', 0, none⟩) ((K p).length + 1) cap2)) lab (updV vv p (.slice (some ⟨g', 0, none⟩) ((K p).length + 1) cap2)) (updV K p (K p ++ [(lab i, ka, cap, k')])) := by
  obtain ⟨cs, h1, h2⟩ := h.arr
  have hg : g < w.heap.size := (h.cells hp).2.2.1
  have hrow := fun m (hm : i ≤ m) (hm' : m < n) => h.rows m hm hm'
  have own_lt : ∀ m, i ≤ m → m < n → ∀ b, (vv m).ownBlock = some b → g + 1 ≤ b ∧ b < w.heap.size := fun m hm hm' b hb => ownBlockN_lt (hrow m hm hm').row hb
  have hsame : ∀ b, b < w.heap.size → some b ≠ (vv p).ownBlock → w3.heap[b]? = w.heap[b]? := fun b hlt hne => by
    rw [hgrow.block b (by simp; omega) hne, Below.heap_alloc _ _ _ hlt]
  have hT : TIn w (lab i) ka cap k' := ⟨hls, hl, hc, hk⟩
  have hoffp : ∀ g0, (vv p).ownBlock = some g0 → FOff g0 k' := fun g0 hg0 =>
    hoffk g0 (fun e => h.apart i p (Nat.le_refl _) (by omega) (by omega) hp (by omega) g0 e hg0) (fun it hit => h.offs i p (Nat.le_refl _) (by omega) (by omega) hp (by omega) it hit g0 hg0)
  have hKp := (hrow p (by omega) hp).step hT hpl hfr hoffp hown hgrow hat
  have hg3 : w3.heap[g]? = some (.cells cs T (0, 0)) := by
    rw [hsame g hg (fun e => by have := (own_lt p (by omega) hp g e.symm).1; omega)]
    exact h1
  have setO : ∀ b, b ≠ g → (w3.setCell ⟨g, p * 2 + 1, none⟩ (.slice (some ⟨g', 0, none⟩) ((K p).length + 1) cap2)).heap[b]? = w3.heap[b]? := fun b hb => Below.heap_setCell _ _ _ _ hb
  have hoffm : ∀ m, i + 1 ≤ m → m < n → m ≠ p → ∀ it, it ∈ K m → FOff g' it.2.2.2 := fun m hm hm' hmp it hit => by
    rcases hat with e | e
    · exact h.offs m p (by omega) hm' (by omega) hp hmp it hit g' e
    · exact ((hrow m (by omega) hm').each it hit).1.kids.off (by omega)
  refine ⟨⟨cs.setIfInBounds (p * 2 + 1) (.slice (some ⟨g', 0, none⟩) ((K p).length + 1) cap2), by simp [World.setCell, Array.getElem?_modify, hg3], fun m hm => ?_⟩, fun m hm hm' => ?_, fun m m' hm hm2 hm' hm2' hne b hb => ?_, fun m m' hm hm2 hm' hm2' hne it hit b hb => ?_⟩
  · have hsz : p * 2 + 1 < cs.size := by
      have := (h2 p hp).2
      rcases Nat.lt_or_ge (p * 2 + 1) cs.size with h' | h'
      · exact h'
      · rw [Array.getElem?_eq_none h'] at this; cases this
    rw [Array.getElem?_setIfInBounds, Array.getElem?_setIfInBounds]
    rw [if_neg (show ¬ p * 2 + 1 = m * 2 by omega)]
    by_cases hmp : m = p
    · subst hmp
      rw [if_pos rfl, if_pos hsz, updV_same]
      exact ⟨(h2 m hm).1, rfl⟩
    · rw [if_neg (by omega), updV_other _ _ hmp]
      exact h2 m hm
  · by_cases hmp : m = p
    · subst hmp
      rw [updV_same, updV_same]
      exact hKp.but (g0 := g) (by omega) (fun b _ hb => setO b hb)
    · rw [updV_other _ _ hmp, updV_other _ _ hmp]
      have hk3 : KInv T (g + 1) w3 (vv m) (K m) := by
        cases hvp : (vv p).ownBlock with
        | none => exact (hrow m (by omega) hm').but1 (c := w.heap.size) (fun e => by have := (own_lt m (by omega) hm' _ e).2; omega) (fun it hit => ((hrow m (by omega) hm').each it hit).1.kids.off (Nat.le_refl _)) (fun b hb _ => hsame b hb (by rw [hvp]; simp))
        | some c => exact (hrow m (by omega) hm').but1 (c := c) (fun e => h.apart m p (by omega) hm' (by omega) hp hmp c e hvp) (fun it hit => h.offs m p (by omega) hm' (by omega) hp hmp it hit c hvp) (fun b hb hne => hsame b hb (by rw [hvp]; simpa using hne))
      exact hk3.but (g0 := g) (by omega) (fun b _ hb => setO b hb)
  · intro hb'
    by_cases hmp : m = p
    · subst hmp
      rw [updV_same] at hb
      rw [updV_other _ _ (Ne.symm hne)] at hb'
      simp only [Value.ownBlock, Option.some.injEq] at hb
      subst hb
      rcases hat with e | e
      · exact h.apart m m' (by omega) hm2 (by omega) hm2' hne _ e hb'
      · have := (own_lt m' (by omega) hm2' _ hb').2
        omega
    · rw [updV_other _ _ hmp] at hb
      by_cases hmp' : m' = p
      · subst hmp'
        rw [updV_same] at hb'
        simp only [Value.ownBlock, Option.some.injEq] at hb'
        subst hb'
        rcases hat with e | e
        · exact h.apart m m' (by omega) hm2 (by omega) hm2' hne _ hb e
        · have := (own_lt m (by omega) hm2 _ hb).2
          omega
      · rw [updV_other _ _ hmp'] at hb'
        exact h.apart m m' (by omega) hm2 (by omega) hm2' hne b hb hb'
  · by_cases hmp' : m' = p
    · subst hmp'
      rw [updV_same] at hb
      rw [updV_other _ _ hne] at hit
      simp only [Value.ownBlock, Option.some.injEq] at hb
      subst hb
      exact hoffm m hm hm2 hne it hit
    · rw [updV_other _ _ hmp'] at hb
      by_cases hmp : m = p
      · subst hmp
        rw [updV_same] at hit
        rcases List.mem_append.1 hit with hit | hit
        · exact h.offs m m' (by omega) hm2 (by omega) hm2' hne it hit b hb
        · have : it = (lab i, ka, cap, k') := by simpa using hit
          subst this
          exact hoffk b (fun e => h.apart i m' (Nat.le_refl _) (by omega) (by omega) hm2' (by omega) b e hb) (fun it hit => h.offs i m' (Nat.le_refl _) (by omega) (by omega) hm2' (by omega) it hit b hb)
      · rw [updV_other _ _ hmp] at hit
        exact h.offs m m' (by omega) hm2 (by omega) hm2' hne it hit b hb

end Go.Proofs.YtkoohfkomlmhoacGreatDoor
