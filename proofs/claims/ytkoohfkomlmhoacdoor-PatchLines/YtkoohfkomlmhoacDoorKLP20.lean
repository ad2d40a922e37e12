/- What the loop of order.grow keeps: rows of trees, one for each node that is still to come. Of no program. -/
/- Deeds done along a path, step by step; and lists of trees in memory of one's own, in which one is put in another one's place, or others behind. Of no program. -/
import Derived.Test.YtkoohfkomlmhoacDoorKLP01
import Derived.Test.YtkoohfkomlmhoacDoorKLP05
import Derived.Test.YtkoohfkomlmhoacDoorKLP19
import Derived.Test.YtkoohfkomlmhoacDoorProg
import Derived.Test.YtkoohfkomlmhoacDoorKLP18
import Derived.Test.YtkoohfkomlmhoacDoorKLP02
namespace Go.Proofs.YtkoohfkomlmhoacDoor
open Go.Deep Go.RowKit
set_option linter.unusedVariables false
set_option maxRecDepth 20000

/-- One block alone has turned, which is none of the row's and of its items'. -/
theorem KInv.but1 {T B c : Nat} {w w' : World} {v : Value} {L : List It} (h : KInv T B w v L) (hc : v.ownBlock ≠ some c) (hoff : ∀ it, it ∈ L → FOff c it.2.2.2) (hb : ∀ b, b < w.heap.size → b ≠ c → w'.heap[b]? = w.heap[b]?) : KInv T B w' v L := by
  refine ⟨fun it hi => ?_, ?_⟩
  · obtain ⟨h1, h2, h3, h4⟩ := h.each it hi
    exact ⟨TIn.but hb (hoff it hi) h1, h2, FPlain.but hb (hoff it hi) h3, h4⟩
  · exact ownsN_block h.row fun g hg => hb g (ownBlockN_lt h.row hg).2 (fun e => hc (by rw [hg, e]))

def updV {α : Type} (f : Nat → α) (p : Nat) (x : α) : Nat → α := fun m => if m = p then x else f m
theorem updV_same {α : Type} (f : Nat → α) (p : Nat) (x : α) : updV f p x p = x := by simp [updV]
theorem updV_other {α : Type} (f : Nat → α) {p m : Nat} (x : α) (h : m ≠ p) : updV f p x m = f m := by simp [updV, h]

structure GInv (T n i g : Nat) (wr : World) (lab : Nat → ByteArray) (vv : Nat → Value) (K : Nat → List It) : Prop where
  arr : ∃ cs : Array Value, wr.heap[g]? = some (.cells cs T (0, 0)) ∧ ∀ m, m < n → cs[m * 2]? = some (.string (lab m)) ∧ cs[m * 2 + 1]? = some (vv m)
  rows : ∀ m, i ≤ m → m < n → KInv T (g + 1) wr (vv m) (K m)
  apart : ∀ m m', i ≤ m → m < n → i ≤ m' → m' < n → m ≠ m' → ∀ b, (vv m).ownBlock = some b → (vv m').ownBlock ≠ some b
  offs : ∀ m m', i ≤ m → m < n → i ≤ m' → m' < n → m ≠ m' → ∀ it, it ∈ K m → ∀ b, (vv m').ownBlock = some b → FOff b it.2.2.2

theorem GInv.cells {T n i g : Nat} {wr : World} {lab : Nat → ByteArray} {vv : Nat → Value} {K : Nat → List It} (h : GInv T n i g wr lab vv K) {m : Nat} (hm : m < n) :
    wr.cell? ⟨g, m * 2, none⟩ = some (.string (lab m)) ∧ wr.cell? ⟨g, m * 2 + 1, none⟩ = some (vv m) ∧ g < wr.heap.size ∧ ∀ o, wr.frozen? ⟨g, o, none⟩ = false := by
  obtain ⟨cs, h1, h2⟩ := h.arr
  refine ⟨by rw [cell_of_row _ _ _ _ _ _ h1]; exact (h2 m hm).1, by rw [cell_of_row _ _ _ _ _ _ h1]; exact (h2 m hm).2, ?_, fun o => by simp [World.frozen?, h1]⟩
  rcases Nat.lt_or_ge g wr.heap.size with h' | h'
  · exact h'
  · rw [Array.getElem?_eq_none h'] at h1; cases h1

theorem GInv.below {T n i g : Nat} {wr w' : World} {lab : Nat → ByteArray} {vv : Nat → Value} {K : Nat → List It} (h : GInv T n i g wr lab vv K) (hb : Below wr.heap.size wr w') : GInv T n i g w' lab vv K := by
  obtain ⟨cs, h1, h2⟩ := h.arr
  have hg : g < wr.heap.size := by
    rcases Nat.lt_or_ge g wr.heap.size with h' | h'
    · exact h'
    · rw [Array.getElem?_eq_none h'] at h1; cases h1
  exact ⟨⟨cs, by rw [hb.block g hg]; exact h1, h2⟩, fun m hm hm' => (h.rows m hm hm').but (g0 := g) (by omega) (fun b hb' _ => hb.block b hb'), h.apart, h.offs⟩

/-- A label is written. -/
theorem GInv.label {T n i g : Nat} {wr : World} {lab : Nat → ByteArray} {vv : Nat → Value} {K : Nat → List It} (h : GInv T n i g wr lab vv K) {j : Nat} (hj : j < n) (x : ByteArray) : GInv T n i g (wr.setCell ⟨g, j * 2, none⟩ (.string x)) (updV lab j x) vv K := by
  obtain ⟨cs, h1, h2⟩ := h.arr
  refine ⟨⟨cs.setIfInBounds (j * 2) (.string x), by simp [World.setCell, Array.getElem?_modify, h1], fun m hm => ?_⟩, fun m hm hm' => (h.rows m hm hm').but (g0 := g) (by omega) (fun b hb' hne => Below.heap_setCell _ _ _ _ hne), h.apart, h.offs⟩
  have hsz : j * 2 < cs.size := by
    have := (h2 j hj).1
    rcases Nat.lt_or_ge (j * 2) cs.size with h' | h'
    · exact h'
    · rw [Array.getElem?_eq_none h'] at this; cases this
  rw [Array.getElem?_setIfInBounds, Array.getElem?_setIfInBounds]
  rw [if_neg (show ¬ j * 2 = m * 2 + 1 by omega)]
  by_cases hmj : m = j
  · subst hmj
    rw [if_pos rfl, if_pos hsz, updV_same]
    exact ⟨rfl, (h2 m hm).2⟩
  · rw [if_neg (by omega), updV_other _ _ hmj]
    exact h2 m hm

/-- A tree more stands beneath its parent; its own row is no more one of the rows. -/
theorem GInv.push {T n i g p : Nat} {w w3 : World} {lab : Nat → ByteArray} {vv : Nat → Value} {K : Nat → List It} (h : GInv T n i g w lab vv K) (hip : i < p) (hp : p < n) (hls : (lab i).size ≤ maxLen) {ob : Obj} {g' cap2 : Nat} {ka : Option Addr} {cap : Nat} {k' : Fo}
    (hvi : vv i = .slice ka (flen k') cap) (hl : flen k' ≤ cap) (hc : cap ≤ maxLen) (hk : KIn w ka k') (hfr : FFrom (g + 1) k') (hpl : FPlain w k') (hoffk : ∀ c, (vv i).ownBlock ≠ some c → (∀ it, it ∈ K i → FOff c it.2.2.2) → FOff c k')
    (hown : w3.ownsRow (g + 1) T 2 (.slice (some ⟨g', 0, none⟩) ((K p).length + 1) cap2) ((K p).length + 1) (rowCells (K p) ++ itCells (lab i, ka, cap, k'))) (hgrow : (w.alloc ob).grownBy w3 (vv p).ownBlock) (hat : (vv p).ownBlock = some g' ∨ g' = w.heap.size + 1) :
    GInv T n (i + 1) g (w3.setCell ⟨g, p * 2 + 1, none⟩ (.slice (some ⟨g', 0, none⟩) ((K p).length + 1) cap2)) lab (updV vv p (.slice (some ⟨g', 0, none⟩) ((K p).length + 1) cap2)) (updV K p (K p ++ [(lab i, ka, cap, k')])) := by
  obtain ⟨cs, h1, h2⟩ := h.arr
  have hg : g < w.heap.size := (h.cells hp).2.2.1
  have hrow := fun m (hm : i ≤ m) (hm' : m < n) => h.rows m hm hm'
  have own_lt : ∀ m, i ≤ m → m < n → ∀ b, (vv m).ownBlock = some b → g + 1 ≤ b ∧ b < w.heap.size := fun m hm hm' b hb => ownBlockN_lt (hrow m hm hm').row hb
  have hsame : ∀ b, b < w.heap.size → some b ≠ (vv p).ownBlock → w3.heap[b]? = w.heap[b]? := fun b hlt hne => by
    rw [hgrow.block b (by simp; omega) hne, Below.heap_alloc _ _ _ hlt]
  have hT : TIn w (lab i) ka cap k' := ⟨hls, hl, hc, hk⟩
  have hoffp : ∀ g0, (vv p).ownBlock = some g0 → FOff g0 k' := fun g0 hg0 =>
    hoffk g0 (fun e => h.apart i p (Nat.le_refl _) (by omega) (by omega) hp (by omega) g0 e hg0) (fun it hit => h.offs i p (Nat.le_refl _) (by omega) (by omega) hp (by omega) it hit g0 hg0)
  have hKp := (hrow p (by omega) hp).step hT hpl hfr hoffp hown hgrow hat
  have hg3 : w3.heap[g]? = some (.cells cs T (0, 0)) := by
    rw [hsame g hg (fun e => by have := (own_lt p (by omega) hp g e.symm).1; omega)]
    exact h1
  have setO : ∀ b, b ≠ g → (w3.setCell ⟨g, p * 2 + 1, none⟩ (.slice (some ⟨g', 0, none⟩) ((K p).length + 1) cap2)).heap[b]? = w3.heap[b]? := fun b hb => Below.heap_setCell _ _ _ _ hb
  have hoffm : ∀ m, i + 1 ≤ m → m < n → m ≠ p → ∀ it, it ∈ K m → FOff g' it.2.2.2 := fun m hm hm' hmp it hit => by
    rcases hat with e | e
    · exact h.offs m p (by omega) hm' (by omega) hp hmp it hit g' e
    · exact ((hrow m (by omega) hm').each it hit).1.kids.off (by omega)
  refine ⟨⟨cs.setIfInBounds (p * 2 + 1) (.slice (some ⟨g', 0, none⟩) ((K p).length + 1) cap2), by simp [World.setCell, Array.getElem?_modify, hg3], fun m hm => ?_⟩, fun m hm hm' => ?_, fun m m' hm hm2 hm' hm2' hne b hb => ?_, fun m m' hm hm2 hm' hm2' hne it hit b hb => ?_⟩
  · have hsz : p * 2 + 1 < cs.size := by
      have := (h2 p hp).2
      rcases Nat.lt_or_ge (p * 2 + 1) cs.size with h' | h'
      · exact h'
      · rw [Array.getElem?_eq_none h'] at this; cases this
    rw [Array.getElem?_setIfInBounds, Array.getElem?_setIfInBounds]
    rw [if_neg (show ¬ p * 2 + 1 = m * 2 by omega)]
    by_cases hmp : m = p
    · subst hmp
      rw [if_pos rfl, if_pos hsz, updV_same]
      exact ⟨(h2 m hm).1, rfl⟩
    · rw [if_neg (by omega), updV_other _ _ hmp]
      exact h2 m hm
  · by_cases hmp : m = p
    · subst hmp
      rw [updV_same, updV_same]
      exact hKp.but (g0 := g) (by omega) (fun b _ hb => setO b hb)
    · rw [updV_other _ _ hmp, updV_other _ _ hmp]
      have hk3 : KInv T (g + 1) w3 (vv m) (K m) := by
        cases hvp : (vv p).ownBlock with
        | none => exact (hrow m (by omega) hm').but1 (c := w.heap.size) (fun e => by have := (own_lt m (by omega) hm' _ e).2; omega) (fun it hit => ((hrow m (by omega) hm').each it hit).1.kids.off (Nat.le_refl _)) (fun b hb _ => hsame b hb (by rw [hvp]; simp))
        | some c => exact (hrow m (by omega) hm').but1 (c := c) (fun e => h.apart m p (by omega) hm' (by omega) hp hmp c e hvp) (fun it hit => h.offs m p (by omega) hm' (by omega) hp hmp it hit c hvp) (fun b hb hne => hsame b hb (by rw [hvp]; simpa using hne))
      exact hk3.but (g0 := g) (by omega) (fun b _ hb => setO b hb)
  · intro hb'
    by_cases hmp : m = p
    · subst hmp
      rw [updV_same] at hb
      rw [updV_other _ _ (Ne.symm hne)] at hb'
      simp only [Value.ownBlock, Option.some.injEq] at hb
      subst hb
      rcases hat with e | e
      · exact h.apart m m' (by omega) hm2 (by omega) hm2' hne _ e hb'
      · have := (own_lt m' (by omega) hm2' _ hb').2
        omega
    · rw [updV_other _ _ hmp] at hb
      by_cases hmp' : m' = p
      · subst hmp'
        rw [updV_same] at hb'
        simp only [Value.ownBlock, Option.some.injEq] at hb'
        subst hb'
        rcases hat with e | e
        · exact h.apart m m' (by omega) hm2 (by omega) hm2' hne _ hb e
        · have := (own_lt m (by omega) hm2 _ hb).2
          omega
      · rw [updV_other _ _ hmp'] at hb'
        exact h.apart m m' (by omega) hm2 (by omega) hm2' hne b hb hb'
  · by_cases hmp' : m' = p
    · subst hmp'
      rw [updV_same] at hb
      rw [updV_other _ _ hne] at hit
      simp only [Value.ownBlock, Option.some.injEq] at hb
      subst hb
      exact hoffm m hm hm2 hne it hit
    · rw [updV_other _ _ hmp'] at hb
      by_cases hmp : m = p
      · subst hmp
        rw [updV_same] at hit
        rcases List.mem_append.1 hit with hit | hit
        · exact h.offs m m' (by omega) hm2 (by omega) hm2' hne it hit b hb
        · have : it = (lab i, ka, cap, k') := by simpa using hit
          subst this
          exact hoffk b (fun e => h.apart i m' (Nat.le_refl _) (by omega) (by omega) hm2' (by omega) b e hb) (fun it hit => h.offs i m' (Nat.le_refl _) (by omega) (by omega) hm2' (by omega) it hit b hb)
      · rw [updV_other _ _ hmp] at hit
        exact h.offs m m' (by omega) hm2 (by omega) hm2' hne it hit b hb

end Go.Proofs.YtkoohfkomlmhoacDoor
namespace Go.Proofs.YtkoohfkomlmhoacDoor.Deed
open Go.Deep Go.RowKit
set_option linter.unusedVariables false
set_option maxRecDepth 20000

def ftake : Nat → Fo → Fo
  | 0, _ => .nil
  | _ + 1, .nil => .nil
  | n + 1, .node b o x k r => .node b o x k (ftake n r)
theorem FIn.take {w : World} : ∀ (n : Nat) {f : Fo} {b o : Nat}, FIn w f b o → FIn w (ftake n f) b o
  | 0, _, _, _, _ => trivial
  | _ + 1, .nil, _, _, _ => trivial
  | n + 1, .node _ _ _ _ r, b, o, ⟨h1, h2, h3, h4, h5, h6, h7, h8, h9⟩ => ⟨h1, h2, h3, h4, h5, h6, h7, h8, FIn.take n h9⟩
/-- What is done at the end of a rest of the path. -/
def doneR (d : Dd) (rest : List Int) : Op := if d.kind = 1 then modP (namOp d.lab) (nats rest) else if d.kind = 2 then modP (delOp (nats rest).getLast!) (nats rest).dropLast else modP (insOp d.pos.toNat d.many.toNat d.lab) (nats rest)
/-- One tree of a list of one's own gives its place to another one. -/
theorem KInv.put {T B : Nat} {w : World} {g n cap p : Nat} {L : List It} {x : It} (h : KInv T B w (.slice (some ⟨g, 0, none⟩) n cap) L) (hn : L.length = n) (hp : p < n) (hx : ItIn w x) (hf : FFrom B x.2.2.2) (hq : FPlain w x.2.2.2) (ho : FOff g x.2.2.2) :
    KInv T B ((w.setCell ⟨g, p * 2, none⟩ (.string x.1)).setCell ⟨g, p * 2 + 1, none⟩ (.slice x.2.1 (flen x.2.2.2) x.2.2.1)) (.slice (some ⟨g, 0, none⟩) n cap) (L.set p x) := by
  subst hn
  have hbut := set2_but w g (p * 2) (p * 2 + 1) (.string x.1) (.slice x.2.1 (flen x.2.2.2) x.2.2.1)
  refine ⟨fun it hi => ?_, ?_⟩
  · rcases List.mem_or_eq_of_mem_set hi with hi | rfl
    · obtain ⟨h1, h2, h3, h4⟩ := h.each it hi
      have h5 := h4 g rfl
      exact ⟨TIn.but hbut h5 h1, h2, FPlain.but hbut h5 h3, h4⟩
    · refine ⟨TIn.but hbut ho hx, hf, FPlain.but hbut ho hq, fun g' hg' => ?_⟩
      simp only [Value.ownBlock, Option.some.injEq] at hg'
      subst hg'
      exact ho
  · have hr := own_setN (Value.slice x.2.1 (flen x.2.2.2) x.2.2.1) (own_setN (Value.string x.1) h.row (j := p * 2) (by omega)) (j := p * 2 + 1) (by omega)
    have e : ((rowCells L).set (p * 2) (.string x.1)).set (p * 2 + 1) (.slice x.2.1 (flen x.2.2.2) x.2.2.1) = rowCells (L.set p x) := by
      clear hr hbut h hx hf hq ho
      induction L generalizing p with
      | nil => simp at hp
      | cons a L ih =>
        cases p with
        | zero => simp [rowCells, itCells]
        | succ p =>
          have := ih (p := p) (by simpa using hp)
          rw [show (p + 1) * 2 = p * 2 + 2 by omega]
          simpa [rowCells, itCells] using this
    rw [e] at hr
    rw [List.length_set]
    exact hr
/-- A list of one's own, and another one behind. -/
theorem KInv.join {T B : Nat} {w1 w3 : World} {v : Value} {L L2 : List It} {g cap : Nat} (h : KInv T B w1 v L) (h2 : ∀ it, it ∈ L2 → ItIn w1 it ∧ FFrom B it.2.2.2 ∧ FPlain w1 it.2.2.2 ∧ ∀ g, v.ownBlock = some g → FOff g it.2.2.2)
    (hown : w3.ownsRow B T 2 (.slice (some ⟨g, 0, none⟩) (L.length + L2.length) cap) (L.length + L2.length) (rowCells L ++ rowCells L2)) (hgrow : w1.grownBy w3 v.ownBlock) (hat : v.ownBlock = some g ∨ g = w1.heap.size) :
    KInv T B w3 (.slice (some ⟨g, 0, none⟩) (L.length + L2.length) cap) (L ++ L2) := by
  have hsame : ∀ b, b < w1.heap.size → some b ≠ v.ownBlock → w3.heap[b]? = w1.heap[b]? := fun b hlt hne => hgrow.block b hlt hne
  have keep : ∀ it : It, (ItIn w1 it ∧ FFrom B it.2.2.2 ∧ FPlain w1 it.2.2.2 ∧ ∀ g, v.ownBlock = some g → FOff g it.2.2.2) → ItIn w3 it ∧ FFrom B it.2.2.2 ∧ FPlain w3 it.2.2.2 ∧ ∀ g', (Value.slice (some ⟨g, 0, none⟩) (L.length + L2.length) cap).ownBlock = some g' → FOff g' it.2.2.2 := fun it ⟨hi, hf, hq, hoff⟩ => by
    refine ⟨?_, hf, ?_, fun g' hg' => ?_⟩
    · cases hv : v.ownBlock with
      | none => exact TIn.but (g := w1.heap.size) (fun b hlt _ => hsame b hlt (by rw [hv]; simp)) (hi.kids.off (Nat.le_refl _)) hi
      | some g0 => exact TIn.but (g := g0) (fun b hlt hne => hsame b hlt (by rw [hv]; simpa using hne)) (hoff g0 hv) hi
    · cases hv : v.ownBlock with
      | none => exact FPlain.but (g := w1.heap.size) (fun b hlt _ => hsame b hlt (by rw [hv]; simp)) (hi.kids.off (Nat.le_refl _)) hq
      | some g0 => exact FPlain.but (g := g0) (fun b hlt hne => hsame b hlt (by rw [hv]; simpa using hne)) (hoff g0 hv) hq
    · simp only [Value.ownBlock, Option.some.injEq] at hg'
      subst hg'
      rcases hat with hat | hat
      · exact hoff _ hat
      · exact hi.kids.off (by omega)
  have rc : ∀ a b : List It, rowCells (a ++ b) = rowCells a ++ rowCells b := fun a b => by
    induction a with
    | nil => rfl
    | cons x a ih => simp [rowCells, ih]
  refine ⟨fun it hi => ?_, by rw [rc, List.length_append]; exact hown⟩
  rcases List.mem_append.1 hi with hi | hi
  · exact keep it (h.each it hi)
  · exact keep it (h2 it hi)
theorem KInv.below {T B : Nat} {w w' : World} {v : Value} {L : List It} (h : KInv T B w v L) (hb : Below w.heap.size w w') : KInv T B w' v L :=
  ⟨fun it hi => ⟨TIn.below hb (h.each it hi).1, (h.each it hi).2.1, (h.each it hi).2.2.1.below hb, (h.each it hi).2.2.2⟩, ownsRow_below h.row hb⟩
end Go.Proofs.YtkoohfkomlmhoacDoor.Deed
