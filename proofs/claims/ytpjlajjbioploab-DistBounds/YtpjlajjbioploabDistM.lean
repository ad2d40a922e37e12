/- A table of two trees' nodes and of what their parts cost, in memory. Of the program's types. -/
import Derived.Test.YtpjlajjbioploabProg
import Derived.Test.YtpjlajjbioploabDistR
import Derived.Test.YtpjlajjbioploabOrdM
import Derived.Deep.OwnRows
namespace Go.Proofs.Ytpjlajjbioploab.Dist
open Go.Deep Go.RowKit
set_option linter.unusedVariables false
set_option maxRecDepth 20000

/-- Rows of numbers, one block each, behind the block of the rows themselves. -/
structure GridIn (w : World) (g n m : Nat) (f : Nat → Nat → Nat) : Prop where
  head : w.rowIs g 51 n (fun i => .slice (some ⟨g + 1 + i, 0, none⟩) m m)
  rows : ∀ i, i < n → w.rowIs (g + 1 + i) 3 m (fun j => .int .i64 (f i j : Int))

def upd (f : Nat → Nat → Nat) (i j v : Nat) : Nat → Nat → Nat := fun a b => if a = i ∧ b = j then v else f a b
theorem upd_same (f : Nat → Nat → Nat) (i j v : Nat) : upd f i j v i j = v := by simp [upd]
theorem upd_other {f : Nat → Nat → Nat} {i j v a b : Nat} (h : ¬ (a = i ∧ b = j)) : upd f i j v a b = f a b := by simp [upd, h]

namespace GridIn
variable {w w' : World} {g n m : Nat} {f h : Nat → Nat → Nat}
theorem lt (hg : GridIn w g n m f) : g < w.heap.size := hg.head.lt
theorem lt_row (hg : GridIn w g n m f) {i : Nat} (hi : i < n) : g + 1 + i < w.heap.size := (hg.rows i hi).lt
theorem cell (hg : GridIn w g n m f) {i : Nat} (hi : i < n) : w.cell? ⟨g, i, none⟩ = some (.slice (some ⟨g + 1 + i, 0, none⟩) m m) := hg.head.cell hi
theorem num (hg : GridIn w g n m f) {i j : Nat} (hi : i < n) (hj : j < m) : w.cell? ⟨g + 1 + i, j, none⟩ = some (.int .i64 (f i j : Int)) := (hg.rows i hi).cell hj
theorem frozen (hg : GridIn w g n m f) {i : Nat} (hi : i < n) (j : Nat) : w.frozen? ⟨g + 1 + i, j, none⟩ = false := (hg.rows i hi).frozen j
theorem of_blocks (hg : GridIn w g n m f) (e : ∀ b, g ≤ b → b ≤ g + n → w'.heap[b]? = w.heap[b]?) : GridIn w' g n m f :=
  ⟨hg.head.of_block (e g (Nat.le_refl _) (by omega)), fun i hi => (hg.rows i hi).of_block (e _ (by omega) (by omega))⟩
theorem below (hg : GridIn w g n m f) (hb : Below w.heap.size w w') : GridIn w' g n m f :=
  ⟨hg.head.of_block (hb.block _ hg.lt), fun i hi => (hg.rows i hi).of_block (hb.block _ (hg.lt_row hi))⟩
theorem congr (hg : GridIn w g n m f) (e : ∀ i j, i < n → j < m → f i j = h i j) : GridIn w g n m h :=
  ⟨hg.head, fun i hi => (hg.rows i hi).congr fun j hj => by rw [e i j hi hj]⟩
theorem set (hg : GridIn w g n m f) {i j : Nat} (hi : i < n) (v : Nat) : GridIn (w.setCell ⟨g + 1 + i, j, none⟩ (.int .i64 (v : Int))) g n m (upd f i j v) := by
  refine ⟨hg.head.setOther (by simp; omega) _, fun a ha => ?_⟩
  by_cases e : a = i
  · subst e
    refine ((hg.rows a ha).set j (.int .i64 (v : Int))).congr fun b hb => ?_
    by_cases e2 : b = j
    · subst e2
      rw [if_pos rfl, upd_same]
    · rw [if_neg e2, upd_other (fun h => e2 h.2)]
  · refine ((hg.rows a ha).setOther (by simp; omega) _).congr fun b hb => ?_
    rw [upd_other (fun h => e h.1)]
theorem setOther (hg : GridIn w g n m f) {a : Addr} (ha : a.block < g ∨ g + n < a.block) (v : Value) : GridIn (w.setCell a v) g n m f :=
  hg.of_blocks fun b h1 h2 => blk_setCell_other _ _ _ _ (by omega)
end GridIn

/-- A list of nodes that lies at a place. -/
def NAt (w : World) (b o : Nat) (L : List Nd) : Prop := ∀ (i : Nat) (x : Nd), L[i]? = some x → w.cell? ⟨b, o + i * 3, none⟩ = some (.string x.lab) ∧ w.cell? ⟨b, o + i * 3 + 1, none⟩ = some (.int .i64 x.par) ∧ w.cell? ⟨b, o + i * 3 + 2, none⟩ = some (.int .i64 x.left)
theorem NAt.of_block {w w' : World} {b o : Nat} {L : List Nd} (h : NAt w b o L) (e : w'.heap[b]? = w.heap[b]?) : NAt w' b o L := fun i x hx => by
  obtain ⟨h0, h1, h2⟩ := h i x hx
  exact ⟨by rw [World.cell?_of_block (w := w) e]; exact h0, by rw [World.cell?_of_block (w := w) e]; exact h1, by rw [World.cell?_of_block (w := w) e]; exact h2⟩

/-- Two lists of nodes and where they lie, and where the table and its rows do. -/
structure Tab where
  A : List Nd
  B : List Nd
  ba : Nat
  oa : Nat
  ca : Nat
  bb : Nat
  ob : Nat
  cb : Nat
  t : Nat
  g : Nat

/-- Nodes of a tree: numbers alone. -/
structure NOk (L : List Nd) : Prop where
  pos : 0 < L.length
  many : L.length ≤ 40
  post : Post (lefts L) L.length
  left : ∀ (i : Nat) (x : Nd), L[i]? = some x → 0 ≤ x.left ∧ x.left ≤ (i : Int)
  up : ∀ (i : Nat) (x : Nd), L[i]? = some x → x.par < 0 ∨ ∃ (p : Nat) (y : Nd), x.par = (p : Int) ∧ i < p ∧ L[p]? = some y ∧ y.left ≤ x.left
  next : ∀ (i j : Nat) (x y : Nd), L[i]? = some x → L[j]? = some y → i < j → y.left ≤ (i : Int) → ∃ p : Nat, x.par = (p : Int) ∧ p ≤ j
  small : ∀ x, x ∈ L → x.lab.size ≤ 6
  root : lefts L (L.length - 1) = 0

structure TabIn (w : World) (T : Tab) (f : Nat → Nat → Nat) : Prop where
  okA : NOk T.A
  okB : NOk T.B
  capA : T.A.length ≤ T.ca ∧ T.ca ≤ maxLen
  capB : T.B.length ≤ T.cb ∧ T.cb ≤ maxLen
  c0 : w.cell? ⟨T.t, 0, none⟩ = some (.slice (some ⟨T.ba, T.oa, none⟩) T.A.length T.ca)
  c1 : w.cell? ⟨T.t, 1, none⟩ = some (.slice (some ⟨T.bb, T.ob, none⟩) T.B.length T.cb)
  c2 : w.cell? ⟨T.t, 2, none⟩ = some (.slice (some ⟨T.g, 0, none⟩) T.A.length T.A.length)
  na : NAt w T.ba T.oa T.A
  nb : NAt w T.bb T.ob T.B
  grid : GridIn w T.g T.A.length T.B.length f
  ltA : T.ba < T.g
  ltB : T.bb < T.g
  ltT : T.g + T.A.length < T.t
  lt : T.t < w.heap.size

theorem TabIn.of_blocks {w w' : World} {T : Tab} {f : Nat → Nat → Nat} (h : TabIn w T f) (hs : w.heap.size ≤ w'.heap.size) (e : ∀ b, b ≤ T.t → w'.heap[b]? = w.heap[b]?) : TabIn w' T f := by
  have h1 := h.ltA
  have h2 := h.ltB
  have h3 := h.ltT
  have h4 := h.lt
  exact ⟨h.okA, h.okB, h.capA, h.capB, by rw [World.cell?_of_block (w := w) (e _ (Nat.le_refl _))]; exact h.c0, by rw [World.cell?_of_block (w := w) (e _ (Nat.le_refl _))]; exact h.c1, by rw [World.cell?_of_block (w := w) (e _ (Nat.le_refl _))]; exact h.c2,
    h.na.of_block (e _ (by omega)), h.nb.of_block (e _ (by omega)), h.grid.of_blocks (fun b _ hb => e b (by omega)), h1, h2, h3, by omega⟩
theorem TabIn.below {w w' : World} {T : Tab} {f : Nat → Nat → Nat} (h : TabIn w T f) (hb : Below w.heap.size w w') : TabIn w' T f := h.of_blocks hb.size fun b hb' => hb.block b (by have := h.lt; omega)
theorem TabIn.drewN {w : World} {T : Tab} {f : Nat → Nat → Nat} (h : TabIn w T f) (n : Nat) : TabIn (w.drewN n) T f := h.of_blocks (Nat.le_refl _) fun _ _ => rfl
theorem TabIn.set {w : World} {T : Tab} {f : Nat → Nat → Nat} (h : TabIn w T f) {i j : Nat} (hi : i < T.A.length) (v : Nat) : TabIn (w.setCell ⟨T.g + 1 + i, j, none⟩ (.int .i64 (v : Int))) T (upd f i j v) := by
  have h1 := h.ltA
  have h2 := h.ltB
  have h3 := h.ltT
  have h4 := h.lt
  have e : ∀ b, b ≠ T.g + 1 + i → (w.setCell ⟨T.g + 1 + i, j, none⟩ (.int .i64 (v : Int))).heap[b]? = w.heap[b]? := fun b hb => blk_setCell_other _ _ _ _ (by simpa using hb)
  exact ⟨h.okA, h.okB, h.capA, h.capB, by rw [World.cell?_of_block (w := w) (e _ (by simp; omega))]; exact h.c0, by rw [World.cell?_of_block (w := w) (e _ (by simp; omega))]; exact h.c1, by rw [World.cell?_of_block (w := w) (e _ (by simp; omega))]; exact h.c2,
    h.na.of_block (e _ (by omega)), h.nb.of_block (e _ (by omega)), h.grid.set hi v, h1, h2, h3, by simpa [World.setCell] using h4⟩
theorem TabIn.congr {w : World} {T : Tab} {f f' : Nat → Nat → Nat} (h : TabIn w T f) (e : ∀ i j, i < T.A.length → j < T.B.length → f i j = f' i j) : TabIn w T f' :=
  ⟨h.okA, h.okB, h.capA, h.capB, h.c0, h.c1, h.c2, h.na, h.nb, h.grid.congr e, h.ltA, h.ltB, h.ltT, h.lt⟩

/-- Where forests of a table lie, and where they begin. -/
structure Fst where
  p : Nat
  x : Nat
  y : Nat
  gc : Nat
  M : Nat
  N : Nat
structure ForIn (w : World) (T : Tab) (F : Fst) (h : Nat → Nat → Nat) : Prop where
  c0 : w.cell? ⟨F.p, 0, none⟩ = some (.pointer (some ⟨T.t, 0, none⟩))
  c1 : w.cell? ⟨F.p, 1, none⟩ = some (.int .i64 (F.x : Int))
  c2 : w.cell? ⟨F.p, 2, none⟩ = some (.int .i64 (F.y : Int))
  c3 : w.cell? ⟨F.p, 3, none⟩ = some (.slice (some ⟨F.gc, 0, none⟩) F.M F.M)
  grid : GridIn w F.gc F.M F.N h
  ltT : T.t < F.p
  ltG : F.p < F.gc
  inA : F.x + F.M ≤ T.A.length + 1
  inB : F.y + F.N ≤ T.B.length + 1

theorem ForIn.of_blocks {w w' : World} {T : Tab} {F : Fst} {h : Nat → Nat → Nat} (hf : ForIn w T F h) (e : ∀ b, T.t < b → b < w.heap.size → w'.heap[b]? = w.heap[b]?) : ForIn w' T F h := by
  have h1 := hf.ltT
  have h2 := hf.ltG
  have h3 := hf.grid.lt
  have ep := e F.p h1 (by omega)
  exact ⟨by rw [World.cell?_of_block (w := w) ep]; exact hf.c0, by rw [World.cell?_of_block (w := w) ep]; exact hf.c1, by rw [World.cell?_of_block (w := w) ep]; exact hf.c2, by rw [World.cell?_of_block (w := w) ep]; exact hf.c3,
    ⟨hf.grid.head.of_block (e _ (by omega) h3), fun i hi => (hf.grid.rows i hi).of_block (e _ (by omega) (hf.grid.lt_row hi))⟩, h1, h2, hf.inA, hf.inB⟩
theorem ForIn.below {w w' : World} {T : Tab} {F : Fst} {h : Nat → Nat → Nat} (hf : ForIn w T F h) (hb : Below w.heap.size w w') : ForIn w' T F h := hf.of_blocks fun b _ hb' => hb.block b hb'
theorem ForIn.drewN {w : World} {T : Tab} {F : Fst} {h : Nat → Nat → Nat} (hf : ForIn w T F h) (n : Nat) : ForIn (w.drewN n) T F h := hf.of_blocks fun _ _ _ => rfl

theorem left_at {L : List Nd} (h : NOk L) {i : Nat} (hi : i < L.length) : ∃ x, L[i]? = some x ∧ x.left = (lefts L i : Int) ∧ lefts L i ≤ i ∧ labs L i = x.lab := by
  obtain ⟨x, hx⟩ : ∃ x, L[i]? = some x := ⟨_, List.getElem?_eq_getElem hi⟩
  have := h.left i x hx
  refine ⟨x, hx, ?_, ?_, labs_at hx⟩
  · rw [lefts_at hx]; omega
  · rw [lefts_at hx]; omega
end Go.Proofs.Ytpjlajjbioploab.Dist
