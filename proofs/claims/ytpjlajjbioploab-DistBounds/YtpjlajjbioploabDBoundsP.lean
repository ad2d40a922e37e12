/- How far apart two trees can be: numbers alone. Of no program. -/
import Derived.Test.YtpjlajjbioploabDFace
namespace Go.Proofs.Ytpjlajjbioploab.Dist
open Go.Deep Go.RowKit
set_option linter.unusedVariables false
set_option maxRecDepth 20000

/-- How many of the first nodes have a label that is more often there than in the other tree. -/
def mr (A B : List Nd) (i : Nat) : Nat := cnt (fun u => decide (oft (labs B) (labs A u) B.length < oft (labs A) (labs A u) (u + 1))) 0 i
structure BnOk (A B : List Nd) (c : Nat) : Prop where
  lo1 : A.length ≤ c + B.length
  lo2 : B.length ≤ c + A.length
  hi : c ≤ A.length + B.length
  more : mr A B A.length ≤ c
theorem bnOk (s t : ByteArray) (k l : Fo) : BnOk (ndT 0 s k (-1)) (ndT 0 t l (-1)) (costP (ndT 0 s k (-1)) (ndT 0 t l (-1))) := by
  have h := costP_bounds s t k l
  have hm := costP_more s t k l
  have e1 := ndT_length 0 s k (-1)
  have e2 := ndT_length 0 t l (-1)
  refine ⟨by omega, by omega, by omega, ?_⟩
  unfold mr
  rw [e1, e2]
  exact hm
theorem mr_succ (A B : List Nd) (i : Nat) : mr A B (i + 1) = mr A B i + (if oft (labs B) (labs A i) B.length < oft (labs A) (labs A i) (i + 1) then 1 else 0) := by
  unfold mr
  show cnt _ 0 i + _ = _
  by_cases h : oft (labs B) (labs A i) B.length < oft (labs A) (labs A i) (i + 1)
  · rw [if_pos h, if_pos ⟨Nat.zero_le _, decide_eq_true h⟩]
  · rw [if_neg h, if_neg (fun e => h (of_decide_eq_true e.2))]
theorem mr_le (A B : List Nd) (i : Nat) : mr A B i ≤ i := by
  have := cnt_le (fun u => decide (oft (labs B) (labs A u) B.length < oft (labs A) (labs A u) (u + 1))) 0 i
  unfold mr
  omega
theorem oft_le (f : Nat → ByteArray) (x : ByteArray) (i : Nat) : oft f x i ≤ i := by
  have := cnt_le (fun u => decide (f u = x)) 0 i
  unfold oft
  omega
/-- As far as j, but no further than i. -/
def ofm (A : List Nd) (i j : Nat) : Nat := oft (labs A) (labs A i) (min j (i + 1))
theorem ofm_le (A : List Nd) (i j : Nat) : ofm A i j ≤ j := by
  have := oft_le (labs A) (labs A i) (min j (i + 1))
  unfold ofm
  omega
theorem ofm_in {A : List Nd} {i j : Nat} (h : labs A j = labs A i) (hj : j ≤ i) : ofm A i (j + 1) = ofm A i j + 1 := by
  unfold ofm
  rw [show min (j + 1) (i + 1) = j + 1 by omega, show min j (i + 1) = j by omega, oft_succ, if_pos h]
theorem ofm_other {A : List Nd} {i j : Nat} (h : labs A j ≠ labs A i) : ofm A i (j + 1) = ofm A i j := by
  unfold ofm
  by_cases hj : j ≤ i
  · rw [show min (j + 1) (i + 1) = j + 1 by omega, show min j (i + 1) = j by omega, oft_succ, if_neg h, Nat.add_zero]
  · rw [show min (j + 1) (i + 1) = i + 1 by omega, show min j (i + 1) = i + 1 by omega]
theorem ofm_past {A : List Nd} {i j : Nat} (hj : ¬ j ≤ i) : ofm A i (j + 1) = ofm A i j := by
  unfold ofm
  rw [show min (j + 1) (i + 1) = i + 1 by omega, show min j (i + 1) = i + 1 by omega]
theorem ofm_end {A : List Nd} {i j : Nat} (hj : i < j) : ofm A i j = oft (labs A) (labs A i) (i + 1) := by
  unfold ofm
  rw [show min j (i + 1) = i + 1 by omega]
theorem ofm_zero (A : List Nd) (i : Nat) : ofm A i 0 = 0 := by
  have := ofm_le A i 0
  omega
/-- What the loops of DistBounds keep. -/
structure BnInv (W : World) (A B : List Nd) (g1 g2 : Nat) (wr : World) : Prop where
  below : Below W.heap.size W wr
  na : NAt wr g1 0 A
  nb : NAt wr g2 0 B
  lt1 : g1 < W.heap.size
  lt2 : g2 < W.heap.size
theorem BnInv.on {W wr wr' : World} {A B : List Nd} {g1 g2 : Nat} (h : BnInv W A B g1 g2 wr) (hb : Below wr.heap.size wr wr') : BnInv W A B g1 g2 wr' := by
  have hs := h.below.size
  have h1 := h.lt1
  have h2 := h.lt2
  exact ⟨h.below.trans (hb.mono hs), h.na.of_block (hb.block _ (by omega)), h.nb.of_block (hb.block _ (by omega)), h1, h2⟩
theorem NAt.lab {w : World} {g : Nat} {A : List Nd} (h : NAt w g 0 A) (hA : NOk A) {i : Nat} (hi : i < A.length) : w.cell? ⟨g, i * 3, none⟩ = some (.string (labs A i)) := by
  obtain ⟨x, hx, _, _, hlab⟩ := left_at hA hi
  obtain ⟨c0, _, _⟩ := h i x hx
  rw [hlab]
  simpa using c0
end Go.Proofs.Ytpjlajjbioploab.Dist
