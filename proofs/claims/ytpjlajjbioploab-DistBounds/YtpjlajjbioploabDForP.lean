/- What least tells, cell by cell, is the least cost of forests. Of no program. -/
import Derived.Test.YtpjlajjbioploabDLeast
import Derived.Test.YtpjlajjbioploabDistS
namespace Go.Proofs.Ytpjlajjbioploab.Dist
open Go.Deep Go.RowKit
set_option linter.unusedVariables false
set_option maxRecDepth 20000

/-- Forests of m and n nodes that begin where the trees that i and j head do. -/
def DV (A B : List Nd) (i j : Nat) (m n : Nat) : Nat := D (lefts A) (lefts B) (other A B) (lefts A i) (lefts A i + m) (lefts B j) (lefts B j + n)
def filled (g : Nat → Nat → Nat) (m n : Nat) : Nat → Nat → Nat := fun a b => if a < m ∨ (a = m ∧ b < n) then g a b else 0
theorem filled_in {g : Nat → Nat → Nat} {m n a b : Nat} (h : a < m ∨ (a = m ∧ b < n)) : filled g m n a b = g a b := if_pos h
theorem filled_zero (g : Nat → Nat → Nat) (a b : Nat) : filled g 0 0 a b = 0 := if_neg (by omega)
theorem filled_put (g : Nat → Nat → Nat) (m n a b : Nat) : upd (filled g m n) m n (g m n) a b = filled g m (n + 1) a b := by
  unfold upd
  by_cases e : a = m ∧ b = n
  · rw [if_pos e, e.1, e.2, filled_in (Or.inr ⟨rfl, by omega⟩)]
  · rw [if_neg e]
    unfold filled
    by_cases e2 : a < m ∨ (a = m ∧ b < n)
    · rw [if_pos e2, if_pos (by omega)]
    · rw [if_neg e2, if_neg (by omega)]
theorem filled_line (g : Nat → Nat → Nat) (m N a b : Nat) (hb : b < N) : filled g m N a b = filled g (m + 1) 0 a b := by
  unfold filled
  by_cases e : a < m ∨ (a = m ∧ b < N)
  · rw [if_pos e, if_pos (by omega)]
  · rw [if_neg e, if_neg (by omega)]
theorem filled_all (g : Nat → Nat → Nat) (M a b : Nat) (ha : a < M) : filled g M 0 a b = g a b := filled_in (Or.inl ha)

/-- The forests that end with the trees that i and j head. -/
def Fst.of (A B : List Nd) (i j p : Nat) : Fst := ⟨p, lefts A i, lefts B j, p + 1, i - lefts A i + 2, j - lefts B j + 2⟩

section
variable {A B : List Nd} {i j : Nat}
theorem DV_le (hA : NOk A) (hB : NOk B) (hi : i < A.length) (hj : j < B.length) {m n : Nat} (hm : m < i - lefts A i + 2) (hn : n < j - lefts B j + 2) : DV A B i j m n ≤ m + n := by
  have h1 := hA.post.le i hi
  have h2 := hB.post.le j hj
  have fa : Frst (lefts A) (lefts A i) (i + 1) := by simpa using Frst.tree hA.post (i := i + 1) (by omega) (by omega)
  have fb : Frst (lefts B) (lefts B j) (j + 1) := by simpa using Frst.tree hB.post (i := j + 1) (by omega) (by omega)
  have := (D_bounds hA.post hB.post (other_le A B) _ (lefts A i) (lefts A i + m) (lefts B j) (lefts B j + n) (Nat.lt_succ_self _) (by omega) (by omega) (fa.less (by omega)) (fb.less (by omega))).2.2
  unfold DV
  omega
theorem filled_le (hA : NOk A) (hB : NOk B) (hi : i < A.length) (hj : j < B.length) {m n a b : Nat} (ha : a < i - lefts A i + 2) (hb : b < j - lefts B j + 2) : filled (DV A B i j) m n a b ≤ 1000 := by
  have hA4 := hA.many
  have hB4 := hB.many
  unfold filled
  split
  · have := DV_le hA hB hi hj ha hb
    omega
  · omega
theorem forOk (T : Tab) (f : Nat → Nat → Nat) {i j p m n : Nat} (hA : NOk T.A) (hB : NOk T.B) (hi : i < T.A.length) (hj : j < T.B.length) (hs : ∀ a b, a < T.A.length → b < T.B.length → f a b ≤ 1000) : ForOk T (Fst.of T.A T.B i j p) f (filled (DV T.A T.B i j) m n) := by
  have h1 := hA.post.le i hi
  have h2 := hB.post.le j hj
  have fa : Frst (lefts T.A) (lefts T.A i) (i + 1) := by simpa using Frst.tree hA.post (i := i + 1) (by omega) (by omega)
  have fb : Frst (lefts T.B) (lefts T.B j) (j + 1) := by simpa using Frst.tree hB.post (i := j + 1) (by omega) (by omega)
  refine ⟨fa.less ?_, fb.less ?_, hs, fun a b ha hb => filled_le hA hB hi hj ha hb⟩
  · simp only [Fst.of]; omega
  · simp only [Fst.of]; omega
theorem lst_is (T : Tab) (f : Nat → Nat → Nat) {i j p m n : Nat} (hA : NOk T.A) (hB : NOk T.B) (hi : i < T.A.length) (hj : j < T.B.length) (hN : Needs T.A T.B f i j) (hm : m < i - lefts T.A i + 2) (hn : n < j - lefts T.B j + 2) :
    lst T (Fst.of T.A T.B i j p) f (filled (DV T.A T.B i j) m n) m n = DV T.A T.B i j m n := by
  have h1 := hA.post.le i hi
  have h2 := hB.post.le j hj
  have fa : Frst (lefts T.A) (lefts T.A i) (i + 1) := by simpa using Frst.tree hA.post (i := i + 1) (by omega) (by omega)
  have fb : Frst (lefts T.B) (lefts T.B j) (j + 1) := by simpa using Frst.tree hB.post (i := j + 1) (by omega) (by omega)
  unfold lst
  by_cases e0 : m = 0 ∨ n = 0
  · rw [if_pos e0]
    unfold DV
    rcases e0 with rfl | rfl
    · rw [D_left (by omega)]
      omega
    · rw [D_right (by omega)]
      omega
  · rw [if_neg e0]
    have hd := D_together (c := other T.A T.B) hA.post hB.post (i0 := lefts T.A i) (i := lefts T.A i + m) (j0 := lefts T.B j) (j := lefts T.B j + n) (by omega) (by omega) (fa.less (by omega)) (fb.less (by omega)) (by omega) (by omega)
    have la := fa (lefts T.A i + m - 1) (by omega) (by omega)
    have lb := fb (lefts T.B j + n - 1) (by omega) (by omega)
    have la2 := hA.post.le (lefts T.A i + m - 1) (by omega)
    have lb2 := hB.post.le (lefts T.B j + n - 1) (by omega)
    rw [filled_in (a := m - 1) (b := n) (Or.inl (by omega)), filled_in (a := m) (b := n - 1) (Or.inr ⟨rfl, by omega⟩)]
    have ht : tog T (Fst.of T.A T.B i j p) f (filled (DV T.A T.B i j) m n) m n = (if lefts T.A (lefts T.A i + m - 1) = lefts T.A i ∧ lefts T.B (lefts T.B j + n - 1) = lefts T.B j then D (lefts T.A) (lefts T.B) (other T.A T.B) (lefts T.A i) (lefts T.A i + m - 1) (lefts T.B j) (lefts T.B j + n - 1) + other T.A T.B (lefts T.A i + m - 1) (lefts T.B j + n - 1) else D (lefts T.A) (lefts T.B) (other T.A T.B) (lefts T.A i) (lefts T.A (lefts T.A i + m - 1)) (lefts T.B j) (lefts T.B (lefts T.B j + n - 1)) + D (lefts T.A) (lefts T.B) (other T.A T.B) (lefts T.A (lefts T.A i + m - 1)) (lefts T.A i + m) (lefts T.B (lefts T.B j + n - 1)) (lefts T.B j + n)) := by
      unfold tog
      by_cases e : lefts T.A (lefts T.A i + m - 1) = lefts T.A i ∧ lefts T.B (lefts T.B j + n - 1) = lefts T.B j
      · refine (if_pos e).trans ?_
        rw [if_pos e]
        show filled (DV T.A T.B i j) m n (m - 1) (n - 1) + other T.A T.B (lefts T.A i + m - 1) (lefts T.B j + n - 1) = _
        rw [filled_in (Or.inl (by omega))]
        unfold DV
        rw [show lefts T.A i + (m - 1) = lefts T.A i + m - 1 by omega, show lefts T.B j + (n - 1) = lefts T.B j + n - 1 by omega]
      · refine (if_neg e).trans ?_
        rw [if_neg e]
        show filled (DV T.A T.B i j) m n (lefts T.A (lefts T.A i + m - 1) - lefts T.A i) (lefts T.B (lefts T.B j + n - 1) - lefts T.B j) + f (lefts T.A i + m - 1) (lefts T.B j + n - 1) = _
        rw [filled_in (Or.inl (by omega)), hN _ _ (by omega) (by omega) (by omega) (by omega) e]
        unfold DV TD
        rw [show lefts T.A i + (lefts T.A (lefts T.A i + m - 1) - lefts T.A i) = lefts T.A (lefts T.A i + m - 1) by omega, show lefts T.B j + (lefts T.B (lefts T.B j + n - 1) - lefts T.B j) = lefts T.B (lefts T.B j + n - 1) by omega, show lefts T.A i + m - 1 + 1 = lefts T.A i + m by omega, show lefts T.B j + n - 1 + 1 = lefts T.B j + n by omega]
    rw [ht]
    unfold DV
    rw [hd, show lefts T.A i + (m - 1) = lefts T.A i + m - 1 by omega, show lefts T.B j + (n - 1) = lefts T.B j + n - 1 by omega]
end
end Go.Proofs.Ytpjlajjbioploab.Dist
