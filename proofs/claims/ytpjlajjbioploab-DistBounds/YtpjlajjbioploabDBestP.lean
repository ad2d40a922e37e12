/- Which nodes stay, as best of package dist finds them: numbers alone. Of no program. -/
import Derived.Test.YtpjlajjbioploabDFillP
namespace Go.Proofs.Ytpjlajjbioploab.Dist
open Go.Deep Go.RowKit
set_option linter.unusedVariables false
set_option maxRecDepth 20000

section
variable {la lb : Nat → Nat} {c : Nat → Nat → Nat} {n m : Nat}
theorem bestF_more (ha : Post la n) (hb : Post lb m) : ∀ (f g i0 i j0 j : Nat), i ≤ n → j ≤ m → Frst la i0 i → Frst lb j0 j → (i - i0) + (j - j0) < f → (i - i0) + (j - j0) < g → bestF la lb c f i0 i j0 j = bestF la lb c g i0 i j0 j
  | 0, _, _, _, _, _, _, _, _, _, h, _ => by omega
  | _ + 1, 0, _, _, _, _, _, _, _, _, _, h => by omega
  | f + 1, g + 1, i0, i, j0, j, hi, hj, h1, h2, h3, h4 => by
    unfold bestF
    by_cases e1 : i ≤ i0
    · rw [if_pos e1, if_pos e1]
    · rw [if_neg e1, if_neg e1]
      by_cases e2 : j ≤ j0
      · rw [if_pos e2, if_pos e2]
      · rw [if_neg e2, if_neg e2]
        have l1 := h1 (i - 1) (by omega) (by omega)
        have l2 := h2 (j - 1) (by omega) (by omega)
        have l3 := ha.le (i - 1) (by omega)
        have l4 := hb.le (j - 1) (by omega)
        by_cases b1 : la (i - 1) = i0 ∧ lb (j - 1) = j0 ∧ D la lb c i0 (i - 1) j0 (j - 1) + c (i - 1) (j - 1) = D la lb c i0 i j0 j
        · rw [if_pos b1, if_pos b1, bestF_more ha hb f g i0 (i - 1) j0 (j - 1) (by omega) (by omega) (h1.less (by omega)) (h2.less (by omega)) (by omega) (by omega)]
        · rw [if_neg b1, if_neg b1]
          by_cases b2 : ¬ (la (i - 1) = i0 ∧ lb (j - 1) = j0) ∧ D la lb c i0 (la (i - 1)) j0 (lb (j - 1)) + D la lb c (la (i - 1)) i (lb (j - 1)) j = D la lb c i0 i j0 j
          · rw [if_pos b2, if_pos b2, bestF_more ha hb f g i0 (la (i - 1)) j0 (lb (j - 1)) (by omega) (by omega) (h1.less (by omega)) (h2.less (by omega)) (by omega) (by omega),
              bestF_more ha hb f g (la (i - 1)) i (lb (j - 1)) j hi hj (Frst.tree ha (by omega) hi) (Frst.tree hb (by omega) hj) (by omega) (by omega)]
          · rw [if_neg b2, if_neg b2]
            by_cases b3 : D la lb c i0 (i - 1) j0 j + 1 = D la lb c i0 i j0 j
            · rw [if_pos b3, if_pos b3, bestF_more ha hb f g i0 (i - 1) j0 j (by omega) hj (h1.less (by omega)) h2 (by omega) (by omega)]
            · rw [if_neg b3, if_neg b3, bestF_more ha hb f g i0 i j0 (j - 1) hi (by omega) h1 (h2.less (by omega)) (by omega) (by omega)]
end

/-- Which nodes of m and n stay, from where the trees that i and j head begin. -/
def bestL (A B : List Nd) (i j m n : Nat) : List (Nat × Nat) := bestF (lefts A) (lefts B) (other A B) (m + n + 1) (lefts A i) (lefts A i + m) (lefts B j) (lefts B j + n)

section
variable {A B : List Nd} {i j m n : Nat}
theorem bestL_none (h : m = 0 ∨ n = 0) : bestL A B i j m n = [] := by
  unfold bestL bestF
  by_cases e : lefts A i + m ≤ lefts A i
  · rw [if_pos e]
  · rw [if_neg e, if_pos (by omega)]
/-- All that is asked of m and n. -/
structure BOk (A B : List Nd) (i j m n : Nat) : Prop where
  hA : NOk A
  hB : NOk B
  hi : i < A.length
  hj : j < B.length
  hM : m < i - lefts A i + 2
  hN : n < j - lefts B j + 2
theorem BOk.less (h : BOk A B i j m n) {a b : Nat} (ha : a ≤ m) (hb : b ≤ n) : BOk A B i j a b := ⟨h.hA, h.hB, h.hi, h.hj, by have := h.hM; omega, by have := h.hN; omega⟩
theorem BOk.fa (h : BOk A B i j m n) : Frst (lefts A) (lefts A i) (lefts A i + m) := by
  have h1 := h.hA.post.le i h.hi
  have hi := h.hi
  have hM := h.hM
  have fa : Frst (lefts A) (lefts A i) (i + 1) := by simpa using Frst.tree h.hA.post (i := i + 1) (by omega) (by omega)
  exact fa.less (by omega)
theorem BOk.fb (h : BOk A B i j m n) : Frst (lefts B) (lefts B j) (lefts B j + n) := by
  have h1 := h.hB.post.le j h.hj
  have hi := h.hj
  have hM := h.hN
  have fa : Frst (lefts B) (lefts B j) (j + 1) := by simpa using Frst.tree h.hB.post (i := j + 1) (by omega) (by omega)
  exact fa.less (by omega)
theorem BOk.ends (h : BOk A B i j m n) : lefts A i + m ≤ i + 1 ∧ lefts B j + n ≤ j + 1 := by
  have h1 := h.hA.post.le i h.hi
  have h2 := h.hB.post.le j h.hj
  have h3 := h.hM
  have h4 := h.hN
  omega
theorem bestL_fuel (h : BOk A B i j m n) (g : Nat) (hg : m + n < g) : bestF (lefts A) (lefts B) (other A B) g (lefts A i) (lefts A i + m) (lefts B j) (lefts B j + n) = bestL A B i j m n := by
  have he := h.ends
  have hi := h.hi
  have hj := h.hj
  exact bestF_more h.hA.post h.hB.post _ _ _ _ _ _ (by omega) (by omega) h.fa h.fb (by omega) (by omega)
theorem bestL_fuel' (h : BOk A B i j m n) {g i' j' : Nat} (hg : m + n < g) (hi' : i' = lefts A i + m) (hj' : j' = lefts B j + n) : bestF (lefts A) (lefts B) (other A B) g (lefts A i) i' (lefts B j) j' = bestL A B i j m n := by
  rw [hi', hj']
  exact bestL_fuel h g hg
/-- The last two, as the program asks. -/
def togT (A B : List Nd) (i j m n : Nat) : Nat :=
  if lefts A (lefts A i + m - 1) = lefts A i ∧ lefts B (lefts B j + n - 1) = lefts B j then DV A B i j (m - 1) (n - 1) + other A B (lefts A i + m - 1) (lefts B j + n - 1)
  else DV A B i j (lefts A (lefts A i + m - 1) - lefts A i) (lefts B (lefts B j + n - 1) - lefts B j) + TD A B (lefts A i + m - 1) (lefts B j + n - 1)
theorem BOk.last (h : BOk A B i j m n) (hm : 0 < m) (hn : 0 < n) : lefts A i ≤ lefts A (lefts A i + m - 1) ∧ lefts A (lefts A i + m - 1) ≤ lefts A i + m - 1 ∧ lefts B j ≤ lefts B (lefts B j + n - 1) ∧ lefts B (lefts B j + n - 1) ≤ lefts B j + n - 1 ∧ lefts A i + m - 1 ≤ i ∧ lefts B j + n - 1 ≤ j := by
  have he := h.ends
  have hi := h.hi
  have hj := h.hj
  exact ⟨h.fa _ (by omega) (by omega), h.hA.post.le _ (by omega), h.fb _ (by omega) (by omega), h.hB.post.le _ (by omega), by omega, by omega⟩
/-- The two parts where they are not one tree each. -/
theorem BOk.sub (h : BOk A B i j m n) (hm : 0 < m) (hn : 0 < n) : BOk A B (lefts A i + m - 1) (lefts B j + n - 1) (m - (lefts A (lefts A i + m - 1) - lefts A i)) (n - (lefts B (lefts B j + n - 1) - lefts B j)) := by
  have hl := h.last hm hn
  have hi := h.hi
  have hj := h.hj
  exact ⟨h.hA, h.hB, by omega, by omega, by omega, by omega⟩
theorem D_eq {la lb : Nat → Nat} {c : Nat → Nat → Nat} {a b d e a' b' d' e' : Nat} (h1 : a = a') (h2 : b = b') (h3 : d = d') (h4 : e = e') : D la lb c a b d e = D la lb c a' b' d' e' := by rw [h1, h2, h3, h4]
theorem bestL_one (h : BOk A B i j m n) (hm : 0 < m) (hn : 0 < n) (ht : togT A B i j m n = DV A B i j m n) (h1 : lefts A (lefts A i + m - 1) = lefts A i ∧ lefts B (lefts B j + n - 1) = lefts B j) :
    bestL A B i j m n = bestL A B i j (m - 1) (n - 1) ++ [(lefts A i + m - 1, lefts B j + n - 1)] := by
  have ho := h.less (a := m - 1) (b := n - 1) (by omega) (by omega)
  unfold togT at ht
  rw [if_pos h1] at ht
  unfold DV at ht
  unfold bestL
  rw [bestF, if_neg (by omega), if_neg (by omega), if_pos ⟨h1.1, h1.2, by rw [← ht]; congr 1; exact D_eq rfl (by omega) rfl (by omega)⟩, bestL_fuel' ho (by omega) (by omega) (by omega)]
  rfl
theorem bestL_two (h : BOk A B i j m n) (hm : 0 < m) (hn : 0 < n) (ht : togT A B i j m n = DV A B i j m n) (h1 : ¬ (lefts A (lefts A i + m - 1) = lefts A i ∧ lefts B (lefts B j + n - 1) = lefts B j)) :
    bestL A B i j m n = bestL A B i j (lefts A (lefts A i + m - 1) - lefts A i) (lefts B (lefts B j + n - 1) - lefts B j) ++ bestL A B (lefts A i + m - 1) (lefts B j + n - 1) (m - (lefts A (lefts A i + m - 1) - lefts A i)) (n - (lefts B (lefts B j + n - 1) - lefts B j)) := by
  have hl := h.last hm hn
  have ho := h.less (a := lefts A (lefts A i + m - 1) - lefts A i) (b := lefts B (lefts B j + n - 1) - lefts B j) (by omega) (by omega)
  have hs := h.sub hm hn
  unfold togT at ht
  rw [if_neg h1] at ht
  unfold DV TD at ht
  have e1 : bestL A B i j m n = bestF (lefts A) (lefts B) (other A B) (m + n) (lefts A i) (lefts A (lefts A i + m - 1)) (lefts B j) (lefts B (lefts B j + n - 1)) ++ bestF (lefts A) (lefts B) (other A B) (m + n) (lefts A (lefts A i + m - 1)) (lefts A i + m) (lefts B (lefts B j + n - 1)) (lefts B j + n) := by
    unfold bestL
    rw [bestF, if_neg (by omega), if_neg (by omega), if_neg (fun e => h1 ⟨e.1, e.2.1⟩), if_pos ⟨h1, by rw [← ht]; congr 1 <;> exact D_eq (by omega) (by omega) (by omega) (by omega)⟩]
  rw [e1, bestL_fuel' ho (by omega) (by omega) (by omega), bestL_fuel' hs (by omega) (by omega) (by omega)]
theorem bestL_left (h : BOk A B i j m n) (hm : 0 < m) (hn : 0 < n) (ht : togT A B i j m n ≠ DV A B i j m n) (h1 : DV A B i j (m - 1) n + 1 = DV A B i j m n) : bestL A B i j m n = bestL A B i j (m - 1) n := by
  have ho := h.less (a := m - 1) (b := n) (by omega) (by omega)
  have hl := h.last hm hn
  unfold togT at ht
  unfold DV at ht h1
  have e1 : bestL A B i j m n = bestF (lefts A) (lefts B) (other A B) (m + n) (lefts A i) (lefts A i + m - 1) (lefts B j) (lefts B j + n) := by
    unfold bestL
    rw [bestF, if_neg (by omega), if_neg (by omega), if_neg, if_neg, if_pos (by rw [← h1]; congr 1; exact D_eq rfl (by omega) rfl rfl)]
    · rintro ⟨b1, b2⟩
      rw [if_neg b1] at ht
      refine ht ?_
      rw [← b2]
      unfold TD
      congr 1 <;> exact D_eq (by omega) (by omega) (by omega) (by omega)
    · rintro ⟨b1, b2, b3⟩
      rw [if_pos ⟨b1, b2⟩] at ht
      refine ht ?_
      rw [← b3]
      congr 1
      exact D_eq rfl (by omega) rfl (by omega)
  rw [e1, bestL_fuel' ho (by omega) (by omega) (by omega)]
theorem bestL_right (h : BOk A B i j m n) (hm : 0 < m) (hn : 0 < n) (ht : togT A B i j m n ≠ DV A B i j m n) (h1 : DV A B i j (m - 1) n + 1 ≠ DV A B i j m n) : bestL A B i j m n = bestL A B i j m (n - 1) := by
  have ho := h.less (a := m) (b := n - 1) (by omega) (by omega)
  have hl := h.last hm hn
  unfold togT at ht
  unfold DV at ht h1
  have e1 : bestL A B i j m n = bestF (lefts A) (lefts B) (other A B) (m + n) (lefts A i) (lefts A i + m) (lefts B j) (lefts B j + n - 1) := by
    unfold bestL
    rw [bestF, if_neg (by omega), if_neg (by omega), if_neg, if_neg, if_neg]
    · intro b
      refine h1 ?_
      rw [← b]
      congr 1
      exact D_eq rfl (by omega) rfl rfl
    · rintro ⟨b1, b2⟩
      rw [if_neg b1] at ht
      refine ht ?_
      rw [← b2]
      unfold TD
      congr 1 <;> exact D_eq (by omega) (by omega) (by omega) (by omega)
    · rintro ⟨b1, b2, b3⟩
      rw [if_pos ⟨b1, b2⟩] at ht
      refine ht ?_
      rw [← b3]
      congr 1
      exact D_eq rfl (by omega) rfl (by omega)
  rw [e1, bestL_fuel' ho (by omega) (by omega) (by omega)]
theorem bestL_len (h : BOk A B i j m n) : 2 * (bestL A B i j m n).length ≤ m + n + (bestL A B i j m n).length ∧ DV A B i j m n + 2 * (bestL A B i j m n).length = m + n + names (other A B) (bestL A B i j m n) := by
  have he := h.ends
  have hi := h.hi
  have hj := h.hj
  have hb := (best_ok (c := other A B) h.hA.post h.hB.post (m + n + 1) (lefts A i) (lefts A i + m) (lefts B j) (lefts B j + n) (by omega) (by omega) (by omega) h.fa h.fb).2.2
  have hn : ∀ l : List (Nat × Nat), names (other A B) l ≤ l.length := fun l => by
    induction l with
    | nil => simp [names]
    | cons p l ih =>
      have := other_le A B p.1 p.2
      simp only [names, List.length_cons]
      omega
  have := hn (bestL A B i j m n)
  unfold bestL DV at *
  omega
/-- Of one tree each some stay. -/
theorem bestL_some (h : BOk A B i j m n) (hm : lefts A i + m = i + 1) (hn : lefts B j + n = j + 1) : 0 < (bestL A B i j m n).length := by
  have h0 := (bestL_len h).2
  have hi := h.hi
  have hj := h.hj
  have e1 := h.hA.post.le i h.hi
  have e2 := h.hB.post.le j h.hj
  have hd := D_step (c := other A B) h.hA.post h.hB.post (by omega) (by omega) h.fa h.fb (by omega) (by omega)
  rw [show lefts A i + m - 1 = i by omega, show lefts B j + n - 1 = j by omega, D_left (Nat.le_refl _)] at hd
  have hb := (D_bounds h.hA.post h.hB.post (other_le A B) _ (lefts A i) i (lefts B j) j (Nat.lt_succ_self _) (by omega) (by omega) (h.fa.less (by omega)) (h.fb.less (by omega))).2.2
  have hc := other_le A B i j
  unfold DV at h0
  rcases Nat.eq_zero_or_pos (bestL A B i j m n).length with hz | hz
  · rw [List.eq_nil_of_length_eq_zero hz] at h0
    simp only [names, List.length_nil] at h0
    omega
  · exact hz
end
end Go.Proofs.Ytpjlajjbioploab.Dist
