/- Labels that one forest has more often than the other one: no more of them than how far apart both are. Of no program. -/
import Derived.Test.YtpjlajjbioploabDistP
namespace Go.Proofs.Ytpjlajjbioploab.Dist
open Go.Deep Go.RowKit
set_option linter.unusedVariables false

/-- How many numbers from i0 on, ahead of i, are so. -/
def cnt (p : Nat → Bool) (i0 : Nat) : Nat → Nat
  | 0 => 0
  | i + 1 => cnt p i0 i + (if i0 ≤ i ∧ p i = true then 1 else 0)
theorem cnt_none (p : Nat → Bool) {i0 : Nat} : ∀ {i : Nat}, i ≤ i0 → cnt p i0 i = 0
  | 0, _ => rfl
  | i + 1, h => by
    unfold cnt
    rw [cnt_none p (by omega), if_neg (by omega)]
theorem cnt_le (p : Nat → Bool) (i0 : Nat) : ∀ i, cnt p i0 i ≤ i - i0
  | 0 => by simp [cnt]
  | i + 1 => by
    unfold cnt
    have := cnt_le p i0 i
    split <;> omega
theorem cnt_split (p : Nat → Bool) {i0 k : Nat} (hk : i0 ≤ k) : ∀ {i : Nat}, k ≤ i → cnt p i0 i = cnt p i0 k + cnt p k i
  | 0, h => by
    have : k = 0 := by omega
    subst this
    simp [cnt]
  | i + 1, h => by
    by_cases e : k = i + 1
    · subst e
      rw [cnt_none p (Nat.le_refl (i + 1))]
      rfl
    · have ih := cnt_split p hk (i := i) (by omega)
      have e1 : cnt p i0 (i + 1) = cnt p i0 i + (if i0 ≤ i ∧ p i = true then 1 else 0) := rfl
      have e2 : cnt p k (i + 1) = cnt p k i + (if k ≤ i ∧ p i = true then 1 else 0) := rfl
      rw [e1, e2, ih]
      by_cases hp : p i = true
      · rw [if_pos ⟨by omega, hp⟩, if_pos ⟨by omega, hp⟩]
        omega
      · rw [if_neg (fun h => hp h.2), if_neg (fun h => hp h.2)]
        omega
theorem cnt_last (p : Nat → Bool) {i0 i : Nat} (h : i0 < i) : cnt p i0 i = cnt p i0 (i - 1) + (if p (i - 1) = true then 1 else 0) := by
  obtain ⟨k, rfl⟩ : ∃ k, i = k + 1 := ⟨i - 1, by omega⟩
  show cnt p i0 k + _ = _
  by_cases hp : p k = true
  · rw [if_pos ⟨by omega, hp⟩]
    simp [hp]
  · rw [if_neg (fun h => hp h.2)]
    simp [hp]

variable {la lb : Nat → Nat} {c : Nat → Nat → Nat} {n m : Nat}
/-- Of whatever kind of labels: one has no more of them more than the distance. -/
theorem D_kind (ha : Post la n) (hb : Post lb m) (p q : Nat → Bool) (hc : ∀ x y, p x = true → q y = false → 1 ≤ c x y) : ∀ (N i0 i j0 j : Nat), (i - i0) + (j - j0) < N → i ≤ n → j ≤ m → Frst la i0 i → Frst lb j0 j →
    cnt p i0 i ≤ D la lb c i0 i j0 j + cnt q j0 j
  | 0, _, _, _, _, h, _, _, _, _ => by omega
  | N + 1, i0, i, j0, j, h, hi, hj, h1, h2 => by
    by_cases e1 : i ≤ i0
    · rw [cnt_none p e1]
      omega
    · by_cases e2 : j ≤ j0
      · rw [D_right e2]
        have := cnt_le p i0 i
        omega
      · have l1 := h1 (i - 1) (by omega) (by omega)
        have l2 := h2 (j - 1) (by omega) (by omega)
        have l3 := ha.le (i - 1) (by omega)
        have l4 := hb.le (j - 1) (by omega)
        have d := D_step (c := c) ha hb hi hj h1 h2 (by omega) (by omega)
        have i1 := D_kind ha hb p q hc N i0 (i - 1) j0 j (by omega) (by omega) hj (h1.less (by omega)) h2
        have i2 := D_kind ha hb p q hc N i0 i j0 (j - 1) (by omega) hi (by omega) h1 (h2.less (by omega))
        have i3 := D_kind ha hb p q hc N i0 (la (i - 1)) j0 (lb (j - 1)) (by omega) (by omega) (by omega) (h1.less (by omega)) (h2.less (by omega))
        have i4 := D_kind ha hb p q hc N (la (i - 1)) (i - 1) (lb (j - 1)) (j - 1) (by omega) (by omega) (by omega) (Frst.top ha (by omega) hi) (Frst.top hb (by omega) hj)
        have s1 := cnt_split p l1 (i := i - 1) l3
        have s2 := cnt_split q l2 (i := j - 1) l4
        have t1 := cnt_last p (i0 := i0) (i := i) (by omega)
        have t2 := cnt_last q (i0 := j0) (i := j) (by omega)
        have hcc := hc (i - 1) (j - 1)
        by_cases hp : p (i - 1) = true
        · rw [if_pos hp] at t1
          by_cases hq : q (j - 1) = true
          · rw [if_pos hq] at t2
            omega
          · rw [if_neg hq] at t2
            have := hcc hp (by simpa using hq)
            omega
        · rw [if_neg hp] at t1
          by_cases hq : q (j - 1) = true
          · rw [if_pos hq] at t2
            omega
          · rw [if_neg hq] at t2
            omega

theorem cnt_mono {p q : Nat → Bool} {i0 : Nat} : ∀ {i : Nat}, (∀ x, x < i → p x = true → q x = true) → cnt p i0 i ≤ cnt q i0 i
  | 0, _ => Nat.le_refl _
  | i + 1, h => by
    have ih := cnt_mono (i0 := i0) (i := i) (fun x hx => h x (by omega))
    unfold cnt
    by_cases hp : i0 ≤ i ∧ p i = true
    · rw [if_pos hp, if_pos ⟨hp.1, h i (by omega) hp.2⟩]
      omega
    · rw [if_neg hp]
      omega
theorem cnt_more {p q : Nat → Bool} {x : Nat} : ∀ {i : Nat}, (∀ y, y < i → p y = true → q y = true) → x < i → p x = false → q x = true → cnt p 0 i + 1 ≤ cnt q 0 i
  | 0, _, hx, _, _ => by omega
  | i + 1, h, hx, h1, h2 => by
    unfold cnt
    by_cases e : x = i
    · subst e
      have := cnt_mono (i0 := 0) (i := x) (fun y hy => h y (by omega))
      rw [if_neg (by simp [h1]), if_pos ⟨by omega, h2⟩]
      omega
    · have ih := cnt_more (i := i) (fun y hy => h y (by omega)) (by omega) h1 h2
      by_cases hp : 0 ≤ i ∧ p i = true
      · rw [if_pos hp, if_pos ⟨hp.1, h i (by omega) hp.2⟩]
        omega
      · rw [if_neg hp]
        omega
theorem cnt_both {p q r : Nat → Bool} : ∀ {i : Nat}, (∀ x, x < i → (p x = true → r x = true) ∧ (q x = true → r x = true) ∧ (p x = true → q x = false)) → cnt p 0 i + cnt q 0 i ≤ cnt r 0 i
  | 0, _ => Nat.le_refl _
  | i + 1, h => by
    have ih := cnt_both (i := i) (fun x hx => h x (by omega))
    obtain ⟨h1, h2, h3⟩ := h i (by omega)
    unfold cnt
    by_cases hp : p i = true
    · have hq := h3 hp
      rw [if_pos ⟨by omega, hp⟩, if_neg (by simp [hq]), if_pos ⟨by omega, h1 hp⟩]
      omega
    · rw [if_neg (by simp [hp])]
      by_cases hq : q i = true
      · rw [if_pos ⟨by omega, hq⟩, if_pos ⟨by omega, h2 hq⟩]
        omega
      · rw [if_neg (by simp [hq])]
        omega
theorem cnt_up (p : Nat → Bool) {k : Nat} : ∀ {i : Nat}, k ≤ i → cnt p 0 k ≤ cnt p 0 i
  | 0, h => by
    have : k = 0 := by omega
    subst this
    exact Nat.le_refl _
  | i + 1, h => by
    by_cases e : k = i + 1
    · subst e
      exact Nat.le_refl _
    · have := cnt_up p (i := i) (k := k) (by omega)
      have e1 : cnt p 0 (i + 1) = cnt p 0 i + (if 0 ≤ i ∧ p i = true then 1 else 0) := rfl
      omega
/-- The one that is so for the k-th time. -/
theorem cnt_at (p : Nat → Bool) {k : Nat} : ∀ {i : Nat}, k < cnt p 0 i → ∃ x, x < i ∧ p x = true ∧ cnt p 0 x = k
  | 0, h => by simp [cnt] at h
  | i + 1, h => by
    by_cases e : k < cnt p 0 i
    · obtain ⟨x, h1, h2, h3⟩ := cnt_at p e
      exact ⟨x, by omega, h2, h3⟩
    · unfold cnt at h
      by_cases hp : 0 ≤ i ∧ p i = true
      · rw [if_pos hp] at h
        exact ⟨i, by omega, hp.2, by omega⟩
      · rw [if_neg hp] at h
        omega

section
variable {α : Type} [DecidableEq α] (fa fb : Nat → α)
/-- How often a label stands ahead of i. -/
def oft (f : Nat → α) (x : α) (i : Nat) : Nat := cnt (fun u => decide (f u = x)) 0 i
theorem oft_succ (f : Nat → α) (x : α) (i : Nat) : oft f x (i + 1) = oft f x i + (if f i = x then 1 else 0) := by
  show cnt _ 0 i + _ = _
  by_cases h : f i = x
  · rw [if_pos ⟨by omega, by simp [h]⟩, if_pos h]
    rfl
  · rw [if_neg (by simp [h]), if_neg h]
    rfl
theorem oft_got (P : α → Bool) (n : Nat) : ∀ m, (∀ x, P x = true → oft fb x m ≤ oft fa x n) →
    cnt (fun v => P (fb v)) 0 m ≤ cnt (fun i => P (fa i) && decide (oft fa (fa i) (i + 1) ≤ oft fb (fa i) m)) 0 n
  | 0, _ => by simp [cnt]
  | m + 1, h => by
    have ih := oft_got P n m (fun x hx => by have := h x hx; rw [oft_succ] at this; omega)
    have up : ∀ y, y < n → (P (fa y) && decide (oft fa (fa y) (y + 1) ≤ oft fb (fa y) m)) = true → (P (fa y) && decide (oft fa (fa y) (y + 1) ≤ oft fb (fa y) (m + 1))) = true := fun y hy hh => by
      rw [Bool.and_eq_true, decide_eq_true_eq] at hh ⊢
      refine ⟨hh.1, ?_⟩
      rw [oft_succ fb]
      omega
    have e : cnt (fun v => P (fb v)) 0 (m + 1) = cnt (fun v => P (fb v)) 0 m + (if 0 ≤ m ∧ P (fb m) = true then 1 else 0) := rfl
    rw [e]
    by_cases hp : P (fb m) = true
    · rw [if_pos ⟨by omega, hp⟩]
      have hh := h (fb m) hp
      rw [oft_succ, if_pos rfl] at hh
      obtain ⟨x, h1, h2, h3⟩ := cnt_at (fun u => decide (fa u = fb m)) (k := oft fb (fb m) m) (i := n) (by show _ < oft fa (fb m) n; omega)
      have h2 : fa x = fb m := by simpa using h2
      have h3 : oft fa (fb m) x = oft fb (fb m) m := h3
      have := cnt_more (x := x) (i := n) up h1 (by
        rw [h2, Bool.and_eq_false_iff]
        right
        rw [decide_eq_false_iff_not, oft_succ, if_pos h2, h3]
        omega) (by
        rw [h2, Bool.and_eq_true, decide_eq_true_eq, oft_succ, oft_succ, if_pos h2, if_pos rfl, h3]
        exact ⟨hp, Nat.le_refl _⟩)
      omega
    · rw [if_neg (fun hh => hp hh.2)]
      have := cnt_mono (i0 := 0) (i := n) up
      omega
/-- What one has more often: no more than both are apart, beneath roots that are counted, too. -/
theorem more_le (ha : Post la (n + 1)) (hb : Post lb (m + 1)) (h1 : Frst la 0 n) (h2 : Frst lb 0 m) (hc : ∀ x y, fa x ≠ fb y → 1 ≤ c x y) :
    cnt (fun i => decide (oft fb (fa i) (m + 1) < oft fa (fa i) (i + 1))) 0 (n + 1) ≤ c n m + D la lb c 0 n 0 m := by
  have kind := D_kind (c := c) ha hb (fun i => decide (oft fb (fa i) (m + 1) < oft fa (fa i) (n + 1))) (fun v => decide (oft fb (fb v) (m + 1) < oft fa (fb v) (n + 1))) (fun x y hx hy => hc x y (fun e => by
    simp only [e] at hx
    simp only [hx] at hy
    exact absurd hy (by simp))) _ 0 n 0 m (Nat.lt_succ_self _) (by omega) (by omega) h1 h2
  have got := oft_got fa fb (fun x => decide (oft fb x (m + 1) < oft fa x (n + 1))) (n + 1) (m + 1) (fun x hx => by have := of_decide_eq_true hx; omega)
  have both := cnt_both (p := fun i => decide (oft fb (fa i) (m + 1) < oft fa (fa i) (i + 1)))
    (q := fun i => decide (oft fb (fa i) (m + 1) < oft fa (fa i) (n + 1)) && decide (oft fa (fa i) (i + 1) ≤ oft fb (fa i) (m + 1)))
    (r := fun i => decide (oft fb (fa i) (m + 1) < oft fa (fa i) (n + 1))) (i := n + 1) (fun x hx => by
      refine ⟨fun hp => ?_, fun hq => ?_, fun hp => ?_⟩
      · have := of_decide_eq_true hp
        have up : oft fa (fa x) (x + 1) ≤ oft fa (fa x) (n + 1) := cnt_up _ (by omega)
        exact decide_eq_true (by omega)
      · exact (Bool.and_eq_true _ _ ▸ hq).1
      · have := of_decide_eq_true hp
        rw [Bool.and_eq_false_iff]
        right
        exact decide_eq_false (by omega))
  have r1 := cnt_last (fun i => decide (oft fb (fa i) (m + 1) < oft fa (fa i) (n + 1))) (i0 := 0) (i := n + 1) (by omega)
  have r2 := cnt_last (fun v => decide (oft fb (fb v) (m + 1) < oft fa (fb v) (n + 1))) (i0 := 0) (i := m + 1) (by omega)
  simp only [Nat.add_sub_cancel] at r1 r2
  by_cases e : fa n = fb m
  · rw [e] at r1
    omega
  · have := hc n m e
    have t1 : (if decide (oft fb (fa n) (m + 1) < oft fa (fa n) (n + 1)) = true then 1 else 0) ≤ 1 := by split <;> omega
    omega
end
end Go.Proofs.Ytpjlajjbioploab.Dist
