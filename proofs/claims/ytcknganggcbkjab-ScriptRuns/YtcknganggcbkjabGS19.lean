/- Labels that one forest has more often than the other one: no more of them than how far apart both are. Of no program. -/
/- A tree's nodes, by the lowest numbers beneath them, are nodes in order. Of no program. -/
/- What Diff tells: trees, pairs and numbers alone. Of no program. -/
import Derived.Test.YtcknganggcbkjabGS18
import Derived.Test.YtcknganggcbkjabGS00
import Derived.Test.YtcknganggcbkjabGS09
import Derived.Test.YtcknganggcbkjabGS05
namespace Go.Proofs.Ytcknganggcbkjab.Dist
open Go.Deep Go.RowKit
set_option linter.unusedVariables false

/-- How many numbers from i0 on, ahead of i, are so. -/
def cnt (p : Nat → Bool) (i0 : Nat) : Nat → Nat
  | 0 => 0
  | i + 1 => cnt p i0 i + (if i0 ≤ i ∧ p i = true then 1 else 0)
theorem cnt_none (p : Nat → Bool) {i0 : Nat} : ∀ {i : Nat}, i ≤ i0 → cnt p i0 i = 0
  | 0, _ => rfl
  | i + 1, h => by
    unfold cnt
    rw [cnt_none p (by omega), if_neg (by omega)]
theorem cnt_le (p : Nat → Bool) (i0 : Nat) : ∀ i, cnt p i0 i ≤ i - i0
  | 0 => by simp [cnt]
  | i + 1 => by
    unfold cnt
    have := cnt_le p i0 i
    split <;> omega
theorem cnt_split (p : Nat → Bool) {i0 k : Nat} (hk : i0 ≤ k) : ∀ {i : Nat}, k ≤ i → cnt p i0 i = cnt p i0 k + cnt p k i
  | 0, h => by
    have : k = 0 := by omega
    subst this
    simp [cnt]
  | i + 1, h => by
    by_cases e : k = i + 1
    · subst e
      rw [cnt_none p (Nat.le_refl (i + 1))]
      rfl
    · have ih := cnt_split p hk (i := i) (by omega)
      have e1 : cnt p i0 (i + 1) = cnt p i0 i + (if i0 ≤ i ∧ p i = true then 1 else 0) := rfl
      have e2 : cnt p k (i + 1) = cnt p k i + (if k ≤ i ∧ p i = true then 1 else 0) := rfl
      rw [e1, e2, ih]
      by_cases hp : p i = true
      · rw [if_pos ⟨by omega, hp⟩, if_pos ⟨by omega, hp⟩]
        omega
      · rw [if_neg (fun h => hp h.2), if_neg (fun h => hp h.2)]
        omega
theorem cnt_last (p : Nat → Bool) {i0 i : Nat} (h : i0 < i) : cnt p i0 i = cnt p i0 (i - 1) + (if p (i - 1) = true then 1 else 0) := by
  obtain ⟨k, rfl⟩ : ∃ k, i = k + 1 := ⟨i - 1, by omega⟩
  show cnt p i0 k + _ = _
  by_cases hp : p k = true
  · rw [if_pos ⟨by omega, hp⟩]
    simp [hp]
  · rw [if_neg (fun h => hp h.2)]
    simp [hp]

variable {la lb : Nat → Nat} {c : Nat → Nat → Nat} {n m : Nat}
/-- Of whatever kind of labels: one has no more of them more than the distance. -/
theorem D_kind (ha : Post la n) (hb : Post lb m) (p q : Nat → Bool) (hc : ∀ x y, p x = true → q y = false → 1 ≤ c x y) : ∀ (N i0 i j0 j : Nat), (i - i0) + (j - j0) < N → i ≤ n → j ≤ m → Frst la i0 i → Frst lb j0 j →
    cnt p i0 i ≤ D la lb c i0 i j0 j + cnt q j0 j
  | 0, _, _, _, _, h, _, _, _, _ => by omega
  | N + 1, i0, i, j0, j, h, hi, hj, h1, h2 => by
    by_cases e1 : i ≤ i0
    · rw [cnt_none p e1]
      omega
    · by_cases e2 : j ≤ j0
      · rw [D_right e2]
        have := cnt_le p i0 i
        omega
      · have l1 := h1 (i - 1) (by omega) (by omega)
        have l2 := h2 (j - 1) (by omega) (by omega)
        have l3 := ha.le (i - 1) (by omega)
        have l4 := hb.le (j - 1) (by omega)
        have d := D_step (c := c) ha hb hi hj h1 h2 (by omega) (by omega)
        have i1 := D_kind ha hb p q hc N i0 (i - 1) j0 j (by omega) (by omega) hj (h1.less (by omega)) h2
        have i2 := D_kind ha hb p q hc N i0 i j0 (j - 1) (by omega) hi (by omega) h1 (h2.less (by omega))
        have i3 := D_kind ha hb p q hc N i0 (la (i - 1)) j0 (lb (j - 1)) (by omega) (by omega) (by omega) (h1.less (by omega)) (h2.less (by omega))
        have i4 := D_kind ha hb p q hc N (la (i - 1)) (i - 1) (lb (j - 1)) (j - 1) (by omega) (by omega) (by omega) (Frst.top ha (by omega) hi) (Frst.top hb (by omega) hj)
        have s1 := cnt_split p l1 (i := i - 1) l3
        have s2 := cnt_split q l2 (i := j - 1) l4
        have t1 := cnt_last p (i0 := i0) (i := i) (by omega)
        have t2 := cnt_last q (i0 := j0) (i := j) (by omega)
        have hcc := hc (i - 1) (j - 1)
        by_cases hp : p (i - 1) = true
        · rw [if_pos hp] at t1
          by_cases hq : q (j - 1) = true
          · rw [if_pos hq] at t2
            omega
          · rw [if_neg hq] at t2
            have := hcc hp (by simpa using hq)
            omega
        · rw [if_neg hp] at t1
          by_cases hq : q (j - 1) = true
          · rw [if_pos hq] at t2
            omega
          · rw [if_neg hq] at t2
            omega

theorem cnt_mono {p q : Nat → Bool} {i0 : Nat} : ∀ {i : Nat}, (∀ x, x < i → p x = true → q x = true) → cnt p i0 i ≤ cnt q i0 i
  | 0, _ => Nat.le_refl _
  | i + 1, h => by
    have ih := cnt_mono (i0 := i0) (i := i) (fun x hx => h x (by omega))
    unfold cnt
    by_cases hp : i0 ≤ i ∧ p i = true
    · rw [if_pos hp, if_pos ⟨hp.1, h i (by omega) hp.2⟩]
      omega
    · rw [if_neg hp]
      omega
theorem cnt_more {p q : Nat → Bool} {x : Nat} : ∀ {i : Nat}, (∀ y, y < i → p y = true → q y = true) → x < i → p x = false → q x = true → cnt p 0 i + 1 ≤ cnt q 0 i
  | 0, _, hx, _, _ => by omega
  | i + 1, h, hx, h1, h2 => by
    unfold cnt
    by_cases e : x = i
    · subst e
      have := cnt_mono (i0 := 0) (i := x) (fun y hy => h y (by omega))
      rw [if_neg (by simp [h1]), if_pos ⟨by omega, h2⟩]
      omega
    · have ih := cnt_more (i := i) (fun y hy => h y (by omega)) (by omega) h1 h2
      by_cases hp : 0 ≤ i ∧ p i = true
      · rw [if_pos hp, if_pos ⟨hp.1, h i (by omega) hp.2⟩]
        omega
      · rw [if_neg hp]
        omega
theorem cnt_both {p q r : Nat → Bool} : ∀ {i : Nat}, (∀ x, x < i → (p x = true → r x = true) ∧ (q x = true → r x = true) ∧ (p x = true → q x = false)) → cnt p 0 i + cnt q 0 i ≤ cnt r 0 i
  | 0, _ => Nat.le_refl _
  | i + 1, h => by
    have ih := cnt_both (i := i) (fun x hx => h x (by omega))
    obtain ⟨h1, h2, h3⟩ := h i (by omega)
    unfold cnt
    by_cases hp : p i = true
    · have hq := h3 hp
      rw [if_pos ⟨by omega, hp⟩, if_neg (by simp [hq]), if_pos ⟨by omega, h1 hp⟩]
      omega
    · rw [if_neg (by simp [hp])]
      by_cases hq : q i = true
      · rw [if_pos ⟨by omega, hq⟩, if_pos ⟨by omega, h2 hq⟩]
        omega
      · rw [if_neg (by simp [hq])]
        omega
theorem cnt_up (p : Nat → Bool) {k : Nat} : ∀ {i : Nat}, k ≤ i → cnt p 0 k ≤ cnt p 0 i
  | 0, h => by
    have : k = 0 := by omega
    subst this
    exact Nat.le_refl _
  | i + 1, h => by
    by_cases e : k = i + 1
    · subst e
      exact Nat.le_refl _
    · have := cnt_up p (i := i) (k := k) (by omega)
      have e1 : cnt p 0 (i + 1) = cnt p 0 i + (if 0 ≤ i ∧ p i = true then 1 else 0) := rfl
      omega
/-- The one that is so for the k-th time. -/
theorem cnt_at (p : Nat → Bool) {k : Nat} : ∀ {i : Nat}, k < cnt p 0 i → ∃ x, x < i ∧ p x = true ∧ cnt p 0 x = k
  | 0, h => by simp [cnt] at h
  | i + 1, h => by
    by_cases e : k < cnt p 0 i
    · obtain ⟨x, h1, h2, h3⟩ := cnt_at p e
      exact ⟨x, by omega, h2, h3⟩
    · unfold cnt at h
      by_cases hp : 0 ≤ i ∧ p i = true
      · rw [if_pos hp] at h
        exact ⟨i, by omega, hp.2, by omega⟩
      · rw [if_neg hp] at h
        omega

section
variable {α : Type} [DecidableEq α] (fa fb : Nat → α)
/-- How often a label stands ahead of i. -/
def oft (f : Nat → α) (x : α) (i : Nat) : Nat := cnt (fun u => decide (f u = x)) 0 i
theorem oft_succ (f : Nat → α) (x : α) (i : Nat) : oft f x (i + 1) = oft f x i + (if f i = x then 1 else 0) := by
  show cnt _ 0 i + _ = _
  by_cases h : f i = x
  · rw [if_pos ⟨by omega, by simp [h]⟩, if_pos h]
    rfl
  · rw [if_neg (by simp [h]), if_neg h]
    rfl
theorem oft_got (P : α → Bool) (n : Nat) : ∀ m, (∀ x, P x = true → oft fb x m ≤ oft fa x n) →
    cnt (fun v => P (fb v)) 0 m ≤ cnt (fun i => P (fa i) && decide (oft fa (fa i) (i + 1) ≤ oft fb (fa i) m)) 0 n
  | 0, _ => by simp [cnt]
  | m + 1, h => by
    have ih := oft_got P n m (fun x hx => by have := h x hx; rw [oft_succ] at this; omega)
    have up : ∀ y, y < n → (P (fa y) && decide (oft fa (fa y) (y + 1) ≤ oft fb (fa y) m)) = true → (P (fa y) && decide (oft fa (fa y) (y + 1) ≤ oft fb (fa y) (m + 1))) = true := fun y hy hh => by
      rw [Bool.and_eq_true, decide_eq_true_eq] at hh ⊢
      refine ⟨hh.1, ?_⟩
      rw [oft_succ fb]
      omega
    have e : cnt (fun v => P (fb v)) 0 (m + 1) = cnt (fun v => P (fb v)) 0 m + (if 0 ≤ m ∧ P (fb m) = true then 1 else 0) := rfl
    rw [e]
    by_cases hp : P (fb m) = true
    · rw [if_pos ⟨by omega, hp⟩]
      have hh := h (fb m) hp
      rw [oft_succ, if_pos rfl] at hh
      obtain ⟨x, h1, h2, h3⟩ := cnt_at (fun u => decide (fa u = fb m)) (k := oft fb (fb m) m) (i := n) (by show _ < oft fa (fb m) n; omega)
      have h2 : fa x = fb m := by simpa using h2
      have h3 : oft fa (fb m) x = oft fb (fb m) m := h3
      have := cnt_more (x := x) (i := n) up h1 (by
        rw [h2, Bool.and_eq_false_iff]
        right
        rw [decide_eq_false_iff_not, oft_succ, if_pos h2, h3]
        omega) (by
        rw [h2, Bool.and_eq_true, decide_eq_true_eq, oft_succ, oft_succ, if_pos h2, if_pos rfl, h3]
        exact ⟨hp, Nat.le_refl _⟩)
      omega
    · rw [if_neg (fun hh => hp hh.2)]
      have := cnt_mono (i0 := 0) (i := n) up
      omega
/-- What one has more often: no more than both are apart, beneath roots that are counted, too. -/
theorem more_le (ha : Post la (n + 1)) (hb : Post lb (m + 1)) (h1 : Frst la 0 n) (h2 : Frst lb 0 m) (hc : ∀ x y, fa x ≠ fb y → 1 ≤ c x y) :
    cnt (fun i => decide (oft fb (fa i) (m + 1) < oft fa (fa i) (i + 1))) 0 (n + 1) ≤ c n m + D la lb c 0 n 0 m := by
  have kind := D_kind (c := c) ha hb (fun i => decide (oft fb (fa i) (m + 1) < oft fa (fa i) (n + 1))) (fun v => decide (oft fb (fb v) (m + 1) < oft fa (fb v) (n + 1))) (fun x y hx hy => hc x y (fun e => by
    simp only [e] at hx
    simp only [hx] at hy
    exact absurd hy (by simp))) _ 0 n 0 m (Nat.lt_succ_self _) (by omega) (by omega) h1 h2
  have got := oft_got fa fb (fun x => decide (oft fb x (m + 1) < oft fa x (n + 1))) (n + 1) (m + 1) (fun x hx => by have := of_decide_eq_true hx; omega)
  have both := cnt_both (p := fun i => decide (oft fb (fa i) (m + 1) < oft fa (fa i) (i + 1)))
    (q := fun i => decide (oft fb (fa i) (m + 1) < oft fa (fa i) (n + 1)) && decide (oft fa (fa i) (i + 1) ≤ oft fb (fa i) (m + 1)))
    (r := fun i => decide (oft fb (fa i) (m + 1) < oft fa (fa i) (n + 1))) (i := n + 1) (fun x hx => by
      refine ⟨fun hp => ?_, fun hq => ?_, fun hp => ?_⟩
      · have := of_decide_eq_true hp
        have up : oft fa (fa x) (x + 1) ≤ oft fa (fa x) (n + 1) := cnt_up _ (by omega)
        exact decide_eq_true (by omega)
      · exact (Bool.and_eq_true _ _ ▸ hq).1
      · have := of_decide_eq_true hp
        rw [Bool.and_eq_false_iff]
        right
        exact decide_eq_false (by omega))
  have r1 := cnt_last (fun i => decide (oft fb (fa i) (m + 1) < oft fa (fa i) (n + 1))) (i0 := 0) (i := n + 1) (by omega)
  have r2 := cnt_last (fun v => decide (oft fb (fb v) (m + 1) < oft fa (fb v) (n + 1))) (i0 := 0) (i := m + 1) (by omega)
  simp only [Nat.add_sub_cancel] at r1 r2
  by_cases e : fa n = fb m
  · rw [e] at r1
    omega
  · have := hc n m e
    have t1 : (if decide (oft fb (fa n) (m + 1) < oft fa (fa n) (n + 1)) = true then 1 else 0) ≤ 1 := by split <;> omega
    omega
end
end Go.Proofs.Ytcknganggcbkjab.Dist
namespace Go.Proofs.Ytcknganggcbkjab.Dist
open Go.Deep Go.RowKit
set_option linter.unusedVariables false

theorem ndF_left : ∀ (k : Fo) (b : Nat) (p : Int) (i : Nat) (x : Nd), (ndF b k p)[i]? = some x → (b : Int) ≤ x.left ∧ x.left ≤ ((b + i : Nat) : Int)
  | .nil, _, _, i, x, h => by simp [ndF] at h
  | .node _ _ y k r, b, p, i, x, h => by
    simp only [ndF] at h
    by_cases h1 : i < fnodes k
    · rw [List.getElem?_append_left (by rw [ndF_length]; omega)] at h
      exact ndF_left k b _ i x h
    · rw [List.getElem?_append_right (by rw [ndF_length]; omega), ndF_length] at h
      by_cases h2 : i = fnodes k
      · subst h2
        simp at h
        subst h
        simp only
        omega
      · obtain ⟨j, hj⟩ : ∃ j, i - fnodes k = j + 1 := ⟨i - fnodes k - 1, by omega⟩
        rw [hj, List.getElem?_cons_succ] at h
        have := ndF_left r (b + fnodes k + 1) p j x h
        omega
theorem nd_left {s : ByteArray} {k : Fo} {n : Nat} {x : Nd} (hx : (ndT 0 s k (-1))[n]? = some x) : 0 ≤ x.left ∧ x.left ≤ (n : Int) := by
  have hl := (List.getElem?_eq_some_iff.1 hx).1
  rw [ndT_length] at hl
  unfold ndT at hx
  by_cases h : n < fnodes k
  · rw [List.getElem?_append_left (by rw [ndF_length]; exact h)] at hx
    have := ndF_left k 0 _ n x hx
    omega
  · rw [List.getElem?_append_right (by rw [ndF_length]; omega), ndF_length, show n - fnodes k = 0 by omega] at hx
    simp at hx
    subst hx
    simp only
    omega
def lefts (L : List Nd) (i : Nat) : Nat := match L[i]? with
  | some x => x.left.toNat
  | none => i
def labs (L : List Nd) (i : Nat) : ByteArray := match L[i]? with
  | some x => x.lab
  | none => ByteArray.empty
/-- 1, if the labels are not the same. -/
def other (A B : List Nd) (i j : Nat) : Nat := if labs A i = labs B j then 0 else 1
theorem other_le (A B : List Nd) (i j : Nat) : other A B i j ≤ 1 := by
  unfold other
  split <;> omega
theorem other_one (A B : List Nd) (i j : Nat) (h : labs A i ≠ labs B j) : 1 ≤ other A B i j := by
  unfold other
  rw [if_neg h]
  exact Nat.le_refl _
theorem lefts_at {L : List Nd} {i : Nat} {x : Nd} (h : L[i]? = some x) : lefts L i = x.left.toNat := by
  unfold lefts
  rw [h]
theorem labs_at {L : List Nd} {i : Nat} {x : Nd} (h : L[i]? = some x) : labs L i = x.lab := by
  unfold labs
  rw [h]
theorem ndF_lam : ∀ (k : Fo) (b : Nat) (p : Int) (x y : Nat) (X Y : Nd), x < y → (ndF b k p)[x]? = some X → (ndF b k p)[y]? = some Y → Y.left ≤ ((b + x : Nat) : Int) → Y.left ≤ X.left
  | .nil, _, _, _, _, _, _, _, h, _, _ => by simp [ndF] at h
  | .node _ _ z k r, b, p, x, y, X, Y, hxy, hx, hy, h => by
    unfold ndF at hx hy
    by_cases e1 : y < fnodes k
    · rw [List.getElem?_append_left (by rw [ndF_length]; omega)] at hx hy
      exact ndF_lam k b _ x y X Y hxy hx hy h
    · rw [List.getElem?_append_right (by rw [ndF_length]; omega), ndF_length] at hy
      by_cases e2 : y = fnodes k
      · subst e2
        rw [Nat.sub_self] at hy
        simp at hy
        subst hy
        rw [List.getElem?_append_left (by rw [ndF_length]; omega)] at hx
        have := ndF_left k b _ x X hx
        simp only
        omega
      · obtain ⟨y', rfl⟩ : ∃ y', y = fnodes k + (y' + 1) := ⟨y - fnodes k - 1, by omega⟩
        rw [Nat.add_sub_cancel_left, List.getElem?_cons_succ] at hy
        have hl := ndF_left r _ _ y' Y hy
        obtain ⟨x', rfl⟩ : ∃ x', x = fnodes k + (x' + 1) := ⟨x - fnodes k - 1, by omega⟩
        rw [List.getElem?_append_right (by rw [ndF_length]; omega), ndF_length, Nat.add_sub_cancel_left, List.getElem?_cons_succ] at hx
        exact ndF_lam r _ _ x' y' X Y (by omega) hx hy (by omega)
theorem post_ndT (s : ByteArray) (k : Fo) : Post (lefts (ndT 0 s k (-1))) (fnodes k + 1) := by
  have at_ : ∀ i, i < fnodes k + 1 → ∃ X, (ndT 0 s k (-1))[i]? = some X := fun i hi => ⟨_, List.getElem?_eq_getElem (by rw [ndT_length]; exact hi)⟩
  constructor
  · intro y hy
    obtain ⟨Y, hY⟩ := at_ y hy
    rw [lefts_at hY]
    have := nd_left hY
    omega
  · intro x y hxy hy h
    obtain ⟨Y, hY⟩ := at_ y hy
    obtain ⟨X, hX⟩ := at_ x (by omega)
    rw [lefts_at hY] at h ⊢
    rw [lefts_at hX]
    have ly := nd_left hY
    have lx := nd_left hX
    unfold ndT at hX hY
    by_cases e : y = fnodes k
    · subst e
      rw [List.getElem?_append_right (by rw [ndF_length]; omega), ndF_length, Nat.sub_self] at hY
      simp at hY
      subst hY
      simp
    · rw [List.getElem?_append_left (by rw [ndF_length]; omega)] at hX hY
      have := ndF_lam k 0 _ x y X Y hxy hX hY (by omega)
      omega
theorem frst_zero (l : Nat → Nat) (i : Nat) : Frst l 0 i := fun _ _ _ => Nat.zero_le _

/-- What a tree and another one cost, and which nodes of them stay: by their nodes in order. -/
def costP (A B : List Nd) : Nat := other A B (A.length - 1) (B.length - 1) + D (lefts A) (lefts B) (other A B) 0 (A.length - 1) 0 (B.length - 1)
def bestP (A B : List Nd) : List (Nat × Nat) := bestF (lefts A) (lefts B) (other A B) (A.length - 1 + (B.length - 1) + 1) 0 (A.length - 1) 0 (B.length - 1) ++ [(A.length - 1, B.length - 1)]
theorem bestP_ok (s t : ByteArray) (k l : Fo) :
    (∀ p, p ∈ bestP (ndT 0 s k (-1)) (ndT 0 t l (-1)) → p.1 < fnodes k + 1 ∧ p.2 < fnodes l + 1) ∧
    (bestP (ndT 0 s k (-1)) (ndT 0 t l (-1))).Pairwise (Ahead (lefts (ndT 0 s k (-1))) (lefts (ndT 0 t l (-1)))) ∧
    costP (ndT 0 s k (-1)) (ndT 0 t l (-1)) + 2 * (bestP (ndT 0 s k (-1)) (ndT 0 t l (-1))).length = (fnodes k + 1) + (fnodes l + 1) + names (other (ndT 0 s k (-1)) (ndT 0 t l (-1))) (bestP (ndT 0 s k (-1)) (ndT 0 t l (-1))) := by
  obtain ⟨r1, r2, r3⟩ := best_ok (c := other (ndT 0 s k (-1)) (ndT 0 t l (-1))) (post_ndT s k) (post_ndT t l) (fnodes k + fnodes l + 1) 0 (fnodes k) 0 (fnodes l) (by omega) (by omega) (by omega) (frst_zero _ _) (frst_zero _ _)
  unfold bestP costP
  simp only [ndT_length, Nat.add_sub_cancel]
  refine ⟨fun p hp => ?_, ?_, ?_⟩
  · rcases List.mem_append.1 hp with hp | hp
    · have := r1 p hp
      omega
    · have : p = (fnodes k, fnodes l) := by simpa using hp
      subst this
      simp only
      omega
  · rw [List.pairwise_append]
    refine ⟨r2, List.pairwise_singleton _ _, fun p hp q hq => ?_⟩
    have : q = (fnodes k, fnodes l) := by simpa using hq
    subst this
    have := r1 p hp
    have e1 : lefts (ndT 0 s k (-1)) (fnodes k) = 0 := by
      rw [lefts_at (x := ⟨s, -1, ((0 : Nat) : Int)⟩)]
      · rfl
      · unfold ndT
        rw [List.getElem?_append_right (by rw [ndF_length]; omega), ndF_length, Nat.sub_self]
        rfl
    have e2 : lefts (ndT 0 t l (-1)) (fnodes l) = 0 := by
      rw [lefts_at (x := ⟨t, -1, ((0 : Nat) : Int)⟩)]
      · rfl
      · unfold ndT
        rw [List.getElem?_append_right (by rw [ndF_length]; omega), ndF_length, Nat.sub_self]
        rfl
    refine ⟨by simp only; omega, by simp only; omega, ?_⟩
    simp only
    rw [e1, e2]
    exact ⟨fun _ => Nat.zero_le _, fun _ => Nat.zero_le _⟩
  · rw [names_append, List.length_append]
    simp only [names, List.length_cons, List.length_nil]
    omega
theorem costP_bounds (s t : ByteArray) (k l : Fo) :
    fnodes k ≤ costP (ndT 0 s k (-1)) (ndT 0 t l (-1)) + fnodes l ∧ fnodes l ≤ costP (ndT 0 s k (-1)) (ndT 0 t l (-1)) + fnodes k ∧ costP (ndT 0 s k (-1)) (ndT 0 t l (-1)) ≤ fnodes k + fnodes l + 1 := by
  have h := D_bounds (post_ndT s k) (post_ndT t l) (other_le (ndT 0 s k (-1)) (ndT 0 t l (-1))) _ 0 (fnodes k) 0 (fnodes l) (Nat.lt_succ_self _) (by omega) (by omega) (frst_zero _ _) (frst_zero _ _)
  have h1 := other_le (ndT 0 s k (-1)) (ndT 0 t l (-1)) (fnodes k) (fnodes l)
  unfold costP
  simp only [ndT_length, Nat.add_sub_cancel]
  omega
theorem costP_more (s t : ByteArray) (k l : Fo) :
    cnt (fun i => decide (oft (labs (ndT 0 t l (-1))) (labs (ndT 0 s k (-1)) i) (fnodes l + 1) < oft (labs (ndT 0 s k (-1))) (labs (ndT 0 s k (-1)) i) (i + 1))) 0 (fnodes k + 1) ≤ costP (ndT 0 s k (-1)) (ndT 0 t l (-1)) := by
  have h := more_le (labs (ndT 0 s k (-1))) (labs (ndT 0 t l (-1))) (c := other (ndT 0 s k (-1)) (ndT 0 t l (-1))) (post_ndT s k) (post_ndT t l) (frst_zero _ _) (frst_zero _ _) (fun x y => other_one _ _ x y)
  unfold costP
  simp only [ndT_length, Nat.add_sub_cancel]
  exact h
end Go.Proofs.Ytcknganggcbkjab.Dist
namespace Go.Proofs.Ytcknganggcbkjab.Scr
open Go.Deep Go.RowKit Deed
set_option linter.unusedVariables false
set_option maxRecDepth 20000

/-- A tree that is made thinner: what is left, what did it, what undoes it. -/
structure Th where
  t : ByteArray × Fo
  away : List Dd
  back : List Dd
def nds (t : ByteArray × Fo) : List Nd := ndT 0 t.1 t.2 (-1)
def delD (t : ByteArray × Fo) (n : Nat) : Dd := ⟨2, ints (pathP (nds t) n), 0, 0, ⟨#[]⟩⟩
def Th.d (x : Th) (i : Nat) : Dd := delD x.t (i - x.away.length)
def thStep (p : Nat → Bool) (x : Th) (i : Nat) : Th := if p i = true then x else ⟨(doP (x.d i) x.t.1 x.t.2).2.1, x.away ++ [x.d i], x.back ++ [(doP (x.d i) x.t.1 x.t.2).2.2]⟩
def thAt (p : Nat → Bool) (t : ByteArray × Fo) : Nat → Th
  | 0 => ⟨t, [], []⟩
  | n + 1 => thStep p (thAt p t n) n
/-- Each node that is to go can go. -/
def ThOk (p : Nat → Bool) (t : ByteArray × Fo) (i : Nat) : Prop :=
  faultT (thAt p t i).t.1 (thAt p t i).t.2 = 0 ∧ i - (thAt p t i).away.length < fnodes (thAt p t i).t.2 + 1 ∧ (doP ((thAt p t i).d i) (thAt p t i).t.1 (thAt p t i).t.2).1 = 0
theorem th_yes {p : Nat → Bool} {t : ByteArray × Fo} {i : Nat} (h : p i = true) : thAt p t (i + 1) = thAt p t i := by
  show thStep p (thAt p t i) i = _
  unfold thStep
  rw [if_pos h]
theorem th_no {p : Nat → Bool} {t : ByteArray × Fo} {i : Nat} (h : p i = false) : thAt p t (i + 1) = ⟨(doP ((thAt p t i).d i) (thAt p t i).t.1 (thAt p t i).t.2).2.1, (thAt p t i).away ++ [(thAt p t i).d i], (thAt p t i).back ++ [(doP ((thAt p t i).d i) (thAt p t i).t.1 (thAt p t i).t.2).2.2]⟩ := by
  show thStep p (thAt p t i) i = _
  unfold thStep
  rw [if_neg (by simp [h])]
theorem th_len (p : Nat → Bool) (t : ByteArray × Fo) : ∀ i, (thAt p t i).away.length ≤ i ∧ (thAt p t i).back.length = (thAt p t i).away.length
  | 0 => ⟨Nat.le_refl _, rfl⟩
  | i + 1 => by
    obtain ⟨h1, h2⟩ := th_len p t i
    cases h : p i
    · rw [th_no h]
      simp
      omega
    · rw [th_yes h]
      omega
/-- Other labels. -/
def namesP (A B : List Nd) : Nat → List Dd
  | 0 => []
  | n + 1 => namesP A B n ++ (if Dist.labs A n = Dist.labs B n then [] else [⟨1, ints (pathP A n), 0, 0, Dist.labs B n⟩])
def stayA (best : List (Nat × Nat)) (i : Nat) : Bool := best.any fun p => p.1 == i
def stayB (best : List (Nat × Nat)) (i : Nat) : Bool := best.any fun p => p.2 == i
def thinA (s1 : ByteArray) (k1 : Fo) (s2 : ByteArray) (k2 : Fo) : Th := thAt (stayA (Dist.bestP (nds (s1, k1)) (nds (s2, k2)))) (s1, strip k1) (fnodes k1 + 1)
def thinB (s1 : ByteArray) (k1 : Fo) (s2 : ByteArray) (k2 : Fo) : Th := thAt (stayB (Dist.bestP (nds (s1, k1)) (nds (s2, k2)))) (s2, strip k2) (fnodes k2 + 1)
def diffP (s1 : ByteArray) (k1 : Fo) (s2 : ByteArray) (k2 : Fo) : List Dd :=
  (thinA s1 k1 s2 k2).away ++ (namesP (nds (thinA s1 k1 s2 k2).t) (nds (thinB s1 k1 s2 k2).t) (nds (thinB s1 k1 s2 k2).t).length ++ (thinB s1 k1 s2 k2).back.reverse)
end Go.Proofs.Ytcknganggcbkjab.Scr
