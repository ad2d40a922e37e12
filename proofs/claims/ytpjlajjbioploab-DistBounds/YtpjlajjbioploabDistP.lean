/- How far apart two forests of numbered nodes are, and which nodes stay: numbers alone. Of no program. -/
import Derived.Test.YtpjlajjbioploabFo2
namespace Go.Proofs.Ytpjlajjbioploab.Dist
open Go.Deep Go.RowKit
set_option linter.unusedVariables false
set_option maxRecDepth 20000

/-- Nodes in order: each behind all beneath it (its lowest one is told), one beneath the other or apart. -/
structure Post (l : Nat → Nat) (n : Nat) : Prop where
  le : ∀ y, y < n → l y ≤ y
  lam : ∀ x y, x < y → y < n → l y ≤ x → l y ≤ l x
/-- From i0 to ahead of i: whole trees beside each other. -/
def Frst (l : Nat → Nat) (i0 i : Nat) : Prop := ∀ x, i0 ≤ x → x < i → i0 ≤ l x
theorem Frst.less {l : Nat → Nat} {i0 i j : Nat} (h : Frst l i0 i) (hj : j ≤ i) : Frst l i0 j := fun x h1 h2 => h x h1 (by omega)
theorem Frst.top {l : Nat → Nat} {n i : Nat} (hp : Post l n) (hi : 0 < i) (hn : i ≤ n) : Frst l (l (i - 1)) (i - 1) := fun x h1 h2 => hp.lam x (i - 1) h2 (by omega) h1
theorem Frst.tree {l : Nat → Nat} {n i : Nat} (hp : Post l n) (hi : 0 < i) (hn : i ≤ n) : Frst l (l (i - 1)) i := fun x h1 h2 => by
  by_cases h : x = i - 1
  · rw [h]
    exact Nat.le_refl _
  · exact hp.lam x (i - 1) (by omega) (by omega) h1

section
variable (la lb : Nat → Nat) (c : Nat → Nat → Nat)
def fd : Nat → Nat → Nat → Nat → Nat → Nat
  | 0, _, _, _, _ => 0
  | f + 1, i0, i, j0, j => if i ≤ i0 then j - j0 else if j ≤ j0 then i - i0 else
      min (min (fd f i0 (i - 1) j0 j + 1) (fd f i0 i j0 (j - 1) + 1)) (fd f i0 (la (i - 1)) j0 (lb (j - 1)) + fd f (la (i - 1)) (i - 1) (lb (j - 1)) (j - 1) + c (i - 1) (j - 1))
/-- The least that it costs to make the one forest the other one. -/
def D (i0 i j0 j : Nat) : Nat := fd la lb c ((i - i0) + (j - j0) + 1) i0 i j0 j
end
variable {la lb : Nat → Nat} {c : Nat → Nat → Nat} {n m : Nat}

theorem fd_more (ha : Post la n) (hb : Post lb m) : ∀ (f g i0 i j0 j : Nat), i ≤ n → j ≤ m → Frst la i0 i → Frst lb j0 j → (i - i0) + (j - j0) < f → (i - i0) + (j - j0) < g → fd la lb c f i0 i j0 j = fd la lb c g i0 i j0 j
  | 0, _, _, _, _, _, _, _, _, _, h, _ => by omega
  | _ + 1, 0, _, _, _, _, _, _, _, _, _, h => by omega
  | f + 1, g + 1, i0, i, j0, j, hi, hj, h1, h2, h3, h4 => by
    unfold fd
    by_cases e1 : i ≤ i0
    · rw [if_pos e1, if_pos e1]
    · rw [if_neg e1, if_neg e1]
      by_cases e2 : j ≤ j0
      · rw [if_pos e2, if_pos e2]
      · rw [if_neg e2, if_neg e2]
        have l1 := h1 (i - 1) (by omega) (by omega)
        have l2 := h2 (j - 1) (by omega) (by omega)
        have l3 := ha.le (i - 1) (by omega)
        have l4 := hb.le (j - 1) (by omega)
        rw [fd_more ha hb f g i0 (i - 1) j0 j (by omega) hj (h1.less (by omega)) h2 (by omega) (by omega),
          fd_more ha hb f g i0 i j0 (j - 1) hi (by omega) h1 (h2.less (by omega)) (by omega) (by omega),
          fd_more ha hb f g i0 (la (i - 1)) j0 (lb (j - 1)) (by omega) (by omega) (h1.less (by omega)) (h2.less (by omega)) (by omega) (by omega),
          fd_more ha hb f g (la (i - 1)) (i - 1) (lb (j - 1)) (j - 1) (by omega) (by omega) (Frst.top ha (by omega) hi) (Frst.top hb (by omega) hj) (by omega) (by omega)]

theorem D_left {i0 i j0 j : Nat} (h : i ≤ i0) : D la lb c i0 i j0 j = j - j0 := by
  unfold D fd
  rw [if_pos h]
theorem D_right {i0 i j0 j : Nat} (h : j ≤ j0) : D la lb c i0 i j0 j = i - i0 := by
  unfold D fd
  by_cases h1 : i ≤ i0
  · rw [if_pos h1]
    omega
  · rw [if_neg h1, if_pos h]
theorem D_step (ha : Post la n) (hb : Post lb m) {i0 i j0 j : Nat} (hi : i ≤ n) (hj : j ≤ m) (h1 : Frst la i0 i) (h2 : Frst lb j0 j) (e1 : i0 < i) (e2 : j0 < j) :
    D la lb c i0 i j0 j = min (min (D la lb c i0 (i - 1) j0 j + 1) (D la lb c i0 i j0 (j - 1) + 1)) (D la lb c i0 (la (i - 1)) j0 (lb (j - 1)) + D la lb c (la (i - 1)) (i - 1) (lb (j - 1)) (j - 1) + c (i - 1) (j - 1)) := by
  have l1 := h1 (i - 1) (by omega) (by omega)
  have l2 := h2 (j - 1) (by omega) (by omega)
  have l3 := ha.le (i - 1) (by omega)
  have l4 := hb.le (j - 1) (by omega)
  have s1 : ∀ f, (i - 1 - i0) + (j - j0) < f → fd la lb c f i0 (i - 1) j0 j = D la lb c i0 (i - 1) j0 j := fun f hf => fd_more ha hb f _ i0 (i - 1) j0 j (by omega) hj (h1.less (by omega)) h2 hf (by omega)
  have s2 : ∀ f, (i - i0) + (j - 1 - j0) < f → fd la lb c f i0 i j0 (j - 1) = D la lb c i0 i j0 (j - 1) := fun f hf => fd_more ha hb f _ i0 i j0 (j - 1) hi (by omega) h1 (h2.less (by omega)) hf (by omega)
  have s3 : ∀ f, (la (i - 1) - i0) + (lb (j - 1) - j0) < f → fd la lb c f i0 (la (i - 1)) j0 (lb (j - 1)) = D la lb c i0 (la (i - 1)) j0 (lb (j - 1)) := fun f hf => fd_more ha hb f _ i0 (la (i - 1)) j0 (lb (j - 1)) (by omega) (by omega) (h1.less (by omega)) (h2.less (by omega)) hf (by omega)
  have s4 : ∀ f, (i - 1 - la (i - 1)) + (j - 1 - lb (j - 1)) < f → fd la lb c f (la (i - 1)) (i - 1) (lb (j - 1)) (j - 1) = D la lb c (la (i - 1)) (i - 1) (lb (j - 1)) (j - 1) := fun f hf => fd_more ha hb f _ (la (i - 1)) (i - 1) (lb (j - 1)) (j - 1) (by omega) (by omega) (Frst.top ha (by omega) hi) (Frst.top hb (by omega) hj) hf (by omega)
  show fd la lb c ((i - i0) + (j - j0) + 1) i0 i j0 j = _
  unfold fd
  rw [if_neg (by omega), if_neg (by omega), s1 _ (by omega), s2 _ (by omega), s3 _ (by omega), s4 _ (by omega)]

/-- What is split in two costs no more than both parts. -/
theorem D_split (ha : Post la n) (hb : Post lb m) : ∀ (N i0 p i j0 q j : Nat), (i - p) + (j - q) < N → i0 ≤ p → p ≤ i → j0 ≤ q → q ≤ j → i ≤ n → j ≤ m → Frst la i0 i → Frst lb j0 j → Frst la p i → Frst lb q j →
    D la lb c i0 i j0 j ≤ D la lb c i0 p j0 q + D la lb c p i q j
  | 0, _, _, _, _, _, _, h, _, _, _, _, _, _, _, _, _, _ => by omega
  | N + 1, i0, p, i, j0, q, j, h, hp0, hp, hq0, hq, hi, hj, h1, h2, h3, h4 => by
    by_cases e1 : i ≤ p
    · have : i = p := by omega
      subst this
      rw [D_left (Nat.le_refl _)]
      by_cases e2 : j ≤ q
      · have : j = q := by omega
        subst this
        omega
      · have ih := D_split ha hb N i0 i i j0 q (j - 1) (by omega) hp0 (Nat.le_refl _) hq0 (by omega) hi (by omega) h1 (h2.less (by omega)) h3 (h4.less (by omega))
        rw [D_left (Nat.le_refl _)] at ih
        by_cases e3 : i ≤ i0
        · rw [D_left e3] at ih ⊢
          rw [D_left e3]
          omega
        · have := D_step (c := c) ha hb hi hj h1 h2 (by omega) (by omega)
          omega
    · by_cases e2 : j ≤ q
      · have : j = q := by omega
        subst this
        rw [D_right (Nat.le_refl _)]
        have ih := D_split ha hb N i0 p (i - 1) j0 j j (by omega) hp0 (by omega) hq0 (Nat.le_refl _) (by omega) hj (h1.less (by omega)) h2 (h3.less (by omega)) h4
        rw [D_right (Nat.le_refl _)] at ih
        by_cases e3 : j ≤ j0
        · rw [D_right e3] at ih ⊢
          rw [D_right e3]
          omega
        · have := D_step (c := c) ha hb hi hj h1 h2 (by omega) (by omega)
          omega
      · have l1 := h3 (i - 1) (by omega) (by omega)
        have l2 := h4 (j - 1) (by omega) (by omega)
        have l3 := ha.le (i - 1) (by omega)
        have l4 := hb.le (j - 1) (by omega)
        have d1 := D_step (c := c) ha hb hi hj h1 h2 (by omega) (by omega)
        have d2 := D_step (c := c) ha hb hi hj h3 h4 (by omega) (by omega)
        have i1 := D_split ha hb N i0 p (i - 1) j0 q j (by omega) hp0 (by omega) hq0 hq (by omega) hj (h1.less (by omega)) h2 (h3.less (by omega)) h4
        have i2 := D_split ha hb N i0 p i j0 q (j - 1) (by omega) hp0 hp hq0 (by omega) hi (by omega) h1 (h2.less (by omega)) h3 (h4.less (by omega))
        have i3 := D_split ha hb N i0 p (la (i - 1)) j0 q (lb (j - 1)) (by omega) hp0 (by omega) hq0 (by omega) (by omega) (by omega) (h1.less (by omega)) (h2.less (by omega)) (h3.less (by omega)) (h4.less (by omega))
        omega

/-- No less than one has more than the other one, no more than both. -/
theorem D_bounds (ha : Post la n) (hb : Post lb m) (hc : ∀ x y, c x y ≤ 1) : ∀ (N i0 i j0 j : Nat), (i - i0) + (j - j0) < N → i ≤ n → j ≤ m → Frst la i0 i → Frst lb j0 j →
    i - i0 ≤ D la lb c i0 i j0 j + (j - j0) ∧ j - j0 ≤ D la lb c i0 i j0 j + (i - i0) ∧ D la lb c i0 i j0 j ≤ (i - i0) + (j - j0)
  | 0, _, _, _, _, h, _, _, _, _ => by omega
  | N + 1, i0, i, j0, j, h, hi, hj, h1, h2 => by
    by_cases e1 : i ≤ i0
    · rw [D_left e1]
      omega
    · by_cases e2 : j ≤ j0
      · rw [D_right e2]
        omega
      · have l1 := h1 (i - 1) (by omega) (by omega)
        have l2 := h2 (j - 1) (by omega) (by omega)
        have l3 := ha.le (i - 1) (by omega)
        have l4 := hb.le (j - 1) (by omega)
        have d := D_step (c := c) ha hb hi hj h1 h2 (by omega) (by omega)
        have i1 := D_bounds ha hb hc N i0 (i - 1) j0 j (by omega) (by omega) hj (h1.less (by omega)) h2
        have i2 := D_bounds ha hb hc N i0 i j0 (j - 1) (by omega) hi (by omega) h1 (h2.less (by omega))
        have i3 := D_bounds ha hb hc N i0 (la (i - 1)) j0 (lb (j - 1)) (by omega) (by omega) (by omega) (h1.less (by omega)) (h2.less (by omega))
        have i4 := D_bounds ha hb hc N (la (i - 1)) (i - 1) (lb (j - 1)) (j - 1) (by omega) (by omega) (by omega) (Frst.top ha (by omega) hi) (Frst.top hb (by omega) hj)
        have := hc (i - 1) (j - 1)
        omega

section
variable (la lb : Nat → Nat) (c : Nat → Nat → Nat)
/-- Which nodes stay. -/
def bestF : Nat → Nat → Nat → Nat → Nat → List (Nat × Nat)
  | 0, _, _, _, _ => []
  | f + 1, i0, i, j0, j => if i ≤ i0 then [] else if j ≤ j0 then [] else
      if la (i - 1) = i0 ∧ lb (j - 1) = j0 ∧ D la lb c i0 (i - 1) j0 (j - 1) + c (i - 1) (j - 1) = D la lb c i0 i j0 j then bestF f i0 (i - 1) j0 (j - 1) ++ [(i - 1, j - 1)]
      else if ¬ (la (i - 1) = i0 ∧ lb (j - 1) = j0) ∧ D la lb c i0 (la (i - 1)) j0 (lb (j - 1)) + D la lb c (la (i - 1)) i (lb (j - 1)) j = D la lb c i0 i j0 j then bestF f i0 (la (i - 1)) j0 (lb (j - 1)) ++ bestF f (la (i - 1)) i (lb (j - 1)) j
      else if D la lb c i0 (i - 1) j0 j + 1 = D la lb c i0 i j0 j then bestF f i0 (i - 1) j0 j
      else bestF f i0 i j0 (j - 1)
end
/-- What pairs cost by their labels. -/
def names (c : Nat → Nat → Nat) : List (Nat × Nat) → Nat
  | [] => 0
  | p :: l => c p.1 p.2 + names c l
theorem names_append (c : Nat → Nat → Nat) : ∀ a b, names c (a ++ b) = names c a + names c b
  | [], b => by simp [names]
  | p :: a, b => by simp [names, names_append c a b]; omega
/-- One pair ahead of another one: both numbers less, and beneath it in both or in none. -/
def Ahead (la lb : Nat → Nat) (p q : Nat × Nat) : Prop := p.1 < q.1 ∧ p.2 < q.2 ∧ (la q.1 ≤ p.1 ↔ lb q.2 ≤ p.2)

set_option maxHeartbeats 4000000 in
theorem best_ok (ha : Post la n) (hb : Post lb m) : ∀ (f i0 i j0 j : Nat), (i - i0) + (j - j0) < f → i ≤ n → j ≤ m → Frst la i0 i → Frst lb j0 j →
    (∀ p, p ∈ bestF la lb c f i0 i j0 j → i0 ≤ p.1 ∧ p.1 < i ∧ j0 ≤ p.2 ∧ p.2 < j) ∧ (bestF la lb c f i0 i j0 j).Pairwise (Ahead la lb) ∧
    D la lb c i0 i j0 j + 2 * (bestF la lb c f i0 i j0 j).length = (i - i0) + (j - j0) + names c (bestF la lb c f i0 i j0 j)
  | 0, _, _, _, _, h, _, _, _, _ => by omega
  | f + 1, i0, i, j0, j, h, hi, hj, h1, h2 => by
    unfold bestF
    by_cases e1 : i ≤ i0
    · rw [if_pos e1, D_left e1]
      exact ⟨fun p hp => by simp at hp, List.Pairwise.nil, by simp [names]; omega⟩
    · rw [if_neg e1]
      by_cases e2 : j ≤ j0
      · rw [if_pos e2, D_right e2]
        exact ⟨fun p hp => by simp at hp, List.Pairwise.nil, by simp [names]; omega⟩
      · rw [if_neg e2]
        have l1 := h1 (i - 1) (by omega) (by omega)
        have l2 := h2 (j - 1) (by omega) (by omega)
        have l3 := ha.le (i - 1) (by omega)
        have l4 := hb.le (j - 1) (by omega)
        have d := D_step (c := c) ha hb hi hj h1 h2 (by omega) (by omega)
        by_cases b1 : la (i - 1) = i0 ∧ lb (j - 1) = j0 ∧ D la lb c i0 (i - 1) j0 (j - 1) + c (i - 1) (j - 1) = D la lb c i0 i j0 j
        · rw [if_pos b1]
          obtain ⟨r1, r2, r3⟩ := best_ok ha hb f i0 (i - 1) j0 (j - 1) (by omega) (by omega) (by omega) (h1.less (by omega)) (h2.less (by omega))
          refine ⟨fun p hp => ?_, ?_, ?_⟩
          · rcases List.mem_append.1 hp with hp | hp
            · have := r1 p hp
              omega
            · have : p = (i - 1, j - 1) := by simpa using hp
              subst this
              simp only
              omega
          · rw [List.pairwise_append]
            refine ⟨r2, List.pairwise_singleton _ _, fun p hp q hq => ?_⟩
            have : q = (i - 1, j - 1) := by simpa using hq
            subst this
            have := r1 p hp
            exact ⟨by simp only; omega, by simp only; omega, by simp only; omega⟩
          · rw [names_append, List.length_append]
            simp only [names, List.length_cons, List.length_nil]
            omega
        · rw [if_neg b1]
          by_cases b2 : ¬ (la (i - 1) = i0 ∧ lb (j - 1) = j0) ∧ D la lb c i0 (la (i - 1)) j0 (lb (j - 1)) + D la lb c (la (i - 1)) i (lb (j - 1)) j = D la lb c i0 i j0 j
          · rw [if_pos b2]
            have fa := Frst.tree ha (i := i) (by omega) hi
            have fb := Frst.tree hb (i := j) (by omega) hj
            obtain ⟨r1, r2, r3⟩ := best_ok ha hb f i0 (la (i - 1)) j0 (lb (j - 1)) (by omega) (by omega) (by omega) (h1.less (by omega)) (h2.less (by omega))
            obtain ⟨s1, s2, s3⟩ := best_ok ha hb f (la (i - 1)) i (lb (j - 1)) j (by omega) hi hj fa fb
            refine ⟨fun p hp => ?_, ?_, ?_⟩
            · rcases List.mem_append.1 hp with hp | hp
              · have := r1 p hp
                omega
              · have := s1 p hp
                omega
            · rw [List.pairwise_append]
              refine ⟨r2, s2, fun p hp q hq => ?_⟩
              have t1 := r1 p hp
              have t2 := s1 q hq
              have t3 := fa q.1 (by omega) (by omega)
              have t4 := fb q.2 (by omega) (by omega)
              exact ⟨by omega, by omega, by constructor <;> intro <;> omega⟩
            · rw [names_append, List.length_append]
              omega
          · rw [if_neg b2]
            have hthird : D la lb c i0 i j0 j ≠ D la lb c i0 (la (i - 1)) j0 (lb (j - 1)) + D la lb c (la (i - 1)) (i - 1) (lb (j - 1)) (j - 1) + c (i - 1) (j - 1) := fun e => by
              by_cases hone : la (i - 1) = i0 ∧ lb (j - 1) = j0
              · refine b1 ⟨hone.1, hone.2, ?_⟩
                rw [e, hone.1, hone.2, D_left (Nat.le_refl _)]
                omega
              · refine b2 ⟨hone, ?_⟩
                have fa := Frst.tree ha (i := i) (by omega) hi
                have fb := Frst.tree hb (i := j) (by omega) hj
                have sp := D_split (c := c) ha hb _ i0 (la (i - 1)) i j0 (lb (j - 1)) j (Nat.lt_succ_self _) l1 (by omega) l2 (by omega) hi hj h1 h2 fa fb
                have d2 := D_step (c := c) ha hb hi hj fa fb (by omega) (by omega)
                rw [D_left (i := la (i - 1)) (Nat.le_refl _)] at d2
                omega
            by_cases b3 : D la lb c i0 (i - 1) j0 j + 1 = D la lb c i0 i j0 j
            · rw [if_pos b3]
              obtain ⟨r1, r2, r3⟩ := best_ok ha hb f i0 (i - 1) j0 j (by omega) (by omega) hj (h1.less (by omega)) h2
              exact ⟨fun p hp => by have := r1 p hp; omega, r2, by omega⟩
            · rw [if_neg b3]
              obtain ⟨r1, r2, r3⟩ := best_ok ha hb f i0 i j0 (j - 1) (by omega) hi (by omega) h1 (h2.less (by omega))
              exact ⟨fun p hp => by have := r1 p hp; omega, r2, by omega⟩

end Go.Proofs.Ytpjlajjbioploab.Dist
