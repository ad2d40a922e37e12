/- A tree's nodes, by the lowest numbers beneath them, are nodes in order. Of no program. -/
import Derived.Test.YtpjlajjbioploabDistQ
import Derived.Test.YtpjlajjbioploabOrdP
namespace Go.Proofs.Ytpjlajjbioploab.Dist
open Go.Deep Go.RowKit
set_option linter.unusedVariables false

theorem ndF_left : ∀ (k : Fo) (b : Nat) (p : Int) (i : Nat) (x : Nd), (ndF b k p)[i]? = some x → (b : Int) ≤ x.left ∧ x.left ≤ ((b + i : Nat) : Int)
  | .nil, _, _, i, x, h => by simp [ndF] at h
  | .node _ _ y k r, b, p, i, x, h => by
    simp only [ndF] at h
    by_cases h1 : i < fnodes k
    · rw [List.getElem?_append_left (by rw [ndF_length]; omega)] at h
      exact ndF_left k b _ i x h
    · rw [List.getElem?_append_right (by rw [ndF_length]; omega), ndF_length] at h
      by_cases h2 : i = fnodes k
      · subst h2
        simp at h
        subst h
        simp only
        omega
      · obtain ⟨j, hj⟩ : ∃ j, i - fnodes k = j + 1 := ⟨i - fnodes k - 1, by omega⟩
        rw [hj, List.getElem?_cons_succ] at h
        have := ndF_left r (b + fnodes k + 1) p j x h
        omega
theorem nd_left {s : ByteArray} {k : Fo} {n : Nat} {x : Nd} (hx : (ndT 0 s k (-1))[n]? = some x) : 0 ≤ x.left ∧ x.left ≤ (n : Int) := by
  have hl := (List.getElem?_eq_some_iff.1 hx).1
  rw [ndT_length] at hl
  unfold ndT at hx
  by_cases h : n < fnodes k
  · rw [List.getElem?_append_left (by rw [ndF_length]; exact h)] at hx
    have := ndF_left k 0 _ n x hx
    omega
  · rw [List.getElem?_append_right (by rw [ndF_length]; omega), ndF_length, show n - fnodes k = 0 by omega] at hx
    simp at hx
    subst hx
    simp only
    omega
def lefts (L : List Nd) (i : Nat) : Nat := match L[i]? with
  | some x => x.left.toNat
  | none => i
def labs (L : List Nd) (i : Nat) : ByteArray := match L[i]? with
  | some x => x.lab
  | none => ByteArray.empty
/-- 1, if the labels are not the same. -/
def other (A B : List Nd) (i j : Nat) : Nat := if labs A i = labs B j then 0 else 1
theorem other_le (A B : List Nd) (i j : Nat) : other A B i j ≤ 1 := by
  unfold other
  split <;> omega
theorem other_one (A B : List Nd) (i j : Nat) (h : labs A i ≠ labs B j) : 1 ≤ other A B i j := by
  unfold other
  rw [if_neg h]
  exact Nat.le_refl _
theorem lefts_at {L : List Nd} {i : Nat} {x : Nd} (h : L[i]? = some x) : lefts L i = x.left.toNat := by
  unfold lefts
  rw [h]
theorem labs_at {L : List Nd} {i : Nat} {x : Nd} (h : L[i]? = some x) : labs L i = x.lab := by
  unfold labs
  rw [h]
theorem ndF_lam : ∀ (k : Fo) (b : Nat) (p : Int) (x y : Nat) (X Y : Nd), x < y → (ndF b k p)[x]? = some X → (ndF b k p)[y]? = some Y → Y.left ≤ ((b + x : Nat) : Int) → Y.left ≤ X.left
  | .nil, _, _, _, _, _, _, _, h, _, _ => by simp [ndF] at h
  | .node _ _ z k r, b, p, x, y, X, Y, hxy, hx, hy, h => by
    unfold ndF at hx hy
    by_cases e1 : y < fnodes k
    · rw [List.getElem?_append_left (by rw [ndF_length]; omega)] at hx hy
      exact ndF_lam k b _ x y X Y hxy hx hy h
    · rw [List.getElem?_append_right (by rw [ndF_length]; omega), ndF_length] at hy
      by_cases e2 : y = fnodes k
      · subst e2
        rw [Nat.sub_self] at hy
        simp at hy
        subst hy
        rw [List.getElem?_append_left (by rw [ndF_length]; omega)] at hx
        have := ndF_left k b _ x X hx
        simp only
        omega
      · obtain ⟨y', rfl⟩ : ∃ y', y = fnodes k + (y' + 1) := ⟨y - fnodes k - 1, by omega⟩
        rw [Nat.add_sub_cancel_left, List.getElem?_cons_succ] at hy
        have hl := ndF_left r _ _ y' Y hy
        obtain ⟨x', rfl⟩ : ∃ x', x = fnodes k + (x' + 1) := ⟨x - fnodes k - 1, by omega⟩
        rw [List.getElem?_append_right (by rw [ndF_length]; omega), ndF_length, Nat.add_sub_cancel_left, List.getElem?_cons_succ] at hx
        exact ndF_lam r _ _ x' y' X Y (by omega) hx hy (by omega)
theorem post_ndT (s : ByteArray) (k : Fo) : Post (lefts (ndT 0 s k (-1))) (fnodes k + 1) := by
  have at_ : ∀ i, i < fnodes k + 1 → ∃ X, (ndT 0 s k (-1))[i]? = some X := fun i hi => ⟨_, List.getElem?_eq_getElem (by rw [ndT_length]; exact hi)⟩
  constructor
  · intro y hy
    obtain ⟨Y, hY⟩ := at_ y hy
    rw [lefts_at hY]
    have := nd_left hY
    omega
  · intro x y hxy hy h
    obtain ⟨Y, hY⟩ := at_ y hy
    obtain ⟨X, hX⟩ := at_ x (by omega)
    rw [lefts_at hY] at h ⊢
    rw [lefts_at hX]
    have ly := nd_left hY
    have lx := nd_left hX
    unfold ndT at hX hY
    by_cases e : y = fnodes k
    · subst e
      rw [List.getElem?_append_right (by rw [ndF_length]; omega), ndF_length, Nat.sub_self] at hY
      simp at hY
      subst hY
      simp
    · rw [List.getElem?_append_left (by rw [ndF_length]; omega)] at hX hY
      have := ndF_lam k 0 _ x y X Y hxy hX hY (by omega)
      omega
theorem frst_zero (l : Nat → Nat) (i : Nat) : Frst l 0 i := fun _ _ _ => Nat.zero_le _

/-- What a tree and another one cost, and which nodes of them stay: by their nodes in order. -/
def costP (A B : List Nd) : Nat := other A B (A.length - 1) (B.length - 1) + D (lefts A) (lefts B) (other A B) 0 (A.length - 1) 0 (B.length - 1)
def bestP (A B : List Nd) : List (Nat × Nat) := bestF (lefts A) (lefts B) (other A B) (A.length - 1 + (B.length - 1) + 1) 0 (A.length - 1) 0 (B.length - 1) ++ [(A.length - 1, B.length - 1)]
theorem bestP_ok (s t : ByteArray) (k l : Fo) :
    (∀ p, p ∈ bestP (ndT 0 s k (-1)) (ndT 0 t l (-1)) → p.1 < fnodes k + 1 ∧ p.2 < fnodes l + 1) ∧
    (bestP (ndT 0 s k (-1)) (ndT 0 t l (-1))).Pairwise (Ahead (lefts (ndT 0 s k (-1))) (lefts (ndT 0 t l (-1)))) ∧
    costP (ndT 0 s k (-1)) (ndT 0 t l (-1)) + 2 * (bestP (ndT 0 s k (-1)) (ndT 0 t l (-1))).length = (fnodes k + 1) + (fnodes l + 1) + names (other (ndT 0 s k (-1)) (ndT 0 t l (-1))) (bestP (ndT 0 s k (-1)) (ndT 0 t l (-1))) := by
  obtain ⟨r1, r2, r3⟩ := best_ok (c := other (ndT 0 s k (-1)) (ndT 0 t l (-1))) (post_ndT s k) (post_ndT t l) (fnodes k + fnodes l + 1) 0 (fnodes k) 0 (fnodes l) (by omega) (by omega) (by omega) (frst_zero _ _) (frst_zero _ _)
  unfold bestP costP
  simp only [ndT_length, Nat.add_sub_cancel]
  refine ⟨fun p hp => ?_, ?_, ?_⟩
  · rcases List.mem_append.1 hp with hp | hp
    · have := r1 p hp
      omega
    · have : p = (fnodes k, fnodes l) := by simpa using hp
      subst this
      simp only
      omega
  · rw [List.pairwise_append]
    refine ⟨r2, List.pairwise_singleton _ _, fun p hp q hq => ?_⟩
    have : q = (fnodes k, fnodes l) := by simpa using hq
    subst this
    have := r1 p hp
    have e1 : lefts (ndT 0 s k (-1)) (fnodes k) = 0 := by
      rw [lefts_at (x := ⟨s, -1, ((0 : Nat) : Int)⟩)]
      · rfl
      · unfold ndT
        rw [List.getElem?_append_right (by rw [ndF_length]; omega), ndF_length, Nat.sub_self]
        rfl
    have e2 : lefts (ndT 0 t l (-1)) (fnodes l) = 0 := by
      rw [lefts_at (x := ⟨t, -1, ((0 : Nat) : Int)⟩)]
      · rfl
      · unfold ndT
        rw [List.getElem?_append_right (by rw [ndF_length]; omega), ndF_length, Nat.sub_self]
        rfl
    refine ⟨by simp only; omega, by simp only; omega, ?_⟩
    simp only
    rw [e1, e2]
    exact ⟨fun _ => Nat.zero_le _, fun _ => Nat.zero_le _⟩
  · rw [names_append, List.length_append]
    simp only [names, List.length_cons, List.length_nil]
    omega
theorem costP_bounds (s t : ByteArray) (k l : Fo) :
    fnodes k ≤ costP (ndT 0 s k (-1)) (ndT 0 t l (-1)) + fnodes l ∧ fnodes l ≤ costP (ndT 0 s k (-1)) (ndT 0 t l (-1)) + fnodes k ∧ costP (ndT 0 s k (-1)) (ndT 0 t l (-1)) ≤ fnodes k + fnodes l + 1 := by
  have h := D_bounds (post_ndT s k) (post_ndT t l) (other_le (ndT 0 s k (-1)) (ndT 0 t l (-1))) _ 0 (fnodes k) 0 (fnodes l) (Nat.lt_succ_self _) (by omega) (by omega) (frst_zero _ _) (frst_zero _ _)
  have h1 := other_le (ndT 0 s k (-1)) (ndT 0 t l (-1)) (fnodes k) (fnodes l)
  unfold costP
  simp only [ndT_length, Nat.add_sub_cancel]
  omega
theorem costP_more (s t : ByteArray) (k l : Fo) :
    cnt (fun i => decide (oft (labs (ndT 0 t l (-1))) (labs (ndT 0 s k (-1)) i) (fnodes l + 1) < oft (labs (ndT 0 s k (-1))) (labs (ndT 0 s k (-1)) i) (i + 1))) 0 (fnodes k + 1) ≤ costP (ndT 0 s k (-1)) (ndT 0 t l (-1)) := by
  have h := more_le (labs (ndT 0 s k (-1))) (labs (ndT 0 t l (-1))) (c := other (ndT 0 s k (-1)) (ndT 0 t l (-1))) (post_ndT s k) (post_ndT t l) (frst_zero _ _) (frst_zero _ _) (fun x y => other_one _ _ x y)
  unfold costP
  simp only [ndT_length, Nat.add_sub_cancel]
  exact h
end Go.Proofs.Ytpjlajjbioploab.Dist
