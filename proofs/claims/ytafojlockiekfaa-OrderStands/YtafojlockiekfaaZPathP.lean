/- The paths of a tree's nodes, in order: lists alone. Of no program. -/
import Derived.Test.YtafojlockiekfaaGPath
namespace Go.Proofs.Ytafojlockiekfaa
open Go.Deep Go.RowKit
set_option linter.unusedVariables false
set_option maxRecDepth 20000

/-- The paths of a forest's nodes, each behind all beneath it, the first tree being that kid. -/
def pths : Fo → Nat → List (List Nat)
  | .nil, _ => []
  | .node _ _ x k r, c => (pths k 0).map (fun p => c :: p) ++ ([c] :: pths r (c + 1))
theorem pths_length : ∀ (k : Fo) (c : Nat), (pths k c).length = fnodes k
  | .nil, _ => rfl
  | .node _ _ x k r, c => by simp [pths, fnodes, pths_length k, pths_length r]; omega

/-- By more steps it is the same. -/
theorem pathUp_more {L : List Nd} (hu : UpOk L) : ∀ (f g n : Nat), L.length ≤ n + f → L.length ≤ n + g → pathUp L f n = pathUp L g n
  | 0, 0, _, _, _ => rfl
  | 0, g + 1, n, h1, h2 => by
    unfold pathUp
    rw [List.getElem?_eq_none (by omega)]
  | f + 1, 0, n, h1, h2 => by
    unfold pathUp
    rw [List.getElem?_eq_none (by omega)]
  | f + 1, g + 1, n, h1, h2 => by
    unfold pathUp
    cases hx : L[n]? with
    | none => rfl
    | some x =>
      simp only
      split
      · rfl
      · rename_i hneg
        have := hu n x hx
        rw [pathUp_more hu f g x.par.toNat (by omega) (by omega)]
def upP (L : List Nd) (n : Nat) : List Nat := pathUp L L.length n
theorem upP_root {L : List Nd} {n : Nat} {x : Nd} (hx : L[n]? = some x) (h : x.par < 0) : upP L n = [] := by
  have hl := (List.getElem?_eq_some_iff.1 hx).1
  obtain ⟨f, hf⟩ : ∃ f, L.length = f + 1 := ⟨L.length - 1, by omega⟩
  unfold upP
  rw [hf, pathUp, hx]
  simp only
  rw [if_pos h]
theorem upP_kid {L : List Nd} (hu : UpOk L) {n q : Nat} {x : Nd} (hx : L[n]? = some x) (h : x.par = (q : Int)) : upP L n = cnt x.par (L.take n) :: upP L q := by
  have hl := (List.getElem?_eq_some_iff.1 hx).1
  obtain ⟨f, hf⟩ : ∃ f, L.length = f + 1 := ⟨L.length - 1, by omega⟩
  have hq := hu n x hx
  have e : pathUp L f q = upP L q := pathUp_more hu f L.length q (by omega) (by omega)
  rw [← e]
  unfold upP
  rw [hf, pathUp, hx]
  simp only
  rw [if_neg (by omega), h]
  simp

theorem cnt_zero (p : Int) : ∀ l : List Nd, (∀ x, x ∈ l → x.par ≠ p) → cnt p l = 0
  | [], _ => rfl
  | x :: l, h => by
    simp only [cnt]
    rw [if_neg (h x (by simp)), cnt_zero p l (fun y hy => h y (by simp [hy]))]
theorem take_add {α : Type} : ∀ (L : List α) (a b : Nat), L.take (a + b) = L.take a ++ (L.drop a).take b := fun L a b => List.take_add ..
theorem mem_take_at {α : Type} {L : List α} {n : Nat} {x : α} (h : x ∈ L.take n) : ∃ i, i < n ∧ L[i]? = some x := by
  obtain ⟨i, hi⟩ := List.mem_iff_getElem?.1 h
  have hl := (List.getElem?_eq_some_iff.1 hi).1
  rw [List.length_take] at hl
  rw [List.getElem?_take_of_lt (by omega)] at hi
  exact ⟨i, by omega, hi⟩
/-- From one number on to another one none has that parent: the count stays. -/
theorem cnt_stay {L : List Nd} {p : Int} {a c : Nat} (hac : a ≤ c) (h : ∀ i x, a ≤ i → i < c → L[i]? = some x → x.par ≠ p) : cnt p (L.take c) = cnt p (L.take a) := by
  obtain ⟨b, rfl⟩ : ∃ b, c = a + b := ⟨c - a, by omega⟩
  rw [take_add, cnt_append, cnt_zero p ((L.drop a).take b), Nat.add_zero]
  intro x hx
  obtain ⟨i, hi, hx'⟩ := mem_take_at hx
  rw [List.getElem?_drop] at hx'
  exact h (a + i) x (by omega) (by omega) hx'

theorem up_forest {L : List Nd} (hu : UpOk L) : ∀ (k : Fo) (b p c : Nat), (∀ i y, (ndF b k (p : Int))[i]? = some y → L[b + i]? = some y) → b + fnodes k ≤ p → cnt (p : Int) (L.take b) = c →
    (∀ i x, i < b → L[i]? = some x → ¬ ((b : Int) ≤ x.par ∧ x.par < ((b + fnodes k : Nat) : Int))) → ∀ i, i < fnodes k → ∃ π, (pths k c)[i]? = some π ∧ upP L (b + i) = π.reverse ++ upP L p
  | .nil, b, p, c, _, _, _, _, i, hi => by simp [fnodes] at hi
  | .node b9 o9 x k r, b, p, c, hin, hp, hc, hout, i, hi => by
    simp only [fnodes] at hp hi hout
    have hin1 : ∀ j y, (ndF b k ((b + fnodes k : Nat) : Int))[j]? = some y → L[b + j]? = some y := fun j y hy => by
      have hj := (List.getElem?_eq_some_iff.1 hy).1
      rw [ndF_length] at hj
      refine hin j y ?_
      simp only [ndF]
      rw [List.getElem?_append_left (by rw [ndF_length]; exact hj)]
      exact hy
    have hroot : L[b + fnodes k]? = some ⟨x.1, (p : Int), (b : Int)⟩ := by
      refine hin (fnodes k) _ ?_
      simp only [ndF]
      rw [List.getElem?_append_right (by rw [ndF_length]; omega), ndF_length, Nat.sub_self]
      rfl
    have hin2 : ∀ j y, (ndF (b + fnodes k + 1) r (p : Int))[j]? = some y → L[b + fnodes k + 1 + j]? = some y := fun j y hy => by
      have := hin (fnodes k + 1 + j) y (by
        simp only [ndF]
        rw [List.getElem?_append_right (by rw [ndF_length]; omega), ndF_length, show fnodes k + 1 + j - fnodes k = j + 1 by omega, List.getElem?_cons_succ]
        exact hy)
      rw [show b + fnodes k + 1 + j = b + (fnodes k + 1 + j) by omega]
      exact this
    have hkp : ∀ j y, b ≤ j → j < b + fnodes k → L[j]? = some y → (j : Int) < y.par ∧ y.par ≤ ((b + fnodes k : Nat) : Int) := fun j y h1 h2 hy => by
      obtain ⟨d, rfl⟩ : ∃ d, j = b + d := ⟨j - b, by omega⟩
      have hex : (ndF b k ((b + fnodes k : Nat) : Int))[d]? = some y := by
        have hd : d < (ndF b k ((b + fnodes k : Nat) : Int)).length := by rw [ndF_length]; omega
        have h3 := hin1 d _ (List.getElem?_eq_getElem hd)
        rw [hy] at h3
        rw [List.getElem?_eq_getElem hd]
        exact h3.symm
      exact ndF_up k b (b + fnodes k) (Nat.le_refl _) d y hex
    have hcq : cnt ((b + fnodes k : Nat) : Int) (L.take b) = 0 := cnt_zero _ _ (fun y hy => by
      obtain ⟨j, hj, hy'⟩ := mem_take_at hy
      have := hout j y hj hy'
      intro e
      omega)
    have hup : upP L (b + fnodes k) = c :: upP L p := by
      rw [upP_kid hu hroot rfl]
      simp only
      rw [cnt_stay (a := b) (by omega) (fun j y h1 h2 hy => by have := hkp j y h1 h2 hy; omega), hc]
    by_cases h1 : i < fnodes k
    · obtain ⟨π, hπ, hu1⟩ := up_forest hu k b (b + fnodes k) 0 hin1 (Nat.le_refl _) hcq (fun j y hj hy => by have := hout j y hj hy; omega) i h1
      refine ⟨c :: π, ?_, ?_⟩
      · simp only [pths]
        rw [List.getElem?_append_left (by rw [List.length_map, pths_length]; exact h1), List.getElem?_map, hπ]
        rfl
      · rw [hu1, hup]
        simp
    · by_cases h2 : i = fnodes k
      · subst h2
        refine ⟨[c], ?_, ?_⟩
        · simp only [pths]
          rw [List.getElem?_append_right (by rw [List.length_map, pths_length]; omega), List.length_map, pths_length, Nat.sub_self]
          rfl
        · rw [hup]
          rfl
      · obtain ⟨j, hj⟩ : ∃ j, i = fnodes k + 1 + j := ⟨i - fnodes k - 1, by omega⟩
        have hcr : cnt (p : Int) (L.take (b + fnodes k + 1)) = c + 1 := by
          rw [take_add L (b + fnodes k) 1, cnt_append, cnt_stay (a := b) (by omega) (fun j y h1 h2 hy => by have := hkp j y h1 h2 hy; omega), hc]
          have hlt := (List.getElem?_eq_some_iff.1 hroot).1
          rw [List.drop_eq_getElem_cons hlt]
          have : L[b + fnodes k] = ⟨x.1, (p : Int), (b : Int)⟩ := by
            rw [List.getElem?_eq_getElem hlt] at hroot
            simpa using hroot
          rw [this]
          simp [cnt]
        obtain ⟨π, hπ, hu1⟩ := up_forest hu r (b + fnodes k + 1) p (c + 1) hin2 (by omega) hcr (fun j y hj hy => by
          by_cases hjb : j < b
          · have := hout j y hjb hy
            omega
          · by_cases hjk : j < b + fnodes k
            · have := hkp j y (by omega) hjk hy
              omega
            · have hje : j = b + fnodes k := by omega
              subst hje
              rw [hroot] at hy
              simp only [Option.some.injEq] at hy
              subst hy
              simp only
              omega) j (by omega)
        refine ⟨π, ?_, ?_⟩
        · simp only [pths]
          rw [List.getElem?_append_right (by rw [List.length_map, pths_length]; omega), List.length_map, pths_length, hj, show fnodes k + 1 + j - fnodes k = j + 1 by omega, List.getElem?_cons_succ]
          exact hπ
        · rw [hj, show b + (fnodes k + 1 + j) = b + fnodes k + 1 + j by omega]
          exact hu1

/-- The paths of a tree's nodes. -/
def ptT (k : Fo) : List (List Nat) := pths k 0 ++ [[]]
theorem path_is (s : ByteArray) (k : Fo) (n : Nat) (hn : n < fnodes k + 1) : (ptT k)[n]? = some (pathP (ndT 0 s k (-1)) n) := by
  have hu := ndT_up s k
  have hf : (ndF 0 k ((0 + fnodes k : Nat) : Int)).length = fnodes k := ndF_length _ _ _
  have hroot : (ndT 0 s k (-1))[fnodes k]? = some ⟨s, -1, ((0 : Nat) : Int)⟩ := by
    unfold ndT
    rw [List.getElem?_append_right (by omega), hf]
    simp
  have hr : upP (ndT 0 s k (-1)) (fnodes k) = [] := upP_root hroot (by show (-1 : Int) < 0; decide)
  unfold ptT
  by_cases h : n < fnodes k
  · obtain ⟨π, h1, h2⟩ := up_forest hu k 0 (0 + fnodes k) 0 (fun i y hy => by
      have hi := (List.getElem?_eq_some_iff.1 hy).1
      unfold ndT
      rw [Nat.zero_add i, List.getElem?_append_left hi]
      exact hy) (Nat.le_refl _) (by simp [cnt]) (fun i x hi => by omega) n h
    rw [List.getElem?_append_left (by rw [pths_length]; exact h), h1]
    have : pathP (ndT 0 s k (-1)) n = (upP (ndT 0 s k (-1)) n).reverse := rfl
    rw [Nat.zero_add] at h2
    rw [this, h2, Nat.zero_add, hr]
    simp
  · have hne : n = fnodes k := by omega
    subst hne
    rw [List.getElem?_append_right (by rw [pths_length]; omega), pths_length, Nat.sub_self]
    have : pathP (ndT 0 s k (-1)) (fnodes k) = (upP (ndT 0 s k (-1)) (fnodes k)).reverse := rfl
    rw [this, hr]
    rfl

/-- A path comes ahead of another one: it goes on from it, or is less where they part. -/
def Rel : List Nat → List Nat → Prop
  | p, [] => p ≠ []
  | [], _ :: _ => False
  | a :: p, b :: q => a < b ∨ (a = b ∧ Rel p q)
theorem Rel.irr : ∀ p : List Nat, ¬ Rel p p
  | [] => fun h => h rfl
  | a :: p => by
    intro h
    simp only [Rel] at h
    rcases h with h | ⟨_, h⟩
    · omega
    · exact Rel.irr p h
theorem pths_head : ∀ (k : Fo) (c : Nat) (p : List Nat), p ∈ pths k c → ∃ a q, p = a :: q ∧ c ≤ a
  | .nil, _, p, h => by simp [pths] at h
  | .node _ _ x k r, c, p, h => by
    simp only [pths, List.mem_append, List.mem_map, List.mem_cons] at h
    rcases h with ⟨q, _, rfl⟩ | rfl | h
    · exact ⟨c, q, rfl, Nat.le_refl _⟩
    · exact ⟨c, [], rfl, Nat.le_refl _⟩
    · obtain ⟨a, q, h1, h2⟩ := pths_head r (c + 1) p h
      exact ⟨a, q, h1, by omega⟩
theorem pths_sorted : ∀ (k : Fo) (c : Nat), (pths k c).Pairwise Rel
  | .nil, _ => List.Pairwise.nil
  | .node _ _ x k r, c => by
    simp only [pths]
    rw [List.pairwise_append]
    refine ⟨?_, ?_, ?_⟩
    · rw [List.pairwise_map]
      exact (pths_sorted k 0).imp fun h => Or.inr ⟨rfl, h⟩
    · rw [List.pairwise_cons]
      refine ⟨fun q hq => ?_, pths_sorted r (c + 1)⟩
      obtain ⟨a, q', rfl, ha⟩ := pths_head r (c + 1) q hq
      exact Or.inl (by omega)
    · intro p hp q hq
      obtain ⟨p', hp', rfl⟩ := List.mem_map.1 hp
      rcases List.mem_cons.1 hq with rfl | hq
      · obtain ⟨a, q', rfl, _⟩ := pths_head k 0 p' hp'
        exact Or.inr ⟨rfl, by simp [Rel]⟩
      · obtain ⟨a, q', rfl, ha⟩ := pths_head r (c + 1) q hq
        exact Or.inl (by omega)
theorem ptT_sorted (k : Fo) : (ptT k).Pairwise Rel := by
  unfold ptT
  rw [List.pairwise_append]
  refine ⟨pths_sorted k 0, List.pairwise_singleton _ _, fun p hp q hq => ?_⟩
  have : q = [] := by simpa using hq
  subst this
  obtain ⟨a, p', rfl, _⟩ := pths_head k 0 p hp
  simp [Rel]
/-- Of two nodes the one ahead has the path that comes ahead. -/
theorem path_rel (s : ByteArray) (k : Fo) {n m : Nat} (hnm : n < m) (hm : m < fnodes k + 1) : Rel (pathP (ndT 0 s k (-1)) n) (pathP (ndT 0 s k (-1)) m) := by
  have h1 := path_is s k n (by omega)
  have h2 := path_is s k m hm
  obtain ⟨l1, e1⟩ := List.getElem?_eq_some_iff.1 h1
  obtain ⟨l2, e2⟩ := List.getElem?_eq_some_iff.1 h2
  rw [← e1, ← e2]
  exact List.pairwise_iff_getElem.1 (ptT_sorted k) n m l1 l2 hnm
theorem path_inj (s : ByteArray) (k : Fo) {n m : Nat} (hn : n < fnodes k + 1) (hm : m < fnodes k + 1) (h : pathP (ndT 0 s k (-1)) n = pathP (ndT 0 s k (-1)) m) : n = m := by
  rcases Nat.lt_trichotomy n m with h1 | h1 | h1
  · have := path_rel s k h1 hm
    rw [h] at this
    exact absurd this (Rel.irr _)
  · exact h1
  · have := path_rel s k h1 hn
    rw [h] at this
    exact absurd this (Rel.irr _)
/-- A parent's path is its kid's without the last number. -/
theorem path_up {s : ByteArray} {k : Fo} {n q : Nat} {x : Nd} (hx : (ndT 0 s k (-1))[n]? = some x) (h : x.par = (q : Int)) : ∃ c, pathP (ndT 0 s k (-1)) n = pathP (ndT 0 s k (-1)) q ++ [c] := by
  refine ⟨cnt x.par ((ndT 0 s k (-1)).take n), ?_⟩
  have e1 : pathP (ndT 0 s k (-1)) n = (upP (ndT 0 s k (-1)) n).reverse := rfl
  have e2 : pathP (ndT 0 s k (-1)) q = (upP (ndT 0 s k (-1)) q).reverse := rfl
  rw [e1, e2, upP_kid (ndT_up s k) hx h]
  simp

end Go.Proofs.Ytafojlockiekfaa
