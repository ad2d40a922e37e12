/- What stands beneath a node, by the numbers of a tree's nodes: lists alone. Of no program. -/
import Derived.Test.YtafojlockiekfaaZPathP
import Derived.Test.YtafojlockiekfaaAtRef
import Derived.Test.YtafojlockiekfaaGPath
namespace Go.Proofs.Ytafojlockiekfaa
open Go.Deep Go.RowKit
set_option linter.unusedVariables false
set_option maxRecDepth 20000

/-- A node and all above it. -/
def ancF (L : List Nd) : Nat → Nat → List Nat
  | 0, _ => []
  | f + 1, n => match L[n]? with
    | none => []
    | some x => n :: (if x.par < 0 then [] else ancF L f x.par.toNat)
theorem ancF_more {L : List Nd} (hu : UpOk L) : ∀ (f g n : Nat), L.length ≤ n + f → L.length ≤ n + g → ancF L f n = ancF L g n
  | 0, 0, _, _, _ => rfl
  | 0, g + 1, n, h1, h2 => by
    unfold ancF
    rw [List.getElem?_eq_none (by omega)]
  | f + 1, 0, n, h1, h2 => by
    unfold ancF
    rw [List.getElem?_eq_none (by omega)]
  | f + 1, g + 1, n, h1, h2 => by
    unfold ancF
    cases hx : L[n]? with
    | none => rfl
    | some x =>
      simp only
      split
      · rfl
      · have := hu n x hx
        rw [ancF_more hu f g x.par.toNat (by omega) (by omega)]
def anc (L : List Nd) (n : Nat) : List Nat := ancF L L.length n
theorem anc_root {L : List Nd} {n : Nat} {x : Nd} (hx : L[n]? = some x) (h : x.par < 0) : anc L n = [n] := by
  have hl := (List.getElem?_eq_some_iff.1 hx).1
  obtain ⟨f, hf⟩ : ∃ f, L.length = f + 1 := ⟨L.length - 1, by omega⟩
  unfold anc
  rw [hf, ancF, hx]
  simp only
  rw [if_pos h]
theorem anc_kid {L : List Nd} (hu : UpOk L) {n q : Nat} {x : Nd} (hx : L[n]? = some x) (h : x.par = (q : Int)) : anc L n = n :: anc L q := by
  have hl := (List.getElem?_eq_some_iff.1 hx).1
  obtain ⟨f, hf⟩ : ∃ f, L.length = f + 1 := ⟨L.length - 1, by omega⟩
  have hq := hu n x hx
  have e : ancF L f q = anc L q := ancF_more hu f L.length q (by omega) (by omega)
  rw [← e]
  unfold anc
  rw [hf, ancF, hx]
  simp only
  rw [if_neg (by omega), h]
  simp
theorem anc_ge {L : List Nd} (hu : UpOk L) : ∀ (f n m : Nat), m ∈ ancF L f n → n ≤ m ∧ m < L.length
  | 0, _, _, h => by simp [ancF] at h
  | f + 1, n, m, h => by
    unfold ancF at h
    cases hx : L[n]? with
    | none => rw [hx] at h; simp at h
    | some x =>
      rw [hx] at h
      have hl := (List.getElem?_eq_some_iff.1 hx).1
      simp only [List.mem_cons] at h
      rcases h with rfl | h
      · exact ⟨Nat.le_refl _, hl⟩
      · split at h
        · simp at h
        · have := anc_ge hu f x.par.toNat m h
          have := hu n x hx
          omega
/-- What is above one above is above. -/
theorem anc_trans {L : List Nd} (hu : UpOk L) : ∀ (f i n m : Nat), L.length ≤ i + f → n ∈ ancF L f i → m ∈ anc L n → m ∈ ancF L f i
  | 0, _, _, _, _, h, _ => by simp [ancF] at h
  | f + 1, i, n, m, hf, h, hm => by
    have hself : anc L i = ancF L (f + 1) i := ancF_more hu _ _ i (by omega) hf
    unfold ancF at h ⊢
    cases hx : L[i]? with
    | none => rw [hx] at h; simp at h
    | some x =>
      rw [hx] at h
      simp only [List.mem_cons] at h ⊢
      rcases h with rfl | h
      · rw [hself] at hm
        unfold ancF at hm
        rw [hx] at hm
        simpa using hm
      · split at h
        · simp at h
        · rename_i hneg
          rw [if_neg hneg]
          have := hu i x hx
          exact Or.inr (anc_trans hu f x.par.toNat n m (by omega) h hm)

theorem ndF_left : ∀ (k : Fo) (b : Nat) (p : Int) (i : Nat) (x : Nd), (ndF b k p)[i]? = some x → (b : Int) ≤ x.left ∧ x.left ≤ ((b + i : Nat) : Int)
  | .nil, _, _, i, x, h => by simp [ndF] at h
  | .node _ _ y k r, b, p, i, x, h => by
    simp only [ndF] at h
    by_cases h1 : i < fnodes k
    · rw [List.getElem?_append_left (by rw [ndF_length]; omega)] at h
      exact ndF_left k b _ i x h
    · rw [List.getElem?_append_right (by rw [ndF_length]; omega), ndF_length] at h
      by_cases h2 : i = fnodes k
      · subst h2
        simp at h
        subst h
        simp only
        omega
      · obtain ⟨j, hj⟩ : ∃ j, i - fnodes k = j + 1 := ⟨i - fnodes k - 1, by omega⟩
        rw [hj, List.getElem?_cons_succ] at h
        have := ndF_left r (b + fnodes k + 1) p j x h
        omega

/-- Those above a node of a forest: the forest's that hold it, and those above the forest. -/
theorem anc_forest {L : List Nd} (hu : UpOk L) : ∀ (k : Fo) (b p : Nat), (∀ i y, (ndF b k (p : Int))[i]? = some y → L[b + i]? = some y) → b + fnodes k ≤ p → ∀ j, j < fnodes k → ∀ n,
    n ∈ anc L (b + j) ↔ ((b ≤ n ∧ n < b + fnodes k ∧ ∃ y, L[n]? = some y ∧ y.left ≤ ((b + j : Nat) : Int) ∧ b + j ≤ n) ∨ n ∈ anc L p)
  | .nil, _, _, _, _, j, hj, _ => by simp [fnodes] at hj
  | .node b9 o9 x k r, b, p, hin, hp, j, hj, n => by
    simp only [fnodes] at hp hj ⊢
    have hin1 : ∀ j y, (ndF b k ((b + fnodes k : Nat) : Int))[j]? = some y → L[b + j]? = some y := fun j y hy => by
      have hj := (List.getElem?_eq_some_iff.1 hy).1
      rw [ndF_length] at hj
      refine hin j y ?_
      simp only [ndF]
      rw [List.getElem?_append_left (by rw [ndF_length]; exact hj)]
      exact hy
    have hroot : L[b + fnodes k]? = some ⟨x.1, (p : Int), (b : Int)⟩ := by
      refine hin (fnodes k) _ ?_
      simp only [ndF]
      rw [List.getElem?_append_right (by rw [ndF_length]; omega), ndF_length, Nat.sub_self]
      rfl
    have hin2 : ∀ j y, (ndF (b + fnodes k + 1) r (p : Int))[j]? = some y → L[b + fnodes k + 1 + j]? = some y := fun j y hy => by
      have := hin (fnodes k + 1 + j) y (by
        simp only [ndF]
        rw [List.getElem?_append_right (by rw [ndF_length]; omega), ndF_length, show fnodes k + 1 + j - fnodes k = j + 1 by omega, List.getElem?_cons_succ]
        exact hy)
      rw [show b + fnodes k + 1 + j = b + (fnodes k + 1 + j) by omega]
      exact this
    have hq : anc L (b + fnodes k) = (b + fnodes k) :: anc L p := anc_kid hu hroot rfl
    have hleft : ∀ m y, b + fnodes k + 1 ≤ m → m < b + (fnodes k + fnodes r + 1) → L[m]? = some y → ((b + fnodes k + 1 : Nat) : Int) ≤ y.left := fun m y h1 h2 hy => by
      obtain ⟨d, rfl⟩ : ∃ d, m = b + fnodes k + 1 + d := ⟨m - (b + fnodes k + 1), by omega⟩
      have hd : d < (ndF (b + fnodes k + 1) r (p : Int)).length := by rw [ndF_length]; omega
      have h3 := hin2 d _ (List.getElem?_eq_getElem hd)
      rw [hy] at h3
      have h4 := ndF_left r (b + fnodes k + 1) (p : Int) d y (by rw [List.getElem?_eq_getElem hd]; exact h3.symm)
      exact h4.1
    by_cases h1 : j < fnodes k
    · rw [anc_forest hu k b (b + fnodes k) hin1 (Nat.le_refl _) j h1 n, hq, List.mem_cons]
      constructor
      · rintro (⟨a1, a2, a3⟩ | rfl | h)
        · exact Or.inl ⟨a1, by omega, a3⟩
        · exact Or.inl ⟨by omega, by omega, _, hroot, by simp only; omega, by omega⟩
        · exact Or.inr h
      · rintro (⟨a1, a2, y, a3, a4, a5⟩ | h)
        · by_cases hn : n < b + fnodes k
          · exact Or.inl ⟨a1, hn, y, a3, a4, a5⟩
          · by_cases hn2 : n = b + fnodes k
            · exact Or.inr (Or.inl hn2)
            · have := hleft n y (by omega) a2 a3
              omega
        · exact Or.inr (Or.inr h)
    · by_cases h2 : j = fnodes k
      · subst h2
        rw [hq, List.mem_cons]
        constructor
        · rintro (rfl | h)
          · exact Or.inl ⟨by omega, by omega, _, hroot, by simp only; omega, Nat.le_refl _⟩
          · exact Or.inr h
        · rintro (⟨a1, a2, y, a3, a4, a5⟩ | h)
          · by_cases hn2 : n = b + fnodes k
            · exact Or.inl hn2
            · have := hleft n y (by omega) a2 a3
              omega
          · exact Or.inr h
      · obtain ⟨d, hd⟩ : ∃ d, j = fnodes k + 1 + d := ⟨j - fnodes k - 1, by omega⟩
        subst hd
        rw [show b + (fnodes k + 1 + d) = b + fnodes k + 1 + d by omega, anc_forest hu r (b + fnodes k + 1) p hin2 (by omega) d (by omega) n]
        constructor
        · rintro (⟨a1, a2, a3⟩ | h)
          · exact Or.inl ⟨by omega, by omega, a3⟩
          · exact Or.inr h
        · rintro (⟨a1, a2, y, a3, a4, a5⟩ | h)
          · exact Or.inl ⟨by omega, by omega, y, a3, a4, a5⟩
          · exact Or.inr h

/-- What stands beneath a node are just the nodes from its Left on to it. -/
theorem anc_is (s : ByteArray) (k : Fo) {i n : Nat} {x : Nd} (hi : i < fnodes k + 1) (hx : (ndT 0 s k (-1))[n]? = some x) : n ∈ anc (ndT 0 s k (-1)) i ↔ (x.left ≤ (i : Int) ∧ i ≤ n) := by
  have hu := ndT_up s k
  have hf : (ndF 0 k ((0 + fnodes k : Nat) : Int)).length = fnodes k := ndF_length _ _ _
  have hroot : (ndT 0 s k (-1))[fnodes k]? = some ⟨s, -1, ((0 : Nat) : Int)⟩ := by
    unfold ndT
    rw [List.getElem?_append_right (by omega), hf]
    simp
  have hr : anc (ndT 0 s k (-1)) (fnodes k) = [fnodes k] := anc_root hroot (by show (-1 : Int) < 0; decide)
  have hnl := (List.getElem?_eq_some_iff.1 hx).1
  rw [ndT_length] at hnl
  have hin : ∀ i y, (ndF 0 k ((0 + fnodes k : Nat) : Int))[i]? = some y → (ndT 0 s k (-1))[0 + i]? = some y := fun i y hy => by
    have hi := (List.getElem?_eq_some_iff.1 hy).1
    unfold ndT
    rw [Nat.zero_add i, List.getElem?_append_left hi]
    exact hy
  by_cases h : i < fnodes k
  · have := anc_forest hu k 0 (0 + fnodes k) hin (Nat.le_refl _) i h n
    rw [Nat.zero_add i, Nat.zero_add (fnodes k), hr] at this
    rw [this]
    constructor
    · rintro (⟨_, _, y, h1, h2, h3⟩ | h1)
      · rw [hx] at h1
        simp only [Option.some.injEq] at h1
        subst h1
        exact ⟨h2, h3⟩
      · have h1 : n = fnodes k := by simpa using h1
        subst h1
        rw [hroot] at hx
        simp only [Option.some.injEq] at hx
        subst hx
        exact ⟨by simp only; omega, by omega⟩
    · rintro ⟨h1, h2⟩
      by_cases hn : n = fnodes k
      · exact Or.inr (by simp [hn])
      · exact Or.inl ⟨by omega, by omega, x, hx, h1, h2⟩
  · have hie : i = fnodes k := by omega
    subst hie
    rw [hr]
    constructor
    · intro h1
      have h1 : n = fnodes k := by simpa using h1
      subst h1
      rw [hroot] at hx
      simp only [Option.some.injEq] at hx
      subst hx
      exact ⟨by simp only; omega, Nat.le_refl _⟩
    · rintro ⟨h1, h2⟩
      have : n = fnodes k := by omega
      simp [this]

theorem nd_left {s : ByteArray} {k : Fo} {n : Nat} {x : Nd} (hx : (ndT 0 s k (-1))[n]? = some x) : 0 ≤ x.left ∧ x.left ≤ (n : Int) := by
  have hl := (List.getElem?_eq_some_iff.1 hx).1
  rw [ndT_length] at hl
  unfold ndT at hx
  by_cases h : n < fnodes k
  · rw [List.getElem?_append_left (by rw [ndF_length]; exact h)] at hx
    have := ndF_left k 0 _ n x hx
    omega
  · rw [List.getElem?_append_right (by rw [ndF_length]; omega), ndF_length, show n - fnodes k = 0 by omega] at hx
    simp at hx
    subst hx
    simp only
    omega
/-- Its parent is the first one behind it beneath which it stands. -/
theorem nd_parent {s : ByteArray} {k : Fo} {n p : Nat} {x y : Nd} (hx : (ndT 0 s k (-1))[n]? = some x) (hp : x.par = (p : Int)) (hy : (ndT 0 s k (-1))[p]? = some y) :
    n < p ∧ y.left ≤ x.left ∧ ∀ j z, n < j → j < p → (ndT 0 s k (-1))[j]? = some z → (n : Int) < z.left := by
  have hu := ndT_up s k
  have hlx := (List.getElem?_eq_some_iff.1 hx).1
  have hly := (List.getElem?_eq_some_iff.1 hy).1
  rw [ndT_length] at hlx hly
  have h1 := hu n x hx
  have hak := anc_kid hu hx hp
  have hpp : p ∈ anc (ndT 0 s k (-1)) p := (anc_is s k hly hy).2 ⟨by have := (nd_left hy).2; omega, Nat.le_refl _⟩
  have hpn : p ∈ anc (ndT 0 s k (-1)) n := by rw [hak]; exact List.mem_cons_of_mem _ hpp
  refine ⟨by omega, ?_, fun j z hj1 hj2 hz => ?_⟩
  · obtain ⟨l, hl⟩ : ∃ l : Nat, x.left = (l : Int) := ⟨x.left.toNat, by have := (nd_left hx).1; omega⟩
    have hln := (nd_left hx).2
    have hnl : n ∈ anc (ndT 0 s k (-1)) l := (anc_is s k (by omega) hx).2 ⟨by omega, by omega⟩
    have hpl : p ∈ anc (ndT 0 s k (-1)) l := anc_trans hu _ l n p (by omega) hnl hpn
    have := (anc_is s k (i := l) (by omega) hy).1 hpl
    omega
  · have hlz := (List.getElem?_eq_some_iff.1 hz).1
    rw [ndT_length] at hlz
    by_cases hle : z.left ≤ (n : Int)
    · have hjn : j ∈ anc (ndT 0 s k (-1)) n := (anc_is s k (by omega) hz).2 ⟨hle, by omega⟩
      rw [hak, List.mem_cons] at hjn
      rcases hjn with h | h
      · omega
      · have := anc_ge hu _ p j h
        omega
    · omega
theorem nd_last {s : ByteArray} {k : Fo} {n : Nat} {x : Nd} (hx : (ndT 0 s k (-1))[n]? = some x) (h : x.par < 0) : n = fnodes k := by
  have hl := (List.getElem?_eq_some_iff.1 hx).1
  rw [ndT_length] at hl
  by_cases hn : n < fnodes k
  · unfold ndT at hx
    rw [List.getElem?_append_left (by rw [ndF_length]; exact hn)] at hx
    have := ndF_up k 0 (0 + fnodes k) (Nat.le_refl _) n x hx
    omega
  · omega

/-- At its path stands its tree. -/
theorem at_forest : ∀ (k : Fo) (b : Nat) (p : Int) (c i : Nat) (x : Nd), (ndF b k p)[i]? = some x → ∃ a π b' o' z kk r y, (pths k c)[i]? = some ((c + a) :: π) ∧ a < flen k ∧ fdrop a k = .node b' o' z kk r ∧ atT (z.1, z.2.1, z.2.2, kk) (ints π) = some y ∧ y.1 = x.lab ∧ (fnodes y.2.2.2 : Int) = ((b + i : Nat) : Int) - x.left
  | .nil, _, _, _, i, x, h => by simp [ndF] at h
  | .node b9 o9 w k r, b, p, c, i, x, h => by
    simp only [ndF] at h
    by_cases h1 : i < fnodes k
    · rw [List.getElem?_append_left (by rw [ndF_length]; omega)] at h
      obtain ⟨a, π, b', o', z, kk, r', y, e1, e2, e3, e4, e5, e6⟩ := at_forest k b _ 0 i x h
      refine ⟨0, (0 + a) :: π, b9, o9, w, k, r, y, ?_, by simp [flen], rfl, ?_, e5, e6⟩
      · simp only [pths]
        rw [List.getElem?_append_left (by rw [List.length_map, pths_length]; exact h1), List.getElem?_map, e1]
        rfl
      · show atT (w.1, w.2.1, w.2.2, k) (((0 + a : Nat) : Int) :: ints π) = some y
        unfold atT
        simp only [Nat.zero_add]
        rw [if_pos (by omega), Int.toNat_natCast, e3]
        exact e4
    · rw [List.getElem?_append_right (by rw [ndF_length]; omega), ndF_length] at h
      by_cases h2 : i = fnodes k
      · subst h2
        simp at h
        subst h
        refine ⟨0, [], b9, o9, w, k, r, (w.1, w.2.1, w.2.2, k), ?_, by simp [flen], rfl, rfl, rfl, ?_⟩
        · simp only [pths]
          rw [List.getElem?_append_right (by rw [List.length_map, pths_length]; omega), List.length_map, pths_length, Nat.sub_self]
          rfl
        · simp only
          omega
      · obtain ⟨j, hj⟩ : ∃ j, i - fnodes k = j + 1 := ⟨i - fnodes k - 1, by omega⟩
        rw [hj, List.getElem?_cons_succ] at h
        obtain ⟨a, π, b', o', z, kk, r', y, e1, e2, e3, e4, e5, e6⟩ := at_forest r (b + fnodes k + 1) p (c + 1) j x h
        refine ⟨a + 1, π, b', o', z, kk, r', y, ?_, by simp [flen]; omega, e3, e4, e5, by omega⟩
        simp only [pths]
        rw [List.getElem?_append_right (by rw [List.length_map, pths_length]; omega), List.length_map, pths_length, hj, List.getElem?_cons_succ, e1]
        congr 2
        omega
theorem at_node {s : ByteArray} {k : Fo} {n : Nat} {x : Nd} (ka : Option Addr) (cap : Nat) (hx : (ndT 0 s k (-1))[n]? = some x) : ∃ y, atT (s, ka, cap, k) (ints (pathP (ndT 0 s k (-1)) n)) = some y ∧ y.1 = x.lab ∧ (fnodes y.2.2.2 : Int) = (n : Int) - x.left := by
  have hl := (List.getElem?_eq_some_iff.1 hx).1
  rw [ndT_length] at hl
  have hpi := path_is s k n hl
  unfold ptT at hpi
  unfold ndT at hx
  by_cases h : n < fnodes k
  · rw [List.getElem?_append_left (by rw [ndF_length]; exact h)] at hx
    rw [List.getElem?_append_left (by rw [pths_length]; exact h)] at hpi
    obtain ⟨a, π, b', o', z, kk, r', y, e1, e2, e3, e4, e5, e6⟩ := at_forest k 0 _ 0 n x hx
    rw [e1] at hpi
    simp only [Option.some.injEq] at hpi
    rw [← hpi]
    refine ⟨y, ?_, e5, by omega⟩
    show atT (s, ka, cap, k) (((0 + a : Nat) : Int) :: ints π) = some y
    unfold atT
    simp only [Nat.zero_add]
    rw [if_pos (by omega), Int.toNat_natCast, e3]
    exact e4
  · have hn : n = fnodes k := by omega
    subst hn
    rw [List.getElem?_append_right (by rw [ndF_length]; omega), ndF_length, Nat.sub_self] at hx
    rw [List.getElem?_append_right (by rw [pths_length]; omega), pths_length, Nat.sub_self] at hpi
    simp at hx hpi
    subst hx
    rw [hpi]
    exact ⟨(s, ka, cap, k), rfl, rfl, by simp only; omega⟩
/-- What is at a path lies in memory. -/
theorem atT_lies {w : World} : ∀ (ps : List Int) (i y : It), TIn w i.1 i.2.1 i.2.2.1 i.2.2.2 → atT i ps = some y → TIn w y.1 y.2.1 y.2.2.1 y.2.2.2
  | [], i, y, h, he => by
    simp only [atT, Option.some.injEq] at he
    subst he
    exact h
  | p :: ps, i, y, h, he => by
    unfold atT at he
    split at he
    · rename_i hp
      split at he
      · rename_i b o x kk r hd
        refine atT_lies ps _ y ?_ he
        rcases h.kids with hk | ⟨kb, ko, hk, hin⟩
        · rw [hk] at hd
          have : fdrop p.toNat (.nil : Fo) = .nil := fdrop_end _ _ (by simp [flen])
          rw [this] at hd
          cases hd
        · obtain ⟨b', o', x', k', e1, _, _, e4, _⟩ := hin.at (j := p.toNat) (by omega)
          rw [hd] at e1
          injection e1 with _ _ e5 e6 _
          subst e5 e6
          exact e4
      · cases he
    · cases he

end Go.Proofs.Ytafojlockiekfaa
