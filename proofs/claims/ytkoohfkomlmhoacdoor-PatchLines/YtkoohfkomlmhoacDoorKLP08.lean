/- What the library's searches in a text and its numbers come to, by pieces and short numbers: bytes and numbers alone. Of no program. -/
/- few of package pleachingref: a number from 0 to 999, as short as can be. Of the program's text. -/
import Derived.Lib.SplitLaws
import Derived.Lib.Strings
import Derived.Lib.Bytealg
import Derived.Lib.Join
import Derived.Lib.AtoiAll
import Derived.Test.YtkoohfkomlmhoacDoorKLP03
import Derived.Test.YtkoohfkomlmhoacDoorProg
import Derived.Deep.LoopGhost
import Derived.WalkSmall
import Derived.WalkSpells
import Derived.Test.YtkoohfkomlmhoacDoorKLP06
import Derived.Test.YtkoohfkomlmhoacDoorKLP07
namespace Go.Proofs.YtkoohfkomlmhoacDoor.Pat
open Go.Deep Go.RowKit Deed
set_option linter.unusedVariables false
set_option maxRecDepth 20000

theorem index_cons (c b : UInt8) (l : List UInt8) : Lib.index (b :: l) [c] = if b = c then 0 else if Lib.index l [c] = -1 then -1 else Lib.index l [c] + 1 := by
  by_cases h : b = c
  · subst h
    rw [if_pos rfl, Lib.index]
    simp [List.isPrefixOf]
  · have hp : ([c] : List UInt8).isPrefixOf (b :: l) = false := by simp [List.isPrefixOf, Ne.symm h]
    rw [if_neg h, Lib.index, hp]
    simp
/-- Where a byte stands first, and what the pieces are then. -/
theorem index_one (c : UInt8) : ∀ l : List UInt8, (c ∉ l ∧ Lib.index l [c] = -1 ∧ cutP c l = [l]) ∨ (∃ p r, l = p ++ c :: r ∧ c ∉ p ∧ Lib.index l [c] = ((p.length : Nat) : Int) ∧ cutP c l = p :: cutP c r)
  | [] => Or.inl ⟨by simp, by simp [Lib.index], rfl⟩
  | b :: l => by
    by_cases h : b = c
    · exact Or.inr ⟨[], l, by rw [h]; rfl, by simp, by rw [index_cons, if_pos h]; rfl, by rw [cutP, if_pos h]⟩
    · rcases index_one c l with ⟨h1, h2, h3⟩ | ⟨p, r, h1, h2, h3, h4⟩
      · refine Or.inl ⟨fun hm => ?_, by rw [index_cons, if_neg h, if_pos h2], by rw [cutP, if_neg h, h3]⟩
        rcases List.mem_cons.1 hm with e | hm
        · exact h e.symm
        · exact h1 hm
      · refine Or.inr ⟨b :: p, r, by rw [h1]; rfl, fun hm => ?_, ?_, by rw [cutP, if_neg h, h4]⟩
        · rcases List.mem_cons.1 hm with e | hm
          · exact h e.symm
          · exact h2 hm
        · rw [index_cons, if_neg h, if_neg (by omega), h3, List.length_cons]
          omega
/-- strings.Cut at one byte. -/
theorem cut_one (c : UInt8) (l : List UInt8) : (c ∉ l ∧ Lib.cut l [c] = (l, [], false) ∧ cutP c l = [l]) ∨ (∃ p r, l = p ++ c :: r ∧ c ∉ p ∧ Lib.cut l [c] = (p, r, true) ∧ cutP c l = p :: cutP c r) := by
  rcases index_one c l with ⟨h1, h2, h3⟩ | ⟨p, r, h1, h2, h3, h4⟩
  · exact Or.inl ⟨h1, by unfold Lib.cut; rw [h2, if_neg (by omega)], h3⟩
  · refine Or.inr ⟨p, r, h1, h2, ?_, h4⟩
    unfold Lib.cut
    rw [h3, if_pos (by omega), Int.toNat_natCast, h1]
    simp
/-- strings.SplitN at one byte: the pieces, or one more than that number of cuts. -/
theorem split_one (c : UInt8) : ∀ (k : Nat) (l : List UInt8), (Lib.splitK [c] 0 k l).length = min (k + 1) (cutP c l).length ∧ ((cutP c l).length ≤ k + 1 → Lib.splitK [c] 0 k l = cutP c l)
  | 0, l => by
    have hne := cutP_ne c l
    have hl : 0 < (cutP c l).length := List.length_pos_iff.2 hne
    refine ⟨by simp only [Lib.splitK, List.length_cons, List.length_nil]; omega, fun h => ?_⟩
    rcases index_one c l with ⟨_, _, h3⟩ | ⟨p, r, _, _, _, h4⟩
    · rw [h3]; rfl
    · rw [h4, List.length_cons] at h
      have := List.length_pos_iff.2 (cutP_ne c r)
      omega
  | k + 1, l => by
    rcases index_one c l with ⟨_, h2, h3⟩ | ⟨p, r, h1, _, h3, h4⟩
    · rw [Lib.splitK, if_pos (beq_iff_eq.2 h2), h3]
      exact ⟨by simp only [List.length_cons, List.length_nil]; omega, fun _ => rfl⟩
    · obtain ⟨q1, q2⟩ := split_one c k r
      have e : Lib.splitK [c] 0 (k + 1) l = p :: Lib.splitK [c] 0 k r := by
        rw [Lib.splitK, if_neg (by simp only [beq_iff_eq]; omega), h3, Int.toNat_natCast, h1]
        simp
      rw [e, h4]
      refine ⟨by simp only [List.length_cons, q1]; omega, fun h => ?_⟩
      rw [q2 (by simp only [List.length_cons] at h; omega)]
theorem cut_count (c : UInt8) : ∀ l : List UInt8, (cutP c l).length = l.count c + 1
  | [] => rfl
  | b :: l => by
    have ih := cut_count c l
    unfold cutP
    by_cases h : b = c
    · rw [if_pos h, List.length_cons, ih, h]; simp
    · rw [if_neg h, List.count_cons_of_ne (by simpa using h), ← ih]
      split
      · rename_i h0; exact absurd h0 (cutP_ne c l)
      · rename_i p ps h0; rw [h0]; rfl
theorem last_cons (p : List UInt8) {ps : List (List UInt8)} (h : ps ≠ []) : (p :: ps).getLastD [] = ps.getLastD [] := by
  cases ps with
  | nil => exact absurd rfl h
  | cons a b => simp
theorem cut_last (c : UInt8) : ∀ l : List UInt8, l ≠ [] → ((cutP c l).getLastD [] = [] ↔ Lib.hasSuffix l [c] = true)
  | [], h => absurd rfl h
  | [b], _ => by
    unfold Lib.hasSuffix
    by_cases h : b = c
    · subst h; simp [cutP]
    · simp [cutP, h, List.isSuffixOf, List.isPrefixOf, Ne.symm h]
  | b :: d :: l, _ => by
    have ih := cut_last c (d :: l) (by simp)
    have hs : Lib.hasSuffix (b :: d :: l) [c] = Lib.hasSuffix (d :: l) [c] := by
      unfold Lib.hasSuffix
      rw [Bool.eq_iff_iff, List.isSuffixOf_iff_suffix, List.isSuffixOf_iff_suffix]
      constructor
      · rintro ⟨t, ht⟩
        cases t with
        | nil => simp at ht
        | cons a t =>
          injection ht with h1 h2
          exact ⟨t, h2⟩
      · rintro ⟨t, ht⟩
        exact ⟨b :: t, by rw [List.cons_append, ht]⟩
    rw [hs, ← ih, cutP]
    by_cases h : b = c
    · rw [if_pos h, last_cons _ (cutP_ne _ _)]
    · rw [if_neg h]
      cases hc : cutP c (d :: l) with
      | nil => exact absurd hc (cutP_ne _ _)
      | cons q qs =>
        simp only
        cases qs with
        | nil =>
          -- the one piece is the whole rest
          have hq : q = d :: l := by
            have := join_cut c (d :: l)
            rw [hc] at this
            exact this
          simp [hq]
        | cons a e => rw [last_cons (b :: q) (ps := a :: e) (by simp), last_cons q (ps := a :: e) (by simp)]
theorem join_is (c : UInt8) : ∀ ps : List (List UInt8), Lib.join ps [c] = joinP c ps
  | [] => rfl
  | [p] => by rw [Lib.join_one]; rfl
  | p :: q :: ps => by
    have ih := join_is c (q :: ps)
    unfold Lib.join at ih ⊢
    rw [joinP, ← ih]
    simp [List.intercalate, List.intersperse]
/-- A short number is read as it is. -/
theorem atoi_num_fin : ∀ n : Fin 1000, Lib.atoiAll (Lib.decDigits n.val) = .ok (n.val : Int) := by
  intro n
  by_cases h1 : n.val < 10
  · rw [Lib.decDigits_one h1]
    have : ∀ m : Fin 10, Lib.atoiAll [UInt8.ofNat (48 + m.val)] = .ok (m.val : Int) := by decide +kernel
    exact this ⟨n.val, h1⟩
  · by_cases h2 : n.val < 100
    · rw [Lib.decDigits_two h1 h2]
      have : ∀ m : Fin 100, ¬ m.val < 10 → Lib.atoiAll [UInt8.ofNat (48 + m.val / 10), UInt8.ofNat (48 + m.val % 10)] = .ok (m.val : Int) := by decide +kernel
      exact this ⟨n.val, h2⟩ h1
    · rw [Lib.decDigits, dif_neg h1, Lib.decDigits_two (by omega) (by omega)]
      have : ∀ m : Fin 1000, ¬ m.val < 100 → Lib.atoiAll ([UInt8.ofNat (48 + m.val / 10 / 10), UInt8.ofNat (48 + m.val / 10 % 10)] ++ [UInt8.ofNat (48 + m.val % 10)]) = .ok (m.val : Int) := by decide +kernel
      exact this n h2
theorem atoi_few {s : List UInt8} {n : Nat} (h : fewP s = some n) : Lib.atoiAll s = .ok (n : Int) ∧ n ≤ 999 ∧ Lib.itoa (n : Int) = s := by
  obtain ⟨h1, h2⟩ := few_is h
  have := atoi_num_fin ⟨n, by omega⟩
  simp only at this
  rw [h2] at this
  exact ⟨this, h1, by rw [Lib.itoa_nonneg, h2]⟩
theorem few_atoi {s : List UInt8} {v : Int} (h0 : 0 ≤ v) (h9 : v ≤ 999) (hi : Lib.itoa v = s) : fewP s = some v.toNat := by
  have e : v = (v.toNat : Int) := by omega
  rw [e, Lib.itoa_nonneg] at hi
  rw [← hi]
  exact few_num (by omega)
theorem few_not {s : List UInt8} (h : ∀ v : Int, Lib.atoiAll s = .ok v → ¬ (0 ≤ v ∧ v ≤ 999 ∧ Lib.itoa v = s)) : fewP s = none := by
  cases hf : fewP s with
  | none => rfl
  | some n =>
    obtain ⟨h1, h2, h3⟩ := atoi_few hf
    exact absurd ⟨by omega, by omega, h3⟩ (h _ h1)
end Go.Proofs.YtkoohfkomlmhoacDoor.Pat
namespace Go.Proofs.YtkoohfkomlmhoacDoor.Pat
open Go.Deep Go.RowKit Deed
set_option linter.unusedVariables false
set_option maxRecDepth 20000

/-- What few tells. -/
def fewE (l : List UInt8) : Nat × Bool := match fewP l with
  | none => (0, false)
  | some n => (n, true)
end Go.Proofs.YtkoohfkomlmhoacDoor.Pat
