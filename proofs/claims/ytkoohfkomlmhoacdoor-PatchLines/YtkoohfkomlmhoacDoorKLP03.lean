/- Deeds as lines, and back: bytes and numbers alone. Of no program. -/
/- Numbers that lie in memory. Of no program. -/
import Derived.Lib.ItoaMem
import Derived.Test.YtkoohfkomlmhoacDoorKLP02
import Derived.Test.YtkoohfkomlmhoacDoorKLP00
namespace Go.Proofs.YtkoohfkomlmhoacDoor.Pat
open Go.Deep Go.RowKit Deed
set_option linter.unusedVariables false
set_option maxRecDepth 20000

/-- A text, where a byte stands: there is at least one piece. -/
def cutP (c : UInt8) : List UInt8 → List (List UInt8)
  | [] => [[]]
  | x :: l => if x = c then [] :: cutP c l else match cutP c l with
    | [] => [[x]]
    | p :: ps => (x :: p) :: ps
/-- Pieces, one behind the other, with that byte between. -/
def joinP (c : UInt8) : List (List UInt8) → List UInt8
  | [] => []
  | [p] => p
  | p :: q :: ps => p ++ c :: joinP c (q :: ps)
theorem cutP_ne (c : UInt8) : ∀ l, cutP c l ≠ []
  | [], h => by simp [cutP] at h
  | x :: l, h => by
    unfold cutP at h
    split at h
    · cases h
    · split at h <;> cases h
theorem join_cut (c : UInt8) : ∀ l, joinP c (cutP c l) = l
  | [] => rfl
  | x :: l => by
    have ih := join_cut c l
    unfold cutP
    split
    · rename_i h
      cases hc : cutP c l with
      | nil => exact absurd hc (cutP_ne c l)
      | cons p ps =>
        rw [hc] at ih
        rw [joinP, ih, h]
        rfl
    · cases hc : cutP c l with
      | nil => exact absurd hc (cutP_ne c l)
      | cons p ps =>
        rw [hc] at ih
        simp only
        cases ps with
        | nil => simp only [joinP] at ih ⊢; rw [ih]
        | cons q qs =>
          simp only [joinP] at ih ⊢
          rw [List.cons_append, ih]
theorem cut_none (c : UInt8) : ∀ l, c ∉ l → cutP c l = [l]
  | [], _ => rfl
  | x :: l, h => by
    simp only [List.mem_cons, not_or] at h
    unfold cutP
    rw [if_neg (fun e => h.1 e.symm), cut_none c l h.2]
theorem cut_append (c : UInt8) : ∀ (p l : List UInt8), c ∉ p → cutP c (p ++ c :: l) = p :: cutP c l
  | [], l, _ => by
    rw [List.nil_append, cutP, if_pos rfl]
  | x :: p, l, h => by
    simp only [List.mem_cons, not_or] at h
    rw [List.cons_append, cutP, if_neg (fun e => h.1 e.symm), cut_append c p l h.2]
theorem cut_join (c : UInt8) : ∀ (ps : List (List UInt8)), ps ≠ [] → (∀ p, p ∈ ps → c ∉ p) → cutP c (joinP c ps) = ps
  | [], h, _ => absurd rfl h
  | [p], _, h => cut_none c p (h p (by simp))
  | p :: q :: ps, _, h => by
    rw [joinP, cut_append c p _ (h p (by simp)), cut_join c (q :: ps) (by simp) (fun r hr => h r (by simp [hr]))]
/-- A number from 0 to 999, as short as can be. -/
def digitB (c : UInt8) : Bool := decide (48 ≤ c.toNat) && decide (c.toNat ≤ 57)
def fewP (s : List UInt8) : Option Nat :=
  if s.length < 1 ∨ 3 < s.length ∨ (s.head? = some 48 ∧ 1 < s.length) then none
  else if s.all digitB = true then some (s.foldl (fun n c => n * 10 + (c.toNat - 48)) 0) else none
theorem few_num_fin : ∀ n : Fin 1000, fewP (Lib.decDigits n.val) = some n.val := by
  intro n
  by_cases h1 : n.val < 10
  · rw [Lib.decDigits_one h1]
    have : ∀ m : Fin 10, fewP [UInt8.ofNat (48 + m.val)] = some m.val := by decide +kernel
    exact this ⟨n.val, h1⟩
  · by_cases h2 : n.val < 100
    · rw [Lib.decDigits_two h1 h2]
      have : ∀ m : Fin 100, ¬ m.val < 10 → fewP [UInt8.ofNat (48 + m.val / 10), UInt8.ofNat (48 + m.val % 10)] = some m.val := by decide +kernel
      exact this ⟨n.val, h2⟩ h1
    · rw [Lib.decDigits, dif_neg h1, Lib.decDigits_two (by omega) (by omega)]
      have : ∀ m : Fin 1000, ¬ m.val < 100 → fewP ([UInt8.ofNat (48 + m.val / 10 / 10), UInt8.ofNat (48 + m.val / 10 % 10)] ++ [UInt8.ofNat (48 + m.val % 10)]) = some m.val := by decide +kernel
      exact this n h2
theorem few_num {n : Nat} (h : n ≤ 999) : fewP (Lib.decDigits n) = some n := few_num_fin ⟨n, by omega⟩
theorem digit_of {c : UInt8} (h : digitB c = true) : ∃ m, m < 10 ∧ c = UInt8.ofNat (48 + m) ∧ c.toNat - 48 = m := by
  unfold digitB at h
  simp only [Bool.and_eq_true, decide_eq_true_eq] at h
  refine ⟨c.toNat - 48, by omega, ?_, rfl⟩
  rw [show 48 + (c.toNat - 48) = c.toNat by omega]
  simp
/-- What is such a number is written so. -/
theorem few_is {s : List UInt8} {n : Nat} (h : fewP s = some n) : n ≤ 999 ∧ Lib.decDigits n = s := by
  unfold fewP at h
  split at h
  · cases h
  · rename_i hn
    split at h
    · rename_i ha
      simp only [Option.some.injEq] at h
      simp only [not_or, Nat.not_lt] at hn
      obtain ⟨h1, h2, h3⟩ := hn
      match s, h1, h2, h3, ha, h with
      | [a], _, _, _, ha, h =>
        simp only [List.all_cons, List.all_nil, Bool.and_true] at ha
        obtain ⟨m, hm, e, e'⟩ := digit_of ha
        simp only [List.foldl, e'] at h
        rw [e, show n = m by omega, Lib.decDigits_one hm]
        exact ⟨by omega, rfl⟩
      | [a, b], _, _, h3, ha, h =>
        simp only [List.all_cons, List.all_nil, Bool.and_true, Bool.and_eq_true] at ha
        obtain ⟨m, hm, e, e'⟩ := digit_of ha.1
        obtain ⟨k, hk, f, f'⟩ := digit_of ha.2
        simp only [List.foldl, e', f'] at h
        have hm0 : m ≠ 0 := fun h0 => h3 ⟨by rw [e, h0]; rfl, by simp⟩
        have hn : n = m * 10 + k := by omega
        rw [Lib.decDigits_two (by omega) (by omega), show n / 10 = m by omega, show n % 10 = k by omega, e, f]
        exact ⟨by omega, rfl⟩
      | [a, b, c], _, _, h3, ha, h =>
        simp only [List.all_cons, List.all_nil, Bool.and_true, Bool.and_eq_true] at ha
        obtain ⟨m, hm, e, e'⟩ := digit_of ha.1
        obtain ⟨k, hk, f, f'⟩ := digit_of ha.2.1
        obtain ⟨j, hj, g, g'⟩ := digit_of ha.2.2
        simp only [List.foldl, e', f', g'] at h
        have hm0 : m ≠ 0 := fun h0 => h3 ⟨by rw [e, h0]; rfl, by simp⟩
        have hn : n = (m * 10 + k) * 10 + j := by omega
        rw [Lib.decDigits, dif_neg (by omega), Lib.decDigits_two (by omega) (by omega), show n / 10 / 10 = m by omega, show n / 10 % 10 = k by omega, show n % 10 = j by omega, e, f, g]
        exact ⟨by omega, rfl⟩
    · cases h
theorem dec_digits : ∀ (n : Nat) (c : UInt8), c ∈ Lib.decDigits n → digitB c = true := fun n => by
  induction n using Nat.strongRecOn with
  | _ n ih =>
    intro c hc
    have key : ∀ m : Fin 10, digitB (UInt8.ofNat (48 + m.val)) = true := by decide +kernel
    by_cases h : n < 10
    · rw [Lib.decDigits_one h, List.mem_singleton] at hc
      rw [hc]
      exact key ⟨n, h⟩
    · rw [Lib.decDigits, dif_neg h, List.mem_append, List.mem_singleton] at hc
      rcases hc with hc | hc
      · exact ih (n / 10) (by omega) c hc
      · rw [hc]
        exact key ⟨n % 10, by omega⟩
theorem dec_ne (n : Nat) : Lib.decDigits n ≠ [] := fun h => by
  rw [Lib.decDigits] at h
  split at h
  · cases h
  · simp at h
end Go.Proofs.YtkoohfkomlmhoacDoor.Pat
namespace Go.Proofs.YtkoohfkomlmhoacDoor
open Go.Deep Go.RowKit
set_option linter.unusedVariables false
set_option maxRecDepth 20000

/-- The numbers of a path lie in w, behind the address pa. -/
def PIn (w : World) (pa : Option Addr) (ps : List Int) : Prop := ps = [] ∨ ∃ b o, pa = some ⟨b, o, none⟩ ∧ ∀ i p, ps[i]? = some p → w.cell? ⟨b, o + i, none⟩ = some (.int .i64 p)

theorem PIn.below {w w' : World} (h : Below w.heap.size w w') {pa : Option Addr} {ps : List Int} (hk : PIn w pa ps) : PIn w' pa ps := by
  rcases hk with hk | ⟨b, o, e, hk⟩
  · exact Or.inl hk
  · refine Or.inr ⟨b, o, e, fun i p hp => ?_⟩
    have h1 := hk i p hp
    rw [h.cell (World.block_lt_of_cell? _ _ h1)]
    exact h1
end Go.Proofs.YtkoohfkomlmhoacDoor
