/- Deeds done to trees, and undone: trees and numbers alone. Of no program. -/
/- Deeds as lines, and back: bytes and numbers alone. Of no program. -/
import Derived.Test.YtkoohfkomlmhoacGreatDoorKDP01
import Derived.Test.YtkoohfkomlmhoacGreatDoorKDP02
import Derived.Lib.ItoaMem
namespace Go.Proofs.YtkoohfkomlmhoacGreatDoor.Deed
open Go.Deep Go.RowKit
set_option linter.unusedVariables false
set_option maxRecDepth 20000

theorem gs_len : ∀ k : Fo, (gsF k).length = flen k
  | .nil => rfl
  | .node _ _ x k r => by simp [gsF, flen, gs_len r]
theorem gs_strip : ∀ k : Fo, gsF (strip k) = gsF k
  | .nil => rfl
  | .node _ _ x k r => by simp [gsF, strip, gs_strip r, strip_strip]
/-- What is done to a node: a code, and what comes of it. -/
abbrev Op := ByteArray → Fo → Int × ByteArray × Fo
/-- Done at the node at a path. -/
def modP (op : Op) : List Nat → Op
  | [], s, k => op s k
  | p :: ps, s, k => match (gsF k)[p]? with
    | none => (7, s, k)
    | some x => ((modP op ps x.1 x.2).1, s, toFo ((gsF k).set p (modP op ps x.1 x.2).2))
def namOp (lab : ByteArray) : Op := fun _ k => (0, lab, strip k)
def delOp (i : Nat) : Op := fun s k => match (gsF k)[i]? with
  | none => (7, s, k)
  | some x => (0, s, toFo ((gsF k).take i ++ (gsF x.2 ++ (gsF k).drop (i + 1))))
def insOp (i n : Nat) (lab : ByteArray) : Op := fun s k => if i + n ≤ flen k then (0, s, toFo ((gsF k).take i ++ ((lab, toFo (((gsF k).drop i).take n)) :: (gsF k).drop (i + n)))) else (9, s, k)

/-- A deed: its kind, where, at which place and how many, its label. -/
structure Dd where
  kind : Int
  path : List Int
  pos : Int
  many : Int
  lab : ByteArray
/-- The code of a deed. -/
def deedFault (d : Dd) : Int :=
  if d.kind ≠ 1 ∧ d.kind ≠ 2 ∧ d.kind ≠ 3 then 10
  else if (d.kind ≠ 3 ∧ (d.pos ≠ 0 ∨ d.many ≠ 0)) ∨ (d.kind = 2 ∧ d.lab ≠ ⟨#[]⟩) then 6
  else if d.pos < 0 ∨ d.many < 0 ∨ d.path.any (fun p => decide (p < 0)) = true then 9
  else if d.kind ≠ 2 ∧ labelB d.lab = false then 1
  else if d.kind = 2 ∧ d.path = [] then 8
  else 0
def nats (l : List Int) : List Nat := l.map Int.toNat
theorem ints_nats : ∀ {l : List Int}, l.any (fun p => decide (p < 0)) = false → (nats l).map (fun n => ((n : Nat) : Int)) = l
  | [], _ => rfl
  | p :: l, h => by
    simp only [List.any_cons, Bool.or_eq_false_iff, decide_eq_false_iff_not] at h
    have := ints_nats h.2
    simp only [nats, List.map_cons] at this ⊢
    rw [this, show ((p.toNat : Nat) : Int) = p by omega]
theorem deedFault_zero {d : Dd} (h : deedFault d = 0) : (d.kind = 1 ∨ d.kind = 2 ∨ d.kind = 3) ∧ (d.kind ≠ 3 → d.pos = 0 ∧ d.many = 0) ∧ (d.kind = 2 → d.lab = ⟨#[]⟩) ∧ 0 ≤ d.pos ∧ 0 ≤ d.many ∧ d.path.any (fun p => decide (p < 0)) = false ∧ (d.kind ≠ 2 → labelB d.lab = true) ∧ (d.kind = 2 → d.path ≠ []) := by
  unfold deedFault at h
  by_cases h1 : d.kind ≠ 1 ∧ d.kind ≠ 2 ∧ d.kind ≠ 3
  · rw [if_pos h1] at h; cases h
  · rw [if_neg h1] at h
    by_cases h2 : (d.kind ≠ 3 ∧ (d.pos ≠ 0 ∨ d.many ≠ 0)) ∨ (d.kind = 2 ∧ d.lab ≠ ⟨#[]⟩)
    · rw [if_pos h2] at h; cases h
    · rw [if_neg h2] at h
      by_cases h3 : d.pos < 0 ∨ d.many < 0 ∨ d.path.any (fun p => decide (p < 0)) = true
      · rw [if_pos h3] at h; cases h
      · rw [if_neg h3] at h
        by_cases h4 : d.kind ≠ 2 ∧ labelB d.lab = false
        · rw [if_pos h4] at h; cases h
        · rw [if_neg h4] at h
          by_cases h5 : d.kind = 2 ∧ d.path = []
          · rw [if_pos h5] at h; cases h
          · refine ⟨by omega, fun hk => ?_, fun hk => ?_, by omega, by omega, ?_, fun hk => ?_, fun hk e => h5 ⟨hk, e⟩⟩
            · have : ¬ (d.pos ≠ 0 ∨ d.many ≠ 0) := fun e => h2 (Or.inl ⟨hk, e⟩)
              omega
            · exact Classical.byContradiction fun e => h2 (Or.inr ⟨hk, e⟩)
            · cases e : d.path.any (fun p => decide (p < 0))
              · rfl
              · exact absurd (Or.inr (Or.inr e)) h3
            · cases e : labelB d.lab
              · exact absurd ⟨hk, e⟩ h4
              · rfl
theorem any_append {a b : List Int} {f : Int → Bool} (h : (a ++ b).any f = false) : a.any f = false ∧ b.any f = false := by
  rw [List.any_append, Bool.or_eq_false_iff] at h
  exact h
/-- The code, by its parts. -/
theorem deedFault_mid {K P M : Int} {path : List Int} {lab : ByteArray} (h1 : K = 1 ∨ K = 2 ∨ K = 3) (h2 : ¬ ((K ≠ 3 ∧ (P ≠ 0 ∨ M ≠ 0)) ∨ (K = 2 ∧ lab ≠ ⟨#[]⟩))) {B : Bool} (hB : B = (decide (P < 0) || decide (M < 0))) :
    ((B || path.any (fun p => decide (p < 0))) = true → deedFault ⟨K, path, P, M, lab⟩ = 9) ∧
    ((B || path.any (fun p => decide (p < 0))) = false → deedFault ⟨K, path, P, M, lab⟩ = if K ≠ 2 ∧ labelB lab = false then 1 else if K = 2 ∧ path = [] then 8 else 0) := by
  have key : (B || path.any (fun p => decide (p < 0))) = true ↔ (P < 0 ∨ M < 0 ∨ path.any (fun p => decide (p < 0)) = true) := by
    rw [hB, Bool.or_eq_true, Bool.or_eq_true, decide_eq_true_eq, decide_eq_true_eq, or_assoc]
  constructor
  · intro h
    unfold deedFault
    rw [if_neg (by simp only; omega), if_neg h2, if_pos (key.1 h)]
  · intro h
    unfold deedFault
    rw [if_neg (by simp only; omega), if_neg h2, if_neg (fun e => by rw [key.2 e] at h; cases h)]
theorem deedFault_form {K P M : Int} {path : List Int} {lab : ByteArray} (h1 : K = 1 ∨ K = 2 ∨ K = 3) (h2 : (K ≠ 3 ∧ (P ≠ 0 ∨ M ≠ 0)) ∨ (K = 2 ∧ lab ≠ ⟨#[]⟩)) : deedFault ⟨K, path, P, M, lab⟩ = 6 := by
  unfold deedFault
  rw [if_neg (by simp only; omega), if_pos h2]
theorem deedFault_kind {K P M : Int} {path : List Int} {lab : ByteArray} (h1 : K ≠ 1) (h2 : K ≠ 2) (h3 : K ≠ 3) : deedFault ⟨K, path, P, M, lab⟩ = 10 := by
  unfold deedFault
  rw [if_pos ⟨h1, h2, h3⟩]
end Go.Proofs.YtkoohfkomlmhoacGreatDoor.Deed
namespace Go.Proofs.YtkoohfkomlmhoacGreatDoor.Pat
open Go.Deep Go.RowKit Deed
set_option linter.unusedVariables false
set_option maxRecDepth 20000

/-- A text, where a byte stands: there is at least one piece. -/
def cutP (c : UInt8) : List UInt8 → List (List UInt8)
  | [] => [[]]
  | x :: l => if x = c then [] :: cutP c l else match cutP c l with
    | [] => [[x]]
    | p :: ps => (x :: p) :: ps
/-- Pieces, one behind the other, with that byte between. -/
def joinP (c : UInt8) : List (List UInt8) → List UInt8
  | [] => []
  | [p] => p
  | p :: q :: ps => p ++ c :: joinP c (q :: ps)
theorem cutP_ne (c : UInt8) : ∀ l, cutP c l ≠ []
  | [], h => by simp [cutP] at h
  | x :: l, h => by
    unfold cutP at h
    split at h
    · cases h
    · split at h <;> cases h
theorem join_cut (c : UInt8) : ∀ l, joinP c (cutP c l) = l
  | [] => rfl
  | x :: l => by
    have ih := join_cut c l
    unfold cutP
    split
    · rename_i h
      cases hc : cutP c l with
      | nil => exact absurd hc (cutP_ne c l)
      | cons p ps =>
        rw [hc] at ih
        rw [joinP, ih, h]
        rfl
    · cases hc : cutP c l with
      | nil => exact absurd hc (cutP_ne c l)
      | cons p ps =>
        rw [hc] at ih
        simp only
        cases ps with
        | nil => simp only [joinP] at ih ⊢; rw [ih]
        | cons q qs =>
          simp only [joinP] at ih ⊢
          rw [List.cons_append, ih]
theorem cut_none (c : UInt8) : ∀ l, c ∉ l → cutP c l = [l]
  | [], _ => rfl
  | x :: l, h => by
    simp only [List.mem_cons, not_or] at h
    unfold cutP
    rw [if_neg (fun e => h.1 e.symm), cut_none c l h.2]
theorem cut_append (c : UInt8) : ∀ (p l : List UInt8), c ∉ p → cutP c (p ++ c :: l) = p :: cutP c l
  | [], l, _ => by
    rw [List.nil_append, cutP, if_pos rfl]
  | x :: p, l, h => by
    simp only [List.mem_cons, not_or] at h
    rw [List.cons_append, cutP, if_neg (fun e => h.1 e.symm), cut_append c p l h.2]
theorem cut_join (c : UInt8) : ∀ (ps : List (List UInt8)), ps ≠ [] → (∀ p, p ∈ ps → c ∉ p) → cutP c (joinP c ps) = ps
  | [], h, _ => absurd rfl h
  | [p], _, h => cut_none c p (h p (by simp))
  | p :: q :: ps, _, h => by
    rw [joinP, cut_append c p _ (h p (by simp)), cut_join c (q :: ps) (by simp) (fun r hr => h r (by simp [hr]))]
/-- One byte more. -/
def snocP (c x : UInt8) (ps : List (List UInt8)) : List (List UInt8) := if x = c then ps ++ [[]] else ps.dropLast ++ [ps.getLastD [] ++ [x]]
theorem cut_snoc (c x : UInt8) : ∀ l, cutP c (l ++ [x]) = snocP c x (cutP c l)
  | [] => by
    unfold snocP
    simp only [List.nil_append, cutP]
    split <;> rfl
  | y :: l => by
    have ih := cut_snoc c x l
    rw [List.cons_append, cutP, ih]
    conv => rhs; rw [cutP]
    cases hc : cutP c l with
    | nil => exact absurd hc (cutP_ne c l)
    | cons p ps =>
      unfold snocP
      by_cases h1 : y = c
      · rw [if_pos h1, if_pos h1]
        by_cases h2 : x = c
        · rw [if_pos h2, if_pos h2]; rfl
        · rw [if_neg h2, if_neg h2]; rfl
      · rw [if_neg h1, if_neg h1]
        simp only
        by_cases h2 : x = c
        · rw [if_pos h2, if_pos h2]; rfl
        · rw [if_neg h2, if_neg h2]
          cases ps with
          | nil => rfl
          | cons q qs => rfl

/-- A number from 0 to 999, as short as can be. -/
def digitB (c : UInt8) : Bool := decide (48 ≤ c.toNat) && decide (c.toNat ≤ 57)
def fewP (s : List UInt8) : Option Nat :=
  if s.length < 1 ∨ 3 < s.length ∨ (s.head? = some 48 ∧ 1 < s.length) then none
  else if s.all digitB = true then some (s.foldl (fun n c => n * 10 + (c.toNat - 48)) 0) else none
theorem few_num_fin : ∀ n : Fin 1000, fewP (Lib.decDigits n.val) = some n.val := by
  intro n
  by_cases h1 : n.val < 10
  · rw [Lib.decDigits_one h1]
    have : ∀ m : Fin 10, fewP [UInt8.ofNat (48 + m.val)] = some m.val := by decide +kernel
    exact this ⟨n.val, h1⟩
  · by_cases h2 : n.val < 100
    · rw [Lib.decDigits_two h1 h2]
      have : ∀ m : Fin 100, ¬ m.val < 10 → fewP [UInt8.ofNat (48 + m.val / 10), UInt8.ofNat (48 + m.val % 10)] = some m.val := by decide +kernel
      exact this ⟨n.val, h2⟩ h1
    · rw [Lib.decDigits, dif_neg h1, Lib.decDigits_two (by omega) (by omega)]
      have : ∀ m : Fin 1000, ¬ m.val < 100 → fewP ([UInt8.ofNat (48 + m.val / 10 / 10), UInt8.ofNat (48 + m.val / 10 % 10)] ++ [UInt8.ofNat (48 + m.val % 10)]) = some m.val := by decide +kernel
      exact this n h2
theorem few_num {n : Nat} (h : n ≤ 999) : fewP (Lib.decDigits n) = some n := few_num_fin ⟨n, by omega⟩
theorem digit_of {c : UInt8} (h : digitB c = true) : ∃ m, m < 10 ∧ c = UInt8.ofNat (48 + m) ∧ c.toNat - 48 = m := by
  unfold digitB at h
  simp only [Bool.and_eq_true, decide_eq_true_eq] at h
  refine ⟨c.toNat - 48, by omega, ?_, rfl⟩
  rw [show 48 + (c.toNat - 48) = c.toNat by omega]
  simp
/-- What is such a number is written so. -/
theorem few_is {s : List UInt8} {n : Nat} (h : fewP s = some n) : n ≤ 999 ∧ Lib.decDigits n = s := by
  unfold fewP at h
  split at h
  · cases h
  · rename_i hn
    split at h
    · rename_i ha
      simp only [Option.some.injEq] at h
      simp only [not_or, Nat.not_lt] at hn
      obtain ⟨h1, h2, h3⟩ := hn
      match s, h1, h2, h3, ha, h with
      | [a], _, _, _, ha, h =>
        simp only [List.all_cons, List.all_nil, Bool.and_true] at ha
        obtain ⟨m, hm, e, e'⟩ := digit_of ha
        simp only [List.foldl, e'] at h
        rw [e, show n = m by omega, Lib.decDigits_one hm]
        exact ⟨by omega, rfl⟩
      | [a, b], _, _, h3, ha, h =>
        simp only [List.all_cons, List.all_nil, Bool.and_true, Bool.and_eq_true] at ha
        obtain ⟨m, hm, e, e'⟩ := digit_of ha.1
        obtain ⟨k, hk, f, f'⟩ := digit_of ha.2
        simp only [List.foldl, e', f'] at h
        have hm0 : m ≠ 0 := fun h0 => h3 ⟨by rw [e, h0]; rfl, by simp⟩
        have hn : n = m * 10 + k := by omega
        rw [Lib.decDigits_two (by omega) (by omega), show n / 10 = m by omega, show n % 10 = k by omega, e, f]
        exact ⟨by omega, rfl⟩
      | [a, b, c], _, _, h3, ha, h =>
        simp only [List.all_cons, List.all_nil, Bool.and_true, Bool.and_eq_true] at ha
        obtain ⟨m, hm, e, e'⟩ := digit_of ha.1
        obtain ⟨k, hk, f, f'⟩ := digit_of ha.2.1
        obtain ⟨j, hj, g, g'⟩ := digit_of ha.2.2
        simp only [List.foldl, e', f', g'] at h
        have hm0 : m ≠ 0 := fun h0 => h3 ⟨by rw [e, h0]; rfl, by simp⟩
        have hn : n = (m * 10 + k) * 10 + j := by omega
        rw [Lib.decDigits, dif_neg (by omega), Lib.decDigits_two (by omega) (by omega), show n / 10 / 10 = m by omega, show n / 10 % 10 = k by omega, show n % 10 = j by omega, e, f, g]
        exact ⟨by omega, rfl⟩
    · cases h
theorem dec_digits : ∀ (n : Nat) (c : UInt8), c ∈ Lib.decDigits n → digitB c = true := fun n => by
  induction n using Nat.strongRecOn with
  | _ n ih =>
    intro c hc
    have key : ∀ m : Fin 10, digitB (UInt8.ofNat (48 + m.val)) = true := by decide +kernel
    by_cases h : n < 10
    · rw [Lib.decDigits_one h, List.mem_singleton] at hc
      rw [hc]
      exact key ⟨n, h⟩
    · rw [Lib.decDigits, dif_neg h, List.mem_append, List.mem_singleton] at hc
      rcases hc with hc | hc
      · exact ih (n / 10) (by omega) c hc
      · rw [hc]
        exact key ⟨n % 10, by omega⟩
theorem dec_ne (n : Nat) : Lib.decDigits n ≠ [] := fun h => by
  rw [Lib.decDigits] at h
  split at h
  · cases h
  · simp at h
end Go.Proofs.YtkoohfkomlmhoacGreatDoor.Pat
