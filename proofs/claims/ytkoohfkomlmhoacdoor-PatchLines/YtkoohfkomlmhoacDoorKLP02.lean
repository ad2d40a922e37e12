/- tree.Label and pleachingref.IsLabel of a string say whether it is 1 to 6 letters a to z; longLabel, badLabel and tooDeep of a tree that lies in memory say what the forest says. Of the program's text. -/
/- Deeds done to trees, and undone: trees and numbers alone. Of no program. -/
import Derived.Test.YtkoohfkomlmhoacDoorProg
import Derived.WalkSpells
import Derived.Deep.LoopGhost
import Derived.Test.YtkoohfkomlmhoacDoorKLP00
import Derived.Test.YtkoohfkomlmhoacDoorKLP01
namespace Go.Proofs.YtkoohfkomlmhoacDoor
open Go.Deep Go.RowKit
set_option linter.unusedVariables false
set_option maxRecDepth 20000

def okByte (c : UInt8) : Bool := decide (97 ≤ (c.toNat : Int)) && decide ((c.toNat : Int) ≤ 122)
/-- 1 to 6 letters a to z -/
def labelB (s : ByteArray) : Bool := decide (1 ≤ s.size) && decide (s.size ≤ 6) && s.data.toList.all okByte

theorem take_snoc (s : ByteArray) (k : Nat) (h : k < s.size) : s.data.toList.take (k + 1) = s.data.toList.take k ++ [s[k]] := by
  rw [List.take_succ_eq_append_getElem (by simpa using h)]; rfl

theorem labelB_small {s : ByteArray} (h : s.size < 1) : labelB s = false := by
  unfold labelB
  rw [decide_eq_false (show ¬ 1 ≤ s.size by omega)]
  rfl
theorem labelB_great {s : ByteArray} (h : 6 < s.size) : labelB s = false := by
  unfold labelB
  rw [show decide (s.size ≤ 6) = false by simp; omega]
  simp
theorem labelB_bad {s : ByteArray} {j : Nat} (h : j < s.size) (hc : okByte s[j] = false) : labelB s = false := by
  unfold labelB
  have : s.data.toList.all okByte = false := by
    rw [List.all_eq_false]
    exact ⟨s[j], by rw [ByteArray.getElem_eq_getElem_data]; simp, by simp [hc]⟩
  rw [this]
  simp
theorem labelB_yes {s : ByteArray} (h1 : 1 ≤ s.size) (h2 : s.size ≤ 6) (ha : (s.data.toList.take s.size).all okByte = true) : labelB s = true := by
  unfold labelB
  have : s.data.toList.take s.size = s.data.toList := List.take_of_length_le (by simp)
  rw [this] at ha
  simp [h1, h2, ha]
theorem all_snoc {s : ByteArray} {j : Nat} (h : j < s.size) (ha : (s.data.toList.take j).all okByte = true) (hc : okByte s[j] = true) : (s.data.toList.take (j + 1)).all okByte = true := by
  rw [take_snoc s j h, List.all_append, ha]
  simp [hc]
theorem okByte_yes {c : UInt8} (h1 : 97 ≤ (c.toNat : Int)) (h2 : (c.toNat : Int) ≤ 122) : okByte c = true := by simp [okByte, h1, h2]
theorem okByte_low {c : UInt8} (h1 : (c.toNat : Int) < 97) : okByte c = false := by
  unfold okByte
  rw [show decide (97 ≤ (c.toNat : Int)) = false by simp; omega]
  rfl
theorem okByte_high {c : UInt8} (h1 : 122 < (c.toNat : Int)) : okByte c = false := by
  unfold okByte
  rw [show decide ((c.toNat : Int) ≤ 122) = false by simp; omega]
  simp
theorem ret_bool {a b : Bool} (h : a = b) : Ending.returned (.bool a) = .returned (.bool b) := by rw [h]

set_option maxHeartbeats 400000 in
theorem label_any (s : ByteArray) (w : World) (hs : s.size ≤ maxLen) :
    Calls Tryd.prog 34 #[.string s] w fun e w' => e = .returned (.bool (labelB s)) ∧ w' = w := by
  unfold maxLen at hs
  by_cases h1 : s.size < 1
  · have h0 : ((s.size : Int) == 0) = true := beq_iff_eq.2 (by omega)
    go_enter Tryd.func34, Tryd.ntmps34
    go_wp2
    go_ret
    exact ⟨ret_bool (labelB_small h1).symm, rfl⟩
  have h0 : ((s.size : Int) == 0) = false := beq_eq_false_iff_ne.2 (by omega)
  by_cases h2 : 6 < s.size
  · go_enter Tryd.func34, Tryd.ntmps34
    go_wp2
    go_ret
    exact ⟨ret_bool (labelB_great h2).symm, rfl⟩
  go_enter Tryd.func34, Tryd.ntmps34
  go_wp2
  go_loop [14] (fun i => ∃ j : Nat, j ≤ s.size ∧ i = .int .i64 j ∧ Hid ((s.data.toList.take j).all okByte = true)) (fun i => s.size - (intOf i).toNat)
  case atStart => exact ⟨0, Nat.zero_le _, rfl, rfl⟩
  case round =>
    obtain ⟨j, hj, rfl, ha⟩ := hrel
    by_cases hlt : j < s.size
    · by_cases hb1 : (s[j].toNat : Int) < 97
      · go_wp2
        go_ret
        exact ⟨ret_bool (labelB_bad hlt (okByte_low hb1)).symm, rfl⟩
      by_cases hb2 : 122 < (s[j].toNat : Int)
      · go_wp2
        go_ret
        exact ⟨ret_bool (labelB_bad hlt (okByte_high hb2)).symm, rfl⟩
      go_wp2
      go_round
      case rel => exact ⟨j + 1, by omega, by go_num, all_snoc hlt ha (okByte_yes (by omega) (by omega))⟩
      case measure => simp [intOf]; omega
    · go_wp2
      go_ret
      have : j = s.size := by omega
      subst this
      exact ⟨ret_bool (labelB_yes (by omega) (by omega) ha).symm, rfl⟩

end Go.Proofs.YtkoohfkomlmhoacDoor
namespace Go.Proofs.YtkoohfkomlmhoacDoor.Deed
open Go.Deep Go.RowKit
set_option linter.unusedVariables false
set_option maxRecDepth 20000

theorem gs_strip : ∀ k : Fo, gsF (strip k) = gsF k
  | .nil => rfl
  | .node _ _ x k r => by simp [gsF, strip, gs_strip r, strip_strip]
/-- What is done to a node: a code, and what comes of it. -/
abbrev Op := ByteArray → Fo → Int × ByteArray × Fo
/-- Done at the node at a path. -/
def modP (op : Op) : List Nat → Op
  | [], s, k => op s k
  | p :: ps, s, k => match (gsF k)[p]? with
    | none => (7, s, k)
    | some x => ((modP op ps x.1 x.2).1, s, toFo ((gsF k).set p (modP op ps x.1 x.2).2))
def namOp (lab : ByteArray) : Op := fun _ k => (0, lab, strip k)
def delOp (i : Nat) : Op := fun s k => match (gsF k)[i]? with
  | none => (7, s, k)
  | some x => (0, s, toFo ((gsF k).take i ++ (gsF x.2 ++ (gsF k).drop (i + 1))))
def insOp (i n : Nat) (lab : ByteArray) : Op := fun s k => if i + n ≤ flen k then (0, s, toFo ((gsF k).take i ++ ((lab, toFo (((gsF k).drop i).take n)) :: (gsF k).drop (i + n)))) else (9, s, k)

/-- A deed: its kind, where, at which place and how many, its label. -/
structure Dd where
  kind : Int
  path : List Int
  pos : Int
  many : Int
  lab : ByteArray
/-- The code of a deed. -/
def deedFault (d : Dd) : Int :=
  if d.kind ≠ 1 ∧ d.kind ≠ 2 ∧ d.kind ≠ 3 then 10
  else if (d.kind ≠ 3 ∧ (d.pos ≠ 0 ∨ d.many ≠ 0)) ∨ (d.kind = 2 ∧ d.lab ≠ ⟨#[]⟩) then 6
  else if d.pos < 0 ∨ d.many < 0 ∨ d.path.any (fun p => decide (p < 0)) = true then 9
  else if d.kind ≠ 2 ∧ labelB d.lab = false then 1
  else if d.kind = 2 ∧ d.path = [] then 8
  else 0
def nats (l : List Int) : List Nat := l.map Int.toNat
theorem ints_nats : ∀ {l : List Int}, l.any (fun p => decide (p < 0)) = false → (nats l).map (fun n => ((n : Nat) : Int)) = l
  | [], _ => rfl
  | p :: l, h => by
    simp only [List.any_cons, Bool.or_eq_false_iff, decide_eq_false_iff_not] at h
    have := ints_nats h.2
    simp only [nats, List.map_cons] at this ⊢
    rw [this, show ((p.toNat : Nat) : Int) = p by omega]
theorem deedFault_zero {d : Dd} (h : deedFault d = 0) : (d.kind = 1 ∨ d.kind = 2 ∨ d.kind = 3) ∧ (d.kind ≠ 3 → d.pos = 0 ∧ d.many = 0) ∧ (d.kind = 2 → d.lab = ⟨#[]⟩) ∧ 0 ≤ d.pos ∧ 0 ≤ d.many ∧ d.path.any (fun p => decide (p < 0)) = false ∧ (d.kind ≠ 2 → labelB d.lab = true) ∧ (d.kind = 2 → d.path ≠ []) := by
  unfold deedFault at h
  by_cases h1 : d.kind ≠ 1 ∧ d.kind ≠ 2 ∧ d.kind ≠ 3
  · rw [if_pos h1] at h; cases h
  · rw [if_neg h1] at h
    by_cases h2 : (d.kind ≠ 3 ∧ (d.pos ≠ 0 ∨ d.many ≠ 0)) ∨ (d.kind = 2 ∧ d.lab ≠ ⟨#[]⟩)
    · rw [if_pos h2] at h; cases h
    · rw [if_neg h2] at h
      by_cases h3 : d.pos < 0 ∨ d.many < 0 ∨ d.path.any (fun p => decide (p < 0)) = true
      · rw [if_pos h3] at h; cases h
      · rw [if_neg h3] at h
        by_cases h4 : d.kind ≠ 2 ∧ labelB d.lab = false
        · rw [if_pos h4] at h; cases h
        · rw [if_neg h4] at h
          by_cases h5 : d.kind = 2 ∧ d.path = []
          · rw [if_pos h5] at h; cases h
          · refine ⟨by omega, fun hk => ?_, fun hk => ?_, by omega, by omega, ?_, fun hk => ?_, fun hk e => h5 ⟨hk, e⟩⟩
            · have : ¬ (d.pos ≠ 0 ∨ d.many ≠ 0) := fun e => h2 (Or.inl ⟨hk, e⟩)
              omega
            · exact Classical.byContradiction fun e => h2 (Or.inr ⟨hk, e⟩)
            · cases e : d.path.any (fun p => decide (p < 0))
              · rfl
              · exact absurd (Or.inr (Or.inr e)) h3
            · cases e : labelB d.lab
              · exact absurd ⟨hk, e⟩ h4
              · rfl
theorem any_append {a b : List Int} {f : Int → Bool} (h : (a ++ b).any f = false) : a.any f = false ∧ b.any f = false := by
  rw [List.any_append, Bool.or_eq_false_iff] at h
  exact h
/-- The code, by its parts. -/
theorem deedFault_mid {K P M : Int} {path : List Int} {lab : ByteArray} (h1 : K = 1 ∨ K = 2 ∨ K = 3) (h2 : ¬ ((K ≠ 3 ∧ (P ≠ 0 ∨ M ≠ 0)) ∨ (K = 2 ∧ lab ≠ ⟨#[]⟩))) {B : Bool} (hB : B = (decide (P < 0) || decide (M < 0))) :
    ((B || path.any (fun p => decide (p < 0))) = true → deedFault ⟨K, path, P, M, lab⟩ = 9) ∧
    ((B || path.any (fun p => decide (p < 0))) = false → deedFault ⟨K, path, P, M, lab⟩ = if K ≠ 2 ∧ labelB lab = false then 1 else if K = 2 ∧ path = [] then 8 else 0) := by
  have key : (B || path.any (fun p => decide (p < 0))) = true ↔ (P < 0 ∨ M < 0 ∨ path.any (fun p => decide (p < 0)) = true) := by
    rw [hB, Bool.or_eq_true, Bool.or_eq_true, decide_eq_true_eq, decide_eq_true_eq, or_assoc]
  constructor
  · intro h
    unfold deedFault
    rw [if_neg (by simp only; omega), if_neg h2, if_pos (key.1 h)]
  · intro h
    unfold deedFault
    rw [if_neg (by simp only; omega), if_neg h2, if_neg (fun e => by rw [key.2 e] at h; cases h)]
theorem deedFault_form {K P M : Int} {path : List Int} {lab : ByteArray} (h1 : K = 1 ∨ K = 2 ∨ K = 3) (h2 : (K ≠ 3 ∧ (P ≠ 0 ∨ M ≠ 0)) ∨ (K = 2 ∧ lab ≠ ⟨#[]⟩)) : deedFault ⟨K, path, P, M, lab⟩ = 6 := by
  unfold deedFault
  rw [if_neg (by simp only; omega), if_pos h2]
theorem deedFault_kind {K P M : Int} {path : List Int} {lab : ByteArray} (h1 : K ≠ 1) (h2 : K ≠ 2) (h3 : K ≠ 3) : deedFault ⟨K, path, P, M, lab⟩ = 10 := by
  unfold deedFault
  rw [if_pos ⟨h1, h2, h3⟩]
end Go.Proofs.YtkoohfkomlmhoacDoor.Deed
