/- tree.Label and pleachingref.IsLabel of a string say whether it is 1 to 6 letters a to z; longLabel, badLabel and tooDeep of a tree that lies in memory say what the forest says. Of the program's text. -/
/- What a tree without a fault is. Of the document's words alone. -/
import Derived.Test.YtkoohfkomlmhoacGreatDoorProg
import Derived.WalkSpells
import Derived.Deep.LoopGhost
import Derived.Test.YtkoohfkomlmhoacGreatDoorKDP00
namespace Go.Proofs.YtkoohfkomlmhoacGreatDoor
open Go.Deep Go.RowKit
set_option linter.unusedVariables false
set_option maxRecDepth 20000

def okByte (c : UInt8) : Bool := decide (97 ≤ (c.toNat : Int)) && decide ((c.toNat : Int) ≤ 122)
/-- 1 to 6 letters a to z -/
def labelB (s : ByteArray) : Bool := decide (1 ≤ s.size) && decide (s.size ≤ 6) && s.data.toList.all okByte

theorem take_snoc (s : ByteArray) (k : Nat) (h : k < s.size) : s.data.toList.take (k + 1) = s.data.toList.take k ++ [s[k]] := by
  rw [List.take_succ_eq_append_getElem (by simpa using h)]; rfl

theorem labelB_small {s : ByteArray} (h : s.size < 1) : labelB s = false := by
  unfold labelB
  rw [decide_eq_false (show ¬ 1 ≤ s.size by omega)]
  rfl
theorem labelB_great {s : ByteArray} (h : 6 < s.size) : labelB s = false := by
  unfold labelB
  rw [show decide (s.size ≤ 6) = false by simp; omega]
  simp
theorem labelB_bad {s : ByteArray} {j : Nat} (h : j < s.size) (hc : okByte s[j] = false) : labelB s = false := by
  unfold labelB
  have : s.data.toList.all okByte = false := by
    rw [List.all_eq_false]
    exact ⟨s[j], by rw [ByteArray.getElem_eq_getElem_data]; simp, by simp [hc]⟩
  rw [this]
  simp
theorem labelB_yes {s : ByteArray} (h1 : 1 ≤ s.size) (h2 : s.size ≤ 6) (ha : (s.data.toList.take s.size).all okByte = true) : labelB s = true := by
  unfold labelB
  have : s.data.toList.take s.size = s.data.toList := List.take_of_length_le (by simp)
  rw [this] at ha
  simp [h1, h2, ha]
theorem all_snoc {s : ByteArray} {j : Nat} (h : j < s.size) (ha : (s.data.toList.take j).all okByte = true) (hc : okByte s[j] = true) : (s.data.toList.take (j + 1)).all okByte = true := by
  rw [take_snoc s j h, List.all_append, ha]
  simp [hc]
theorem okByte_yes {c : UInt8} (h1 : 97 ≤ (c.toNat : Int)) (h2 : (c.toNat : Int) ≤ 122) : okByte c = true := by simp [okByte, h1, h2]
theorem okByte_low {c : UInt8} (h1 : (c.toNat : Int) < 97) : okByte c = false := by
  unfold okByte
  rw [show decide (97 ≤ (c.toNat : Int)) = false by simp; omega]
  rfl
theorem okByte_high {c : UInt8} (h1 : 122 < (c.toNat : Int)) : okByte c = false := by
  unfold okByte
  rw [show decide ((c.toNat : Int) ≤ 122) = false by simp; omega]
  simp
theorem ret_bool {a b : Bool} (h : a = b) : Ending.returned (.bool a) = .returned (.bool b) := by rw [h]

set_option maxHeartbeats 400000 in
theorem isLabel_any (s : ByteArray) (w : World) (hs : s.size ≤ maxLen) :
    Calls Tryz.prog 78 #[.string s] w fun e w' => e = .returned (.bool (labelB s)) ∧ w' = w := by
  unfold maxLen at hs
  by_cases h1 : s.size < 1
  · go_enter Tryz.func78, Tryz.ntmps78
    go_wp2
    go_ret
    exact ⟨ret_bool (labelB_small h1).symm, rfl⟩
  by_cases h2 : 6 < s.size
  · go_enter Tryz.func78, Tryz.ntmps78
    go_wp2
    go_ret
    exact ⟨ret_bool (labelB_great h2).symm, rfl⟩
  go_enter Tryz.func78, Tryz.ntmps78
  go_wp2
  go_loop [3] (fun i => ∃ j : Nat, j ≤ s.size ∧ i = .int .i64 j ∧ Hid ((s.data.toList.take j).all okByte = true)) (fun i => s.size - (intOf i).toNat)
  case atStart => exact ⟨0, Nat.zero_le _, rfl, rfl⟩
  case round =>
    obtain ⟨j, hj, rfl, ha⟩ := hrel
    by_cases hlt : j < s.size
    · by_cases hb1 : (s[j].toNat : Int) < 97
      · go_wp2
        go_ret
        exact ⟨ret_bool (labelB_bad hlt (okByte_low hb1)).symm, rfl⟩
      by_cases hb2 : 122 < (s[j].toNat : Int)
      · go_wp2
        go_ret
        exact ⟨ret_bool (labelB_bad hlt (okByte_high hb2)).symm, rfl⟩
      go_wp2
      go_round
      case rel => exact ⟨j + 1, by omega, by go_num, all_snoc hlt ha (okByte_yes (by omega) (by omega))⟩
      case measure => simp [intOf]; omega
    · go_wp2
      go_ret
      have : j = s.size := by omega
      subst this
      exact ⟨ret_bool (labelB_yes (by omega) (by omega) ha).symm, rfl⟩

set_option maxHeartbeats 400000 in
theorem label_any (s : ByteArray) (w : World) (hs : s.size ≤ maxLen) :
    Calls Tryz.prog 76 #[.string s] w fun e w' => e = .returned (.bool (labelB s)) ∧ w' = w := by
  unfold maxLen at hs
  by_cases h1 : s.size < 1
  · have h0 : ((s.size : Int) == 0) = true := beq_iff_eq.2 (by omega)
    go_enter Tryz.func76, Tryz.ntmps76
    go_wp2
    go_ret
    exact ⟨ret_bool (labelB_small h1).symm, rfl⟩
  have h0 : ((s.size : Int) == 0) = false := beq_eq_false_iff_ne.2 (by omega)
  by_cases h2 : 6 < s.size
  · go_enter Tryz.func76, Tryz.ntmps76
    go_wp2
    go_ret
    exact ⟨ret_bool (labelB_great h2).symm, rfl⟩
  go_enter Tryz.func76, Tryz.ntmps76
  go_wp2
  go_loop [14] (fun i => ∃ j : Nat, j ≤ s.size ∧ i = .int .i64 j ∧ Hid ((s.data.toList.take j).all okByte = true)) (fun i => s.size - (intOf i).toNat)
  case atStart => exact ⟨0, Nat.zero_le _, rfl, rfl⟩
  case round =>
    obtain ⟨j, hj, rfl, ha⟩ := hrel
    by_cases hlt : j < s.size
    · by_cases hb1 : (s[j].toNat : Int) < 97
      · go_wp2
        go_ret
        exact ⟨ret_bool (labelB_bad hlt (okByte_low hb1)).symm, rfl⟩
      by_cases hb2 : 122 < (s[j].toNat : Int)
      · go_wp2
        go_ret
        exact ⟨ret_bool (labelB_bad hlt (okByte_high hb2)).symm, rfl⟩
      go_wp2
      go_round
      case rel => exact ⟨j + 1, by omega, by go_num, all_snoc hlt ha (okByte_yes (by omega) (by omega))⟩
      case measure => simp [intOf]; omega
    · go_wp2
      go_ret
      have : j = s.size := by omega
      subst this
      exact ⟨ret_bool (labelB_yes (by omega) (by omega) ha).symm, rfl⟩

end Go.Proofs.YtkoohfkomlmhoacGreatDoor
namespace Go.Proofs.YtkoohfkomlmhoacGreatDoor
open Go.Deep Go.RowKit
set_option linter.unusedVariables false

theorem labelB_size {s : ByteArray} (h : labelB s = true) : 1 ≤ s.size ∧ s.size ≤ 6 := by
  unfold labelB at h
  simp only [Bool.and_eq_true, decide_eq_true_eq] at h
  exact h.1
end Go.Proofs.YtkoohfkomlmhoacGreatDoor
