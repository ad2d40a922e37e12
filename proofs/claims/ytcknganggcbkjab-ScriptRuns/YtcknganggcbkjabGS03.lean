/- tree.Label and pleachingref.IsLabel of a string say whether it is 1 to 6 letters a to z; longLabel, badLabel and tooDeep of a tree that lies in memory say what the forest says. Of the program's text. -/
/- longLabel, badLabel, tooDeep, Great and TreeFault of package pleachingref, of a tree that lies in memory, say what its forest says. Of the program's text. -/
/- Great and TreeFault of package pleachingref, of a tree that lies in memory, say what its forest says. Of the program's text. -/
import Derived.Test.YtcknganggcbkjabProg
import Derived.Test.YtcknganggcbkjabGS00
import Derived.Test.YtcknganggcbkjabGS02
import Derived.WalkSpells
import Derived.Deep.LoopGhost
namespace Go.Proofs.Ytcknganggcbkjab
open Go.Deep Go.RowKit
set_option linter.unusedVariables false
set_option maxRecDepth 20000

def okByte (c : UInt8) : Bool := decide (97 ≤ (c.toNat : Int)) && decide ((c.toNat : Int) ≤ 122)
/-- 1 to 6 letters a to z -/
def labelB (s : ByteArray) : Bool := decide (1 ≤ s.size) && decide (s.size ≤ 6) && s.data.toList.all okByte

theorem take_snoc (s : ByteArray) (k : Nat) (h : k < s.size) : s.data.toList.take (k + 1) = s.data.toList.take k ++ [s[k]] := by
  rw [List.take_succ_eq_append_getElem (by simpa using h)]; rfl

theorem labelB_small {s : ByteArray} (h : s.size < 1) : labelB s = false := by
  unfold labelB
  rw [decide_eq_false (show ¬ 1 ≤ s.size by omega)]
  rfl
theorem labelB_great {s : ByteArray} (h : 6 < s.size) : labelB s = false := by
  unfold labelB
  rw [show decide (s.size ≤ 6) = false by simp; omega]
  simp
theorem labelB_bad {s : ByteArray} {j : Nat} (h : j < s.size) (hc : okByte s[j] = false) : labelB s = false := by
  unfold labelB
  have : s.data.toList.all okByte = false := by
    rw [List.all_eq_false]
    exact ⟨s[j], by rw [ByteArray.getElem_eq_getElem_data]; simp, by simp [hc]⟩
  rw [this]
  simp
theorem labelB_yes {s : ByteArray} (h1 : 1 ≤ s.size) (h2 : s.size ≤ 6) (ha : (s.data.toList.take s.size).all okByte = true) : labelB s = true := by
  unfold labelB
  have : s.data.toList.take s.size = s.data.toList := List.take_of_length_le (by simp)
  rw [this] at ha
  simp [h1, h2, ha]
theorem all_snoc {s : ByteArray} {j : Nat} (h : j < s.size) (ha : (s.data.toList.take j).all okByte = true) (hc : okByte s[j] = true) : (s.data.toList.take (j + 1)).all okByte = true := by
  rw [take_snoc s j h, List.all_append, ha]
  simp [hc]
theorem okByte_yes {c : UInt8} (h1 : 97 ≤ (c.toNat : Int)) (h2 : (c.toNat : Int) ≤ 122) : okByte c = true := by simp [okByte, h1, h2]
theorem okByte_low {c : UInt8} (h1 : (c.toNat : Int) < 97) : okByte c = false := by
  unfold okByte
  rw [show decide (97 ≤ (c.toNat : Int)) = false by simp; omega]
  rfl
theorem okByte_high {c : UInt8} (h1 : 122 < (c.toNat : Int)) : okByte c = false := by
  unfold okByte
  rw [show decide ((c.toNat : Int) ≤ 122) = false by simp; omega]
  simp
theorem ret_bool {a b : Bool} (h : a = b) : Ending.returned (.bool a) = .returned (.bool b) := by rw [h]

set_option maxHeartbeats 400000 in
theorem isLabel_any (s : ByteArray) (w : World) (hs : s.size ≤ maxLen) :
    Calls Try.prog 61 #[.string s] w fun e w' => e = .returned (.bool (labelB s)) ∧ w' = w := by
  unfold maxLen at hs
  by_cases h1 : s.size < 1
  · go_enter Try.func61, Try.ntmps61
    go_wp2
    go_ret
    exact ⟨ret_bool (labelB_small h1).symm, rfl⟩
  by_cases h2 : 6 < s.size
  · go_enter Try.func61, Try.ntmps61
    go_wp2
    go_ret
    exact ⟨ret_bool (labelB_great h2).symm, rfl⟩
  go_enter Try.func61, Try.ntmps61
  go_wp2
  go_loop [3] (fun i => ∃ j : Nat, j ≤ s.size ∧ i = .int .i64 j ∧ Hid ((s.data.toList.take j).all okByte = true)) (fun i => s.size - (intOf i).toNat)
  case atStart => exact ⟨0, Nat.zero_le _, rfl, rfl⟩
  case round =>
    obtain ⟨j, hj, rfl, ha⟩ := hrel
    by_cases hlt : j < s.size
    · by_cases hb1 : (s[j].toNat : Int) < 97
      · go_wp2
        go_ret
        exact ⟨ret_bool (labelB_bad hlt (okByte_low hb1)).symm, rfl⟩
      by_cases hb2 : 122 < (s[j].toNat : Int)
      · go_wp2
        go_ret
        exact ⟨ret_bool (labelB_bad hlt (okByte_high hb2)).symm, rfl⟩
      go_wp2
      go_round
      case rel => exact ⟨j + 1, by omega, by go_num, all_snoc hlt ha (okByte_yes (by omega) (by omega))⟩
      case measure => simp [intOf]; omega
    · go_wp2
      go_ret
      have : j = s.size := by omega
      subst this
      exact ⟨ret_bool (labelB_yes (by omega) (by omega) ha).symm, rfl⟩

set_option maxHeartbeats 400000 in
theorem label_any (s : ByteArray) (w : World) (hs : s.size ≤ maxLen) :
    Calls Try.prog 60 #[.string s] w fun e w' => e = .returned (.bool (labelB s)) ∧ w' = w := by
  unfold maxLen at hs
  by_cases h1 : s.size < 1
  · have h0 : ((s.size : Int) == 0) = true := beq_iff_eq.2 (by omega)
    go_enter Try.func60, Try.ntmps60
    go_wp2
    go_ret
    exact ⟨ret_bool (labelB_small h1).symm, rfl⟩
  have h0 : ((s.size : Int) == 0) = false := beq_eq_false_iff_ne.2 (by omega)
  by_cases h2 : 6 < s.size
  · go_enter Try.func60, Try.ntmps60
    go_wp2
    go_ret
    exact ⟨ret_bool (labelB_great h2).symm, rfl⟩
  go_enter Try.func60, Try.ntmps60
  go_wp2
  go_loop [14] (fun i => ∃ j : Nat, j ≤ s.size ∧ i = .int .i64 j ∧ Hid ((s.data.toList.take j).all okByte = true)) (fun i => s.size - (intOf i).toNat)
  case atStart => exact ⟨0, Nat.zero_le _, rfl, rfl⟩
  case round =>
    obtain ⟨j, hj, rfl, ha⟩ := hrel
    by_cases hlt : j < s.size
    · by_cases hb1 : (s[j].toNat : Int) < 97
      · go_wp2
        go_ret
        exact ⟨ret_bool (labelB_bad hlt (okByte_low hb1)).symm, rfl⟩
      by_cases hb2 : 122 < (s[j].toNat : Int)
      · go_wp2
        go_ret
        exact ⟨ret_bool (labelB_bad hlt (okByte_high hb2)).symm, rfl⟩
      go_wp2
      go_round
      case rel => exact ⟨j + 1, by omega, by go_num, all_snoc hlt ha (okByte_yes (by omega) (by omega))⟩
      case measure => simp [intOf]; omega
    · go_wp2
      go_ret
      have : j = s.size := by omega
      subst this
      exact ⟨ret_bool (labelB_yes (by omega) (by omega) ha).symm, rfl⟩

end Go.Proofs.Ytcknganggcbkjab
namespace Go.Proofs.Ytcknganggcbkjab
open Go.Deep Go.RowKit
set_option linter.unusedVariables false
set_option maxRecDepth 20000

def longF : Fo → Bool
  | .nil => false
  | .node _ _ x k r => (decide (50 < x.1.size) || longF k) || longF r
def longT (s : ByteArray) (k : Fo) : Bool := decide (50 < s.size) || longF k
def badF : Fo → Bool
  | .nil => false
  | .node _ _ x k r => (!labelB x.1 || badF k) || badF r
def badT (s : ByteArray) (k : Fo) : Bool := !labelB s || badF k
def deepF : Fo → Int → Bool
  | .nil, _ => false
  | .node _ _ x k r, a => (decide (10 < a) || deepF k (a + 1)) || deepF r a
def deepT (k : Fo) (a : Int) : Bool := decide (10 < a) || deepF k (a + 1)

theorem longF_step { k : Fo} {j b o : Nat} {x : ByteArray × Option Addr × Nat} {kk : Fo} (h : fdrop j k = .node b o x kk (fdrop (j + 1) k)) : longF (fdrop j k) = ((decide (50 < x.1.size) || longF kk) || longF (fdrop (j + 1) k)) := by
  rw [h]; rfl

set_option maxHeartbeats 400000 in
theorem longLabel_any : ∀ (N : Nat) (s : ByteArray) (ka : Option Addr) (cap : Nat) (k : Fo) (w : World), fnodes k < N → TIn w s ka cap k →
    Calls Try.prog 42 #[.agg #[.string s, .slice ka (flen k) cap]] w fun e w' => e = .returned (.bool (longT s k)) ∧ Below w.heap.size w w' := by
  intro N
  induction N with
  | zero => intro s ka cap k  w hN; exact absurd hN (Nat.not_lt_zero _)
  | succ N ih =>
    intro s ka cap k  w hN  ht
    have HI := hide ih; clear ih
    obtain ⟨hs, hl, hc, hk⟩ := ht
    have hs' := hs
    unfold maxLen at hs hc
    by_cases hfirst : 50 < s.size
    · go_enter Try.func42, Try.ntmps42
      go_wp2
      go_ret
      exact ⟨ret_bool (by simp [longT, hfirst]), (Below.refl _ _).alloc (Nat.le_refl _) _⟩
    go_enter Try.func42, Try.ntmps42
    go_wp2
    go_loopw [3] (fun i wr => ∃ j : Nat, j ≤ flen k ∧ i = .int .i64 j ∧ Hid (longF k = longF (fdrop j k)) ∧ Below (w.heap.size + 1) (w.alloc (Obj.cells #[Value.string s, Value.slice ka (flen k) cap] 24)) wr) (fun i _ => flen k - (intOf i).toNat)
    case atStart => exact ⟨0, Nat.zero_le _, rfl, rfl, Below.refl _ _⟩
    case round =>
      obtain ⟨j, hj, rfl, hF, hb⟩ := hrel
      obtain ⟨hcell, hfr⟩ := bcell hb
      by_cases hlt : j < flen k
      · rcases hk with rfl | ⟨kb, ko, rfl, hk⟩
        · exact absurd hlt (Nat.not_lt_zero _)
        obtain ⟨b', o', x, kk, he, hc0, hc1, htin, hbb⟩ := hk.at hlt
        have HE := hide he
        have HF := hide (longF_step he)
        clear he
        have hn : fnodes kk < N := by have := fnodes_of_drop HE.out; omega
        cases hq : (decide (50 < x.1.size) || longF kk)
        · have HQ := hide hq
          clear hq
          go_wp2_with fail
          refine (HI.out _ _ _ _  _ hn  (htin.below (below_of_box hb))).mono ?_
          rintro e w1 ⟨rfl, hb1⟩
          rw [show longT x.1 kk = false from HQ.out]
          have hb2 : Below (w.heap.size + 1) (w.alloc (Obj.cells #[Value.string s, Value.slice (some ⟨kb, ko, none⟩) (flen k) cap] 24)) w1 := hb.trans (hb1.mono (by have := hb.size; simp at this; omega))
          go_wp2_with fail
          go_roundw
          case rel => exact ⟨j + 1, by omega, by go_num, by have h1 := hF.out; have h2 := HF.out; rw [h1, h2, show (decide (50 < x.1.size) || longF kk) = false from HQ.out]; rfl, hb2⟩
          case measure => simp [intOf]; omega
        · have HQ := hide hq
          clear hq
          go_wp2_with fail
          refine (HI.out _ _ _ _  _ hn  (htin.below (below_of_box hb))).mono ?_
          rintro e w1 ⟨rfl, hb1⟩
          rw [show longT x.1 kk = true from HQ.out]
          have hb2 : Below (w.heap.size + 1) (w.alloc (Obj.cells #[Value.string s, Value.slice (some ⟨kb, ko, none⟩) (flen k) cap] 24)) w1 := hb.trans (hb1.mono (by have := hb.size; simp at this; omega))
          go_wp2_with fail
          go_ret
          exact ⟨ret_bool (by unfold longT; have h1 := hF.out; have h2 := HF.out; rw [h1, h2, show (decide (50 < x.1.size) || longF kk) = true from HQ.out]; simp), below_of_box hb2⟩
      · go_wp2_with fail
        go_ret
        exact ⟨ret_bool (by unfold longT; have h1 := hF.out; rw [fdrop_end j k (by omega)] at h1; rw [h1]; simp [longF]; omega), below_of_box hb⟩

theorem badF_step { k : Fo} {j b o : Nat} {x : ByteArray × Option Addr × Nat} {kk : Fo} (h : fdrop j k = .node b o x kk (fdrop (j + 1) k)) : badF (fdrop j k) = ((!labelB x.1 || badF kk) || badF (fdrop (j + 1) k)) := by
  rw [h]; rfl

set_option maxHeartbeats 400000 in
theorem badLabel_any : ∀ (N : Nat) (s : ByteArray) (ka : Option Addr) (cap : Nat) (k : Fo) (w : World), fnodes k < N → TIn w s ka cap k →
    Calls Try.prog 51 #[.agg #[.string s, .slice ka (flen k) cap]] w fun e w' => e = .returned (.bool (badT s k)) ∧ Below w.heap.size w w' := by
  intro N
  induction N with
  | zero => intro s ka cap k  w hN; exact absurd hN (Nat.not_lt_zero _)
  | succ N ih =>
    intro s ka cap k  w hN  ht
    have HI := hide ih; clear ih
    obtain ⟨hs, hl, hc, hk⟩ := ht
    have hs' := hs
    unfold maxLen at hs hc
    by_cases hfirst : labelB s = false
    · have HQ0 := hide hfirst
      clear hfirst
      go_enter Try.func51, Try.ntmps51
      go_wp2_with fail
      refine (isLabel_any _ _ hs').mono ?_
      rintro e w1 ⟨rfl, rfl⟩
      rw [HQ0.out]
      go_wp2_with fail
      go_ret
      exact ⟨ret_bool (by have h0 := HQ0.out; simp [badT, h0]), (Below.refl _ _).alloc (Nat.le_refl _) _⟩
    go_enter Try.func51, Try.ntmps51
    have HQ0 := hide hfirst
    clear hfirst
    go_wp2_with fail
    refine (isLabel_any _ _ hs').mono ?_
    rintro e w1 ⟨rfl, rfl⟩
    rw [show labelB s = true by simpa using HQ0.out]
    go_wp2_with fail
    go_loopw [3] (fun i wr => ∃ j : Nat, j ≤ flen k ∧ i = .int .i64 j ∧ Hid (badF k = badF (fdrop j k)) ∧ Below (w.heap.size + 1) (w.alloc (Obj.cells #[Value.string s, Value.slice ka (flen k) cap] 24)) wr) (fun i _ => flen k - (intOf i).toNat)
    case atStart => exact ⟨0, Nat.zero_le _, rfl, rfl, Below.refl _ _⟩
    case round =>
      obtain ⟨j, hj, rfl, hF, hb⟩ := hrel
      obtain ⟨hcell, hfr⟩ := bcell hb
      by_cases hlt : j < flen k
      · rcases hk with rfl | ⟨kb, ko, rfl, hk⟩
        · exact absurd hlt (Nat.not_lt_zero _)
        obtain ⟨b', o', x, kk, he, hc0, hc1, htin, hbb⟩ := hk.at hlt
        have HE := hide he
        have HF := hide (badF_step he)
        clear he
        have hn : fnodes kk < N := by have := fnodes_of_drop HE.out; omega
        cases hq : (!labelB x.1 || badF kk)
        · have HQ := hide hq
          clear hq
          go_wp2_with fail
          refine (HI.out _ _ _ _  _ hn  (htin.below (below_of_box hb))).mono ?_
          rintro e w1 ⟨rfl, hb1⟩
          rw [show badT x.1 kk = false from HQ.out]
          have hb2 : Below (w.heap.size + 1) (w.alloc (Obj.cells #[Value.string s, Value.slice (some ⟨kb, ko, none⟩) (flen k) cap] 24)) w1 := hb.trans (hb1.mono (by have := hb.size; simp at this; omega))
          go_wp2_with fail
          go_roundw
          case rel => exact ⟨j + 1, by omega, by go_num, by have h1 := hF.out; have h2 := HF.out; rw [h1, h2, show (!labelB x.1 || badF kk) = false from HQ.out]; rfl, hb2⟩
          case measure => simp [intOf]; omega
        · have HQ := hide hq
          clear hq
          go_wp2_with fail
          refine (HI.out _ _ _ _  _ hn  (htin.below (below_of_box hb))).mono ?_
          rintro e w1 ⟨rfl, hb1⟩
          rw [show badT x.1 kk = true from HQ.out]
          have hb2 : Below (w.heap.size + 1) (w.alloc (Obj.cells #[Value.string s, Value.slice (some ⟨kb, ko, none⟩) (flen k) cap] 24)) w1 := hb.trans (hb1.mono (by have := hb.size; simp at this; omega))
          go_wp2_with fail
          go_ret
          exact ⟨ret_bool (by unfold badT; have h1 := hF.out; have h2 := HF.out; rw [h1, h2, show (!labelB x.1 || badF kk) = true from HQ.out]; simp), below_of_box hb2⟩
      · go_wp2_with fail
        go_ret
        exact ⟨ret_bool (by unfold badT; have h1 := hF.out; rw [fdrop_end j k (by omega)] at h1; rw [h1]; have h0 := HQ0.out; simp [badF]; simpa using h0), below_of_box hb⟩

theorem deepF_step {a : Int} { k : Fo} {j b o : Nat} {x : ByteArray × Option Addr × Nat} {kk : Fo} (h : fdrop j k = .node b o x kk (fdrop (j + 1) k)) : deepF (fdrop j k) (a + 1) = ((decide (10 < a + 1) || deepF kk (a + 1 + 1)) || deepF (fdrop (j + 1) k) (a + 1)) := by
  rw [h]; rfl

set_option maxHeartbeats 400000 in
theorem tooDeep_any : ∀ (N : Nat) (s : ByteArray) (ka : Option Addr) (cap : Nat) (k : Fo) (a : Int) (w : World), fnodes k < N → 0 ≤ a → a ≤ 100 → TIn w s ka cap k →
    Calls Try.prog 50 #[.agg #[.string s, .slice ka (flen k) cap], .int .i64 a] w fun e w' => e = .returned (.bool (deepT k a)) ∧ Below w.heap.size w w' := by
  intro N
  induction N with
  | zero => intro s ka cap k a w hN; exact absurd hN (Nat.not_lt_zero _)
  | succ N ih =>
    intro s ka cap k a w hN ha0 ha1 ht
    have HI := hide ih; clear ih
    obtain ⟨hs, hl, hc, hk⟩ := ht
    have hs' := hs
    unfold maxLen at hs hc
    by_cases hfirst : 10 < a
    · go_enter Try.func50, Try.ntmps50
      go_wp2
      go_ret
      exact ⟨ret_bool (by simp [deepT, hfirst]), (Below.refl _ _).alloc (Nat.le_refl _) _⟩
    go_enter Try.func50, Try.ntmps50
    go_wp2
    go_loopw [5] (fun i wr => ∃ j : Nat, j ≤ flen k ∧ i = .int .i64 j ∧ Hid (deepF k (a + 1) = deepF (fdrop j k) (a + 1)) ∧ Below (w.heap.size + 1) (w.alloc (Obj.cells #[Value.string s, Value.slice ka (flen k) cap] 24)) wr) (fun i _ => flen k - (intOf i).toNat)
    case atStart => exact ⟨0, Nat.zero_le _, rfl, rfl, Below.refl _ _⟩
    case round =>
      obtain ⟨j, hj, rfl, hF, hb⟩ := hrel
      obtain ⟨hcell, hfr⟩ := bcell hb
      by_cases hlt : j < flen k
      · rcases hk with rfl | ⟨kb, ko, rfl, hk⟩
        · exact absurd hlt (Nat.not_lt_zero _)
        obtain ⟨b', o', x, kk, he, hc0, hc1, htin, hbb⟩ := hk.at hlt
        have HE := hide he
        have HF := hide (deepF_step (a := a) he)
        clear he
        have hn : fnodes kk < N := by have := fnodes_of_drop HE.out; omega
        cases hq : (decide (10 < a + 1) || deepF kk (a + 1 + 1))
        · have HQ := hide hq
          clear hq
          go_wp2_with fail
          refine (HI.out _ _ _ _ (a + 1) _ hn (by omega) (by omega) (htin.below (below_of_box hb))).mono ?_
          rintro e w1 ⟨rfl, hb1⟩
          rw [show deepT kk (a + 1) = false from HQ.out]
          have hb2 : Below (w.heap.size + 1) (w.alloc (Obj.cells #[Value.string s, Value.slice (some ⟨kb, ko, none⟩) (flen k) cap] 24)) w1 := hb.trans (hb1.mono (by have := hb.size; simp at this; omega))
          go_wp2_with fail
          go_roundw
          case rel => exact ⟨j + 1, by omega, by go_num, by have h1 := hF.out; have h2 := HF.out; rw [h1, h2, show (decide (10 < a + 1) || deepF kk (a + 1 + 1)) = false from HQ.out]; rfl, hb2⟩
          case measure => simp [intOf]; omega
        · have HQ := hide hq
          clear hq
          go_wp2_with fail
          refine (HI.out _ _ _ _ (a + 1) _ hn (by omega) (by omega) (htin.below (below_of_box hb))).mono ?_
          rintro e w1 ⟨rfl, hb1⟩
          rw [show deepT kk (a + 1) = true from HQ.out]
          have hb2 : Below (w.heap.size + 1) (w.alloc (Obj.cells #[Value.string s, Value.slice (some ⟨kb, ko, none⟩) (flen k) cap] 24)) w1 := hb.trans (hb1.mono (by have := hb.size; simp at this; omega))
          go_wp2_with fail
          go_ret
          exact ⟨ret_bool (by unfold deepT; have h1 := hF.out; have h2 := HF.out; rw [h1, h2, show (decide (10 < a + 1) || deepF kk (a + 1 + 1)) = true from HQ.out]; simp), below_of_box hb2⟩
      · go_wp2_with fail
        go_ret
        exact ⟨ret_bool (by unfold deepT; have h1 := hF.out; rw [fdrop_end j k (by omega)] at h1; rw [h1]; simp [deepF]; omega), below_of_box hb⟩


end Go.Proofs.Ytcknganggcbkjab
namespace Go.Proofs.Ytcknganggcbkjab
open Go.Deep Go.RowKit
set_option linter.unusedVariables false
set_option maxRecDepth 20000

def greatT (s : ByteArray) (k : Fo) : Bool := decide (200 < 1 + fnodes k) || longT s k

theorem greatT_small {s : ByteArray} {k : Fo} (h : greatT s k = false) : 1 + fnodes k ≤ 200 := by
  unfold greatT at h
  simp at h
  omega

set_option maxHeartbeats 400000 in
theorem great_any (s : ByteArray) (ka : Option Addr) (cap : Nat) (k : Fo) (w : World) (ht : TIn w s ka cap k) :
    Calls Try.prog 14 #[.agg #[.string s, .slice ka (flen k) cap]] w fun e w' => e = .returned (.bool (greatT s k)) ∧ Below w.heap.size w w' := by
  have hbox : Below w.heap.size w (w.alloc (Obj.cells #[Value.string s, Value.slice ka (flen k) cap] 24)) := (Below.refl _ _).alloc (Nat.le_refl _) _
  have ht1 := ht.below hbox
  by_cases hg : 200 < 1 + fnodes k
  · have h200 : min (1 + (fnodes k : Int)) (200 + 1) = 201 := by omega
    have HG := hide h200
    clear h200
    go_enter Try.func14, Try.ntmps14
    go_wp2_with fail
    refine (sizeOf_any _ _ _ _ _ _ _ (Nat.lt_succ_self _) (by omega) (by omega) ht1).mono ?_
    rintro e w1 ⟨rfl, hb1⟩
    rw [HG.out]
    go_wp2_with fail
    go_ret
    exact ⟨ret_bool (by simp [greatT, hg]), hbox.trans (hb1.mono (by simp))⟩
  · have h200 : min (1 + (fnodes k : Int)) (200 + 1) = 1 + (fnodes k : Int) := by omega
    have HG := hide h200
    clear h200
    go_enter Try.func14, Try.ntmps14
    go_wp2_with fail
    refine (sizeOf_any _ _ _ _ _ _ _ (Nat.lt_succ_self _) (by omega) (by omega) ht1).mono ?_
    rintro e w1 ⟨rfl, hb1⟩
    rw [HG.out]
    have hb2 := hbox.trans (hb1.mono (by simp))
    obtain ⟨hcell, hfr⟩ := bcell hb1
    go_wp2_with fail
    refine (longLabel_any _ _ _ _ _ _ (Nat.lt_succ_self _) (ht.below hb2)).mono ?_
    rintro e w2 ⟨rfl, hb3⟩
    go_wp2_with fail
    go_ret
    exact ⟨ret_bool (by simp [greatT, hg]; intro h; omega), hb2.trans (hb3.mono hb2.size)⟩

/-- tree.Check's code -/
def faultT (s : ByteArray) (k : Fo) : Int := if 40 < 1 + fnodes k then 2 else if deepT k 0 = true then 3 else if badT s k = true then 1 else 0

set_option maxHeartbeats 400000 in
theorem treeFault_any (s : ByteArray) (ka : Option Addr) (cap : Nat) (k : Fo) (w : World) (ht : TIn w s ka cap k) :
    Calls Try.prog 18 #[.agg #[.string s, .slice ka (flen k) cap]] w fun e w' => e = .returned (.int .i64 (faultT s k)) ∧ Below w.heap.size w w' := by
  have hbox : Below w.heap.size w (w.alloc (Obj.cells #[Value.string s, Value.slice ka (flen k) cap] 24)) := (Below.refl _ _).alloc (Nat.le_refl _) _
  have ht1 := ht.below hbox
  by_cases hg : 40 < 1 + fnodes k
  · have h200 : min (1 + (fnodes k : Int)) (40 + 1) = 41 := by omega
    have HG := hide h200
    clear h200
    go_enter Try.func18, Try.ntmps18
    go_wp2_with fail
    refine (sizeOf_any _ _ _ _ _ _ _ (Nat.lt_succ_self _) (by omega) (by omega) ht1).mono ?_
    rintro e w1 ⟨rfl, hb1⟩
    rw [HG.out]
    go_wp2_with fail
    go_ret
    exact ⟨ret_int (by simp [faultT, hg]), hbox.trans (hb1.mono (by simp))⟩
  have h200 : min (1 + (fnodes k : Int)) (40 + 1) = 1 + (fnodes k : Int) := by omega
  have HG := hide h200
  clear h200
  go_enter Try.func18, Try.ntmps18
  go_wp2_with fail
  refine (sizeOf_any _ _ _ _ _ _ _ (Nat.lt_succ_self _) (by omega) (by omega) ht1).mono ?_
  rintro e w1 ⟨rfl, hb1⟩
  rw [HG.out]
  have hb2 := hbox.trans (hb1.mono (by simp))
  obtain ⟨hcell, hfr⟩ := bcell hb1
  have hz1 : w.heap.size < w1.heap.size := by have := hb1.size; simp at this; omega
  go_wp2_with fail
  refine (tooDeep_any _ _ _ _ _ _ _ (Nat.lt_succ_self _) (by omega) (by omega) (ht.below hb2)).mono ?_
  rintro e w2 ⟨rfl, hb3⟩
  have hb4 := hb2.trans (hb3.mono hb2.size)
  obtain ⟨hcell2, hfr2⟩ := bcell hb3
  cases hd : deepT k 0
  · have HD := hide hd
    clear hd
    go_wp2_with fail
    refine (badLabel_any _ _ _ _ _ _ (Nat.lt_succ_self _) (ht.below hb4)).mono ?_
    rintro e w3 ⟨rfl, hb5⟩
    have hb6 := hb4.trans (hb5.mono hb4.size)
    cases hd : badT s k
    · have HD2 := hide hd
      clear hd
      go_wp2_with fail
      go_ret
      exact ⟨ret_int (by have h1 := HD.out; have h2 := HD2.out; simp [faultT, hg, h1, h2]), hb6⟩
    · have HD2 := hide hd
      clear hd
      go_wp2_with fail
      go_ret
      exact ⟨ret_int (by have h1 := HD.out; have h2 := HD2.out; simp [faultT, hg, h1, h2]), hb6⟩
  · have HD := hide hd
    clear hd
    go_wp2_with fail
    go_ret
    exact ⟨ret_int (by have h1 := HD.out; simp [faultT, hg, h1]), hb4⟩

end Go.Proofs.Ytcknganggcbkjab
