/- longLabel, badLabel, tooDeep, Great and TreeFault of package pleachingref, of a tree that lies in memory, say what its forest says. Of the program's text. -/
import Derived.Test.YtpgiagkbfnbgkabProg
import Derived.Test.YtpgiagkbfnbgkabFo
import Derived.Test.YtpgiagkbfnbgkabSize
import Derived.Test.YtpgiagkbfnbgkabLabel
import Derived.WalkSpells
import Derived.Deep.LoopGhost
namespace Go.Proofs.Ytpgiagkbfnbgkab
open Go.Deep Go.RowKit
set_option linter.unusedVariables false
set_option maxRecDepth 20000

def longF : Fo → Bool
  | .nil => false
  | .node _ _ x k r => (decide (50 < x.1.size) || longF k) || longF r
def longT (s : ByteArray) (k : Fo) : Bool := decide (50 < s.size) || longF k
def badF : Fo → Bool
  | .nil => false
  | .node _ _ x k r => (!labelB x.1 || badF k) || badF r
def badT (s : ByteArray) (k : Fo) : Bool := !labelB s || badF k
def deepF : Fo → Int → Bool
  | .nil, _ => false
  | .node _ _ x k r, a => (decide (10 < a) || deepF k (a + 1)) || deepF r a
def deepT (k : Fo) (a : Int) : Bool := decide (10 < a) || deepF k (a + 1)

theorem longF_step { k : Fo} {j b o : Nat} {x : ByteArray × Option Addr × Nat} {kk : Fo} (h : fdrop j k = .node b o x kk (fdrop (j + 1) k)) : longF (fdrop j k) = ((decide (50 < x.1.size) || longF kk) || longF (fdrop (j + 1) k)) := by
  rw [h]; rfl

set_option maxHeartbeats 400000 in
theorem longLabel_any : ∀ (N : Nat) (s : ByteArray) (ka : Option Addr) (cap : Nat) (k : Fo) (w : World), fnodes k < N → TIn w s ka cap k →
    Calls Try.prog 31 #[.agg #[.string s, .slice ka (flen k) cap]] w fun e w' => e = .returned (.bool (longT s k)) ∧ Below w.heap.size w w' := by
  intro N
  induction N with
  | zero => intro s ka cap k  w hN; exact absurd hN (Nat.not_lt_zero _)
  | succ N ih =>
    intro s ka cap k  w hN  ht
    have HI := hide ih; clear ih
    obtain ⟨hs, hl, hc, hk⟩ := ht
    have hs' := hs
    unfold maxLen at hs hc
    by_cases hfirst : 50 < s.size
    · go_enter Try.func31, Try.ntmps31
      go_wp2
      go_ret
      exact ⟨ret_bool (by simp [longT, hfirst]), (Below.refl _ _).alloc (Nat.le_refl _) _⟩
    go_enter Try.func31, Try.ntmps31
    go_wp2
    go_loopw [3] (fun i wr => ∃ j : Nat, j ≤ flen k ∧ i = .int .i64 j ∧ Hid (longF k = longF (fdrop j k)) ∧ Below (w.heap.size + 1) (w.alloc (Obj.cells #[Value.string s, Value.slice ka (flen k) cap] 24)) wr) (fun i _ => flen k - (intOf i).toNat)
    case atStart => exact ⟨0, Nat.zero_le _, rfl, rfl, Below.refl _ _⟩
    case round =>
      obtain ⟨j, hj, rfl, hF, hb⟩ := hrel
      obtain ⟨hcell, hfr⟩ := bcell hb
      by_cases hlt : j < flen k
      · rcases hk with rfl | ⟨kb, ko, rfl, hk⟩
        · exact absurd hlt (Nat.not_lt_zero _)
        obtain ⟨b', o', x, kk, he, hc0, hc1, htin, hbb⟩ := hk.at hlt
        have HE := hide he
        have HF := hide (longF_step he)
        clear he
        have hn : fnodes kk < N := by have := fnodes_of_drop HE.out; omega
        cases hq : (decide (50 < x.1.size) || longF kk)
        · have HQ := hide hq
          clear hq
          go_wp2_with fail
          refine (HI.out _ _ _ _  _ hn  (htin.below (below_of_box hb))).mono ?_
          rintro e w1 ⟨rfl, hb1⟩
          rw [show longT x.1 kk = false from HQ.out]
          have hb2 : Below (w.heap.size + 1) (w.alloc (Obj.cells #[Value.string s, Value.slice (some ⟨kb, ko, none⟩) (flen k) cap] 24)) w1 := hb.trans (hb1.mono (by have := hb.size; simp at this; omega))
          go_wp2_with fail
          go_roundw
          case rel => exact ⟨j + 1, by omega, by go_num, by have h1 := hF.out; have h2 := HF.out; rw [h1, h2, show (decide (50 < x.1.size) || longF kk) = false from HQ.out]; rfl, hb2⟩
          case measure => simp [intOf]; omega
        · have HQ := hide hq
          clear hq
          go_wp2_with fail
          refine (HI.out _ _ _ _  _ hn  (htin.below (below_of_box hb))).mono ?_
          rintro e w1 ⟨rfl, hb1⟩
          rw [show longT x.1 kk = true from HQ.out]
          have hb2 : Below (w.heap.size + 1) (w.alloc (Obj.cells #[Value.string s, Value.slice (some ⟨kb, ko, none⟩) (flen k) cap] 24)) w1 := hb.trans (hb1.mono (by have := hb.size; simp at this; omega))
          go_wp2_with fail
          go_ret
          exact ⟨ret_bool (by unfold longT; have h1 := hF.out; have h2 := HF.out; rw [h1, h2, show (decide (50 < x.1.size) || longF kk) = true from HQ.out]; simp), below_of_box hb2⟩
      · go_wp2_with fail
        go_ret
        exact ⟨ret_bool (by unfold longT; have h1 := hF.out; rw [fdrop_end j k (by omega)] at h1; rw [h1]; simp [longF]; omega), below_of_box hb⟩

theorem badF_step { k : Fo} {j b o : Nat} {x : ByteArray × Option Addr × Nat} {kk : Fo} (h : fdrop j k = .node b o x kk (fdrop (j + 1) k)) : badF (fdrop j k) = ((!labelB x.1 || badF kk) || badF (fdrop (j + 1) k)) := by
  rw [h]; rfl

set_option maxHeartbeats 400000 in
theorem badLabel_any : ∀ (N : Nat) (s : ByteArray) (ka : Option Addr) (cap : Nat) (k : Fo) (w : World), fnodes k < N → TIn w s ka cap k →
    Calls Try.prog 40 #[.agg #[.string s, .slice ka (flen k) cap]] w fun e w' => e = .returned (.bool (badT s k)) ∧ Below w.heap.size w w' := by
  intro N
  induction N with
  | zero => intro s ka cap k  w hN; exact absurd hN (Nat.not_lt_zero _)
  | succ N ih =>
    intro s ka cap k  w hN  ht
    have HI := hide ih; clear ih
    obtain ⟨hs, hl, hc, hk⟩ := ht
    have hs' := hs
    unfold maxLen at hs hc
    by_cases hfirst : labelB s = false
    · have HQ0 := hide hfirst
      clear hfirst
      go_enter Try.func40, Try.ntmps40
      go_wp2_with fail
      refine (isLabel_any _ _ hs').mono ?_
      rintro e w1 ⟨rfl, rfl⟩
      rw [HQ0.out]
      go_wp2_with fail
      go_ret
      exact ⟨ret_bool (by have h0 := HQ0.out; simp [badT, h0]), (Below.refl _ _).alloc (Nat.le_refl _) _⟩
    go_enter Try.func40, Try.ntmps40
    have HQ0 := hide hfirst
    clear hfirst
    go_wp2_with fail
    refine (isLabel_any _ _ hs').mono ?_
    rintro e w1 ⟨rfl, rfl⟩
    rw [show labelB s = true by simpa using HQ0.out]
    go_wp2_with fail
    go_loopw [3] (fun i wr => ∃ j : Nat, j ≤ flen k ∧ i = .int .i64 j ∧ Hid (badF k = badF (fdrop j k)) ∧ Below (w.heap.size + 1) (w.alloc (Obj.cells #[Value.string s, Value.slice ka (flen k) cap] 24)) wr) (fun i _ => flen k - (intOf i).toNat)
    case atStart => exact ⟨0, Nat.zero_le _, rfl, rfl, Below.refl _ _⟩
    case round =>
      obtain ⟨j, hj, rfl, hF, hb⟩ := hrel
      obtain ⟨hcell, hfr⟩ := bcell hb
      by_cases hlt : j < flen k
      · rcases hk with rfl | ⟨kb, ko, rfl, hk⟩
        · exact absurd hlt (Nat.not_lt_zero _)
        obtain ⟨b', o', x, kk, he, hc0, hc1, htin, hbb⟩ := hk.at hlt
        have HE := hide he
        have HF := hide (badF_step he)
        clear he
        have hn : fnodes kk < N := by have := fnodes_of_drop HE.out; omega
        cases hq : (!labelB x.1 || badF kk)
        · have HQ := hide hq
          clear hq
          go_wp2_with fail
          refine (HI.out _ _ _ _  _ hn  (htin.below (below_of_box hb))).mono ?_
          rintro e w1 ⟨rfl, hb1⟩
          rw [show badT x.1 kk = false from HQ.out]
          have hb2 : Below (w.heap.size + 1) (w.alloc (Obj.cells #[Value.string s, Value.slice (some ⟨kb, ko, none⟩) (flen k) cap] 24)) w1 := hb.trans (hb1.mono (by have := hb.size; simp at this; omega))
          go_wp2_with fail
          go_roundw
          case rel => exact ⟨j + 1, by omega, by go_num, by have h1 := hF.out; have h2 := HF.out; rw [h1, h2, show (!labelB x.1 || badF kk) = false from HQ.out]; rfl, hb2⟩
          case measure => simp [intOf]; omega
        · have HQ := hide hq
          clear hq
          go_wp2_with fail
          refine (HI.out _ _ _ _  _ hn  (htin.below (below_of_box hb))).mono ?_
          rintro e w1 ⟨rfl, hb1⟩
          rw [show badT x.1 kk = true from HQ.out]
          have hb2 : Below (w.heap.size + 1) (w.alloc (Obj.cells #[Value.string s, Value.slice (some ⟨kb, ko, none⟩) (flen k) cap] 24)) w1 := hb.trans (hb1.mono (by have := hb.size; simp at this; omega))
          go_wp2_with fail
          go_ret
          exact ⟨ret_bool (by unfold badT; have h1 := hF.out; have h2 := HF.out; rw [h1, h2, show (!labelB x.1 || badF kk) = true from HQ.out]; simp), below_of_box hb2⟩
      · go_wp2_with fail
        go_ret
        exact ⟨ret_bool (by unfold badT; have h1 := hF.out; rw [fdrop_end j k (by omega)] at h1; rw [h1]; have h0 := HQ0.out; simp [badF]; simpa using h0), below_of_box hb⟩

theorem deepF_step {a : Int} { k : Fo} {j b o : Nat} {x : ByteArray × Option Addr × Nat} {kk : Fo} (h : fdrop j k = .node b o x kk (fdrop (j + 1) k)) : deepF (fdrop j k) (a + 1) = ((decide (10 < a + 1) || deepF kk (a + 1 + 1)) || deepF (fdrop (j + 1) k) (a + 1)) := by
  rw [h]; rfl

set_option maxHeartbeats 400000 in
theorem tooDeep_any : ∀ (N : Nat) (s : ByteArray) (ka : Option Addr) (cap : Nat) (k : Fo) (a : Int) (w : World), fnodes k < N → 0 ≤ a → a ≤ 100 → TIn w s ka cap k →
    Calls Try.prog 39 #[.agg #[.string s, .slice ka (flen k) cap], .int .i64 a] w fun e w' => e = .returned (.bool (deepT k a)) ∧ Below w.heap.size w w' := by
  intro N
  induction N with
  | zero => intro s ka cap k a w hN; exact absurd hN (Nat.not_lt_zero _)
  | succ N ih =>
    intro s ka cap k a w hN ha0 ha1 ht
    have HI := hide ih; clear ih
    obtain ⟨hs, hl, hc, hk⟩ := ht
    have hs' := hs
    unfold maxLen at hs hc
    by_cases hfirst : 10 < a
    · go_enter Try.func39, Try.ntmps39
      go_wp2
      go_ret
      exact ⟨ret_bool (by simp [deepT, hfirst]), (Below.refl _ _).alloc (Nat.le_refl _) _⟩
    go_enter Try.func39, Try.ntmps39
    go_wp2
    go_loopw [5] (fun i wr => ∃ j : Nat, j ≤ flen k ∧ i = .int .i64 j ∧ Hid (deepF k (a + 1) = deepF (fdrop j k) (a + 1)) ∧ Below (w.heap.size + 1) (w.alloc (Obj.cells #[Value.string s, Value.slice ka (flen k) cap] 24)) wr) (fun i _ => flen k - (intOf i).toNat)
    case atStart => exact ⟨0, Nat.zero_le _, rfl, rfl, Below.refl _ _⟩
    case round =>
      obtain ⟨j, hj, rfl, hF, hb⟩ := hrel
      obtain ⟨hcell, hfr⟩ := bcell hb
      by_cases hlt : j < flen k
      · rcases hk with rfl | ⟨kb, ko, rfl, hk⟩
        · exact absurd hlt (Nat.not_lt_zero _)
        obtain ⟨b', o', x, kk, he, hc0, hc1, htin, hbb⟩ := hk.at hlt
        have HE := hide he
        have HF := hide (deepF_step (a := a) he)
        clear he
        have hn : fnodes kk < N := by have := fnodes_of_drop HE.out; omega
        cases hq : (decide (10 < a + 1) || deepF kk (a + 1 + 1))
        · have HQ := hide hq
          clear hq
          go_wp2_with fail
          refine (HI.out _ _ _ _ (a + 1) _ hn (by omega) (by omega) (htin.below (below_of_box hb))).mono ?_
          rintro e w1 ⟨rfl, hb1⟩
          rw [show deepT kk (a + 1) = false from HQ.out]
          have hb2 : Below (w.heap.size + 1) (w.alloc (Obj.cells #[Value.string s, Value.slice (some ⟨kb, ko, none⟩) (flen k) cap] 24)) w1 := hb.trans (hb1.mono (by have := hb.size; simp at this; omega))
          go_wp2_with fail
          go_roundw
          case rel => exact ⟨j + 1, by omega, by go_num, by have h1 := hF.out; have h2 := HF.out; rw [h1, h2, show (decide (10 < a + 1) || deepF kk (a + 1 + 1)) = false from HQ.out]; rfl, hb2⟩
          case measure => simp [intOf]; omega
        · have HQ := hide hq
          clear hq
          go_wp2_with fail
          refine (HI.out _ _ _ _ (a + 1) _ hn (by omega) (by omega) (htin.below (below_of_box hb))).mono ?_
          rintro e w1 ⟨rfl, hb1⟩
          rw [show deepT kk (a + 1) = true from HQ.out]
          have hb2 : Below (w.heap.size + 1) (w.alloc (Obj.cells #[Value.string s, Value.slice (some ⟨kb, ko, none⟩) (flen k) cap] 24)) w1 := hb.trans (hb1.mono (by have := hb.size; simp at this; omega))
          go_wp2_with fail
          go_ret
          exact ⟨ret_bool (by unfold deepT; have h1 := hF.out; have h2 := HF.out; rw [h1, h2, show (decide (10 < a + 1) || deepF kk (a + 1 + 1)) = true from HQ.out]; simp), below_of_box hb2⟩
      · go_wp2_with fail
        go_ret
        exact ⟨ret_bool (by unfold deepT; have h1 := hF.out; rw [fdrop_end j k (by omega)] at h1; rw [h1]; simp [deepF]; omega), below_of_box hb⟩


end Go.Proofs.Ytpgiagkbfnbgkab
