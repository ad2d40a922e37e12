/- Great and TreeFault of package pleachingref, of a tree that lies in memory, say what its forest says. Of the program's text. -/
import Derived.Test.YtpgiagkbfnbgkabProg
import Derived.Test.YtpgiagkbfnbgkabRef
namespace Go.Proofs.Ytpgiagkbfnbgkab
open Go.Deep Go.RowKit
set_option linter.unusedVariables false
set_option maxRecDepth 20000

def greatT (s : ByteArray) (k : Fo) : Bool := decide (200 < 1 + fnodes k) || longT s k

theorem greatT_small {s : ByteArray} {k : Fo} (h : greatT s k = false) : 1 + fnodes k ≤ 200 := by
  unfold greatT at h
  simp at h
  omega

set_option maxHeartbeats 400000 in
theorem great_any (s : ByteArray) (ka : Option Addr) (cap : Nat) (k : Fo) (w : World) (ht : TIn w s ka cap k) :
    Calls Try.prog 9 #[.agg #[.string s, .slice ka (flen k) cap]] w fun e w' => e = .returned (.bool (greatT s k)) ∧ Below w.heap.size w w' := by
  have hbox : Below w.heap.size w (w.alloc (Obj.cells #[Value.string s, Value.slice ka (flen k) cap] 24)) := (Below.refl _ _).alloc (Nat.le_refl _) _
  have ht1 := ht.below hbox
  by_cases hg : 200 < 1 + fnodes k
  · have h200 : min (1 + (fnodes k : Int)) (200 + 1) = 201 := by omega
    have HG := hide h200
    clear h200
    go_enter Try.func9, Try.ntmps9
    go_wp2_with fail
    refine (sizeOf_any _ _ _ _ _ _ _ (Nat.lt_succ_self _) (by omega) (by omega) ht1).mono ?_
    rintro e w1 ⟨rfl, hb1⟩
    rw [HG.out]
    go_wp2_with fail
    go_ret
    exact ⟨ret_bool (by simp [greatT, hg]), hbox.trans (hb1.mono (by simp))⟩
  · have h200 : min (1 + (fnodes k : Int)) (200 + 1) = 1 + (fnodes k : Int) := by omega
    have HG := hide h200
    clear h200
    go_enter Try.func9, Try.ntmps9
    go_wp2_with fail
    refine (sizeOf_any _ _ _ _ _ _ _ (Nat.lt_succ_self _) (by omega) (by omega) ht1).mono ?_
    rintro e w1 ⟨rfl, hb1⟩
    rw [HG.out]
    have hb2 := hbox.trans (hb1.mono (by simp))
    obtain ⟨hcell, hfr⟩ := bcell hb1
    go_wp2_with fail
    refine (longLabel_any _ _ _ _ _ _ (Nat.lt_succ_self _) (ht.below hb2)).mono ?_
    rintro e w2 ⟨rfl, hb3⟩
    go_wp2_with fail
    go_ret
    exact ⟨ret_bool (by simp [greatT, hg]; intro h; omega), hb2.trans (hb3.mono hb2.size)⟩

/-- tree.Check's code -/
def faultT (s : ByteArray) (k : Fo) : Int := if 40 < 1 + fnodes k then 2 else if deepT k 0 = true then 3 else if badT s k = true then 1 else 0

set_option maxHeartbeats 400000 in
theorem treeFault_any (s : ByteArray) (ka : Option Addr) (cap : Nat) (k : Fo) (w : World) (ht : TIn w s ka cap k) :
    Calls Try.prog 13 #[.agg #[.string s, .slice ka (flen k) cap]] w fun e w' => e = .returned (.int .i64 (faultT s k)) ∧ Below w.heap.size w w' := by
  have hbox : Below w.heap.size w (w.alloc (Obj.cells #[Value.string s, Value.slice ka (flen k) cap] 24)) := (Below.refl _ _).alloc (Nat.le_refl _) _
  have ht1 := ht.below hbox
  by_cases hg : 40 < 1 + fnodes k
  · have h200 : min (1 + (fnodes k : Int)) (40 + 1) = 41 := by omega
    have HG := hide h200
    clear h200
    go_enter Try.func13, Try.ntmps13
    go_wp2_with fail
    refine (sizeOf_any _ _ _ _ _ _ _ (Nat.lt_succ_self _) (by omega) (by omega) ht1).mono ?_
    rintro e w1 ⟨rfl, hb1⟩
    rw [HG.out]
    go_wp2_with fail
    go_ret
    exact ⟨ret_int (by simp [faultT, hg]), hbox.trans (hb1.mono (by simp))⟩
  have h200 : min (1 + (fnodes k : Int)) (40 + 1) = 1 + (fnodes k : Int) := by omega
  have HG := hide h200
  clear h200
  go_enter Try.func13, Try.ntmps13
  go_wp2_with fail
  refine (sizeOf_any _ _ _ _ _ _ _ (Nat.lt_succ_self _) (by omega) (by omega) ht1).mono ?_
  rintro e w1 ⟨rfl, hb1⟩
  rw [HG.out]
  have hb2 := hbox.trans (hb1.mono (by simp))
  obtain ⟨hcell, hfr⟩ := bcell hb1
  have hz1 : w.heap.size < w1.heap.size := by have := hb1.size; simp at this; omega
  go_wp2_with fail
  refine (tooDeep_any _ _ _ _ _ _ _ (Nat.lt_succ_self _) (by omega) (by omega) (ht.below hb2)).mono ?_
  rintro e w2 ⟨rfl, hb3⟩
  have hb4 := hb2.trans (hb3.mono hb2.size)
  obtain ⟨hcell2, hfr2⟩ := bcell hb3
  cases hd : deepT k 0
  · have HD := hide hd
    clear hd
    go_wp2_with fail
    refine (badLabel_any _ _ _ _ _ _ (Nat.lt_succ_self _) (ht.below hb4)).mono ?_
    rintro e w3 ⟨rfl, hb5⟩
    have hb6 := hb4.trans (hb5.mono hb4.size)
    cases hd : badT s k
    · have HD2 := hide hd
      clear hd
      go_wp2_with fail
      go_ret
      exact ⟨ret_int (by have h1 := HD.out; have h2 := HD2.out; simp [faultT, hg, h1, h2]), hb6⟩
    · have HD2 := hide hd
      clear hd
      go_wp2_with fail
      go_ret
      exact ⟨ret_int (by have h1 := HD.out; have h2 := HD2.out; simp [faultT, hg, h1, h2]), hb6⟩
  · have HD := hide hd
    clear hd
    go_wp2_with fail
    go_ret
    exact ⟨ret_int (by have h1 := HD.out; simp [faultT, hg, h1]), hb4⟩

end Go.Proofs.Ytpgiagkbfnbgkab
