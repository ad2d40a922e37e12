/- rename, last and ahead of package dist. Of the program's text. -/
import Derived.Test.YtpjlajjbioploabProg
import Derived.Test.YtpjlajjbioploabDistM
import Derived.Deep.QuietTactic
import Derived.BigQuiet
import Derived.WalkSmall
namespace Go.Proofs.Ytpjlajjbioploab.Dist
open Go.Deep Go.RowKit
set_option linter.unusedVariables false
set_option maxRecDepth 20000

theorem lab_same {a b : ByteArray} (h : a = b) : (a.toList == b.toList) = true := by simp [h]
theorem lab_other {a b : ByteArray} (h : a ≠ b) : (a.toList == b.toList) = false := by
  refine beq_eq_false_iff_ne.2 fun h1 => h ?_
  rw [ByteArray.toList_eq, ByteArray.toList_eq] at h1
  obtain ⟨⟨x⟩⟩ := a
  obtain ⟨⟨y⟩⟩ := b
  have : x = y := h1
  rw [this]

set_option maxHeartbeats 1000000 in
theorem rename_any (T : Tab) (f : Nat → Nat → Nat) (i j : Nat) (w : World) (hT : TabIn w T f) (hi : i < T.A.length) (hj : j < T.B.length) :
    Calls Try.prog 21 #[.pointer (some ⟨T.t, 0, none⟩), .int .i64 (i : Int), .int .i64 (j : Int)] w fun e w' => e = .returned (.int .i64 (other T.A T.B i j : Int)) ∧ ∃ n, w' = w.drewN n := by
  obtain ⟨x, hx, _, _, hlx⟩ := left_at hT.okA hi
  obtain ⟨y, hy, _, _, hly⟩ := left_at hT.okB hj
  obtain ⟨x0, _, _⟩ := hT.na i x hx
  obtain ⟨y0, _, _⟩ := hT.nb j y hy
  have c0 := hT.c0
  have c1 := hT.c1
  have hA := hT.okA.many
  have hB := hT.okB.many
  have HO := hide (show other T.A T.B i j = if x.lab = y.lab then 0 else 1 by unfold other; rw [hlx, hly])
  clear hT hlx hly hx hy
  go_enter Try.func21, Try.ntmps21
  go_wp2_with fail
  by_cases he : x.lab = y.lab
  · have hb := lab_same he
    have HE := hide he
    clear he
    go_quiet (fail)
    go_wp2_with fail
    go_ret
    exact ⟨by rw [HO.out, if_pos HE.out]; rfl, _, rfl⟩
  · have hb := lab_other he
    have HE := hide he
    clear he
    go_quiet (fail)
    go_wp2_with fail
    go_ret
    exact ⟨by rw [HO.out, if_neg HE.out]; rfl, _, rfl⟩

set_option maxHeartbeats 1000000 in
theorem dahead_any (T : Tab) (F : Fst) (f h : Nat → Nat → Nat) (i j : Nat) (w : World) (hT : TabIn w T f) (hF : ForIn w T F h) (hi : i < T.A.length) (hj : j < T.B.length) (hx : F.x ≤ lefts T.A i) (hy : F.y ≤ lefts T.B j) :
    Calls Try.prog 39 #[.pointer (some ⟨F.p, 0, none⟩), .int .i64 (i : Int), .int .i64 (j : Int)] w fun e w' => e = .returned (.tuple #[.int .i64 ((lefts T.A i - F.x : Nat) : Int), .int .i64 ((lefts T.B j - F.y : Nat) : Int)]) ∧ ∃ n, w' = w.drewN n := by
  obtain ⟨a, ha, hla, hai, _⟩ := left_at hT.okA hi
  obtain ⟨b, hb, hlb, hbj, _⟩ := left_at hT.okB hj
  obtain ⟨_, _, a2⟩ := hT.na i a ha
  obtain ⟨_, _, b2⟩ := hT.nb j b hb
  rw [hla] at a2
  rw [hlb] at b2
  have c0 := hT.c0
  have c1 := hT.c1
  have f0 := hF.c0
  have f1 := hF.c1
  have f2 := hF.c2
  have hA := hT.okA.many
  have hB := hT.okB.many
  clear hT hF ha hb hla hlb
  go_enter Try.func39, Try.ntmps39
  go_wp2_with fail
  go_quiet (fail)
  go_wp2_with fail
  refine bodyPost_ret (v := .tuple #[.int .i64 ((lefts T.A i : Int) - (F.x : Int)), .int .i64 ((lefts T.B j : Int) - (F.y : Int))]) (by simp [results, Try.results39, go_sem]) rfl ⟨?_, _, rfl⟩
  rw [Int.ofNat_sub hx, Int.ofNat_sub hy]

set_option maxHeartbeats 1000000 in
theorem last_any (T : Tab) (F : Fst) (f h : Nat → Nat → Nat) (m n : Nat) (w : World) (hT : TabIn w T f) (hF : ForIn w T F h) (hm : 0 < m) (hn : 0 < n) (hM : m < F.M) (hN : n < F.N) :
    Calls Try.prog 38 #[.pointer (some ⟨F.p, 0, none⟩), .int .i64 (m : Int), .int .i64 (n : Int)] w fun e w' => e = .returned (.tuple #[.int .i64 ((F.x + m - 1 : Nat) : Int), .int .i64 ((F.y + n - 1 : Nat) : Int), .bool (decide (lefts T.A (F.x + m - 1) = F.x ∧ lefts T.B (F.y + n - 1) = F.y))]) ∧ ∃ n, w' = w.drewN n := by
  have hA := hT.okA.many
  have hB := hT.okB.many
  have iA := hF.inA
  have iB := hF.inB
  obtain ⟨a, ha, hla, hai, _⟩ := left_at (i := F.x + m - 1) hT.okA (by omega)
  obtain ⟨b, hb, hlb, hbj, _⟩ := left_at (i := F.y + n - 1) hT.okB (by omega)
  obtain ⟨_, _, a2⟩ := hT.na _ a ha
  obtain ⟨_, _, b2⟩ := hT.nb _ b hb
  rw [hla] at a2
  rw [hlb] at b2
  have c0 := hT.c0
  have c1 := hT.c1
  have f0 := hF.c0
  have f1 := hF.c1
  have f2 := hF.c2
  clear hT hF ha hb hla hlb
  have em : ((F.x + m - 1 : Nat) : Int) = (F.x : Int) + (m : Int) - 1 := by omega
  have en : ((F.y + n - 1 : Nat) : Int) = (F.y : Int) + (n : Int) - 1 := by omega
  rw [em, en]
  have HM := hide em
  have HN := hide en
  clear em en
  go_enter Try.func38, Try.ntmps38
  go_wp2_with fail
  go_quiet (fail)
  go_wp2_with fail
  by_cases h1 : lefts T.A (F.x + m - 1) = F.x
  · have b1 : (((lefts T.A (F.x + m - 1) : Nat) : Int) == (F.x : Int)) = true := by simp [h1]
    by_cases h2 : lefts T.B (F.y + n - 1) = F.y
    · have b2 : (((lefts T.B (F.y + n - 1) : Nat) : Int) == (F.y : Int)) = true := by simp [h2]
      have hd := hide (decide_eq_true (show lefts T.A (F.x + m - 1) = F.x ∧ lefts T.B (F.y + n - 1) = F.y from ⟨h1, h2⟩))
      go_quiet (fail)
      go_wp2_with fail
      refine bodyPost_ret (v := .tuple #[.int .i64 ((F.x : Int) + (m : Int) - 1), .int .i64 ((F.y : Int) + (n : Int) - 1), .bool true]) (by simp [results, Try.results38, go_sem]) rfl ⟨by rw [hd.out], _, by rw [World.drewN_drewN]⟩
    · have b2 : (((lefts T.B (F.y + n - 1) : Nat) : Int) == (F.y : Int)) = false := beq_eq_false_iff_ne.2 (by omega)
      have hd := hide (decide_eq_false (show ¬ (lefts T.A (F.x + m - 1) = F.x ∧ lefts T.B (F.y + n - 1) = F.y) from fun h => h2 h.2))
      go_quiet (fail)
      go_wp2_with fail
      refine bodyPost_ret (v := .tuple #[.int .i64 ((F.x : Int) + (m : Int) - 1), .int .i64 ((F.y : Int) + (n : Int) - 1), .bool false]) (by simp [results, Try.results38, go_sem]) rfl ⟨by rw [hd.out], _, by rw [World.drewN_drewN]⟩
  · have b1 : (((lefts T.A (F.x + m - 1) : Nat) : Int) == (F.x : Int)) = false := beq_eq_false_iff_ne.2 (by omega)
    have hd := hide (decide_eq_false (show ¬ (lefts T.A (F.x + m - 1) = F.x ∧ lefts T.B (F.y + n - 1) = F.y) from fun h => h1 h.1))
    go_quiet (fail)
    go_wp2_with fail
    refine bodyPost_ret (v := .tuple #[.int .i64 ((F.x : Int) + (m : Int) - 1), .int .i64 ((F.y : Int) + (n : Int) - 1), .bool false]) (by simp [results, Try.results38, go_sem]) rfl ⟨by rw [hd.out], _, by rw [World.drewN_drewN]⟩
end Go.Proofs.Ytpjlajjbioploab.Dist
