/- note of package dist puts what trees cost into the table. Of the program's text. -/
import Derived.Test.YtpjlajjbioploabProg
import Derived.Test.YtpjlajjbioploabDFillP
import Derived.Deep.LoopGhost
import Derived.Deep.RegionHeld3
namespace Go.Proofs.Ytpjlajjbioploab.Dist
open Go.Deep Go.RowKit
set_option linter.unusedVariables false
set_option maxRecDepth 20000

structure NtInv (w : World) (T : Tab) (f : Nat → Nat → Nat) (i j m n : Nat) (wr : World) : Prop where
  tab : TabIn wr T (nt T.A T.B f i j m n)
  kept : KeptT T w wr

set_option maxHeartbeats 2000000 in
theorem note_any (T : Tab) (f : Nat → Nat → Nat) (i j p : Nat) (w : World) (hT : TabIn w T f) (hF : ForIn w T (Fst.of T.A T.B i j p) (DV T.A T.B i j)) (hi : i < T.A.length) (hj : j < T.B.length) :
    Calls Try.prog 29 #[.pointer (some ⟨p, 0, none⟩)] w fun e w' => e = .returned (.tuple #[]) ∧ TabIn w' T (noted T.A T.B f i j) ∧ KeptT T w w' := by
  have hA := hT.okA.many
  have hB := hT.okB.many
  have okA := hide hT.okA
  have okB := hide hT.okB
  have hlx := hT.okA.post.le i hi
  have hly := hT.okB.post.le j hj
  have HF := hide (fun wr (h : KeptT T w wr) => h.forIn hT.ltT hF)
  have hst : NtInv w T f i j 1 1 w := ⟨hT.congr fun a b ha hb => (nt_start hT.okA hT.okB ha hb).symm, KeptT.refl _ _⟩
  have HST := hide hst
  obtain ⟨x, hx⟩ : ∃ x, x = lefts T.A i := ⟨_, rfl⟩
  obtain ⟨y, hy⟩ : ∃ y, y = lefts T.B j := ⟨_, rfl⟩
  obtain ⟨M, hM⟩ : ∃ M, M = i - x + 2 := ⟨_, rfl⟩
  obtain ⟨N, hNn⟩ : ∃ N, N = j - y + 2 := ⟨_, rfl⟩
  rw [← hx] at hlx
  rw [← hy] at hly
  have hM40 : M ≤ 41 := by omega
  have hN40 : N ≤ 41 := by omega
  have hM1 : x + M = i + 2 := by omega
  have hN1 : y + N = j + 2 := by omega
  have HX := hide hx
  have HY := hide hy
  have HM := hide (show M = i - lefts T.A i + 2 by rw [hM, hx])
  have HN := hide (show N = j - lefts T.B j + 2 by rw [hNn, hy])
  clear hT hF hst hx hy hM hNn
  go_enter Try.func29, Try.ntmps29
  go_wp2_with fail
  go_loopg [2] (M - 1) (fun gk v2 wr => ∃ m : Nat, gk = M - m ∧ 0 < m ∧ m ≤ M ∧ v2 = .int .i64 (m : Nat) ∧ NtInv w T f i j m 1 wr)
  case atStart => exact ⟨1, rfl, by omega, by omega, rfl, HST.out⟩
  case round =>
    obtain ⟨m, hgk, hm0, hm, rfl, hI⟩ := hrel
    obtain ⟨wA, hwA⟩ : ∃ wA, wA = wr := ⟨_, rfl⟩
    subst hwA
    have hF1 := HF.out wA hI.kept
    have p3 : wA.cell? ⟨p, 3, none⟩ = some (.slice (some ⟨p + 1, 0, none⟩) M M) := by rw [HM.out]; exact hF1.c3
    by_cases hin : m < M
    · have HI := hide hI
      clear hI hF1
      go_wp2_with fail
      go_loopg [3] (N - 1) (fun gk v3 wr => ∃ n : Nat, gk = N - n ∧ 0 < n ∧ n ≤ N ∧ v3 = .int .i64 (n : Nat) ∧ NtInv w T f i j m n wr)
      case atStart => exact ⟨1, rfl, by omega, by omega, rfl, HI.out⟩
      case round =>
        clear HI p3
        obtain ⟨n, hgk2, hn0, hn, rfl, hI2⟩ := hrel
        have hF2 := HF.out wr hI2.kept
        have hm2 : m < i - lefts T.A i + 2 := by rw [HM.out] at hin; exact hin
        have r3 : wr.cell? ⟨p, 3, none⟩ = some (.slice (some ⟨p + 1, 0, none⟩) M M) := by rw [HM.out]; exact hF2.c3
        have r0 : wr.cell? ⟨p + 1, m, none⟩ = some (.slice (some ⟨p + 1 + 1 + m, 0, none⟩) N N) := by rw [HN.out]; exact hF2.grid.cell hm2
        by_cases hin2 : n < N
        · have hn2 : n < j - lefts T.B j + 2 := by rw [HN.out] at hin2; exact hin2
          have hl := last_any T (Fst.of T.A T.B i j p) _ _ m n wr hI2.tab hF2 hm0 hn0 hm2 hn2
          have HL : Hid (Calls Try.prog 38 #[.pointer (some ⟨p, 0, none⟩), .int .i64 (m : Int), .int .i64 (n : Int)] wr fun e w' => e = .returned (.tuple #[.int .i64 ((lefts T.A i + m - 1 : Nat) : Int), .int .i64 ((lefts T.B j + n - 1 : Nat) : Int), .bool (decide (lefts T.A (lefts T.A i + m - 1) = lefts T.A i ∧ lefts T.B (lefts T.B j + n - 1) = lefts T.B j))]) ∧ ∃ n, w' = wr.drewN n) := hide hl
          rw [← HX.out, ← HY.out] at HL
          obtain ⟨i', hi'⟩ : ∃ i', i' = x + m - 1 := ⟨_, rfl⟩
          obtain ⟨j', hj'⟩ : ∃ j', j' = y + n - 1 := ⟨_, rfl⟩
          rw [← hi', ← hj'] at HL
          have hil : i' < T.A.length := by omega
          have hjl : j' < T.B.length := by omega
          have HI2 := hide hI2
          have HF2 := hide hF2
          clear hl hI2 hF2
          have HI' := hide hi'
          have HJ' := hide hj'
          clear hi' hj'
          go_wp2_with fail
          refine Calls.mono HL.out ?_
          rintro e w2 ⟨rfl, k, hw2⟩
          have hI3 : TabIn w2 T (nt T.A T.B f i j m n) := by rw [hw2]; exact HI2.out.tab.drewN k
          have hF3 : ForIn w2 T (Fst.of T.A T.B i j p) (DV T.A T.B i j) := by rw [hw2]; exact HF2.out.drewN k
          have hK3 : KeptT T w w2 := by rw [hw2]; exact HI2.out.kept.trans (KeptT.drewN T wr k)
          have HW2 := hide hw2
          clear hw2 HL HI2 HF2 r3 r0
          by_cases hone : lefts T.A i' = x ∧ lefts T.B j' = y
          · rw [decide_eq_true hone]
            have f0 : w2.cell? ⟨p, 0, none⟩ = some (.pointer (some ⟨T.t, 0, none⟩)) := hF3.c0
            have f3 : w2.cell? ⟨p, 3, none⟩ = some (.slice (some ⟨p + 1, 0, none⟩) M M) := by rw [HM.out]; exact hF3.c3
            have g1 : w2.cell? ⟨p + 1, m, none⟩ = some (.slice (some ⟨p + 1 + 1 + m, 0, none⟩) N N) := by rw [HN.out]; exact hF3.grid.cell hm2
            have g2 : w2.cell? ⟨p + 1 + 1 + m, n, none⟩ = some (.int .i64 (DV T.A T.B i j m n : Int)) := hF3.grid.num hm2 hn2
            have c2 := hI3.c2
            have t1 := hI3.grid.cell hil
            have t2 := hI3.grid.num hil hjl
            have t3 := hI3.grid.frozen hil j'
            have H3 := hide hI3
            have HK := hide hK3
            have H1 := hide hone
            clear hI3 hF3 hK3 hone
            go_wp2_with fail
            go_region
            go_wp2_with fail
            go_roundg (N - (n + 1))
            case measure => omega
            case rel =>
              refine ⟨n + 1, rfl, by omega, by omega, by go_num, ?_⟩
              have hs := (H3.out.set (i := i') (j := j') hil (DV T.A T.B i j m n)).congr (f' := nt T.A T.B f i j m (n + 1)) fun a b ha hb => by
                rw [HI'.out, HJ'.out, HX.out, HY.out]
                have h1 := H1.out
                rw [HI'.out, HJ'.out, HX.out, HY.out] at h1
                exact nt_put okA.out okB.out hi hj hm0 hn0 hm2 hn2 h1.1 h1.2 ha hb
              exact ⟨hs.below ((Below.refl _ _).drew), (HK.out.trans (KeptT.set hil _)).trans (KeptT.of_below (Below.refl _ _).drew)⟩
          · rw [decide_eq_false hone]
            have H3 := hide hI3
            have HK := hide hK3
            have H1 := hide hone
            clear hI3 hF3 hK3 hone
            go_wp2_with fail
            go_roundg (N - (n + 1))
            case measure => omega
            case rel =>
              refine ⟨n + 1, rfl, by omega, by omega, by go_num, H3.out.congr fun a b ha hb => ?_, HK.out⟩
              have h1 := H1.out
              rw [HI'.out, HJ'.out, HX.out, HY.out] at h1
              exact nt_pass okA.out okB.out hi hj hm0 hn0 h1 ha hb
        · have hne : n = N := by omega
          subst hne
          have HI2 := hide hI2
          clear hI2 hF2
          go_wp2_with fail
          go_roundg (M - (m + 1))
          case measure => omega
          case rel =>
            refine ⟨m + 1, rfl, by omega, by omega, by go_num, ?_, HI2.out.kept⟩
            have := HI2.out.tab
            rw [HN.out] at this
            exact this.congr fun a b ha hb => nt_line okA.out okB.out hj ha hb
    · have hme : m = M := by omega
      subst hme
      have HI := hide hI
      clear hI hF1
      go_wp2_with fail
      go_end0
      refine ⟨rfl, ?_, HI.out.kept⟩
      have := HI.out.tab
      rw [HM.out] at this
      exact this.congr fun a b ha hb => nt_end okA.out okB.out hi ha hb
end Go.Proofs.Ytpjlajjbioploab.Dist
