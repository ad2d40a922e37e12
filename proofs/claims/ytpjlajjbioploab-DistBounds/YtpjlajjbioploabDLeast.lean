/- together and least of package dist. Of the program's text. -/
import Derived.Test.YtpjlajjbioploabProg
import Derived.Test.YtpjlajjbioploabDRead
import Derived.Laws.Cover1
namespace Go.Proofs.Ytpjlajjbioploab.Dist
open Go.Deep Go.RowKit
set_option linter.unusedVariables false
set_option maxRecDepth 20000

/-- What it costs if the last ones become each other. -/
def tog (T : Tab) (F : Fst) (f h : Nat → Nat → Nat) (m n : Nat) : Nat :=
  if lefts T.A (F.x + m - 1) = F.x ∧ lefts T.B (F.y + n - 1) = F.y then h (m - 1) (n - 1) + other T.A T.B (F.x + m - 1) (F.y + n - 1)
  else h (lefts T.A (F.x + m - 1) - F.x) (lefts T.B (F.y + n - 1) - F.y) + f (F.x + m - 1) (F.y + n - 1)
def lst (T : Tab) (F : Fst) (f h : Nat → Nat → Nat) (m n : Nat) : Nat :=
  if m = 0 ∨ n = 0 then m + n else min (min (tog T F f h m n) (h (m - 1) n + 1)) (h m (n - 1) + 1)

/-- Where forests begin, they begin with whole trees. -/
structure ForOk (T : Tab) (F : Fst) (f h : Nat → Nat → Nat) : Prop where
  inA : Frst (lefts T.A) F.x (F.x + F.M - 1)
  inB : Frst (lefts T.B) F.y (F.y + F.N - 1)
  smallF : ∀ a b, a < T.A.length → b < T.B.length → f a b ≤ 1000
  smallH : ∀ a b, a < F.M → b < F.N → h a b ≤ 1000

theorem drewN2 (w : World) (a b : Nat) : ∃ n, (w.drewN a).drewN b = w.drewN n := ⟨_, World.drewN_drewN _ _ _⟩
theorem drewN3 (w : World) (a b c : Nat) : ∃ n, ((w.drewN a).drewN b).drewN c = w.drewN n := ⟨_, by rw [World.drewN_drewN, World.drewN_drewN]⟩

set_option maxHeartbeats 2000000 in
theorem together_any (T : Tab) (F : Fst) (f h : Nat → Nat → Nat) (m n : Nat) (w : World) (hT : TabIn w T f) (hF : ForIn w T F h) (hO : ForOk T F f h) (hm : 0 < m) (hn : 0 < n) (hM : m < F.M) (hN : n < F.N) :
    Calls Try.prog 32 #[.pointer (some ⟨F.p, 0, none⟩), .int .i64 (m : Int), .int .i64 (n : Int)] w fun e w' => e = .returned (.int .i64 (tog T F f h m n : Int)) ∧ ∃ n, w' = w.drewN n := by
  have hA := hT.okA.many
  have hB := hT.okB.many
  have iA := hF.inA
  have iB := hF.inB
  obtain ⟨i, hi⟩ : ∃ i, i = F.x + m - 1 := ⟨_, rfl⟩
  obtain ⟨j, hj⟩ : ∃ j, j = F.y + n - 1 := ⟨_, rfl⟩
  have hil : i < T.A.length := by omega
  have hjl : j < T.B.length := by omega
  have hxi := hO.inA i (by omega) (by omega)
  have hyj := hO.inB j (by omega) (by omega)
  have hli := hT.okA.post.le i hil
  have hlj := hT.okB.post.le j hjl
  have HL := hide (last_any T F f h m n w hT hF hm hn hM hN)
  rw [← hi, ← hj] at HL
  obtain ⟨p, hp⟩ : ∃ p, p = lefts T.A i - F.x := ⟨_, rfl⟩
  obtain ⟨q, hq⟩ : ∃ q, q = lefts T.B j - F.y := ⟨_, rfl⟩
  have hV := hide (show tog T F f h m n = if lefts T.A i = F.x ∧ lefts T.B j = F.y then h (m - 1) (n - 1) + other T.A T.B i j else h p q + f i j by unfold tog; rw [← hi, ← hj, ← hp, ← hq])
  have hpM : p < F.M := by omega
  have hqN : q < F.N := by omega
  have s1 := hO.smallH (m - 1) (n - 1) (by omega) (by omega)
  have s2 := hO.smallH p q hpM hqN
  have s3 := hO.smallF i j hil hjl
  have s4 := other_le T.A T.B i j
  have HT := hide hT
  have HF := hide hF
  clear hT hF hO hi hj
  go_enter Try.func32, Try.ntmps32
  go_wp2_with fail
  refine Calls.mono HL.out ?_
  rintro e w1 ⟨rfl, n1, hw1⟩
  have hT : TabIn w1 T f := by rw [hw1]; exact HT.out.drewN n1
  have hF : ForIn w1 T F h := by rw [hw1]; exact HF.out.drewN n1
  have HW := hide hw1
  clear hw1 HL HT HF
  by_cases hone : lefts T.A i = F.x ∧ lefts T.B j = F.y
  · rw [decide_eq_true hone]
    have HV := hide (hV.out.trans (if_pos hone))
    have f0 := hF.c0
    have f3 := hF.c3
    have g1 := hF.grid.cell (i := m - 1) (by omega)
    have g2 := hF.grid.num (i := m - 1) (j := n - 1) (by omega) (by omega)
    have HR := hide (fun n => rename_any T f i j (w1.drewN n) (hT.drewN n) hil hjl)
    clear hone hV hT hF
    go_wp2_with fail
    go_quiet (refine Calls.quiet_of (HR.out _))
    go_wp2_with fail
    go_ret
    exact ⟨by rw [HV.out]; rfl, by rw [HW.out]; exact drewN2 _ _ _⟩
  · rw [decide_eq_false hone]
    have HV := hide (hV.out.trans (if_neg hone))
    have HA := hide (dahead_any T F f h i j w1 hT hF hil hjl hxi hyj)
    rw [← hp, ← hq] at HA
    clear hone hV
    have HT := hide hT
    have HF := hide hF
    clear hT hF
    go_wp2_with fail
    refine Calls.mono HA.out ?_
    rintro e w2 ⟨rfl, n2, hw2⟩
    have hT : TabIn w2 T f := by rw [hw2]; exact HT.out.drewN n2
    have hF : ForIn w2 T F h := by rw [hw2]; exact HF.out.drewN n2
    have HW2 := hide hw2
    clear hw2 HT HF HA hp hq
    have f0 := hF.c0
    have f3 := hF.c3
    have c2 := hT.c2
    have g3 := hF.grid.cell (i := p) hpM
    have g4 := hF.grid.num (i := p) (j := q) hpM hqN
    have t1 := hT.grid.cell (i := i) hil
    have t2 := hT.grid.num (i := i) (j := j) hil hjl
    clear hT hF
    go_wp2_with fail
    go_quiet (fail)
    go_wp2_with fail
    go_ret
    exact ⟨by rw [HV.out]; rfl, by rw [HW2.out, HW.out]; exact drewN3 _ _ _ _⟩

set_option maxHeartbeats 2000000 in
theorem least_any (T : Tab) (F : Fst) (f h : Nat → Nat → Nat) (m n : Nat) (w : World) (hT : TabIn w T f) (hF : ForIn w T F h) (hO : ForOk T F f h) (hM : m < F.M) (hN : n < F.N) :
    Calls Try.prog 30 #[.pointer (some ⟨F.p, 0, none⟩), .int .i64 (m : Int), .int .i64 (n : Int)] w fun e w' => e = .returned (.int .i64 (lst T F f h m n : Int)) ∧ ∃ n, w' = w.drewN n := by
  have hA := hT.okA.many
  have hB := hT.okB.many
  have iA := hF.inA
  have iB := hF.inB
  by_cases h0 : m = 0
  · subst h0
    have hv : lst T F f h 0 n = n := by unfold lst; rw [if_pos (Or.inl rfl), Nat.zero_add]
    rw [hv]
    clear hv
    go_enter Try.func30, Try.ntmps30
    go_wp2_with fail
    go_ret
    exact ⟨by first | rfl | (congr 2; omega) | simp, 0, rfl⟩
  · by_cases h1 : n = 0
    · subst h1
      have hv : lst T F f h m 0 = m := by unfold lst; rw [if_pos (Or.inr rfl), Nat.add_zero]
      rw [hv]
      clear hv
      have hm0 : 0 < m := by omega
      go_enter Try.func30, Try.ntmps30
      go_wp2_with fail
      go_ret
      exact ⟨by first | rfl | (congr 2; omega) | simp, 0, rfl⟩
    · have hm : 0 < m := by omega
      have hn : 0 < n := by omega
      have HT := hide (fun k => together_any T F f h m n (w.drewN k) (hT.drewN k) (hF.drewN k) hO hm hn hM hN)
      have ht : tog T F f h m n ≤ 2000 := by
        have hxi := hO.inA (F.x + m - 1) (by omega) (by omega)
        have hyj := hO.inB (F.y + n - 1) (by omega) (by omega)
        have hli := hT.okA.post.le (F.x + m - 1) (by omega)
        have hlj := hT.okB.post.le (F.y + n - 1) (by omega)
        unfold tog
        split
        · have := hO.smallH (m - 1) (n - 1) (by omega) (by omega)
          have := other_le T.A T.B (F.x + m - 1) (F.y + n - 1)
          omega
        · have := hO.smallH (lefts T.A (F.x + m - 1) - F.x) (lefts T.B (F.y + n - 1) - F.y) (by omega) (by omega)
          have := hO.smallF (F.x + m - 1) (F.y + n - 1) (by omega) (by omega)
          omega
      have f3 := hF.c3
      have g1 := hF.grid.cell (i := m - 1) (by omega)
      have g2 := hF.grid.num (i := m - 1) (j := n) (by omega) (by omega)
      have g3 := hF.grid.cell (i := m) hM
      have g4 := hF.grid.num (i := m) (j := n - 1) hM (by omega)
      have s1 := hO.smallH (m - 1) n (by omega) (by omega)
      have s2 := hO.smallH m (n - 1) (by omega) (by omega)
      have HV := hide (show lst T F f h m n = min (min (tog T F f h m n) (h (m - 1) n + 1)) (h m (n - 1) + 1) by unfold lst; rw [if_neg (by omega)])
      obtain ⟨t, hht⟩ : ∃ t, t = tog T F f h m n := ⟨_, rfl⟩
      rw [← hht] at HV HT ht
      clear hht hT hF hO
      have b0 : ((m : Int) == 0) = false := beq_eq_false_iff_ne.2 (by omega)
      have b1 : ((n : Int) == 0) = false := beq_eq_false_iff_ne.2 (by omega)
      obtain ⟨A1, hA1⟩ : ∃ A1, A1 = h (m - 1) n := ⟨_, rfl⟩
      obtain ⟨A2, hA2⟩ : ∃ A2, A2 = h m (n - 1) := ⟨_, rfl⟩
      rw [← hA1] at g2 s1 HV
      rw [← hA2] at g4 s2 HV
      clear hA1 hA2
      by_cases hq : A1 + 1 < t
      · by_cases hq2 : A2 + 1 < A1 + 1
        · have HE := hide (show lst T F f h m n = A2 + 1 by rw [HV.out]; omega)
          go_enter Try.func30, Try.ntmps30
          go_wp2_with fail
          go_quiet (refine Calls.quiet_of (HT.out _))
          go_wp2_with fail
          go_ret
          exact ⟨by rw [HE.out]; rfl, _, rfl⟩
        · have HE := hide (show lst T F f h m n = A1 + 1 by rw [HV.out]; omega)
          go_enter Try.func30, Try.ntmps30
          go_wp2_with fail
          go_quiet (refine Calls.quiet_of (HT.out _))
          go_wp2_with fail
          go_ret
          exact ⟨by rw [HE.out]; rfl, _, rfl⟩
      · by_cases hq2 : A2 + 1 < t
        · have HE := hide (show lst T F f h m n = A2 + 1 by rw [HV.out]; omega)
          go_enter Try.func30, Try.ntmps30
          go_wp2_with fail
          go_quiet (refine Calls.quiet_of (HT.out _))
          go_wp2_with fail
          go_ret
          exact ⟨by rw [HE.out]; rfl, _, rfl⟩
        · have HE := hide (show lst T F f h m n = t by rw [HV.out]; omega)
          go_enter Try.func30, Try.ntmps30
          go_wp2_with fail
          go_quiet (refine Calls.quiet_of (HT.out _))
          go_wp2_with fail
          go_ret
          exact ⟨by rw [HE.out]; rfl, _, rfl⟩
end Go.Proofs.Ytpjlajjbioploab.Dist
