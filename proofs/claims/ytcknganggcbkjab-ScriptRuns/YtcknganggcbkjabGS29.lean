/- rename, last and ahead of package dist. Of the program's text. -/
/- together and least of package dist. Of the program's text. -/
/- What the tables of package dist hold, step by step; nodes of a tree and their parents. Of no program. -/
import Derived.Test.YtcknganggcbkjabProg
import Derived.Test.YtcknganggcbkjabGS28
import Derived.Deep.QuietTactic
import Derived.BigQuiet
import Derived.WalkSmall
import Derived.Laws.Cover1
namespace Go.Proofs.Ytcknganggcbkjab.Dist
open Go.Deep Go.RowKit
set_option linter.unusedVariables false
set_option maxRecDepth 20000

theorem lab_same {a b : ByteArray} (h : a = b) : (a.toList == b.toList) = true := by simp [h]
theorem lab_other {a b : ByteArray} (h : a ≠ b) : (a.toList == b.toList) = false := by
  refine beq_eq_false_iff_ne.2 fun h1 => h ?_
  rw [ByteArray.toList_eq, ByteArray.toList_eq] at h1
  obtain ⟨⟨x⟩⟩ := a
  obtain ⟨⟨y⟩⟩ := b
  have : x = y := h1
  rw [this]

set_option maxHeartbeats 1000000 in
theorem rename_any (T : Tab) (f : Nat → Nat → Nat) (i j : Nat) (w : World) (hT : TabIn w T f) (hi : i < T.A.length) (hj : j < T.B.length) :
    Calls Try.prog 48 #[.pointer (some ⟨T.t, 0, none⟩), .int .i64 (i : Int), .int .i64 (j : Int)] w fun e w' => e = .returned (.int .i64 (other T.A T.B i j : Int)) ∧ ∃ n, w' = w.drewN n := by
  obtain ⟨x, hx, _, _, hlx⟩ := left_at hT.okA hi
  obtain ⟨y, hy, _, _, hly⟩ := left_at hT.okB hj
  obtain ⟨x0, _, _⟩ := hT.na i x hx
  obtain ⟨y0, _, _⟩ := hT.nb j y hy
  have c0 := hT.c0
  have c1 := hT.c1
  have hA := hT.okA.many
  have hB := hT.okB.many
  have HO := hide (show other T.A T.B i j = if x.lab = y.lab then 0 else 1 by unfold other; rw [hlx, hly])
  clear hT hlx hly hx hy
  go_enter Try.func48, Try.ntmps48
  go_wp2_with fail
  by_cases he : x.lab = y.lab
  · have hb := lab_same he
    have HE := hide he
    clear he
    go_quiet (fail)
    go_wp2_with fail
    go_ret
    exact ⟨by rw [HO.out, if_pos HE.out]; rfl, _, rfl⟩
  · have hb := lab_other he
    have HE := hide he
    clear he
    go_quiet (fail)
    go_wp2_with fail
    go_ret
    exact ⟨by rw [HO.out, if_neg HE.out]; rfl, _, rfl⟩

set_option maxHeartbeats 1000000 in
theorem dahead_any (T : Tab) (F : Fst) (f h : Nat → Nat → Nat) (i j : Nat) (w : World) (hT : TabIn w T f) (hF : ForIn w T F h) (hi : i < T.A.length) (hj : j < T.B.length) (hx : F.x ≤ lefts T.A i) (hy : F.y ≤ lefts T.B j) :
    Calls Try.prog 109 #[.pointer (some ⟨F.p, 0, none⟩), .int .i64 (i : Int), .int .i64 (j : Int)] w fun e w' => e = .returned (.tuple #[.int .i64 ((lefts T.A i - F.x : Nat) : Int), .int .i64 ((lefts T.B j - F.y : Nat) : Int)]) ∧ ∃ n, w' = w.drewN n := by
  obtain ⟨a, ha, hla, hai, _⟩ := left_at hT.okA hi
  obtain ⟨b, hb, hlb, hbj, _⟩ := left_at hT.okB hj
  obtain ⟨_, _, a2⟩ := hT.na i a ha
  obtain ⟨_, _, b2⟩ := hT.nb j b hb
  rw [hla] at a2
  rw [hlb] at b2
  have c0 := hT.c0
  have c1 := hT.c1
  have f0 := hF.c0
  have f1 := hF.c1
  have f2 := hF.c2
  have hA := hT.okA.many
  have hB := hT.okB.many
  clear hT hF ha hb hla hlb
  go_enter Try.func109, Try.ntmps109
  go_wp2_with fail
  go_quiet (fail)
  go_wp2_with fail
  refine bodyPost_ret (v := .tuple #[.int .i64 ((lefts T.A i : Int) - (F.x : Int)), .int .i64 ((lefts T.B j : Int) - (F.y : Int))]) (by simp [results, Try.results109, go_sem]) rfl ⟨?_, _, rfl⟩
  rw [Int.ofNat_sub hx, Int.ofNat_sub hy]

set_option maxHeartbeats 1000000 in
theorem last_any (T : Tab) (F : Fst) (f h : Nat → Nat → Nat) (m n : Nat) (w : World) (hT : TabIn w T f) (hF : ForIn w T F h) (hm : 0 < m) (hn : 0 < n) (hM : m < F.M) (hN : n < F.N) :
    Calls Try.prog 96 #[.pointer (some ⟨F.p, 0, none⟩), .int .i64 (m : Int), .int .i64 (n : Int)] w fun e w' => e = .returned (.tuple #[.int .i64 ((F.x + m - 1 : Nat) : Int), .int .i64 ((F.y + n - 1 : Nat) : Int), .bool (decide (lefts T.A (F.x + m - 1) = F.x ∧ lefts T.B (F.y + n - 1) = F.y))]) ∧ ∃ n, w' = w.drewN n := by
  have hA := hT.okA.many
  have hB := hT.okB.many
  have iA := hF.inA
  have iB := hF.inB
  obtain ⟨a, ha, hla, hai, _⟩ := left_at (i := F.x + m - 1) hT.okA (by omega)
  obtain ⟨b, hb, hlb, hbj, _⟩ := left_at (i := F.y + n - 1) hT.okB (by omega)
  obtain ⟨_, _, a2⟩ := hT.na _ a ha
  obtain ⟨_, _, b2⟩ := hT.nb _ b hb
  rw [hla] at a2
  rw [hlb] at b2
  have c0 := hT.c0
  have c1 := hT.c1
  have f0 := hF.c0
  have f1 := hF.c1
  have f2 := hF.c2
  clear hT hF ha hb hla hlb
  have em : ((F.x + m - 1 : Nat) : Int) = (F.x : Int) + (m : Int) - 1 := by omega
  have en : ((F.y + n - 1 : Nat) : Int) = (F.y : Int) + (n : Int) - 1 := by omega
  rw [em, en]
  have HM := hide em
  have HN := hide en
  clear em en
  go_enter Try.func96, Try.ntmps96
  go_wp2_with fail
  go_quiet (fail)
  go_wp2_with fail
  by_cases h1 : lefts T.A (F.x + m - 1) = F.x
  · have b1 : (((lefts T.A (F.x + m - 1) : Nat) : Int) == (F.x : Int)) = true := by simp [h1]
    by_cases h2 : lefts T.B (F.y + n - 1) = F.y
    · have b2 : (((lefts T.B (F.y + n - 1) : Nat) : Int) == (F.y : Int)) = true := by simp [h2]
      have hd := hide (decide_eq_true (show lefts T.A (F.x + m - 1) = F.x ∧ lefts T.B (F.y + n - 1) = F.y from ⟨h1, h2⟩))
      go_quiet (fail)
      go_wp2_with fail
      refine bodyPost_ret (v := .tuple #[.int .i64 ((F.x : Int) + (m : Int) - 1), .int .i64 ((F.y : Int) + (n : Int) - 1), .bool true]) (by simp [results, Try.results96, go_sem]) rfl ⟨by rw [hd.out], _, by rw [World.drewN_drewN]⟩
    · have b2 : (((lefts T.B (F.y + n - 1) : Nat) : Int) == (F.y : Int)) = false := beq_eq_false_iff_ne.2 (by omega)
      have hd := hide (decide_eq_false (show ¬ (lefts T.A (F.x + m - 1) = F.x ∧ lefts T.B (F.y + n - 1) = F.y) from fun h => h2 h.2))
      go_quiet (fail)
      go_wp2_with fail
      refine bodyPost_ret (v := .tuple #[.int .i64 ((F.x : Int) + (m : Int) - 1), .int .i64 ((F.y : Int) + (n : Int) - 1), .bool false]) (by simp [results, Try.results96, go_sem]) rfl ⟨by rw [hd.out], _, by rw [World.drewN_drewN]⟩
  · have b1 : (((lefts T.A (F.x + m - 1) : Nat) : Int) == (F.x : Int)) = false := beq_eq_false_iff_ne.2 (by omega)
    have hd := hide (decide_eq_false (show ¬ (lefts T.A (F.x + m - 1) = F.x ∧ lefts T.B (F.y + n - 1) = F.y) from fun h => h1 h.1))
    go_quiet (fail)
    go_wp2_with fail
    refine bodyPost_ret (v := .tuple #[.int .i64 ((F.x : Int) + (m : Int) - 1), .int .i64 ((F.y : Int) + (n : Int) - 1), .bool false]) (by simp [results, Try.results96, go_sem]) rfl ⟨by rw [hd.out], _, by rw [World.drewN_drewN]⟩
end Go.Proofs.Ytcknganggcbkjab.Dist
namespace Go.Proofs.Ytcknganggcbkjab.Dist
open Go.Deep Go.RowKit
set_option linter.unusedVariables false
set_option maxRecDepth 20000

/-- What it costs if the last ones become each other. -/
def tog (T : Tab) (F : Fst) (f h : Nat → Nat → Nat) (m n : Nat) : Nat :=
  if lefts T.A (F.x + m - 1) = F.x ∧ lefts T.B (F.y + n - 1) = F.y then h (m - 1) (n - 1) + other T.A T.B (F.x + m - 1) (F.y + n - 1)
  else h (lefts T.A (F.x + m - 1) - F.x) (lefts T.B (F.y + n - 1) - F.y) + f (F.x + m - 1) (F.y + n - 1)
def lst (T : Tab) (F : Fst) (f h : Nat → Nat → Nat) (m n : Nat) : Nat :=
  if m = 0 ∨ n = 0 then m + n else min (min (tog T F f h m n) (h (m - 1) n + 1)) (h m (n - 1) + 1)

/-- Where forests begin, they begin with whole trees. -/
structure ForOk (T : Tab) (F : Fst) (f h : Nat → Nat → Nat) : Prop where
  inA : Frst (lefts T.A) F.x (F.x + F.M - 1)
  inB : Frst (lefts T.B) F.y (F.y + F.N - 1)
  smallF : ∀ a b, a < T.A.length → b < T.B.length → f a b ≤ 1000
  smallH : ∀ a b, a < F.M → b < F.N → h a b ≤ 1000

theorem drewN2 (w : World) (a b : Nat) : ∃ n, (w.drewN a).drewN b = w.drewN n := ⟨_, World.drewN_drewN _ _ _⟩
theorem drewN3 (w : World) (a b c : Nat) : ∃ n, ((w.drewN a).drewN b).drewN c = w.drewN n := ⟨_, by rw [World.drewN_drewN, World.drewN_drewN]⟩

set_option maxHeartbeats 2000000 in
theorem together_any (T : Tab) (F : Fst) (f h : Nat → Nat → Nat) (m n : Nat) (w : World) (hT : TabIn w T f) (hF : ForIn w T F h) (hO : ForOk T F f h) (hm : 0 < m) (hn : 0 < n) (hM : m < F.M) (hN : n < F.N) :
    Calls Try.prog 93 #[.pointer (some ⟨F.p, 0, none⟩), .int .i64 (m : Int), .int .i64 (n : Int)] w fun e w' => e = .returned (.int .i64 (tog T F f h m n : Int)) ∧ ∃ n, w' = w.drewN n := by
  have hA := hT.okA.many
  have hB := hT.okB.many
  have iA := hF.inA
  have iB := hF.inB
  obtain ⟨i, hi⟩ : ∃ i, i = F.x + m - 1 := ⟨_, rfl⟩
  obtain ⟨j, hj⟩ : ∃ j, j = F.y + n - 1 := ⟨_, rfl⟩
  have hil : i < T.A.length := by omega
  have hjl : j < T.B.length := by omega
  have hxi := hO.inA i (by omega) (by omega)
  have hyj := hO.inB j (by omega) (by omega)
  have hli := hT.okA.post.le i hil
  have hlj := hT.okB.post.le j hjl
  have HL := hide (last_any T F f h m n w hT hF hm hn hM hN)
  rw [← hi, ← hj] at HL
  obtain ⟨p, hp⟩ : ∃ p, p = lefts T.A i - F.x := ⟨_, rfl⟩
  obtain ⟨q, hq⟩ : ∃ q, q = lefts T.B j - F.y := ⟨_, rfl⟩
  have hV := hide (show tog T F f h m n = if lefts T.A i = F.x ∧ lefts T.B j = F.y then h (m - 1) (n - 1) + other T.A T.B i j else h p q + f i j by unfold tog; rw [← hi, ← hj, ← hp, ← hq])
  have hpM : p < F.M := by omega
  have hqN : q < F.N := by omega
  have s1 := hO.smallH (m - 1) (n - 1) (by omega) (by omega)
  have s2 := hO.smallH p q hpM hqN
  have s3 := hO.smallF i j hil hjl
  have s4 := other_le T.A T.B i j
  have HT := hide hT
  have HF := hide hF
  clear hT hF hO hi hj
  go_enter Try.func93, Try.ntmps93
  go_wp2_with fail
  refine Calls.mono HL.out ?_
  rintro e w1 ⟨rfl, n1, hw1⟩
  have hT : TabIn w1 T f := by rw [hw1]; exact HT.out.drewN n1
  have hF : ForIn w1 T F h := by rw [hw1]; exact HF.out.drewN n1
  have HW := hide hw1
  clear hw1 HL HT HF
  by_cases hone : lefts T.A i = F.x ∧ lefts T.B j = F.y
  · rw [decide_eq_true hone]
    have HV := hide (hV.out.trans (if_pos hone))
    have f0 := hF.c0
    have f3 := hF.c3
    have g1 := hF.grid.cell (i := m - 1) (by omega)
    have g2 := hF.grid.num (i := m - 1) (j := n - 1) (by omega) (by omega)
    have HR := hide (fun n => rename_any T f i j (w1.drewN n) (hT.drewN n) hil hjl)
    clear hone hV hT hF
    go_wp2_with fail
    go_quiet (refine Calls.quiet_of (HR.out _))
    go_wp2_with fail
    go_ret
    exact ⟨by rw [HV.out]; rfl, by rw [HW.out]; exact drewN2 _ _ _⟩
  · rw [decide_eq_false hone]
    have HV := hide (hV.out.trans (if_neg hone))
    have HA := hide (dahead_any T F f h i j w1 hT hF hil hjl hxi hyj)
    rw [← hp, ← hq] at HA
    clear hone hV
    have HT := hide hT
    have HF := hide hF
    clear hT hF
    go_wp2_with fail
    refine Calls.mono HA.out ?_
    rintro e w2 ⟨rfl, n2, hw2⟩
    have hT : TabIn w2 T f := by rw [hw2]; exact HT.out.drewN n2
    have hF : ForIn w2 T F h := by rw [hw2]; exact HF.out.drewN n2
    have HW2 := hide hw2
    clear hw2 HT HF HA hp hq
    have f0 := hF.c0
    have f3 := hF.c3
    have c2 := hT.c2
    have g3 := hF.grid.cell (i := p) hpM
    have g4 := hF.grid.num (i := p) (j := q) hpM hqN
    have t1 := hT.grid.cell (i := i) hil
    have t2 := hT.grid.num (i := i) (j := j) hil hjl
    clear hT hF
    go_wp2_with fail
    go_quiet (fail)
    go_wp2_with fail
    go_ret
    exact ⟨by rw [HV.out]; rfl, by rw [HW2.out, HW.out]; exact drewN3 _ _ _ _⟩

set_option maxHeartbeats 2000000 in
theorem least_any (T : Tab) (F : Fst) (f h : Nat → Nat → Nat) (m n : Nat) (w : World) (hT : TabIn w T f) (hF : ForIn w T F h) (hO : ForOk T F f h) (hM : m < F.M) (hN : n < F.N) :
    Calls Try.prog 82 #[.pointer (some ⟨F.p, 0, none⟩), .int .i64 (m : Int), .int .i64 (n : Int)] w fun e w' => e = .returned (.int .i64 (lst T F f h m n : Int)) ∧ ∃ n, w' = w.drewN n := by
  have hA := hT.okA.many
  have hB := hT.okB.many
  have iA := hF.inA
  have iB := hF.inB
  by_cases h0 : m = 0
  · subst h0
    have hv : lst T F f h 0 n = n := by unfold lst; rw [if_pos (Or.inl rfl), Nat.zero_add]
    rw [hv]
    clear hv
    go_enter Try.func82, Try.ntmps82
    go_wp2_with fail
    go_ret
    exact ⟨by first | rfl | (congr 2; omega) | simp, 0, rfl⟩
  · by_cases h1 : n = 0
    · subst h1
      have hv : lst T F f h m 0 = m := by unfold lst; rw [if_pos (Or.inr rfl), Nat.add_zero]
      rw [hv]
      clear hv
      have hm0 : 0 < m := by omega
      go_enter Try.func82, Try.ntmps82
      go_wp2_with fail
      go_ret
      exact ⟨by first | rfl | (congr 2; omega) | simp, 0, rfl⟩
    · have hm : 0 < m := by omega
      have hn : 0 < n := by omega
      have HT := hide (fun k => together_any T F f h m n (w.drewN k) (hT.drewN k) (hF.drewN k) hO hm hn hM hN)
      have ht : tog T F f h m n ≤ 2000 := by
        have hxi := hO.inA (F.x + m - 1) (by omega) (by omega)
        have hyj := hO.inB (F.y + n - 1) (by omega) (by omega)
        have hli := hT.okA.post.le (F.x + m - 1) (by omega)
        have hlj := hT.okB.post.le (F.y + n - 1) (by omega)
        unfold tog
        split
        · have := hO.smallH (m - 1) (n - 1) (by omega) (by omega)
          have := other_le T.A T.B (F.x + m - 1) (F.y + n - 1)
          omega
        · have := hO.smallH (lefts T.A (F.x + m - 1) - F.x) (lefts T.B (F.y + n - 1) - F.y) (by omega) (by omega)
          have := hO.smallF (F.x + m - 1) (F.y + n - 1) (by omega) (by omega)
          omega
      have f3 := hF.c3
      have g1 := hF.grid.cell (i := m - 1) (by omega)
      have g2 := hF.grid.num (i := m - 1) (j := n) (by omega) (by omega)
      have g3 := hF.grid.cell (i := m) hM
      have g4 := hF.grid.num (i := m) (j := n - 1) hM (by omega)
      have s1 := hO.smallH (m - 1) n (by omega) (by omega)
      have s2 := hO.smallH m (n - 1) (by omega) (by omega)
      have HV := hide (show lst T F f h m n = min (min (tog T F f h m n) (h (m - 1) n + 1)) (h m (n - 1) + 1) by unfold lst; rw [if_neg (by omega)])
      obtain ⟨t, hht⟩ : ∃ t, t = tog T F f h m n := ⟨_, rfl⟩
      rw [← hht] at HV HT ht
      clear hht hT hF hO
      have b0 : ((m : Int) == 0) = false := beq_eq_false_iff_ne.2 (by omega)
      have b1 : ((n : Int) == 0) = false := beq_eq_false_iff_ne.2 (by omega)
      obtain ⟨A1, hA1⟩ : ∃ A1, A1 = h (m - 1) n := ⟨_, rfl⟩
      obtain ⟨A2, hA2⟩ : ∃ A2, A2 = h m (n - 1) := ⟨_, rfl⟩
      rw [← hA1] at g2 s1 HV
      rw [← hA2] at g4 s2 HV
      clear hA1 hA2
      by_cases hq : A1 + 1 < t
      · by_cases hq2 : A2 + 1 < A1 + 1
        · have HE := hide (show lst T F f h m n = A2 + 1 by rw [HV.out]; omega)
          go_enter Try.func82, Try.ntmps82
          go_wp2_with fail
          go_quiet (refine Calls.quiet_of (HT.out _))
          go_wp2_with fail
          go_ret
          exact ⟨by rw [HE.out]; rfl, _, rfl⟩
        · have HE := hide (show lst T F f h m n = A1 + 1 by rw [HV.out]; omega)
          go_enter Try.func82, Try.ntmps82
          go_wp2_with fail
          go_quiet (refine Calls.quiet_of (HT.out _))
          go_wp2_with fail
          go_ret
          exact ⟨by rw [HE.out]; rfl, _, rfl⟩
      · by_cases hq2 : A2 + 1 < t
        · have HE := hide (show lst T F f h m n = A2 + 1 by rw [HV.out]; omega)
          go_enter Try.func82, Try.ntmps82
          go_wp2_with fail
          go_quiet (refine Calls.quiet_of (HT.out _))
          go_wp2_with fail
          go_ret
          exact ⟨by rw [HE.out]; rfl, _, rfl⟩
        · have HE := hide (show lst T F f h m n = t by rw [HV.out]; omega)
          go_enter Try.func82, Try.ntmps82
          go_wp2_with fail
          go_quiet (refine Calls.quiet_of (HT.out _))
          go_wp2_with fail
          go_ret
          exact ⟨by rw [HE.out]; rfl, _, rfl⟩
end Go.Proofs.Ytcknganggcbkjab.Dist
namespace Go.Proofs.Ytcknganggcbkjab.Dist
open Go.Deep Go.RowKit
set_option linter.unusedVariables false
set_option maxRecDepth 20000

theorem ndF_up : ∀ (k : Fo) (b : Nat) (p : Int) (i : Nat) (x : Nd), (ndF b k p)[i]? = some x → x.par = p ∨ ∃ q y, x.par = ((b + q : Nat) : Int) ∧ i < q ∧ (ndF b k p)[q]? = some y ∧ y.left ≤ x.left
  | .nil, _, _, i, x, h => by simp [ndF] at h
  | .node _ _ z k r, b, p, i, x, h => by
    unfold ndF at h ⊢
    by_cases e1 : i < fnodes k
    · rw [List.getElem?_append_left (by rw [ndF_length]; omega)] at h
      have hl := (ndF_left k b _ i x h).1
      rcases ndF_up k b _ i x h with e | ⟨q, y, h1, h2, h3, h4⟩
      · refine Or.inr ⟨fnodes k, ⟨z.1, p, (b : Int)⟩, e, e1, ?_, hl⟩
        rw [List.getElem?_append_right (by rw [ndF_length]; omega), ndF_length, Nat.sub_self]
        rfl
      · refine Or.inr ⟨q, y, h1, h2, ?_, h4⟩
        rw [List.getElem?_append_left (List.getElem?_eq_some_iff.1 h3).1]
        exact h3
    · rw [List.getElem?_append_right (by rw [ndF_length]; omega), ndF_length] at h
      by_cases e2 : i = fnodes k
      · subst e2
        rw [Nat.sub_self] at h
        simp at h
        subst h
        exact Or.inl rfl
      · obtain ⟨i', rfl⟩ : ∃ i', i = fnodes k + (i' + 1) := ⟨i - fnodes k - 1, by omega⟩
        rw [Nat.add_sub_cancel_left, List.getElem?_cons_succ] at h
        rcases ndF_up r _ p i' x h with e | ⟨q, y, h1, h2, h3, h4⟩
        · exact Or.inl e
        · refine Or.inr ⟨fnodes k + (q + 1), y, by rw [h1]; congr 1; omega, by omega, ?_, h4⟩
          rw [List.getElem?_append_right (by rw [ndF_length]; omega), ndF_length, Nat.add_sub_cancel_left, List.getElem?_cons_succ]
          exact h3
theorem ndF_next : ∀ (k : Fo) (b : Nat) (p : Int) (i j : Nat) (x y : Nd), (ndF b k p)[i]? = some x → (ndF b k p)[j]? = some y → i < j → y.left ≤ ((b + i : Nat) : Int) → ∃ q, x.par = ((b + q : Nat) : Int) ∧ q ≤ j
  | .nil, _, _, i, _, x, _, h, _, _, _ => by simp [ndF] at h
  | .node _ _ z k r, b, p, i, j, x, y, hx, hy, hij, hl => by
    unfold ndF at hx hy
    by_cases e1 : j < fnodes k
    · rw [List.getElem?_append_left (by rw [ndF_length]; omega)] at hx hy
      exact ndF_next k b _ i j x y hx hy hij hl
    · rw [List.getElem?_append_right (by rw [ndF_length]; omega), ndF_length] at hy
      by_cases e2 : i < fnodes k
      · rw [List.getElem?_append_left (by rw [ndF_length]; omega)] at hx
        rcases ndF_up k b _ i x hx with e | ⟨q, y', h1, h2, h3, h4⟩
        · exact ⟨fnodes k, e, by omega⟩
        · have := (List.getElem?_eq_some_iff.1 h3).1
          rw [ndF_length] at this
          exact ⟨q, h1, by omega⟩
      · obtain ⟨j', rfl⟩ : ∃ j', j = fnodes k + (j' + 1) := ⟨j - fnodes k - 1, by omega⟩
        rw [Nat.add_sub_cancel_left, List.getElem?_cons_succ] at hy
        have hyl := (ndF_left r _ _ j' y hy).1
        obtain ⟨i', rfl⟩ : ∃ i', i = fnodes k + (i' + 1) := ⟨i - fnodes k - 1, by omega⟩
        rw [List.getElem?_append_right (by rw [ndF_length]; omega), ndF_length, Nat.add_sub_cancel_left, List.getElem?_cons_succ] at hx
        obtain ⟨q, h1, h2⟩ := ndF_next r _ p i' j' x y hx hy (by omega) (by omega)
        exact ⟨fnodes k + (q + 1), by rw [h1]; congr 1; omega, by omega⟩
theorem ndT_root (s : ByteArray) (k : Fo) : (ndT 0 s k (-1))[fnodes k]? = some ⟨s, -1, ((0 : Nat) : Int)⟩ := by
  unfold ndT
  rw [List.getElem?_append_right (by rw [ndF_length]; omega), ndF_length, Nat.sub_self]
  rfl
theorem nok_ndT (s : ByteArray) (k : Fo) (h40 : fnodes k + 1 ≤ 40) (hl : ∀ x, x ∈ ndT 0 s k (-1) → x.lab.size ≤ 6) : NOk (ndT 0 s k (-1)) := by
  have hn := ndT_length 0 s k (-1)
  have hlen : ∀ i x, (ndT 0 s k (-1))[i]? = some x → i < fnodes k + 1 := fun i x hx => by
    have := (List.getElem?_eq_some_iff.1 hx).1
    omega
  have hK : ∀ i x, i < fnodes k → (ndT 0 s k (-1))[i]? = some x → (ndF 0 k ((0 + fnodes k : Nat) : Int))[i]? = some x := fun i x hi hx => by
    unfold ndT at hx
    rwa [List.getElem?_append_left (by rw [ndF_length]; omega)] at hx
  have hK' : ∀ i x, (ndF 0 k ((0 + fnodes k : Nat) : Int))[i]? = some x → (ndT 0 s k (-1))[i]? = some x := fun i x hx => by
    unfold ndT
    rw [List.getElem?_append_left (List.getElem?_eq_some_iff.1 hx).1]
    exact hx
  have hroot := ndT_root s k
  refine ⟨by omega, by omega, by rw [hn]; exact post_ndT s k, fun i x hx => nd_left hx, ?_, ?_, hl, by rw [hn, Nat.add_sub_cancel, lefts_at hroot]; rfl⟩
  · intro i x hx
    by_cases e : i = fnodes k
    · subst e
      rw [hroot] at hx
      injection hx with hx
      subst hx
      exact Or.inl (show (-1 : Int) < 0 by decide)
    · have hi := hlen i x hx
      have h0 := (nd_left hx).1
      rcases ndF_up k 0 _ i x (hK i x (by omega) hx) with h | ⟨q, y, h1, h2, h3, h4⟩
      · exact Or.inr ⟨fnodes k, _, by rw [h, Nat.zero_add], by omega, hroot, h0⟩
      · exact Or.inr ⟨q, y, by rw [h1, Nat.zero_add], h2, hK' q y h3, h4⟩
  · intro i j x y hx hy hij hle
    have hj := hlen j y hy
    by_cases e : j = fnodes k
    · rcases ndF_up k 0 _ i x (hK i x (by omega) hx) with h | ⟨q, y, h1, h2, h3, h4⟩
      · exact ⟨fnodes k, by rw [h, Nat.zero_add], by omega⟩
      · have := hlen q y (hK' q y h3)
        exact ⟨q, by rw [h1, Nat.zero_add], by omega⟩
    · obtain ⟨q, h1, h2⟩ := ndF_next k 0 _ i j x y (hK i x (by omega) hx) (hK j y (by omega) hy) hij (by rw [Nat.zero_add]; exact hle)
      exact ⟨q, by rw [h1, Nat.zero_add], h2⟩

/-- No node above this one begins where it does. -/
def Grt (L : List Nd) (i : Nat) : Prop := ∀ j, j < L.length → lefts L j = lefts L i → j ≤ i
theorem grt_root {L : List Nd} (h : NOk L) {i : Nat} {x : Nd} (hx : L[i]? = some x) (hp : x.par < 0) : Grt L i := fun j hj e => by
  obtain ⟨y, hy, hly, hyj, _⟩ := left_at h hj
  obtain ⟨x', hx', hlx, hxi, _⟩ := left_at h (List.getElem?_eq_some_iff.1 hx).1
  rcases Nat.lt_or_ge i j with hij | hij
  · obtain ⟨p, hpp, _⟩ := h.next i j x y hx hy hij (by rw [hly, e]; exact Int.ofNat_le.2 hxi)
    omega
  · exact hij
theorem grt_iff {L : List Nd} (h : NOk L) {i p : Nat} {x y : Nd} (hx : L[i]? = some x) (hp : x.par = (p : Int)) (hy : L[p]? = some y) : Grt L i ↔ y.left ≠ x.left := by
  have hil := (List.getElem?_eq_some_iff.1 hx).1
  have hpl := (List.getElem?_eq_some_iff.1 hy).1
  obtain ⟨x', hx', hlx, hxi, _⟩ := left_at h hil
  obtain ⟨y', hy', hly, hyp, _⟩ := left_at h hpl
  rw [hx] at hx'
  rw [hy] at hy'
  injection hx' with hx'
  injection hy' with hy'
  subst hx' hy'
  have hip : i < p ∧ y.left ≤ x.left := by
    rcases h.up i x hx with hn | ⟨q, z, h1, h2, h3, h4⟩
    · omega
    · have : q = p := by omega
      subst this
      rw [hy] at h3
      injection h3 with h3
      subst h3
      exact ⟨h2, h4⟩
  constructor
  · intro hg e
    have := hg p hpl (by omega)
    omega
  · intro hne j hj e
    rcases Nat.lt_or_ge i j with hij | hij
    · exfalso
      obtain ⟨z, hz, hlz, hzj, _⟩ := left_at h hj
      obtain ⟨q, hq, hqj⟩ := h.next i j x z hx hz hij (by rw [hlz, e]; exact Int.ofNat_le.2 hxi)
      have : q = p := by omega
      subst this
      rcases Nat.lt_or_ge q j with h5 | h5
      · have := h.post.lam q j h5 hj (by omega)
        omega
      · have : q = j := by omega
        subst this
        rw [hy] at hz
        injection hz with hz
        subst hz
        omega
    · exact hij

section
variable {la lb : Nat → Nat} {c : Nat → Nat → Nat} {n m : Nat}
/-- The step of the program's table. -/
theorem D_together (ha : Post la n) (hb : Post lb m) {i0 i j0 j : Nat} (hi : i ≤ n) (hj : j ≤ m) (h1 : Frst la i0 i) (h2 : Frst lb j0 j) (e1 : i0 < i) (e2 : j0 < j) :
    D la lb c i0 i j0 j = min (min (if la (i - 1) = i0 ∧ lb (j - 1) = j0 then D la lb c i0 (i - 1) j0 (j - 1) + c (i - 1) (j - 1) else D la lb c i0 (la (i - 1)) j0 (lb (j - 1)) + D la lb c (la (i - 1)) i (lb (j - 1)) j) (D la lb c i0 (i - 1) j0 j + 1)) (D la lb c i0 i j0 (j - 1) + 1) := by
  have l1 := h1 (i - 1) (by omega) (by omega)
  have l2 := h2 (j - 1) (by omega) (by omega)
  have l3 := ha.le (i - 1) (by omega)
  have l4 := hb.le (j - 1) (by omega)
  have d := D_step (c := c) ha hb hi hj h1 h2 e1 e2
  by_cases e : la (i - 1) = i0 ∧ lb (j - 1) = j0
  · rw [if_pos e]
    rw [e.1, e.2, D_left (Nat.le_refl _)] at d
    omega
  · rw [if_neg e]
    have fa := Frst.tree ha (i := i) (by omega) hi
    have fb := Frst.tree hb (i := j) (by omega) hj
    have sp := D_split (c := c) ha hb _ i0 (la (i - 1)) i j0 (lb (j - 1)) j (Nat.lt_succ_self _) l1 (by omega) l2 (by omega) hi hj h1 h2 fa fb
    have d2 := D_step (c := c) ha hb hi hj fa fb (by omega) (by omega)
    rw [D_left (i := la (i - 1)) (Nat.le_refl _)] at d2
    omega
end

/-- What the trees that two nodes head cost. -/
def TD (A B : List Nd) (i j : Nat) : Nat := D (lefts A) (lefts B) (other A B) (lefts A i) (i + 1) (lefts B j) (j + 1)
/-- All that begin where i' does have a number below i. -/
def Top (L : List Nd) (i' i : Nat) : Prop := ∀ j, j < L.length → lefts L j = lefts L i' → j < i
/-- What the table holds when i, j come next. -/
def Known (A B : List Nd) (f : Nat → Nat → Nat) (i j : Nat) : Prop := ∀ i' j', i' < A.length → j' < B.length → (Top A i' i ∨ (Top A i' (i + 1) ∧ Top B j' j)) → f i' j' = TD A B i' j'
theorem Known.start (A B : List Nd) (f : Nat → Nat → Nat) : Known A B f 0 0 := fun i' j' hi hj h => by
  rcases h with h | ⟨_, h⟩
  · have := h i' hi rfl
    omega
  · have := h j' hj rfl
    omega
theorem Known.line {A B : List Nd} {f : Nat → Nat → Nat} {i : Nat} (h : Known A B f i B.length) : Known A B f (i + 1) 0 := fun i' j' hi hj hh => by
  rcases hh with hh | ⟨_, hh⟩
  · exact h i' j' hi hj (Or.inr ⟨hh, fun j hj _ => hj⟩)
  · have := hh j' hj rfl
    omega
theorem Known.skip {A B : List Nd} {f : Nat → Nat → Nat} {i : Nat} (h : Known A B f i 0) (hi : i < A.length) (hg : ¬ Grt A i) : Known A B f (i + 1) 0 := fun i' j' hi' hj' hh => by
  rcases hh with hh | ⟨_, hh⟩
  · refine h i' j' hi' hj' (Or.inl fun j hj e => ?_)
    have h1 := hh j hj e
    rcases Nat.lt_or_ge j i with h2 | h2
    · exact h2
    · exfalso
      obtain rfl : j = i := by omega
      refine hg fun a ha ea => ?_
      have := hh a ha (ea.trans e)
      omega
  · have := hh j' hj' rfl
    omega
theorem Known.skipB {A B : List Nd} {f : Nat → Nat → Nat} {i j : Nat} (h : Known A B f i j) (hj : j < B.length) (hg : ¬ Grt B j) : Known A B f i (j + 1) := fun i' j' hi' hj' hh => by
  rcases hh with hh | ⟨h0, hh⟩
  · exact h i' j' hi' hj' (Or.inl hh)
  · refine h i' j' hi' hj' (Or.inr ⟨h0, fun a ha e => ?_⟩)
    have h1 := hh a ha e
    rcases Nat.lt_or_ge a j with h2 | h2
    · exact h2
    · exfalso
      obtain rfl : a = j := by omega
      refine hg fun a ha ea => ?_
      have := hh a ha (ea.trans e)
      omega
/-- Those that one note puts in. -/
def noted (A B : List Nd) (f : Nat → Nat → Nat) (i j : Nat) : Nat → Nat → Nat := fun a b => if a ≤ i ∧ b ≤ j ∧ lefts A a = lefts A i ∧ lefts B b = lefts B j then TD A B a b else f a b
theorem Known.note {A B : List Nd} {f : Nat → Nat → Nat} {i j : Nat} (h : Known A B f i j) (hi : i < A.length) (hj : j < B.length) : Known A B (noted A B f i j) i (j + 1) := fun i' j' hi' hj' hh => by
  unfold noted
  by_cases e : i' ≤ i ∧ j' ≤ j ∧ lefts A i' = lefts A i ∧ lefts B j' = lefts B j
  · rw [if_pos e]
  · rw [if_neg e]
    refine h i' j' hi' hj' ?_
    rcases hh with hh | ⟨h0, hh⟩
    · exact Or.inl hh
    · have a1 := h0 i' hi' rfl
      have a2 := hh j' hj' rfl
      by_cases e1 : lefts A i' = lefts A i
      · refine Or.inr ⟨h0, fun a ha ea => ?_⟩
        have h1 := hh a ha ea
        rcases Nat.lt_or_ge a j with h2 | h2
        · exact h2
        · exfalso
          obtain rfl : a = j := by omega
          exact e ⟨by omega, by omega, e1, ea.symm⟩
      · refine Or.inl fun a ha ea => ?_
        have h1 := h0 a ha ea
        rcases Nat.lt_or_ge a i with h2 | h2
        · exact h2
        · exfalso
          obtain rfl : a = i := by omega
          exact e1 ea.symm
theorem top_of {L : List Nd} (h : NOk L) {i i' : Nat} (hi : i < L.length) (hg : Grt L i) (h1 : lefts L i ≤ i') (h2 : i' ≤ i) : Top L i' (i + 1) ∧ (lefts L i' ≠ lefts L i → Top L i' i) := by
  have hle := h.post.le i' (by omega)
  have hlo : lefts L i ≤ lefts L i' := by
    rcases Nat.lt_or_ge i' i with h3 | h3
    · exact h.post.lam i' i h3 hi h1
    · obtain rfl : i' = i := by omega
      exact Nat.le_refl _
  have key : ∀ j, j < L.length → lefts L j = lefts L i' → i < j → lefts L i' = lefts L i := fun j hj e hij => by
    have := h.post.lam i j hij hj (by omega)
    omega
  refine ⟨fun j hj e => ?_, fun hne j hj e => ?_⟩
  · rcases Nat.lt_or_ge i j with h3 | h3
    · have := hg j hj (e.trans (key j hj e h3))
      omega
    · omega
  · rcases Nat.lt_or_ge j i with h3 | h3
    · exact h3
    · exfalso
      rcases Nat.lt_or_ge i j with h4 | h4
      · exact hne (key j hj e h4)
      · obtain rfl : j = i := by omega
        exact hne e.symm
/-- What forests of i and j need to know. -/
def Needs (A B : List Nd) (f : Nat → Nat → Nat) (i j : Nat) : Prop := ∀ i' j', lefts A i ≤ i' → i' ≤ i → lefts B j ≤ j' → j' ≤ j → ¬ (lefts A i' = lefts A i ∧ lefts B j' = lefts B j) → f i' j' = TD A B i' j'
theorem Known.needs {A B : List Nd} {f : Nat → Nat → Nat} {i j : Nat} (h : Known A B f i j) (hA : NOk A) (hB : NOk B) (hi : i < A.length) (hj : j < B.length) (gA : Grt A i) (gB : Grt B j) : Needs A B f i j := fun i' j' h1 h2 h3 h4 hne => by
  have ta := top_of hA hi gA h1 h2
  have tb := top_of hB hj gB h3 h4
  refine h i' j' (by omega) (by omega) ?_
  by_cases e : lefts A i' = lefts A i
  · exact Or.inr ⟨ta.1, tb.2 fun e2 => hne ⟨e, e2⟩⟩
  · exact Or.inl (ta.2 e)
theorem Known.all {A B : List Nd} {f : Nat → Nat → Nat} (h : Known A B f A.length 0) : ∀ i j, i < A.length → j < B.length → f i j = TD A B i j := fun i j hi hj => h i j hi hj (Or.inl fun a ha _ => ha)
end Go.Proofs.Ytcknganggcbkjab.Dist
