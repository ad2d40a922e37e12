/- best and bestTogether of package dist tell which nodes stay. Of the program's text. -/
/- empty, Pair, Cost, Best and Nodes of package dist, of a table that Of made. Of the program's text. -/
/- slices.IndexFunc, slices.ContainsFunc of pairs, and the closures of Diff. Of the program's text. -/
import Derived.Test.YtcknganggcbkjabProg
import Derived.Test.YtcknganggcbkjabGS32
import Derived.Test.YtcknganggcbkjabGS31
import Derived.Deep.AppendLies
import Derived.Test.YtcknganggcbkjabGS19
import Derived.Deep.LoopGhost
import Derived.WalkSmall
namespace Go.Proofs.Ytcknganggcbkjab.Dist
open Go.Deep Go.RowKit
set_option linter.unusedVariables false
set_option maxRecDepth 20000

theorem infoPair : (Try.prog.info? 99).map (fun i => (i.zero, i.size, i.bytes)) = some (some (.agg #[.int .i64 0, .int .i64 0]), 2, 16) := by kernel_rfl
def prCell (p : Nat × Nat) : List Value := [.int .i64 (p.1 : Int), .int .i64 (p.2 : Int)]
def prCells : List (Nat × Nat) → List Value
  | [] => []
  | p :: l => prCell p ++ prCells l
theorem prCells_length : ∀ l, (prCells l).length = l.length * 2
  | [] => rfl
  | p :: l => by simp [prCells, prCell, prCells_length l]; omega
theorem prCells_append : ∀ a b, prCells (a ++ b) = prCells a ++ prCells b
  | [], b => rfl
  | p :: a, b => by simp [prCells, prCells_append a b]
theorem prCells_at : ∀ (l : List (Nat × Nat)) (i : Nat) (p : Nat × Nat), l[i]? = some p → (prCells l)[i * 2]? = some (.int .i64 (p.1 : Int)) ∧ (prCells l)[i * 2 + 1]? = some (.int .i64 (p.2 : Int))
  | [], i, p, h => by simp at h
  | a :: l, 0, p, h => by
    have : a = p := by simpa using h
    subst this
    simp [prCells, prCell]
  | a :: l, i + 1, p, h => by
    have := prCells_at l i p (by simpa using h)
    rw [show (i + 1) * 2 = i * 2 + 2 by omega]
    simpa [prCells, prCell] using this
theorem prCells_one : ∀ (l : List (Nat × Nat)) (u : Value), u ∈ prCells l → u.oneCell' = true
  | [], u, h => by simp [prCells] at h
  | p :: l, u, h => by
    simp only [prCells, prCell, List.mem_append, List.mem_cons, List.not_mem_nil, or_false] at h
    rcases h with (rfl | rfl) | h
    · rfl
    · rfl
    · exact prCells_one l u h
theorem pr_news (w : World) (T : TypeId) (a b : Int) (j : Nat) (u : Value) (h : ([Value.int .i64 a, Value.int .i64 b] : List Value)[j]? = some u) : (w.alloc (Obj.cells #[.int .i64 a, .int .i64 b] T)).cell? ((⟨w.heap.size, 0, none⟩ : Addr).add j) = some u := by
  refine World.news_of_block (cs := #[.int .i64 a, .int .i64 b]) (t := T) (fr := (0, 0)) ?_ j u h
  show (w.heap.push _)[w.heap.size]? = _
  simp
theorem own_cells {w : World} {B T n g vc : Nat} {l : List (Nat × Nat)} (h : w.ownsRow B T 2 (.slice (some ⟨g, 0, none⟩) n vc) n (prCells l)) (j : Nat) (u : Value) (hu : (prCells l)[j]? = some u) : w.cell? ((⟨g, 0, none⟩ : Addr).add j) = some u := by
  have := ownsRow_cell h j u hu
  by_cases e : j = 0
  · subst e
    simpa [Addr.add] using this
  · simpa [Addr.add, e] using this

/-- What best comes to: these pairs, in new memory. -/
def BestPost (l : List (Nat × Nat)) (w : World) (e : Ending) (w' : World) : Prop := ∃ v, e = .returned v ∧ w'.ownsRow w.heap.size 99 2 v l.length (prCells l) ∧ Below w.heap.size w w'
def BestAt (T : Tab) (i j m n : Nat) : Prop := ∀ (p : Nat) (w : World), TabIn w T (TD T.A T.B) → ForIn w T (Fst.of T.A T.B i j p) (DV T.A T.B i j) → BOk T.A T.B i j m n →
    Calls Try.prog 78 #[.pointer (some ⟨p, 0, none⟩), .int .i64 (m : Int), .int .i64 (n : Int)] w (BestPost (bestL T.A T.B i j m n) w)

theorem tog_is (T : Tab) (i j p m n : Nat) : tog T (Fst.of T.A T.B i j p) (TD T.A T.B) (DV T.A T.B i j) m n = togT T.A T.B i j m n := rfl
theorem needs_all (A B : List Nd) (i j : Nat) : Needs A B (TD A B) i j := fun _ _ _ _ _ _ _ => rfl
theorem forOk_all (T : Tab) {i j p : Nat} (hA : NOk T.A) (hB : NOk T.B) (hi : i < T.A.length) (hj : j < T.B.length) : ForOk T (Fst.of T.A T.B i j p) (TD T.A T.B) (DV T.A T.B i j) := by
  have h := forOk T (TD T.A T.B) (p := p) (m := i - lefts T.A i + 2) (n := 0) hA hB hi hj (fun a b ha hb => by
    have h1 := hA.post.le a ha
    have h2 := hB.post.le b hb
    have h3 := hA.many
    have h4 := hB.many
    have := DV_le hA hB ha hb (m := a - lefts T.A a + 1) (n := b - lefts T.B b + 1) (by omega) (by omega)
    unfold DV at this
    rw [show lefts T.A a + (a - lefts T.A a + 1) = a + 1 by omega, show lefts T.B b + (b - lefts T.B b + 1) = b + 1 by omega] at this
    unfold TD
    omega)
  refine ⟨h.inA, h.inB, h.smallF, fun a b ha hb => ?_⟩
  have := h.smallH a b ha hb
  rw [filled_all (DV T.A T.B i j) (i - lefts T.A i + 2) a b ha] at this
  exact this

set_option maxHeartbeats 2000000 in
theorem bestTog_of (T : Tab) (i j m n p : Nat) (w : World) (ih : ∀ i' j' m' n', m' + n' < m + n → BestAt T i' j' m' n') (hT : TabIn w T (TD T.A T.B)) (hF : ForIn w T (Fst.of T.A T.B i j p) (DV T.A T.B i j)) (hO : BOk T.A T.B i j m n) (hm : 0 < m) (hn : 0 < n) (ht : togT T.A T.B i j m n = DV T.A T.B i j m n) :
    Calls Try.prog 94 #[.pointer (some ⟨p, 0, none⟩), .int .i64 (m : Int), .int .i64 (n : Int)] w (BestPost (bestL T.A T.B i j m n) w) := by
  have hA := hT.okA.many
  have hB := hT.okB.many
  have hil := hO.hi
  have hjl := hO.hj
  have hend := hO.ends
  obtain ⟨la1, la2, lb1, lb2, la3, lb3⟩ := hO.last hm hn
  have hm40 : m ≤ 41 := by omega
  have hn40 : n ≤ 41 := by omega
  have hl : Calls Try.prog 96 #[.pointer (some ⟨p, 0, none⟩), .int .i64 (m : Int), .int .i64 (n : Int)] w fun e w' => e = .returned (.tuple #[.int .i64 ((lefts T.A i + m - 1 : Nat) : Int), .int .i64 ((lefts T.B j + n - 1 : Nat) : Int), .bool (decide (lefts T.A (lefts T.A i + m - 1) = lefts T.A i ∧ lefts T.B (lefts T.B j + n - 1) = lefts T.B j))]) ∧ ∃ n, w' = w.drewN n := last_any T (Fst.of T.A T.B i j p) _ _ m n w hT hF hm hn hO.hM hO.hN
  obtain ⟨iP, hiP, hp0, hp1, hp2⟩ := info_parts infoPair
  obtain ⟨i', hi'⟩ : ∃ i', i' = lefts T.A i + m - 1 := ⟨_, rfl⟩
  obtain ⟨j', hj'⟩ : ∃ j', j' = lefts T.B j + n - 1 := ⟨_, rfl⟩
  have HONE := hide (fun h1 => bestL_one hO hm hn ht h1)
  have HTWO := hide (fun h1 => bestL_two hO hm hn ht h1)
  have HSUB := hide (hO.sub hm hn)
  rw [← hi', ← hj'] at hl HONE HTWO HSUB
  rw [← hi'] at la1 la2 la3
  rw [← hj'] at lb1 lb2 lb3
  have HL := hide hl
  have HI := hide ih
  have HT := hide hT
  have HF := hide hF
  have HO := hide hO
  have HI' := hide hi'
  have HJ' := hide hj'
  clear ih hT hF hO hl ht hi' hj'
  go_enter Try.func94, Try.ntmps94
  go_wp2_with fail
  refine Calls.mono HL.out ?_
  rintro e w1 ⟨rfl, k1, hw1⟩
  have hT1 : TabIn w1 T (TD T.A T.B) := by rw [hw1]; exact HT.out.drewN k1
  have hF1 : ForIn w1 T (Fst.of T.A T.B i j p) (DV T.A T.B i j) := by rw [hw1]; exact HF.out.drewN k1
  have HB1 := hide (show Below w.heap.size w w1 by rw [hw1]; exact below_drewN (Below.refl _ _) k1)
  have HZ1 := hide (show w1.heap.size = w.heap.size by rw [hw1]; rfl)
  clear hw1 HL HT HF
  by_cases hone : lefts T.A i' = lefts T.A i ∧ lefts T.B j' = lefts T.B j
  · rw [decide_eq_true hone]
    have hb := HI.out i j (m - 1) (n - 1) (by omega) p w1 hT1 hF1 (HO.out.less (by omega) (by omega))
    rw [show ((m - 1 : Nat) : Int) = (m : Int) - 1 by omega, show ((n - 1 : Nat) : Int) = (n : Int) - 1 by omega] at hb
    have hlen := (bestL_len (HO.out.less (a := m - 1) (b := n - 1) (by omega) (by omega))).1
    obtain ⟨L, hL⟩ : ∃ L, L = bestL T.A T.B i j (m - 1) (n - 1) := ⟨_, rfl⟩
    have HEQ := hide (show bestL T.A T.B i j m n = L ++ [(i', j')] by rw [hL]; exact HONE.out hone)
    rw [← hL] at hb hlen
    have hLl : L.length ≤ 100 := by omega
    have HBS := hide hb
    clear hb hL hT1 hF1 HO HI HONE HTWO hone hlen
    go_wp2_with fail
    refine Calls.mono HBS.out ?_
    rintro e w2 ⟨v, rfl, hrow, hb2⟩
    rw [HZ1.out] at hrow hb2
    obtain ⟨va, vc, rfl, hvl, hvm⟩ := ownsN_form hrow
    unfold maxLen at hvm
    have hw2s : w.heap.size ≤ w2.heap.size := by have := hb2.size; rw [HZ1.out] at this; exact this
    have HB2 := hide (HB1.out.trans hb2)
    have HRW := hide hrow
    clear hb2 HBS
    go_wp2_with (at_builtin; refine wpList_append_lies _ rfl (.tmp 27) (.tmp 31) 66 rfl w.heap.size 99 iP _ 2 16 Try.underlying66 hiP hp0 hp1 hp2 rfl (by decide) _ L.length _ rfl (ownsN_below hrow ((Below.refl _ _).alloc (Nat.le_refl _) _)) ⟨w2.heap.size, 0, none⟩ 1 1 (prCell (i', j')) rfl rfl (pr_news w2 99 (i' : Int) (j' : Int)) (fun u hu => prCells_one [(i', j')] u (by simpa [prCells] using hu)) (by decide) (by unfold maxLen; omega) (by omega) (by simp; omega) (w2.heap.size + 1) (by simp) ?_)
    intro g cap w3 hown hgrow hat hlt
    have HOWN := hide hown
    have HG := hide (show Below w.heap.size w w3 from (HB2.out.alloc hw2s _).grown hgrow (by simp; omega) (fun g hg => (ownBlockN_lt HRW.out hg).1))
    clear hown hgrow hat hrow
    go_wp2_with fail
    go_ret
    refine ⟨_, rfl, ?_, HG.out⟩
    rw [HEQ.out, List.length_append, prCells_append]
    simpa [prCells] using HOWN.out
  · rw [decide_eq_false hone]
    have HEQ0 := hide (HTWO.out hone)
    have ha : Calls Try.prog 109 #[.pointer (some ⟨p, 0, none⟩), .int .i64 (i' : Int), .int .i64 (j' : Int)] w1 fun e w' => e = .returned (.tuple #[.int .i64 ((lefts T.A i' - lefts T.A i : Nat) : Int), .int .i64 ((lefts T.B j' - lefts T.B j : Nat) : Int)]) ∧ ∃ n, w' = w1.drewN n := dahead_any T (Fst.of T.A T.B i j p) _ _ i' j' w1 hT1 hF1 (by omega) (by omega) la1 lb1
    obtain ⟨q1, hq1⟩ : ∃ q1, q1 = lefts T.A i' - lefts T.A i := ⟨_, rfl⟩
    obtain ⟨q2, hq2⟩ : ∃ q2, q2 = lefts T.B j' - lefts T.B j := ⟨_, rfl⟩
    rw [← hq1, ← hq2] at ha HSUB HEQ0
    have hqm : q1 < m := by have := HI'.out; omega
    have hqn : q2 < n := by have := HJ'.out; omega
    have hless : ¬ (q1 = 0 ∧ q2 = 0) := fun h => hone ⟨by omega, by omega⟩
    have HA := hide ha
    have HT1 := hide hT1
    have HF1 := hide hF1
    have HQ1 := hide hq1
    have HQ2 := hide hq2
    clear ha hq1 hq2 hT1 hF1 HONE HTWO hone la1 la2 lb1 lb2
    go_wp2_with fail
    refine Calls.mono HA.out ?_
    rintro e w2 ⟨rfl, k2, hw2⟩
    have hT2 : TabIn w2 T (TD T.A T.B) := by rw [hw2]; exact HT1.out.drewN k2
    have hF2 : ForIn w2 T (Fst.of T.A T.B i j p) (DV T.A T.B i j) := by rw [hw2]; exact HF1.out.drewN k2
    have HB2 := hide (show Below w.heap.size w w2 by rw [hw2]; exact below_drewN HB1.out k2)
    have HZ2 := hide (show w2.heap.size = w.heap.size by rw [hw2]; exact HZ1.out)
    have f0 : w2.cell? ⟨p, 0, none⟩ = some (.pointer (some ⟨T.t, 0, none⟩)) := hF2.c0
    have HFR := hide (forests_any T (TD T.A T.B) i' j' w2 hT2 (by omega) (by omega) (needs_all _ _ _ _) (forOk_all T (p := 0) hT2.okA hT2.okB hil hjl).smallF)
    have HT2 := hide hT2
    have HF2 := hide hF2
    clear hw2 HA HT1 HF1 HB1 HZ1 hT2 hF2
    go_wp2_with fail
    refine Calls.mono HFR.out ?_
    rintro e w3 ⟨rfl, hfor, hb3⟩
    obtain ⟨p3, hp3⟩ : ∃ p3, p3 = w2.heap.size := ⟨_, rfl⟩
    rw [← hp3] at hfor
    rw [← hp3]
    have HP3 := hide hp3
    have hT3 := HT2.out.below hb3
    have hF3 := HF2.out.below hb3
    have HB3 := hide (HB2.out.trans (hb3.mono (by rw [HZ2.out]; exact Nat.le_refl _)))
    have hb := HI.out i j q1 q2 (by omega) p w3 hT3 hF3 (HO.out.less (by omega) (by omega))
    have hz3 := hb3.size
    rw [HZ2.out] at hz3
    have HBS := hide hb
    have HT3 := hide hT3
    have HFO := hide hfor
    have hlen1 := (bestL_len (HO.out.less (a := q1) (b := q2) (by omega) (by omega))).1
    have hlen2 := (bestL_len HSUB.out).1
    have hpos : 0 < (bestL T.A T.B i' j' (m - q1) (n - q2)).length := by
      refine bestL_some HSUB.out ?_ ?_
      · have h1 := HI'.out
        have h2 := HQ1.out
        have h3 := HSUB.out.hA.post.le i' (by omega)
        have h4 := HO.out.hA.post.le i hil
        have h5 := HO.out.fa i' (by omega) (by omega)
        omega
      · have h1 := HJ'.out
        have h2 := HQ2.out
        have h3 := HSUB.out.hB.post.le j' (by omega)
        have h4 := HO.out.hB.post.le j hjl
        have h5 := HO.out.fb j' (by omega) (by omega)
        omega
    obtain ⟨L1, hL1⟩ : ∃ L1, L1 = bestL T.A T.B i j q1 q2 := ⟨_, rfl⟩
    obtain ⟨L2, hL2⟩ : ∃ L2, L2 = bestL T.A T.B i' j' (m - q1) (n - q2) := ⟨_, rfl⟩
    have HEQ := hide (show bestL T.A T.B i j m n = L1 ++ L2 by rw [hL1, hL2]; exact HEQ0.out)
    rw [← hL1] at HBS hlen1
    rw [← hL2] at hlen2 hpos
    have hl1 : L1.length ≤ 100 := by omega
    have hl2 : L2.length ≤ 100 := by omega
    have HL2 := hide hL2
    clear hp3 hb hT3 hF3 hfor hb3 HFR HT2 HF2 hL1 hL2 hlen1 hlen2
    go_wp2_with fail
    refine Calls.mono HBS.out ?_
    rintro e w4 ⟨v1, rfl, hrow1, hb4⟩
    obtain ⟨va, vc, rfl, hvl, hvm⟩ := ownsN_form hrow1
    unfold maxLen at hvm
    have hz4 := hb4.size
    have hb := HI.out i' j' (m - q1) (n - q2) (by omega) p3 w4 (HT3.out.below hb4) (HFO.out.below hb4) HSUB.out
    rw [← HL2.out, show ((m - q1 : Nat) : Int) = (m : Int) - (q1 : Int) by omega, show ((n - q2 : Nat) : Int) = (n : Int) - (q2 : Int) by omega] at hb
    have HBS2 := hide hb
    have HR1 := hide hrow1
    have HB4 := hide (HB3.out.trans (hb4.mono (by omega)))
    have hw3 : w.heap.size ≤ w3.heap.size := by omega
    clear hb hrow1 hb4 HBS HT3 HFO HI HO HSUB
    go_wp2_with fail
    refine Calls.mono HBS2.out ?_
    rintro e w5 ⟨v2, rfl, hrow2, hb5⟩
    obtain ⟨g2, vc2, rfl, hg2, hg2l, hvl2, hvm2⟩ := ownsN_some hrow2 hpos
    have hz5 := hb5.size
    have hr1 := ownsN_below HR1.out hb5
    have HB5 := hide (HB4.out.trans (hb5.mono (by omega)))
    have hrw : w5.ownsRow w.heap.size 99 2 (.slice va L1.length vc) L1.length (prCells L1) := ⟨hr1.1, by
      rcases hr1.2 with h | ⟨g, cap, cur, h1, h2, h3⟩
      · exact Or.inl h
      · exact Or.inr ⟨g, cap, cur, h1, by omega, h3⟩⟩
    have HR := hide hrw
    clear hb5 hr1 HBS2 HR1
    go_wp2_with (at_builtin; refine wpList_append_lies _ rfl (.tmp 50) (.tmp 58) 66 rfl w.heap.size 99 iP _ 2 16 Try.underlying66 hiP hp0 hp1 hp2 rfl (by decide) _ L1.length _ rfl hrw ⟨g2, 0, none⟩ L2.length vc2 (prCells L2) rfl (prCells_length L2) (own_cells hrow2) (prCells_one L2) hpos (by unfold maxLen; omega) (by omega) (by omega) w5.heap.size rfl ?_)
    intro g cap w6 hown hgrow hat hlt
    have HOWN := hide hown
    have HG := hide (show Below w.heap.size w w6 from HB5.out.grown hgrow (by omega) (fun g hg => (ownBlockN_lt HR.out hg).1))
    clear hown hgrow hat hrw
    go_wp2_with fail
    go_ret
    refine ⟨_, rfl, ?_, HG.out⟩
    rw [HEQ.out, List.length_append, prCells_append]
    exact HOWN.out

set_option maxHeartbeats 2000000 in
theorem best_at (T : Tab) : ∀ (N i j m n : Nat), m + n < N → BestAt T i j m n := by
  intro N
  induction N with
  | zero => intro i j m n h; omega
  | succ N ih =>
    intro i j m n hN p w hT hF hO
    have hA := hT.okA.many
    have hB := hT.okB.many
    have hil := hO.hi
    have hjl := hO.hj
    have hend := hO.ends
    by_cases h0 : m = 0
    · subst h0
      have HE := hide (bestL_none (A := T.A) (B := T.B) (i := i) (j := j) (m := 0) (n := n) (Or.inl rfl))
      clear hT hF hO ih
      go_enter Try.func78, Try.ntmps78
      go_wp2_with fail
      go_ret
      refine ⟨_, rfl, ?_, Below.refl _ _⟩
      rw [HE.out]
      exact ⟨rfl, Or.inl ⟨rfl, rfl⟩⟩
    · by_cases h1 : n = 0
      · subst h1
        have HE := hide (bestL_none (A := T.A) (B := T.B) (i := i) (j := j) (m := m) (n := 0) (Or.inr rfl))
        have hm0 : ((m : Int) == 0) = false := beq_eq_false_iff_ne.2 (by omega)
        clear hT hF hO ih
        go_enter Try.func78, Try.ntmps78
        go_wp2_with fail
        go_ret
        refine ⟨_, rfl, ?_, Below.refl _ _⟩
        rw [HE.out]
        exact ⟨rfl, Or.inl ⟨rfl, rfl⟩⟩
      · have hm : 0 < m := by omega
        have hn : 0 < n := by omega
        have b0 : ((m : Int) == 0) = false := beq_eq_false_iff_ne.2 (by omega)
        have b1 : ((n : Int) == 0) = false := beq_eq_false_iff_ne.2 (by omega)
        have hok := forOk_all T (p := p) hT.okA hT.okB hil hjl
        have HTG : Hid (∀ k, Calls Try.prog 93 #[.pointer (some ⟨p, 0, none⟩), .int .i64 (m : Int), .int .i64 (n : Int)] (w.drewN k) fun e w' => e = .returned (.int .i64 (togT T.A T.B i j m n : Int)) ∧ ∃ n, w' = (w.drewN k).drewN n) := hide fun k => together_any T (Fst.of T.A T.B i j p) _ _ m n (w.drewN k) (hT.drewN k) (hF.drewN k) hok hm hn hO.hM hO.hN
        have f3 : w.cell? ⟨p, 3, none⟩ = some (.slice (some ⟨p + 1, 0, none⟩) (i - lefts T.A i + 2) (i - lefts T.A i + 2)) := hF.c3
        have hMl := hO.hM
        have hNl := hO.hN
        have g1 : w.cell? ⟨p + 1, m, none⟩ = some (.slice (some ⟨p + 1 + 1 + m, 0, none⟩) (j - lefts T.B j + 2) (j - lefts T.B j + 2)) := hF.grid.cell hMl
        have g2 : w.cell? ⟨p + 1 + 1 + m, n, none⟩ = some (.int .i64 (DV T.A T.B i j m n : Int)) := hF.grid.num hMl hNl
        have g3 : w.cell? ⟨p + 1, m - 1, none⟩ = some (.slice (some ⟨p + 1 + 1 + (m - 1), 0, none⟩) (j - lefts T.B j + 2) (j - lefts T.B j + 2)) := hF.grid.cell (show m - 1 < i - lefts T.A i + 2 by omega)
        have g4 : w.cell? ⟨p + 1 + 1 + (m - 1), n, none⟩ = some (.int .i64 (DV T.A T.B i j (m - 1) n : Int)) := hF.grid.num (show m - 1 < i - lefts T.A i + 2 by omega) hNl
        have hd1 := DV_le hO.hA hO.hB hil hjl (m := m - 1) (n := n) (by omega) hNl
        have HBT := hide (fun (k : Nat) ht => bestTog_of T i j m n p (w.drewN k) (fun i' j' m' n' h => ih i' j' m' n' (by omega)) (hT.drewN k) (hF.drewN k) hO hm hn ht)
        have HBL := hide (fun (k : Nat) => ih i j (m - 1) n (by omega) p (w.drewN k) (hT.drewN k) (hF.drewN k) (hO.less (by omega) (Nat.le_refl _)))
        have HBR := hide (fun (k : Nat) => ih i j m (n - 1) (by omega) p (w.drewN k) (hT.drewN k) (hF.drewN k) (hO.less (Nat.le_refl _) (by omega)))
        rw [show ((m - 1 : Nat) : Int) = (m : Int) - 1 by omega] at HBL
        rw [show ((n - 1 : Nat) : Int) = (n : Int) - 1 by omega] at HBR
        have HLE := hide (fun ht h1 => bestL_left hO hm hn ht h1)
        have HRI := hide (fun ht h1 => bestL_right hO hm hn ht h1)
        obtain ⟨M, hM⟩ : ∃ M, M = i - lefts T.A i + 2 := ⟨_, rfl⟩
        obtain ⟨NN, hNN⟩ : ∃ NN, NN = j - lefts T.B j + 2 := ⟨_, rfl⟩
        rw [← hM] at f3 hMl
        rw [← hNN] at g1 g3 hNl
        obtain ⟨dv, hdv⟩ : ∃ dv, dv = DV T.A T.B i j m n := ⟨_, rfl⟩
        obtain ⟨dl, hdl⟩ : ∃ dl, dl = DV T.A T.B i j (m - 1) n := ⟨_, rfl⟩
        obtain ⟨tt, htt⟩ : ∃ tt, tt = togT T.A T.B i j m n := ⟨_, rfl⟩
        rw [← hdv] at g2 HBT HLE HRI
        rw [← hdl] at g4 hd1 HLE HRI
        rw [← htt] at HTG HBT HLE HRI
        have hm41 : M ≤ 42 := by omega
        have hn41 : NN ≤ 42 := by omega
        clear hT hF hO ih hok hM hNN hdv hdl htt hend
        by_cases ht : tt = dv
        · have hb : ((tt : Int) == (dv : Int)) = true := by simp [ht]
          have HT' := hide ht
          clear ht
          go_enter Try.func78, Try.ntmps78
          go_wp2_with fail
          go_quiet (refine Calls.quiet_of (HTG.out _))
          go_wp2_with fail
          refine Calls.mono (HBT.out _ HT'.out) ?_
          rintro e w2 ⟨v, rfl, hrow, hb2⟩
          obtain ⟨va, vc, hv, hvl, hvm⟩ := ownsN_form hrow
          rw [hv] at hrow ⊢
          have HR := hide hrow
          have HB := hide hb2
          clear hrow hb2
          go_wp2_with fail
          go_ret
          exact ⟨_, rfl, HR.out, (below_drewN (Below.refl _ _) _).trans HB.out⟩
        · have hb : ((tt : Int) == (dv : Int)) = false := beq_eq_false_iff_ne.2 (by omega)
          by_cases hl : dl + 1 = dv
          · have hb3 : (((dl : Int) + 1) == (dv : Int)) = true := beq_iff_eq.2 (by omega)
            have HE := hide (HLE.out ht hl)
            clear ht hl
            go_enter Try.func78, Try.ntmps78
            go_wp2_with fail
            go_quiet (refine Calls.quiet_of (HTG.out _))
            go_wp2_with fail
            go_quiet (fail)
            go_wp2_with fail
            refine Calls.mono (HBL.out _) ?_
            rintro e w2 ⟨v, rfl, hrow, hb2⟩
            obtain ⟨va, vc, hv, hvl, hvm⟩ := ownsN_form hrow
            rw [hv] at hrow ⊢
            have HR := hide hrow
            have HB := hide hb2
            clear hrow hb2
            go_wp2_with fail
            go_ret
            exact ⟨_, rfl, by rw [HE.out]; exact HR.out, (below_drewN (Below.refl _ _) _).trans HB.out⟩
          · have hb3 : (((dl : Int) + 1) == (dv : Int)) = false := beq_eq_false_iff_ne.2 (by omega)
            have HE := hide (HRI.out ht hl)
            clear ht hl
            go_enter Try.func78, Try.ntmps78
            go_wp2_with fail
            go_quiet (refine Calls.quiet_of (HTG.out _))
            go_wp2_with fail
            go_quiet (fail)
            go_wp2_with fail
            refine Calls.mono (HBR.out _) ?_
            rintro e w2 ⟨v, rfl, hrow, hb2⟩
            obtain ⟨va, vc, hv, hvl, hvm⟩ := ownsN_form hrow
            rw [hv] at hrow ⊢
            have HR := hide hrow
            have HB := hide hb2
            clear hrow hb2
            go_wp2_with fail
            go_ret
            exact ⟨_, rfl, by rw [HE.out]; exact HR.out, (below_drewN (Below.refl _ _) _).trans HB.out⟩
end Go.Proofs.Ytcknganggcbkjab.Dist
namespace Go.Proofs.Ytcknganggcbkjab.Dist
open Go.Deep Go.RowKit
set_option linter.unusedVariables false
set_option maxRecDepth 20000

set_option maxHeartbeats 400000 in
theorem empty_any (T : Tab) (f : Nat → Nat → Nat) (w : World) (hT : TabIn w T f) :
    Calls Try.prog 46 #[.pointer (some ⟨T.t, 0, none⟩)] w fun e w' => e = .returned (.bool false) ∧ w' = w := by
  have hA := hT.okA.pos
  have hB := hT.okB.pos
  have hA4 := hT.okA.many
  have hB4 := hT.okB.many
  have c0 := hT.c0
  have c1 := hT.c1
  have b0 : ((T.A.length : Int) == 0) = false := beq_eq_false_iff_ne.2 (by omega)
  have b1 : ((T.B.length : Int) == 0) = false := beq_eq_false_iff_ne.2 (by omega)
  clear hT
  go_enter Try.func46, Try.ntmps46
  go_wp2_with fail
  go_ret
  exact ⟨rfl, rfl⟩

set_option maxHeartbeats 800000 in
theorem pair_any (T : Tab) (f : Nat → Nat → Nat) (i j : Nat) (w : World) (hT : TabIn w T f) (hi : i < T.A.length) (hj : j < T.B.length) :
    Calls Try.prog 21 #[.pointer (some ⟨T.t, 0, none⟩), .int .i64 (i : Int), .int .i64 (j : Int)] w fun e w' => e = .returned (.int .i64 (f i j : Int)) ∧ w' = w := by
  have hA4 := hT.okA.many
  have hB4 := hT.okB.many
  have c0 := hT.c0
  have c1 := hT.c1
  have c2 := hT.c2
  have t1 := hT.grid.cell hi
  have t2 := hT.grid.num hi hj
  have HE := hide (empty_any T f w hT)
  have i0 : decide ((i : Int) < 0) = false := decide_eq_false (by omega)
  have i1 : decide ((T.A.length : Int) ≤ (i : Int)) = false := decide_eq_false (by omega)
  have j0 : decide ((j : Int) < 0) = false := decide_eq_false (by omega)
  have j1 : decide ((T.B.length : Int) ≤ (j : Int)) = false := decide_eq_false (by omega)
  clear hT
  go_enter Try.func21, Try.ntmps21
  go_wp2_with fail
  refine Calls.mono HE.out ?_
  rintro e w1 ⟨rfl, rfl⟩
  go_wp2_with fail
  go_ret
  exact ⟨rfl, rfl⟩
set_option maxHeartbeats 800000 in
theorem pair_neg (T : Tab) (f : Nat → Nat → Nat) (i : Int) (j : Int) (w : World) (hT : TabIn w T f) (hi : i < 0) :
    Calls Try.prog 21 #[.pointer (some ⟨T.t, 0, none⟩), .int .i64 i, .int .i64 j] w fun e w' => e = .returned (.int .i64 (-1)) ∧ w' = w := by
  have HE := hide (empty_any T f w hT)
  have i0 : decide (i < 0) = true := decide_eq_true hi
  clear hT
  go_enter Try.func21, Try.ntmps21
  go_wp2_with fail
  refine Calls.mono HE.out ?_
  rintro e w1 ⟨rfl, rfl⟩
  go_wp2_with fail
  go_ret
  exact ⟨rfl, rfl⟩

theorem cost_is {A B : List Nd} (hA : NOk A) (hB : NOk B) : other A B (A.length - 1) (B.length - 1) + DV A B (A.length - 1) (B.length - 1) (A.length - 1) (B.length - 1) = costP A B := by
  unfold costP DV
  rw [hA.root, hB.root, Nat.zero_add, Nat.zero_add]
theorem bok_root {A B : List Nd} (hA : NOk A) (hB : NOk B) : BOk A B (A.length - 1) (B.length - 1) (A.length - 1) (B.length - 1) :=
  ⟨hA, hB, by have := hA.pos; omega, by have := hB.pos; omega, by rw [hA.root]; omega, by rw [hB.root]; omega⟩
theorem best_is {A B : List Nd} (hA : NOk A) (hB : NOk B) : bestL A B (A.length - 1) (B.length - 1) (A.length - 1) (B.length - 1) ++ [(A.length - 1, B.length - 1)] = bestP A B := by
  have h := bestL_fuel (bok_root hA hB) (A.length - 1 + (B.length - 1) + 1) (by omega)
  unfold bestP
  rw [← h, hA.root, hB.root, Nat.zero_add, Nat.zero_add]

set_option maxHeartbeats 1000000 in
theorem cost_any (T : Tab) (w : World) (hT : TabIn w T (TD T.A T.B)) :
    Calls Try.prog 17 #[.pointer (some ⟨T.t, 0, none⟩)] w fun e w' => e = .returned (.int .i64 (costP T.A T.B : Int)) ∧ Below w.heap.size w w' := by
  have hA := hT.okA.pos
  have hB := hT.okB.pos
  have hA4 := hT.okA.many
  have hB4 := hT.okB.many
  have c0 := hT.c0
  have c1 := hT.c1
  have HE := hide (empty_any T _ w hT)
  have HV := hide (cost_is hT.okA hT.okB)
  have hr := fun k => rename_any T _ (T.A.length - 1) (T.B.length - 1) (w.drewN k) (hT.drewN k) (by omega) (by omega)
  have hf := fun (W : World) (hW : Below w.heap.size w W) => forests_any T _ (T.A.length - 1) (T.B.length - 1) W (hT.below hW) (by omega) (by omega) (needs_all _ _ _ _) (forOk_all T (p := 0) hT.okA hT.okB (show T.A.length - 1 < T.A.length by omega) (show T.B.length - 1 < T.B.length by omega)).smallF
  have hd := DV_le hT.okA hT.okB (i := T.A.length - 1) (j := T.B.length - 1) (by omega) (by omega) (bok_root hT.okA hT.okB).hM (bok_root hT.okA hT.okB).hN
  have ho := other_le T.A T.B (T.A.length - 1) (T.B.length - 1)
  have HBO := hide (bok_root hT.okA hT.okB)
  simp only [show ((T.A.length - 1 : Nat) : Int) = (T.A.length : Int) - 1 by omega, show ((T.B.length - 1 : Nat) : Int) = (T.B.length : Int) - 1 by omega] at hr hf
  have HR := hide hr
  have HF := hide hf
  clear hT hr hf
  go_enter Try.func17, Try.ntmps17
  go_wp2_with fail
  refine Calls.mono HE.out ?_
  rintro e w1 ⟨rfl, rfl⟩
  go_wp2_with fail
  go_quiet (fail)
  go_wp2_with fail
  refine Calls.mono (HR.out _) ?_
  rintro e w2 ⟨rfl, k2, hw2⟩
  have hB2 : Below w1.heap.size w1 w2 := by rw [hw2]; exact below_drewN (below_drewN (Below.refl _ _) _) _
  have HW2 := hide hw2
  have HB2 := hide hB2
  clear hw2 hB2
  go_wp2_with fail
  refine Calls.mono (HF.out _ HB2.out) ?_
  rintro e w3 ⟨rfl, hfor, hb3⟩
  have f3 : w3.cell? ⟨w2.heap.size, 3, none⟩ = some (.slice (some ⟨w2.heap.size + 1, 0, none⟩) (T.A.length - 1 - lefts T.A (T.A.length - 1) + 2) (T.A.length - 1 - lefts T.A (T.A.length - 1) + 2)) := hfor.c3
  have hM := HBO.out.hM
  have hN := HBO.out.hN
  have g1 : w3.cell? ⟨w2.heap.size + 1, T.A.length - 1, none⟩ = some (.slice (some ⟨w2.heap.size + 1 + 1 + (T.A.length - 1), 0, none⟩) (T.B.length - 1 - lefts T.B (T.B.length - 1) + 2) (T.B.length - 1 - lefts T.B (T.B.length - 1) + 2)) := hfor.grid.cell hM
  have g2 : w3.cell? ⟨w2.heap.size + 1 + 1 + (T.A.length - 1), T.B.length - 1, none⟩ = some (.int .i64 (DV T.A T.B (T.A.length - 1) (T.B.length - 1) (T.A.length - 1) (T.B.length - 1) : Int)) := hfor.grid.num hM hN
  have HB3 := hide (HB2.out.trans (hb3.mono HB2.out.size))
  obtain ⟨M, hMe⟩ : ∃ M, M = T.A.length - 1 - lefts T.A (T.A.length - 1) + 2 := ⟨_, rfl⟩
  obtain ⟨N, hNe⟩ : ∃ N, N = T.B.length - 1 - lefts T.B (T.B.length - 1) + 2 := ⟨_, rfl⟩
  rw [← hMe] at f3 hM
  rw [← hNe] at g1 hN
  have hM4 : M ≤ 50 := by omega
  have hN4 : N ≤ 50 := by omega
  clear hfor hb3 hMe hNe
  go_wp2_with fail
  go_ret
  exact ⟨by rw [← HV.out]; rfl, HB3.out⟩

set_option maxHeartbeats 1000000 in
theorem dbest_any (T : Tab) (w : World) (hT : TabIn w T (TD T.A T.B)) :
    Calls Try.prog 41 #[.pointer (some ⟨T.t, 0, none⟩)] w (BestPost (bestP T.A T.B) w) := by
  have hA := hT.okA.pos
  have hB := hT.okB.pos
  have hA4 := hT.okA.many
  have hB4 := hT.okB.many
  have c0 := hT.c0
  have c1 := hT.c1
  obtain ⟨iP, hiP, hp0, hp1, hp2⟩ := info_parts infoPair
  have HE := hide (empty_any T _ w hT)
  have HV := hide (best_is hT.okA hT.okB)
  have hf := fun (W : World) (hW : Below w.heap.size w W) => forests_any T _ (T.A.length - 1) (T.B.length - 1) W (hT.below hW) (by omega) (by omega) (needs_all _ _ _ _) (forOk_all T (p := 0) hT.okA hT.okB (show T.A.length - 1 < T.A.length by omega) (show T.B.length - 1 < T.B.length by omega)).smallF
  have hbt := fun p (W : World) (hW : Below w.heap.size w W) hfo => best_at T _ (T.A.length - 1) (T.B.length - 1) (T.A.length - 1) (T.B.length - 1) (Nat.lt_succ_self _) p W (hT.below hW) hfo (bok_root hT.okA hT.okB)
  have hlen := (bestL_len (bok_root hT.okA hT.okB)).1
  simp only [show ((T.A.length - 1 : Nat) : Int) = (T.A.length : Int) - 1 by omega, show ((T.B.length - 1 : Nat) : Int) = (T.B.length : Int) - 1 by omega] at hf hbt
  obtain ⟨L, hL⟩ : ∃ L, L = bestL T.A T.B (T.A.length - 1) (T.B.length - 1) (T.A.length - 1) (T.B.length - 1) := ⟨_, rfl⟩
  rw [← hL] at HV hlen
  simp only [← hL] at hbt
  have hl100 : L.length ≤ 100 := by omega
  have HBT := hide hbt
  have HF := hide hf
  clear hT hf hbt hL hlen
  go_enter Try.func41, Try.ntmps41
  go_wp2_with fail
  refine Calls.mono HE.out ?_
  rintro e w1 ⟨rfl, rfl⟩
  go_wp2_with fail
  go_quiet (fail)
  go_wp2_with fail
  refine Calls.mono (HF.out _ (below_drewN (Below.refl _ _) _)) ?_
  rintro e w3 ⟨rfl, hfor, hb3⟩
  have hB3 : Below w1.heap.size w1 w3 := (below_drewN (Below.refl _ _) nq).trans hb3
  have HBS := hide (HBT.out _ w3 hB3 hfor)
  have HB3 := hide hB3
  clear hfor hb3 hB3 HF HBT
  go_wp2_with fail
  refine Calls.mono HBS.out ?_
  rintro e w4 ⟨v, rfl, hrow, hb4⟩
  obtain ⟨va, vc, rfl, hvl, hvm⟩ := ownsN_form hrow
  unfold maxLen at hvm
  have hz3 := HB3.out.size
  have hz4 := hb4.size
  have hrw : w4.ownsRow w1.heap.size 99 2 (.slice va L.length vc) L.length (prCells L) := ⟨hrow.1, by
    rcases hrow.2 with h | ⟨g, cap, cur, h1, h2, h3⟩
    · exact Or.inl h
    · exact Or.inr ⟨g, cap, cur, h1, by omega, h3⟩⟩
  have HRW := hide hrw
  have HB4 := hide (HB3.out.trans (hb4.mono hz3))
  have hs4 : w1.heap.size ≤ w4.heap.size := by omega
  clear hrow hb4 HBS
  go_wp2_with (at_builtin; refine wpList_append_lies _ rfl (.tmp 25) (.tmp 29) 66 rfl w1.heap.size 99 iP _ 2 16 Try.underlying66 hiP hp0 hp1 hp2 rfl (by decide) _ L.length _ rfl (ownsN_below hrw ((Below.refl _ _).alloc (Nat.le_refl _) _)) ⟨w4.heap.size, 0, none⟩ 1 1 [Value.int .i64 ((T.A.length : Int) - 1), Value.int .i64 ((T.B.length : Int) - 1)] rfl rfl (pr_news w4 99 ((T.A.length : Int) - 1) ((T.B.length : Int) - 1)) (by intro u hu; simp at hu; rcases hu with rfl | rfl <;> rfl) (by decide) (by unfold maxLen; omega) (by omega) (by simp; omega) (w4.heap.size + 1) (by simp) ?_)
  intro g cap w5 hown hgrow hat hlt
  have HOWN := hide hown
  have HG := hide (show Below w1.heap.size w1 w5 from (HB4.out.alloc hs4 _).grown hgrow (by simp; omega) (fun g hg => (ownBlockN_lt HRW.out hg).1))
  clear hown hgrow hat hrw
  go_wp2_with fail
  go_ret
  refine ⟨_, rfl, ?_, HG.out⟩
  have h := HOWN.out
  rw [← HV.out, List.length_append, prCells_append]
  rw [show prCells [(T.A.length - 1, T.B.length - 1)] = [Value.int .i64 ((T.A.length : Int) - 1), Value.int .i64 ((T.B.length : Int) - 1)] by simp [prCells, prCell, show ((T.A.length - 1 : Nat) : Int) = (T.A.length : Int) - 1 by omega, show ((T.B.length - 1 : Nat) : Int) = (T.B.length : Int) - 1 by omega]]
  exact h
end Go.Proofs.Ytcknganggcbkjab.Dist
namespace Go.Proofs.Ytcknganggcbkjab.Scr
open Go.Deep Go.RowKit Deed Dist
set_option linter.unusedVariables false
set_option maxRecDepth 20000

/-- The number of the first pair of which it is so; -1. -/
def idx (q : Nat × Nat → Bool) : List (Nat × Nat) → Nat → Int
  | [], _ => -1
  | p :: l, i => if q p = true then (i : Int) else idx q l (i + 1)
theorem idx_any (q : Nat × Nat → Bool) : ∀ (l : List (Nat × Nat)) (i : Nat), decide (0 ≤ idx q l i) = l.any q
  | [], i => rfl
  | p :: l, i => by
    unfold idx
    cases h : q p
    · simp [h, idx_any q l (i + 1)]
    · simp [h]
theorem idx_drop (q : Nat × Nat → Bool) {l : List (Nat × Nat)} {i : Nat} {p : Nat × Nat} (h : l[i]? = some p) : idx q (l.drop i) i = if q p = true then (i : Int) else idx q (l.drop (i + 1)) (i + 1) := by
  obtain ⟨hl, e⟩ := List.getElem?_eq_some_iff.1 h
  rw [List.drop_eq_getElem_cons hl, e]
  rfl

set_option maxHeartbeats 2000000 in
theorem index1 (l : List (Nat × Nat)) (v : Value) (B n : Nat) (c : Nat) (w : World) (hv : w.ownsRow B 99 2 v l.length (prCells l)) (hc : w.cell? ⟨c, 0, none⟩ = some (.int .i64 (n : Int)))
    (hF : ∀ W, Below w.heap.size w W → ∀ p : Nat × Nat, Calls Try.prog 73 #[.agg #[.int .i64 (p.1 : Int), .int .i64 (p.2 : Int)], .pointer (some ⟨c, 0, none⟩)] W fun e w' => e = .returned (.bool (p.1 == n)) ∧ Below W.heap.size W w') :
    Calls Try.prog 91 #[v, .func (.func 73) #[] #[.pointer (some ⟨c, 0, none⟩)]] w fun e w' => e = .returned (.int .i64 (idx (fun p => p.1 == n) l 0)) ∧ Below w.heap.size w w' := by
  obtain ⟨va, vc, rfl, hvc, hvm⟩ := ownsN_form hv
  unfold maxLen at hvm
  have HV := hide hv
  have HF := hide hF
  clear hv hF hc
  go_enter Try.func91, Try.ntmps91
  go_wp2_with fail
  go_loopg [8] l.length (fun gk v8 wr => ∃ i : Nat, gk = l.length - i ∧ i ≤ l.length ∧ v8 = .int .i64 (i : Nat) ∧ Hid (idx (fun p => p.1 == n) l 0 = idx (fun p => p.1 == n) (l.drop i) i) ∧ Below w.heap.size w wr)
  case atStart => exact ⟨0, rfl, Nat.zero_le _, rfl, hide rfl, Below.refl _ _⟩
  case round =>
    obtain ⟨i, hgk, hi, rfl, hix, hbr⟩ := hrel
    obtain ⟨wA, hwA⟩ : ∃ wA, wA = wr := ⟨_, rfl⟩
    subst hwA
    by_cases hlt : i < l.length
    · obtain ⟨p, hp⟩ : ∃ p, l[i]? = some p := ⟨_, List.getElem?_eq_getElem hlt⟩
      obtain ⟨g, cc, hve, hgB, hgl, _, _⟩ := ownsN_some HV.out (by omega)
      injection hve with hve _ hvce
      subst hve hvce
      have a0 : wA.cell? ⟨g, i * 2, none⟩ = some (.int .i64 (p.1 : Int)) := by rw [hbr.cell hgl]; simpa using ownsRow_cell HV.out (i * 2) _ (prCells_at l i p hp).1
      have a1 : wA.cell? ⟨g, i * 2 + 1, none⟩ = some (.int .i64 (p.2 : Int)) := by rw [hbr.cell hgl]; simpa using ownsRow_cell HV.out (i * 2 + 1) _ (prCells_at l i p hp).2
      have HC := hide (HF.out wA hbr p)
      have HN := hide (idx_drop (fun p => p.1 == n) hp)
      have HB := hide hbr
      clear hp hbr
      go_wp2_with fail
      refine Calls.mono HC.out ?_
      rintro e w2 ⟨rfl, hb2⟩
      have HB2 := hide (HB.out.trans (hb2.mono HB.out.size))
      clear hb2 a0 a1
      cases hq : (p.1 == n)
      · have HQ := hide (show idx (fun p => p.1 == n) l 0 = idx (fun p => p.1 == n) (l.drop (i + 1)) (i + 1) by rw [hix.out, HN.out, if_neg (by simp [hq])])
        go_wp2_with fail
        go_roundg (l.length - (i + 1))
        case measure => omega
        case rel => exact ⟨i + 1, rfl, by omega, by go_num, HQ, HB2.out⟩
      · have HQ := hide (show idx (fun p => p.1 == n) l 0 = (i : Int) by rw [hix.out, HN.out, if_pos hq])
        go_wp2_with fail
        go_ret
        exact ⟨by rw [HQ.out]; rfl, HB2.out⟩
    · have HQ := hide (show idx (fun p => p.1 == n) l 0 = -1 by rw [hix.out, List.drop_of_length_le (by omega)]; rfl)
      have HB := hide hbr
      clear hbr
      go_wp2_with fail
      go_ret
      exact ⟨by rw [HQ.out]; rfl, HB.out⟩

set_option maxHeartbeats 400000 in
theorem cl1 (c n : Nat) (p : Nat × Nat) (w : World) (hc : w.cell? ⟨c, 0, none⟩ = some (.int .i64 (n : Int))) :
    Calls Try.prog 73 #[.agg #[.int .i64 (p.1 : Int), .int .i64 (p.2 : Int)], .pointer (some ⟨c, 0, none⟩)] w fun e w' => e = .returned (.bool (p.1 == n)) ∧ Below w.heap.size w w' := by
  have hlt := World.block_lt_of_cell? _ _ hc
  have HB := hide ((Below.refl w.heap.size w).alloc (Nat.le_refl _) (Obj.cells #[.int .i64 (p.1 : Int), .int .i64 (p.2 : Int)] 99))
  have hc1 : (w.alloc (Obj.cells #[.int .i64 (p.1 : Int), .int .i64 (p.2 : Int)] 99)).cell? ⟨c, 0, none⟩ = some (.int .i64 (n : Int)) := by rw [HB.out.cell hlt]; exact hc
  clear hc
  by_cases h : p.1 = n
  · have hb : ((p.1 : Int) == (n : Int)) = true := beq_iff_eq.2 (by omega)
    have HV := hide (show (p.1 == n) = true from beq_iff_eq.2 h)
    clear h
    go_enter Try.func73, Try.ntmps73
    go_wp2_with fail
    go_ret
    exact ⟨by rw [HV.out]; simp, HB.out⟩
  · have hb : ((p.1 : Int) == (n : Int)) = false := beq_eq_false_iff_ne.2 (by omega)
    have HV := hide (show (p.1 == n) = false from beq_eq_false_iff_ne.2 h)
    clear h
    go_enter Try.func73, Try.ntmps73
    go_wp2_with fail
    go_ret
    exact ⟨by rw [HV.out]; simp, HB.out⟩
set_option maxHeartbeats 400000 in
theorem contains1 (l : List (Nat × Nat)) (v : Value) (B n : Nat) (c : Nat) (w : World) (hv : w.ownsRow B 99 2 v l.length (prCells l)) (hc : w.cell? ⟨c, 0, none⟩ = some (.int .i64 (n : Int))) :
    Calls Try.prog 72 #[v, .func (.func 73) #[] #[.pointer (some ⟨c, 0, none⟩)]] w fun e w' => e = .returned (.bool (l.any fun p => p.1 == n)) ∧ Below w.heap.size w w' := by
  have HI := hide (index1 l v B n c w hv hc fun W hW p => cl1 c n p W (by rw [hW.cell (World.block_lt_of_cell? _ _ hc)]; exact hc))
  obtain ⟨va, vc, rfl, hvc, hvm⟩ := ownsN_form hv
  unfold maxLen at hvm
  have HV := hide (idx_any (fun p => p.1 == n) l 0)
  obtain ⟨r, hr⟩ : ∃ r, r = idx (fun p => p.1 == n) l 0 := ⟨_, rfl⟩
  rw [← hr] at HI HV
  clear hv hc hr
  go_enter Try.func72, Try.ntmps72
  go_wp2_with fail
  refine Calls.mono HI.out ?_
  rintro e w2 ⟨rfl, hb2⟩
  have HB := hide hb2
  clear hb2
  go_wp2_with fail
  go_ret
  exact ⟨by rw [← HV.out]; rfl, HB.out⟩
set_option maxHeartbeats 400000 in
/-- Is it one of those that stay? -/
theorem stays1 (l : List (Nat × Nat)) (va : Option Addr) (vc : Nat) (B n : Nat) (c : Nat) (w : World) (hv : w.ownsRow B 99 2 (.slice va l.length vc) l.length (prCells l)) (hc : w.cell? ⟨c, 0, none⟩ = some (.slice va l.length vc)) :
    Calls Try.prog 71 #[.int .i64 (n : Int), .pointer (some ⟨c, 0, none⟩)] w fun e w' => e = .returned (.bool (stayA l n)) ∧ Below w.heap.size w w' := by
  have hlt := World.block_lt_of_cell? _ _ hc
  have hb1 := (Below.refl w.heap.size w).alloc (Nat.le_refl _) (Obj.cells #[.int .i64 (n : Int)] 3)
  have hc1 : (w.alloc (Obj.cells #[.int .i64 (n : Int)] 3)).cell? ⟨c, 0, none⟩ = some (.slice va l.length vc) := by rw [hb1.cell hlt]; exact hc
  have hcn : (w.alloc (Obj.cells #[.int .i64 (n : Int)] 3)).cell? ⟨w.heap.size, 0, none⟩ = some (.int .i64 (n : Int)) := by rw [cell_of_row _ _ 0 _ _ _ (heap_alloc_new _ _)]; rfl
  have HI := hide (contains1 l (.slice va l.length vc) B n w.heap.size (w.alloc (Obj.cells #[.int .i64 (n : Int)] 3)) (ownsN_below hv hb1) hcn)
  have HB1 := hide hb1
  obtain ⟨_, hvc, hvm⟩ : True ∧ l.length ≤ vc ∧ vc ≤ maxLen := by
    obtain ⟨va', vc', e, h1, h2⟩ := ownsN_form hv
    injection e with e1 e2 e3
    subst e3
    exact ⟨trivial, h1, h2⟩
  unfold maxLen at hvm
  clear hv hc hb1 hcn
  go_enter Try.func71, Try.ntmps71
  go_wp2_with fail
  refine Calls.mono HI.out ?_
  rintro e w2 ⟨rfl, hb2⟩
  have HB := hide (HB1.out.trans (hb2.mono HB1.out.size))
  clear hb2
  go_wp2_with fail
  go_ret
  exact ⟨rfl, HB.out⟩
set_option maxHeartbeats 2000000 in
theorem index2 (l : List (Nat × Nat)) (v : Value) (B n : Nat) (c : Nat) (w : World) (hv : w.ownsRow B 99 2 v l.length (prCells l)) (hc : w.cell? ⟨c, 0, none⟩ = some (.int .i64 (n : Int)))
    (hF : ∀ W, Below w.heap.size w W → ∀ p : Nat × Nat, Calls Try.prog 75 #[.agg #[.int .i64 (p.1 : Int), .int .i64 (p.2 : Int)], .pointer (some ⟨c, 0, none⟩)] W fun e w' => e = .returned (.bool (p.2 == n)) ∧ Below W.heap.size W w') :
    Calls Try.prog 91 #[v, .func (.func 75) #[] #[.pointer (some ⟨c, 0, none⟩)]] w fun e w' => e = .returned (.int .i64 (idx (fun p => p.2 == n) l 0)) ∧ Below w.heap.size w w' := by
  obtain ⟨va, vc, rfl, hvc, hvm⟩ := ownsN_form hv
  unfold maxLen at hvm
  have HV := hide hv
  have HF := hide hF
  clear hv hF hc
  go_enter Try.func91, Try.ntmps91
  go_wp2_with fail
  go_loopg [8] l.length (fun gk v8 wr => ∃ i : Nat, gk = l.length - i ∧ i ≤ l.length ∧ v8 = .int .i64 (i : Nat) ∧ Hid (idx (fun p => p.2 == n) l 0 = idx (fun p => p.2 == n) (l.drop i) i) ∧ Below w.heap.size w wr)
  case atStart => exact ⟨0, rfl, Nat.zero_le _, rfl, hide rfl, Below.refl _ _⟩
  case round =>
    obtain ⟨i, hgk, hi, rfl, hix, hbr⟩ := hrel
    obtain ⟨wA, hwA⟩ : ∃ wA, wA = wr := ⟨_, rfl⟩
    subst hwA
    by_cases hlt : i < l.length
    · obtain ⟨p, hp⟩ : ∃ p, l[i]? = some p := ⟨_, List.getElem?_eq_getElem hlt⟩
      obtain ⟨g, cc, hve, hgB, hgl, _, _⟩ := ownsN_some HV.out (by omega)
      injection hve with hve _ hvce
      subst hve hvce
      have a0 : wA.cell? ⟨g, i * 2, none⟩ = some (.int .i64 (p.1 : Int)) := by rw [hbr.cell hgl]; simpa using ownsRow_cell HV.out (i * 2) _ (prCells_at l i p hp).1
      have a1 : wA.cell? ⟨g, i * 2 + 1, none⟩ = some (.int .i64 (p.2 : Int)) := by rw [hbr.cell hgl]; simpa using ownsRow_cell HV.out (i * 2 + 1) _ (prCells_at l i p hp).2
      have HC := hide (HF.out wA hbr p)
      have HN := hide (idx_drop (fun p => p.2 == n) hp)
      have HB := hide hbr
      clear hp hbr
      go_wp2_with fail
      refine Calls.mono HC.out ?_
      rintro e w2 ⟨rfl, hb2⟩
      have HB2 := hide (HB.out.trans (hb2.mono HB.out.size))
      clear hb2 a0 a1
      cases hq : (p.2 == n)
      · have HQ := hide (show idx (fun p => p.2 == n) l 0 = idx (fun p => p.2 == n) (l.drop (i + 1)) (i + 1) by rw [hix.out, HN.out, if_neg (by simp [hq])])
        go_wp2_with fail
        go_roundg (l.length - (i + 1))
        case measure => omega
        case rel => exact ⟨i + 1, rfl, by omega, by go_num, HQ, HB2.out⟩
      · have HQ := hide (show idx (fun p => p.2 == n) l 0 = (i : Int) by rw [hix.out, HN.out, if_pos hq])
        go_wp2_with fail
        go_ret
        exact ⟨by rw [HQ.out]; rfl, HB2.out⟩
    · have HQ := hide (show idx (fun p => p.2 == n) l 0 = -1 by rw [hix.out, List.drop_of_length_le (by omega)]; rfl)
      have HB := hide hbr
      clear hbr
      go_wp2_with fail
      go_ret
      exact ⟨by rw [HQ.out]; rfl, HB.out⟩

set_option maxHeartbeats 400000 in
theorem cl2 (c n : Nat) (p : Nat × Nat) (w : World) (hc : w.cell? ⟨c, 0, none⟩ = some (.int .i64 (n : Int))) :
    Calls Try.prog 75 #[.agg #[.int .i64 (p.1 : Int), .int .i64 (p.2 : Int)], .pointer (some ⟨c, 0, none⟩)] w fun e w' => e = .returned (.bool (p.2 == n)) ∧ Below w.heap.size w w' := by
  have hlt := World.block_lt_of_cell? _ _ hc
  have HB := hide ((Below.refl w.heap.size w).alloc (Nat.le_refl _) (Obj.cells #[.int .i64 (p.1 : Int), .int .i64 (p.2 : Int)] 99))
  have hc1 : (w.alloc (Obj.cells #[.int .i64 (p.1 : Int), .int .i64 (p.2 : Int)] 99)).cell? ⟨c, 0, none⟩ = some (.int .i64 (n : Int)) := by rw [HB.out.cell hlt]; exact hc
  clear hc
  by_cases h : p.2 = n
  · have hb : ((p.2 : Int) == (n : Int)) = true := beq_iff_eq.2 (by omega)
    have HV := hide (show (p.2 == n) = true from beq_iff_eq.2 h)
    clear h
    go_enter Try.func75, Try.ntmps75
    go_wp2_with fail
    go_ret
    exact ⟨by rw [HV.out]; simp, HB.out⟩
  · have hb : ((p.2 : Int) == (n : Int)) = false := beq_eq_false_iff_ne.2 (by omega)
    have HV := hide (show (p.2 == n) = false from beq_eq_false_iff_ne.2 h)
    clear h
    go_enter Try.func75, Try.ntmps75
    go_wp2_with fail
    go_ret
    exact ⟨by rw [HV.out]; simp, HB.out⟩
set_option maxHeartbeats 400000 in
theorem contains2 (l : List (Nat × Nat)) (v : Value) (B n : Nat) (c : Nat) (w : World) (hv : w.ownsRow B 99 2 v l.length (prCells l)) (hc : w.cell? ⟨c, 0, none⟩ = some (.int .i64 (n : Int))) :
    Calls Try.prog 72 #[v, .func (.func 75) #[] #[.pointer (some ⟨c, 0, none⟩)]] w fun e w' => e = .returned (.bool (l.any fun p => p.2 == n)) ∧ Below w.heap.size w w' := by
  have HI := hide (index2 l v B n c w hv hc fun W hW p => cl2 c n p W (by rw [hW.cell (World.block_lt_of_cell? _ _ hc)]; exact hc))
  obtain ⟨va, vc, rfl, hvc, hvm⟩ := ownsN_form hv
  unfold maxLen at hvm
  have HV := hide (idx_any (fun p => p.2 == n) l 0)
  obtain ⟨r, hr⟩ : ∃ r, r = idx (fun p => p.2 == n) l 0 := ⟨_, rfl⟩
  rw [← hr] at HI HV
  clear hv hc hr
  go_enter Try.func72, Try.ntmps72
  go_wp2_with fail
  refine Calls.mono HI.out ?_
  rintro e w2 ⟨rfl, hb2⟩
  have HB := hide hb2
  clear hb2
  go_wp2_with fail
  go_ret
  exact ⟨by rw [← HV.out]; rfl, HB.out⟩
set_option maxHeartbeats 400000 in
/-- Is it one of those that stay? -/
theorem stays2 (l : List (Nat × Nat)) (va : Option Addr) (vc : Nat) (B n : Nat) (c : Nat) (w : World) (hv : w.ownsRow B 99 2 (.slice va l.length vc) l.length (prCells l)) (hc : w.cell? ⟨c, 0, none⟩ = some (.slice va l.length vc)) :
    Calls Try.prog 74 #[.int .i64 (n : Int), .pointer (some ⟨c, 0, none⟩)] w fun e w' => e = .returned (.bool (stayB l n)) ∧ Below w.heap.size w w' := by
  have hlt := World.block_lt_of_cell? _ _ hc
  have hb1 := (Below.refl w.heap.size w).alloc (Nat.le_refl _) (Obj.cells #[.int .i64 (n : Int)] 3)
  have hc1 : (w.alloc (Obj.cells #[.int .i64 (n : Int)] 3)).cell? ⟨c, 0, none⟩ = some (.slice va l.length vc) := by rw [hb1.cell hlt]; exact hc
  have hcn : (w.alloc (Obj.cells #[.int .i64 (n : Int)] 3)).cell? ⟨w.heap.size, 0, none⟩ = some (.int .i64 (n : Int)) := by rw [cell_of_row _ _ 0 _ _ _ (heap_alloc_new _ _)]; rfl
  have HI := hide (contains2 l (.slice va l.length vc) B n w.heap.size (w.alloc (Obj.cells #[.int .i64 (n : Int)] 3)) (ownsN_below hv hb1) hcn)
  have HB1 := hide hb1
  obtain ⟨_, hvc, hvm⟩ : True ∧ l.length ≤ vc ∧ vc ≤ maxLen := by
    obtain ⟨va', vc', e, h1, h2⟩ := ownsN_form hv
    injection e with e1 e2 e3
    subst e3
    exact ⟨trivial, h1, h2⟩
  unfold maxLen at hvm
  clear hv hc hb1 hcn
  go_enter Try.func74, Try.ntmps74
  go_wp2_with fail
  refine Calls.mono HI.out ?_
  rintro e w2 ⟨rfl, hb2⟩
  have HB := hide (HB1.out.trans (hb2.mono HB1.out.size))
  clear hb2
  go_wp2_with fail
  go_ret
  exact ⟨rfl, HB.out⟩
end Go.Proofs.Ytcknganggcbkjab.Scr
