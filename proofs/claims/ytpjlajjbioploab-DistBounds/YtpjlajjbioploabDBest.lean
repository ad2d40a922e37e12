/- best and bestTogether of package dist tell which nodes stay. Of the program's text. -/
import Derived.Test.YtpjlajjbioploabProg
import Derived.Test.YtpjlajjbioploabDBestP
import Derived.Test.YtpjlajjbioploabDFor
import Derived.Deep.AppendLies
namespace Go.Proofs.Ytpjlajjbioploab.Dist
open Go.Deep Go.RowKit
set_option linter.unusedVariables false
set_option maxRecDepth 20000

theorem infoPair : (Try.prog.info? 59).map (fun i => (i.zero, i.size, i.bytes)) = some (some (.agg #[.int .i64 0, .int .i64 0]), 2, 16) := by kernel_rfl
def prCell (p : Nat × Nat) : List Value := [.int .i64 (p.1 : Int), .int .i64 (p.2 : Int)]
def prCells : List (Nat × Nat) → List Value
  | [] => []
  | p :: l => prCell p ++ prCells l
theorem prCells_length : ∀ l, (prCells l).length = l.length * 2
  | [] => rfl
  | p :: l => by simp [prCells, prCell, prCells_length l]; omega
theorem prCells_append : ∀ a b, prCells (a ++ b) = prCells a ++ prCells b
  | [], b => rfl
  | p :: a, b => by simp [prCells, prCells_append a b]
theorem prCells_at : ∀ (l : List (Nat × Nat)) (i : Nat) (p : Nat × Nat), l[i]? = some p → (prCells l)[i * 2]? = some (.int .i64 (p.1 : Int)) ∧ (prCells l)[i * 2 + 1]? = some (.int .i64 (p.2 : Int))
  | [], i, p, h => by simp at h
  | a :: l, 0, p, h => by
    have : a = p := by simpa using h
    subst this
    simp [prCells, prCell]
  | a :: l, i + 1, p, h => by
    have := prCells_at l i p (by simpa using h)
    rw [show (i + 1) * 2 = i * 2 + 2 by omega]
    simpa [prCells, prCell] using this
theorem prCells_one : ∀ (l : List (Nat × Nat)) (u : Value), u ∈ prCells l → u.oneCell' = true
  | [], u, h => by simp [prCells] at h
  | p :: l, u, h => by
    simp only [prCells, prCell, List.mem_append, List.mem_cons, List.not_mem_nil, or_false] at h
    rcases h with (rfl | rfl) | h
    · rfl
    · rfl
    · exact prCells_one l u h
theorem pr_news (w : World) (T : TypeId) (a b : Int) (j : Nat) (u : Value) (h : ([Value.int .i64 a, Value.int .i64 b] : List Value)[j]? = some u) : (w.alloc (Obj.cells #[.int .i64 a, .int .i64 b] T)).cell? ((⟨w.heap.size, 0, none⟩ : Addr).add j) = some u := by
  refine World.news_of_block (cs := #[.int .i64 a, .int .i64 b]) (t := T) (fr := (0, 0)) ?_ j u h
  show (w.heap.push _)[w.heap.size]? = _
  simp
theorem own_cells {w : World} {B T n g vc : Nat} {l : List (Nat × Nat)} (h : w.ownsRow B T 2 (.slice (some ⟨g, 0, none⟩) n vc) n (prCells l)) (j : Nat) (u : Value) (hu : (prCells l)[j]? = some u) : w.cell? ((⟨g, 0, none⟩ : Addr).add j) = some u := by
  have := ownsRow_cell h j u hu
  by_cases e : j = 0
  · subst e
    simpa [Addr.add] using this
  · simpa [Addr.add, e] using this

/-- What best comes to: these pairs, in new memory. -/
def BestPost (l : List (Nat × Nat)) (w : World) (e : Ending) (w' : World) : Prop := ∃ v, e = .returned v ∧ w'.ownsRow w.heap.size 59 2 v l.length (prCells l) ∧ Below w.heap.size w w'
def BestAt (T : Tab) (i j m n : Nat) : Prop := ∀ (p : Nat) (w : World), TabIn w T (TD T.A T.B) → ForIn w T (Fst.of T.A T.B i j p) (DV T.A T.B i j) → BOk T.A T.B i j m n →
    Calls Try.prog 25 #[.pointer (some ⟨p, 0, none⟩), .int .i64 (m : Int), .int .i64 (n : Int)] w (BestPost (bestL T.A T.B i j m n) w)

theorem tog_is (T : Tab) (i j p m n : Nat) : tog T (Fst.of T.A T.B i j p) (TD T.A T.B) (DV T.A T.B i j) m n = togT T.A T.B i j m n := rfl
theorem needs_all (A B : List Nd) (i j : Nat) : Needs A B (TD A B) i j := fun _ _ _ _ _ _ _ => rfl
theorem forOk_all (T : Tab) {i j p : Nat} (hA : NOk T.A) (hB : NOk T.B) (hi : i < T.A.length) (hj : j < T.B.length) : ForOk T (Fst.of T.A T.B i j p) (TD T.A T.B) (DV T.A T.B i j) := by
  have h := forOk T (TD T.A T.B) (p := p) (m := i - lefts T.A i + 2) (n := 0) hA hB hi hj (fun a b ha hb => by
    have h1 := hA.post.le a ha
    have h2 := hB.post.le b hb
    have h3 := hA.many
    have h4 := hB.many
    have := DV_le hA hB ha hb (m := a - lefts T.A a + 1) (n := b - lefts T.B b + 1) (by omega) (by omega)
    unfold DV at this
    rw [show lefts T.A a + (a - lefts T.A a + 1) = a + 1 by omega, show lefts T.B b + (b - lefts T.B b + 1) = b + 1 by omega] at this
    unfold TD
    omega)
  refine ⟨h.inA, h.inB, h.smallF, fun a b ha hb => ?_⟩
  have := h.smallH a b ha hb
  rw [filled_all (DV T.A T.B i j) (i - lefts T.A i + 2) a b ha] at this
  exact this

set_option maxHeartbeats 2000000 in
theorem bestTog_of (T : Tab) (i j m n p : Nat) (w : World) (ih : ∀ i' j' m' n', m' + n' < m + n → BestAt T i' j' m' n') (hT : TabIn w T (TD T.A T.B)) (hF : ForIn w T (Fst.of T.A T.B i j p) (DV T.A T.B i j)) (hO : BOk T.A T.B i j m n) (hm : 0 < m) (hn : 0 < n) (ht : togT T.A T.B i j m n = DV T.A T.B i j m n) :
    Calls Try.prog 33 #[.pointer (some ⟨p, 0, none⟩), .int .i64 (m : Int), .int .i64 (n : Int)] w (BestPost (bestL T.A T.B i j m n) w) := by
  have hA := hT.okA.many
  have hB := hT.okB.many
  have hil := hO.hi
  have hjl := hO.hj
  have hend := hO.ends
  obtain ⟨la1, la2, lb1, lb2, la3, lb3⟩ := hO.last hm hn
  have hm40 : m ≤ 41 := by omega
  have hn40 : n ≤ 41 := by omega
  have hl : Calls Try.prog 38 #[.pointer (some ⟨p, 0, none⟩), .int .i64 (m : Int), .int .i64 (n : Int)] w fun e w' => e = .returned (.tuple #[.int .i64 ((lefts T.A i + m - 1 : Nat) : Int), .int .i64 ((lefts T.B j + n - 1 : Nat) : Int), .bool (decide (lefts T.A (lefts T.A i + m - 1) = lefts T.A i ∧ lefts T.B (lefts T.B j + n - 1) = lefts T.B j))]) ∧ ∃ n, w' = w.drewN n := last_any T (Fst.of T.A T.B i j p) _ _ m n w hT hF hm hn hO.hM hO.hN
  obtain ⟨iP, hiP, hp0, hp1, hp2⟩ := info_parts infoPair
  obtain ⟨i', hi'⟩ : ∃ i', i' = lefts T.A i + m - 1 := ⟨_, rfl⟩
  obtain ⟨j', hj'⟩ : ∃ j', j' = lefts T.B j + n - 1 := ⟨_, rfl⟩
  have HONE := hide (fun h1 => bestL_one hO hm hn ht h1)
  have HTWO := hide (fun h1 => bestL_two hO hm hn ht h1)
  have HSUB := hide (hO.sub hm hn)
  rw [← hi', ← hj'] at hl HONE HTWO HSUB
  rw [← hi'] at la1 la2 la3
  rw [← hj'] at lb1 lb2 lb3
  have HL := hide hl
  have HI := hide ih
  have HT := hide hT
  have HF := hide hF
  have HO := hide hO
  have HI' := hide hi'
  have HJ' := hide hj'
  clear ih hT hF hO hl ht hi' hj'
  go_enter Try.func33, Try.ntmps33
  go_wp2_with fail
  refine Calls.mono HL.out ?_
  rintro e w1 ⟨rfl, k1, hw1⟩
  have hT1 : TabIn w1 T (TD T.A T.B) := by rw [hw1]; exact HT.out.drewN k1
  have hF1 : ForIn w1 T (Fst.of T.A T.B i j p) (DV T.A T.B i j) := by rw [hw1]; exact HF.out.drewN k1
  have HB1 := hide (show Below w.heap.size w w1 by rw [hw1]; exact below_drewN (Below.refl _ _) k1)
  have HZ1 := hide (show w1.heap.size = w.heap.size by rw [hw1]; rfl)
  clear hw1 HL HT HF
  by_cases hone : lefts T.A i' = lefts T.A i ∧ lefts T.B j' = lefts T.B j
  · rw [decide_eq_true hone]
    have hb := HI.out i j (m - 1) (n - 1) (by omega) p w1 hT1 hF1 (HO.out.less (by omega) (by omega))
    rw [show ((m - 1 : Nat) : Int) = (m : Int) - 1 by omega, show ((n - 1 : Nat) : Int) = (n : Int) - 1 by omega] at hb
    have hlen := (bestL_len (HO.out.less (a := m - 1) (b := n - 1) (by omega) (by omega))).1
    obtain ⟨L, hL⟩ : ∃ L, L = bestL T.A T.B i j (m - 1) (n - 1) := ⟨_, rfl⟩
    have HEQ := hide (show bestL T.A T.B i j m n = L ++ [(i', j')] by rw [hL]; exact HONE.out hone)
    rw [← hL] at hb hlen
    have hLl : L.length ≤ 100 := by omega
    have HBS := hide hb
    clear hb hL hT1 hF1 HO HI HONE HTWO hone hlen
    go_wp2_with fail
    refine Calls.mono HBS.out ?_
    rintro e w2 ⟨v, rfl, hrow, hb2⟩
    rw [HZ1.out] at hrow hb2
    obtain ⟨va, vc, rfl, hvl, hvm⟩ := ownsN_form hrow
    unfold maxLen at hvm
    have hw2s : w.heap.size ≤ w2.heap.size := by have := hb2.size; rw [HZ1.out] at this; exact this
    have HB2 := hide (HB1.out.trans hb2)
    have HRW := hide hrow
    clear hb2 HBS
    go_wp2_with (at_builtin; refine wpList_append_lies _ rfl (.tmp 27) (.tmp 31) 42 rfl w.heap.size 59 iP _ 2 16 Try.underlying42 hiP hp0 hp1 hp2 rfl (by decide) _ L.length _ rfl (ownsN_below hrow ((Below.refl _ _).alloc (Nat.le_refl _) _)) ⟨w2.heap.size, 0, none⟩ 1 1 (prCell (i', j')) rfl rfl (pr_news w2 59 (i' : Int) (j' : Int)) (fun u hu => prCells_one [(i', j')] u (by simpa [prCells] using hu)) (by decide) (by unfold maxLen; omega) (by omega) (by simp; omega) (w2.heap.size + 1) (by simp) ?_)
    intro g cap w3 hown hgrow hat hlt
    have HOWN := hide hown
    have HG := hide (show Below w.heap.size w w3 from (HB2.out.alloc hw2s _).grown hgrow (by simp; omega) (fun g hg => (ownBlockN_lt HRW.out hg).1))
    clear hown hgrow hat hrow
    go_wp2_with fail
    go_ret
    refine ⟨_, rfl, ?_, HG.out⟩
    rw [HEQ.out, List.length_append, prCells_append]
    simpa [prCells] using HOWN.out
  · rw [decide_eq_false hone]
    have HEQ0 := hide (HTWO.out hone)
    have ha : Calls Try.prog 39 #[.pointer (some ⟨p, 0, none⟩), .int .i64 (i' : Int), .int .i64 (j' : Int)] w1 fun e w' => e = .returned (.tuple #[.int .i64 ((lefts T.A i' - lefts T.A i : Nat) : Int), .int .i64 ((lefts T.B j' - lefts T.B j : Nat) : Int)]) ∧ ∃ n, w' = w1.drewN n := dahead_any T (Fst.of T.A T.B i j p) _ _ i' j' w1 hT1 hF1 (by omega) (by omega) la1 lb1
    obtain ⟨q1, hq1⟩ : ∃ q1, q1 = lefts T.A i' - lefts T.A i := ⟨_, rfl⟩
    obtain ⟨q2, hq2⟩ : ∃ q2, q2 = lefts T.B j' - lefts T.B j := ⟨_, rfl⟩
    rw [← hq1, ← hq2] at ha HSUB HEQ0
    have hqm : q1 < m := by have := HI'.out; omega
    have hqn : q2 < n := by have := HJ'.out; omega
    have hless : ¬ (q1 = 0 ∧ q2 = 0) := fun h => hone ⟨by omega, by omega⟩
    have HA := hide ha
    have HT1 := hide hT1
    have HF1 := hide hF1
    have HQ1 := hide hq1
    have HQ2 := hide hq2
    clear ha hq1 hq2 hT1 hF1 HONE HTWO hone la1 la2 lb1 lb2
    go_wp2_with fail
    refine Calls.mono HA.out ?_
    rintro e w2 ⟨rfl, k2, hw2⟩
    have hT2 : TabIn w2 T (TD T.A T.B) := by rw [hw2]; exact HT1.out.drewN k2
    have hF2 : ForIn w2 T (Fst.of T.A T.B i j p) (DV T.A T.B i j) := by rw [hw2]; exact HF1.out.drewN k2
    have HB2 := hide (show Below w.heap.size w w2 by rw [hw2]; exact below_drewN HB1.out k2)
    have HZ2 := hide (show w2.heap.size = w.heap.size by rw [hw2]; exact HZ1.out)
    have f0 : w2.cell? ⟨p, 0, none⟩ = some (.pointer (some ⟨T.t, 0, none⟩)) := hF2.c0
    have HFR := hide (forests_any T (TD T.A T.B) i' j' w2 hT2 (by omega) (by omega) (needs_all _ _ _ _) (forOk_all T (p := 0) hT2.okA hT2.okB hil hjl).smallF)
    have HT2 := hide hT2
    have HF2 := hide hF2
    clear hw2 HA HT1 HF1 HB1 HZ1 hT2 hF2
    go_wp2_with fail
    refine Calls.mono HFR.out ?_
    rintro e w3 ⟨rfl, hfor, hb3⟩
    obtain ⟨p3, hp3⟩ : ∃ p3, p3 = w2.heap.size := ⟨_, rfl⟩
    rw [← hp3] at hfor
    rw [← hp3]
    have HP3 := hide hp3
    have hT3 := HT2.out.below hb3
    have hF3 := HF2.out.below hb3
    have HB3 := hide (HB2.out.trans (hb3.mono (by rw [HZ2.out]; exact Nat.le_refl _)))
    have hb := HI.out i j q1 q2 (by omega) p w3 hT3 hF3 (HO.out.less (by omega) (by omega))
    have hz3 := hb3.size
    rw [HZ2.out] at hz3
    have HBS := hide hb
    have HT3 := hide hT3
    have HFO := hide hfor
    have hlen1 := (bestL_len (HO.out.less (a := q1) (b := q2) (by omega) (by omega))).1
    have hlen2 := (bestL_len HSUB.out).1
    have hpos : 0 < (bestL T.A T.B i' j' (m - q1) (n - q2)).length := by
      refine bestL_some HSUB.out ?_ ?_
      · have h1 := HI'.out
        have h2 := HQ1.out
        have h3 := HSUB.out.hA.post.le i' (by omega)
        have h4 := HO.out.hA.post.le i hil
        have h5 := HO.out.fa i' (by omega) (by omega)
        omega
      · have h1 := HJ'.out
        have h2 := HQ2.out
        have h3 := HSUB.out.hB.post.le j' (by omega)
        have h4 := HO.out.hB.post.le j hjl
        have h5 := HO.out.fb j' (by omega) (by omega)
        omega
    obtain ⟨L1, hL1⟩ : ∃ L1, L1 = bestL T.A T.B i j q1 q2 := ⟨_, rfl⟩
    obtain ⟨L2, hL2⟩ : ∃ L2, L2 = bestL T.A T.B i' j' (m - q1) (n - q2) := ⟨_, rfl⟩
    have HEQ := hide (show bestL T.A T.B i j m n = L1 ++ L2 by rw [hL1, hL2]; exact HEQ0.out)
    rw [← hL1] at HBS hlen1
    rw [← hL2] at hlen2 hpos
    have hl1 : L1.length ≤ 100 := by omega
    have hl2 : L2.length ≤ 100 := by omega
    have HL2 := hide hL2
    clear hp3 hb hT3 hF3 hfor hb3 HFR HT2 HF2 hL1 hL2 hlen1 hlen2
    go_wp2_with fail
    refine Calls.mono HBS.out ?_
    rintro e w4 ⟨v1, rfl, hrow1, hb4⟩
    obtain ⟨va, vc, rfl, hvl, hvm⟩ := ownsN_form hrow1
    unfold maxLen at hvm
    have hz4 := hb4.size
    have hb := HI.out i' j' (m - q1) (n - q2) (by omega) p3 w4 (HT3.out.below hb4) (HFO.out.below hb4) HSUB.out
    rw [← HL2.out, show ((m - q1 : Nat) : Int) = (m : Int) - (q1 : Int) by omega, show ((n - q2 : Nat) : Int) = (n : Int) - (q2 : Int) by omega] at hb
    have HBS2 := hide hb
    have HR1 := hide hrow1
    have HB4 := hide (HB3.out.trans (hb4.mono (by omega)))
    have hw3 : w.heap.size ≤ w3.heap.size := by omega
    clear hb hrow1 hb4 HBS HT3 HFO HI HO HSUB
    go_wp2_with fail
    refine Calls.mono HBS2.out ?_
    rintro e w5 ⟨v2, rfl, hrow2, hb5⟩
    obtain ⟨g2, vc2, rfl, hg2, hg2l, hvl2, hvm2⟩ := ownsN_some hrow2 hpos
    have hz5 := hb5.size
    have hr1 := ownsN_below HR1.out hb5
    have HB5 := hide (HB4.out.trans (hb5.mono (by omega)))
    have hrw : w5.ownsRow w.heap.size 59 2 (.slice va L1.length vc) L1.length (prCells L1) := ⟨hr1.1, by
      rcases hr1.2 with h | ⟨g, cap, cur, h1, h2, h3⟩
      · exact Or.inl h
      · exact Or.inr ⟨g, cap, cur, h1, by omega, h3⟩⟩
    have HR := hide hrw
    clear hb5 hr1 HBS2 HR1
    go_wp2_with (at_builtin; refine wpList_append_lies _ rfl (.tmp 50) (.tmp 58) 42 rfl w.heap.size 59 iP _ 2 16 Try.underlying42 hiP hp0 hp1 hp2 rfl (by decide) _ L1.length _ rfl hrw ⟨g2, 0, none⟩ L2.length vc2 (prCells L2) rfl (prCells_length L2) (own_cells hrow2) (prCells_one L2) hpos (by unfold maxLen; omega) (by omega) (by omega) w5.heap.size rfl ?_)
    intro g cap w6 hown hgrow hat hlt
    have HOWN := hide hown
    have HG := hide (show Below w.heap.size w w6 from HB5.out.grown hgrow (by omega) (fun g hg => (ownBlockN_lt HR.out hg).1))
    clear hown hgrow hat hrw
    go_wp2_with fail
    go_ret
    refine ⟨_, rfl, ?_, HG.out⟩
    rw [HEQ.out, List.length_append, prCells_append]
    exact HOWN.out

set_option maxHeartbeats 2000000 in
theorem best_at (T : Tab) : ∀ (N i j m n : Nat), m + n < N → BestAt T i j m n := by
  intro N
  induction N with
  | zero => intro i j m n h; omega
  | succ N ih =>
    intro i j m n hN p w hT hF hO
    have hA := hT.okA.many
    have hB := hT.okB.many
    have hil := hO.hi
    have hjl := hO.hj
    have hend := hO.ends
    by_cases h0 : m = 0
    · subst h0
      have HE := hide (bestL_none (A := T.A) (B := T.B) (i := i) (j := j) (m := 0) (n := n) (Or.inl rfl))
      clear hT hF hO ih
      go_enter Try.func25, Try.ntmps25
      go_wp2_with fail
      go_ret
      refine ⟨_, rfl, ?_, Below.refl _ _⟩
      rw [HE.out]
      exact ⟨rfl, Or.inl ⟨rfl, rfl⟩⟩
    · by_cases h1 : n = 0
      · subst h1
        have HE := hide (bestL_none (A := T.A) (B := T.B) (i := i) (j := j) (m := m) (n := 0) (Or.inr rfl))
        have hm0 : ((m : Int) == 0) = false := beq_eq_false_iff_ne.2 (by omega)
        clear hT hF hO ih
        go_enter Try.func25, Try.ntmps25
        go_wp2_with fail
        go_ret
        refine ⟨_, rfl, ?_, Below.refl _ _⟩
        rw [HE.out]
        exact ⟨rfl, Or.inl ⟨rfl, rfl⟩⟩
      · have hm : 0 < m := by omega
        have hn : 0 < n := by omega
        have b0 : ((m : Int) == 0) = false := beq_eq_false_iff_ne.2 (by omega)
        have b1 : ((n : Int) == 0) = false := beq_eq_false_iff_ne.2 (by omega)
        have hok := forOk_all T (p := p) hT.okA hT.okB hil hjl
        have HTG : Hid (∀ k, Calls Try.prog 32 #[.pointer (some ⟨p, 0, none⟩), .int .i64 (m : Int), .int .i64 (n : Int)] (w.drewN k) fun e w' => e = .returned (.int .i64 (togT T.A T.B i j m n : Int)) ∧ ∃ n, w' = (w.drewN k).drewN n) := hide fun k => together_any T (Fst.of T.A T.B i j p) _ _ m n (w.drewN k) (hT.drewN k) (hF.drewN k) hok hm hn hO.hM hO.hN
        have f3 : w.cell? ⟨p, 3, none⟩ = some (.slice (some ⟨p + 1, 0, none⟩) (i - lefts T.A i + 2) (i - lefts T.A i + 2)) := hF.c3
        have hMl := hO.hM
        have hNl := hO.hN
        have g1 : w.cell? ⟨p + 1, m, none⟩ = some (.slice (some ⟨p + 1 + 1 + m, 0, none⟩) (j - lefts T.B j + 2) (j - lefts T.B j + 2)) := hF.grid.cell hMl
        have g2 : w.cell? ⟨p + 1 + 1 + m, n, none⟩ = some (.int .i64 (DV T.A T.B i j m n : Int)) := hF.grid.num hMl hNl
        have g3 : w.cell? ⟨p + 1, m - 1, none⟩ = some (.slice (some ⟨p + 1 + 1 + (m - 1), 0, none⟩) (j - lefts T.B j + 2) (j - lefts T.B j + 2)) := hF.grid.cell (show m - 1 < i - lefts T.A i + 2 by omega)
        have g4 : w.cell? ⟨p + 1 + 1 + (m - 1), n, none⟩ = some (.int .i64 (DV T.A T.B i j (m - 1) n : Int)) := hF.grid.num (show m - 1 < i - lefts T.A i + 2 by omega) hNl
        have hd1 := DV_le hO.hA hO.hB hil hjl (m := m - 1) (n := n) (by omega) hNl
        have HBT := hide (fun (k : Nat) ht => bestTog_of T i j m n p (w.drewN k) (fun i' j' m' n' h => ih i' j' m' n' (by omega)) (hT.drewN k) (hF.drewN k) hO hm hn ht)
        have HBL := hide (fun (k : Nat) => ih i j (m - 1) n (by omega) p (w.drewN k) (hT.drewN k) (hF.drewN k) (hO.less (by omega) (Nat.le_refl _)))
        have HBR := hide (fun (k : Nat) => ih i j m (n - 1) (by omega) p (w.drewN k) (hT.drewN k) (hF.drewN k) (hO.less (Nat.le_refl _) (by omega)))
        rw [show ((m - 1 : Nat) : Int) = (m : Int) - 1 by omega] at HBL
        rw [show ((n - 1 : Nat) : Int) = (n : Int) - 1 by omega] at HBR
        have HLE := hide (fun ht h1 => bestL_left hO hm hn ht h1)
        have HRI := hide (fun ht h1 => bestL_right hO hm hn ht h1)
        obtain ⟨M, hM⟩ : ∃ M, M = i - lefts T.A i + 2 := ⟨_, rfl⟩
        obtain ⟨NN, hNN⟩ : ∃ NN, NN = j - lefts T.B j + 2 := ⟨_, rfl⟩
        rw [← hM] at f3 hMl
        rw [← hNN] at g1 g3 hNl
        obtain ⟨dv, hdv⟩ : ∃ dv, dv = DV T.A T.B i j m n := ⟨_, rfl⟩
        obtain ⟨dl, hdl⟩ : ∃ dl, dl = DV T.A T.B i j (m - 1) n := ⟨_, rfl⟩
        obtain ⟨tt, htt⟩ : ∃ tt, tt = togT T.A T.B i j m n := ⟨_, rfl⟩
        rw [← hdv] at g2 HBT HLE HRI
        rw [← hdl] at g4 hd1 HLE HRI
        rw [← htt] at HTG HBT HLE HRI
        have hm41 : M ≤ 42 := by omega
        have hn41 : NN ≤ 42 := by omega
        clear hT hF hO ih hok hM hNN hdv hdl htt hend
        by_cases ht : tt = dv
        · have hb : ((tt : Int) == (dv : Int)) = true := by simp [ht]
          have HT' := hide ht
          clear ht
          go_enter Try.func25, Try.ntmps25
          go_wp2_with fail
          go_quiet (refine Calls.quiet_of (HTG.out _))
          go_wp2_with fail
          refine Calls.mono (HBT.out _ HT'.out) ?_
          rintro e w2 ⟨v, rfl, hrow, hb2⟩
          obtain ⟨va, vc, hv, hvl, hvm⟩ := ownsN_form hrow
          rw [hv] at hrow ⊢
          have HR := hide hrow
          have HB := hide hb2
          clear hrow hb2
          go_wp2_with fail
          go_ret
          exact ⟨_, rfl, HR.out, (below_drewN (Below.refl _ _) _).trans HB.out⟩
        · have hb : ((tt : Int) == (dv : Int)) = false := beq_eq_false_iff_ne.2 (by omega)
          by_cases hl : dl + 1 = dv
          · have hb3 : (((dl : Int) + 1) == (dv : Int)) = true := beq_iff_eq.2 (by omega)
            have HE := hide (HLE.out ht hl)
            clear ht hl
            go_enter Try.func25, Try.ntmps25
            go_wp2_with fail
            go_quiet (refine Calls.quiet_of (HTG.out _))
            go_wp2_with fail
            go_quiet (fail)
            go_wp2_with fail
            refine Calls.mono (HBL.out _) ?_
            rintro e w2 ⟨v, rfl, hrow, hb2⟩
            obtain ⟨va, vc, hv, hvl, hvm⟩ := ownsN_form hrow
            rw [hv] at hrow ⊢
            have HR := hide hrow
            have HB := hide hb2
            clear hrow hb2
            go_wp2_with fail
            go_ret
            exact ⟨_, rfl, by rw [HE.out]; exact HR.out, (below_drewN (Below.refl _ _) _).trans HB.out⟩
          · have hb3 : (((dl : Int) + 1) == (dv : Int)) = false := beq_eq_false_iff_ne.2 (by omega)
            have HE := hide (HRI.out ht hl)
            clear ht hl
            go_enter Try.func25, Try.ntmps25
            go_wp2_with fail
            go_quiet (refine Calls.quiet_of (HTG.out _))
            go_wp2_with fail
            go_quiet (fail)
            go_wp2_with fail
            refine Calls.mono (HBR.out _) ?_
            rintro e w2 ⟨v, rfl, hrow, hb2⟩
            obtain ⟨va, vc, hv, hvl, hvm⟩ := ownsN_form hrow
            rw [hv] at hrow ⊢
            have HR := hide hrow
            have HB := hide hb2
            clear hrow hb2
            go_wp2_with fail
            go_ret
            exact ⟨_, rfl, by rw [HE.out]; exact HR.out, (below_drewN (Below.refl _ _) _).trans HB.out⟩
end Go.Proofs.Ytpjlajjbioploab.Dist
