/- empty, Pair, Cost, Best and Nodes of package dist, of a table that Of made. Of the program's text. -/
import Derived.Test.YtpjlajjbioploabProg
import Derived.Test.YtpjlajjbioploabDBest
import Derived.Test.YtpjlajjbioploabDFill
namespace Go.Proofs.Ytpjlajjbioploab.Dist
open Go.Deep Go.RowKit
set_option linter.unusedVariables false
set_option maxRecDepth 20000

set_option maxHeartbeats 400000 in
theorem empty_any (T : Tab) (f : Nat → Nat → Nat) (w : World) (hT : TabIn w T f) :
    Calls Try.prog 19 #[.pointer (some ⟨T.t, 0, none⟩)] w fun e w' => e = .returned (.bool false) ∧ w' = w := by
  have hA := hT.okA.pos
  have hB := hT.okB.pos
  have hA4 := hT.okA.many
  have hB4 := hT.okB.many
  have c0 := hT.c0
  have c1 := hT.c1
  have b0 : ((T.A.length : Int) == 0) = false := beq_eq_false_iff_ne.2 (by omega)
  have b1 : ((T.B.length : Int) == 0) = false := beq_eq_false_iff_ne.2 (by omega)
  clear hT
  go_enter Try.func19, Try.ntmps19
  go_wp2_with fail
  go_ret
  exact ⟨rfl, rfl⟩

set_option maxHeartbeats 800000 in
theorem pair_any (T : Tab) (f : Nat → Nat → Nat) (i j : Nat) (w : World) (hT : TabIn w T f) (hi : i < T.A.length) (hj : j < T.B.length) :
    Calls Try.prog 13 #[.pointer (some ⟨T.t, 0, none⟩), .int .i64 (i : Int), .int .i64 (j : Int)] w fun e w' => e = .returned (.int .i64 (f i j : Int)) ∧ w' = w := by
  have hA4 := hT.okA.many
  have hB4 := hT.okB.many
  have c0 := hT.c0
  have c1 := hT.c1
  have c2 := hT.c2
  have t1 := hT.grid.cell hi
  have t2 := hT.grid.num hi hj
  have HE := hide (empty_any T f w hT)
  have i0 : decide ((i : Int) < 0) = false := decide_eq_false (by omega)
  have i1 : decide ((T.A.length : Int) ≤ (i : Int)) = false := decide_eq_false (by omega)
  have j0 : decide ((j : Int) < 0) = false := decide_eq_false (by omega)
  have j1 : decide ((T.B.length : Int) ≤ (j : Int)) = false := decide_eq_false (by omega)
  clear hT
  go_enter Try.func13, Try.ntmps13
  go_wp2_with fail
  refine Calls.mono HE.out ?_
  rintro e w1 ⟨rfl, rfl⟩
  go_wp2_with fail
  go_ret
  exact ⟨rfl, rfl⟩
set_option maxHeartbeats 800000 in
theorem pair_neg (T : Tab) (f : Nat → Nat → Nat) (i : Int) (j : Int) (w : World) (hT : TabIn w T f) (hi : i < 0) :
    Calls Try.prog 13 #[.pointer (some ⟨T.t, 0, none⟩), .int .i64 i, .int .i64 j] w fun e w' => e = .returned (.int .i64 (-1)) ∧ w' = w := by
  have HE := hide (empty_any T f w hT)
  have i0 : decide (i < 0) = true := decide_eq_true hi
  clear hT
  go_enter Try.func13, Try.ntmps13
  go_wp2_with fail
  refine Calls.mono HE.out ?_
  rintro e w1 ⟨rfl, rfl⟩
  go_wp2_with fail
  go_ret
  exact ⟨rfl, rfl⟩

theorem cost_is {A B : List Nd} (hA : NOk A) (hB : NOk B) : other A B (A.length - 1) (B.length - 1) + DV A B (A.length - 1) (B.length - 1) (A.length - 1) (B.length - 1) = costP A B := by
  unfold costP DV
  rw [hA.root, hB.root, Nat.zero_add, Nat.zero_add]
theorem bok_root {A B : List Nd} (hA : NOk A) (hB : NOk B) : BOk A B (A.length - 1) (B.length - 1) (A.length - 1) (B.length - 1) :=
  ⟨hA, hB, by have := hA.pos; omega, by have := hB.pos; omega, by rw [hA.root]; omega, by rw [hB.root]; omega⟩
theorem best_is {A B : List Nd} (hA : NOk A) (hB : NOk B) : bestL A B (A.length - 1) (B.length - 1) (A.length - 1) (B.length - 1) ++ [(A.length - 1, B.length - 1)] = bestP A B := by
  have h := bestL_fuel (bok_root hA hB) (A.length - 1 + (B.length - 1) + 1) (by omega)
  unfold bestP
  rw [← h, hA.root, hB.root, Nat.zero_add, Nat.zero_add]

set_option maxHeartbeats 1000000 in
theorem cost_any (T : Tab) (w : World) (hT : TabIn w T (TD T.A T.B)) :
    Calls Try.prog 9 #[.pointer (some ⟨T.t, 0, none⟩)] w fun e w' => e = .returned (.int .i64 (costP T.A T.B : Int)) ∧ Below w.heap.size w w' := by
  have hA := hT.okA.pos
  have hB := hT.okB.pos
  have hA4 := hT.okA.many
  have hB4 := hT.okB.many
  have c0 := hT.c0
  have c1 := hT.c1
  have HE := hide (empty_any T _ w hT)
  have HV := hide (cost_is hT.okA hT.okB)
  have hr := fun k => rename_any T _ (T.A.length - 1) (T.B.length - 1) (w.drewN k) (hT.drewN k) (by omega) (by omega)
  have hf := fun (W : World) (hW : Below w.heap.size w W) => forests_any T _ (T.A.length - 1) (T.B.length - 1) W (hT.below hW) (by omega) (by omega) (needs_all _ _ _ _) (forOk_all T (p := 0) hT.okA hT.okB (show T.A.length - 1 < T.A.length by omega) (show T.B.length - 1 < T.B.length by omega)).smallF
  have hd := DV_le hT.okA hT.okB (i := T.A.length - 1) (j := T.B.length - 1) (by omega) (by omega) (bok_root hT.okA hT.okB).hM (bok_root hT.okA hT.okB).hN
  have ho := other_le T.A T.B (T.A.length - 1) (T.B.length - 1)
  have HBO := hide (bok_root hT.okA hT.okB)
  simp only [show ((T.A.length - 1 : Nat) : Int) = (T.A.length : Int) - 1 by omega, show ((T.B.length - 1 : Nat) : Int) = (T.B.length : Int) - 1 by omega] at hr hf
  have HR := hide hr
  have HF := hide hf
  clear hT hr hf
  go_enter Try.func9, Try.ntmps9
  go_wp2_with fail
  refine Calls.mono HE.out ?_
  rintro e w1 ⟨rfl, rfl⟩
  go_wp2_with fail
  go_quiet (fail)
  go_wp2_with fail
  refine Calls.mono (HR.out _) ?_
  rintro e w2 ⟨rfl, k2, hw2⟩
  have hB2 : Below w1.heap.size w1 w2 := by rw [hw2]; exact below_drewN (below_drewN (Below.refl _ _) _) _
  have HW2 := hide hw2
  have HB2 := hide hB2
  clear hw2 hB2
  go_wp2_with fail
  refine Calls.mono (HF.out _ HB2.out) ?_
  rintro e w3 ⟨rfl, hfor, hb3⟩
  have f3 : w3.cell? ⟨w2.heap.size, 3, none⟩ = some (.slice (some ⟨w2.heap.size + 1, 0, none⟩) (T.A.length - 1 - lefts T.A (T.A.length - 1) + 2) (T.A.length - 1 - lefts T.A (T.A.length - 1) + 2)) := hfor.c3
  have hM := HBO.out.hM
  have hN := HBO.out.hN
  have g1 : w3.cell? ⟨w2.heap.size + 1, T.A.length - 1, none⟩ = some (.slice (some ⟨w2.heap.size + 1 + 1 + (T.A.length - 1), 0, none⟩) (T.B.length - 1 - lefts T.B (T.B.length - 1) + 2) (T.B.length - 1 - lefts T.B (T.B.length - 1) + 2)) := hfor.grid.cell hM
  have g2 : w3.cell? ⟨w2.heap.size + 1 + 1 + (T.A.length - 1), T.B.length - 1, none⟩ = some (.int .i64 (DV T.A T.B (T.A.length - 1) (T.B.length - 1) (T.A.length - 1) (T.B.length - 1) : Int)) := hfor.grid.num hM hN
  have HB3 := hide (HB2.out.trans (hb3.mono HB2.out.size))
  obtain ⟨M, hMe⟩ : ∃ M, M = T.A.length - 1 - lefts T.A (T.A.length - 1) + 2 := ⟨_, rfl⟩
  obtain ⟨N, hNe⟩ : ∃ N, N = T.B.length - 1 - lefts T.B (T.B.length - 1) + 2 := ⟨_, rfl⟩
  rw [← hMe] at f3 hM
  rw [← hNe] at g1 hN
  have hM4 : M ≤ 50 := by omega
  have hN4 : N ≤ 50 := by omega
  clear hfor hb3 hMe hNe
  go_wp2_with fail
  go_ret
  exact ⟨by rw [← HV.out]; rfl, HB3.out⟩

set_option maxHeartbeats 1000000 in
theorem dbest_any (T : Tab) (w : World) (hT : TabIn w T (TD T.A T.B)) :
    Calls Try.prog 14 #[.pointer (some ⟨T.t, 0, none⟩)] w (BestPost (bestP T.A T.B) w) := by
  have hA := hT.okA.pos
  have hB := hT.okB.pos
  have hA4 := hT.okA.many
  have hB4 := hT.okB.many
  have c0 := hT.c0
  have c1 := hT.c1
  obtain ⟨iP, hiP, hp0, hp1, hp2⟩ := info_parts infoPair
  have HE := hide (empty_any T _ w hT)
  have HV := hide (best_is hT.okA hT.okB)
  have hf := fun (W : World) (hW : Below w.heap.size w W) => forests_any T _ (T.A.length - 1) (T.B.length - 1) W (hT.below hW) (by omega) (by omega) (needs_all _ _ _ _) (forOk_all T (p := 0) hT.okA hT.okB (show T.A.length - 1 < T.A.length by omega) (show T.B.length - 1 < T.B.length by omega)).smallF
  have hbt := fun p (W : World) (hW : Below w.heap.size w W) hfo => best_at T _ (T.A.length - 1) (T.B.length - 1) (T.A.length - 1) (T.B.length - 1) (Nat.lt_succ_self _) p W (hT.below hW) hfo (bok_root hT.okA hT.okB)
  have hlen := (bestL_len (bok_root hT.okA hT.okB)).1
  simp only [show ((T.A.length - 1 : Nat) : Int) = (T.A.length : Int) - 1 by omega, show ((T.B.length - 1 : Nat) : Int) = (T.B.length : Int) - 1 by omega] at hf hbt
  obtain ⟨L, hL⟩ : ∃ L, L = bestL T.A T.B (T.A.length - 1) (T.B.length - 1) (T.A.length - 1) (T.B.length - 1) := ⟨_, rfl⟩
  rw [← hL] at HV hlen
  simp only [← hL] at hbt
  have hl100 : L.length ≤ 100 := by omega
  have HBT := hide hbt
  have HF := hide hf
  clear hT hf hbt hL hlen
  go_enter Try.func14, Try.ntmps14
  go_wp2_with fail
  refine Calls.mono HE.out ?_
  rintro e w1 ⟨rfl, rfl⟩
  go_wp2_with fail
  go_quiet (fail)
  go_wp2_with fail
  refine Calls.mono (HF.out _ (below_drewN (Below.refl _ _) _)) ?_
  rintro e w3 ⟨rfl, hfor, hb3⟩
  have hB3 : Below w1.heap.size w1 w3 := (below_drewN (Below.refl _ _) nq).trans hb3
  have HBS := hide (HBT.out _ w3 hB3 hfor)
  have HB3 := hide hB3
  clear hfor hb3 hB3 HF HBT
  go_wp2_with fail
  refine Calls.mono HBS.out ?_
  rintro e w4 ⟨v, rfl, hrow, hb4⟩
  obtain ⟨va, vc, rfl, hvl, hvm⟩ := ownsN_form hrow
  unfold maxLen at hvm
  have hz3 := HB3.out.size
  have hz4 := hb4.size
  have hrw : w4.ownsRow w1.heap.size 59 2 (.slice va L.length vc) L.length (prCells L) := ⟨hrow.1, by
    rcases hrow.2 with h | ⟨g, cap, cur, h1, h2, h3⟩
    · exact Or.inl h
    · exact Or.inr ⟨g, cap, cur, h1, by omega, h3⟩⟩
  have HRW := hide hrw
  have HB4 := hide (HB3.out.trans (hb4.mono hz3))
  have hs4 : w1.heap.size ≤ w4.heap.size := by omega
  clear hrow hb4 HBS
  go_wp2_with (at_builtin; refine wpList_append_lies _ rfl (.tmp 25) (.tmp 29) 42 rfl w1.heap.size 59 iP _ 2 16 Try.underlying42 hiP hp0 hp1 hp2 rfl (by decide) _ L.length _ rfl (ownsN_below hrw ((Below.refl _ _).alloc (Nat.le_refl _) _)) ⟨w4.heap.size, 0, none⟩ 1 1 [Value.int .i64 ((T.A.length : Int) - 1), Value.int .i64 ((T.B.length : Int) - 1)] rfl rfl (pr_news w4 59 ((T.A.length : Int) - 1) ((T.B.length : Int) - 1)) (by intro u hu; simp at hu; rcases hu with rfl | rfl <;> rfl) (by decide) (by unfold maxLen; omega) (by omega) (by simp; omega) (w4.heap.size + 1) (by simp) ?_)
  intro g cap w5 hown hgrow hat hlt
  have HOWN := hide hown
  have HG := hide (show Below w1.heap.size w1 w5 from (HB4.out.alloc hs4 _).grown hgrow (by simp; omega) (fun g hg => (ownBlockN_lt HRW.out hg).1))
  clear hown hgrow hat hrw
  go_wp2_with fail
  go_ret
  refine ⟨_, rfl, ?_, HG.out⟩
  have h := HOWN.out
  rw [← HV.out, List.length_append, prCells_append]
  rw [show prCells [(T.A.length - 1, T.B.length - 1)] = [Value.int .i64 ((T.A.length : Int) - 1), Value.int .i64 ((T.B.length : Int) - 1)] by simp [prCells, prCell, show ((T.A.length - 1 : Nat) : Int) = (T.A.length : Int) - 1 by omega, show ((T.B.length - 1 : Nat) : Int) = (T.B.length : Int) - 1 by omega]]
  exact h
end Go.Proofs.Ytpjlajjbioploab.Dist
