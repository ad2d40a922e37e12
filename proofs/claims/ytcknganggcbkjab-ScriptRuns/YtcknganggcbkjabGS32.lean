/- Of of package dist makes a table of two trees, or tells a code. Of the program's text. -/
/- names of package script. Of the program's text. -/
/- Which nodes stay, as best of package dist finds them: numbers alone. Of no program. -/
import Derived.Test.YtcknganggcbkjabProg
import Derived.Test.YtcknganggcbkjabGS31
import Derived.Test.YtcknganggcbkjabGS17
import Derived.Test.YtcknganggcbkjabGS16
import Derived.Test.YtcknganggcbkjabGS27
import Derived.Test.YtcknganggcbkjabGS29
import Derived.Deep.LoopGhost
import Derived.Deep.RegionHeld3
import Derived.Deep.QuietTactic
import Derived.BigQuiet
import Derived.WalkSmall
import Derived.Test.YtcknganggcbkjabGS30
namespace Go.Proofs.Ytcknganggcbkjab.Dist
open Go.Deep Go.RowKit
set_option linter.unusedVariables false
set_option maxRecDepth 20000

theorem NAt_of_owns {w : World} {B T g n vc : Nat} {L : List Nd} (h : w.ownsRow B T 3 (.slice (some ⟨g, 0, none⟩) n vc) n (ndCells L)) : NAt w g 0 L := fun i x hx => by
  obtain ⟨c0, c1, c2⟩ := ndCells_at L i x hx
  exact ⟨ownsRow_cell h _ _ c0, by have := ownsRow_cell h _ _ c1; rwa [← Nat.add_assoc] at this, by have := ownsRow_cell h _ _ c2; rwa [← Nat.add_assoc] at this⟩

/-- What Of comes to, where Check may tell the codes of P1 and of P2. -/
def DOfEnd (P1 P2 : Int → Prop) (A B : List Nd) (e : Ending) (w' : World) : Prop :=
  (∃ c, (P1 c ∨ (P1 0 ∧ P2 c)) ∧ c ≠ 0 ∧ e = .returned (.tuple #[.pointer none, .int .i64 c])) ∨
  (P1 0 ∧ P2 0 ∧ ∃ T : Tab, T.A = A ∧ T.B = B ∧ e = .returned (.tuple #[.pointer (some ⟨T.t, 0, none⟩), .int .i64 0]) ∧ TabIn w' T (TD A B))

set_option maxHeartbeats 800000 in
theorem distof_of (P1 P2 : Int → Prop) (s1 s2 : ByteArray) (ka1 ka2 : Option Addr) (cap1 cap2 : Nat) (k1 k2 : Fo) (w : World) (hP1 : P1 0 → faultT s1 k1 = 0) (hP2 : P2 0 → faultT s2 k2 = 0)
    (ho1 : ∀ W, Below w.heap.size w W → Calls Try.prog 43 #[.agg #[.string s1, .slice ka1 (flen k1) cap1]] W fun e w' => OfEnd P1 s1 k1 W.heap.size e w' ∧ Below W.heap.size W w')
    (ho2 : ∀ W, Below w.heap.size w W → Calls Try.prog 43 #[.agg #[.string s2, .slice ka2 (flen k2) cap2]] W fun e w' => OfEnd P2 s2 k2 W.heap.size e w' ∧ Below W.heap.size W w') :
    Calls Try.prog 15 #[.agg #[.string s1, .slice ka1 (flen k1) cap1], .agg #[.string s2, .slice ka2 (flen k2) cap2]] w fun e w' => DOfEnd P1 P2 (ndT 0 s1 k1 (-1)) (ndT 0 s2 k2 (-1)) e w' ∧ Below w.heap.size w w' := by
  have hbx : Below w.heap.size w ((w.alloc (Obj.cells #[Value.string s1, Value.slice ka1 (flen k1) cap1] 24)).alloc (Obj.cells #[Value.string s2, Value.slice ka2 (flen k2) cap2] 24)) := ((Below.refl _ _).alloc (Nat.le_refl _) _).alloc (by simp) _
  have HO1 := hide ho1
  have HO2 := hide ho2
  have HP1 := hide hP1
  have HP2 := hide hP2
  clear ho1 ho2 hP1 hP2
  go_enter Try.func15, Try.ntmps15
  go_wp2_with fail
  refine Calls.mono (HO1.out _ hbx) ?_
  rintro e w1 ⟨hoe, hb1⟩
  have hB1 := hbx.trans (hb1.mono (by simp; omega))
  have e0 : w1.cell? ⟨w.heap.size + 1, 0, none⟩ = some (.string s2) := by rw [hb1.cell (by simp)]; go_simp
  have e1 : w1.cell? ⟨w.heap.size + 1, 1, none⟩ = some (.slice ka2 (flen k2) cap2) := by rw [hb1.cell (by simp)]; go_simp
  clear hb1 hbx HO1
  rcases hoe with ⟨c, hpc, hc0, rfl⟩ | ⟨hp0, v, rfl, hrow⟩
  · have hcb : (c == 0) = false := beq_eq_false_iff_ne.2 hc0
    go_wp2_with fail
    exact bodyPost_ret (v := .tuple #[.pointer none, .int .i64 c]) (by simp [results, Try.results15, go_sem]) rfl ⟨Or.inl ⟨c, Or.inl hpc, hc0, rfl⟩, hB1⟩
  · obtain ⟨n1, hn1e⟩ : ∃ n1, n1 = fnodes k1 + 1 := ⟨_, rfl⟩
    rw [← hn1e] at hrow
    obtain ⟨g1, c1, hv1, hg1, hg1l, hc1, hc1m⟩ := ownsN_some hrow (by omega)
    have HN1E := hide hn1e
    clear hn1e
    subst hv1
    have HR1 := hide hrow
    have HQ2 := hide (HO2.out _ hB1)
    clear hrow HO2
    go_wp2_with fail
    refine Calls.mono HQ2.out ?_
    rintro e w2 ⟨hoe, hb2⟩
    have hB2 := hB1.trans (hb2.mono hB1.size)
    clear HQ2
    rcases hoe with ⟨c, hpc, hcn, rfl⟩ | ⟨hp0', v, rfl, hrow2⟩
    · have hcb : (c == 0) = false := beq_eq_false_iff_ne.2 hcn
      go_wp2_with fail
      exact bodyPost_ret (v := .tuple #[.pointer none, .int .i64 c]) (by simp [results, Try.results15, go_sem]) rfl ⟨Or.inl ⟨c, Or.inr ⟨hp0, hpc⟩, hcn, rfl⟩, hB2⟩
    · obtain ⟨n2, hn2e⟩ : ∃ n2, n2 = fnodes k2 + 1 := ⟨_, rfl⟩
      rw [← hn2e] at hrow2
      obtain ⟨g2, c2, hv2, hg2, hg2l, hc2, hc2m⟩ := ownsN_some hrow2 (by omega)
      subst hv2
      have hR1 := ownsN_below HR1.out hb2
      obtain ⟨hn1, _, hbad1⟩ := fault_zero (HP1.out hp0)
      obtain ⟨hn2, _, hbad2⟩ := fault_zero (HP2.out hp0')
      have hs2 := hb2.size
      have HN1 := hide (NAt_of_owns hR1)
      have HN2 := hide (NAt_of_owns hrow2)
      have HA := hide (nok_ndT s1 k1 (by omega) (ndT_labs hbad1))
      have HB := hide (nok_ndT s2 k2 (by omega) (ndT_labs hbad2))
      have HG := hide (grid_any n1 n2 w2 (by have := HN1E.out; omega) (by omega))
      have hB2s := hB2.size
      clear hrow2 hR1 HR1 hbad1 hbad2 hb2 HP1 HP2 e0 e1 hB1
      have E1 := hide (show (ndT 0 s1 k1 (-1)).length = n1 by rw [ndT_length, HN1E.out])
      have E2 := hide (show (ndT 0 s2 k2 (-1)).length = n2 by rw [ndT_length, hn2e])
      have hn40 : n1 ≤ 40 := by have := HN1E.out; omega
      have hn41 : n2 ≤ 40 := by omega
      clear hn2e hn1 hn2
      go_wp2_with fail
      refine Calls.mono HG.out ?_
      rintro e w3 ⟨rfl, hgr, hb3, hz3⟩
      obtain ⟨W, hW⟩ : ∃ W, W = w3.alloc (Obj.cells #[.slice (some ⟨g1, 0, none⟩) n1 c1, .slice (some ⟨g2, 0, none⟩) n2 c2, .slice (some ⟨w2.heap.size, 0, none⟩) n1 n1] 73) := ⟨_, rfl⟩
      have hb4 : Below w3.heap.size w3 W := by rw [hW]; exact (Below.refl _ _).alloc (Nat.le_refl _) _
      have hnew : W.heap[w3.heap.size]? = some (Obj.cells #[.slice (some ⟨g1, 0, none⟩) n1 c1, .slice (some ⟨g2, 0, none⟩) n2 c2, .slice (some ⟨w2.heap.size, 0, none⟩) n1 n1] 73) := by rw [hW]; exact heap_alloc_new _ _
      have hT : TabIn W ⟨ndT 0 s1 k1 (-1), ndT 0 s2 k2 (-1), g1, 0, c1, g2, 0, c2, w3.heap.size, w2.heap.size⟩ (fun _ _ => 0) := by
        refine ⟨HA.out, HB.out, ⟨by simp only; rw [E1.out]; exact hc1, hc1m⟩, ⟨by simp only; rw [E2.out]; exact hc2, hc2m⟩, ?_, ?_, ?_, ?_, ?_, ?_, ?_, ?_, ?_, ?_⟩
        · simp only
          rw [E1.out, cell_of_row _ _ 0 _ _ _ hnew]; rfl
        · simp only
          rw [E2.out, cell_of_row _ _ 1 _ _ _ hnew]; rfl
        · simp only
          rw [E1.out, cell_of_row _ _ 2 _ _ _ hnew]; rfl
        · exact HN1.out.of_block (by rw [hb4.block _ (by omega), hb3.block _ (by omega)])
        · exact HN2.out.of_block (by rw [hb4.block _ (by omega), hb3.block _ (by omega)])
        · simp only
          rw [E1.out, E2.out]
          exact hgr.below hb4
        · show g1 < w2.heap.size
          omega
        · exact hg2l
        · simp only
          rw [E1.out]
          omega
        · show w3.heap.size < W.heap.size
          rw [hW]
          simp
      have hBW := hB2.trans ((hb3.trans (hb4.mono hb3.size)).mono hB2s)
      have HF : Hid (Calls Try.prog 45 #[.pointer (some ⟨w3.heap.size, 0, none⟩)] W fun e w' => e = .returned (.tuple #[]) ∧ TabIn w' ⟨ndT 0 s1 k1 (-1), ndT 0 s2 k2 (-1), g1, 0, c1, g2, 0, c2, w3.heap.size, w2.heap.size⟩ (TD (ndT 0 s1 k1 (-1)) (ndT 0 s2 k2 (-1))) ∧ KeptT ⟨ndT 0 s1 k1 (-1), ndT 0 s2 k2 (-1), g1, 0, c1, g2, 0, c2, w3.heap.size, w2.heap.size⟩ W w') := hide (fill_any _ W hT)
      have HBW := hide hBW
      have HLT := hide (show w.heap.size ≤ w2.heap.size from hB2s)
      clear hz3 hT hgr hb3 hb4 hnew hBW HG HN1 HN2
      go_wp2_with fail
      rw [← hW]
      clear hW
      refine Calls.mono HF.out ?_
      rintro e w5 ⟨rfl, htab, hkp⟩
      have HE := hide htab
      have HK := hide (HBW.out.trans (hkp.below (Nat.le_trans HLT.out (Nat.le_succ _)) HBW.out.size))
      clear HF htab hkp
      go_wp2_with fail
      exact bodyPost_ret (v := .tuple #[.pointer (some ⟨w3.heap.size, 0, none⟩), .int .i64 0]) (by simp [results, Try.results15, go_sem]) rfl ⟨Or.inr ⟨hp0, hp0', _, rfl, rfl, rfl, HE.out⟩, HK.out⟩
end Go.Proofs.Ytcknganggcbkjab.Dist
namespace Go.Proofs.Ytcknganggcbkjab.Scr
open Go.Deep Go.RowKit Deed
set_option linter.unusedVariables false
set_option maxRecDepth 20000

theorem names_same {A B : List Nd} {i : Nat} (h : Dist.labs A i = Dist.labs B i) : namesP A B (i + 1) = namesP A B i := by
  conv => lhs; unfold namesP
  rw [if_pos h, List.append_nil]
theorem names_other {A B : List Nd} {i : Nat} (h : ¬ Dist.labs A i = Dist.labs B i) : namesP A B (i + 1) = namesP A B i ++ [⟨1, ints (pathP A i), 0, 0, Dist.labs B i⟩] := by
  conv => lhs; unfold namesP
  rw [if_neg h]
theorem labs_at {L : List Nd} {i : Nat} {x : Nd} (h : L[i]? = some x) : Dist.labs L i = x.lab := by
  unfold Dist.labs
  rw [h]

set_option maxHeartbeats 8000000 in
theorem names_any (s1 : ByteArray) (ka1 : Option Addr) (cap1 : Nat) (k1 : Fo) (s2 : ByteArray) (ka2 : Option Addr) (cap2 : Nat) (k2 : Fo) (w : World) (ht1 : TIn w s1 ka1 cap1 k1) (hp1 : FPlain w k1) (hf1 : faultT s1 k1 = 0) (ht2 : TIn w s2 ka2 cap2 k2) (hp2 : FPlain w k2) (hf2 : faultT s2 k2 = 0) (hle : fnodes k2 ≤ fnodes k1) :
    Calls Try.prog 77 #[.agg #[.string s1, .slice ka1 (flen k1) cap1], .agg #[.string s2, .slice ka2 (flen k2) cap2]] w fun e w' => ∃ va vc A, e = .returned (.slice va (List.length (α := Deed.Pd) A) vc) ∧ dds A = namesP (ndT 0 s1 k1 (-1)) (ndT 0 s2 k2 (-1)) (fnodes k2 + 1) ∧ Row w.heap.size w' (.slice va A.length vc) A ∧ Below w.heap.size w w' := by
  have hn1 := (fault_zero hf1).1
  have hn2 := (fault_zero hf2).1
  obtain ⟨W, hW⟩ : ∃ W, W = (w.alloc (Obj.cells #[Value.string s1, Value.slice ka1 (flen k1) cap1] 24)).alloc (Obj.cells #[Value.string s2, Value.slice ka2 (flen k2) cap2] 24) := ⟨_, rfl⟩
  obtain ⟨hWs, hB, c0, c1⟩ := boxes2 w (Obj.cells #[Value.string s1, Value.slice ka1 (flen k1) cap1] 24) (Obj.cells #[Value.string s2, Value.slice ka2 (flen k2) cap2] 24)
  rw [← hW] at hWs hB c0 c1
  have HO1 := hide (of_good s1 ka1 cap1 k1 W (ht1.below hB) (hp1.below hB) hf1)
  have HO2 := hide (fun (W' : World) (hb : Below W.heap.size W W') => of_good s2 ka2 cap2 k2 W' (ht2.below (hB.trans (hb.mono (by omega)))) (hp2.below (hB.trans (hb.mono (by omega)))) hf2)
  have HPN := hide (fun na nc B n w3 hr h1 h2 hm => path_nd s1 k1 na nc B n w3 hf1 hr h1 h2 hm)
  have HLB := hide (And.intro (labs_small hf1) (labs_small hf2))
  have HC := hide (And.intro hWs (And.intro hB c1))
  clear hWs hB c0 c1 ht1 ht2 hp1 hp2 hf1 hf2
  have HL1 := hide (show (ndT 0 s1 k1 (-1)).length = fnodes k1 + 1 from ndT_length _ _ _ _)
  have HL2 := hide (show (ndT 0 s2 k2 (-1)).length = fnodes k2 + 1 from ndT_length _ _ _ _)
  obtain ⟨L1, hL1⟩ : ∃ L1, L1 = ndT 0 s1 k1 (-1) := ⟨_, rfl⟩
  obtain ⟨L2, hL2⟩ : ∃ L2, L2 = ndT 0 s2 k2 (-1) := ⟨_, rfl⟩
  obtain ⟨N1, hN1⟩ : ∃ N1, N1 = fnodes k1 + 1 := ⟨_, rfl⟩
  obtain ⟨N2, hN2⟩ : ∃ N2, N2 = fnodes k2 + 1 := ⟨_, rfl⟩
  have hN21 : N2 ≤ N1 := by omega
  have hN1m : N1 ≤ 40 := by omega
  have hN1p : 0 < N1 := by omega
  have hN2p : 0 < N2 := by omega
  rw [← hL1, ← hN1] at HO1 HPN HL1
  rw [← hL1, ← hL2] at HLB
  rw [← hL2, ← hN2] at HO2 HL2
  rw [← hL1, ← hL2, ← hN2]
  clear hn1 hn2 hle hL1 hL2 hN1 hN2
  go_enter Try.func77, Try.ntmps77
  go_wp2_with fail
  rw [← hW]
  clear hW
  refine Calls.mono HO1.out ?_
  rintro e w1 ⟨na, nc, rfl, hc1, hc2, hr1, hb1⟩
  have hz1 := hb1.size
  have e1 : w1.heap[w.heap.size + 1]? = _ := (hb1.block _ (by have := HC.out.1; omega)).trans HC.out.2.2
  have q10 : w1.cell? ⟨w.heap.size + 1, 0, none⟩ = some (.string s2) := by rw [cell_of_row _ _ 0 _ _ _ e1]; rfl
  have q11 : w1.cell? ⟨w.heap.size + 1, 1, none⟩ = some (.slice ka2 (flen k2) cap2) := by rw [cell_of_row _ _ 1 _ _ _ e1]; rfl
  have HR1 := hide hr1
  have HB1 := hide hb1
  clear e1 hb1 hr1 HO1
  go_wp2_with fail
  refine Calls.mono (HO2.out w1 HB1.out) ?_
  rintro e w3 ⟨ma, mc, rfl, hc3, hc4, hr2, hb3⟩
  have hz3 := hb3.size
  have hzW := HC.out.1
  have HBW := hide (show Below w.heap.size w w3 from HC.out.2.1.trans ((HB1.out.trans (hb3.mono hz1)).mono (by omega)))
  obtain ⟨g1, nc', hv1, _, hg1, _, _⟩ := ownsN_some (ownsN_below HR1.out hb3) (by omega)
  obtain ⟨g2, mc', hv2, _, hg2, _, _⟩ := ownsN_some hr2 (by omega)
  injection hv1 with hv1a _ hv1c
  injection hv2 with hv2a _ hv2c
  subst hv1a hv1c hv2a hv2c
  have HN1 := hide (Dist.NAt_of_owns (ownsN_below HR1.out hb3))
  have HN2 := hide (Dist.NAt_of_owns hr2)
  have HRO := hide (ownsN_below HR1.out hb3)
  have hc2' := hc2
  have HC2 := hide hc2'
  unfold maxLen at hc2 hc4
  clear hb3 hr2 HR1 HB1 HO2 HC q10 q11 hz1 hc2'
  go_wp2_with fail
  go_loopg [9, 24] N2 (fun gk v9 v24 wr => ∃ (i n : Nat) (va : Option Addr) (vc : Nat) (A : List Deed.Pd), gk = N2 - i ∧ i ≤ N2 ∧ v24 = .int .i64 (i : Nat) ∧ v9 = .slice va n vc ∧ n ≤ i ∧ n ≤ vc ∧ vc ≤ 9223372036854775807 ∧ Hid (n = A.length) ∧ Hid (dds A = namesP L1 L2 i) ∧ Hid (Row w3.heap.size wr (.slice va n vc) A) ∧ Hid (Below w3.heap.size w3 wr))
  case atStart => exact ⟨0, 0, none, 0, [], rfl, Nat.zero_le _, rfl, rfl, Nat.le_refl _, Nat.le_refl _, by omega, hide rfl, hide rfl, hide (Row.nil _ _), hide (Below.refl _ _)⟩
  case round =>
    obtain ⟨i, n, va, vc, A, hgk, hi, rfl, rfl, hni, hv1, hv2, hnA, hdd, hrow, hbel⟩ := hrel
    obtain ⟨wA, hwA⟩ : ∃ wA, wA = wr := ⟨_, rfl⟩
    subst hwA
    have hzA := hbel.out.size
    by_cases hin : i < N2
    · obtain ⟨x, hx⟩ : ∃ x, L1[i]? = some x := ⟨_, List.getElem?_eq_getElem (by rw [HL1.out]; omega)⟩
      obtain ⟨y, hy⟩ : ∃ y, L2[i]? = some y := ⟨_, List.getElem?_eq_getElem (by rw [HL2.out]; omega)⟩
      obtain ⟨x0, x1, x2⟩ := HN1.out i x hx
      obtain ⟨y0, y1, y2⟩ := HN2.out i y hy
      simp only [Nat.zero_add] at x0 y0 y1 y2
      have a0 : wA.cell? ⟨g2, i * 3, none⟩ = some (.string y.lab) := by rw [hbel.out.cell hg2]; exact y0
      have a1 : wA.cell? ⟨g2, i * 3 + 1, none⟩ = some (.int .i64 y.par) := by rw [hbel.out.cell hg2]; exact y1
      have a2 : wA.cell? ⟨g2, i * 3 + 2, none⟩ = some (.int .i64 y.left) := by rw [hbel.out.cell hg2]; exact y2
      obtain ⟨V1, hV1⟩ : ∃ V1, V1 = wA.alloc (Obj.cells #[.string y.lab, .int .i64 y.par, .int .i64 y.left] 35) := ⟨_, rfl⟩
      have b1 : Below wA.heap.size wA V1 := by rw [hV1]; exact (Below.refl _ _).alloc (Nat.le_refl _) _
      have n1 : V1.heap[wA.heap.size]? = some (Obj.cells #[.string y.lab, .int .i64 y.par, .int .i64 y.left] 35) := by rw [hV1]; exact heap_alloc_new _ _
      have k0 : V1.cell? ⟨g1, i * 3, none⟩ = some (.string x.lab) := by rw [b1.cell (show g1 < wA.heap.size by omega), hbel.out.cell hg1]; exact x0
      have k1 : V1.cell? ⟨wA.heap.size, 0, none⟩ = some (.string y.lab) := by rw [cell_of_row _ _ 0 _ _ _ n1]; rfl
      have hly := HLB.out.2 y (List.mem_of_getElem? hy)
      have hlx := HLB.out.1 x (List.mem_of_getElem? hx)
      have HLX := hide (labs_at hx)
      have HLY := hide (labs_at hy)
      have HV := hide (And.intro b1 n1)
      clear x0 x1 x2 y0 y1 y2 hx hy b1 n1
      by_cases he : x.lab = y.lab
      · have HNM := hide (names_same (A := L1) (B := L2) (i := i) (by rw [HLX.out, HLY.out]; exact he))
        have hb := Dist.lab_same he.symm
        have hb2 := Dist.lab_same he
        clear he
        rw [hV1] at k0 k1
        go_wp2_with fail
        go_quiet (fail)
        go_wp2_with fail
        rw [← hV1]
        go_roundg (N2 - (i + 1))
        case measure => omega
        case rel =>
          have bb : Below wA.heap.size wA (V1.drewN nq) := HV.out.1.trans (below_drewN (Below.refl _ _) _)
          exact ⟨i + 1, n, va, vc, A, rfl, by omega, by go_num, rfl, by omega, hv1, hv2, hnA, hide (by rw [HNM.out]; exact hdd.out), hide (hrow.out.below bb), hide (hbel.out.trans (bb.mono hzA))⟩
      · have HNM := hide (names_other (A := L1) (B := L2) (i := i) (by rw [HLX.out, HLY.out]; exact he))
        have hb := Dist.lab_other (fun h => he h.symm)
        have hb2 := Dist.lab_other he
        clear he
        rw [hV1] at k0 k1
        go_wp2_with fail
        go_quiet (fail)
        go_wp2_with fail
        rw [← hV1]
        obtain ⟨Z, hZ⟩ : ∃ Z, Z = V1.drewN nq := ⟨_, rfl⟩
        rw [← hZ]
        have bZ : Below wA.heap.size wA Z := by rw [hZ]; exact HV.out.1.trans (below_drewN (Below.refl _ _) _)
        have nZ : Z.heap[wA.heap.size]? = some (Obj.cells #[.string y.lab, .int .i64 y.par, .int .i64 y.left] 35) := by
          have h1 : wA.heap.size < V1.heap.size := by rw [hV1]; simp
          rw [hZ, (below_drewN (Below.refl V1.heap.size V1) nq).block _ h1]
          exact HV.out.2
        have hzZ := bZ.size
        have hlZ : wA.heap.size < Z.heap.size := by
          rcases Nat.lt_or_ge wA.heap.size Z.heap.size with h | h
          · exact h
          · rw [Array.getElem?_eq_none h] at nZ
            cases nZ
        have kz : Z.cell? ⟨wA.heap.size, 0, none⟩ = some (.string y.lab) := by rw [cell_of_row _ _ 0 _ _ _ nZ]; rfl
        have K0 : Kp [wA.heap.size] Z Z := Kp.refl (by simp; omega)
        obtain ⟨U0, hU0⟩ : ∃ U0, U0 = Z.drew := ⟨_, rfl⟩
        have bU : Below wA.heap.size wA U0 := by rw [hU0]; exact bZ.trans ((Below.refl _ _).drew.mono hzZ)
        have KU : Kp [wA.heap.size] Z U0 := by rw [hU0]; exact K0.drew
        have HP := hide (HPN.out (some ⟨g1, 0, none⟩) nc _ i U0 (ownsN_below (ownsN_below HRO.out hbel.out) bU) hc1 HC2.out (by omega))
        have HBU := hide bU
        have hzU := bU.size
        clear hZ bZ nZ bU HV hV1 k0 k1 a0 a1 a2
        refine wp_region_held_drew (S := fun V => Kp [wA.heap.size] Z V) (by kernel_rfl) K0.drew ?_
        intro hS0
        rw [← hU0] at hS0 ⊢
        clear hU0
        refine wpAnyH_take (i := 0) (v := .slice va n vc) rfl (by kernel_rfl) (by kernel_rfl) (by kernel_rfl) (fun _ _ _ h => h) (Or.inl ⟨by rfl, by intro V hSw; go_simp⟩) (by assumption) ?_
        refine wpAnyH_take (i := 1) (v := .slice (some ⟨g1, 0, none⟩) N1 nc) rfl (by kernel_rfl) (by kernel_rfl) (by kernel_rfl) (fun _ _ _ h => h) (Or.inl ⟨by rfl, by intro V hSw; go_simp⟩) (by assumption) ?_
        refine wpAnyH_take (i := 2) (v := .int .i64 (i : Int)) rfl (by kernel_rfl) (by kernel_rfl) (by kernel_rfl) (fun _ _ _ h => h) (Or.inl ⟨by rfl, by intro V hSw; go_simp⟩) (by assumption) ?_
        refine wpAnyH_take (i := 4) (v := .pointer (some ⟨wA.heap.size, 0, none⟩)) rfl (by kernel_rfl) (by kernel_rfl) (by kernel_rfl) (fun _ _ _ h => h) (Or.inl ⟨by rfl, by intro V hSw; go_simp⟩) (by assumption) ?_
        refine wpAnyH_take (i := 5) (v := .string y.lab) rfl (by kernel_rfl) (by kernel_rfl) (by kernel_rfl) (fun _ _ _ h => h) (Or.inl ⟨by rfl, by intro V hSw; have g0 := hSw.cell (by simp) kz; go_simp⟩) (by assumption) ?_
        clear kz
        try simp only [Act.put, List.setIfInBounds_toArray]
        refine wpAnyH_ready (rs := [3]) (by kernel_rfl) (by simp) ?_
        refine AllReadyH.cons rfl (fun KK hK => ?_) AllReadyH.nil
        go_simp
        refine Calls.mono HP.out ?_
        rintro e w5 ⟨pa, pc, rfl, hdi, hfr, hp40, hb5⟩
        obtain ⟨pth, hpth⟩ : ∃ pth, pth = ints (pathP L1 i) := ⟨_, rfl⟩
        rw [← hpth] at hdi hp40 HNM ⊢
        have hz5 := hb5.size
        have K5 : Kp [wA.heap.size] Z w5 := KU.below hb5
        have b5 : Below wA.heap.size wA w5 := HBU.out.trans (hb5.mono hzU)
        have hdn : DIn w5 ⟨1, pth, 0, 0, y.lab⟩ pa pc := ⟨hdi.path, hdi.len, hdi.cap, by show y.lab.size ≤ maxLen; unfold maxLen; omega⟩
        have hown : ∀ g, (Value.slice va n vc).ownBlock = some g → w3.heap.size ≤ g ∧ g < wA.heap.size := fun g hg' => ownBlockN_lt hrow.out.own hg'
        obtain ⟨va', vc', w6, hr6, hrow6, hg6, hat6⟩ := (hrow.out.below b5).push (n := n) hnA.out (⟨1, pth, 0, 0, y.lab⟩, pa, pc) hdn (fun _ a ha => by
          have h3 := hfr a ha
          exact ⟨by omega, fun e2 => by have := (hown _ e2).2; omega⟩) (by have := hnA.out; omega) (by omega)
        have hv6 : n + 1 ≤ vc' ∧ vc' ≤ maxLen := by
          obtain ⟨va2, vc2, e2, h3, h4⟩ := hrow6.form
          injection e2 with e3 e4 e5
          subst e5
          simp only [List.length_append, List.length_cons, List.length_nil] at h3
          have := hnA.out
          exact ⟨by omega, h4⟩
        have HB6 := hide (show Below w3.heap.size w3 w6 from (hbel.out.trans (b5.mono hzA)).grown hg6 (by omega) (fun g hg' => (hown g hg').1))
        have K6 : Kp [wA.heap.size] Z w6 := ⟨Nat.le_trans K5.size hg6.size, K5.lt, fun q hq => by
          have h1 : q = wA.heap.size := by simpa using hq
          have h2 := K5.size
          rw [grown_off hg6 (c := q) (by omega) (fun e2 => by have := (hown _ e2).2; omega)]
          exact K5.same q hq⟩
        have HDD := hide (show dds (A ++ [((⟨1, pth, 0, 0, y.lab⟩ : Dd), pa, pc)]) = namesP L1 L2 (i + 1) by rw [HNM.out, dds_append, hdd.out, HLY.out]; rfl)
        have HLN := hide (show n + 1 = (A ++ [((⟨1, pth, 0, 0, y.lab⟩ : Dd), pa, pc)]).length by simp [hnA.out])
        have hd1 := hdi.len
        have hd2 := hdi.cap
        simp only at hd1
        unfold maxLen at hv6 hd2
        have HRW := hide hrow6
        clear hdi hfr hb5 hdn hown hrow6 hg6 hat6 b5 hpth HNM HP HBU hp40
        go_simp
        refine hK.out _ _ K5 (fun hHeld => ?_)
        clear hK KK hHeld
        try simp only [Act.put, List.setIfInBounds_toArray]
        refine wpAnyH_take (i := 6) (v := .agg #[.int .i64 1, .slice pa pth.length pc, .int .i64 0, .int .i64 0, .string y.lab]) rfl (by kernel_rfl) (by kernel_rfl) (by kernel_rfl) (fun _ _ _ h => h) (Or.inl ⟨by rfl, by intro V hSw; go_simp⟩) (by assumption) ?_
        try simp only [Act.put, List.setIfInBounds_toArray]
        refine wpAnyH_ready (rs := [7]) (by kernel_rfl) (by simp) ?_
        refine AllReadyH.cons rfl (fun KK hK => ?_) AllReadyH.nil
        go_simp
        refine hK.out _ _ K5.alloc (fun hHeld => ?_)
        clear hK KK hHeld
        try simp only [Act.put, List.setIfInBounds_toArray]
        refine wpAnyH_ready (rs := [8]) (by kernel_rfl) (by simp) ?_
        refine AllReadyH.cons rfl (fun KK hK => ?_) AllReadyH.nil
        refine step_append_run rfl _ _ _ rfl rfl hr6 rfl rfl ?_
        refine hK.out _ _ K6 (fun hHeld => ?_)
        clear hK KK hHeld hr6
        try simp only [Act.put]
        refine wpAnyH_ready (rs := [9]) (by kernel_rfl) (by simp) ?_
        refine AllReadyH.cons rfl (fun KK hK => ?_) AllReadyH.nil
        go_simp
        refine hK.out _ _ K6 (fun hHeld => ?_)
        clear hK KK hHeld
        refine wpAnyH_done (by kernel_rfl) ?_ _
        go_wp2_with fail
        go_roundg (N2 - (i + 1))
        case measure => omega
        case rel => exact ⟨i + 1, n + 1, va', vc', _, rfl, by omega, by go_num, rfl, by omega, hv6.1, by omega, HLN, HDD, HRW, HB6⟩
    · have hie : i = N2 := by omega
      have HE := hide (show dds A = namesP L1 L2 N2 by rw [← hie]; exact hdd.out)
      clear hie
      go_wp2_with fail
      go_ret
      refine ⟨va, vc, A, by rw [← hnA.out]; rfl, HE.out, ?_, HBW.out.trans (hbel.out.mono HBW.out.size)⟩
      rw [← hnA.out]
      exact hrow.out.lower HBW.out.size
end Go.Proofs.Ytcknganggcbkjab.Scr
namespace Go.Proofs.Ytcknganggcbkjab.Dist
open Go.Deep Go.RowKit
set_option linter.unusedVariables false
set_option maxRecDepth 20000

section
variable {la lb : Nat → Nat} {c : Nat → Nat → Nat} {n m : Nat}
theorem bestF_more (ha : Post la n) (hb : Post lb m) : ∀ (f g i0 i j0 j : Nat), i ≤ n → j ≤ m → Frst la i0 i → Frst lb j0 j → (i - i0) + (j - j0) < f → (i - i0) + (j - j0) < g → bestF la lb c f i0 i j0 j = bestF la lb c g i0 i j0 j
  | 0, _, _, _, _, _, _, _, _, _, h, _ => by omega
  | _ + 1, 0, _, _, _, _, _, _, _, _, _, h => by omega
  | f + 1, g + 1, i0, i, j0, j, hi, hj, h1, h2, h3, h4 => by
    unfold bestF
    by_cases e1 : i ≤ i0
    · rw [if_pos e1, if_pos e1]
    · rw [if_neg e1, if_neg e1]
      by_cases e2 : j ≤ j0
      · rw [if_pos e2, if_pos e2]
      · rw [if_neg e2, if_neg e2]
        have l1 := h1 (i - 1) (by omega) (by omega)
        have l2 := h2 (j - 1) (by omega) (by omega)
        have l3 := ha.le (i - 1) (by omega)
        have l4 := hb.le (j - 1) (by omega)
        by_cases b1 : la (i - 1) = i0 ∧ lb (j - 1) = j0 ∧ D la lb c i0 (i - 1) j0 (j - 1) + c (i - 1) (j - 1) = D la lb c i0 i j0 j
        · rw [if_pos b1, if_pos b1, bestF_more ha hb f g i0 (i - 1) j0 (j - 1) (by omega) (by omega) (h1.less (by omega)) (h2.less (by omega)) (by omega) (by omega)]
        · rw [if_neg b1, if_neg b1]
          by_cases b2 : ¬ (la (i - 1) = i0 ∧ lb (j - 1) = j0) ∧ D la lb c i0 (la (i - 1)) j0 (lb (j - 1)) + D la lb c (la (i - 1)) i (lb (j - 1)) j = D la lb c i0 i j0 j
          · rw [if_pos b2, if_pos b2, bestF_more ha hb f g i0 (la (i - 1)) j0 (lb (j - 1)) (by omega) (by omega) (h1.less (by omega)) (h2.less (by omega)) (by omega) (by omega),
              bestF_more ha hb f g (la (i - 1)) i (lb (j - 1)) j hi hj (Frst.tree ha (by omega) hi) (Frst.tree hb (by omega) hj) (by omega) (by omega)]
          · rw [if_neg b2, if_neg b2]
            by_cases b3 : D la lb c i0 (i - 1) j0 j + 1 = D la lb c i0 i j0 j
            · rw [if_pos b3, if_pos b3, bestF_more ha hb f g i0 (i - 1) j0 j (by omega) hj (h1.less (by omega)) h2 (by omega) (by omega)]
            · rw [if_neg b3, if_neg b3, bestF_more ha hb f g i0 i j0 (j - 1) hi (by omega) h1 (h2.less (by omega)) (by omega) (by omega)]
end

/-- Which nodes of m and n stay, from where the trees that i and j head begin. -/
def bestL (A B : List Nd) (i j m n : Nat) : List (Nat × Nat) := bestF (lefts A) (lefts B) (other A B) (m + n + 1) (lefts A i) (lefts A i + m) (lefts B j) (lefts B j + n)

section
variable {A B : List Nd} {i j m n : Nat}
theorem bestL_none (h : m = 0 ∨ n = 0) : bestL A B i j m n = [] := by
  unfold bestL bestF
  by_cases e : lefts A i + m ≤ lefts A i
  · rw [if_pos e]
  · rw [if_neg e, if_pos (by omega)]
/-- All that is asked of m and n. -/
structure BOk (A B : List Nd) (i j m n : Nat) : Prop where
  hA : NOk A
  hB : NOk B
  hi : i < A.length
  hj : j < B.length
  hM : m < i - lefts A i + 2
  hN : n < j - lefts B j + 2
theorem BOk.less (h : BOk A B i j m n) {a b : Nat} (ha : a ≤ m) (hb : b ≤ n) : BOk A B i j a b := ⟨h.hA, h.hB, h.hi, h.hj, by have := h.hM; omega, by have := h.hN; omega⟩
theorem BOk.fa (h : BOk A B i j m n) : Frst (lefts A) (lefts A i) (lefts A i + m) := by
  have h1 := h.hA.post.le i h.hi
  have hi := h.hi
  have hM := h.hM
  have fa : Frst (lefts A) (lefts A i) (i + 1) := by simpa using Frst.tree h.hA.post (i := i + 1) (by omega) (by omega)
  exact fa.less (by omega)
theorem BOk.fb (h : BOk A B i j m n) : Frst (lefts B) (lefts B j) (lefts B j + n) := by
  have h1 := h.hB.post.le j h.hj
  have hi := h.hj
  have hM := h.hN
  have fa : Frst (lefts B) (lefts B j) (j + 1) := by simpa using Frst.tree h.hB.post (i := j + 1) (by omega) (by omega)
  exact fa.less (by omega)
theorem BOk.ends (h : BOk A B i j m n) : lefts A i + m ≤ i + 1 ∧ lefts B j + n ≤ j + 1 := by
  have h1 := h.hA.post.le i h.hi
  have h2 := h.hB.post.le j h.hj
  have h3 := h.hM
  have h4 := h.hN
  omega
theorem bestL_fuel (h : BOk A B i j m n) (g : Nat) (hg : m + n < g) : bestF (lefts A) (lefts B) (other A B) g (lefts A i) (lefts A i + m) (lefts B j) (lefts B j + n) = bestL A B i j m n := by
  have he := h.ends
  have hi := h.hi
  have hj := h.hj
  exact bestF_more h.hA.post h.hB.post _ _ _ _ _ _ (by omega) (by omega) h.fa h.fb (by omega) (by omega)
theorem bestL_fuel' (h : BOk A B i j m n) {g i' j' : Nat} (hg : m + n < g) (hi' : i' = lefts A i + m) (hj' : j' = lefts B j + n) : bestF (lefts A) (lefts B) (other A B) g (lefts A i) i' (lefts B j) j' = bestL A B i j m n := by
  rw [hi', hj']
  exact bestL_fuel h g hg
/-- The last two, as the program asks. -/
def togT (A B : List Nd) (i j m n : Nat) : Nat :=
  if lefts A (lefts A i + m - 1) = lefts A i ∧ lefts B (lefts B j + n - 1) = lefts B j then DV A B i j (m - 1) (n - 1) + other A B (lefts A i + m - 1) (lefts B j + n - 1)
  else DV A B i j (lefts A (lefts A i + m - 1) - lefts A i) (lefts B (lefts B j + n - 1) - lefts B j) + TD A B (lefts A i + m - 1) (lefts B j + n - 1)
theorem BOk.last (h : BOk A B i j m n) (hm : 0 < m) (hn : 0 < n) : lefts A i ≤ lefts A (lefts A i + m - 1) ∧ lefts A (lefts A i + m - 1) ≤ lefts A i + m - 1 ∧ lefts B j ≤ lefts B (lefts B j + n - 1) ∧ lefts B (lefts B j + n - 1) ≤ lefts B j + n - 1 ∧ lefts A i + m - 1 ≤ i ∧ lefts B j + n - 1 ≤ j := by
  have he := h.ends
  have hi := h.hi
  have hj := h.hj
  exact ⟨h.fa _ (by omega) (by omega), h.hA.post.le _ (by omega), h.fb _ (by omega) (by omega), h.hB.post.le _ (by omega), by omega, by omega⟩
/-- The two parts where they are not one tree each. -/
theorem BOk.sub (h : BOk A B i j m n) (hm : 0 < m) (hn : 0 < n) : BOk A B (lefts A i + m - 1) (lefts B j + n - 1) (m - (lefts A (lefts A i + m - 1) - lefts A i)) (n - (lefts B (lefts B j + n - 1) - lefts B j)) := by
  have hl := h.last hm hn
  have hi := h.hi
  have hj := h.hj
  exact ⟨h.hA, h.hB, by omega, by omega, by omega, by omega⟩
theorem D_eq {la lb : Nat → Nat} {c : Nat → Nat → Nat} {a b d e a' b' d' e' : Nat} (h1 : a = a') (h2 : b = b') (h3 : d = d') (h4 : e = e') : D la lb c a b d e = D la lb c a' b' d' e' := by rw [h1, h2, h3, h4]
theorem bestL_one (h : BOk A B i j m n) (hm : 0 < m) (hn : 0 < n) (ht : togT A B i j m n = DV A B i j m n) (h1 : lefts A (lefts A i + m - 1) = lefts A i ∧ lefts B (lefts B j + n - 1) = lefts B j) :
    bestL A B i j m n = bestL A B i j (m - 1) (n - 1) ++ [(lefts A i + m - 1, lefts B j + n - 1)] := by
  have ho := h.less (a := m - 1) (b := n - 1) (by omega) (by omega)
  unfold togT at ht
  rw [if_pos h1] at ht
  unfold DV at ht
  unfold bestL
  rw [bestF, if_neg (by omega), if_neg (by omega), if_pos ⟨h1.1, h1.2, by rw [← ht]; congr 1; exact D_eq rfl (by omega) rfl (by omega)⟩, bestL_fuel' ho (by omega) (by omega) (by omega)]
  rfl
theorem bestL_two (h : BOk A B i j m n) (hm : 0 < m) (hn : 0 < n) (ht : togT A B i j m n = DV A B i j m n) (h1 : ¬ (lefts A (lefts A i + m - 1) = lefts A i ∧ lefts B (lefts B j + n - 1) = lefts B j)) :
    bestL A B i j m n = bestL A B i j (lefts A (lefts A i + m - 1) - lefts A i) (lefts B (lefts B j + n - 1) - lefts B j) ++ bestL A B (lefts A i + m - 1) (lefts B j + n - 1) (m - (lefts A (lefts A i + m - 1) - lefts A i)) (n - (lefts B (lefts B j + n - 1) - lefts B j)) := by
  have hl := h.last hm hn
  have ho := h.less (a := lefts A (lefts A i + m - 1) - lefts A i) (b := lefts B (lefts B j + n - 1) - lefts B j) (by omega) (by omega)
  have hs := h.sub hm hn
  unfold togT at ht
  rw [if_neg h1] at ht
  unfold DV TD at ht
  have e1 : bestL A B i j m n = bestF (lefts A) (lefts B) (other A B) (m + n) (lefts A i) (lefts A (lefts A i + m - 1)) (lefts B j) (lefts B (lefts B j + n - 1)) ++ bestF (lefts A) (lefts B) (other A B) (m + n) (lefts A (lefts A i + m - 1)) (lefts A i + m) (lefts B (lefts B j + n - 1)) (lefts B j + n) := by
    unfold bestL
    rw [bestF, if_neg (by omega), if_neg (by omega), if_neg (fun e => h1 ⟨e.1, e.2.1⟩), if_pos ⟨h1, by rw [← ht]; congr 1 <;> exact D_eq (by omega) (by omega) (by omega) (by omega)⟩]
  rw [e1, bestL_fuel' ho (by omega) (by omega) (by omega), bestL_fuel' hs (by omega) (by omega) (by omega)]
theorem bestL_left (h : BOk A B i j m n) (hm : 0 < m) (hn : 0 < n) (ht : togT A B i j m n ≠ DV A B i j m n) (h1 : DV A B i j (m - 1) n + 1 = DV A B i j m n) : bestL A B i j m n = bestL A B i j (m - 1) n := by
  have ho := h.less (a := m - 1) (b := n) (by omega) (by omega)
  have hl := h.last hm hn
  unfold togT at ht
  unfold DV at ht h1
  have e1 : bestL A B i j m n = bestF (lefts A) (lefts B) (other A B) (m + n) (lefts A i) (lefts A i + m - 1) (lefts B j) (lefts B j + n) := by
    unfold bestL
    rw [bestF, if_neg (by omega), if_neg (by omega), if_neg, if_neg, if_pos (by rw [← h1]; congr 1; exact D_eq rfl (by omega) rfl rfl)]
    · rintro ⟨b1, b2⟩
      rw [if_neg b1] at ht
      refine ht ?_
      rw [← b2]
      unfold TD
      congr 1 <;> exact D_eq (by omega) (by omega) (by omega) (by omega)
    · rintro ⟨b1, b2, b3⟩
      rw [if_pos ⟨b1, b2⟩] at ht
      refine ht ?_
      rw [← b3]
      congr 1
      exact D_eq rfl (by omega) rfl (by omega)
  rw [e1, bestL_fuel' ho (by omega) (by omega) (by omega)]
theorem bestL_right (h : BOk A B i j m n) (hm : 0 < m) (hn : 0 < n) (ht : togT A B i j m n ≠ DV A B i j m n) (h1 : DV A B i j (m - 1) n + 1 ≠ DV A B i j m n) : bestL A B i j m n = bestL A B i j m (n - 1) := by
  have ho := h.less (a := m) (b := n - 1) (by omega) (by omega)
  have hl := h.last hm hn
  unfold togT at ht
  unfold DV at ht h1
  have e1 : bestL A B i j m n = bestF (lefts A) (lefts B) (other A B) (m + n) (lefts A i) (lefts A i + m) (lefts B j) (lefts B j + n - 1) := by
    unfold bestL
    rw [bestF, if_neg (by omega), if_neg (by omega), if_neg, if_neg, if_neg]
    · intro b
      refine h1 ?_
      rw [← b]
      congr 1
      exact D_eq rfl (by omega) rfl rfl
    · rintro ⟨b1, b2⟩
      rw [if_neg b1] at ht
      refine ht ?_
      rw [← b2]
      unfold TD
      congr 1 <;> exact D_eq (by omega) (by omega) (by omega) (by omega)
    · rintro ⟨b1, b2, b3⟩
      rw [if_pos ⟨b1, b2⟩] at ht
      refine ht ?_
      rw [← b3]
      congr 1
      exact D_eq rfl (by omega) rfl (by omega)
  rw [e1, bestL_fuel' ho (by omega) (by omega) (by omega)]
theorem bestL_len (h : BOk A B i j m n) : 2 * (bestL A B i j m n).length ≤ m + n + (bestL A B i j m n).length ∧ DV A B i j m n + 2 * (bestL A B i j m n).length = m + n + names (other A B) (bestL A B i j m n) := by
  have he := h.ends
  have hi := h.hi
  have hj := h.hj
  have hb := (best_ok (c := other A B) h.hA.post h.hB.post (m + n + 1) (lefts A i) (lefts A i + m) (lefts B j) (lefts B j + n) (by omega) (by omega) (by omega) h.fa h.fb).2.2
  have hn : ∀ l : List (Nat × Nat), names (other A B) l ≤ l.length := fun l => by
    induction l with
    | nil => simp [names]
    | cons p l ih =>
      have := other_le A B p.1 p.2
      simp only [names, List.length_cons]
      omega
  have := hn (bestL A B i j m n)
  unfold bestL DV at *
  omega
/-- Of one tree each some stay. -/
theorem bestL_some (h : BOk A B i j m n) (hm : lefts A i + m = i + 1) (hn : lefts B j + n = j + 1) : 0 < (bestL A B i j m n).length := by
  have h0 := (bestL_len h).2
  have hi := h.hi
  have hj := h.hj
  have e1 := h.hA.post.le i h.hi
  have e2 := h.hB.post.le j h.hj
  have hd := D_step (c := other A B) h.hA.post h.hB.post (by omega) (by omega) h.fa h.fb (by omega) (by omega)
  rw [show lefts A i + m - 1 = i by omega, show lefts B j + n - 1 = j by omega, D_left (Nat.le_refl _)] at hd
  have hb := (D_bounds h.hA.post h.hB.post (other_le A B) _ (lefts A i) i (lefts B j) j (Nat.lt_succ_self _) (by omega) (by omega) (h.fa.less (by omega)) (h.fb.less (by omega))).2.2
  have hc := other_le A B i j
  unfold DV at h0
  rcases Nat.eq_zero_or_pos (bestL A B i j m n).length with hz | hz
  · rw [List.eq_nil_of_length_eq_zero hz] at h0
    simp only [names, List.length_nil] at h0
    omega
  · exact hz
end
end Go.Proofs.Ytcknganggcbkjab.Dist
