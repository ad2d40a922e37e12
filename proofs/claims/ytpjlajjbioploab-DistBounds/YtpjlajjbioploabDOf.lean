/- Of of package dist makes a table of two trees, or tells a code. Of the program's text. -/
import Derived.Test.YtpjlajjbioploabProg
import Derived.Test.YtpjlajjbioploabDFill
import Derived.Test.YtpjlajjbioploabOf
import Derived.Test.YtpjlajjbioploabNdLabs
namespace Go.Proofs.Ytpjlajjbioploab.Dist
open Go.Deep Go.RowKit
set_option linter.unusedVariables false
set_option maxRecDepth 20000

theorem NAt_of_owns {w : World} {B T g n vc : Nat} {L : List Nd} (h : w.ownsRow B T 3 (.slice (some ⟨g, 0, none⟩) n vc) n (ndCells L)) : NAt w g 0 L := fun i x hx => by
  obtain ⟨c0, c1, c2⟩ := ndCells_at L i x hx
  exact ⟨ownsRow_cell h _ _ c0, by have := ownsRow_cell h _ _ c1; rwa [← Nat.add_assoc] at this, by have := ownsRow_cell h _ _ c2; rwa [← Nat.add_assoc] at this⟩

/-- What Of comes to, where Check may tell the codes of P1 and of P2. -/
def DOfEnd (P1 P2 : Int → Prop) (A B : List Nd) (e : Ending) (w' : World) : Prop :=
  (∃ c, (P1 c ∨ (P1 0 ∧ P2 c)) ∧ c ≠ 0 ∧ e = .returned (.tuple #[.pointer none, .int .i64 c])) ∨
  (P1 0 ∧ P2 0 ∧ ∃ T : Tab, T.A = A ∧ T.B = B ∧ e = .returned (.tuple #[.pointer (some ⟨T.t, 0, none⟩), .int .i64 0]) ∧ TabIn w' T (TD A B))

set_option maxHeartbeats 800000 in
theorem distof_of (P1 P2 : Int → Prop) (s1 s2 : ByteArray) (ka1 ka2 : Option Addr) (cap1 cap2 : Nat) (k1 k2 : Fo) (w : World) (hP1 : P1 0 → faultT s1 k1 = 0) (hP2 : P2 0 → faultT s2 k2 = 0)
    (ho1 : ∀ W, Below w.heap.size w W → Calls Try.prog 16 #[.agg #[.string s1, .slice ka1 (flen k1) cap1]] W fun e w' => OfEnd P1 s1 k1 W.heap.size e w' ∧ Below W.heap.size W w')
    (ho2 : ∀ W, Below w.heap.size w W → Calls Try.prog 16 #[.agg #[.string s2, .slice ka2 (flen k2) cap2]] W fun e w' => OfEnd P2 s2 k2 W.heap.size e w' ∧ Below W.heap.size W w') :
    Calls Try.prog 7 #[.agg #[.string s1, .slice ka1 (flen k1) cap1], .agg #[.string s2, .slice ka2 (flen k2) cap2]] w fun e w' => DOfEnd P1 P2 (ndT 0 s1 k1 (-1)) (ndT 0 s2 k2 (-1)) e w' ∧ Below w.heap.size w w' := by
  have hbx : Below w.heap.size w ((w.alloc (Obj.cells #[Value.string s1, Value.slice ka1 (flen k1) cap1] 24)).alloc (Obj.cells #[Value.string s2, Value.slice ka2 (flen k2) cap2] 24)) := ((Below.refl _ _).alloc (Nat.le_refl _) _).alloc (by simp) _
  have HO1 := hide ho1
  have HO2 := hide ho2
  have HP1 := hide hP1
  have HP2 := hide hP2
  clear ho1 ho2 hP1 hP2
  go_enter Try.func7, Try.ntmps7
  go_wp2_with fail
  refine Calls.mono (HO1.out _ hbx) ?_
  rintro e w1 ⟨hoe, hb1⟩
  have hB1 := hbx.trans (hb1.mono (by simp; omega))
  have e0 : w1.cell? ⟨w.heap.size + 1, 0, none⟩ = some (.string s2) := by rw [hb1.cell (by simp)]; go_simp
  have e1 : w1.cell? ⟨w.heap.size + 1, 1, none⟩ = some (.slice ka2 (flen k2) cap2) := by rw [hb1.cell (by simp)]; go_simp
  clear hb1 hbx HO1
  rcases hoe with ⟨c, hpc, hc0, rfl⟩ | ⟨hp0, v, rfl, hrow⟩
  · have hcb : (c == 0) = false := beq_eq_false_iff_ne.2 hc0
    go_wp2_with fail
    exact bodyPost_ret (v := .tuple #[.pointer none, .int .i64 c]) (by simp [results, Try.results7, go_sem]) rfl ⟨Or.inl ⟨c, Or.inl hpc, hc0, rfl⟩, hB1⟩
  · obtain ⟨n1, hn1e⟩ : ∃ n1, n1 = fnodes k1 + 1 := ⟨_, rfl⟩
    rw [← hn1e] at hrow
    obtain ⟨g1, c1, hv1, hg1, hg1l, hc1, hc1m⟩ := ownsN_some hrow (by omega)
    have HN1E := hide hn1e
    clear hn1e
    subst hv1
    have HR1 := hide hrow
    have HQ2 := hide (HO2.out _ hB1)
    clear hrow HO2
    go_wp2_with fail
    refine Calls.mono HQ2.out ?_
    rintro e w2 ⟨hoe, hb2⟩
    have hB2 := hB1.trans (hb2.mono hB1.size)
    clear HQ2
    rcases hoe with ⟨c, hpc, hcn, rfl⟩ | ⟨hp0', v, rfl, hrow2⟩
    · have hcb : (c == 0) = false := beq_eq_false_iff_ne.2 hcn
      go_wp2_with fail
      exact bodyPost_ret (v := .tuple #[.pointer none, .int .i64 c]) (by simp [results, Try.results7, go_sem]) rfl ⟨Or.inl ⟨c, Or.inr ⟨hp0, hpc⟩, hcn, rfl⟩, hB2⟩
    · obtain ⟨n2, hn2e⟩ : ∃ n2, n2 = fnodes k2 + 1 := ⟨_, rfl⟩
      rw [← hn2e] at hrow2
      obtain ⟨g2, c2, hv2, hg2, hg2l, hc2, hc2m⟩ := ownsN_some hrow2 (by omega)
      subst hv2
      have hR1 := ownsN_below HR1.out hb2
      obtain ⟨hn1, _, hbad1⟩ := fault_zero (HP1.out hp0)
      obtain ⟨hn2, _, hbad2⟩ := fault_zero (HP2.out hp0')
      have hs2 := hb2.size
      have HN1 := hide (NAt_of_owns hR1)
      have HN2 := hide (NAt_of_owns hrow2)
      have HA := hide (nok_ndT s1 k1 (by omega) (ndT_labs hbad1))
      have HB := hide (nok_ndT s2 k2 (by omega) (ndT_labs hbad2))
      have HG := hide (grid_any n1 n2 w2 (by have := HN1E.out; omega) (by omega))
      have hB2s := hB2.size
      clear hrow2 hR1 HR1 hbad1 hbad2 hb2 HP1 HP2 e0 e1 hB1
      have E1 := hide (show (ndT 0 s1 k1 (-1)).length = n1 by rw [ndT_length, HN1E.out])
      have E2 := hide (show (ndT 0 s2 k2 (-1)).length = n2 by rw [ndT_length, hn2e])
      have hn40 : n1 ≤ 40 := by have := HN1E.out; omega
      have hn41 : n2 ≤ 40 := by omega
      clear hn2e hn1 hn2
      go_wp2_with fail
      refine Calls.mono HG.out ?_
      rintro e w3 ⟨rfl, hgr, hb3, hz3⟩
      obtain ⟨W, hW⟩ : ∃ W, W = w3.alloc (Obj.cells #[.slice (some ⟨g1, 0, none⟩) n1 c1, .slice (some ⟨g2, 0, none⟩) n2 c2, .slice (some ⟨w2.heap.size, 0, none⟩) n1 n1] 49) := ⟨_, rfl⟩
      have hb4 : Below w3.heap.size w3 W := by rw [hW]; exact (Below.refl _ _).alloc (Nat.le_refl _) _
      have hnew : W.heap[w3.heap.size]? = some (Obj.cells #[.slice (some ⟨g1, 0, none⟩) n1 c1, .slice (some ⟨g2, 0, none⟩) n2 c2, .slice (some ⟨w2.heap.size, 0, none⟩) n1 n1] 49) := by rw [hW]; exact heap_alloc_new _ _
      have hT : TabIn W ⟨ndT 0 s1 k1 (-1), ndT 0 s2 k2 (-1), g1, 0, c1, g2, 0, c2, w3.heap.size, w2.heap.size⟩ (fun _ _ => 0) := by
        refine ⟨HA.out, HB.out, ⟨by simp only; rw [E1.out]; exact hc1, hc1m⟩, ⟨by simp only; rw [E2.out]; exact hc2, hc2m⟩, ?_, ?_, ?_, ?_, ?_, ?_, ?_, ?_, ?_, ?_⟩
        · simp only
          rw [E1.out, cell_of_row _ _ 0 _ _ _ hnew]; rfl
        · simp only
          rw [E2.out, cell_of_row _ _ 1 _ _ _ hnew]; rfl
        · simp only
          rw [E1.out, cell_of_row _ _ 2 _ _ _ hnew]; rfl
        · exact HN1.out.of_block (by rw [hb4.block _ (by omega), hb3.block _ (by omega)])
        · exact HN2.out.of_block (by rw [hb4.block _ (by omega), hb3.block _ (by omega)])
        · simp only
          rw [E1.out, E2.out]
          exact hgr.below hb4
        · show g1 < w2.heap.size
          omega
        · exact hg2l
        · simp only
          rw [E1.out]
          omega
        · show w3.heap.size < W.heap.size
          rw [hW]
          simp
      have hBW := hB2.trans ((hb3.trans (hb4.mono hb3.size)).mono hB2s)
      have HF : Hid (Calls Try.prog 18 #[.pointer (some ⟨w3.heap.size, 0, none⟩)] W fun e w' => e = .returned (.tuple #[]) ∧ TabIn w' ⟨ndT 0 s1 k1 (-1), ndT 0 s2 k2 (-1), g1, 0, c1, g2, 0, c2, w3.heap.size, w2.heap.size⟩ (TD (ndT 0 s1 k1 (-1)) (ndT 0 s2 k2 (-1))) ∧ KeptT ⟨ndT 0 s1 k1 (-1), ndT 0 s2 k2 (-1), g1, 0, c1, g2, 0, c2, w3.heap.size, w2.heap.size⟩ W w') := hide (fill_any _ W hT)
      have HBW := hide hBW
      have HLT := hide (show w.heap.size ≤ w2.heap.size from hB2s)
      clear hz3 hT hgr hb3 hb4 hnew hBW HG HN1 HN2
      go_wp2_with fail
      rw [← hW]
      clear hW
      refine Calls.mono HF.out ?_
      rintro e w5 ⟨rfl, htab, hkp⟩
      have HE := hide htab
      have HK := hide (HBW.out.trans (hkp.below (Nat.le_trans HLT.out (Nat.le_succ _)) HBW.out.size))
      clear HF htab hkp
      go_wp2_with fail
      exact bodyPost_ret (v := .tuple #[.pointer (some ⟨w3.heap.size, 0, none⟩), .int .i64 0]) (by simp [results, Try.results7, go_sem]) rfl ⟨Or.inr ⟨hp0, hp0', _, rfl, rfl, rfl, HE.out⟩, HK.out⟩
end Go.Proofs.Ytpjlajjbioploab.Dist
