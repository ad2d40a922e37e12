/- pleachinglaw.DistBounds answers true. Of the program's text. -/
import Derived.Test.YtpjlajjbioploabProg
import Derived.Test.YtpjlajjbioploabDBegun
import Derived.Test.YtpjlajjbioploabDBoundsP
import Derived.Test.YtpjlajjbioploabRCheckD
import Derived.Laws.Small
namespace Go.Proofs.Ytpjlajjbioploab.Dist
open Go.Deep Go.RowKit
set_option linter.unusedVariables false
set_option maxRecDepth 20000

theorem cellB {w w' : World} (h : Below w.heap.size w w') {b o : Nat} {v : Value} (hc : w.cell? ⟨b, o, none⟩ = some v) : w'.cell? ⟨b, o, none⟩ = some v := by
  rw [h.cell (World.block_lt_of_cell? _ _ hc)]
  exact hc

set_option maxHeartbeats 4000000 in
theorem dbounds_any (s1 s2 : ByteArray) (ka1 ka2 : Option Addr) (cap1 cap2 : Nat) (k1 k2 : Fo) (w : World) (ht1 : TIn w s1 ka1 cap1 k1) (hc1 : FCold w k1) (ht2 : TIn w s2 ka2 cap2 k2) (hc2 : FCold w k2) :
    Calls Try.prog 3 #[.agg #[.string s1, .slice ka1 (flen k1) cap1], .agg #[.string s2, .slice ka2 (flen k2) cap2]] w fun e w' => e = .returned (.bool true) ∧ Below w.heap.size w w' := by
  have hbx : Below w.heap.size w ((w.alloc (Obj.cells #[Value.string s1, Value.slice ka1 (flen k1) cap1] 24)).alloc (Obj.cells #[Value.string s2, Value.slice ka2 (flen k2) cap2] 24)) := ((Below.refl _ _).alloc (Nat.le_refl _) _).alloc (by simp) _
  have HG1 := hide (fun W (hW : Below w.heap.size w W) => great_any s1 ka1 cap1 k1 W (ht1.below hW))
  have HG2 := hide (fun W (hW : Below w.heap.size w W) => great_any s2 ka2 cap2 k2 W (ht2.below hW))
  have HOF := hide (fun W (hW : Below w.heap.size w W) => distof_of (MayTell s1 k1) (MayTell s2 k2) s1 s2 ka1 ka2 cap1 cap2 k1 k2 W MayTell.good MayTell.good
    (fun W1 hW1 => of_wild s1 ka1 cap1 k1 W1 ((ht1.below hW).below hW1) ((hc1.below hW).below hW1)) (fun W1 hW1 => of_wild s2 ka2 cap2 k2 W1 ((ht2.below hW).below hW1) ((hc2.below hW).below hW1)))
  clear ht1 hc1 ht2 hc2
  go_enter Try.func3, Try.ntmps3
  go_wp2_with fail
  refine (dbegun_any _).mono ?_
  rintro e w1 ⟨rfl, hb1⟩
  have hB1 := hbx.trans (hb1.mono (by simp <;> omega))
  have e0 : w1.cell? ⟨w.heap.size, 0, none⟩ = some (.string s1) := by rw [hb1.cell (by simp <;> omega)]; go_simp
  have e1 : w1.cell? ⟨w.heap.size, 1, none⟩ = some (.slice ka1 (flen k1) cap1) := by rw [hb1.cell (by simp <;> omega)]; go_simp
  have e2 : w1.cell? ⟨w.heap.size + 1, 0, none⟩ = some (.string s2) := by rw [hb1.cell (by simp)]; go_simp
  have e3 : w1.cell? ⟨w.heap.size + 1, 1, none⟩ = some (.slice ka2 (flen k2) cap2) := by rw [hb1.cell (by simp)]; go_simp
  have HQ1 := hide (HG1.out w1 hB1)
  clear hbx hb1 HG1
  go_wp2_with fail
  refine Calls.mono HQ1.out ?_
  rintro e w2 ⟨rfl, hb2⟩
  have hB2 := hB1.trans (hb2.mono hB1.size)
  replace e0 := cellB hb2 e0
  replace e1 := cellB hb2 e1
  replace e2 := cellB hb2 e2
  replace e3 := cellB hb2 e3
  have HQ2 := hide (HG2.out w2 hB2)
  clear hb2 hB1 HQ1 HG2
  cases hg1 : greatT s1 k1 with
  | true =>
    go_wp2_with fail
    go_ret
    exact ⟨rfl, hB2⟩
  | false =>
    clear hg1
    go_wp2_with fail
    refine Calls.mono HQ2.out ?_
    rintro e w3 ⟨rfl, hb3⟩
    have hB3 := hB2.trans (hb3.mono hB2.size)
    replace e0 := cellB hb3 e0
    replace e1 := cellB hb3 e1
    replace e2 := cellB hb3 e2
    replace e3 := cellB hb3 e3
    have HQ3 := hide (HOF.out w3 hB3)
    clear hb3 hB2 HQ2 HOF
    cases hg2 : greatT s2 k2 with
    | true =>
      go_wp2_with fail
      go_ret
      exact ⟨rfl, hB3⟩
    | false =>
      clear hg2
      go_wp2_with fail
      refine Calls.mono HQ3.out ?_
      rintro e w4 ⟨hoe, hb4⟩
      have hB4 := hB3.trans (hb4.mono hB3.size)
      clear hb4 hB3 HQ3 e0 e1 e2 e3
      rcases hoe with ⟨c, hc, hc0, rfl⟩ | ⟨_, _, T, hTA, hTB, rfl, htab⟩
      · have hcb : (c == 0) = false := beq_eq_false_iff_ne.2 hc0
        go_wp2_with fail
        go_ret
        exact ⟨rfl, hB4⟩
      · have hBK := bnOk s1 s2 k1 k2
        rw [← hTA, ← hTB] at hBK htab
        have HBK := hide hBK
        have HTB := hide htab
        have hA4 := htab.okA.many
        have hB40 := htab.okB.many
        have hA0 := htab.okA.pos
        have hB0 := htab.okB.pos
        have HOA := hide htab.okA
        have HOB := hide htab.okB
        have HN := hide (nodes_any T _ w4 htab)
        clear hBK htab hTA hTB
        go_wp2_with fail
        refine Calls.mono HN.out ?_
        rintro e w5 ⟨g1, c1, g2, c2, rfl, hc1, hm1, hc2, hm2, hn1, hn2, hb5⟩
        have hB5 := hB4.trans (hb5.mono hB4.size)
        have HCO := hide (cost_any T w5 (HTB.out.below hb5))
        have hl1 : g1 < w5.heap.size := by
          obtain ⟨x, hx⟩ : ∃ x, T.A[0]? = some x := ⟨_, List.getElem?_eq_getElem hA0⟩
          exact World.block_lt_of_cell? _ _ (hn1 0 x hx).1
        have hl2 : g2 < w5.heap.size := by
          obtain ⟨x, hx⟩ : ∃ x, T.B[0]? = some x := ⟨_, List.getElem?_eq_getElem hB0⟩
          exact World.block_lt_of_cell? _ _ (hn2 0 x hx).1
        have HN1 := hide hn1
        have HN2 := hide hn2
        unfold maxLen at hm1 hm2
        clear hb5 hn1 hn2 HTB HN hB4
        go_wp2_with fail
        refine Calls.mono HCO.out ?_
        rintro e w6 ⟨rfl, hb6⟩
        have HB6 := hide (hB5.trans (hb6.mono hB5.size))
        obtain ⟨cc, hcc⟩ : ∃ cc, cc = costP T.A T.B := ⟨_, rfl⟩
        rw [← hcc] at HBK ⊢
        have hk1 := HBK.out.lo1
        have hk2 := HBK.out.lo2
        have hk3 := HBK.out.hi
        have HI0 := hide (show BnInv w6 T.A T.B g1 g2 w6 from ⟨Below.refl _ _, HN1.out.of_block (hb6.block _ hl1), HN2.out.of_block (hb6.block _ hl2), Nat.lt_of_lt_of_le hl1 hb6.size, Nat.lt_of_lt_of_le hl2 hb6.size⟩)
        clear hb6 hB5 HCO HN1 HN2 hcc
        go_wp2_with fail
        go_loopg [10, 11] T.A.length (fun gk v10 v11 wr => ∃ i : Nat, gk = T.A.length - i ∧ i ≤ T.A.length ∧ v11 = .int .i64 (i : Nat) ∧ v10 = .int .i64 (mr T.A T.B i : Int) ∧ BnInv w6 T.A T.B g1 g2 wr)
        case atStart => exact ⟨0, rfl, Nat.zero_le _, rfl, rfl, HI0.out⟩
        case round =>
          clear HI0
          obtain ⟨i, hgk, hi, rfl, rfl, hI⟩ := hrel
          obtain ⟨wA, hwA⟩ : ∃ wA, wA = wr := ⟨_, rfl⟩
          subst hwA
          have hml := mr_le T.A T.B i
          by_cases hin : i < T.A.length
          · have HMR := hide (mr_succ T.A T.B i)
            obtain ⟨mm, hmm⟩ : ∃ mm, mm = mr T.A T.B i := ⟨_, rfl⟩
            rw [← hmm] at hml HMR ⊢
            have HI := hide hI
            clear hI hmm
            go_wp2_with fail
            go_loopg [12, 13] T.A.length (fun gk v12 v13 wr => ∃ j : Nat, gk = T.A.length - j ∧ j ≤ T.A.length ∧ v13 = .int .i64 (j : Nat) ∧ v12 = .int .i64 (ofm T.A i j : Int) ∧ BnInv w6 T.A T.B g1 g2 wr)
            case atStart => exact ⟨0, rfl, Nat.zero_le _, rfl, by rw [ofm_zero]; rfl, HI.out⟩
            case round =>
              clear HI
              obtain ⟨j, hgk2, hj, rfl, rfl, hI2⟩ := hrel
              obtain ⟨wB, hwB⟩ : ∃ wB, wB = wr := ⟨_, rfl⟩
              subst hwB
              have hol := ofm_le T.A i j
              by_cases hjn : j < T.A.length
              · have x0 := hI2.na.lab HOA.out hjn
                have x1 := hI2.na.lab HOA.out hin
                by_cases hlab : labs T.A j = labs T.A i
                · have hb := lab_same hlab
                  by_cases hji : j ≤ i
                  · have hd : decide (j ≤ i) = true := decide_eq_true hji
                    have HO := hide (ofm_in hlab hji)
                    have HI2 := hide hI2
                    obtain ⟨oo, hoo⟩ : ∃ oo, oo = ofm T.A i j := ⟨_, rfl⟩
                    rw [← hoo] at hol HO ⊢
                    clear hI2 hlab hoo
                    go_wp2_with fail
                    go_quiet (fail)
                    go_wp2_with fail
                    go_roundg (T.A.length - (j + 1))
                    case measure => omega
                    case rel => exact ⟨j + 1, rfl, by omega, by go_num, by rw [HO.out]; go_num, HI2.out.on (below_drewN (Below.refl _ _) _)⟩
                  · have hd : decide (j ≤ i) = false := decide_eq_false hji
                    have HO := hide (ofm_past (A := T.A) hji)
                    have HI2 := hide hI2
                    obtain ⟨oo, hoo⟩ : ∃ oo, oo = ofm T.A i j := ⟨_, rfl⟩
                    rw [← hoo] at hol HO ⊢
                    clear hI2 hlab hoo
                    go_wp2_with fail
                    go_quiet (fail)
                    go_wp2_with fail
                    go_roundg (T.A.length - (j + 1))
                    case measure => omega
                    case rel => exact ⟨j + 1, rfl, by omega, by go_num, by rw [HO.out], HI2.out.on (below_drewN (Below.refl _ _) _)⟩
                · have hb := lab_other hlab
                  have HO := hide (ofm_other hlab)
                  have HI2 := hide hI2
                  obtain ⟨oo, hoo⟩ : ∃ oo, oo = ofm T.A i j := ⟨_, rfl⟩
                  rw [← hoo] at hol HO ⊢
                  clear hI2 hlab hoo
                  go_wp2_with fail
                  go_quiet (fail)
                  go_wp2_with fail
                  go_roundg (T.A.length - (j + 1))
                  case measure => omega
                  case rel => exact ⟨j + 1, rfl, by omega, by go_num, by rw [HO.out], HI2.out.on (below_drewN (Below.refl _ _) _)⟩
              · have hje : j = T.A.length := by omega
                subst hje
                have HO := hide (ofm_end (A := T.A) (i := i) hin)
                obtain ⟨oo, hoo⟩ : ∃ oo, oo = ofm T.A i T.A.length := ⟨_, rfl⟩
                rw [← hoo] at hol HO ⊢
                have HI2 := hide hI2
                clear hI2 hoo
                go_wp2_with fail
                go_loopg [12, 14] T.B.length (fun gk v12 v14 wr => ∃ j : Nat, gk = T.B.length - j ∧ j ≤ T.B.length ∧ v14 = .int .i64 (j : Nat) ∧ v12 = .int .i64 ((oo : Int) - (oft (labs T.B) (labs T.A i) j : Int)) ∧ BnInv w6 T.A T.B g1 g2 wr)
                case atStart => exact ⟨0, rfl, Nat.zero_le _, rfl, by simp [oft, cnt], HI2.out⟩
                case round =>
                  clear HI2
                  obtain ⟨j, hgk3, hj3, rfl, rfl, hI3⟩ := hrel
                  have hbl := oft_le (labs T.B) (labs T.A i) j
                  by_cases hjn : j < T.B.length
                  · have x0 := hI3.nb.lab HOB.out hjn
                    have x1 := hI3.na.lab HOA.out hin
                    have HS := hide (oft_succ (labs T.B) (labs T.A i) j)
                    obtain ⟨ob, hob⟩ : ∃ ob, ob = oft (labs T.B) (labs T.A i) j := ⟨_, rfl⟩
                    rw [← hob] at hbl HS ⊢
                    have HI3 := hide hI3
                    clear hI3 hob
                    by_cases hlab : labs T.B j = labs T.A i
                    · have hb := lab_same hlab
                      have HO2 := hide (HS.out.trans (by rw [if_pos hlab]))
                      clear hlab HS
                      go_wp2_with fail
                      go_quiet (fail)
                      go_wp2_with fail
                      go_roundg (T.B.length - (j + 1))
                      case measure => omega
                      case rel => exact ⟨j + 1, rfl, by omega, by go_num, by rw [HO2.out]; congr 1; omega, HI3.out.on (below_drewN (Below.refl _ _) _)⟩
                    · have hb := lab_other hlab
                      have HO2 := hide (HS.out.trans (by rw [if_neg hlab, Nat.add_zero]))
                      clear hlab HS
                      go_wp2_with fail
                      go_quiet (fail)
                      go_wp2_with fail
                      go_roundg (T.B.length - (j + 1))
                      case measure => omega
                      case rel => exact ⟨j + 1, rfl, by omega, by go_num, by rw [HO2.out], HI3.out.on (below_drewN (Below.refl _ _) _)⟩
                  · have hje : j = T.B.length := by omega
                    subst hje
                    obtain ⟨ob, hob⟩ : ∃ ob, ob = oft (labs T.B) (labs T.A i) T.B.length := ⟨_, rfl⟩
                    rw [← hob, ← HO.out] at HMR
                    rw [← hob] at hbl ⊢
                    have HI3 := hide hI3
                    clear hI3 hob
                    by_cases hgt : ob < oo
                    · have HM2 := hide (HMR.out.trans (by rw [if_pos hgt]))
                      go_wp2_with fail
                      go_roundg (T.A.length - (i + 1))
                      case measure => omega
                      case rel => exact ⟨i + 1, rfl, by omega, by go_num, by rw [HM2.out]; go_num, HI3.out⟩
                    · have HM2 := hide (HMR.out.trans (by rw [if_neg hgt, Nat.add_zero]))
                      go_wp2_with fail
                      go_roundg (T.A.length - (i + 1))
                      case measure => omega
                      case rel => exact ⟨i + 1, rfl, by omega, by go_num, by rw [HM2.out], HI3.out⟩
          · have hie : i = T.A.length := by omega
            subst hie
            have hmo := HBK.out.more
            obtain ⟨mm, hmm⟩ : ∃ mm, mm = mr T.A T.B T.A.length := ⟨_, rfl⟩
            rw [← hmm] at hml hmo ⊢
            have HI := hide hI
            clear hI hmm
            have d1 : decide ((T.A.length : Int) - (T.B.length : Int) ≤ (cc : Int)) = true := decide_eq_true (by omega)
            have d2 : decide ((T.B.length : Int) - (T.A.length : Int) ≤ (cc : Int)) = true := decide_eq_true (by omega)
            have d3 : decide (mm ≤ cc) = true := decide_eq_true hmo
            have d3' : decide ((mm : Int) ≤ (cc : Int)) = true := decide_eq_true (by omega)
            have d4 : decide ((cc : Int) ≤ max (T.A.length : Int) (T.B.length : Int) + min (T.A.length : Int) (T.B.length : Int)) = true := decide_eq_true (by omega)
            go_wp2_with fail
            go_ret
            exact ⟨rfl, HB6.out.trans (HI.out.below.mono HB6.out.size)⟩
end Go.Proofs.Ytpjlajjbioploab.Dist
