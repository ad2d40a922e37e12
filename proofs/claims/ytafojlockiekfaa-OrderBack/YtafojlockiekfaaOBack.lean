/- pleachinglaw.OrderBack answers true. Of the program's text. -/
import Derived.Test.YtafojlockiekfaaProg
import Derived.Test.YtafojlockiekfaaGPath
import Derived.Test.YtafojlockiekfaaGGrow
import Derived.Test.YtafojlockiekfaaTBack
namespace Go.Proofs.Ytafojlockiekfaa
open Go.Deep Go.RowKit
set_option linter.unusedVariables false
set_option maxRecDepth 20000

/-- Of a tree in memory of whatever marks. -/
theorem of_raw (s : ByteArray) (ka : Option Addr) (cap : Nat) (k : Fo) (w : World) (ht : TIn w s ka cap k) (hp : FCold w k) (hn : 1 + fnodes k ≤ 5000) (hh : fhigh k ≤ 199) :
    Calls Try.prog 34 #[.agg #[.string s, .slice ka (flen k) cap]] w fun e w' => OfEnd (MayTell s k) s k w.heap.size e w' ∧ Below w.heap.size w w' :=
  of_of (MayTell s k) s ka cap k w ht MayTell.good fun W hW => check_raw s ka cap k W (ht.below hW) (hp.below hW) hn hh

set_option maxHeartbeats 4000000 in
theorem oback_any (s : ByteArray) (ka : Option Addr) (cap : Nat) (k : Fo) (ra : Option Addr) (rc : Nat) (R : List Nd) (w : World) (ht : TIn w s ka cap k) (hco : FCold w k) (hR : NIn w ra R) (hrl : R.length ≤ rc) (hrm : rc ≤ maxLen) :
    Calls Try.prog 9 #[.agg #[.string s, .slice ka (flen k) cap], .slice ra R.length rc] w fun e w' => e = .returned (.bool true) ∧ Below w.heap.size w w' := by
  have hrm' := hrm
  unfold maxLen at hrm
  have hbx : Below w.heap.size w (w.alloc (Obj.cells #[Value.string s, Value.slice ka (flen k) cap] 24)) := (Below.refl _ _).alloc (Nat.le_refl _) _
  go_enter Try.func9, Try.ntmps9
  go_wp2_with fail
  refine (obegun_any _).mono ?_
  rintro e w1 ⟨rfl, hb1⟩
  have hB1 := hbx.trans (hb1.mono (by simp))
  have e0 : w1.cell? ⟨w.heap.size, 0, none⟩ = some (.string s) := by rw [hb1.cell (by simp)]; go_simp
  have e1 : w1.cell? ⟨w.heap.size, 1, none⟩ = some (.slice ka (flen k) cap) := by rw [hb1.cell (by simp)]; go_simp
  have HG := hide (great_any s ka cap k w1 (ht.below hB1))
  clear hb1 hbx
  cases hg : greatT s k with
  | true =>
    rw [hg] at HG
    go_wp2_with fail
    refine Calls.mono HG.out ?_
    rintro e w2 ⟨rfl, hb2⟩
    go_wp2_with fail
    go_ret
    exact ⟨rfl, hB1.trans (hb2.mono hB1.size)⟩
  | false =>
    rw [hg] at HG
    have hsm := greatT_small hg
    go_wp2_with fail
    refine Calls.mono HG.out ?_
    rintro e w2 ⟨rfl, hb2⟩
    have hB2 := hB1.trans (hb2.mono hB1.size)
    by_cases h100 : 100 < R.length
    · go_wp2_with fail
      go_ret
      exact ⟨rfl, hB2⟩
    have d0 := cellOf hb2 e0
    have d1 := cellOf hb2 e1
    have HP := hide (of_raw s ka cap k w2 (ht.below hB2) (hco.below hB2) (by omega) (by have := fhigh_le_nodes k; omega))
    clear HG hb2 e0 e1 hB1
    go_wp2_with fail
    refine Calls.mono HP.out ?_
    rintro e w3 ⟨hpe, hb3⟩
    have hB3 := hB2.trans (hb3.mono hB2.size)
    have e0 := cellOf hb3 d0
    have e1 := cellOf hb3 d1
    clear HP hb3 d0 d1 hB2
    rcases hpe with ⟨c, hc, hc0, rfl⟩ | ⟨hc, v, rfl, hrow⟩
    · have hfb : (c == 0) = false := beq_eq_false_iff_ne.2 hc0
      have HTR := hide (otree_any ra rc R w3 (hR.below hB3) (by omega) hrl hrm')
      go_wp2_with fail
      refine Calls.mono HTR.out ?_
      rintro e w8 ⟨hte, hb8⟩
      have hB8 := hB3.trans (hb8.mono hB3.size)
      clear HTR hB3 hb8
      rcases hte with ⟨c1, hc1, hno, rfl⟩ | ⟨x1, ka1, cap1, k1, hok, rfl, ht1, hpl1⟩
      · have hcb : (c1 == 0) = false := beq_eq_false_iff_ne.2 hc1
        have hbp : Below w8.heap.size w8 (w8.alloc (Obj.cells #[Value.string ⟨#[]⟩, Value.slice none 0 0] 24)) := (Below.refl _ _).alloc (Nat.le_refl _) _
        have KA := hide sameNil
        clear hno hc1
        go_wp2_with fail
        refine Calls.mono (KA.out _) ?_
        rintro e w9 ⟨rfl, hb9⟩
        go_wp2_with fail
        go_ret
        exact ⟨rfl, hB8.trans ((hbp.trans (hb9.mono hbp.size)).mono hB8.size)⟩
      · have hf1 : faultT x1 k1 = 0 := by rw [← faultT_strip]; exact hok.2.1
        have hnd : ndT 0 x1 k1 (-1) = R := by rw [← ndT_strip]; exact hok.2.2
        have hn1 := (fault_zero hf1).1
        have hbad := (fault_zero hf1).2.2
        have hbp : Below w8.heap.size w8 (w8.alloc (Obj.cells #[Value.string x1, Value.slice ka1 (flen k1) cap1] 24)) := (Below.refl _ _).alloc (Nat.le_refl _) _
        have hof := of_of (fun c => c = faultT x1 k1) x1 ka1 cap1 k1 _ (ht1.below hbp) (fun h => h.symm) (fun W' hW' => by
          refine (check_any _ _ _ _ W' ((ht1.below hbp).below hW') ((hpl1.below hbp).below hW') (by omega)).mono ?_
          rintro e w' ⟨rfl, hb⟩
          exact ⟨⟨_, rfl, rfl⟩, hb⟩)
        have HOF := hide hof
        have HND := hide hnd
        have HBAD := hide hbad
        have HF1 := hide hf1
        clear hof hnd hbad hf1 hok ht1 hpl1
        go_wp2_with fail
        refine Calls.mono HOF.out ?_
        rintro e w9 ⟨hoe, hb9⟩
        have hB9 := hB8.trans ((hbp.trans (hb9.mono (by simp))).mono hB8.size)
        rcases hoe with ⟨c, hc, hc0, _⟩ | ⟨_, v, rfl, hrow⟩
        · exact absurd (hc.trans HF1.out) hc0
        obtain ⟨va, vc, rfl, hvl, hvm⟩ := ownsN_form hrow
        have hN := NIn_of_owns hrow (ndT_labs HBAD.out)
        have hsn := sameN_any va ra vc rc (ndT 0 x1 k1 (-1)) R w9 hN (hR.below hB9) (by rw [ndT_length]; omega) (by unfold maxLen; omega)
        rw [decide_eq_true HND.out, ndT_length] at hsn
        have HSN := hide hsn
        clear hsn hN hrow HOF hB8 hb9 hbp
        unfold maxLen at hvm
        go_wp2_with fail
        refine Calls.mono HSN.out ?_
        rintro e w10 ⟨rfl, hb10⟩
        go_wp2_with fail
        go_ret
        exact ⟨rfl, hB9.trans (hb10.mono hB9.size)⟩
    · have hf0 := MayTell.good hc
      obtain ⟨hn40, _, hbad⟩ := fault_zero hf0
      obtain ⟨va, vc, rfl, hvl, hvm⟩ := ownsN_form hrow
      have hN := NIn_of_owns hrow (ndT_labs hbad)
      have hok : TOk (ndT 0 s k (-1)) s (strip k) := ⟨growP_ndT s k, by rw [faultT_strip]; exact hf0, ndT_strip _ _ _ _⟩
      have htr := otree_any va vc (ndT 0 s k (-1)) w3 hN (by rw [ndT_length]; omega) (by rw [ndT_length]; exact hvl) hvm
      rw [ndT_length] at htr
      have HTR := hide htr
      have HOK := hide hok
      clear htr hok hN hrow hf0 hbad hc
      unfold maxLen at hvm
      go_wp2_with fail
      refine Calls.mono HTR.out ?_
      rintro e w4 ⟨hte, hb4⟩
      have hB4 := hB3.trans (hb4.mono hB3.size)
      have e0a := cellOf hb4 e0
      have e1a := cellOf hb4 e1
      clear HTR hb4 e0 e1 hB3
      rcases hte with ⟨c1, hc1, hno, rfl⟩ | ⟨x1, ka1, cap1, k1, hok1, rfl, ht1, hpl1⟩
      · exact absurd HOK.out (hno _ _)
      obtain ⟨rfl, hstr1⟩ := hok1.uniq HOK.out
      have hby : Below w4.heap.size w4 (w4.alloc (Obj.cells #[Value.string x1, Value.slice ka1 (flen k1) cap1] 24)) := (Below.refl _ _).alloc (Nat.le_refl _) _
      have hBy := hB4.trans (hby.mono hB4.size)
      have KB := sameTree_any x1 ka cap k x1 ka1 cap1 k1 _ (ht.below hBy) (ht1.below hby)
      rw [sameT_of_strip hstr1.symm] at KB
      have HKB := hide KB
      have y0 := cellOf hby e0a
      have y1 := cellOf hby e1a
      clear KB hby e0a e1a HOK hok1 hstr1 ht1 hpl1 hB4
      go_wp2_with fail
      refine Calls.mono HKB.out ?_
      rintro e w5 ⟨rfl, hb5⟩
      have hB5 := hBy.trans (hb5.mono hBy.size)
      have z0 := cellOf hb5 y0
      have z1 := cellOf hb5 y1
      have hsz := sizeOf_any (fnodes k + 1) x1 ka cap k 1000 w5 (Nat.lt_succ_self _) (by omega) (by omega) (ht.below hB5)
      rw [show min (1 + (fnodes k : Int)) (1000 + 1) = 1 + (fnodes k : Int) by omega] at hsz
      have HSZ := hide hsz
      clear hsz HKB hb5 hBy y0 y1
      go_wp2_with fail
      refine Calls.mono HSZ.out ?_
      rintro e w6 ⟨rfl, hb6⟩
      have hB6 := hB5.trans (hb6.mono hB5.size)
      have hlq : (((fnodes k + 1 : Nat) : Int) == 1 + (fnodes k : Int)) = true := beq_iff_eq.2 (by omega)
      have hlq2 : ((fnodes k : Int) + 1 == 1 + (fnodes k : Int)) = true := beq_iff_eq.2 (by omega)
      clear HSZ hb6 hB5 z0 z1
      have HTR := hide (otree_any ra rc R w6 (hR.below hB6) (by omega) hrl hrm')
      go_wp2_with fail
      refine Calls.mono HTR.out ?_
      rintro e w8 ⟨hte, hb8⟩
      have hB8 := hB6.trans (hb8.mono hB6.size)
      clear HTR hB6 hb8
      rcases hte with ⟨c1, hc1, hno, rfl⟩ | ⟨x1, ka1, cap1, k1, hok, rfl, ht1, hpl1⟩
      · have hcb : (c1 == 0) = false := beq_eq_false_iff_ne.2 hc1
        have hbp : Below w8.heap.size w8 (w8.alloc (Obj.cells #[Value.string ⟨#[]⟩, Value.slice none 0 0] 24)) := (Below.refl _ _).alloc (Nat.le_refl _) _
        have KA := hide sameNil
        clear hno hc1
        go_wp2_with fail
        refine Calls.mono (KA.out _) ?_
        rintro e w9 ⟨rfl, hb9⟩
        go_wp2_with fail
        go_ret
        exact ⟨rfl, hB8.trans ((hbp.trans (hb9.mono hbp.size)).mono hB8.size)⟩
      · have hf1 : faultT x1 k1 = 0 := by rw [← faultT_strip]; exact hok.2.1
        have hnd : ndT 0 x1 k1 (-1) = R := by rw [← ndT_strip]; exact hok.2.2
        have hn1 := (fault_zero hf1).1
        have hbad := (fault_zero hf1).2.2
        have hbp : Below w8.heap.size w8 (w8.alloc (Obj.cells #[Value.string x1, Value.slice ka1 (flen k1) cap1] 24)) := (Below.refl _ _).alloc (Nat.le_refl _) _
        have hof := of_of (fun c => c = faultT x1 k1) x1 ka1 cap1 k1 _ (ht1.below hbp) (fun h => h.symm) (fun W' hW' => by
          refine (check_any _ _ _ _ W' ((ht1.below hbp).below hW') ((hpl1.below hbp).below hW') (by omega)).mono ?_
          rintro e w' ⟨rfl, hb⟩
          exact ⟨⟨_, rfl, rfl⟩, hb⟩)
        have HOF := hide hof
        have HND := hide hnd
        have HBAD := hide hbad
        have HF1 := hide hf1
        clear hof hnd hbad hf1 hok ht1 hpl1
        go_wp2_with fail
        refine Calls.mono HOF.out ?_
        rintro e w9 ⟨hoe, hb9⟩
        have hB9 := hB8.trans ((hbp.trans (hb9.mono (by simp))).mono hB8.size)
        rcases hoe with ⟨c, hc, hc0, _⟩ | ⟨_, v, rfl, hrow⟩
        · exact absurd (hc.trans HF1.out) hc0
        obtain ⟨va, vc, rfl, hvl, hvm⟩ := ownsN_form hrow
        have hN := NIn_of_owns hrow (ndT_labs HBAD.out)
        have hsn := sameN_any va ra vc rc (ndT 0 x1 k1 (-1)) R w9 hN (hR.below hB9) (by rw [ndT_length]; omega) (by unfold maxLen; omega)
        rw [decide_eq_true HND.out, ndT_length] at hsn
        have HSN := hide hsn
        clear hsn hN hrow HOF hB8 hb9 hbp
        unfold maxLen at hvm
        go_wp2_with fail
        refine Calls.mono HSN.out ?_
        rintro e w10 ⟨rfl, hb10⟩
        go_wp2_with fail
        go_ret
        exact ⟨rfl, hB9.trans (hb10.mono hB9.size)⟩
end Go.Proofs.Ytafojlockiekfaa
