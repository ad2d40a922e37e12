/- pleachinglaw.TextBack answers true. Of the program's text. -/
import Derived.Test.YtafojlockiekfaaProg
import Derived.Test.YtafojlockiekfaaTBegun
import Derived.Test.YtafojlockiekfaaAlike
import Derived.Test.YtafojlockiekfaaGRaw
import Derived.Test.YtafojlockiekfaaPBack
import Derived.Test.YtafojlockiekfaaSameRef
import Derived.Laws.StructEq
namespace Go.Proofs.Ytafojlockiekfaa
open Go.Deep Go.RowKit
set_option linter.unusedVariables false
set_option maxRecDepth 20000

theorem prs_good {s x : ByteArray} {k : Fo} (h : prs s = .ok x k) : faultT x k = 0 := by
  unfold prs at h
  split at h
  · cases h
  · split at h
    · cases h
    · split at h
      · rename_i hf
        cases h
        exact hf
      · cases h

theorem sameNil (W : World) : Calls Try.prog 24 #[.agg #[.string ⟨#[]⟩, .slice none 0 0], .agg #[.string ⟨#[]⟩, .slice none 0 0]] W fun e w' => e = .returned (.bool true) ∧ Below W.heap.size W w' := by
  have := sameTree_any ⟨#[]⟩ none 0 .nil ⟨#[]⟩ none 0 .nil W (nilT _) (nilT _)
  rw [sameT_of_strip rfl] at this
  exact this

set_option maxHeartbeats 2000000 in
set_option maxRecDepth 100000 in
theorem tback_any (s : ByteArray) (ka : Option Addr) (cap : Nat) (k : Fo) (str0 : ByteArray) (w : World) (ht : TIn w s ka cap k) (hco : FCold w k) (hstr : str0.size ≤ maxLen) :
    Calls Try.prog 6 #[.agg #[.string s, .slice ka (flen k) cap], .string str0] w fun e w' => e = .returned (.bool true) ∧ Below w.heap.size w w' := by
  have hstr' := hstr
  unfold maxLen at hstr
  have hbx : Below w.heap.size w (w.alloc (Obj.cells #[Value.string s, Value.slice ka (flen k) cap] 24)) := (Below.refl _ _).alloc (Nat.le_refl _) _
  go_enter Try.func6, Try.ntmps6
  go_wp2_with fail
  refine (tbegun_any _).mono ?_
  rintro e w1 ⟨rfl, hb1⟩
  have hB1 := hbx.trans (hb1.mono (by simp))
  have e0 : w1.cell? ⟨w.heap.size, 0, none⟩ = some (.string s) := by rw [hb1.cell (by simp)]; go_simp
  have e1 : w1.cell? ⟨w.heap.size, 1, none⟩ = some (.slice ka (flen k) cap) := by rw [hb1.cell (by simp)]; go_simp
  have ht1 := ht.below hB1
  have hcg := great_any s ka cap k w1 ht1
  have HG := hide hcg
  clear hcg hb1 hbx
  cases hg : greatT s k with
  | true =>
    rw [hg] at HG
    go_wp2_with fail
    refine Calls.mono HG.out ?_
    rintro e w2 ⟨rfl, hb2⟩
    go_wp2_with fail
    go_ret
    exact ⟨rfl, hB1.trans (hb2.mono hB1.size)⟩
  | false =>
    rw [hg] at HG
    have hsm := greatT_small hg
    go_wp2_with fail
    refine Calls.mono HG.out ?_
    rintro e w2 ⟨rfl, hb2⟩
    have hB2 := hB1.trans (hb2.mono hB1.size)
    by_cases h4000 : 4000 < str0.size
    · go_wp2_with fail
      go_ret
      exact ⟨rfl, hB2⟩
    have d0 : w2.cell? ⟨w.heap.size, 0, none⟩ = some (.string s) := by rw [hb2.cell (World.block_lt_of_cell? _ _ e0)]; exact e0
    have d1 : w2.cell? ⟨w.heap.size, 1, none⟩ = some (.slice ka (flen k) cap) := by rw [hb2.cell (World.block_lt_of_cell? _ _ e1)]; exact e1
    have hp := print_raw s ka cap k w2 (ht.below hB2) (hco.below hB2) (by omega) (by have := fhigh_le_nodes k; omega)
    have HP := hide hp
    clear hp HG hb2 e0 e1 ht1 hB1
    go_wp2_with fail
    refine Calls.mono HP.out ?_
    rintro e w3 ⟨hpe, hb3⟩
    have hB3 := hB2.trans (hb3.mono hB2.size)
    have e0 := cellOf hb3 d0
    have e1 := cellOf hb3 d1
    clear HP hb3 d0 d1 hB2
    rcases hpe with ⟨c, hc, hc0, rfl⟩ | ⟨hc, rfl⟩
    · have hfb : (c == 0) = false := beq_eq_false_iff_ne.2 hc0
      have HPA := hide (parse_any str0 w3 hstr')
      go_wp2_with fail
      refine Calls.mono HPA.out ?_
      rintro e w8 ⟨hpe, hb8⟩
      have hB8 := hB3.trans (hb8.mono hB3.size)
      clear HPA hB3 hb8
      rcases hpe with ⟨c1, p1, hpr, hc1, rfl⟩ | ⟨x1, kx, ka1, cap1, k1, hpr, rfl, hst1, ht1, hpl1, hn1, hfr1⟩
      · have hcb : (c1 == 0) = false := beq_eq_false_iff_ne.2 hc1
        have hbp : Below w8.heap.size w8 ((w8.alloc (Obj.cells #[Value.string ⟨#[]⟩, Value.slice none 0 0] 24)).alloc (Obj.cells #[Value.int .i64 c1, Value.int .i64 p1] 42)) := ((Below.refl _ _).alloc (Nat.le_refl _) _).alloc (by simp) _
        have KA := hide sameNil
        clear hpr hc1
        go_wp2_with fail
        refine Calls.mono (KA.out _) ?_
        rintro e w9 ⟨rfl, hb9⟩
        go_wp2_with fail
        go_ret
        exact ⟨rfl, hB8.trans ((hbp.trans (hb9.mono hbp.size)).mono hB8.size)⟩
      · have hf1 : faultT x1 k1 = 0 := by rw [← faultT_strip, hst1]; exact prs_good hpr
        have hbp : Below w8.heap.size w8 ((w8.alloc (Obj.cells #[Value.string x1, Value.slice ka1 (flen k1) cap1] 24)).alloc (Obj.cells #[Value.int .i64 0, Value.int .i64 0] 42)) := ((Below.refl _ _).alloc (Nat.le_refl _) _).alloc (by simp) _
        obtain ⟨W9, hW9⟩ : ∃ W9, W9 = ((w8.alloc (Obj.cells #[Value.string x1, Value.slice ka1 (flen k1) cap1] 24)).alloc (Obj.cells #[Value.int .i64 0, Value.int .i64 0] 42)) := ⟨_, rfl⟩
        have x0 : W9.cell? ⟨w8.heap.size, 0, none⟩ = some (.string x1) := by rw [hW9]; go_simp
        have x1' : W9.cell? ⟨w8.heap.size, 1, none⟩ = some (.slice ka1 (flen k1) cap1) := by rw [hW9]; go_simp
        rw [← hW9] at hbp
        have hpp := print_any x1 ka1 cap1 k1 W9 (ht1.below hbp) (hpl1.below hbp) (by omega)
        rw [if_pos hf1, hf1] at hpp
        obtain ⟨hle, _⟩ := txtT_le hf1
        obtain ⟨A, hA⟩ : ∃ A : ByteArray, A = ⟨(txtT x1 k1).toArray⟩ := ⟨_, rfl⟩
        have hAp : prs A = .ok x1 (strip k1) := by rw [hA]; exact prs_txt hf1
        have hAs : A.size ≤ 400 := by
          rw [hA]
          show (txtT x1 k1).toArray.size ≤ 400
          simpa using hle
        have hA2 : decide ((A.size : Int) ≤ 2000) = true := decide_eq_true (by omega)
        rw [← hA] at hpp
        have HPP := hide hpp
        have HAP := hide hAp
        clear hpp hAp hA hle hf1 hpr hst1 hfr1
        subst hW9
        go_wp2_with fail
        refine Calls.mono HPP.out ?_
        rintro e w10 ⟨rfl, hb10⟩
        have x0a := cellOf hb10 x0
        have x1a := cellOf hb10 x1'
        have hB10 := hB8.trans ((hbp.trans (hb10.mono hbp.size)).mono hB8.size)
        have htA := (ht1.below hbp).below hb10
        have HPB := hide (parse_any A w10 (by unfold maxLen; omega))
        clear HPP hb10 x0 x1' hbp hB8 ht1 hpl1
        go_wp2_with fail
        refine Calls.mono HPB.out ?_
        rintro e w11 ⟨hpe, hb11⟩
        have hB11 := hB10.trans (hb11.mono hB10.size)
        have x0b := cellOf hb11 x0a
        have x1b := cellOf hb11 x1a
        have htB := htA.below hb11
        clear HPB hb11 x0a x1a htA hB10
        rcases hpe with ⟨c2, p2, hpr2, _, _⟩ | ⟨x2, ky, ka2, cap2, k2, hpr2, rfl, hst2, ht2, _, _, _⟩
        · rw [HAP.out] at hpr2; cases hpr2
        rw [HAP.out] at hpr2
        injection hpr2 with hx hk
        subst hx
        have hstr2 : strip k1 = strip k2 := by rw [hst2]; exact hk
        have hby : Below w11.heap.size w11 ((w11.alloc (Obj.cells #[Value.string x1, Value.slice ka2 (flen k2) cap2] 24)).alloc (Obj.cells #[Value.int .i64 0, Value.int .i64 0] 42)) := ((Below.refl _ _).alloc (Nat.le_refl _) _).alloc (by simp) _
        have KB := sameTree_any x1 ka1 cap1 k1 x1 ka2 cap2 k2 _ (htB.below hby) (ht2.below hby)
        rw [sameT_of_strip hstr2] at KB
        have HKB := hide KB
        have y0 := cellOf hby x0b
        have y1 := cellOf hby x1b
        have HY := hide hby
        clear KB hby x0b x1b HAP hk hst2 hstr2 ht2 htB
        go_wp2_with fail
        refine Calls.mono HKB.out ?_
        rintro e w12 ⟨rfl, hb12⟩
        go_wp2_with fail
        go_ret
        exact ⟨rfl, hB11.trans ((HY.out.trans (hb12.mono HY.out.size)).mono hB11.size)⟩
    · have hf0 := MayTell.good hc
      clear hc
      obtain ⟨hle, _⟩ := txtT_le hf0
      obtain ⟨A, hA⟩ : ∃ A : ByteArray, A = ⟨(txtT s k).toArray⟩ := ⟨_, rfl⟩
      have hAp : prs A = .ok s (strip k) := by rw [hA]; exact prs_txt hf0
      have hAs : A.size ≤ 400 := by
        rw [hA]
        show (txtT s k).toArray.size ≤ 400
        simpa using hle
      rw [← hA]
      have HAP := hide hAp
      have HPB := hide (parse_any A w3 (by unfold maxLen; omega))
      clear hAp hA hle hf0
      go_wp2_with fail
      refine Calls.mono HPB.out ?_
      rintro e w4 ⟨hpe, hb4⟩
      have hB4 := hB3.trans (hb4.mono hB3.size)
      have e0a := cellOf hb4 e0
      have e1a := cellOf hb4 e1
      clear HPB hb4 e0 e1 hB3
      rcases hpe with ⟨c2, p2, hpr2, _, _⟩ | ⟨x2, ky, ka2, cap2, k2, hpr2, rfl, hst2, ht2, _, _, _⟩
      · rw [HAP.out] at hpr2; cases hpr2
      rw [HAP.out] at hpr2
      injection hpr2 with hx hk
      subst hx
      have hstr2 : strip k2 = strip k := by rw [hst2]; exact hk.symm
      have hby : Below w4.heap.size w4 ((w4.alloc (Obj.cells #[Value.string s, Value.slice ka2 (flen k2) cap2] 24)).alloc (Obj.cells #[Value.int .i64 0, Value.int .i64 0] 42)) := ((Below.refl _ _).alloc (Nat.le_refl _) _).alloc (by simp) _
      have hBy := hB4.trans (hby.mono hB4.size)
      have KB := sameTree_any s ka2 cap2 k2 s ka cap k _ (ht2.below hby) (ht.below hBy)
      rw [sameT_of_strip hstr2] at KB
      have HKB := hide KB
      have y0 := cellOf hby e0a
      have y1 := cellOf hby e1a
      clear KB hby e0a e1a HAP hk hst2 hstr2 ht2 hB4
      go_wp2_with fail
      refine Calls.mono HKB.out ?_
      rintro e w5 ⟨rfl, hb5⟩
      have hB5 := hBy.trans (hb5.mono hBy.size)
      clear HKB hb5 hBy y0 y1
      have HPA := hide (parse_any str0 w5 hstr')
      go_wp2_with fail
      refine Calls.mono HPA.out ?_
      rintro e w8 ⟨hpe, hb8⟩
      have hB8 := hB5.trans (hb8.mono hB5.size)
      clear HPA hB5 hb8
      rcases hpe with ⟨c1, p1, hpr, hc1, rfl⟩ | ⟨x1, kx, ka1, cap1, k1, hpr, rfl, hst1, ht1, hpl1, hn1, hfr1⟩
      · have hcb : (c1 == 0) = false := beq_eq_false_iff_ne.2 hc1
        have hbp : Below w8.heap.size w8 ((w8.alloc (Obj.cells #[Value.string ⟨#[]⟩, Value.slice none 0 0] 24)).alloc (Obj.cells #[Value.int .i64 c1, Value.int .i64 p1] 42)) := ((Below.refl _ _).alloc (Nat.le_refl _) _).alloc (by simp) _
        have KA := hide sameNil
        clear hpr hc1
        go_wp2_with fail
        refine Calls.mono (KA.out _) ?_
        rintro e w9 ⟨rfl, hb9⟩
        go_wp2_with fail
        go_ret
        exact ⟨rfl, hB8.trans ((hbp.trans (hb9.mono hbp.size)).mono hB8.size)⟩
      · have hf1 : faultT x1 k1 = 0 := by rw [← faultT_strip, hst1]; exact prs_good hpr
        have hbp : Below w8.heap.size w8 ((w8.alloc (Obj.cells #[Value.string x1, Value.slice ka1 (flen k1) cap1] 24)).alloc (Obj.cells #[Value.int .i64 0, Value.int .i64 0] 42)) := ((Below.refl _ _).alloc (Nat.le_refl _) _).alloc (by simp) _
        obtain ⟨W9, hW9⟩ : ∃ W9, W9 = ((w8.alloc (Obj.cells #[Value.string x1, Value.slice ka1 (flen k1) cap1] 24)).alloc (Obj.cells #[Value.int .i64 0, Value.int .i64 0] 42)) := ⟨_, rfl⟩
        have x0 : W9.cell? ⟨w8.heap.size, 0, none⟩ = some (.string x1) := by rw [hW9]; go_simp
        have x1' : W9.cell? ⟨w8.heap.size, 1, none⟩ = some (.slice ka1 (flen k1) cap1) := by rw [hW9]; go_simp
        rw [← hW9] at hbp
        have hpp := print_any x1 ka1 cap1 k1 W9 (ht1.below hbp) (hpl1.below hbp) (by omega)
        rw [if_pos hf1, hf1] at hpp
        obtain ⟨hle, _⟩ := txtT_le hf1
        obtain ⟨A, hA⟩ : ∃ A : ByteArray, A = ⟨(txtT x1 k1).toArray⟩ := ⟨_, rfl⟩
        have hAp : prs A = .ok x1 (strip k1) := by rw [hA]; exact prs_txt hf1
        have hAs : A.size ≤ 400 := by
          rw [hA]
          show (txtT x1 k1).toArray.size ≤ 400
          simpa using hle
        have hA2 : decide ((A.size : Int) ≤ 2000) = true := decide_eq_true (by omega)
        rw [← hA] at hpp
        have HPP := hide hpp
        have HAP := hide hAp
        clear hpp hAp hA hle hf1 hpr hst1 hfr1
        subst hW9
        go_wp2_with fail
        refine Calls.mono HPP.out ?_
        rintro e w10 ⟨rfl, hb10⟩
        have x0a := cellOf hb10 x0
        have x1a := cellOf hb10 x1'
        have hB10 := hB8.trans ((hbp.trans (hb10.mono hbp.size)).mono hB8.size)
        have htA := (ht1.below hbp).below hb10
        have HPB := hide (parse_any A w10 (by unfold maxLen; omega))
        clear HPP hb10 x0 x1' hbp hB8 ht1 hpl1
        go_wp2_with fail
        refine Calls.mono HPB.out ?_
        rintro e w11 ⟨hpe, hb11⟩
        have hB11 := hB10.trans (hb11.mono hB10.size)
        have x0b := cellOf hb11 x0a
        have x1b := cellOf hb11 x1a
        have htB := htA.below hb11
        clear HPB hb11 x0a x1a htA hB10
        rcases hpe with ⟨c2, p2, hpr2, _, _⟩ | ⟨x2, ky, ka2, cap2, k2, hpr2, rfl, hst2, ht2, _, _, _⟩
        · rw [HAP.out] at hpr2; cases hpr2
        rw [HAP.out] at hpr2
        injection hpr2 with hx hk
        subst hx
        have hstr2 : strip k1 = strip k2 := by rw [hst2]; exact hk
        have hby : Below w11.heap.size w11 ((w11.alloc (Obj.cells #[Value.string x1, Value.slice ka2 (flen k2) cap2] 24)).alloc (Obj.cells #[Value.int .i64 0, Value.int .i64 0] 42)) := ((Below.refl _ _).alloc (Nat.le_refl _) _).alloc (by simp) _
        have KB := sameTree_any x1 ka1 cap1 k1 x1 ka2 cap2 k2 _ (htB.below hby) (ht2.below hby)
        rw [sameT_of_strip hstr2] at KB
        have HKB := hide KB
        have y0 := cellOf hby x0b
        have y1 := cellOf hby x1b
        have HY := hide hby
        clear KB hby x0b x1b HAP hk hst2 hstr2 ht2 htB
        go_wp2_with fail
        refine Calls.mono HKB.out ?_
        rintro e w12 ⟨rfl, hb12⟩
        go_wp2_with fail
        go_ret
        exact ⟨rfl, hB11.trans ((HY.out.trans (hb12.mono HY.out.size)).mono hB11.size)⟩
end Go.Proofs.Ytafojlockiekfaa
