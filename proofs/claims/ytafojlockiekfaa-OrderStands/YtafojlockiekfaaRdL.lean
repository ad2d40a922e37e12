/- The reader of package text: a label. Of the program's text. -/
import Derived.Test.YtafojlockiekfaaProg
import Derived.Test.YtafojlockiekfaaRd
import Derived.Test.YtafojlockiekfaaClone
import Derived.Deep.RegionHeld3
namespace Go.Proofs.Ytafojlockiekfaa
open Go.Deep Go.RowKit
set_option linter.unusedVariables false
set_option maxRecDepth 20000

theorem unlet_step {s : ByteArray} {p : Nat} (h : p < s.size) (hc : okByte s[p] = true) : unlet (rst s p) = unlet (rst s (p + 1)) := by
  rw [rst_cons h]
  simp [unlet, hc]
theorem lets_step {s : ByteArray} {p : Nat} (h : p < s.size) (hc : okByte s[p] = true) : lets (rst s p) = s[p] :: lets (rst s (p + 1)) := by
  rw [rst_cons h]
  simp [lets, hc]
theorem unlet_stop {s : ByteArray} {p : Nat} (h : p < s.size) (hc : okByte s[p] = false) : unlet (rst s p) = rst s p := by
  rw [rst_cons h]
  simp [unlet, hc]
theorem lets_stop {s : ByteArray} {p : Nat} (h : p < s.size) (hc : okByte s[p] = false) : lets (rst s p) = [] := by
  rw [rst_cons h]
  simp [lets, hc]
theorem unlet_end {s : ByteArray} {p : Nat} (h : s.size ≤ p) : unlet (rst s p) = rst s p := by rw [rst_end h]; rfl
theorem lets_end {s : ByteArray} {p : Nat} (h : s.size ≤ p) : lets (rst s p) = [] := by rw [rst_end h]; rfl

/-- From place q to place j there are letters. -/
def Letters (s : ByteArray) (q j : Nat) : Prop := unlet (rst s j) = unlet (rst s q) ∧ lets (rst s q) = (rst s q).take (j - q) ++ lets (rst s j)

theorem letters_start (s : ByteArray) (q : Nat) : Letters s q q := ⟨rfl, by simp⟩
theorem letters_step {s : ByteArray} {q j : Nat} (h : Letters s q j) (hq : q ≤ j) (hj : j < s.size) (hc : okByte s[j] = true) : Letters s q (j + 1) := by
  refine ⟨(unlet_step hj hc).symm.trans h.1, ?_⟩
  rw [h.2, lets_step hj hc, show j + 1 - q = (j - q) + 1 by omega, List.take_succ_eq_append_getElem (by rw [rst_length]; omega)]
  have : (rst s q)[j - q]'(by rw [rst_length]; omega) = s[j] := by
    simp only [rst, List.getElem_drop]
    simp only [show q + (j - q) = j by omega]
    rfl
  rw [this]
  simp
theorem letters_done {s : ByteArray} {q j : Nat} (h : Letters s q j) (hj : j ≤ s.size) (hc : ∀ hlt : j < s.size, okByte s[j] = false) : unlet (rst s q) = rst s j ∧ lets (rst s q) = (rst s q).take (j - q) := by
  obtain ⟨h1, h2⟩ := h
  rcases Nat.lt_or_ge j s.size with hlt | hge
  · rw [unlet_stop hlt (hc hlt)] at h1
    rw [lets_stop hlt (hc hlt)] at h2
    exact ⟨h1.symm, by simpa using h2⟩
  · rw [unlet_end hge] at h1
    rw [lets_end hge] at h2
    exact ⟨h1.symm, by simpa using h2⟩

theorem rdL_short {s : ByteArray} {p j : Nat} (h : rst s j = skip (rst s p)) (hj : s.size ≤ j) : rdL (rst s p) = .bad 5 (rst s j) := by
  unfold rdL
  rw [← h, rst_end hj]
theorem rdL_text {s : ByteArray} {p j : Nat} (h : rst s j = skip (rst s p)) (hj : j < s.size) (hc : okByte s[j] = false) : rdL (rst s p) = .bad 4 (rst s j) := by
  unfold rdL
  rw [← h, rst_cons hj]
  simp [hc]
theorem extract_rst (s : ByteArray) (q j : Nat) (hq : q ≤ j) (hj : j ≤ s.size) : (⟨((rst s q).take (j - q)).toArray⟩ : ByteArray) = s.extract q j := by
  apply ByteArray.ext
  apply Array.ext'
  rw [ByteArray.data_extract]
  simp [rst, Array.toList_extract, List.extract]
theorem rdL_ok {s : ByteArray} {p q j : Nat} (hL : Letters s q j) (h : rst s q = skip (rst s p)) (hq : q ≤ j) (hj : j ≤ s.size) (hne : ¬ q = j) (hc : ∀ hlt : j < s.size, okByte s[j] = false) : rdL (rst s p) = .ok (s.extract q j) (rst s j) := by
  obtain ⟨h1, h2⟩ := letters_done hL hj hc
  have hlt : q < s.size := by omega
  have hok : okByte s[q] = true := by
    cases hb : okByte s[q] with
    | true => rfl
    | false =>
      rw [lets_stop hlt hb] at h2
      have := congrArg List.length h2
      rw [List.length_take, rst_length] at this
      simp at this
      omega
  unfold rdL
  rw [← h]
  rw [rst_cons hlt]
  simp only [hok, Bool.true_eq_false, if_false]
  rw [← rst_cons hlt, h1, h2, extract_rst s q j hq hj]

/-- What a label's reading comes to. -/
def LabelEnd (b : Nat) (s : ByteArray) (p : Nat) (w : World) (e : Ending) (w' : World) : Prop :=
  (∃ c q, rdL (rst s p) = .bad c (rst s q) ∧ (c = 4 ∨ c = 5) ∧ p ≤ q ∧ q ≤ s.size ∧ e = .panicked [{ v := stopV c q, recovered := false }]) ∨
  (∃ x q, rdL (rst s p) = .ok x (rst s q) ∧ x.size ≤ s.size ∧ p < q ∧ q ≤ s.size ∧ e = .returned (.string x) ∧ RAt b s q w')

set_option maxHeartbeats 1000000 in
theorem label_reads (b : Nat) (s : ByteArray) (p : Nat) (w : World) (hr : RAt b s p w) (hp : p ≤ s.size) (hs : s.size ≤ 4000) :
    Calls Try.prog 74 #[.pointer (some ⟨b, 0, none⟩)] w fun e w' => LabelEnd b s p w e w' ∧ Keeps [b] w w' := by
  go_enter Try.func74, Try.ntmps74
  go_wp2_with fail
  refine (blanks_any b s p w hr hp (by unfold maxLen; omega)).mono ?_
  rintro e w1 ⟨q, rfl, hq1, hq2, hq3, hr1, hk1⟩
  have c1 := hr1.c1
  have HQ := hide hq3
  clear hr hq3
  go_wp2_with fail
  go_loopg [] (s.size - q) (fun gk wr => ∃ j : Nat, gk = s.size - j ∧ q ≤ j ∧ j ≤ s.size ∧ Hid (Letters s q j) ∧ RAt b s j wr ∧ Keeps [b] w wr)
  case atStart => exact ⟨q, rfl, Nat.le_refl _, hq2, letters_start _ _, hr1, hk1⟩
  case round =>
    obtain ⟨j, hgk, hj1, hj2, hsk, hr, hk⟩ := hrel
    have c0 := hr.c0
    have c1 := hr.c1
    have fz := hr.fz 1
    have HR := hide hr
    have HK := hide hk
    have hlb := hr.lt
    clear hr hk hr1 hk1
    by_cases hlt : j < s.size
    · by_cases h97 : 97 ≤ (s[j].toNat : Int)
      · by_cases h122 : (s[j].toNat : Int) ≤ 122
        · have HB := hide (letters_step hsk.out hj1 hlt (okByte_yes h97 h122))
          go_wp2_with fail
          go_quiet (fail)
          go_wp2_with fail
          go_roundg (s.size - (j + 1))
          case measure => omega
          case rel => exact ⟨j + 1, rfl, by omega, by omega, HB, HR.out.inc _, HK.out.inc _ _⟩
        · by_cases hqj : q = j
          · have HE := hide (rdL_text (s := s) (p := p) (j := j) (by rw [← hqj]; exact HQ.out) hlt (okByte_high (by omega)))
            have e1 : ((q : Int) == (s.size : Int)) = false := beq_eq_false_iff_ne.2 (by omega)
            have e2 : ((q : Int) == (j : Int)) = true := beq_iff_eq.2 (by omega)
            go_wp2_with fail
            go_quiet (fail)
            go_wp2_with fail
            refine (giveUp_any b s j 4 _ (HR.out.below (below_drewN (Below.refl _ _) _))).mono ?_
            rintro e w2 ⟨rfl, hk2⟩
            go_wp2_with fail
            refine ⟨rfl, ?_, (HK.out.drawn _).trans hk2⟩
            exact Or.inl ⟨4, j, HE.out, by omega, by omega, by omega, rfl⟩
          · have HE := hide (rdL_ok hsk.out HQ.out hj1 hj2 hqj (fun _ => okByte_high (by omega)))
            have e1 : ((q : Int) == (s.size : Int)) = false := beq_eq_false_iff_ne.2 (by omega)
            have e2 : ((q : Int) == (j : Int)) = false := beq_eq_false_iff_ne.2 (by omega)
            have hxs : (s.extract q j).size ≤ s.size := by rw [ByteArray.size_extract]; omega
            go_wp2_with fail
            go_quiet (fail)
            go_wp2_with fail
            go_region_held3 (fun w' => w'.cell? ⟨b, 0, none⟩ = some (.string s) ∧ w'.cell? ⟨b, 1, none⟩ = some (.int .i64 j))
              (refine ⟨?_, ?_⟩ <;> go_simp)
              ((go_at_call 63; refine (clone_any _ _ (by omega)).mono ?_; rintro e w2 ⟨rfl, hb2⟩; have d0 : w2.cell? ⟨b, 0, none⟩ = some (.string s) := by (rw [hb2.cell (by simpa using hlb)]; go_simp)
                have d1 : w2.cell? ⟨b, 1, none⟩ = some (.int .i64 j) := by (rw [hb2.cell (by simpa using hlb)]; go_simp)))
            go_wp2_with fail
            go_ret
            exact ⟨Or.inr ⟨_, j, HE.out, hxs, by omega, hj2, rfl, (HR.out.below (below_drewN (Below.refl _ _) _)).below hb2⟩, (HK.out.drawn _).trans (Keeps.of_below hb2)⟩
      · have d97 : decide (97 ≤ (s[j].toNat : Int)) = false := decide_eq_false h97
        by_cases hqj : q = j
        · have HE := hide (rdL_text (s := s) (p := p) (j := j) (by rw [← hqj]; exact HQ.out) hlt (okByte_low (by omega)))
          have e1 : ((q : Int) == (s.size : Int)) = false := beq_eq_false_iff_ne.2 (by omega)
          have e2 : ((q : Int) == (j : Int)) = true := beq_iff_eq.2 (by omega)
          go_wp2_with fail
          go_quiet (fail)
          go_wp2_with fail
          refine (giveUp_any b s j 4 _ (HR.out.below (below_drewN (Below.refl _ _) _))).mono ?_
          rintro e w2 ⟨rfl, hk2⟩
          go_wp2_with fail
          refine ⟨rfl, ?_, (HK.out.drawn _).trans hk2⟩
          exact Or.inl ⟨4, j, HE.out, by omega, by omega, by omega, rfl⟩
        · have HE := hide (rdL_ok hsk.out HQ.out hj1 hj2 hqj (fun _ => okByte_low (by omega)))
          have e1 : ((q : Int) == (s.size : Int)) = false := beq_eq_false_iff_ne.2 (by omega)
          have e2 : ((q : Int) == (j : Int)) = false := beq_eq_false_iff_ne.2 (by omega)
          have hxs : (s.extract q j).size ≤ s.size := by rw [ByteArray.size_extract]; omega
          go_wp2_with fail
          go_quiet (fail)
          go_wp2_with fail
          go_region_held3 (fun w' => w'.cell? ⟨b, 0, none⟩ = some (.string s) ∧ w'.cell? ⟨b, 1, none⟩ = some (.int .i64 j))
            (refine ⟨?_, ?_⟩ <;> go_simp)
            ((go_at_call 63; refine (clone_any _ _ (by omega)).mono ?_; rintro e w2 ⟨rfl, hb2⟩; have d0 : w2.cell? ⟨b, 0, none⟩ = some (.string s) := by (rw [hb2.cell (by simpa using hlb)]; go_simp)
              have d1 : w2.cell? ⟨b, 1, none⟩ = some (.int .i64 j) := by (rw [hb2.cell (by simpa using hlb)]; go_simp)))
          go_wp2_with fail
          go_ret
          exact ⟨Or.inr ⟨_, j, HE.out, hxs, by omega, hj2, rfl, (HR.out.below (below_drewN (Below.refl _ _) _)).below hb2⟩, (HK.out.drawn _).trans (Keeps.of_below hb2)⟩
    · by_cases hqj : q = j
      · have HE := hide (rdL_short (s := s) (p := p) (j := j) (by rw [← hqj]; exact HQ.out) (by omega))
        have e1 : ((q : Int) == (s.size : Int)) = true := beq_iff_eq.2 (by omega)
        have e2 : ((q : Int) == (j : Int)) = true := beq_iff_eq.2 (by omega)
        go_wp2_with fail
        go_quiet (fail)
        go_wp2_with fail
        refine (giveUp_any b s j 5 _ (HR.out.below (below_drewN (Below.refl _ _) _))).mono ?_
        rintro e w2 ⟨rfl, hk2⟩
        go_wp2_with fail
        refine ⟨rfl, ?_, (HK.out.drawn _).trans hk2⟩
        exact Or.inl ⟨5, j, HE.out, by omega, by omega, by omega, rfl⟩
      · have HE := hide (rdL_ok hsk.out HQ.out hj1 hj2 hqj (fun h => absurd h hlt))
        have e1 : ((q : Int) == (s.size : Int)) = false := beq_eq_false_iff_ne.2 (by omega)
        have e2 : ((q : Int) == (j : Int)) = false := beq_eq_false_iff_ne.2 (by omega)
        have hxs : (s.extract q j).size ≤ s.size := by rw [ByteArray.size_extract]; omega
        go_wp2_with fail
        go_quiet (fail)
        go_wp2_with fail
        go_region_held3 (fun w' => w'.cell? ⟨b, 0, none⟩ = some (.string s) ∧ w'.cell? ⟨b, 1, none⟩ = some (.int .i64 j))
          (refine ⟨?_, ?_⟩ <;> go_simp)
          ((go_at_call 63; refine (clone_any _ _ (by omega)).mono ?_; rintro e w2 ⟨rfl, hb2⟩; have d0 : w2.cell? ⟨b, 0, none⟩ = some (.string s) := by (rw [hb2.cell (by simpa using hlb)]; go_simp)
            have d1 : w2.cell? ⟨b, 1, none⟩ = some (.int .i64 j) := by (rw [hb2.cell (by simpa using hlb)]; go_simp)))
        go_wp2_with fail
        go_ret
        exact ⟨Or.inr ⟨_, j, HE.out, hxs, by omega, hj2, rfl, (HR.out.below (below_drewN (Below.refl _ _) _)).below hb2⟩, (HK.out.drawn _).trans (Keeps.of_below hb2)⟩
end Go.Proofs.Ytafojlockiekfaa
