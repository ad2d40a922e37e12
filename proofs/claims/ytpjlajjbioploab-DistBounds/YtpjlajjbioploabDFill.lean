/- greatest and fill of package dist. Of the program's text. -/
import Derived.Test.YtpjlajjbioploabProg
import Derived.Test.YtpjlajjbioploabDNote
import Derived.Test.YtpjlajjbioploabDFor
namespace Go.Proofs.Ytpjlajjbioploab.Dist
open Go.Deep Go.RowKit
set_option linter.unusedVariables false
set_option maxRecDepth 20000
set_option maxHeartbeats 1000000 in
theorem greatest_any (L : List Nd) (b o c i : Nat) (w : World) (hL : NAt w b o L) (hO : NOk L) (hi : i < L.length) (hc : L.length ≤ c) (hcm : c ≤ maxLen) :
    Calls Try.prog 28 #[.slice (some ⟨b, o, none⟩) L.length c, .int .i64 (i : Int)] w fun e w' => (∃ r : Bool, e = .returned (.bool r) ∧ (r = true ↔ Grt L i)) ∧ ∃ n, w' = w.drewN n := by
  unfold maxLen at hcm
  obtain ⟨x, hx⟩ : ∃ x, L[i]? = some x := ⟨_, List.getElem?_eq_getElem hi⟩
  obtain ⟨_, x1, x2⟩ := hL i x hx
  have h40 := hO.many
  rcases hO.up i x hx with hn | ⟨p, y, hp, hip, hy, hle⟩
  · have hg := hide (grt_root hO hx hn)
    have hb : decide (x.par < 0) = true := decide_eq_true hn
    clear hL hx hO
    go_enter Try.func28, Try.ntmps28
    go_wp2_with fail
    go_quiet (fail)
    go_wp2_with fail
    go_ret
    exact ⟨⟨true, rfl, fun _ => hg.out, fun _ => rfl⟩, _, rfl⟩
  · obtain ⟨_, _, y2⟩ := hL p y hy
    have hg := hide (grt_iff hO hx hp hy)
    have hpl := (List.getElem?_eq_some_iff.1 hy).1
    rw [hp] at x1
    clear hL hx hy hO hle hp
    have hpn : ¬ ((p : Int) < 0) := by omega
    go_enter Try.func28, Try.ntmps28
    go_wp2_with fail
    go_quiet (fail)
    go_wp2_with fail
    go_ret
    refine ⟨⟨_, rfl, ?_⟩, _, rfl⟩
    rw [hg.out]
    simp
    omega

/-- What the loops of fill keep. -/
structure FlInv (w : World) (T : Tab) (i j : Nat) (wr : World) : Prop where
  tab : ∃ f, TabIn wr T f ∧ Known T.A T.B f i j ∧ ∀ a b, a < T.A.length → b < T.B.length → f a b ≤ 1000
  kept : KeptT T w wr
theorem TD_le {A B : List Nd} (hA : NOk A) (hB : NOk B) {i j : Nat} (hi : i < A.length) (hj : j < B.length) : TD A B i j ≤ 1000 := by
  have h1 := hA.post.le i hi
  have h2 := hB.post.le j hj
  have h3 := hA.many
  have h4 := hB.many
  have := DV_le hA hB hi hj (m := i - lefts A i + 1) (n := j - lefts B j + 1) (by omega) (by omega)
  unfold DV at this
  rw [show lefts A i + (i - lefts A i + 1) = i + 1 by omega, show lefts B j + (j - lefts B j + 1) = j + 1 by omega] at this
  unfold TD
  omega
theorem noted_le {A B : List Nd} {f : Nat → Nat → Nat} (hA : NOk A) (hB : NOk B) {i j : Nat} (h : ∀ a b, a < A.length → b < B.length → f a b ≤ 1000) : ∀ a b, a < A.length → b < B.length → noted A B f i j a b ≤ 1000 := fun a b ha hb => by
  unfold noted
  split
  · exact TD_le hA hB ha hb
  · exact h a b ha hb

set_option maxHeartbeats 2000000 in
theorem fill_any (T : Tab) (w : World) (hT : TabIn w T (fun _ _ => 0)) :
    Calls Try.prog 18 #[.pointer (some ⟨T.t, 0, none⟩)] w fun e w' => e = .returned (.tuple #[]) ∧ TabIn w' T (TD T.A T.B) ∧ KeptT T w w' := by
  have hA := hT.okA.many
  have hB := hT.okB.many
  have okA := hide hT.okA
  have okB := hide hT.okB
  have cpA := hT.capA
  have cpB := hT.capB
  have c0 := hT.c0
  have HST := hide (show FlInv w T 0 0 w from ⟨⟨_, hT, Known.start _ _ _, fun _ _ _ _ => by omega⟩, KeptT.refl _ _⟩)
  clear hT
  go_enter Try.func18, Try.ntmps18
  go_wp2_with fail
  go_loopg [9] T.A.length (fun gk v9 wr => ∃ i : Nat, gk = T.A.length - i ∧ i ≤ T.A.length ∧ v9 = .int .i64 (i : Nat) ∧ FlInv w T i 0 wr)
  case atStart => exact ⟨0, rfl, Nat.zero_le _, rfl, HST.out⟩
  case round =>
    clear HST c0
    obtain ⟨i, hgk, hi, rfl, hI⟩ := hrel
    obtain ⟨wA, hwA⟩ : ∃ wA, wA = wr := ⟨_, rfl⟩
    subst hwA
    obtain ⟨⟨f, hT, hK, hS⟩, hkept⟩ := hI
    by_cases hin : i < T.A.length
    · have c0 := hT.c0
      have HG := hide (greatest_any T.A T.ba T.oa T.ca i wA hT.na hT.okA hin cpA.1 cpA.2)
      have HT := hide hT
      have HK := hide hK
      have HS := hide hS
      have HKP := hide hkept
      clear hT hK hS hkept
      go_wp2_with fail
      refine Calls.mono HG.out ?_
      rintro e w1 ⟨⟨r, rfl, hr⟩, k, hw1⟩
      have hT1 : TabIn w1 T f := by rw [hw1]; exact HT.out.drewN k
      have hKP1 : KeptT T w w1 := by rw [hw1]; exact HKP.out.trans (KeptT.drewN T wA k)
      clear hw1 HG HT HKP c0
      cases r
      · have HR := hide (show ¬ Grt T.A i from fun h => by have := hr.2 h; cases this)
        have HT1 := hide hT1
        have HKP1 := hide hKP1
        clear hr hT1 hKP1
        go_wp2_with fail
        go_roundg (T.A.length - (i + 1))
        case measure => omega
        case rel => exact ⟨i + 1, rfl, by omega, by go_num, ⟨f, HT1.out, HK.out.skip hin HR.out, HS.out⟩, HKP1.out⟩
      · have HR := hide (hr.1 rfl)
        have c1 := hT1.c1
        have HI1 := hide (show FlInv w T i 0 w1 from ⟨⟨f, hT1, HK.out, HS.out⟩, hKP1⟩)
        clear hr hT1 hKP1 HK HS
        go_wp2_with fail
        go_loopg [24] T.B.length (fun gk v24 wr => ∃ j : Nat, gk = T.B.length - j ∧ j ≤ T.B.length ∧ v24 = .int .i64 (j : Nat) ∧ FlInv w T i j wr)
        case atStart => exact ⟨0, rfl, Nat.zero_le _, rfl, HI1.out⟩
        case round =>
          clear HI1 c1
          obtain ⟨j, hgk2, hj, rfl, hI2⟩ := hrel
          obtain ⟨⟨f2, hT2, hK2, hS2⟩, hkept2⟩ := hI2
          by_cases hin2 : j < T.B.length
          · have c1 := hT2.c1
            have HG2 := hide (greatest_any T.B T.bb T.ob T.cb j wr hT2.nb hT2.okB hin2 cpB.1 cpB.2)
            have HT2 := hide hT2
            have HK2 := hide hK2
            have HS2 := hide hS2
            have HKP2 := hide hkept2
            clear hT2 hK2 hS2 hkept2
            go_wp2_with fail
            refine Calls.mono HG2.out ?_
            rintro e w3 ⟨⟨r, rfl, hr⟩, k3, hw3⟩
            have hT3 : TabIn w3 T f2 := by rw [hw3]; exact HT2.out.drewN k3
            have hKP3 : KeptT T w w3 := by rw [hw3]; exact HKP2.out.trans (KeptT.drewN T wr k3)
            clear hw3 HG2 HT2 HKP2 c1
            cases r
            · have HR2 := hide (show ¬ Grt T.B j from fun h => by have := hr.2 h; cases this)
              have HT3 := hide hT3
              have HKP3 := hide hKP3
              clear hr hT3 hKP3
              go_wp2_with fail
              go_roundg (T.B.length - (j + 1))
              case measure => omega
              case rel => exact ⟨j + 1, rfl, by omega, by go_num, ⟨f2, HT3.out, HK2.out.skipB hin2 HR2.out, HS2.out⟩, HKP3.out⟩
            · have HR2 := hide (hr.1 rfl)
              have HF := hide (forests_any T f2 i j w3 hT3 hin hin2 (HK2.out.needs okA.out okB.out hin hin2 HR.out HR2.out) HS2.out)
              have HT3 := hide hT3
              have HKP3 := hide hKP3
              clear hr hT3 hKP3
              go_wp2_with fail
              refine Calls.mono HF.out ?_
              rintro e w4 ⟨rfl, hfor, hb4⟩
              have HN := hide (note_any T f2 i j w3.heap.size w4 (HT3.out.below hb4) hfor hin hin2)
              have HKP4 := hide (HKP3.out.trans (KeptT.of_below hb4))
              clear HF HT3 HKP3 hfor hb4
              go_wp2_with fail
              refine Calls.mono HN.out ?_
              rintro e w5 ⟨rfl, htab, hkp⟩
              have HT5 := hide htab
              have HKP5 := hide (HKP4.out.trans hkp)
              clear HN HKP4 htab hkp
              go_wp2_with fail
              go_roundg (T.B.length - (j + 1))
              case measure => omega
              case rel => exact ⟨j + 1, rfl, by omega, by go_num, ⟨_, HT5.out, HK2.out.note hin hin2, noted_le okA.out okB.out HS2.out⟩, HKP5.out⟩
          · have hne : j = T.B.length := by omega
            subst hne
            have HE := hide (show FlInv w T (i + 1) 0 wr from ⟨⟨f2, hT2, hK2.line, hS2⟩, hkept2⟩)
            clear hT2 hK2 hS2 hkept2
            go_wp2_with fail
            go_roundg (T.A.length - (i + 1))
            case measure => omega
            case rel => exact ⟨i + 1, rfl, by omega, by go_num, HE.out⟩
    · have hie : i = T.A.length := by omega
      subst hie
      have HE := hide (hT.congr fun a b ha hb => hK.all a b ha hb)
      have HKP := hide hkept
      clear hT hK hS hkept
      go_wp2_with fail
      go_end0
      exact ⟨rfl, HE.out, HKP.out⟩
end Go.Proofs.Ytpjlajjbioploab.Dist
