/- pleachinglaw.DistPairs answers true. Of the program's text. -/
import Derived.Test.YtpjlajjbioploaaProg
import Derived.Test.YtpjlajjbioploaaDBegun
import Derived.Test.YtpjlajjbioploaaDPairsP
import Derived.Test.YtpjlajjbioploaaRCheckD
import Derived.Laws.StructEq
namespace Go.Proofs.Ytpjlajjbioploaa.Dist
open Go.Deep Go.RowKit
set_option linter.unusedVariables false
set_option maxRecDepth 20000

theorem cellB {w w' : World} (h : Below w.heap.size w w') {b o : Nat} {v : Value} (hc : w.cell? ⟨b, o, none⟩ = some v) : w'.cell? ⟨b, o, none⟩ = some v := by
  rw [h.cell (World.block_lt_of_cell? _ _ hc)]
  exact hc

/-- What the loops of DistPairs keep. -/
structure PrInv (W : World) (A B : List Nd) (g1 g2 g3 : Nat) (L : List (Nat × Nat)) (wr : World) : Prop where
  below : Below W.heap.size W wr
  na : NAt wr g1 0 A
  nb : NAt wr g2 0 B
  pr : PrAt wr g3 L
  lt1 : g1 < W.heap.size
  lt2 : g2 < W.heap.size
  lt3 : g3 < W.heap.size
theorem PrInv.on {W wr wr' : World} {A B : List Nd} {g1 g2 g3 : Nat} {L : List (Nat × Nat)} (h : PrInv W A B g1 g2 g3 L wr) (hb : Below wr.heap.size wr wr') : PrInv W A B g1 g2 g3 L wr' := by
  have hs := h.below.size
  have h1 := h.lt1
  have h2 := h.lt2
  have h3 := h.lt3
  exact ⟨h.below.trans (hb.mono hs), h.na.of_block (hb.block _ (by omega)), h.nb.of_block (hb.block _ (by omega)), h.pr.of_block (hb.block _ (by omega)), h1, h2, h3⟩
theorem PrInv.node {W wr : World} {A B : List Nd} {g1 g2 g3 : Nat} {L : List (Nat × Nat)} (h : PrInv W A B g1 g2 g3 L wr) (hA : NOk A) {i : Nat} (hi : i < A.length) : wr.cell? ⟨g1, i * 3, none⟩ = some (.string (labs A i)) ∧ wr.cell? ⟨g1, i * 3 + 2, none⟩ = some (.int .i64 (lefts A i : Int)) := by
  obtain ⟨x, hx, hl, _, hlab⟩ := left_at hA hi
  obtain ⟨c0, _, c2⟩ := h.na i x hx
  rw [hlab, ← hl]
  exact ⟨by simpa using c0, by simpa using c2⟩
theorem PrInv.node2 {W wr : World} {A B : List Nd} {g1 g2 g3 : Nat} {L : List (Nat × Nat)} (h : PrInv W A B g1 g2 g3 L wr) (hB : NOk B) {i : Nat} (hi : i < B.length) : wr.cell? ⟨g2, i * 3, none⟩ = some (.string (labs B i)) ∧ wr.cell? ⟨g2, i * 3 + 2, none⟩ = some (.int .i64 (lefts B i : Int)) := by
  obtain ⟨x, hx, hl, _, hlab⟩ := left_at hB hi
  obtain ⟨c0, _, c2⟩ := h.nb i x hx
  rw [hlab, ← hl]
  exact ⟨by simpa using c0, by simpa using c2⟩

set_option maxHeartbeats 4000000 in
theorem dpairs_any (s1 s2 : ByteArray) (ka1 ka2 : Option Addr) (cap1 cap2 : Nat) (k1 k2 : Fo) (w : World) (ht1 : TIn w s1 ka1 cap1 k1) (hc1 : FCold w k1) (ht2 : TIn w s2 ka2 cap2 k2) (hc2 : FCold w k2) :
    Calls Try.prog 14 #[.agg #[.string s1, .slice ka1 (flen k1) cap1], .agg #[.string s2, .slice ka2 (flen k2) cap2]] w fun e w' => e = .returned (.bool true) ∧ Below w.heap.size w w' := by
  have hbx : Below w.heap.size w ((w.alloc (Obj.cells #[Value.string s1, Value.slice ka1 (flen k1) cap1] 24)).alloc (Obj.cells #[Value.string s2, Value.slice ka2 (flen k2) cap2] 24)) := ((Below.refl _ _).alloc (Nat.le_refl _) _).alloc (by simp) _
  have HG1 := hide (fun W (hW : Below w.heap.size w W) => great_any s1 ka1 cap1 k1 W (ht1.below hW))
  have HG2 := hide (fun W (hW : Below w.heap.size w W) => great_any s2 ka2 cap2 k2 W (ht2.below hW))
  have HOF := hide (fun W (hW : Below w.heap.size w W) => distof_of (MayTell s1 k1) (MayTell s2 k2) s1 s2 ka1 ka2 cap1 cap2 k1 k2 W MayTell.good MayTell.good
    (fun W1 hW1 => of_wild s1 ka1 cap1 k1 W1 ((ht1.below hW).below hW1) ((hc1.below hW).below hW1)) (fun W1 hW1 => of_wild s2 ka2 cap2 k2 W1 ((ht2.below hW).below hW1) ((hc2.below hW).below hW1)))
  clear ht1 hc1 ht2 hc2
  go_enter Try.func14, Try.ntmps14
  go_wp2_with fail
  refine (dbegun_any _).mono ?_
  rintro e w1 ⟨rfl, hb1⟩
  have hB1 := hbx.trans (hb1.mono (by simp <;> omega))
  have e0 : w1.cell? ⟨w.heap.size, 0, none⟩ = some (.string s1) := by rw [hb1.cell (by simp <;> omega)]; go_simp
  have e1 : w1.cell? ⟨w.heap.size, 1, none⟩ = some (.slice ka1 (flen k1) cap1) := by rw [hb1.cell (by simp <;> omega)]; go_simp
  have e2 : w1.cell? ⟨w.heap.size + 1, 0, none⟩ = some (.string s2) := by rw [hb1.cell (by simp)]; go_simp
  have e3 : w1.cell? ⟨w.heap.size + 1, 1, none⟩ = some (.slice ka2 (flen k2) cap2) := by rw [hb1.cell (by simp)]; go_simp
  have HQ1 := hide (HG1.out w1 hB1)
  clear hbx hb1 HG1
  go_wp2_with fail
  refine Calls.mono HQ1.out ?_
  rintro e w2 ⟨rfl, hb2⟩
  have hB2 := hB1.trans (hb2.mono hB1.size)
  replace e0 := cellB hb2 e0
  replace e1 := cellB hb2 e1
  replace e2 := cellB hb2 e2
  replace e3 := cellB hb2 e3
  have HQ2 := hide (HG2.out w2 hB2)
  clear hb2 hB1 HQ1 HG2
  cases hg1 : greatT s1 k1 with
  | true =>
    go_wp2_with fail
    go_ret
    exact ⟨rfl, hB2⟩
  | false =>
    clear hg1
    go_wp2_with fail
    refine Calls.mono HQ2.out ?_
    rintro e w3 ⟨rfl, hb3⟩
    have hB3 := hB2.trans (hb3.mono hB2.size)
    replace e0 := cellB hb3 e0
    replace e1 := cellB hb3 e1
    replace e2 := cellB hb3 e2
    replace e3 := cellB hb3 e3
    have HQ3 := hide (HOF.out w3 hB3)
    clear hb3 hB2 HQ2 HOF
    cases hg2 : greatT s2 k2 with
    | true =>
      go_wp2_with fail
      go_ret
      exact ⟨rfl, hB3⟩
    | false =>
      clear hg2
      go_wp2_with fail
      refine Calls.mono HQ3.out ?_
      rintro e w4 ⟨hoe, hb4⟩
      have hB4 := hB3.trans (hb4.mono hB3.size)
      clear hb4 hB3 HQ3 e0 e1 e2 e3
      rcases hoe with ⟨c, hc, hc0, rfl⟩ | ⟨_, _, T, hTA, hTB, rfl, htab⟩
      · have hcb : (c == 0) = false := beq_eq_false_iff_ne.2 hc0
        go_wp2_with fail
        go_ret
        exact ⟨rfl, hB4⟩
      · have hPK := pairsOk s1 s2 k1 k2 (hTA ▸ htab.okA) (hTB ▸ htab.okB)
        rw [← hTA, ← hTB] at hPK htab
        have HPK := hide hPK
        have HTB := hide htab
        have hA4 := htab.okA.many
        have hB40 := htab.okB.many
        have hA0 := htab.okA.pos
        have hB0 := htab.okB.pos
        have HOA := hide htab.okA
        have HOB := hide htab.okB
        have HN := hide (nodes_any T _ w4 htab)
        clear hPK htab hTA hTB
        go_wp2_with fail
        refine Calls.mono HN.out ?_
        rintro e w5 ⟨g1, c1, g2, c2, rfl, hc1, hm1, hc2, hm2, hn1, hn2, hb5⟩
        have hB5 := hB4.trans (hb5.mono hB4.size)
        have htab5 := HTB.out.below hb5
        have HBE := hide (dbest_any T w5 htab5)
        have HT5 := hide htab5
        have hl1 : g1 < w5.heap.size := by
          obtain ⟨x, hx⟩ : ∃ x, T.A[0]? = some x := ⟨_, List.getElem?_eq_getElem hA0⟩
          exact World.block_lt_of_cell? _ _ (hn1 0 x hx).1
        have hl2 : g2 < w5.heap.size := by
          obtain ⟨x, hx⟩ : ∃ x, T.B[0]? = some x := ⟨_, List.getElem?_eq_getElem hB0⟩
          exact World.block_lt_of_cell? _ _ (hn2 0 x hx).1
        have HN1 := hide hn1
        have HN2 := hide hn2
        unfold maxLen at hm1 hm2
        clear hb5 htab5 hn1 hn2 HTB HN hB4
        go_wp2_with fail
        refine Calls.mono HBE.out ?_
        rintro e w6 ⟨v, rfl, hrow, hb6⟩
        have hB6 := hB5.trans (hb6.mono hB5.size)
        obtain ⟨L, hL⟩ : ∃ L, L = bestP T.A T.B := ⟨_, rfl⟩
        rw [← hL] at hrow HPK
        have hL0 := HPK.out.pos
        have hL1 := HPK.out.many
        obtain ⟨g3, c3, rfl, hg3, hg3l, hc3, hm3⟩ := ownsN_some hrow hL0
        unfold maxLen at hm3
        have hI0 : PrInv w6 T.A T.B g1 g2 g3 L w6 := ⟨Below.refl _ _, HN1.out.of_block (hb6.block _ hl1), HN2.out.of_block (hb6.block _ hl2), PrAt_of_owns hrow, Nat.lt_of_lt_of_le hl1 hb6.size, Nat.lt_of_lt_of_le hl2 hb6.size, hg3l⟩
        have HT6 := hide (HT5.out.below hb6)
        have HI0 := hide hI0
        have HB6 := hide hB6
        clear hrow hb6 hB5 hB6 hL HBE HT5 HN1 HN2 hI0
        go_wp2_with fail
        go_loopg [10, 11] L.length (fun gk v10 v11 wr => ∃ i : Nat, gk = L.length - i ∧ i ≤ L.length ∧ v11 = .int .i64 (i : Nat) ∧ v10 = .int .i64 ((T.A.length : Int) + (T.B.length : Int) - 2 * (L.length : Int) + (names (other T.A T.B) (L.take i) : Int)) ∧ PrInv w6 T.A T.B g1 g2 g3 L wr)
        case atStart => exact ⟨0, rfl, Nat.zero_le _, rfl, by simp [names], HI0.out⟩
        case round =>
          clear HI0
          obtain ⟨i, hgk, hi, rfl, rfl, hI⟩ := hrel
          obtain ⟨wA, hwA⟩ : ∃ wA, wA = wr := ⟨_, rfl⟩
          subst hwA
          have hnl := names_le (A := T.A) (B := T.B) (L.take i)
          have htl : (L.take i).length ≤ 100 := by rw [List.length_take]; omega
          obtain ⟨nm, hnm⟩ : ∃ nm, nm = names (other T.A T.B) (L.take i) := ⟨_, rfl⟩
          rw [← hnm] at hnl ⊢
          have hnl2 : nm ≤ 100 := by omega
          clear hnl htl
          by_cases hin : i < L.length
          · obtain ⟨p, hp⟩ : ∃ p, L[i]? = some p := ⟨_, List.getElem?_eq_getElem hin⟩
            obtain ⟨hpa, hpb⟩ := HPK.out.inn i p hp
            obtain ⟨l0, l1⟩ := hI.pr i p hp
            have HNM := hide (show names (other T.A T.B) (L.take (i + 1)) = nm + other T.A T.B p.1 p.2 by rw [hnm]; exact names_take _ _ _ _ hp)
            have HI := hide hI
            have HP := hide hp
            clear hI hnm hp
            go_wp2_with fail
            obtain ⟨W2, hW2⟩ : ∃ W2, W2 = wA.alloc (Obj.cells #[.int .i64 (p.1 : Int), .int .i64 (p.2 : Int)] 78) := ⟨_, rfl⟩
            rw [← hW2]
            have hbA : Below wA.heap.size wA W2 := by rw [hW2]; exact (Below.refl _ _).alloc (Nat.le_refl _) _
            have z0 : W2.cell? ⟨wA.heap.size, 0, none⟩ = some (.int .i64 (p.1 : Int)) := by rw [hW2]; go_simp
            have z1 : W2.cell? ⟨wA.heap.size, 1, none⟩ = some (.int .i64 (p.2 : Int)) := by rw [hW2]; go_simp
            have HI2 := hide (HI.out.on hbA)
            have Z0 := hide z0
            have Z1 := hide z1
            have d1 : decide ((p.1 : Int) < 0) = false := decide_eq_false (by omega)
            have d2 : decide (T.A.length ≤ p.1) = false := decide_eq_false (by omega)
            have d3 : decide ((p.2 : Int) < 0) = false := decide_eq_false (by omega)
            have d4 : decide (T.B.length ≤ p.2) = false := decide_eq_false (by omega)
            clear hbA hW2 HI l0 l1
            by_cases hi0 : i = 0
            · have d5 : decide (0 < i) = false := decide_eq_false (by omega)
              clear hi0
              go_quiet (fail)
              obtain ⟨nq0, hnq0⟩ : ∃ nq0, nq0 = nq := ⟨_, rfl⟩
              subst hnq0
              go_wp2_with fail
              have x0 := (HI2.out.node HOA.out hpa).1
              have y0 := (HI2.out.node2 HOB.out hpb).1
              by_cases hlab : labs T.A p.1 = labs T.B p.2
              · have hb := lab_same hlab
                have HOT := hide (show other T.A T.B p.1 p.2 = 0 by unfold other; rw [if_pos hlab])
                clear hlab
                go_quiet (fail)
                go_wp2_with fail
                have HBS := hide (fun n => below_drewN (Below.refl W2.heap.size W2) n)
                clear hb x0 y0
                go_loopg [13] i (fun gk v13 wr => ∃ k : Nat, gk = i - k ∧ k ≤ i ∧ v13 = .int .i64 (k : Nat) ∧ Below W2.heap.size W2 wr)
                case atStart => exact ⟨0, rfl, Nat.zero_le _, rfl, by first | exact HBS.out _ | exact below_drewN (HBS.out _) _⟩
                case round =>
                  obtain ⟨k, hgk2, hk, rfl, hb⟩ := hrel
                  have hI3 := HI2.out.on hb
                  by_cases hkin : k < i
                  · obtain ⟨r, hr⟩ : ∃ r, L[k]? = some r := ⟨_, List.getElem?_eq_getElem (by omega)⟩
                    obtain ⟨_, _, hah⟩ := HPK.out.ord k i r p hkin hr HP.out
                    obtain ⟨r0, r1⟩ := hI3.pr k r hr
                    obtain ⟨_, x2⟩ := hI3.node HOA.out hpa
                    obtain ⟨_, y2⟩ := hI3.node2 HOB.out hpb
                    have z0' := cellB hb Z0.out
                    have z1' := cellB hb Z1.out
                    have HB := hide hb
                    have hra := (HPK.out.inn k r hr).1
                    have hrb := (HPK.out.inn k r hr).2
                    have hlp := HOA.out.post.le p.1 hpa
                    have hlq := HOB.out.post.le p.2 hpb
                    clear hb hI3 hr
                    by_cases hle : lefts T.A p.1 ≤ r.1
                    · have d1 : decide (lefts T.A p.1 ≤ r.1) = true := decide_eq_true (by omega)
                      have d2 : decide (lefts T.B p.2 ≤ r.2) = true := decide_eq_true (by have := hah.1 hle; omega)
                      clear hah hle
                      go_wp2_with fail
                      go_quiet (fail)
                      go_wp2_with fail
                      go_roundg (i - (k + 1))
                      case measure => omega
                      case rel => exact ⟨k + 1, rfl, by omega, by go_num, below_drewN HB.out _⟩
                    · have d1 : decide (lefts T.A p.1 ≤ r.1) = false := decide_eq_false (by omega)
                      have d2 : decide (lefts T.B p.2 ≤ r.2) = false := decide_eq_false (fun h => hle (hah.2 (by omega)))
                      clear hah hle
                      go_wp2_with fail
                      go_quiet (fail)
                      go_wp2_with fail
                      go_roundg (i - (k + 1))
                      case measure => omega
                      case rel => exact ⟨k + 1, rfl, by omega, by go_num, below_drewN HB.out _⟩
                  · have hke : k = i := by omega
                    subst hke
                    have HI3 := hide hI3
                    clear hI3 hb
                    go_wp2_with fail
                    go_roundg (L.length - (k + 1))
                    case measure => omega
                    case rel => exact ⟨k + 1, rfl, by omega, by go_num, by rw [HNM.out, HOT.out]; go_num, HI3.out⟩
              · have hb := lab_other hlab
                have HOT := hide (show other T.A T.B p.1 p.2 = 1 by unfold other; rw [if_neg hlab])
                clear hlab
                go_quiet (fail)
                go_wp2_with fail
                have HBS := hide (fun n => below_drewN (Below.refl W2.heap.size W2) n)
                clear hb x0 y0
                go_loopg [13] i (fun gk v13 wr => ∃ k : Nat, gk = i - k ∧ k ≤ i ∧ v13 = .int .i64 (k : Nat) ∧ Below W2.heap.size W2 wr)
                case atStart => exact ⟨0, rfl, Nat.zero_le _, rfl, by first | exact HBS.out _ | exact below_drewN (HBS.out _) _⟩
                case round =>
                  obtain ⟨k, hgk2, hk, rfl, hb⟩ := hrel
                  have hI3 := HI2.out.on hb
                  by_cases hkin : k < i
                  · obtain ⟨r, hr⟩ : ∃ r, L[k]? = some r := ⟨_, List.getElem?_eq_getElem (by omega)⟩
                    obtain ⟨_, _, hah⟩ := HPK.out.ord k i r p hkin hr HP.out
                    obtain ⟨r0, r1⟩ := hI3.pr k r hr
                    obtain ⟨_, x2⟩ := hI3.node HOA.out hpa
                    obtain ⟨_, y2⟩ := hI3.node2 HOB.out hpb
                    have z0' := cellB hb Z0.out
                    have z1' := cellB hb Z1.out
                    have HB := hide hb
                    have hra := (HPK.out.inn k r hr).1
                    have hrb := (HPK.out.inn k r hr).2
                    have hlp := HOA.out.post.le p.1 hpa
                    have hlq := HOB.out.post.le p.2 hpb
                    clear hb hI3 hr
                    by_cases hle : lefts T.A p.1 ≤ r.1
                    · have d1 : decide (lefts T.A p.1 ≤ r.1) = true := decide_eq_true (by omega)
                      have d2 : decide (lefts T.B p.2 ≤ r.2) = true := decide_eq_true (by have := hah.1 hle; omega)
                      clear hah hle
                      go_wp2_with fail
                      go_quiet (fail)
                      go_wp2_with fail
                      go_roundg (i - (k + 1))
                      case measure => omega
                      case rel => exact ⟨k + 1, rfl, by omega, by go_num, below_drewN HB.out _⟩
                    · have d1 : decide (lefts T.A p.1 ≤ r.1) = false := decide_eq_false (by omega)
                      have d2 : decide (lefts T.B p.2 ≤ r.2) = false := decide_eq_false (fun h => hle (hah.2 (by omega)))
                      clear hah hle
                      go_wp2_with fail
                      go_quiet (fail)
                      go_wp2_with fail
                      go_roundg (i - (k + 1))
                      case measure => omega
                      case rel => exact ⟨k + 1, rfl, by omega, by go_num, below_drewN HB.out _⟩
                  · have hke : k = i := by omega
                    subst hke
                    have HI3 := hide hI3
                    clear hI3 hb
                    go_wp2_with fail
                    go_roundg (L.length - (k + 1))
                    case measure => omega
                    case rel => exact ⟨k + 1, rfl, by omega, by go_num, by rw [HNM.out, HOT.out]; go_num, HI3.out⟩
            · obtain ⟨q, hq⟩ : ∃ q, L[i - 1]? = some q := ⟨_, List.getElem?_eq_getElem (by omega)⟩
              obtain ⟨ha1, ha2, _⟩ := HPK.out.ord (i - 1) i q p (by omega) hq HP.out
              obtain ⟨q0, q1⟩ := HI2.out.pr (i - 1) q hq
              have d5 : decide (0 < i) = true := decide_eq_true (by omega)
              have d6 : decide (p.1 ≤ q.1) = false := decide_eq_false (by omega)
              have d7 : decide (p.2 ≤ q.2) = false := decide_eq_false (by omega)
              have hi1 : 0 < i := by omega
              clear hq hi0
              go_quiet (fail)
              obtain ⟨nq0, hnq0⟩ : ∃ nq0, nq0 = nq := ⟨_, rfl⟩
              subst hnq0
              go_wp2_with fail
              have x0 := (HI2.out.node HOA.out hpa).1
              have y0 := (HI2.out.node2 HOB.out hpb).1
              by_cases hlab : labs T.A p.1 = labs T.B p.2
              · have hb := lab_same hlab
                have HOT := hide (show other T.A T.B p.1 p.2 = 0 by unfold other; rw [if_pos hlab])
                clear hlab
                go_quiet (fail)
                go_wp2_with fail
                have HBS := hide (fun n => below_drewN (Below.refl W2.heap.size W2) n)
                clear hb x0 y0
                go_loopg [13] i (fun gk v13 wr => ∃ k : Nat, gk = i - k ∧ k ≤ i ∧ v13 = .int .i64 (k : Nat) ∧ Below W2.heap.size W2 wr)
                case atStart => exact ⟨0, rfl, Nat.zero_le _, rfl, by first | exact HBS.out _ | exact below_drewN (HBS.out _) _⟩
                case round =>
                  obtain ⟨k, hgk2, hk, rfl, hb⟩ := hrel
                  have hI3 := HI2.out.on hb
                  by_cases hkin : k < i
                  · obtain ⟨r, hr⟩ : ∃ r, L[k]? = some r := ⟨_, List.getElem?_eq_getElem (by omega)⟩
                    obtain ⟨_, _, hah⟩ := HPK.out.ord k i r p hkin hr HP.out
                    obtain ⟨r0, r1⟩ := hI3.pr k r hr
                    obtain ⟨_, x2⟩ := hI3.node HOA.out hpa
                    obtain ⟨_, y2⟩ := hI3.node2 HOB.out hpb
                    have z0' := cellB hb Z0.out
                    have z1' := cellB hb Z1.out
                    have HB := hide hb
                    have hra := (HPK.out.inn k r hr).1
                    have hrb := (HPK.out.inn k r hr).2
                    have hlp := HOA.out.post.le p.1 hpa
                    have hlq := HOB.out.post.le p.2 hpb
                    clear hb hI3 hr
                    by_cases hle : lefts T.A p.1 ≤ r.1
                    · have d1 : decide (lefts T.A p.1 ≤ r.1) = true := decide_eq_true (by omega)
                      have d2 : decide (lefts T.B p.2 ≤ r.2) = true := decide_eq_true (by have := hah.1 hle; omega)
                      clear hah hle
                      go_wp2_with fail
                      go_quiet (fail)
                      go_wp2_with fail
                      go_roundg (i - (k + 1))
                      case measure => omega
                      case rel => exact ⟨k + 1, rfl, by omega, by go_num, below_drewN HB.out _⟩
                    · have d1 : decide (lefts T.A p.1 ≤ r.1) = false := decide_eq_false (by omega)
                      have d2 : decide (lefts T.B p.2 ≤ r.2) = false := decide_eq_false (fun h => hle (hah.2 (by omega)))
                      clear hah hle
                      go_wp2_with fail
                      go_quiet (fail)
                      go_wp2_with fail
                      go_roundg (i - (k + 1))
                      case measure => omega
                      case rel => exact ⟨k + 1, rfl, by omega, by go_num, below_drewN HB.out _⟩
                  · have hke : k = i := by omega
                    subst hke
                    have HI3 := hide hI3
                    clear hI3 hb
                    go_wp2_with fail
                    go_roundg (L.length - (k + 1))
                    case measure => omega
                    case rel => exact ⟨k + 1, rfl, by omega, by go_num, by rw [HNM.out, HOT.out]; go_num, HI3.out⟩
              · have hb := lab_other hlab
                have HOT := hide (show other T.A T.B p.1 p.2 = 1 by unfold other; rw [if_neg hlab])
                clear hlab
                go_quiet (fail)
                go_wp2_with fail
                have HBS := hide (fun n => below_drewN (Below.refl W2.heap.size W2) n)
                clear hb x0 y0
                go_loopg [13] i (fun gk v13 wr => ∃ k : Nat, gk = i - k ∧ k ≤ i ∧ v13 = .int .i64 (k : Nat) ∧ Below W2.heap.size W2 wr)
                case atStart => exact ⟨0, rfl, Nat.zero_le _, rfl, by first | exact HBS.out _ | exact below_drewN (HBS.out _) _⟩
                case round =>
                  obtain ⟨k, hgk2, hk, rfl, hb⟩ := hrel
                  have hI3 := HI2.out.on hb
                  by_cases hkin : k < i
                  · obtain ⟨r, hr⟩ : ∃ r, L[k]? = some r := ⟨_, List.getElem?_eq_getElem (by omega)⟩
                    obtain ⟨_, _, hah⟩ := HPK.out.ord k i r p hkin hr HP.out
                    obtain ⟨r0, r1⟩ := hI3.pr k r hr
                    obtain ⟨_, x2⟩ := hI3.node HOA.out hpa
                    obtain ⟨_, y2⟩ := hI3.node2 HOB.out hpb
                    have z0' := cellB hb Z0.out
                    have z1' := cellB hb Z1.out
                    have HB := hide hb
                    have hra := (HPK.out.inn k r hr).1
                    have hrb := (HPK.out.inn k r hr).2
                    have hlp := HOA.out.post.le p.1 hpa
                    have hlq := HOB.out.post.le p.2 hpb
                    clear hb hI3 hr
                    by_cases hle : lefts T.A p.1 ≤ r.1
                    · have d1 : decide (lefts T.A p.1 ≤ r.1) = true := decide_eq_true (by omega)
                      have d2 : decide (lefts T.B p.2 ≤ r.2) = true := decide_eq_true (by have := hah.1 hle; omega)
                      clear hah hle
                      go_wp2_with fail
                      go_quiet (fail)
                      go_wp2_with fail
                      go_roundg (i - (k + 1))
                      case measure => omega
                      case rel => exact ⟨k + 1, rfl, by omega, by go_num, below_drewN HB.out _⟩
                    · have d1 : decide (lefts T.A p.1 ≤ r.1) = false := decide_eq_false (by omega)
                      have d2 : decide (lefts T.B p.2 ≤ r.2) = false := decide_eq_false (fun h => hle (hah.2 (by omega)))
                      clear hah hle
                      go_wp2_with fail
                      go_quiet (fail)
                      go_wp2_with fail
                      go_roundg (i - (k + 1))
                      case measure => omega
                      case rel => exact ⟨k + 1, rfl, by omega, by go_num, below_drewN HB.out _⟩
                  · have hke : k = i := by omega
                    subst hke
                    have HI3 := hide hI3
                    clear hI3 hb
                    go_wp2_with fail
                    go_roundg (L.length - (k + 1))
                    case measure => omega
                    case rel => exact ⟨k + 1, rfl, by omega, by go_num, by rw [HNM.out, HOT.out]; go_num, HI3.out⟩
          · have hie : i = L.length := by omega
            subst hie
            obtain ⟨l0, l1⟩ := hI.pr (L.length - 1) _ HPK.out.last
            simp only at l0 l1
            rw [show ((T.A.length - 1 : Nat) : Int) = (T.A.length : Int) - 1 by omega] at l0
            rw [show ((T.B.length - 1 : Nat) : Int) = (T.B.length : Int) - 1 by omega] at l1
            have hco := HPK.out.cost
            rw [List.take_length] at hnm
            rw [← hnm] at hco
            obtain ⟨cc, hcc⟩ : ∃ cc, cc = costP T.A T.B := ⟨_, rfl⟩
            have HCO := hide (fun W (hW : Below w6.heap.size w6 W) => cost_any T W (HT6.out.below hW))
            rw [← hcc] at hco HCO
            have hz : (((T.A.length : Int) + (T.B.length : Int) - 2 * (L.length : Int) + (nm : Int)) == (cc : Int)) = true := beq_iff_eq.2 (by omega)
            have HBL := hide hI.below
            clear hI hnm hco hcc
            go_wp2_with fail
            refine Calls.mono (HCO.out _ (HBL.out.alloc HBL.out.size _)) ?_
            rintro e w8 ⟨rfl, hb8⟩
            have HB8 := hide (HB6.out.trans (((HBL.out.alloc HBL.out.size _).trans (hb8.mono (by simp; have := HBL.out.size; omega))).mono HB6.out.size))
            clear hb8 HCO
            go_wp2_with fail
            go_ret
            exact ⟨rfl, HB8.out⟩
end Go.Proofs.Ytpjlajjbioploaa.Dist
