/- SameDeeds of package pleachingref, greatDeeds of package pleachinglaw. Of the program's text. -/
/- pleachinglaw.ScriptRuns answers true. Of the program's text. -/
/- What a reading of an api.Tree, of a path and of a string says of memory. Of the program's types. -/
import Derived.Test.YtcknganggcbkjabProg
import Derived.Test.YtcknganggcbkjabGS06
import Derived.Test.YtcknganggcbkjabGS37
import Derived.Deep.RegionHeld3
import Derived.Deep.LoopGhost
import Derived.WalkSmall
import Derived.Test.YtcknganggcbkjabGS35
import Derived.Laws.StructEq
import Derived.Test.YtcknganggcbkjabGS00
import Derived.Test.YtcknganggcbkjabGS04
import Derived.ProofKit
import Derived.Lib.SmallJoins
namespace Go.Proofs.Ytcknganggcbkjab.Deed
open Go.Deep Go.RowKit
set_option linter.unusedVariables false
set_option maxRecDepth 20000

/-- Are two lists of deeds the same? -/
def eqDds : List Dd → List Dd → Bool
  | [], [] => true
  | d :: l, e :: m => sameDd d e && eqDds l m
  | [], _ :: _ => false
  | _ :: _, [] => false
theorem eqDds_iff : ∀ (l m : List Dd), eqDds l m = true ↔ l = m
  | [], [] => by simp [eqDds]
  | d :: l, e :: m => by simp [eqDds, sameDd_iff, eqDds_iff l m]
  | [], _ :: _ => by simp [eqDds]
  | _ :: _, [] => by simp [eqDds]
theorem eqDds_no {l m : List Dd} (h : l ≠ m) : eqDds l m = false := by
  cases e : eqDds l m
  · rfl
  · exact absurd ((eqDds_iff l m).1 e) h
theorem take_on {α : Type} {A B : List α} {i : Nat} {x : α} (h : A.take i = B.take i) (ha : A[i]? = some x) (hb : B[i]? = some x) : A.take (i + 1) = B.take (i + 1) := by
  have h1 := (List.getElem?_eq_some_iff.1 ha)
  have h2 := (List.getElem?_eq_some_iff.1 hb)
  rw [List.take_succ_eq_append_getElem h1.1, List.take_succ_eq_append_getElem h2.1, h, h1.2, h2.2]

set_option maxHeartbeats 2000000 in
theorem sameDs_any (la lb : Option Addr) (lc mc : Nat) (L M : List Pd) (w : World) (hL : DsIn w la L) (hM : DsIn w lb M) (hl : L.length ≤ lc) (hlm : lc ≤ maxLen) (hm : M.length ≤ mc) (hmm : mc ≤ maxLen) (hp : ∀ x, x ∈ L → x.1.path.length ≤ 100000) :
    Calls Try.prog 39 #[.slice la L.length lc, .slice lb M.length mc] w fun e w' => e = .returned (.bool (eqDds (dds L) (dds M))) ∧ Below w.heap.size w w' := by
  unfold maxLen at hlm hmm
  by_cases hlen : L.length = M.length
  · have hb : ((L.length : Int) == (M.length : Int)) = true := beq_iff_eq.2 (by omega)
    rw [← hlen]
    have HLE := hide hlen
    have HL := hide hL
    have HM := hide hM
    have HP := hide hp
    clear hlen hL hM hp
    go_enter Try.func39, Try.ntmps39
    go_wp2_with fail
    go_loopg [5] L.length (fun gk v wr => ∃ i : Nat, gk = L.length - i ∧ i ≤ L.length ∧ v = .int .i64 (i : Nat) ∧ Hid ((dds L).take i = (dds M).take i) ∧ Below w.heap.size w wr)
    case atStart => exact ⟨0, rfl, Nat.zero_le _, rfl, hide (by simp), Below.refl _ _⟩
    case round =>
      obtain ⟨i, hgk, hi, rfl, hsame, hbr⟩ := hrel
      obtain ⟨wA, hwA⟩ : ∃ wA, wA = wr := ⟨_, rfl⟩
      subst hwA
      by_cases hlt : i < L.length
      · obtain ⟨x, hx⟩ : ∃ x, L[i]? = some x := ⟨_, List.getElem?_eq_getElem hlt⟩
        obtain ⟨y, hy⟩ : ∃ y, M[i]? = some y := ⟨_, List.getElem?_eq_getElem (by have := HLE.out; omega)⟩
        obtain ⟨b, o, rfl, x0, x1, x2, x3, x4, hxd⟩ := (HL.out.below hbr).at hx
        obtain ⟨c, q, rfl, y0, y1, y2, y3, y4, hyd⟩ := (HM.out.below hbr).at hy
        have hxp := HP.out x (List.mem_of_getElem? hx)
        have HX := hide (dds_at hx)
        have HY := hide (dds_at hy)
        clear hx hy
        obtain ⟨d, pa, pc⟩ := x
        obtain ⟨e, qa, qc⟩ := y
        simp only at x0 x1 x2 x3 x4 y0 y1 y2 y3 y4 hxd hyd hxp HX HY
        have hk : ∀ W, Below wA.heap.size wA W → (Below wA.heap.size wA W ∧ W.cell? ⟨b, o + i * 5, none⟩ = some (.int .i64 d.kind) ∧ W.cell? ⟨b, o + i * 5 + 1, none⟩ = some (.slice pa d.path.length pc) ∧ W.cell? ⟨b, o + i * 5 + 2, none⟩ = some (.int .i64 d.pos) ∧ W.cell? ⟨b, o + i * 5 + 3, none⟩ = some (.int .i64 d.many) ∧ W.cell? ⟨b, o + i * 5 + 4, none⟩ = some (.string d.lab) ∧ W.cell? ⟨c, q + i * 5, none⟩ = some (.int .i64 e.kind) ∧ W.cell? ⟨c, q + i * 5 + 1, none⟩ = some (.slice qa e.path.length qc) ∧ W.cell? ⟨c, q + i * 5 + 2, none⟩ = some (.int .i64 e.pos) ∧ W.cell? ⟨c, q + i * 5 + 3, none⟩ = some (.int .i64 e.many) ∧ W.cell? ⟨c, q + i * 5 + 4, none⟩ = some (.string e.lab)) := fun W hW => by
          have g : ∀ (p : Addr) v, wA.cell? p = some v → W.cell? p = some v := fun p v h => by rw [hW.cell (World.block_lt_of_cell? _ _ h)]; exact h
          exact ⟨hW, g _ _ x0, g _ _ x1, g _ _ x2, g _ _ x3, g _ _ x4, g _ _ y0, g _ _ y1, g _ _ y2, g _ _ y3, g _ _ y4⟩
        obtain ⟨sb, hsb⟩ : ∃ sb, sb = sameDd d e := ⟨_, rfl⟩
        have hcl : ∀ W, (Below wA.heap.size wA W ∧ W.cell? ⟨b, o + i * 5, none⟩ = some (.int .i64 d.kind) ∧ W.cell? ⟨b, o + i * 5 + 1, none⟩ = some (.slice pa d.path.length pc) ∧ W.cell? ⟨b, o + i * 5 + 2, none⟩ = some (.int .i64 d.pos) ∧ W.cell? ⟨b, o + i * 5 + 3, none⟩ = some (.int .i64 d.many) ∧ W.cell? ⟨b, o + i * 5 + 4, none⟩ = some (.string d.lab) ∧ W.cell? ⟨c, q + i * 5, none⟩ = some (.int .i64 e.kind) ∧ W.cell? ⟨c, q + i * 5 + 1, none⟩ = some (.slice qa e.path.length qc) ∧ W.cell? ⟨c, q + i * 5 + 2, none⟩ = some (.int .i64 e.pos) ∧ W.cell? ⟨c, q + i * 5 + 3, none⟩ = some (.int .i64 e.many) ∧ W.cell? ⟨c, q + i * 5 + 4, none⟩ = some (.string e.lab)) → Calls Try.prog 30 #[ddV d pa pc, ddV e qa qc] W fun r w' => r = .returned (.bool sb) ∧ (Below wA.heap.size wA w' ∧ w'.cell? ⟨b, o + i * 5, none⟩ = some (.int .i64 d.kind) ∧ w'.cell? ⟨b, o + i * 5 + 1, none⟩ = some (.slice pa d.path.length pc) ∧ w'.cell? ⟨b, o + i * 5 + 2, none⟩ = some (.int .i64 d.pos) ∧ w'.cell? ⟨b, o + i * 5 + 3, none⟩ = some (.int .i64 d.many) ∧ w'.cell? ⟨b, o + i * 5 + 4, none⟩ = some (.string d.lab) ∧ w'.cell? ⟨c, q + i * 5, none⟩ = some (.int .i64 e.kind) ∧ w'.cell? ⟨c, q + i * 5 + 1, none⟩ = some (.slice qa e.path.length qc) ∧ w'.cell? ⟨c, q + i * 5 + 2, none⟩ = some (.int .i64 e.pos) ∧ w'.cell? ⟨c, q + i * 5 + 3, none⟩ = some (.int .i64 e.many) ∧ w'.cell? ⟨c, q + i * 5 + 4, none⟩ = some (.string e.lab)) := fun W hW => by
          rw [hsb]
          exact (sameD_any d e pa qa pc qc W (hxd.below hW.1) (hyd.below hW.1) hxp).mono fun r w' h => ⟨h.1, hk w' (hW.1.trans (h.2.mono hW.1.size))⟩
        unfold ddV at hcl
        have HK := hide (hk wA.drew (Below.refl _ _).drew)
        have HCL := hide hcl
        have HSB := hide hsb
        have hd1 := hxd.len
        have hd2 := hxd.cap
        have he1 := hyd.len
        have he2 := hyd.cap
        unfold maxLen at hd2 he2
        have HBR := hide hbr
        clear hk hcl hsb hxd hyd x0 x1 x2 x3 x4 y0 y1 y2 y3 y4 hbr
        have hLM : (M.length : Int) = (L.length : Int) := by have := HLE.out; omega
        cases sb
        · have HF := hide (show eqDds (dds L) (dds M) = false from eqDds_no fun h => by
            have h1 := HX.out
            rw [h, HY.out] at h1
            injection h1 with h1
            rw [h1, (sameDd_iff d d).2 rfl] at HSB
            cases HSB.out)
          clear hLM
          go_wp2_with fail
          go_region_held3 (fun W => Below wA.heap.size wA W ∧ W.cell? ⟨b, o + i * 5, none⟩ = some (.int .i64 d.kind) ∧ W.cell? ⟨b, o + i * 5 + 1, none⟩ = some (.slice pa d.path.length pc) ∧ W.cell? ⟨b, o + i * 5 + 2, none⟩ = some (.int .i64 d.pos) ∧ W.cell? ⟨b, o + i * 5 + 3, none⟩ = some (.int .i64 d.many) ∧ W.cell? ⟨b, o + i * 5 + 4, none⟩ = some (.string d.lab) ∧ W.cell? ⟨c, q + i * 5, none⟩ = some (.int .i64 e.kind) ∧ W.cell? ⟨c, q + i * 5 + 1, none⟩ = some (.slice qa e.path.length qc) ∧ W.cell? ⟨c, q + i * 5 + 2, none⟩ = some (.int .i64 e.pos) ∧ W.cell? ⟨c, q + i * 5 + 3, none⟩ = some (.int .i64 e.many) ∧ W.cell? ⟨c, q + i * 5 + 4, none⟩ = some (.string e.lab))
            (first | assumption | exact HK.out)
            (first | (go_at_call 30; refine (HCL.out _ (by assumption)).mono ?_; rintro r w2 ⟨rfl, hS2⟩))
          have HB2 := hide (HBR.out.trans (hS2.1.mono HBR.out.size))
          clear hS2
          go_wp2_with fail
          go_ret
          exact ⟨by rw [HF.out]; rfl, HB2.out⟩
        · have HN := hide (take_on hsame.out HX.out (show (dds M)[i]? = some d by rw [HY.out]; have := (sameDd_iff d e).1 HSB.out.symm; rw [this]))
          clear hLM
          go_wp2_with fail
          go_region_held3 (fun W => Below wA.heap.size wA W ∧ W.cell? ⟨b, o + i * 5, none⟩ = some (.int .i64 d.kind) ∧ W.cell? ⟨b, o + i * 5 + 1, none⟩ = some (.slice pa d.path.length pc) ∧ W.cell? ⟨b, o + i * 5 + 2, none⟩ = some (.int .i64 d.pos) ∧ W.cell? ⟨b, o + i * 5 + 3, none⟩ = some (.int .i64 d.many) ∧ W.cell? ⟨b, o + i * 5 + 4, none⟩ = some (.string d.lab) ∧ W.cell? ⟨c, q + i * 5, none⟩ = some (.int .i64 e.kind) ∧ W.cell? ⟨c, q + i * 5 + 1, none⟩ = some (.slice qa e.path.length qc) ∧ W.cell? ⟨c, q + i * 5 + 2, none⟩ = some (.int .i64 e.pos) ∧ W.cell? ⟨c, q + i * 5 + 3, none⟩ = some (.int .i64 e.many) ∧ W.cell? ⟨c, q + i * 5 + 4, none⟩ = some (.string e.lab))
            (first | assumption | exact HK.out)
            (first | (go_at_call 30; refine (HCL.out _ (by assumption)).mono ?_; rintro r w2 ⟨rfl, hS2⟩))
          have HB2 := hide (HBR.out.trans (hS2.1.mono HBR.out.size))
          clear hS2
          go_wp2_with fail
          go_roundg (L.length - (i + 1))
          case measure => omega
          case rel => exact ⟨i + 1, rfl, by omega, by go_num, HN, HB2.out⟩
      · have HT := hide (show eqDds (dds L) (dds M) = true from (eqDds_iff _ _).2 (by
          have h1 := hsame.out
          rw [List.take_of_length_le (by rw [dds_len]; omega), List.take_of_length_le (by rw [dds_len]; have := HLE.out; omega)] at h1
          exact h1))
        have HB := hide hbr
        clear hbr
        go_wp2_with fail
        go_ret
        exact ⟨by rw [HT.out]; rfl, HB.out⟩
  · have hb : ((L.length : Int) == (M.length : Int)) = false := beq_eq_false_iff_ne.2 (by omega)
    have HF := hide (show eqDds (dds L) (dds M) = false from eqDds_no fun h => by
      have := congrArg List.length h
      rw [dds_len, dds_len] at this
      exact hlen this)
    clear hlen hL hM hp
    go_enter Try.func39, Try.ntmps39
    go_wp2_with fail
    go_ret
    exact ⟨by rw [HF.out]; rfl, Below.refl _ _⟩

def greatDs (L : List Dd) : Bool := (L.take 100).any greatD || decide (100 < L.length)
set_option maxHeartbeats 2000000 in
theorem greatDs_any (la : Option Addr) (lc : Nat) (L : List Pd) (w : World) (hL : DsIn w la L) (hl : L.length ≤ lc) (hlm : lc ≤ maxLen) :
    Calls Try.prog 36 #[.slice la L.length lc] w fun e w' => e = .returned (.bool (greatDs (dds L))) ∧ Below w.heap.size w w' := by
  unfold maxLen at hlm
  have HL := hide hL
  clear hL
  go_enter Try.func36, Try.ntmps36
  go_wp2_with fail
  go_loopg [3] L.length (fun gk v wr => ∃ i : Nat, gk = L.length - i ∧ i ≤ L.length ∧ i ≤ 100 ∧ v = .int .i64 (i : Nat) ∧ Hid (((dds L).take i).any greatD = false) ∧ Below w.heap.size w wr)
  case atStart => exact ⟨0, rfl, Nat.zero_le _, Nat.zero_le _, rfl, hide (by simp), Below.refl _ _⟩
  case round =>
    obtain ⟨i, hgk, hi, hi2, rfl, hany, hbr⟩ := hrel
    obtain ⟨wA, hwA⟩ : ∃ wA, wA = wr := ⟨_, rfl⟩
    subst hwA
    by_cases hlt : i < L.length
    · by_cases hlt2 : i < 100
      · obtain ⟨x, hx⟩ : ∃ x, L[i]? = some x := ⟨_, List.getElem?_eq_getElem hlt⟩
        obtain ⟨b, o, rfl, x0, x1, x2, x3, x4, hxd⟩ := (HL.out.below hbr).at hx
        have HX := hide (dds_at hx)
        clear hx
        obtain ⟨d, pa, pc⟩ := x
        simp only at x0 x1 x2 x3 x4 hxd HX
        have hd1 := hxd.len
        have hd2 := hxd.cap
        unfold maxLen at hd2
        have hgr := greatD_any d pa pc wA hxd
        unfold ddV at hgr
        have HTK := hide (show ((dds L).take (i + 1)).any greatD = greatD d by
          have h1 := (List.getElem?_eq_some_iff.1 HX.out)
          rw [List.take_succ_eq_append_getElem h1.1, List.any_append, hany.out, h1.2]
          simp)
        have HGR := hide hgr
        have HBR := hide hbr
        clear hgr hxd hbr
        cases hg : greatD d
        · have HG := hide hg
          rw [hg] at HGR HTK
          clear hg
          go_wp2_with fail
          refine Calls.mono HGR.out ?_
          rintro r w2 ⟨rfl, hb2⟩
          have HB2 := hide (HBR.out.trans (hb2.mono HBR.out.size))
          clear hb2
          go_wp2_with fail
          go_roundg (L.length - (i + 1))
          case measure => omega
          case rel => exact ⟨i + 1, rfl, by omega, by omega, by go_num, HTK, HB2.out⟩
        · have HG := hide (show greatDs (dds L) = true by
            unfold greatDs
            have h1 := HTK.out
            rw [hg] at h1
            have h2 : ((dds L).take 100).any greatD = true := by
              have : ((dds L).take 100).take (i + 1) = (dds L).take (i + 1) := by rw [List.take_take]; congr 1; omega
              rw [← this] at h1
              obtain ⟨z, hz, hz2⟩ := List.any_eq_true.1 h1
              exact List.any_eq_true.2 ⟨z, List.mem_of_mem_take hz, hz2⟩
            rw [h2]
            rfl)
          rw [hg] at HGR
          clear hg HTK
          go_wp2_with fail
          refine Calls.mono HGR.out ?_
          rintro r w2 ⟨rfl, hb2⟩
          have HB2 := hide (HBR.out.trans (hb2.mono HBR.out.size))
          clear hb2
          go_wp2_with fail
          go_ret
          exact ⟨by rw [HG.out]; rfl, HB2.out⟩
      · have HG := hide (show greatDs (dds L) = decide (100 < (L.length : Int)) by
          unfold greatDs
          have hie : i = 100 := by omega
          have h1 := hany.out
          rw [hie] at h1
          rw [h1, dds_len]
          simp
          omega)
        have HB := hide hbr
        clear hbr
        go_wp2_with fail
        go_ret
        exact ⟨by rw [HG.out]; rfl, HB.out⟩
    · have HG := hide (show greatDs (dds L) = decide (100 < (L.length : Int)) by
        unfold greatDs
        have h1 := hany.out
        rw [List.take_of_length_le (by rw [dds_len]; omega)] at h1
        have h2 : ((dds L).take 100).any greatD = false := by
          rw [List.take_of_length_le (by rw [dds_len]; omega)]
          exact h1
        rw [h2, dds_len]
        simp
        omega)
      have HB := hide hbr
      clear hbr
      go_wp2_with fail
      go_ret
      exact ⟨by rw [HG.out]; rfl, HB.out⟩
end Go.Proofs.Ytcknganggcbkjab.Deed
namespace Go.Proofs.Ytcknganggcbkjab.Scr
open Go.Deep Go.RowKit Deed
set_option linter.unusedVariables false
set_option maxRecDepth 20000

theorem small_all {L : List Deed.Pd} (h : greatDs (dds L) = false) : L.length ≤ 100 ∧ ∀ x, x ∈ L → x.1.path.length ≤ 60 ∧ x.1.lab.size ≤ 100 := by
  unfold greatDs at h
  simp only [Bool.or_eq_false_iff, decide_eq_false_iff_not] at h
  obtain ⟨h1, h2⟩ := h
  rw [dds_len] at h2
  refine ⟨by omega, fun x hx => ?_⟩
  have h3 : x.1 ∈ (dds L).take 100 := by
    rw [List.take_of_length_le (by rw [dds_len]; omega)]
    exact List.mem_map.2 ⟨x, hx, rfl⟩
  have h4 : greatD x.1 = false := by
    cases e : greatD x.1
    · rfl
    · rw [List.any_eq_true.2 ⟨x.1, h3, e⟩] at h1
      cases h1
  unfold greatD at h4
  simp only [Bool.or_eq_false_iff, decide_eq_false_iff_not] at h4
  omega

theorem back_short (d : Dd) (s : ByteArray) (k : Fo) (h : d.path.length ≤ 60) : (doP d s k).2.2.path.length ≤ 100000 := by
  have hb : (backP d s k).path.length ≤ 100000 := by
    unfold backP
    split
    · simp only
      omega
    · split
      · simp only [List.length_dropLast]
        omega
      · simp only [List.length_append, List.length_cons, List.length_nil]
        omega
  unfold doP
  split
  · simp
  · split
    · simp
    · split
      · simp
      · split
        · simp
        · exact hb
theorem fwd_short : ∀ {l : List Dd} {t x : ByteArray × Fo} {bs : List Dd}, fwd l t = some (x, bs) → (∀ d, d ∈ l → d.path.length ≤ 60) → ∀ b, b ∈ bs → b.path.length ≤ 100000
  | [], t, x, bs, h, _, b, hb => by
    simp only [fwd, Option.some.injEq, Prod.mk.injEq] at h
    obtain ⟨_, rfl⟩ := h
    simp at hb
  | d :: l, t, x, bs, h, hd, b, hb => by
    obtain ⟨z, b', bs', e1, e2, rfl⟩ := fwd_cons h
    rcases List.mem_append.1 hb with hb | hb
    · exact fwd_short e2 (fun d hd' => hd d (List.mem_cons_of_mem _ hd')) b hb
    · simp only [List.mem_cons, List.not_mem_nil, or_false] at hb
      have := back_short d t.1 t.2 (hd d (List.mem_cons_self ..))
      rw [e1] at this
      rw [hb]
      exact this
theorem run_short {l : List Dd} {s : ByteArray} {k : Fo} (h : ∀ d, d ∈ l → d.path.length ≤ 60) : ∀ b, b ∈ (runP l s k).2.2 → b.path.length ≤ 100000 := fun b hb => by
  unfold runP at hb
  split at hb
  · split at hb
    · split at hb
      · simp at hb
      · split at hb
        · simp at hb
        · rename_i y hy
          exact fwd_short (x := y.1) (bs := y.2) hy h b hb
    · simp at hb
  · simp at hb

set_option maxHeartbeats 4000000 in
theorem law_any (L : List Deed.Pd) (la : Option Addr) (lc : Nat) (s : ByteArray) (ka : Option Addr) (cap : Nat) (k : Fo) (w : World) (ht : TIn w s ka cap k) (hL : DsIn w la L) (hl1 : L.length ≤ lc) (hl2 : lc ≤ maxLen) (hm : ∀ x, x ∈ L → x.1.many ≤ 9223372036854775807) :
    Calls Try.prog 8 #[.agg #[.string s, .slice ka (flen k) cap], .slice la L.length lc] w fun r w' => r = .returned (.bool true) ∧ Below w.heap.size w w' := by
  obtain ⟨W, hW⟩ : ∃ W, W = w.alloc (Obj.cells #[Value.string s, Value.slice ka (flen k) cap] 24) := ⟨_, rfl⟩
  have bW : Below w.heap.size w W := by rw [hW]; exact (Below.refl _ _).alloc (Nat.le_refl _) _
  have sW : W.heap.size = w.heap.size + 1 := by rw [hW]; simp
  have nW : W.heap[w.heap.size]? = some (Obj.cells #[Value.string s, Value.slice ka (flen k) cap] 24) := by rw [hW]; exact heap_alloc_new _ _
  have HT := hide (fun (W' : World) (h : Below W.heap.size W W') => (show TIn W' s ka cap k ∧ DsIn W' la L from ⟨ht.below (bW.trans (h.mono (by omega))), hL.below (bW.trans (h.mono (by omega)))⟩))
  have HW := hide (And.intro bW (And.intro sW nW))
  have HM := hide hm
  have HL2 := hide hl2
  have hl2' := hl2
  unfold maxLen at hl2
  clear bW sW nW ht hL hm hl2'
  go_enter Try.func8, Try.ntmps8
  go_wp2_with fail
  rw [← hW]
  clear hW
  refine Calls.mono (begun_any W) ?_
  rintro r w1 ⟨rfl, hb1⟩
  have hsW := HW.out.2.1
  have i0 : w1.heap[w.heap.size]? = _ := (hb1.block _ (by omega)).trans HW.out.2.2
  have a0 : w1.cell? ⟨w.heap.size, 0, none⟩ = some (.string s) := by rw [cell_of_row _ _ 0 _ _ _ i0]; rfl
  have a1 : w1.cell? ⟨w.heap.size, 1, none⟩ = some (.slice ka (flen k) cap) := by rw [cell_of_row _ _ 1 _ _ _ i0]; rfl
  have HB1 := hide hb1
  clear hb1 i0
  go_wp2_with fail
  refine Calls.mono (great_any s ka cap k w1 (HT.out w1 HB1.out).1) ?_
  rintro r w2 ⟨rfl, hb2'⟩
  have hb2 : Below W.heap.size W w2 := HB1.out.trans (hb2'.mono HB1.out.size)
  have HB2 := hide hb2
  cases hg : greatT s k
  case true =>
    clear a0 a1 hb2' hb2
    go_wp2_with fail
    go_ret
    exact ⟨rfl, HW.out.1.trans (HB2.out.mono (by omega))⟩
  case false =>
    have HG := hide hg
    have HGD := hide (greatDs_any la lc L w2 (HT.out w2 hb2).2 hl1 HL2.out)
    clear hg hb2' hb2 a0 a1
    cases hgd : greatDs (dds L)
    case true =>
      rw [hgd] at HGD
      clear hgd
      go_wp2_with fail
      refine Calls.mono HGD.out ?_
      rintro r w3 ⟨rfl, hb3⟩
      have HB3 := hide (HB2.out.trans (hb3.mono HB2.out.size))
      clear hb3
      go_wp2_with fail
      go_ret
      exact ⟨rfl, HW.out.1.trans (HB3.out.mono (by omega))⟩
    case false =>
      rw [hgd] at HGD
      obtain ⟨hl100, hsm⟩ := small_all hgd
      have HSM := hide hsm
      clear hgd hsm
      go_wp2_with fail
      refine Calls.mono HGD.out ?_
      rintro r w3 ⟨rfl, hb3'⟩
      have hb3 : Below W.heap.size W w3 := HB2.out.trans (hb3'.mono HB2.out.size)
      have i0 : w3.heap[w.heap.size]? = _ := (hb3.block _ (by omega)).trans HW.out.2.2
      have a0 : w3.cell? ⟨w.heap.size, 0, none⟩ = some (.string s) := by rw [cell_of_row _ _ 0 _ _ _ i0]; rfl
      have a1 : w3.cell? ⟨w.heap.size, 1, none⟩ = some (.slice ka (flen k) cap) := by rw [cell_of_row _ _ 1 _ _ _ i0]; rfl
      have hn200 := greatT_small HG.out
      obtain ⟨hs1000, hlong⟩ := great_long HG.out
      have HOW := hide (refOwn_any s ka cap k w3 (by omega) (HT.out w3 hb3).1)
      have HB3 := hide hb3
      clear hb3 hb3' i0 HGD HB1 HB2
      go_wp2_with fail
      refine Calls.mono HOW.out ?_
      rintro r w4 ⟨kaO, capO, kO, rfl, hstO, htO, _, hplO, _, hb4⟩
      obtain ⟨V4, hV4⟩ : ∃ V4, V4 = w4.alloc (Obj.cells #[Value.string s, Value.slice kaO (flen kO) capO] 24) := ⟨_, rfl⟩
      have b4V : Below w4.heap.size w4 V4 := by rw [hV4]; exact (Below.refl _ _).alloc (Nat.le_refl _) _
      have sV4 : V4.heap.size = w4.heap.size + 1 := by rw [hV4]; simp
      have nV4 : V4.heap[w4.heap.size]? = some (Obj.cells #[Value.string s, Value.slice kaO (flen kO) capO] 24) := by rw [hV4]; exact heap_alloc_new _ _
      have z3 := HB3.out.size
      have z4 := hb4.size
      have BV4 : Below W.heap.size W V4 := HB3.out.trans ((hb4.trans (b4V.mono z4)).mono z3)
      have hrun := prun_any L la lc s kaO capO kO V4 (htO.below b4V) (hplO.below b4V) (by rw [fnodes_of_strip hstO]; exact hn200) hl1 HL2.out (HT.out V4 BV4).2 HSM.out
      rw [runP_congr _ s hstO] at hrun
      obtain ⟨R, hR⟩ : ∃ R, R = runP (dds L) s k := ⟨_, rfl⟩
      rw [← hR] at hrun
      have HRN := hide hrun
      have hrr := fun (U : World) (hU : Below W.heap.size W U) => rrun_any L la lc s ka cap k U (HT.out U hU).1 hl1 HL2.out (HT.out U hU).2 (fun x hx => ⟨(HSM.out x hx).1, HM.out x hx⟩)
      rw [← hR] at hrr
      have HRR := hide hrr
      have HO := hide (And.intro (htO.below b4V) (And.intro hstO (And.intro nV4 BV4)))
      have hcO := htO.cap
      have hcO2 := htO.len
      unfold maxLen at hcO
      have HSH := hide (show ∀ b, b ∈ R.2.2 → b.path.length ≤ 100000 by
        rw [hR]
        exact run_short fun d hd => by
          obtain ⟨x, hx, rfl⟩ := List.mem_map.1 hd
          exact (HSM.out x hx).1)
      clear hrun hrr hR hstO htO hplO hb4 b4V nV4 BV4 HOW a0 a1
      go_wp2_with fail
      rw [← hV4]
      clear hV4
      refine Calls.mono HRN.out ?_
      rintro r w5 ⟨sx, kax, capx, kx, va, vc, A, rfl, hsx, hstx, hA, htx, _, _, hdsA, hv1, hv2, hb5, _⟩
      obtain ⟨c1, hc1⟩ : ∃ c1, c1 = R.1.1 := ⟨_, rfl⟩
      obtain ⟨c2, hc2⟩ : ∃ c2, c2 = R.1.2 := ⟨_, rfl⟩
      rw [← hc1, ← hc2]
      have HCC := hide (And.intro hc1 hc2)
      obtain ⟨V6, hV6⟩ : ∃ V6, V6 = (w5.alloc (Obj.cells #[Value.string sx, Value.slice kax (flen kx) capx] 24)).alloc (Obj.cells #[.int .i64 c1, .int .i64 c2] 57) := ⟨_, rfl⟩
      obtain ⟨sV6, b6, n6, n6f⟩ := boxes2 w5 (Obj.cells #[Value.string sx, Value.slice kax (flen kx) capx] 24) (Obj.cells #[.int .i64 c1, .int .i64 c2] 57)
      rw [← hV6] at sV6 b6 n6 n6f
      have z5 := hb5.size
      have z6 := b6.size
      have B6 : Below V4.heap.size V4 V6 := hb5.trans (b6.mono z5)
      have BW6 : Below W.heap.size W V6 := HO.out.2.2.2.trans (B6.mono (by omega))
      have i0 : V6.heap[w.heap.size]? = _ := (BW6.block _ (by omega)).trans HW.out.2.2
      have a0 : V6.cell? ⟨w.heap.size, 0, none⟩ = some (.string s) := by rw [cell_of_row _ _ 0 _ _ _ i0]; rfl
      have a1 : V6.cell? ⟨w.heap.size, 1, none⟩ = some (.slice ka (flen k) cap) := by rw [cell_of_row _ _ 1 _ _ _ i0]; rfl
      have HX := hide (And.intro hsx (And.intro hstx (And.intro hA (And.intro (htx.below b6) (And.intro (hdsA.below b6) (And.intro n6 (And.intro n6f (And.intro B6 BW6))))))))
      have hcx := htx.cap
      have hcx2 := htx.len
      have HV2 := hide hv2
      have hv2' := hv2
      unfold maxLen at hcx hv2
      have HRR6 := hide (HRR.out V6 BW6)
      clear hsx hstx hA htx hdsA hb5 b6 n6 n6f B6 BW6 i0 hc1 hc2 HRN HRR hv2'
      rw [hV6] at a0 a1
      go_wp2_with fail
      rw [← hV6]
      clear hV6 a0 a1
      refine Calls.mono HRR6.out ?_
      rintro r w7 ⟨sy, kay, capy, ky, ua, uc, K, rfl, hsy, hsty, hK, hty, hdsK, hu1, hu2, hb7⟩
      rw [← HCC.out.1, ← HCC.out.2]
      obtain ⟨V8, hV8⟩ : ∃ V8, V8 = (w7.alloc (Obj.cells #[Value.string sy, Value.slice kay (flen ky) capy] 24)).alloc (Obj.cells #[.int .i64 c1, .int .i64 c2] 57) := ⟨_, rfl⟩
      obtain ⟨sV8, b8, n8, n8f⟩ := boxes2 w7 (Obj.cells #[Value.string sy, Value.slice kay (flen ky) capy] 24) (Obj.cells #[.int .i64 c1, .int .i64 c2] 57)
      rw [← hV8] at sV8 b8 n8 n8f
      have z7 := hb7.size
      have z8 := b8.size
      obtain ⟨hsx, hstx, hA, htx, hdsA, n6, n6f, B6, BW6⟩ := HX.out
      have zW6 := BW6.size
      have zV6 := B6.size
      have B8 : Below V6.heap.size V6 V8 := hb7.trans (b8.mono z7)
      have BW8 : Below W.heap.size W V8 := BW6.trans (B8.mono zW6)
      have B48 : Below V4.heap.size V4 V8 := B6.trans (B8.mono zV6)
      have e6 : V8.heap[w5.heap.size]? = _ := (B8.block _ (by omega)).trans n6
      have e6f : V8.heap[w5.heap.size + 1]? = _ := (B8.block _ (by omega)).trans n6f
      have e4 : V8.heap[w4.heap.size]? = _ := (B48.block _ (by omega)).trans HO.out.2.2.1
      have e0 : V8.heap[w.heap.size]? = _ := (BW8.block _ (by omega)).trans HW.out.2.2
      have hx : sx = sy := hsx.trans hsy.symm
      subst hx
      have x0 : V8.cell? ⟨w5.heap.size, 0, none⟩ = some (.string sx) := by rw [cell_of_row _ _ 0 _ _ _ e6]; rfl
      have x1 : V8.cell? ⟨w5.heap.size, 1, none⟩ = some (.slice kax (flen kx) capx) := by rw [cell_of_row _ _ 1 _ _ _ e6]; rfl
      have y0 : V8.cell? ⟨w7.heap.size, 0, none⟩ = some (.string sx) := by rw [cell_of_row _ _ 0 _ _ _ n8]; rfl
      have y1 : V8.cell? ⟨w7.heap.size, 1, none⟩ = some (.slice kay (flen ky) capy) := by rw [cell_of_row _ _ 1 _ _ _ n8]; rfl
      have hg : ∀ U, Below V8.heap.size V8 U → U.cell? ⟨w5.heap.size + 1, 0, none⟩ = some (.int .i64 c1) ∧ U.cell? ⟨w5.heap.size + 1, 1, none⟩ = some (.int .i64 c2) ∧ U.cell? ⟨w7.heap.size + 1, 0, none⟩ = some (.int .i64 c1) ∧ U.cell? ⟨w7.heap.size + 1, 1, none⟩ = some (.int .i64 c2) ∧ U.cell? ⟨w4.heap.size, 0, none⟩ = some (.string s) ∧ U.cell? ⟨w4.heap.size, 1, none⟩ = some (.slice kaO (flen kO) capO) ∧ U.cell? ⟨w.heap.size, 0, none⟩ = some (.string s) ∧ U.cell? ⟨w.heap.size, 1, none⟩ = some (.slice ka (flen k) cap) := fun U hU => by
        have g : ∀ (p : Addr) v, V8.cell? p = some v → U.cell? p = some v := fun p v h => by rw [hU.cell (World.block_lt_of_cell? _ _ h)]; exact h
        exact ⟨g _ _ (by rw [cell_of_row _ _ 0 _ _ _ e6f]; rfl), g _ _ (by rw [cell_of_row _ _ 1 _ _ _ e6f]; rfl), g _ _ (by rw [cell_of_row _ _ 0 _ _ _ n8f]; rfl), g _ _ (by rw [cell_of_row _ _ 1 _ _ _ n8f]; rfl), g _ _ (by rw [cell_of_row _ _ 0 _ _ _ e4]; rfl), g _ _ (by rw [cell_of_row _ _ 1 _ _ _ e4]; rfl), g _ _ (by rw [cell_of_row _ _ 0 _ _ _ e0]; rfl), g _ _ (by rw [cell_of_row _ _ 1 _ _ _ e0]; rfl)⟩
      have t1 := sameTree_any sx kax capx kx sx kay capy ky V8 (htx.below B8) (hty.below b8)
      rw [sameT_of_strip (hstx.trans hsty.symm |> fun h => h)] at t1
      have t2 := fun (U : World) (hU : Below V8.heap.size V8 U) => sameDs_any va ua vc uc A K U ((hdsA.below B8).below hU) ((hdsK.below b8).below hU) hv1 HV2.out hu1 hu2 (fun x hx => HSH.out x.1 (by rw [← hA]; exact List.mem_map.2 ⟨x, hx, rfl⟩))
      rw [show eqDds (dds A) (dds K) = true from (eqDds_iff _ _).2 (hA.trans hK.symm)] at t2
      have t3 := fun (U : World) (hU : Below V8.heap.size V8 U) => sameTree_any s kaO capO kO s ka cap k U ((HO.out.1.below B48).below hU) (HT.out U (BW8.trans (hU.mono BW8.size))).1
      rw [sameT_of_strip HO.out.2.1] at t3
      have HT1 := hide t1
      have HT2 := hide t2
      have HT3 := hide t3
      have HGC := hide hg
      have HBW := hide (HW.out.1.trans (BW8.mono (by omega)))
      have hcy := hty.cap
      have hcy2 := hty.len
      unfold maxLen at hcy hu2
      clear t1 t2 t3 hg hsx hsy hstx hsty hA hK htx hty hdsA hdsK n6 n6f B6 BW6 hb7 b8 n8 n8f B8 BW8 B48 e6 e6f e4 e0 HX HO HRR6 HCC HSH
      rw [hV8] at x0 x1 y0 y1
      go_wp2_with fail
      rw [← hV8]
      clear hV8 x0 x1 y0 y1
      refine Calls.mono HT1.out ?_
      rintro r w9 ⟨rfl, hb9⟩
      have HB9 := hide hb9
      clear hb9
      go_wp2_with fail
      refine Calls.mono (HT2.out w9 HB9.out) ?_
      rintro r w10 ⟨rfl, hb10⟩
      have hb10' := HB9.out.trans (hb10.mono HB9.out.size)
      obtain ⟨g0, g1, g2, g3, g4, g5, g6, g7⟩ := HGC.out w10 hb10'
      have HB10 := hide hb10'
      clear hb10 hb10'
      go_wp2_with fail
      refine Calls.mono (HT3.out w10 HB10.out) ?_
      rintro r w11 ⟨rfl, hb11⟩
      have HB11 := hide hb11
      clear hb11 g0 g1 g2 g3 g4 g5 g6 g7
      go_wp2_with fail
      go_ret
      exact ⟨rfl, HBW.out.trans ((HB10.out.trans (HB11.out.mono HB10.out.size)).mono HBW.out.size)⟩
end Go.Proofs.Ytcknganggcbkjab.Scr
namespace Go.Proofs.Ytcknganggcbkjab
open Go.Deep Go.RowKit Go.ChangeShapes Go.WideShapes Go.Joins
open Go.ChangeMaps (open_string)
set_option linter.unusedVariables false
set_option maxRecDepth 20000

theorem Try.cellsTree : Try.prog.cellsOf 24 = 2 := by kernel_rfl
theorem Try.cellsStr : Try.prog.cellsOf 9 = 1 := by kernel_rfl
theorem Try.cellsKids : Try.prog.cellsOf 22 = 1 := by kernel_rfl
theorem Try.cellsInt : Try.prog.cellsOf 3 = 1 := by kernel_rfl

theorem spot_none {w : World} {a : Addr} {v : Value} (h : w.cell? a = some v) : a.spot = none := by
  unfold World.cell? at h
  split at h
  · split at h
    · cases h
    · rename_i hs
      simpa using hs
  · cases h

theorem build_forest {w : World} {b : Nat} : ∀ (n o : Nat), (∀ i, i < n → ∃ (s : ByteArray) (ka : Option Addr) (cap : Nat) (k : Fo), w.cell? ⟨b, o + i * 2, none⟩ = some (.string s) ∧ w.cell? ⟨b, o + i * 2 + 1, none⟩ = some (.slice ka (flen k) cap) ∧ TIn w s ka cap k) → ∃ f : Fo, flen f = n ∧ FIn w f b o
  | 0, o, _ => ⟨.nil, rfl, trivial⟩
  | n + 1, o, h => by
    obtain ⟨s, ka, cap, k, h0, h1, ht⟩ := h 0 (by omega)
    obtain ⟨f, hf, hin⟩ := build_forest n (o + 2) (fun i hi => by
      obtain ⟨s, ka, cap, k, g0, g1, gt⟩ := h (i + 1) (by omega)
      have e : o + 2 + i * 2 = o + (i + 1) * 2 := by omega
      exact ⟨s, ka, cap, k, by rw [e]; exact g0, by rw [e]; exact g1, gt⟩)
    exact ⟨.node b o (s, ka, cap) k f, by simp [flen, hf], rfl, rfl, by simpa using h0, by simpa using h1, ht.size, ht.len, ht.cap, ht.kids, hin⟩

section
variable {H : Type} {enc : TypeId × Value → H} {w : World} {base : Nat} {spare : Nat → Bool} {held : Bool}

theorem open_forest : ∀ (N fuel : Nat) (cs : List Value) (x : DataW H × List MemPlace), fuel ≤ N → DataW.trod enc Try.prog w base spare held fuel 22 cs = some x →
    ∃ ka cap k, cs = [.slice ka (flen k) cap] ∧ flen k ≤ cap ∧ cap ≤ maxLen ∧ KIn w ka k := by
  intro N
  induction N with
  | zero =>
    intro fuel cs x hN h
    obtain rfl : fuel = 0 := by omega
    simp [DataW.trod] at h
  | succ N ih =>
    intro fuel cs x hN h
    rcases DataW.trod_slice Try.underlying22 h with ⟨rfl, _⟩ | ⟨a, len, cap, elems, rest, n, hn, rfl, hx, hb, hl, hm, hlen, hel, hsp, hns⟩
    · exact ⟨none, 0, .nil, rfl, Nat.le_refl _, by unfold maxLen; omega, Or.inl rfl⟩
    · have each : ∀ i, i < len → ∃ (s : ByteArray) (ka : Option Addr) (c : Nat) (k : Fo), w.cell? (a.add (i * 2)) = some (.string s) ∧ w.cell? ((a.add (i * 2)).add 1) = some (.slice ka (flen k) c) ∧ TIn w s ka c k := by
        intro i hi
        have h1 := hel i hi
        have hlt : i < elems.length := by omega
        rw [List.getElem?_eq_getElem hlt, Option.bind_eq_some_iff] at h1
        obtain ⟨cs', hc, ht⟩ := h1
        rw [Try.cellsTree] at hc
        obtain ⟨_, hlen', hcell⟩ := World.cells?_some hc
        obtain ⟨xs, k', hk, hxy, _, hxl, hf⟩ := DataW.trod_struct Try.underlying24 ht
        match xs, hxl, cs', hlen' with
        | [y0, y1], _, [v0, v1], _ =>
          have g0 := hf 0 _ rfl
          have g1 := hf 1 _ rfl
          simp [Try.cellsStr, Try.cellsKids] at g0 g1
          have e0 := hcell 0 (by omega)
          have e1 := hcell 1 (by omega)
          obtain ⟨s, hs, _, hsz⟩ := DataW.trod_string Try.underlying9 g0
          obtain ⟨ka, c, k, hv1, hlk, hck, hin⟩ := ih k' _ _ (by omega) g1
          simp only [List.cons.injEq, and_true] at hs hv1
          subst hs
          subst hv1
          refine ⟨s, ka, c, k, ?_, ?_, hsz, hlk, hck, hin⟩
          · simpa [Addr.add] using e0
          · simpa using e1
      by_cases h0 : len = 0
      · exact ⟨some a, cap, .nil, by rw [h0]; rfl, Nat.zero_le _, hm, Or.inl rfl⟩
      · obtain ⟨_, _, _, _, q0, _, _⟩ := each 0 (by omega)
        have hs := spot_none q0
        obtain ⟨b, o, sp⟩ := a
        simp [Addr.add] at hs
        subst hs
        obtain ⟨f, hf, hin⟩ := build_forest (w := w) (b := b) len o (fun i hi => by
          obtain ⟨s, ka, c, k, g0, g1, gt⟩ := each i hi
          rw [add_plain] at g0
          rw [add_plain, add_plain] at g1
          exact ⟨s, ka, c, k, g0, g1, gt⟩)
        exact ⟨some ⟨b, o, none⟩, cap, f, by rw [hf], by rw [hf]; exact hl, hm, Or.inr ⟨b, o, rfl, hin⟩⟩

theorem open_tree {r : Reach} {b0 : Nat} {v : Value} {d : DataW H} {p : List MemPlace} (hv : Value.okWide Try.prog w r b0 24 v) (h : DataW.Trod enc Try.prog w base spare held 24 v d p) :
    ∃ s ka cap k, v = .agg #[.string s, .slice ka (flen k) cap] ∧ TIn w s ka cap k := by
  obtain ⟨v0, v1, y0, y1, n, rfl, rfl, rfl, h0, h1⟩ := open_agg2 Try.underlying24 (by kernel_rfl) Try.cellsTree hv h
  obtain ⟨s, hs, _, hsz⟩ := DataW.trod_string Try.underlying9 h0
  obtain ⟨ka, c, k, hv1, hlk, hck, hin⟩ := open_forest n n _ _ (Nat.le_refl _) h1
  simp only [List.cons.injEq, and_true] at hs hv1
  subst hs
  subst hv1
  exact ⟨s, ka, c, k, rfl, hsz, hlk, hck, hin⟩

theorem open_path {r : Reach} {b0 : Nat} {v : Value} {d : DataW H} {p : List MemPlace} (hv : Value.okWide Try.prog w r b0 42 v) (h : DataW.Trod enc Try.prog w base spare held 42 v d p) :
    ∃ pa ps pcap, v = .slice pa (List.length (α := Int) ps) pcap ∧ ps.length ≤ pcap ∧ pcap ≤ maxLen ∧ PIn w pa ps := by
  obtain ⟨a0, len, cap, rfl⟩ := okWide_slice Try.underlying42 hv
  obtain ⟨fuel, hf⟩ := h
  rcases open_ints Try.underlying42 Try.underlying3 Try.cellsInt hf with ⟨hcs, hx⟩ | ⟨a, len', cap', zs, hcs, _, hl, hm, hz, hx, hcell, hwz⟩
  · simp [Value.cells] at hcs
    obtain ⟨rfl, rfl, rfl⟩ := hcs
    exact ⟨none, [], 0, rfl, Nat.le_refl _, by unfold maxLen; omega, Or.inl rfl⟩
  · simp [Value.cells] at hcs
    obtain ⟨rfl, rfl, rfl⟩ := hcs
    have hzl : len ≤ zs.length := by rw [hz]; split <;> omega
    have htl : (zs.take len).length = len := by rw [List.length_take]; omega
    refine ⟨some a, zs.take len, cap, by rw [htl], by rw [htl]; exact hl, hm, ?_⟩
    by_cases h0 : len = 0
    · exact Or.inl (by rw [h0]; rfl)
    · have hs := spot_none (hcell 0 (by omega))
      obtain ⟨b, o, sp⟩ := a
      simp [Addr.add] at hs
      subst hs
      refine Or.inr ⟨b, o, rfl, fun i q hq => ?_⟩
      have hi : i < len := by
        have := (List.getElem?_eq_some_iff.1 hq).1
        omega
      have hc := hcell i (by omega)
      rw [add_plain] at hc
      rw [hc]
      rw [List.getElem?_take_of_lt hi] at hq
      simp [hq]
end

end Go.Proofs.Ytcknganggcbkjab
