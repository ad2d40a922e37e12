/- Do of package pleachingref, whatever the tree and the deed; greatDeed of package pleachinglaw. Of the program's text. -/
/- SameDeeds of package pleachingref, greatDeeds of package pleachinglaw. Of the program's text. -/
import Derived.BigQuiet
import Derived.Deep.RegionHeld3
import Derived.Test.YtkoohfkomlmhoacGreatDoorKDP33
import Derived.Test.YtkoohfkomlmhoacGreatDoorKDP32
import Derived.Test.YtkoohfkomlmhoacGreatDoorProg
import Derived.Deep.LoopGhost
import Derived.WalkSmall
import Derived.Test.YtkoohfkomlmhoacGreatDoorKDP18
namespace Go.Proofs.YtkoohfkomlmhoacGreatDoor.Deed
open Go.Deep Go.RowKit
set_option linter.unusedVariables false
set_option maxRecDepth 20000

def greatD (d : Dd) : Bool := decide (60 < d.path.length) || decide (100 < d.lab.size)
set_option maxHeartbeats 1000000 in
theorem greatD_any (d : Dd) (pa : Option Addr) (pc : Nat) (w : World) (hd : DIn w d pa pc) :
    Calls Tryz.prog 26 #[ddV d pa pc] w fun e w' => e = .returned (.bool (greatD d)) ∧ Below w.heap.size w w' := by
  have h1 := hd.len
  have h2 := hd.cap
  have h3 := hd.lab
  unfold maxLen at h2 h3
  have hB := (Below.refl w.heap.size w).alloc (Nat.le_refl _) (Obj.cells #[.int .i64 d.kind, .slice pa d.path.length pc, .int .i64 d.pos, .int .i64 d.many, .string d.lab] 38)
  have HB := hide hB
  clear hB hd
  unfold ddV
  by_cases hl : 60 < d.path.length
  · have HV := hide (show greatD d = true by unfold greatD; simp [hl])
    go_enter Tryz.func26, Tryz.ntmps26
    go_wp2_with fail
    go_ret
    exact ⟨by rw [HV.out]; simp, HB.out⟩
  · by_cases hm : 100 < d.lab.size
    · have HV := hide (show greatD d = true by unfold greatD; simp [hm])
      go_enter Tryz.func26, Tryz.ntmps26
      go_wp2_with fail
      go_ret
      exact ⟨by rw [HV.out]; simp; omega, HB.out⟩
    · have HV := hide (show greatD d = false by unfold greatD; simp [hl, hm])
      go_enter Tryz.func26, Tryz.ntmps26
      go_wp2_with fail
      go_ret
      exact ⟨by rw [HV.out]; simp; omega, HB.out⟩
end Go.Proofs.YtkoohfkomlmhoacGreatDoor.Deed
namespace Go.Proofs.YtkoohfkomlmhoacGreatDoor.Deed
open Go.Deep Go.RowKit
set_option linter.unusedVariables false
set_option maxRecDepth 20000

/-- Are two lists of deeds the same? -/
def eqDds : List Dd → List Dd → Bool
  | [], [] => true
  | d :: l, e :: m => sameDd d e && eqDds l m
  | [], _ :: _ => false
  | _ :: _, [] => false
theorem eqDds_iff : ∀ (l m : List Dd), eqDds l m = true ↔ l = m
  | [], [] => by simp [eqDds]
  | d :: l, e :: m => by simp [eqDds, sameDd_iff, eqDds_iff l m]
  | [], _ :: _ => by simp [eqDds]
  | _ :: _, [] => by simp [eqDds]
theorem eqDds_no {l m : List Dd} (h : l ≠ m) : eqDds l m = false := by
  cases e : eqDds l m
  · rfl
  · exact absurd ((eqDds_iff l m).1 e) h
theorem take_on {α : Type} {A B : List α} {i : Nat} {x : α} (h : A.take i = B.take i) (ha : A[i]? = some x) (hb : B[i]? = some x) : A.take (i + 1) = B.take (i + 1) := by
  have h1 := (List.getElem?_eq_some_iff.1 ha)
  have h2 := (List.getElem?_eq_some_iff.1 hb)
  rw [List.take_succ_eq_append_getElem h1.1, List.take_succ_eq_append_getElem h2.1, h, h1.2, h2.2]

set_option maxHeartbeats 2000000 in
theorem sameDs_any (la lb : Option Addr) (lc mc : Nat) (L M : List Pd) (w : World) (hL : DsIn w la L) (hM : DsIn w lb M) (hl : L.length ≤ lc) (hlm : lc ≤ maxLen) (hm : M.length ≤ mc) (hmm : mc ≤ maxLen) (hp : ∀ x, x ∈ L → x.1.path.length ≤ 100000) :
    Calls Tryz.prog 13 #[.slice la L.length lc, .slice lb M.length mc] w fun e w' => e = .returned (.bool (eqDds (dds L) (dds M))) ∧ Below w.heap.size w w' := by
  unfold maxLen at hlm hmm
  by_cases hlen : L.length = M.length
  · have hb : ((L.length : Int) == (M.length : Int)) = true := beq_iff_eq.2 (by omega)
    rw [← hlen]
    have HLE := hide hlen
    have HL := hide hL
    have HM := hide hM
    have HP := hide hp
    clear hlen hL hM hp
    go_enter Tryz.func13, Tryz.ntmps13
    go_wp2_with fail
    go_loopg [5] L.length (fun gk v wr => ∃ i : Nat, gk = L.length - i ∧ i ≤ L.length ∧ v = .int .i64 (i : Nat) ∧ Hid ((dds L).take i = (dds M).take i) ∧ Below w.heap.size w wr)
    case atStart => exact ⟨0, rfl, Nat.zero_le _, rfl, hide (by simp), Below.refl _ _⟩
    case round =>
      obtain ⟨i, hgk, hi, rfl, hsame, hbr⟩ := hrel
      obtain ⟨wA, hwA⟩ : ∃ wA, wA = wr := ⟨_, rfl⟩
      subst hwA
      by_cases hlt : i < L.length
      · obtain ⟨x, hx⟩ : ∃ x, L[i]? = some x := ⟨_, List.getElem?_eq_getElem hlt⟩
        obtain ⟨y, hy⟩ : ∃ y, M[i]? = some y := ⟨_, List.getElem?_eq_getElem (by have := HLE.out; omega)⟩
        obtain ⟨b, o, rfl, x0, x1, x2, x3, x4, hxd⟩ := (HL.out.below hbr).at hx
        obtain ⟨c, q, rfl, y0, y1, y2, y3, y4, hyd⟩ := (HM.out.below hbr).at hy
        have hxp := HP.out x (List.mem_of_getElem? hx)
        have HX := hide (dds_at hx)
        have HY := hide (dds_at hy)
        clear hx hy
        obtain ⟨d, pa, pc⟩ := x
        obtain ⟨e, qa, qc⟩ := y
        simp only at x0 x1 x2 x3 x4 y0 y1 y2 y3 y4 hxd hyd hxp HX HY
        have hk : ∀ W, Below wA.heap.size wA W → (Below wA.heap.size wA W ∧ W.cell? ⟨b, o + i * 5, none⟩ = some (.int .i64 d.kind) ∧ W.cell? ⟨b, o + i * 5 + 1, none⟩ = some (.slice pa d.path.length pc) ∧ W.cell? ⟨b, o + i * 5 + 2, none⟩ = some (.int .i64 d.pos) ∧ W.cell? ⟨b, o + i * 5 + 3, none⟩ = some (.int .i64 d.many) ∧ W.cell? ⟨b, o + i * 5 + 4, none⟩ = some (.string d.lab) ∧ W.cell? ⟨c, q + i * 5, none⟩ = some (.int .i64 e.kind) ∧ W.cell? ⟨c, q + i * 5 + 1, none⟩ = some (.slice qa e.path.length qc) ∧ W.cell? ⟨c, q + i * 5 + 2, none⟩ = some (.int .i64 e.pos) ∧ W.cell? ⟨c, q + i * 5 + 3, none⟩ = some (.int .i64 e.many) ∧ W.cell? ⟨c, q + i * 5 + 4, none⟩ = some (.string e.lab)) := fun W hW => by
          have g : ∀ (p : Addr) v, wA.cell? p = some v → W.cell? p = some v := fun p v h => by rw [hW.cell (World.block_lt_of_cell? _ _ h)]; exact h
          exact ⟨hW, g _ _ x0, g _ _ x1, g _ _ x2, g _ _ x3, g _ _ x4, g _ _ y0, g _ _ y1, g _ _ y2, g _ _ y3, g _ _ y4⟩
        obtain ⟨sb, hsb⟩ : ∃ sb, sb = sameDd d e := ⟨_, rfl⟩
        have hcl : ∀ W, (Below wA.heap.size wA W ∧ W.cell? ⟨b, o + i * 5, none⟩ = some (.int .i64 d.kind) ∧ W.cell? ⟨b, o + i * 5 + 1, none⟩ = some (.slice pa d.path.length pc) ∧ W.cell? ⟨b, o + i * 5 + 2, none⟩ = some (.int .i64 d.pos) ∧ W.cell? ⟨b, o + i * 5 + 3, none⟩ = some (.int .i64 d.many) ∧ W.cell? ⟨b, o + i * 5 + 4, none⟩ = some (.string d.lab) ∧ W.cell? ⟨c, q + i * 5, none⟩ = some (.int .i64 e.kind) ∧ W.cell? ⟨c, q + i * 5 + 1, none⟩ = some (.slice qa e.path.length qc) ∧ W.cell? ⟨c, q + i * 5 + 2, none⟩ = some (.int .i64 e.pos) ∧ W.cell? ⟨c, q + i * 5 + 3, none⟩ = some (.int .i64 e.many) ∧ W.cell? ⟨c, q + i * 5 + 4, none⟩ = some (.string e.lab)) → Calls Tryz.prog 19 #[ddV d pa pc, ddV e qa qc] W fun r w' => r = .returned (.bool sb) ∧ (Below wA.heap.size wA w' ∧ w'.cell? ⟨b, o + i * 5, none⟩ = some (.int .i64 d.kind) ∧ w'.cell? ⟨b, o + i * 5 + 1, none⟩ = some (.slice pa d.path.length pc) ∧ w'.cell? ⟨b, o + i * 5 + 2, none⟩ = some (.int .i64 d.pos) ∧ w'.cell? ⟨b, o + i * 5 + 3, none⟩ = some (.int .i64 d.many) ∧ w'.cell? ⟨b, o + i * 5 + 4, none⟩ = some (.string d.lab) ∧ w'.cell? ⟨c, q + i * 5, none⟩ = some (.int .i64 e.kind) ∧ w'.cell? ⟨c, q + i * 5 + 1, none⟩ = some (.slice qa e.path.length qc) ∧ w'.cell? ⟨c, q + i * 5 + 2, none⟩ = some (.int .i64 e.pos) ∧ w'.cell? ⟨c, q + i * 5 + 3, none⟩ = some (.int .i64 e.many) ∧ w'.cell? ⟨c, q + i * 5 + 4, none⟩ = some (.string e.lab)) := fun W hW => by
          rw [hsb]
          exact (sameD_any d e pa qa pc qc W (hxd.below hW.1) (hyd.below hW.1) hxp).mono fun r w' h => ⟨h.1, hk w' (hW.1.trans (h.2.mono hW.1.size))⟩
        unfold ddV at hcl
        have HK := hide (hk wA.drew (Below.refl _ _).drew)
        have HCL := hide hcl
        have HSB := hide hsb
        have hd1 := hxd.len
        have hd2 := hxd.cap
        have he1 := hyd.len
        have he2 := hyd.cap
        unfold maxLen at hd2 he2
        have HBR := hide hbr
        clear hk hcl hsb hxd hyd x0 x1 x2 x3 x4 y0 y1 y2 y3 y4 hbr
        have hLM : (M.length : Int) = (L.length : Int) := by have := HLE.out; omega
        cases sb
        · have HF := hide (show eqDds (dds L) (dds M) = false from eqDds_no fun h => by
            have h1 := HX.out
            rw [h, HY.out] at h1
            injection h1 with h1
            rw [h1, (sameDd_iff d d).2 rfl] at HSB
            cases HSB.out)
          clear hLM
          go_wp2_with fail
          go_region_held3 (fun W => Below wA.heap.size wA W ∧ W.cell? ⟨b, o + i * 5, none⟩ = some (.int .i64 d.kind) ∧ W.cell? ⟨b, o + i * 5 + 1, none⟩ = some (.slice pa d.path.length pc) ∧ W.cell? ⟨b, o + i * 5 + 2, none⟩ = some (.int .i64 d.pos) ∧ W.cell? ⟨b, o + i * 5 + 3, none⟩ = some (.int .i64 d.many) ∧ W.cell? ⟨b, o + i * 5 + 4, none⟩ = some (.string d.lab) ∧ W.cell? ⟨c, q + i * 5, none⟩ = some (.int .i64 e.kind) ∧ W.cell? ⟨c, q + i * 5 + 1, none⟩ = some (.slice qa e.path.length qc) ∧ W.cell? ⟨c, q + i * 5 + 2, none⟩ = some (.int .i64 e.pos) ∧ W.cell? ⟨c, q + i * 5 + 3, none⟩ = some (.int .i64 e.many) ∧ W.cell? ⟨c, q + i * 5 + 4, none⟩ = some (.string e.lab))
            (first | assumption | exact HK.out)
            (first | (go_at_call 19; refine (HCL.out _ (by assumption)).mono ?_; rintro r w2 ⟨rfl, hS2⟩))
          have HB2 := hide (HBR.out.trans (hS2.1.mono HBR.out.size))
          clear hS2
          go_wp2_with fail
          go_ret
          exact ⟨by rw [HF.out]; rfl, HB2.out⟩
        · have HN := hide (take_on hsame.out HX.out (show (dds M)[i]? = some d by rw [HY.out]; have := (sameDd_iff d e).1 HSB.out.symm; rw [this]))
          clear hLM
          go_wp2_with fail
          go_region_held3 (fun W => Below wA.heap.size wA W ∧ W.cell? ⟨b, o + i * 5, none⟩ = some (.int .i64 d.kind) ∧ W.cell? ⟨b, o + i * 5 + 1, none⟩ = some (.slice pa d.path.length pc) ∧ W.cell? ⟨b, o + i * 5 + 2, none⟩ = some (.int .i64 d.pos) ∧ W.cell? ⟨b, o + i * 5 + 3, none⟩ = some (.int .i64 d.many) ∧ W.cell? ⟨b, o + i * 5 + 4, none⟩ = some (.string d.lab) ∧ W.cell? ⟨c, q + i * 5, none⟩ = some (.int .i64 e.kind) ∧ W.cell? ⟨c, q + i * 5 + 1, none⟩ = some (.slice qa e.path.length qc) ∧ W.cell? ⟨c, q + i * 5 + 2, none⟩ = some (.int .i64 e.pos) ∧ W.cell? ⟨c, q + i * 5 + 3, none⟩ = some (.int .i64 e.many) ∧ W.cell? ⟨c, q + i * 5 + 4, none⟩ = some (.string e.lab))
            (first | assumption | exact HK.out)
            (first | (go_at_call 19; refine (HCL.out _ (by assumption)).mono ?_; rintro r w2 ⟨rfl, hS2⟩))
          have HB2 := hide (HBR.out.trans (hS2.1.mono HBR.out.size))
          clear hS2
          go_wp2_with fail
          go_roundg (L.length - (i + 1))
          case measure => omega
          case rel => exact ⟨i + 1, rfl, by omega, by go_num, HN, HB2.out⟩
      · have HT := hide (show eqDds (dds L) (dds M) = true from (eqDds_iff _ _).2 (by
          have h1 := hsame.out
          rw [List.take_of_length_le (by rw [dds_len]; omega), List.take_of_length_le (by rw [dds_len]; have := HLE.out; omega)] at h1
          exact h1))
        have HB := hide hbr
        clear hbr
        go_wp2_with fail
        go_ret
        exact ⟨by rw [HT.out]; rfl, HB.out⟩
  · have hb : ((L.length : Int) == (M.length : Int)) = false := beq_eq_false_iff_ne.2 (by omega)
    have HF := hide (show eqDds (dds L) (dds M) = false from eqDds_no fun h => by
      have := congrArg List.length h
      rw [dds_len, dds_len] at this
      exact hlen this)
    clear hlen hL hM hp
    go_enter Tryz.func13, Tryz.ntmps13
    go_wp2_with fail
    go_ret
    exact ⟨by rw [HF.out]; rfl, Below.refl _ _⟩

def greatDs (L : List Dd) : Bool := (L.take 100).any greatD || decide (100 < L.length)
set_option maxHeartbeats 2000000 in
theorem greatDs_any (la : Option Addr) (lc : Nat) (L : List Pd) (w : World) (hL : DsIn w la L) (hl : L.length ≤ lc) (hlm : lc ≤ maxLen) :
    Calls Tryz.prog 6 #[.slice la L.length lc] w fun e w' => e = .returned (.bool (greatDs (dds L))) ∧ Below w.heap.size w w' := by
  unfold maxLen at hlm
  have HL := hide hL
  clear hL
  go_enter Tryz.func6, Tryz.ntmps6
  go_wp2_with fail
  go_loopg [3] L.length (fun gk v wr => ∃ i : Nat, gk = L.length - i ∧ i ≤ L.length ∧ i ≤ 100 ∧ v = .int .i64 (i : Nat) ∧ Hid (((dds L).take i).any greatD = false) ∧ Below w.heap.size w wr)
  case atStart => exact ⟨0, rfl, Nat.zero_le _, Nat.zero_le _, rfl, hide (by simp), Below.refl _ _⟩
  case round =>
    obtain ⟨i, hgk, hi, hi2, rfl, hany, hbr⟩ := hrel
    obtain ⟨wA, hwA⟩ : ∃ wA, wA = wr := ⟨_, rfl⟩
    subst hwA
    by_cases hlt : i < L.length
    · by_cases hlt2 : i < 100
      · obtain ⟨x, hx⟩ : ∃ x, L[i]? = some x := ⟨_, List.getElem?_eq_getElem hlt⟩
        obtain ⟨b, o, rfl, x0, x1, x2, x3, x4, hxd⟩ := (HL.out.below hbr).at hx
        have HX := hide (dds_at hx)
        clear hx
        obtain ⟨d, pa, pc⟩ := x
        simp only at x0 x1 x2 x3 x4 hxd HX
        have hd1 := hxd.len
        have hd2 := hxd.cap
        unfold maxLen at hd2
        have hgr := greatD_any d pa pc wA hxd
        unfold ddV at hgr
        have HTK := hide (show ((dds L).take (i + 1)).any greatD = greatD d by
          have h1 := (List.getElem?_eq_some_iff.1 HX.out)
          rw [List.take_succ_eq_append_getElem h1.1, List.any_append, hany.out, h1.2]
          simp)
        have HGR := hide hgr
        have HBR := hide hbr
        clear hgr hxd hbr
        cases hg : greatD d
        · have HG := hide hg
          rw [hg] at HGR HTK
          clear hg
          go_wp2_with fail
          refine Calls.mono HGR.out ?_
          rintro r w2 ⟨rfl, hb2⟩
          have HB2 := hide (HBR.out.trans (hb2.mono HBR.out.size))
          clear hb2
          go_wp2_with fail
          go_roundg (L.length - (i + 1))
          case measure => omega
          case rel => exact ⟨i + 1, rfl, by omega, by omega, by go_num, HTK, HB2.out⟩
        · have HG := hide (show greatDs (dds L) = true by
            unfold greatDs
            have h1 := HTK.out
            rw [hg] at h1
            have h2 : ((dds L).take 100).any greatD = true := by
              have : ((dds L).take 100).take (i + 1) = (dds L).take (i + 1) := by rw [List.take_take]; congr 1; omega
              rw [← this] at h1
              obtain ⟨z, hz, hz2⟩ := List.any_eq_true.1 h1
              exact List.any_eq_true.2 ⟨z, List.mem_of_mem_take hz, hz2⟩
            rw [h2]
            rfl)
          rw [hg] at HGR
          clear hg HTK
          go_wp2_with fail
          refine Calls.mono HGR.out ?_
          rintro r w2 ⟨rfl, hb2⟩
          have HB2 := hide (HBR.out.trans (hb2.mono HBR.out.size))
          clear hb2
          go_wp2_with fail
          go_ret
          exact ⟨by rw [HG.out]; rfl, HB2.out⟩
      · have HG := hide (show greatDs (dds L) = decide (100 < (L.length : Int)) by
          unfold greatDs
          have hie : i = 100 := by omega
          have h1 := hany.out
          rw [hie] at h1
          rw [h1, dds_len]
          simp
          omega)
        have HB := hide hbr
        clear hbr
        go_wp2_with fail
        go_ret
        exact ⟨by rw [HG.out]; rfl, HB.out⟩
    · have HG := hide (show greatDs (dds L) = decide (100 < (L.length : Int)) by
        unfold greatDs
        have h1 := hany.out
        rw [List.take_of_length_le (by rw [dds_len]; omega)] at h1
        have h2 : ((dds L).take 100).any greatD = false := by
          rw [List.take_of_length_le (by rw [dds_len]; omega)]
          exact h1
        rw [h2, dds_len]
        simp
        omega)
      have HB := hide hbr
      clear hbr
      go_wp2_with fail
      go_ret
      exact ⟨by rw [HG.out]; rfl, HB.out⟩
end Go.Proofs.YtkoohfkomlmhoacGreatDoor.Deed
