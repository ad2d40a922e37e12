/- Do of package pleachingref, whatever the tree and the deed; greatDeed of package pleachinglaw. Of the program's text. -/
/- SameDeeds of package pleachingref, greatDeeds of package pleachinglaw. Of the program's text. -/
import Derived.BigQuiet
import Derived.Deep.RegionHeld3
import Derived.Test.YtkoohfkomlmhoacDoorKLP30
import Derived.Test.YtkoohfkomlmhoacDoorKLP29
import Derived.Test.YtkoohfkomlmhoacDoorProg
import Derived.Deep.LoopGhost
import Derived.WalkSmall
import Derived.Test.YtkoohfkomlmhoacDoorKLP17
namespace Go.Proofs.YtkoohfkomlmhoacDoor.Deed
open Go.Deep Go.RowKit
set_option linter.unusedVariables false
set_option maxRecDepth 20000

def greatD (d : Dd) : Bool := decide (60 < d.path.length) || decide (100 < d.lab.size)
set_option maxHeartbeats 1000000 in
theorem greatD_any (d : Dd) (pa : Option Addr) (pc : Nat) (w : World) (hd : DIn w d pa pc) :
    Calls Tryd.prog 10 #[ddV d pa pc] w fun e w' => e = .returned (.bool (greatD d)) ∧ Below w.heap.size w w' := by
  have h1 := hd.len
  have h2 := hd.cap
  have h3 := hd.lab
  unfold maxLen at h2 h3
  have hB := (Below.refl w.heap.size w).alloc (Nat.le_refl _) (Obj.cells #[.int .i64 d.kind, .slice pa d.path.length pc, .int .i64 d.pos, .int .i64 d.many, .string d.lab] 35)
  have HB := hide hB
  clear hB hd
  unfold ddV
  by_cases hl : 60 < d.path.length
  · have HV := hide (show greatD d = true by unfold greatD; simp [hl])
    go_enter Tryd.func10, Tryd.ntmps10
    go_wp2_with fail
    go_ret
    exact ⟨by rw [HV.out]; simp, HB.out⟩
  · by_cases hm : 100 < d.lab.size
    · have HV := hide (show greatD d = true by unfold greatD; simp [hm])
      go_enter Tryd.func10, Tryd.ntmps10
      go_wp2_with fail
      go_ret
      exact ⟨by rw [HV.out]; simp; omega, HB.out⟩
    · have HV := hide (show greatD d = false by unfold greatD; simp [hl, hm])
      go_enter Tryd.func10, Tryd.ntmps10
      go_wp2_with fail
      go_ret
      exact ⟨by rw [HV.out]; simp; omega, HB.out⟩
end Go.Proofs.YtkoohfkomlmhoacDoor.Deed
namespace Go.Proofs.YtkoohfkomlmhoacDoor.Deed
open Go.Deep Go.RowKit
set_option linter.unusedVariables false
set_option maxRecDepth 20000

def greatDs (L : List Dd) : Bool := (L.take 100).any greatD || decide (100 < L.length)
set_option maxHeartbeats 2000000 in
theorem greatDs_any (la : Option Addr) (lc : Nat) (L : List Pd) (w : World) (hL : DsIn w la L) (hl : L.length ≤ lc) (hlm : lc ≤ maxLen) :
    Calls Tryd.prog 6 #[.slice la L.length lc] w fun e w' => e = .returned (.bool (greatDs (dds L))) ∧ Below w.heap.size w w' := by
  unfold maxLen at hlm
  have HL := hide hL
  clear hL
  go_enter Tryd.func6, Tryd.ntmps6
  go_wp2_with fail
  go_loopg [3] L.length (fun gk v wr => ∃ i : Nat, gk = L.length - i ∧ i ≤ L.length ∧ i ≤ 100 ∧ v = .int .i64 (i : Nat) ∧ Hid (((dds L).take i).any greatD = false) ∧ Below w.heap.size w wr)
  case atStart => exact ⟨0, rfl, Nat.zero_le _, Nat.zero_le _, rfl, hide (by simp), Below.refl _ _⟩
  case round =>
    obtain ⟨i, hgk, hi, hi2, rfl, hany, hbr⟩ := hrel
    obtain ⟨wA, hwA⟩ : ∃ wA, wA = wr := ⟨_, rfl⟩
    subst hwA
    by_cases hlt : i < L.length
    · by_cases hlt2 : i < 100
      · obtain ⟨x, hx⟩ : ∃ x, L[i]? = some x := ⟨_, List.getElem?_eq_getElem hlt⟩
        obtain ⟨b, o, rfl, x0, x1, x2, x3, x4, hxd⟩ := (HL.out.below hbr).at hx
        have HX := hide (dds_at hx)
        clear hx
        obtain ⟨d, pa, pc⟩ := x
        simp only at x0 x1 x2 x3 x4 hxd HX
        have hd1 := hxd.len
        have hd2 := hxd.cap
        unfold maxLen at hd2
        have hgr := greatD_any d pa pc wA hxd
        unfold ddV at hgr
        have HTK := hide (show ((dds L).take (i + 1)).any greatD = greatD d by
          have h1 := (List.getElem?_eq_some_iff.1 HX.out)
          rw [List.take_succ_eq_append_getElem h1.1, List.any_append, hany.out, h1.2]
          simp)
        have HGR := hide hgr
        have HBR := hide hbr
        clear hgr hxd hbr
        cases hg : greatD d
        · have HG := hide hg
          rw [hg] at HGR HTK
          clear hg
          go_wp2_with fail
          refine Calls.mono HGR.out ?_
          rintro r w2 ⟨rfl, hb2⟩
          have HB2 := hide (HBR.out.trans (hb2.mono HBR.out.size))
          clear hb2
          go_wp2_with fail
          go_roundg (L.length - (i + 1))
          case measure => omega
          case rel => exact ⟨i + 1, rfl, by omega, by omega, by go_num, HTK, HB2.out⟩
        · have HG := hide (show greatDs (dds L) = true by
            unfold greatDs
            have h1 := HTK.out
            rw [hg] at h1
            have h2 : ((dds L).take 100).any greatD = true := by
              have : ((dds L).take 100).take (i + 1) = (dds L).take (i + 1) := by rw [List.take_take]; congr 1; omega
              rw [← this] at h1
              obtain ⟨z, hz, hz2⟩ := List.any_eq_true.1 h1
              exact List.any_eq_true.2 ⟨z, List.mem_of_mem_take hz, hz2⟩
            rw [h2]
            rfl)
          rw [hg] at HGR
          clear hg HTK
          go_wp2_with fail
          refine Calls.mono HGR.out ?_
          rintro r w2 ⟨rfl, hb2⟩
          have HB2 := hide (HBR.out.trans (hb2.mono HBR.out.size))
          clear hb2
          go_wp2_with fail
          go_ret
          exact ⟨by rw [HG.out]; rfl, HB2.out⟩
      · have HG := hide (show greatDs (dds L) = decide (100 < (L.length : Int)) by
          unfold greatDs
          have hie : i = 100 := by omega
          have h1 := hany.out
          rw [hie] at h1
          rw [h1, dds_len]
          simp
          omega)
        have HB := hide hbr
        clear hbr
        go_wp2_with fail
        go_ret
        exact ⟨by rw [HG.out]; rfl, HB.out⟩
    · have HG := hide (show greatDs (dds L) = decide (100 < (L.length : Int)) by
        unfold greatDs
        have h1 := hany.out
        rw [List.take_of_length_le (by rw [dds_len]; omega)] at h1
        have h2 : ((dds L).take 100).any greatD = false := by
          rw [List.take_of_length_le (by rw [dds_len]; omega)]
          exact h1
        rw [h2, dds_len]
        simp
        omega)
      have HB := hide hbr
      clear hbr
      go_wp2_with fail
      go_ret
      exact ⟨by rw [HG.out]; rfl, HB.out⟩
end Go.Proofs.YtkoohfkomlmhoacDoor.Deed
