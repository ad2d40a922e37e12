/- few of package pleachingref: a number from 0 to 999, as short as can be. Of the program's text. -/
/- number of package patch: a number from 0 to 999, as short as can be. Of the program's text. -/
import Derived.Test.YtkoohfkomlmhoacDoorProg
import Derived.Deep.LoopGhost
import Derived.WalkSmall
import Derived.WalkSpells
import Derived.Test.YtkoohfkomlmhoacDoorKBP07
import Derived.Lib.AtoiErrMem
import Derived.Test.YtkoohfkomlmhoacDoorKBP08
namespace Go.Proofs.YtkoohfkomlmhoacDoor.Pat
open Go.Deep Go.RowKit Deed
set_option linter.unusedVariables false
set_option maxRecDepth 20000

/-- What few tells. -/
def fewE (l : List UInt8) : Nat × Bool := match fewP l with
  | none => (0, false)
  | some n => (n, true)
end Go.Proofs.YtkoohfkomlmhoacDoor.Pat
namespace Go.Proofs.YtkoohfkomlmhoacDoor.Pat
open Go.Deep Go.RowKit Deed
set_option linter.unusedVariables false
set_option maxRecDepth 20000

theorem fewE_none {l : List UInt8} (h : fewP l = none) : fewE l = (0, false) := by unfold fewE; rw [h]
theorem fewE_some {l : List UInt8} {n : Nat} (h : fewP l = some n) : fewE l = (n, true) := by unfold fewE; rw [h]

set_option maxHeartbeats 1000000 in
theorem number_any (s : ByteArray) (w : World) (hs : s.size ≤ 100000000) (ht : Tab w) :
    Calls Tryd.prog 53 #[.string s] w fun e w' => e = .returned (.tuple #[.int .i64 (fewE s.data.toList).1, .bool (fewE s.data.toList).2]) ∧ Below w.heap.size w w' := by
  cases ha : Lib.atoiAll s.data.toList with
  | «syntax» =>
    have HF := hide (fewE_none (few_not (s := s.data.toList) (fun v hv => by rw [ha] at hv; cases hv)))
    obtain ⟨ev, h1, h2⟩ := ht.bad
    have HA := hide (Tryd.strconv_Atoi_syntax s (by omega) ha ev w h1 h2)
    clear ha h1 h2
    go_enter Tryd.func53, Tryd.ntmps53
    go_wp2_with fail
    refine Calls.mono HA.out ?_
    rintro e w1 ⟨N, rfl, _, _, hb1⟩
    have HB := hide hb1
    clear hb1 HA
    go_wp2_with fail
    refine bodyPost_ret (v := .tuple #[.int .i64 0, .bool false]) (by simp [results, Tryd.results53, go_sem]) rfl ⟨by rw [HF.out]; rfl, HB.out⟩
  | range =>
    have HF := hide (fewE_none (few_not (s := s.data.toList) (fun v hv => by rw [ha] at hv; cases hv)))
    obtain ⟨ev, h1, h2⟩ := ht.far
    have HA := hide (Tryd.strconv_Atoi_range s (by omega) ha ev w h1 h2)
    clear ha h1 h2
    go_enter Tryd.func53, Tryd.ntmps53
    go_wp2_with fail
    refine Calls.mono HA.out ?_
    rintro e w1 ⟨N, rfl, _, _, hb1⟩
    have HB := hide hb1
    clear hb1 HA
    go_wp2_with fail
    refine bodyPost_ret (v := .tuple #[.int .i64 0, .bool false]) (by simp [results, Tryd.results53, go_sem]) rfl ⟨by rw [HF.out]; rfl, HB.out⟩
  | ok v =>
    have HA := hide ((Tryd.strconv_Atoi_ok s (by omega) v ha w).mono fun e w' (h : _ ∧ (w' = w ∨ ∃ t, w' = Lib.bytesWorld w 5 t)) => (⟨h.1, by
      rcases h.2 with h | ⟨t, h⟩
      · rw [h]; exact Below.refl _ _
      · rw [h]; exact Lib.bytesWorld_below _ _ _⟩ : e = .returned (.tuple #[.int .i64 v, .nilIface]) ∧ Below w.heap.size w w'))
    by_cases h0 : v < 0
    · have HF := hide (fewE_none (few_not (s := s.data.toList) (fun u hu => by rw [ha] at hu; cases hu; omega)))
      clear ha
      go_enter Tryd.func53, Tryd.ntmps53
      go_wp2_with fail
      refine Calls.mono HA.out ?_
      rintro e w1 ⟨rfl, hb1⟩
      have HB := hide hb1
      clear hb1 HA
      go_wp2_with fail
      refine bodyPost_ret (v := .tuple #[.int .i64 0, .bool false]) (by simp [results, Tryd.results53, go_sem]) rfl ⟨by rw [HF.out]; rfl, HB.out⟩
    by_cases h9 : 999 < v
    · have HF := hide (fewE_none (few_not (s := s.data.toList) (fun u hu => by rw [ha] at hu; cases hu; omega)))
      clear ha
      go_enter Tryd.func53, Tryd.ntmps53
      go_wp2_with fail
      refine Calls.mono HA.out ?_
      rintro e w1 ⟨rfl, hb1⟩
      have HB := hide hb1
      clear hb1 HA
      go_wp2_with fail
      refine bodyPost_ret (v := .tuple #[.int .i64 0, .bool false]) (by simp [results, Tryd.results53, go_sem]) rfl ⟨by rw [HF.out]; rfl, HB.out⟩
    have HT := hide ht
    have d0 : decide (v < 0) = false := decide_eq_false h0
    have d9 : decide (999 < v) = false := decide_eq_false h9
    have HV9 := hide (show 0 ≤ v ∧ v ≤ 999 by omega)
    clear h0 h9
    by_cases hi : Lib.itoa v = s.data.toList
    · have HF := hide (fewE_some (few_atoi (s := s.data.toList) HV9.out.1 HV9.out.2 hi))
      have hne : (Lib.itoa v == s.toList) = true := by rw [ByteArray.toList_eq, hi]; simp
      have hv : ((v.toNat : Nat) : Int) = v := by have := HV9.out; omega
      have HV := hide hv
      clear ha hi hv
      go_enter Tryd.func53, Tryd.ntmps53
      go_wp2_with fail
      refine Calls.mono HA.out ?_
      rintro e w1 ⟨rfl, hb1⟩
      have HB := hide hb1
      have HI := hide (itoa_any v ⟨by have := HV9.out; omega, by have := HV9.out; omega⟩ w1 (HT.out.below hb1))
      clear hb1 HA
      go_wp2_with fail
      refine Calls.mono HI.out ?_
      rintro e w2 ⟨rfl, hb2⟩
      have HB2 := hide (HB.out.trans (hb2.mono HB.out.size))
      clear hb2 HI
      go_wp2_with fail
      refine bodyPost_ret (v := .tuple #[.int .i64 v, .bool true]) (by simp [results, Tryd.results53, go_sem]) rfl ⟨by rw [HF.out]; simp only [HV.out], HB2.out⟩
    · have HF := hide (fewE_none (few_not (s := s.data.toList) (fun u hu => by rw [ha] at hu; cases hu; exact fun h => hi h.2.2)))
      have hne : (Lib.itoa v == s.toList) = false := by rw [ByteArray.toList_eq]; simpa using hi
      clear ha hi
      go_enter Tryd.func53, Tryd.ntmps53
      go_wp2_with fail
      refine Calls.mono HA.out ?_
      rintro e w1 ⟨rfl, hb1⟩
      have HB := hide hb1
      have HI := hide (itoa_any v ⟨by have := HV9.out; omega, by have := HV9.out; omega⟩ w1 (HT.out.below hb1))
      clear hb1 HA
      go_wp2_with fail
      refine Calls.mono HI.out ?_
      rintro e w2 ⟨rfl, hb2⟩
      have HB2 := hide (HB.out.trans (hb2.mono HB.out.size))
      clear hb2 HI
      go_wp2_with fail
      refine bodyPost_ret (v := .tuple #[.int .i64 0, .bool false]) (by simp [results, Tryd.results53, go_sem]) rfl ⟨by rw [HF.out]; rfl, HB2.out⟩
end Go.Proofs.YtkoohfkomlmhoacDoor.Pat
