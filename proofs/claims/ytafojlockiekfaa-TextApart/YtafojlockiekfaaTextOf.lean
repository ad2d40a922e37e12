/- TextOf of package pleachingref tells a tree's text. Of the program's text. -/
import Derived.Test.YtafojlockiekfaaProg
import Derived.Test.YtafojlockiekfaaWT
import Derived.Deep.RegionHeld3
namespace Go.Proofs.Ytafojlockiekfaa
open Go.Deep Go.RowKit
set_option linter.unusedVariables false
set_option maxRecDepth 20000

/-- Bytes as a string. -/
abbrev str (l : List UInt8) : ByteArray := ⟨l.toArray⟩
theorem str_append (a b : List UInt8) : str a ++ str b = str (a ++ b) := by
  apply ByteArray.ext
  simp
theorem str_self (s : ByteArray) : str s.data.toList = s := by
  apply ByteArray.ext
  simp
theorem str_size (l : List UInt8) : (str l).size = l.length := by
  show l.toArray.size = _
  simp

def TellsAt (k : Fo) : Prop := ∀ (s : ByteArray) (ka : Option Addr) (cap : Nat) (w : World), TIn w s ka cap k → (txtT s k).length ≤ 1000000 →
    Calls Try.prog 28 #[.agg #[.string s, .slice ka (flen k) cap]] w fun e w' => e = .returned (.string (str (txtT s k))) ∧ Below w.heap.size w w'

set_option maxHeartbeats 1000000 in
theorem tells_N : ∀ (N : Nat) (k : Fo), fnodes k < N → TellsAt k := by
  intro N
  induction N with
  | zero => intro k hN; omega
  | succ N ih =>
    intro k hN s ka cap w ht hlen
    have HI := hide ih; clear ih
    obtain ⟨hs, hl, hc, hk⟩ := ht
    unfold maxLen at hs hc
    have hbx : Below w.heap.size w (w.alloc (Obj.cells #[Value.string s, Value.slice ka (flen k) cap] 24)) := (Below.refl _ _).alloc (Nat.le_refl _) _
    have hlenT : (txtT s k).length = s.size + ((txtK k 40).length + (clo k).length) := by simp [txtT]
    go_enter Try.func28, Try.ntmps28
    go_wp2_with fail
    go_loopg [3, 4] (flen k) (fun gk v3 v4 wr => ∃ (j : Nat) (cb : UInt8) (done : List UInt8), gk = flen k - j ∧ j ≤ flen k ∧ v4 = .int .i64 j ∧ v3 = .string (str done) ∧ Hid (s.data.toList ++ txtK k 40 = done ++ txtK (fdrop j k) cb) ∧ Hid (cb = if j = 0 then 40 else 32) ∧ Below (w.heap.size + 1) (w.alloc (Obj.cells #[Value.string s, Value.slice ka (flen k) cap] 24)) wr)
    case atStart => exact ⟨0, 40, s.data.toList, rfl, Nat.zero_le _, rfl, by rw [str_self], rfl, rfl, Below.refl _ _⟩
    case round =>
      obtain ⟨j, cb, done, hgk, hj, rfl, rfl, hrun, hcb, hb⟩ := hrel
      obtain ⟨hcell, hfr⟩ := bcell hb
      have hlr := congrArg List.length hrun.out
      simp only [List.length_append, Array.length_toList] at hlr
      have hss : s.data.size = s.size := rfl
      by_cases hlt : j < flen k
      · rcases hk with rfl | ⟨kb, ko, rfl, hk⟩
        · exact absurd hlt (Nat.not_lt_zero _)
        obtain ⟨b', o', x, kk, he, hc0, hc1, htin, hbb⟩ := hk.at hlt
        have hstep := txtK_step (c := cb) he
        have hlen2 := congrArg List.length hstep
        simp only [List.cons_append, List.length_cons, List.length_append] at hlen2
        have HS := hide hstep
        have hn : fnodes kk < N := by have := fnodes_of_drop he; omega
        have hcall : ∀ W, Below w.heap.size w W → Calls Try.prog 28 #[.agg #[.string x.1, .slice x.2.1 (flen kk) x.2.2]] W fun e w' => e = .returned (.string (str (txtT x.1 kk))) ∧ Below W.heap.size W w' := fun W hW => HI.out kk hn _ _ _ W (htin.below hW) (by omega)
        have HC := hide hcall
        clear hstep he hcall
        by_cases hj0 : j = 0
        · have hjb : ((j : Int) == 0) = true := beq_iff_eq.2 (by omega)
          have HJ := hide (show cb = 40 by rw [hcb.out]; simp [hj0])
          clear hj0
          go_wp2_with fail
          refine (HC.out _ (below_of_box hb)).mono ?_
          rintro e w1 ⟨rfl, hb1⟩
          have hb2 := hb.trans (hb1.mono (by have := hb.size; simp at this; omega))
          go_wp2_with fail
          go_roundg (flen k - (j + 1))
          case measure => omega
          case rel =>
            refine ⟨j + 1, 32, done ++ (40 :: txtT x.1 kk), rfl, by omega, by go_num, ?_, ?_, by show _ = _; simp, hb2⟩
            · rw [show (⟨#[40]⟩ : ByteArray) = str [40] from rfl, str_append, str_append]
              simp
            · show _ = _
              have h1 := hrun.out
              rw [h1, HS.out, HJ.out]
              simp
        · have hjb : ((j : Int) == 0) = false := beq_eq_false_iff_ne.2 (by omega)
          have HJ := hide (show cb = 32 by rw [hcb.out]; simp [hj0])
          clear hj0
          go_wp2_with fail
          refine (HC.out _ (below_of_box hb)).mono ?_
          rintro e w1 ⟨rfl, hb1⟩
          have hb2 := hb.trans (hb1.mono (by have := hb.size; simp at this; omega))
          go_wp2_with fail
          go_roundg (flen k - (j + 1))
          case measure => omega
          case rel =>
            refine ⟨j + 1, 32, done ++ (32 :: txtT x.1 kk), rfl, by omega, by go_num, ?_, ?_, by show _ = _; simp, hb2⟩
            · rw [show (⟨#[32]⟩ : ByteArray) = str [32] from rfl, str_append, str_append]
              simp
            · show _ = _
              have h1 := hrun.out
              rw [h1, HS.out, HJ.out]
              simp
      · have hjn : fdrop j k = .nil := fdrop_end j k (by omega)
        have h1 := hrun.out
        rw [hjn] at h1
        have HE := hide (show txtT s k = done ++ clo k by unfold txtT; rw [← List.append_assoc, h1]; simp [txtK])
        clear h1 hjn hrun hcb
        by_cases hk0 : flen k = 0
        · have HK := hide (show clo k = [] by cases k with | nil => rfl | node _ _ _ _ _ => simp [flen] at hk0)
          have hkp : ¬ (0 : Int) < (flen k : Int) := by omega
          go_wp2_with fail
          go_ret
          refine ⟨?_, below_of_box hb⟩
          rw [HE.out, HK.out]
          simp
        · have HK := hide (show clo k = [41] by cases k with | nil => simp [flen] at hk0 | node _ _ _ _ _ => rfl)
          have hkp : (0 : Int) < (flen k : Int) := by omega
          have hlc : (clo k).length = 1 := by rw [HK.out]; rfl
          go_wp2_with fail
          go_ret
          refine ⟨?_, below_of_box hb⟩
          rw [HE.out, HK.out, show (⟨#[41]⟩ : ByteArray) = str [41] from rfl, str_append]
          rfl
end Go.Proofs.Ytafojlockiekfaa
