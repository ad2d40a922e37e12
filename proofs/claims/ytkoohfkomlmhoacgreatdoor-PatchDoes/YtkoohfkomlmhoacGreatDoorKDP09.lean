/- few of package pleachingref: a number from 0 to 999, as short as can be. Of the program's text. -/
/- number of package patch: a number from 0 to 999, as short as can be. Of the program's text. -/
import Derived.Test.YtkoohfkomlmhoacGreatDoorProg
import Derived.Deep.LoopGhost
import Derived.WalkSmall
import Derived.WalkSpells
import Derived.Test.YtkoohfkomlmhoacGreatDoorKDP07
import Derived.Lib.AtoiErrMem
import Derived.Test.YtkoohfkomlmhoacGreatDoorKDP08
namespace Go.Proofs.YtkoohfkomlmhoacGreatDoor.Pat
open Go.Deep Go.RowKit Deed
set_option linter.unusedVariables false
set_option maxRecDepth 20000

def valP (l : List UInt8) : Nat := l.foldl (fun n c => n * 10 + (c.toNat - 48)) 0
theorem val_snoc (l : List UInt8) (c : UInt8) : valP (l ++ [c]) = valP l * 10 + (c.toNat - 48) := by simp [valP]
theorem val_lt : ∀ (l : List UInt8) (k : Nat), l.all digitB = true → l.foldl (fun n c => n * 10 + (c.toNat - 48)) k < (k + 1) * 10 ^ l.length
  | [], k, _ => by simp
  | c :: l, k, h => by
    simp only [List.all_cons, Bool.and_eq_true] at h
    have h1 := val_lt l (k * 10 + (c.toNat - 48)) h.2
    have hc := h.1
    unfold digitB at hc
    simp only [Bool.and_eq_true, decide_eq_true_eq] at hc
    rw [List.foldl_cons, List.length_cons, Nat.pow_succ, Nat.mul_comm (10 ^ l.length) 10, ← Nat.mul_assoc]
    refine Nat.lt_of_lt_of_le h1 (Nat.mul_le_mul_right _ ?_)
    omega
theorem val_few {l : List UInt8} (h : l.all digitB = true) (hl : l.length ≤ 3) : valP l < 1000 := by
  have h1 := val_lt l 0 h
  have h2 : 10 ^ l.length ≤ 10 ^ 3 := Nat.pow_le_pow_right (by omega) hl
  unfold valP
  omega
theorem take_one (s : ByteArray) (k : Nat) (h : k < s.size) : s.data.toList.take (k + 1) = s.data.toList.take k ++ [s[k]] := by
  rw [List.take_succ_eq_append_getElem (by simpa using h)]; rfl
/-- What few tells. -/
def fewE (l : List UInt8) : Nat × Bool := match fewP l with
  | none => (0, false)
  | some n => (n, true)
theorem fewE_no {l : List UInt8} (h : l.length < 1 ∨ 3 < l.length ∨ (l.head? = some 48 ∧ 1 < l.length)) : fewE l = (0, false) := by
  unfold fewE fewP
  rw [if_pos h]
theorem fewE_bad {l : List UInt8} (h : l.all digitB = false) : fewE l = (0, false) := by
  unfold fewE fewP
  split
  · rfl
  · rename_i n hn
    split at hn
    · cases hn
    · rw [h] at hn
      cases hn
theorem fewE_yes {l : List UInt8} (h : ¬ (l.length < 1 ∨ 3 < l.length ∨ (l.head? = some 48 ∧ 1 < l.length))) (ha : l.all digitB = true) : fewE l = (valP l, true) := by
  unfold fewE fewP
  rw [if_neg h, if_pos ha]
  rfl
theorem head_at {s : ByteArray} (h : 0 < s.size) : s.data.toList.head? = some s[0] := by
  rw [List.head?_eq_getElem?, List.getElem?_eq_getElem (by simpa using h)]
  rfl
theorem digit_low {c : UInt8} (h : c.toNat < 48) : digitB c = false := by
  unfold digitB
  rw [decide_eq_false (by omega)]
  rfl
theorem digit_high {c : UInt8} (h : 57 < c.toNat) : digitB c = false := by
  unfold digitB
  rw [show decide (c.toNat ≤ 57) = false by simp; omega]
  simp
theorem digit_yes {c : UInt8} (h : ¬ c.toNat < 48) (h' : ¬ 57 < c.toNat) : digitB c = true := by
  unfold digitB
  simp
  omega
theorem bad_byte {s : ByteArray} {k : Nat} (h : k < s.size) (hc : digitB s[k] = false) : s.data.toList.all digitB = false := by
  rw [List.all_eq_false]
  exact ⟨s[k], by rw [ByteArray.getElem_eq_getElem_data]; simp, by simp [hc]⟩

set_option maxHeartbeats 1000000 in
theorem few_any (s : ByteArray) (w : World) (hs : s.size ≤ maxLen) :
    Calls Tryz.prog 36 #[.string s] w fun e w' => e = .returned (.tuple #[.int .i64 (fewE s.data.toList).1, .bool (fewE s.data.toList).2]) ∧ w' = w := by
  unfold maxLen at hs
  have hlen : s.data.toList.length = s.size := by simp
  by_cases h1 : s.size < 1
  · have HE := hide (fewE_no (l := s.data.toList) (Or.inl (by omega)))
    go_enter Tryz.func36, Tryz.ntmps36
    go_wp2_with fail
    refine bodyPost_ret (v := .tuple #[.int .i64 0, .bool false]) (by simp [results, Tryz.results36, go_sem]) rfl ⟨by rw [HE.out]; rfl, rfl⟩
  · by_cases h3 : 3 < s.size
    · have HE := hide (fewE_no (l := s.data.toList) (Or.inr (Or.inl (by omega))))
      go_enter Tryz.func36, Tryz.ntmps36
      go_wp2_with fail
      refine bodyPost_ret (v := .tuple #[.int .i64 0, .bool false]) (by simp [results, Tryz.results36, go_sem]) rfl ⟨by rw [HE.out]; rfl, rfl⟩
    · have h0 : 0 < s.size := by omega
      by_cases hz : s[0].toNat = 48 ∧ 1 < s.size
      · have hz1 : ((s[0].toNat : Int) == 48) = true := beq_iff_eq.2 (by omega)
        have hz2 : (1 : Int) < (s.size : Int) := by omega
        have HE := hide (fewE_no (l := s.data.toList) (Or.inr (Or.inr ⟨by rw [head_at h0]; congr 1; exact UInt8.toNat_inj.1 hz.1, by omega⟩)))
        clear hz
        go_enter Tryz.func36, Tryz.ntmps36
        go_wp2_with fail
        refine bodyPost_ret (v := .tuple #[.int .i64 0, .bool false]) (by simp [results, Tryz.results36, go_sem]) rfl ⟨by rw [HE.out]; rfl, rfl⟩
      · have HN := hide (show ¬ (s.data.toList.length < 1 ∨ 3 < s.data.toList.length ∨ (s.data.toList.head? = some 48 ∧ 1 < s.data.toList.length)) by
          rintro (h | h | ⟨h, h'⟩)
          · omega
          · omega
          · rw [head_at h0] at h
            refine hz ⟨?_, by omega⟩
            rw [Option.some.inj h]
            rfl)
        have hz' : (((s[0].toNat : Int) == 48) = true ∧ ¬ (1 : Int) < (s.size : Int)) ∨ ((s[0].toNat : Int) == 48) = false := by
          by_cases h : s[0].toNat = 48
          · exact Or.inl ⟨beq_iff_eq.2 (by omega), fun h' => hz ⟨h, by omega⟩⟩
          · exact Or.inr (beq_eq_false_iff_ne.2 (by omega))
        clear hz
        rcases hz' with ⟨hz1, hz2⟩ | hz1
        · go_enter Tryz.func36, Tryz.ntmps36
          go_wp2_with fail
          go_loop [4, 5] (fun n i => ∃ j : Nat, j ≤ s.size ∧ i = .int .i64 j ∧ n = .int .i64 ((valP (s.data.toList.take j) : Nat) : Int) ∧ Hid ((s.data.toList.take j).all digitB = true)) (fun n i => s.size - (intOf i).toNat)
          case atStart => exact ⟨0, Nat.zero_le _, rfl, rfl, rfl⟩
          case round =>
            obtain ⟨j, hj, rfl, rfl, ha⟩ := hrel
            by_cases hlt : j < s.size
            · by_cases hb1 : (s[j].toNat : Int) < 48
              · have HE := hide (fewE_bad (bad_byte hlt (digit_low (by omega))))
                go_wp2_with fail
                refine bodyPost_ret (v := .tuple #[.int .i64 0, .bool false]) (by simp [results, Tryz.results36, go_sem]) rfl ⟨by rw [HE.out]; rfl, rfl⟩
              by_cases hb2 : 57 < (s[j].toNat : Int)
              · have HE := hide (fewE_bad (bad_byte hlt (digit_high (by omega))))
                go_wp2_with fail
                refine bodyPost_ret (v := .tuple #[.int .i64 0, .bool false]) (by simp [results, Tryz.results36, go_sem]) rfl ⟨by rw [HE.out]; rfl, rfl⟩
              have hv := val_few ha.out (by rw [List.length_take]; omega)
              have ha' : (s.data.toList.take (j + 1)).all digitB = true := by
                rw [take_one s j hlt, List.all_append, ha.out]
                simp [digit_yes (c := s[j]) (by omega) (by omega)]
              have HS := hide (show valP (s.data.toList.take (j + 1)) = valP (s.data.toList.take j) * 10 + (s[j].toNat - 48) by rw [take_one s j hlt, val_snoc])
              have HA := hide ha'
              clear ha'
              generalize hV : valP (s.data.toList.take j) = V at *
              have HV := hide hV
              clear hV
              go_wp2_with fail
              go_round
              case rel =>
                refine ⟨j + 1, by omega, by go_num, ?_, HA.out⟩
                rw [HS.out]
                go_num
              case measure => simp [intOf]; omega
            · have hjs : j = s.size := by omega
              have HE := hide (show fewE s.data.toList = (valP (s.data.toList.take j), true) by
                have e : s.data.toList.take j = s.data.toList := List.take_of_length_le (by omega)
                have h5 := ha.out
                rw [e] at h5 ⊢
                exact fewE_yes HN.out h5)
              generalize valP (s.data.toList.take j) = V at *
              go_wp2_with fail
              refine bodyPost_ret (v := .tuple #[.int .i64 ((V : Nat) : Int), .bool true]) (by simp [results, Tryz.results36, go_sem]) rfl ⟨by rw [HE.out], rfl⟩
        · go_enter Tryz.func36, Tryz.ntmps36
          go_wp2_with fail
          go_loop [4, 5] (fun n i => ∃ j : Nat, j ≤ s.size ∧ i = .int .i64 j ∧ n = .int .i64 ((valP (s.data.toList.take j) : Nat) : Int) ∧ Hid ((s.data.toList.take j).all digitB = true)) (fun n i => s.size - (intOf i).toNat)
          case atStart => exact ⟨0, Nat.zero_le _, rfl, rfl, rfl⟩
          case round =>
            obtain ⟨j, hj, rfl, rfl, ha⟩ := hrel
            by_cases hlt : j < s.size
            · by_cases hb1 : (s[j].toNat : Int) < 48
              · have HE := hide (fewE_bad (bad_byte hlt (digit_low (by omega))))
                go_wp2_with fail
                refine bodyPost_ret (v := .tuple #[.int .i64 0, .bool false]) (by simp [results, Tryz.results36, go_sem]) rfl ⟨by rw [HE.out]; rfl, rfl⟩
              by_cases hb2 : 57 < (s[j].toNat : Int)
              · have HE := hide (fewE_bad (bad_byte hlt (digit_high (by omega))))
                go_wp2_with fail
                refine bodyPost_ret (v := .tuple #[.int .i64 0, .bool false]) (by simp [results, Tryz.results36, go_sem]) rfl ⟨by rw [HE.out]; rfl, rfl⟩
              have hv := val_few ha.out (by rw [List.length_take]; omega)
              have ha' : (s.data.toList.take (j + 1)).all digitB = true := by
                rw [take_one s j hlt, List.all_append, ha.out]
                simp [digit_yes (c := s[j]) (by omega) (by omega)]
              have HS := hide (show valP (s.data.toList.take (j + 1)) = valP (s.data.toList.take j) * 10 + (s[j].toNat - 48) by rw [take_one s j hlt, val_snoc])
              have HA := hide ha'
              clear ha'
              generalize hV : valP (s.data.toList.take j) = V at *
              have HV := hide hV
              clear hV
              go_wp2_with fail
              go_round
              case rel =>
                refine ⟨j + 1, by omega, by go_num, ?_, HA.out⟩
                rw [HS.out]
                go_num
              case measure => simp [intOf]; omega
            · have hjs : j = s.size := by omega
              have HE := hide (show fewE s.data.toList = (valP (s.data.toList.take j), true) by
                have e : s.data.toList.take j = s.data.toList := List.take_of_length_le (by omega)
                have h5 := ha.out
                rw [e] at h5 ⊢
                exact fewE_yes HN.out h5)
              generalize valP (s.data.toList.take j) = V at *
              go_wp2_with fail
              refine bodyPost_ret (v := .tuple #[.int .i64 ((V : Nat) : Int), .bool true]) (by simp [results, Tryz.results36, go_sem]) rfl ⟨by rw [HE.out], rfl⟩
end Go.Proofs.YtkoohfkomlmhoacGreatDoor.Pat
namespace Go.Proofs.YtkoohfkomlmhoacGreatDoor.Pat
open Go.Deep Go.RowKit Deed
set_option linter.unusedVariables false
set_option maxRecDepth 20000

theorem fewE_none {l : List UInt8} (h : fewP l = none) : fewE l = (0, false) := by unfold fewE; rw [h]
theorem fewE_some {l : List UInt8} {n : Nat} (h : fewP l = some n) : fewE l = (n, true) := by unfold fewE; rw [h]

set_option maxHeartbeats 1000000 in
theorem number_any (s : ByteArray) (w : World) (hs : s.size ≤ 100000000) (ht : Tab w) :
    Calls Tryz.prog 35 #[.string s] w fun e w' => e = .returned (.tuple #[.int .i64 (fewE s.data.toList).1, .bool (fewE s.data.toList).2]) ∧ Below w.heap.size w w' := by
  cases ha : Lib.atoiAll s.data.toList with
  | «syntax» =>
    have HF := hide (fewE_none (few_not (s := s.data.toList) (fun v hv => by rw [ha] at hv; cases hv)))
    obtain ⟨ev, h1, h2⟩ := ht.bad
    have HA := hide (Tryz.strconv_Atoi_syntax s (by omega) ha ev w h1 h2)
    clear ha h1 h2
    go_enter Tryz.func35, Tryz.ntmps35
    go_wp2_with fail
    refine Calls.mono HA.out ?_
    rintro e w1 ⟨N, rfl, _, _, hb1⟩
    have HB := hide hb1
    clear hb1 HA
    go_wp2_with fail
    refine bodyPost_ret (v := .tuple #[.int .i64 0, .bool false]) (by simp [results, Tryz.results35, go_sem]) rfl ⟨by rw [HF.out]; rfl, HB.out⟩
  | range =>
    have HF := hide (fewE_none (few_not (s := s.data.toList) (fun v hv => by rw [ha] at hv; cases hv)))
    obtain ⟨ev, h1, h2⟩ := ht.far
    have HA := hide (Tryz.strconv_Atoi_range s (by omega) ha ev w h1 h2)
    clear ha h1 h2
    go_enter Tryz.func35, Tryz.ntmps35
    go_wp2_with fail
    refine Calls.mono HA.out ?_
    rintro e w1 ⟨N, rfl, _, _, hb1⟩
    have HB := hide hb1
    clear hb1 HA
    go_wp2_with fail
    refine bodyPost_ret (v := .tuple #[.int .i64 0, .bool false]) (by simp [results, Tryz.results35, go_sem]) rfl ⟨by rw [HF.out]; rfl, HB.out⟩
  | ok v =>
    have HA := hide ((Tryz.strconv_Atoi_ok s (by omega) v ha w).mono fun e w' (h : _ ∧ (w' = w ∨ ∃ t, w' = Lib.bytesWorld w 5 t)) => (⟨h.1, by
      rcases h.2 with h | ⟨t, h⟩
      · rw [h]; exact Below.refl _ _
      · rw [h]; exact Lib.bytesWorld_below _ _ _⟩ : e = .returned (.tuple #[.int .i64 v, .nilIface]) ∧ Below w.heap.size w w'))
    by_cases h0 : v < 0
    · have HF := hide (fewE_none (few_not (s := s.data.toList) (fun u hu => by rw [ha] at hu; cases hu; omega)))
      clear ha
      go_enter Tryz.func35, Tryz.ntmps35
      go_wp2_with fail
      refine Calls.mono HA.out ?_
      rintro e w1 ⟨rfl, hb1⟩
      have HB := hide hb1
      clear hb1 HA
      go_wp2_with fail
      refine bodyPost_ret (v := .tuple #[.int .i64 0, .bool false]) (by simp [results, Tryz.results35, go_sem]) rfl ⟨by rw [HF.out]; rfl, HB.out⟩
    by_cases h9 : 999 < v
    · have HF := hide (fewE_none (few_not (s := s.data.toList) (fun u hu => by rw [ha] at hu; cases hu; omega)))
      clear ha
      go_enter Tryz.func35, Tryz.ntmps35
      go_wp2_with fail
      refine Calls.mono HA.out ?_
      rintro e w1 ⟨rfl, hb1⟩
      have HB := hide hb1
      clear hb1 HA
      go_wp2_with fail
      refine bodyPost_ret (v := .tuple #[.int .i64 0, .bool false]) (by simp [results, Tryz.results35, go_sem]) rfl ⟨by rw [HF.out]; rfl, HB.out⟩
    have HT := hide ht
    have d0 : decide (v < 0) = false := decide_eq_false h0
    have d9 : decide (999 < v) = false := decide_eq_false h9
    have HV9 := hide (show 0 ≤ v ∧ v ≤ 999 by omega)
    clear h0 h9
    by_cases hi : Lib.itoa v = s.data.toList
    · have HF := hide (fewE_some (few_atoi (s := s.data.toList) HV9.out.1 HV9.out.2 hi))
      have hne : (Lib.itoa v == s.toList) = true := by rw [ByteArray.toList_eq, hi]; simp
      have hv : ((v.toNat : Nat) : Int) = v := by have := HV9.out; omega
      have HV := hide hv
      clear ha hi hv
      go_enter Tryz.func35, Tryz.ntmps35
      go_wp2_with fail
      refine Calls.mono HA.out ?_
      rintro e w1 ⟨rfl, hb1⟩
      have HB := hide hb1
      have HI := hide (itoa_any v ⟨by have := HV9.out; omega, by have := HV9.out; omega⟩ w1 (HT.out.below hb1))
      clear hb1 HA
      go_wp2_with fail
      refine Calls.mono HI.out ?_
      rintro e w2 ⟨rfl, hb2⟩
      have HB2 := hide (HB.out.trans (hb2.mono HB.out.size))
      clear hb2 HI
      go_wp2_with fail
      refine bodyPost_ret (v := .tuple #[.int .i64 v, .bool true]) (by simp [results, Tryz.results35, go_sem]) rfl ⟨by rw [HF.out]; simp only [HV.out], HB2.out⟩
    · have HF := hide (fewE_none (few_not (s := s.data.toList) (fun u hu => by rw [ha] at hu; cases hu; exact fun h => hi h.2.2)))
      have hne : (Lib.itoa v == s.toList) = false := by rw [ByteArray.toList_eq]; simpa using hi
      clear ha hi
      go_enter Tryz.func35, Tryz.ntmps35
      go_wp2_with fail
      refine Calls.mono HA.out ?_
      rintro e w1 ⟨rfl, hb1⟩
      have HB := hide hb1
      have HI := hide (itoa_any v ⟨by have := HV9.out; omega, by have := HV9.out; omega⟩ w1 (HT.out.below hb1))
      clear hb1 HA
      go_wp2_with fail
      refine Calls.mono HI.out ?_
      rintro e w2 ⟨rfl, hb2⟩
      have HB2 := hide (HB.out.trans (hb2.mono HB.out.size))
      clear hb2 HI
      go_wp2_with fail
      refine bodyPost_ret (v := .tuple #[.int .i64 0, .bool false]) (by simp [results, Tryz.results35, go_sem]) rfl ⟨by rw [HF.out]; rfl, HB2.out⟩
end Go.Proofs.YtkoohfkomlmhoacGreatDoor.Pat
