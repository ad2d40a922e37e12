/- The reading of package pleachingref: blanks, wrong, is. Of the program's text. -/
import Derived.Test.YtafojlockiekfaaProg
import Derived.Test.YtafojlockiekfaaTxt
import Derived.Test.YtafojlockiekfaaRd
namespace Go.Proofs.Ytafojlockiekfaa
open Go.Deep Go.RowKit
set_option linter.unusedVariables false
set_option maxRecDepth 20000

/-- A reading of s at place p lies in block b; its fault's code and place. -/
def QAt (b : Nat) (s : ByteArray) (p c a : Nat) (w : World) : Prop := w.heap[b]? = some (.cells #[.string s, .int .i64 p, .int .i64 c, .int .i64 a] 86 (0, 0))

section
variable {b : Nat} {s : ByteArray} {p c a : Nat} {w w' : World}
theorem QAt.c0 (h : QAt b s p c a w) : w.cell? ⟨b, 0, none⟩ = some (.string s) := by rw [cell_of_row _ _ 0 _ _ _ h]; rfl
theorem QAt.c1 (h : QAt b s p c a w) : w.cell? ⟨b, 1, none⟩ = some (.int .i64 p) := by rw [cell_of_row _ _ 1 _ _ _ h]; rfl
theorem QAt.c2 (h : QAt b s p c a w) : w.cell? ⟨b, 2, none⟩ = some (.int .i64 c) := by rw [cell_of_row _ _ 2 _ _ _ h]; rfl
theorem QAt.c3 (h : QAt b s p c a w) : w.cell? ⟨b, 3, none⟩ = some (.int .i64 a) := by rw [cell_of_row _ _ 3 _ _ _ h]; rfl
theorem QAt.fz (h : QAt b s p c a w) (o : Nat) : w.frozen? ⟨b, o, none⟩ = false := by
  unfold QAt at h
  simp [World.frozen?, h]
theorem QAt.lt (h : QAt b s p c a w) : b < w.heap.size := World.block_lt_of_cell? _ _ h.c0
theorem QAt.below (h : QAt b s p c a w) (hb : Below w.heap.size w w') : QAt b s p c a w' := by
  have := hb.block b h.lt
  unfold QAt at *
  rw [this]; exact h
theorem QAt.but {g : Nat} (h : QAt b s p c a w) (hg : b ≠ g) (hb : ∀ i, i < w.heap.size → i ≠ g → w'.heap[i]? = w.heap[i]?) : QAt b s p c a w' := by
  have := hb b h.lt hg
  unfold QAt at *
  rw [this]; exact h
theorem QAt.inc (h : QAt b s p c a w) (n : Nat) : QAt b s (p + 1) c a ((w.drewN n).setCell ⟨b, 1, none⟩ (.int .i64 ((p : Int) + 1))) := by
  unfold QAt at *
  simp [World.setCell, Array.getElem?_modify, h]
theorem QAt.set (h : QAt b s p c a w) (c' a' : Nat) : QAt b s p c' a' ((w.setCell ⟨b, 2, none⟩ (.int .i64 c')).setCell ⟨b, 3, none⟩ (.int .i64 a')) := by
  unfold QAt at *
  simp [World.setCell, Array.getElem?_modify, h]
end

set_option maxHeartbeats 400000 in
theorem qblanks_any (b : Nat) (s : ByteArray) (p a : Nat) (w : World) (hr : QAt b s p 0 a w) (hp : p ≤ s.size) (hs : s.size ≤ maxLen) :
    Calls Try.prog 54 #[.pointer (some ⟨b, 0, none⟩)] w fun e w' => ∃ q, e = .returned (.tuple #[]) ∧ p ≤ q ∧ q ≤ s.size ∧ rst s q = skip (rst s p) ∧ QAt b s q 0 a w' ∧ Keeps [b] w w' := by
  unfold maxLen at hs
  go_enter Try.func54, Try.ntmps54
  go_wp2
  go_loopg [] (s.size - p) (fun gk wr => ∃ j : Nat, gk = s.size - j ∧ p ≤ j ∧ j ≤ s.size ∧ Hid (skip (rst s j) = skip (rst s p)) ∧ QAt b s j 0 a wr ∧ Keeps [b] w wr)
  case atStart => exact ⟨p, rfl, Nat.le_refl _, hp, rfl, hr, Keeps.refl _ _⟩
  case round =>
    obtain ⟨j, hgk, hj1, hj2, hsk, hr, hk⟩ := hrel
    have c0 := hr.c0
    have c1 := hr.c1
    have c2 := hr.c2
    have fz := hr.fz 1
    have HR := hide hr
    have HK := hide hk
    clear hr hk
    by_cases hlt : j < s.size
    · by_cases h32 : (s[j].toNat : Int) = 32
      · have e32 : ((s[j].toNat : Int) == 32) = true := beq_iff_eq.2 h32
        have HB := hide (skip_step hlt (blB_yes (Or.inl h32)))
        clear h32
        go_wp2_with fail
        go_quiet (fail)
        go_wp2_with fail
        go_roundg (s.size - (j + 1))
        case measure => omega
        case rel => exact ⟨j + 1, rfl, by omega, by omega, by have h1 := hsk.out; have h2 := HB.out; exact h2.symm.trans h1, HR.out.inc _, HK.out.inc _ _⟩
      · have e32 : ((s[j].toNat : Int) == 32) = false := beq_eq_false_iff_ne.2 h32
        by_cases h10 : (s[j].toNat : Int) = 10
        · have e10 : ((s[j].toNat : Int) == 10) = true := beq_iff_eq.2 h10
          have HB := hide (skip_step hlt (blB_yes (Or.inr h10)))
          clear h10 h32
          go_wp2_with fail
          go_quiet (fail)
          go_wp2_with fail
          go_roundg (s.size - (j + 1))
          case measure => omega
          case rel => exact ⟨j + 1, rfl, by omega, by omega, by have h1 := hsk.out; have h2 := HB.out; exact h2.symm.trans h1, HR.out.inc _, HK.out.inc _ _⟩
        · have e10 : ((s[j].toNat : Int) == 10) = false := beq_eq_false_iff_ne.2 h10
          have HB := hide (skip_stop hlt (blB_no h32 h10))
          clear h10 h32
          go_wp2_with fail
          go_quiet (fail)
          go_wp2_with fail
          go_end0
          exact ⟨j, rfl, hj1, hj2, HB.out.symm.trans hsk.out, HR.out.below (below_drewN (Below.refl _ _) _), HK.out.drawn _⟩
    · have HB := hide (skip_end (s := s) (p := j) (by omega))
      go_wp2_with fail
      go_quiet (fail)
      go_wp2_with fail
      go_end0
      exact ⟨j, rfl, hj1, hj2, HB.out.symm.trans hsk.out, HR.out.below (below_drewN (Below.refl _ _) _), HK.out.drawn _⟩

set_option maxHeartbeats 400000 in
theorem qblanks_idle (b : Nat) (s : ByteArray) (p c a : Nat) (w : World) (hc : 0 < c) (hr : QAt b s p c a w) :
    Calls Try.prog 54 #[.pointer (some ⟨b, 0, none⟩)] w fun e w' => e = .returned (.tuple #[]) ∧ QAt b s p c a w' ∧ Keeps [b] w w' := by
  have c0 := hr.c0
  have c1 := hr.c1
  have c2 := hr.c2
  have hcb : ((c : Int) == 0) = false := beq_eq_false_iff_ne.2 (by omega)
  go_enter Try.func54, Try.ntmps54
  go_wp2
  go_loopg [] 1 (fun gk wr => wr = w)
  case atStart => rfl
  case round =>
    subst hrel
    go_wp2_with fail
    go_quiet (fail)
    go_wp2_with fail
    go_end0
    exact ⟨rfl, hr.below (below_drewN (Below.refl _ _) _), (Keeps.refl _ _).drawn _⟩

theorem faultF_any (c a : Int) (w : World) :
    Calls Try.prog 52 #[.int .i64 c, .int .i64 a] w fun e w' => e = .returned (.agg #[.int .i64 c, .int .i64 a]) ∧ Below w.heap.size w w' := by
  go_enter Try.func52, Try.ntmps52
  go_wp2_with fail
  refine bodyPost_ret (v := .agg #[.int .i64 c, .int .i64 a]) (by simp [results, Try.results52, go_sem]) rfl ⟨rfl, ?_⟩
  exact (Below.refl _ _).alloc (Nat.le_refl _) _

set_option maxHeartbeats 400000 in
theorem qwrong_new (b : Nat) (s : ByteArray) (p a d : Nat) (w : World) (hr : QAt b s p 0 a w) :
    Calls Try.prog 55 #[.pointer (some ⟨b, 0, none⟩), .int .i64 d] w fun e w' => e = .returned (.tuple #[]) ∧ QAt b s p d p w' ∧ Keeps [b] w w' := by
  have c1 := hr.c1
  have c2 := hr.c2
  go_enter Try.func55, Try.ntmps55
  go_wp2_with fail
  refine (faultF_any _ _ _).mono ?_
  rintro e w1 ⟨rfl, hb⟩
  have hr1 := hr.below hb
  have d2 := hr1.c2
  have d3 := hr1.c3
  have f2 := hr1.fz 2
  have f3 := hr1.fz 3
  go_wp2_with fail
  go_end0
  exact ⟨rfl, hr1.set d p, ((Keeps.of_below hb).trans (keeps_set _ _ _)).trans (keeps_set _ _ _)⟩

set_option maxHeartbeats 400000 in
theorem qwrong_idle (b : Nat) (s : ByteArray) (p c a d : Nat) (w : World) (hc : 0 < c) (hr : QAt b s p c a w) :
    Calls Try.prog 55 #[.pointer (some ⟨b, 0, none⟩), .int .i64 d] w fun e w' => e = .returned (.tuple #[]) ∧ QAt b s p c a w' ∧ Keeps [b] w w' := by
  have c2 := hr.c2
  have hcb : ((c : Int) == 0) = false := beq_eq_false_iff_ne.2 (by omega)
  go_enter Try.func55, Try.ntmps55
  go_wp2_with fail
  go_end0
  exact ⟨rfl, hr, Keeps.refl _ _⟩

set_option maxHeartbeats 400000 in
theorem qis_idle (b : Nat) (s : ByteArray) (p c a : Nat) (m : Int) (w : World) (hc : 0 < c) (hr : QAt b s p c a w) :
    Calls Try.prog 70 #[.pointer (some ⟨b, 0, none⟩), .int .u8 m] w fun e w' => e = .returned (.bool false) ∧ QAt b s p c a w' ∧ Keeps [b] w w' := by
  have hcb : ((c : Int) == 0) = false := beq_eq_false_iff_ne.2 (by omega)
  go_enter Try.func70, Try.ntmps70
  go_wp2_with fail
  refine (qblanks_idle b s p c a w hc hr).mono ?_
  rintro e w1 ⟨rfl, hr1, hk1⟩
  have c0 := hr1.c0
  have c1 := hr1.c1
  have c2 := hr1.c2
  go_wp2_with fail
  go_quiet (fail)
  go_wp2_with fail
  go_ret
  exact ⟨rfl, hr1.below (below_drewN (Below.refl _ _) _), hk1.drawn _⟩

set_option maxHeartbeats 400000 in
theorem qis_any (b : Nat) (s : ByteArray) (p a : Nat) (m : Int) (w : World) (hr : QAt b s p 0 a w) (hp : p ≤ s.size) (hs : s.size ≤ maxLen) :
    Calls Try.prog 70 #[.pointer (some ⟨b, 0, none⟩), .int .u8 m] w fun e w' => ∃ y q, e = .returned (.bool y) ∧ p ≤ q ∧ q ≤ s.size ∧ eat m (rst s p) = (if y then some (rst s q) else none) ∧ (y = false → rst s q = skip (rst s p)) ∧ (y = true → p < q) ∧ QAt b s q 0 a w' ∧ Keeps [b] w w' := by
  go_enter Try.func70, Try.ntmps70
  go_wp2_with fail
  refine (qblanks_any b s p a w hr hp hs).mono ?_
  rintro e w1 ⟨q, rfl, hq1, hq2, hq3, hr1, hk1⟩
  unfold maxLen at hs
  have c0 := hr1.c0
  have c1 := hr1.c1
  have c2 := hr1.c2
  have fz := hr1.fz 1
  have HR := hide hr1
  have HK := hide hk1
  have HQ := hide hq3
  clear hr1 hk1 hr hq3
  by_cases hlt : q < s.size
  · by_cases hm : (s[q].toNat : Int) = m
    · have HE := hide (eat_yes HQ.out.symm hlt hm)
      have hmc : ((s[q].toNat : Int) == m) = true := beq_iff_eq.2 hm
      clear hm
      go_wp2_with fail
      go_quiet (fail)
      go_wp2_with fail
      go_ret
      exact ⟨true, q + 1, rfl, by omega, by omega, HE.out, (fun h => by cases h), (fun _ => by omega), HR.out.inc _, HK.out.inc _ _⟩
    · have HE := hide (eat_no HQ.out.symm hlt hm)
      have hmc : ((s[q].toNat : Int) == m) = false := beq_eq_false_iff_ne.2 hm
      clear hm
      go_wp2_with fail
      go_quiet (fail)
      go_wp2_with fail
      go_ret
      exact ⟨false, q, rfl, by omega, by omega, HE.out, fun _ => HQ.out, (fun h => by cases h), HR.out.below (below_drewN (Below.refl _ _) _), HK.out.drawn _⟩
  · have HE := hide (eat_out (m := m) HQ.out.symm (show s.size ≤ q by omega))
    go_wp2_with fail
    go_quiet (fail)
    go_wp2_with fail
    go_ret
    exact ⟨false, q, rfl, by omega, by omega, HE.out, fun _ => HQ.out, (fun h => by cases h), HR.out.below (below_drewN (Below.refl _ _) _), HK.out.drawn _⟩
end Go.Proofs.Ytafojlockiekfaa
