/- The reader of package text: blanks. Of the program's text. -/
import Derived.Test.YtafojlockiekfaaProg
import Derived.Test.YtafojlockiekfaaTxt
import Derived.Test.YtafojlockiekfaaWalkInv
import Derived.WalkSpells
import Derived.Deep.LoopGhost
import Derived.Deep.QuietTactic
import Derived.BigQuiet
import Derived.WalkSmall
namespace Go.Proofs.Ytafojlockiekfaa
open Go.Deep Go.RowKit
set_option linter.unusedVariables false
set_option maxRecDepth 20000

/-- A reader of s at place p lies in block b. -/
def RAt (b : Nat) (s : ByteArray) (p : Nat) (w : World) : Prop := w.heap[b]? = some (.cells #[.string s, .int .i64 p] 109 (0, 0))

theorem RAt.c0 {b : Nat} {s : ByteArray} {p : Nat} {w : World} (h : RAt b s p w) : w.cell? ⟨b, 0, none⟩ = some (.string s) := by rw [cell_of_row _ _ 0 _ _ _ h]; rfl
theorem RAt.c1 {b : Nat} {s : ByteArray} {p : Nat} {w : World} (h : RAt b s p w) : w.cell? ⟨b, 1, none⟩ = some (.int .i64 p) := by rw [cell_of_row _ _ 1 _ _ _ h]; rfl
theorem RAt.fz {b : Nat} {s : ByteArray} {p : Nat} {w : World} (h : RAt b s p w) (o : Nat) : w.frozen? ⟨b, o, none⟩ = false := by
  unfold RAt at h
  simp [World.frozen?, h]
theorem RAt.lt {b : Nat} {s : ByteArray} {p : Nat} {w : World} (h : RAt b s p w) : b < w.heap.size := World.block_lt_of_cell? _ _ h.c0
theorem RAt.set {b : Nat} {s : ByteArray} {p q : Nat} {w : World} (h : RAt b s p w) : RAt b s q (w.setCell ⟨b, 1, none⟩ (.int .i64 q)) := by
  unfold RAt at *
  simp [World.setCell, Array.getElem?_modify, h]
theorem RAt.below {b : Nat} {s : ByteArray} {p : Nat} {w w' : World} (h : RAt b s p w) (hb : Below w.heap.size w w') : RAt b s p w' := by
  have := hb.block b h.lt
  unfold RAt at *
  rw [this]; exact h
theorem keeps_set {b : Nat} (w : World) (o : Nat) (v : Value) : Keeps [b] w (w.setCell ⟨b, o, none⟩ v) :=
  ⟨rfl, rfl, rfl, by simp [World.setCell], fun i _ hn => Below.heap_setCell _ _ _ _ (fun e => hn (by simp [e]))⟩

theorem RAt.inc {b : Nat} {s : ByteArray} {p : Nat} {w : World} (h : RAt b s p w) (n : Nat) : RAt b s (p + 1) ((w.drewN n).setCell ⟨b, 1, none⟩ (.int .i64 ((p : Int) + 1))) :=
  RAt.set (q := p + 1) (h.below (below_drewN (Below.refl _ _) n))
theorem Keeps.inc {b : Nat} {w wr : World} (h : Keeps [b] w wr) (n : Nat) (v : Value) : Keeps [b] w ((wr.drewN n).setCell ⟨b, 1, none⟩ v) :=
  (h.trans (Keeps.of_below (below_drewN (Below.refl _ _) n))).trans (keeps_set _ _ _)
theorem Keeps.drawn {b : Nat} {w wr : World} (h : Keeps [b] w wr) (n : Nat) : Keeps [b] w (wr.drewN n) := h.trans (Keeps.of_below (below_drewN (Below.refl _ _) n))

set_option maxHeartbeats 400000 in
theorem blanks_any (b : Nat) (s : ByteArray) (p : Nat) (w : World) (hr : RAt b s p w) (hp : p ≤ s.size) (hs : s.size ≤ maxLen) :
    Calls Try.prog 68 #[.pointer (some ⟨b, 0, none⟩)] w fun e w' => ∃ q, e = .returned (.tuple #[]) ∧ p ≤ q ∧ q ≤ s.size ∧ rst s q = skip (rst s p) ∧ RAt b s q w' ∧ Keeps [b] w w' := by
  unfold maxLen at hs
  go_enter Try.func68, Try.ntmps68
  go_wp2
  go_loopg [] (s.size - p) (fun gk wr => ∃ j : Nat, gk = s.size - j ∧ p ≤ j ∧ j ≤ s.size ∧ Hid (skip (rst s j) = skip (rst s p)) ∧ RAt b s j wr ∧ Keeps [b] w wr)
  case atStart => exact ⟨p, rfl, Nat.le_refl _, hp, rfl, hr, Keeps.refl _ _⟩
  case round =>
    obtain ⟨j, hgk, hj1, hj2, hsk, hr, hk⟩ := hrel
    have c0 := hr.c0
    have c1 := hr.c1
    have fz := hr.fz 1
    have HR := hide hr
    have HK := hide hk
    clear hr hk
    by_cases hlt : j < s.size
    · by_cases h32 : (s[j].toNat : Int) = 32
      · have e32 : ((s[j].toNat : Int) == 32) = true := beq_iff_eq.2 h32
        have HB := hide (skip_step hlt (blB_yes (Or.inl h32)))
        clear h32
        go_wp2_with fail
        go_quiet (fail)
        go_wp2_with fail
        go_roundg (s.size - (j + 1))
        case measure => omega
        case rel => exact ⟨j + 1, rfl, by omega, by omega, by have h1 := hsk.out; have h2 := HB.out; exact h2.symm.trans h1, HR.out.inc _, HK.out.inc _ _⟩
      · have e32 : ((s[j].toNat : Int) == 32) = false := beq_eq_false_iff_ne.2 h32
        by_cases h10 : (s[j].toNat : Int) = 10
        · have e10 : ((s[j].toNat : Int) == 10) = true := beq_iff_eq.2 h10
          have HB := hide (skip_step hlt (blB_yes (Or.inr h10)))
          clear h10 h32
          go_wp2_with fail
          go_quiet (fail)
          go_wp2_with fail
          go_roundg (s.size - (j + 1))
          case measure => omega
          case rel => exact ⟨j + 1, rfl, by omega, by omega, by have h1 := hsk.out; have h2 := HB.out; exact h2.symm.trans h1, HR.out.inc _, HK.out.inc _ _⟩
        · have e10 : ((s[j].toNat : Int) == 10) = false := beq_eq_false_iff_ne.2 h10
          have HB := hide (skip_stop hlt (blB_no h32 h10))
          clear h10 h32
          go_wp2_with fail
          go_quiet (fail)
          go_wp2_with fail
          go_end0
          exact ⟨j, rfl, hj1, hj2, HB.out.symm.trans hsk.out, HR.out.below (below_drewN (Below.refl _ _) _), HK.out.drawn _⟩
    · have HB := hide (skip_end (s := s) (p := j) (by omega))
      go_wp2_with fail
      go_quiet (fail)
      go_wp2_with fail
      go_end0
      exact ⟨j, rfl, hj1, hj2, HB.out.symm.trans hsk.out, HR.out.below (below_drewN (Below.refl _ _) _), HK.out.drawn _⟩

/-- What a reader that gives up panics with. -/
def stopV (c : Nat) (p : Nat) : Value := .iface 107 (.agg #[.int .i64 c, .int .i64 p])

set_option maxHeartbeats 400000 in
theorem giveUp_any (b : Nat) (s : ByteArray) (p c : Nat) (w : World) (hr : RAt b s p w) :
    Calls Try.prog 69 #[.pointer (some ⟨b, 0, none⟩), .int .i64 c] w fun e w' => e = .panicked [{ v := stopV c p, recovered := false }] ∧ Keeps [b] w w' := by
  have c1 := hr.c1
  go_enter Try.func69, Try.ntmps69
  go_wp2_with fail
  exact ⟨rfl, rfl, Keeps.refl _ _⟩

set_option maxHeartbeats 400000 in
theorem comes_any (b : Nat) (s : ByteArray) (p : Nat) (m : Int) (w : World) (hr : RAt b s p w) (hp : p ≤ s.size) (hs : s.size ≤ maxLen) :
    Calls Try.prog 75 #[.pointer (some ⟨b, 0, none⟩), .int .u8 m] w fun e w' => ∃ y q, e = .returned (.bool y) ∧ p ≤ q ∧ q ≤ s.size ∧ eat m (rst s p) = (if y then some (rst s q) else none) ∧ (y = false → rst s q = skip (rst s p)) ∧ (y = true → p < q) ∧ RAt b s q w' ∧ Keeps [b] w w' := by
  go_enter Try.func75, Try.ntmps75
  go_wp2_with fail
  refine (blanks_any b s p w hr hp hs).mono ?_
  rintro e w1 ⟨q, rfl, hq1, hq2, hq3, hr1, hk1⟩
  unfold maxLen at hs
  have c0 := hr1.c0
  have c1 := hr1.c1
  have fz := hr1.fz 1
  have HR := hide hr1
  have HK := hide hk1
  have HQ := hide hq3
  clear hr1 hk1 hr hq3
  by_cases hlt : q < s.size
  · have hne : ((q : Int) == (s.size : Int)) = false := beq_eq_false_iff_ne.2 (by omega)
    by_cases hm : (s[q].toNat : Int) = m
    · have HE := hide (eat_yes HQ.out.symm hlt hm)
      have hmb : (!((s[q].toNat : Int) == m)) = false := by rw [beq_iff_eq.2 hm]; rfl
      have hmc : ((s[q].toNat : Int) == m) = true := beq_iff_eq.2 hm
      clear hm
      go_wp2_with fail
      go_quiet (fail)
      go_wp2_with fail
      go_ret
      exact ⟨true, q + 1, rfl, by omega, by omega, HE.out, (fun h => by cases h), (fun _ => by omega), HR.out.inc _, HK.out.inc _ _⟩
    · have HE := hide (eat_no HQ.out.symm hlt hm)
      have hmb : (!((s[q].toNat : Int) == m)) = true := by rw [beq_eq_false_iff_ne.2 hm]; rfl
      have hmc : ((s[q].toNat : Int) == m) = false := beq_eq_false_iff_ne.2 hm
      clear hm
      go_wp2_with fail
      go_quiet (fail)
      go_wp2_with fail
      go_ret
      exact ⟨false, q, rfl, by omega, by omega, HE.out, fun _ => HQ.out, (fun h => by cases h), HR.out.below (below_drewN (Below.refl _ _) _), HK.out.drawn _⟩
  · have hne : ((q : Int) == (s.size : Int)) = true := beq_iff_eq.2 (by omega)
    have HE := hide (eat_out (m := m) HQ.out.symm (show s.size ≤ q by omega))
    go_wp2_with fail
    go_quiet (fail)
    go_wp2_with fail
    go_ret
    exact ⟨false, q, rfl, by omega, by omega, HE.out, fun _ => HQ.out, (fun h => by cases h), HR.out.below (below_drewN (Below.refl _ _) _), HK.out.drawn _⟩
end Go.Proofs.Ytafojlockiekfaa
