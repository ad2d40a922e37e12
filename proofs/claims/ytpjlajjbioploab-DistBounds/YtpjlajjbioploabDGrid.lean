/- grid of package dist lays rows of zeros. Of the program's text. -/
import Derived.Test.YtpjlajjbioploabProg
import Derived.Test.YtpjlajjbioploabDistM
import Derived.Deep.LoopGhost
import Derived.WalkSmall
namespace Go.Proofs.Ytpjlajjbioploab.Dist
open Go.Deep Go.RowKit
set_option linter.unusedVariables false
set_option maxRecDepth 20000

theorem infoInts : (Try.prog.info? 51).map (fun i => (i.zero, i.size, i.bytes)) = some (some (.slice none 0 0), 1, 24) := by kernel_rfl
theorem infoNum : (Try.prog.info? 3).map (fun i => (i.zero, i.size, i.bytes)) = some (some (.int .i64 0), 1, 8) := by kernel_rfl

structure GrInv (w : World) (n m i : Nat) (wr : World) : Prop where
  head : wr.rowIs w.heap.size 51 n (fun a => if a < i then .slice (some ⟨w.heap.size + 1 + a, 0, none⟩) m m else .slice none 0 0)
  rows : ∀ a, a < i → wr.rowIs (w.heap.size + 1 + a) 3 m (fun _ => .int .i64 0)
  size : wr.heap.size = w.heap.size + 1 + i
  below : Below w.heap.size w wr

theorem GrInv.step {w wr : World} {n m i : Nat} (h : GrInv w n m i wr) (hi : i < n) :
    GrInv w n m (i + 1) ((wr.setCell ⟨w.heap.size, i, none⟩ (.slice (some ⟨wr.heap.size, 0, none⟩) m m)).alloc (.cells (madeCells #[.int .i64 0] m) 3)) := by
  have hs := h.size
  have hz : (wr.setCell ⟨w.heap.size, i, none⟩ (.slice (some ⟨wr.heap.size, 0, none⟩) m m)).heap.size = wr.heap.size := by simp [World.setCell]
  refine ⟨?_, fun a ha => ?_, by simp [World.setCell]; omega, (h.below.setCell (by simp) _).alloc (by omega) _⟩
  · refine ((h.head.set i _).congr fun a ha => ?_).alloc _
    by_cases e : a = i
    · subst e
      rw [if_pos rfl, if_pos (by omega), hs]
    · rw [if_neg e]
      by_cases e2 : a < i
      · rw [if_pos e2, if_pos (by omega)]
      · rw [if_neg e2, if_neg (by omega)]
  · by_cases e : a = i
    · subst e
      have := World.rowIs_made (wr.setCell ⟨w.heap.size, a, none⟩ (.slice (some ⟨wr.heap.size, 0, none⟩) m m)) (.int .i64 0) m 3
      rw [hz, hs] at this
      rw [hs]
      exact this
    · exact ((h.rows a (by omega)).setOther (by simp; omega) _).alloc _

set_option maxHeartbeats 1000000 in
theorem grid_any (n m : Nat) (w : World) (hn : n ≤ 1000) (hm : m ≤ 1000) :
    Calls Try.prog 17 #[.int .i64 (n : Int), .int .i64 (m : Int)] w fun e w' => e = .returned (.slice (some ⟨w.heap.size, 0, none⟩) n n) ∧ GridIn w' w.heap.size n m (fun _ _ => 0) ∧ Below w.heap.size w w' ∧ w'.heap.size = w.heap.size + 1 + n := by
  have hmk := run_make_row' (P := Try.prog) 46 51 (.slice none 0 0) 24 Try.underlying46 infoInts rfl .i64 .i64 n (by omega) (by omega)
  have hmi := run_make_row' (P := Try.prog) 51 3 (.int .i64 0) 8 Try.underlying51 infoNum rfl .i64 .i64 m (by omega) (by omega)
  have hst : GrInv w n m 0 (w.alloc (.cells (madeCells #[.slice none 0 0] n) 51)) := ⟨(World.rowIs_made w _ n _).congr fun a _ => (if_neg (by omega)).symm, fun a ha => by omega, by simp, (Below.refl _ _).alloc (Nat.le_refl _) _⟩
  have HST := hide hst
  clear hst
  go_enter Try.func17, Try.ntmps17
  go_wp2_with fail
  go_loopg [11] n (fun gk v11 wr => ∃ i : Nat, gk = n - i ∧ i ≤ n ∧ v11 = .int .i64 (i : Nat) ∧ GrInv w n m i wr)
  case atStart => exact ⟨0, rfl, Nat.zero_le _, rfl, HST.out⟩
  case round =>
    obtain ⟨i, hgk, hi, rfl, hI⟩ := hrel
    by_cases hin : i < n
    · have q0 := hI.head.cell hin
      rw [if_neg (by omega)] at q0
      have q1 := hI.head.frozen i
      have hs := hI.size
      have hlt : w.heap.size < wr.heap.size := by omega
      have HI := hide (hI.step hin)
      clear hI hs
      go_wp2_with fail
      go_roundg (n - (i + 1))
      case measure => omega
      case rel => exact ⟨i + 1, rfl, by omega, by go_num, HI.out⟩
    · have hie : i = n := by omega
      subst hie
      have HI := hide hI
      clear hI
      go_wp2_with fail
      go_ret
      exact ⟨rfl, ⟨HI.out.head.congr fun a ha => if_pos ha, fun a ha => HI.out.rows a ha⟩, HI.out.below, HI.out.size⟩
end Go.Proofs.Ytpjlajjbioploab.Dist
