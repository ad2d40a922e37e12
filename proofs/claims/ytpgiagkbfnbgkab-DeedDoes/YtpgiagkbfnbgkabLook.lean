/- The closures of tree.Check and tree.Size: each node that they look at is counted, and its label and place noted. Of the program's text. -/
import Derived.Test.YtpgiagkbfnbgkabProg
import Derived.Test.YtpgiagkbfnbgkabLabel
import Derived.Test.YtpgiagkbfnbgkabWalkInv
namespace Go.Proofs.Ytpgiagkbfnbgkab
open Go.Deep Go.RowKit
set_option linter.unusedVariables false
set_option maxRecDepth 20000

/-- What Check's closure has noted: nodes, the deepest, all labels good. -/
abbrev Nt := Int × Int × Bool
def ntStep (σ : Nt) (x : ByteArray × Nat) : Nt := (σ.1 + 1, max σ.2.1 (x.2 : Int), σ.2.2 && labelB x.1)

structure CSt (C : Nat × Nat × Nat) (w : World) (σ : Nt) : Prop where
  c1 : w.cell? ⟨C.1, 0, none⟩ = some (.int .i64 σ.1)
  c2 : w.cell? ⟨C.2.1, 0, none⟩ = some (.int .i64 σ.2.1)
  c3 : w.cell? ⟨C.2.2, 0, none⟩ = some (.bool σ.2.2)
  f1 : w.frozen? ⟨C.1, 0, none⟩ = false
  f2 : w.frozen? ⟨C.2.1, 0, none⟩ = false
  f3 : w.frozen? ⟨C.2.2, 0, none⟩ = false
  n12 : C.1 ≠ C.2.1
  n13 : C.1 ≠ C.2.2
  n23 : C.2.1 ≠ C.2.2
  lo1 : 0 ≤ σ.1
  lo2 : 0 ≤ σ.2.1

theorem look3 (w : World) (a b c : Nat) (bx0 bx1 : Value) (T : TypeId) (n m : Int) (n' m' : Int) (b' : Bool) {v : Bool} (g1 : w.cell? ⟨a, 0, none⟩ = some (.int .i64 n)) (g2 : w.cell? ⟨b, 0, none⟩ = some (.int .i64 m)) (g3 : w.cell? ⟨c, 0, none⟩ = some (.bool v))
    (f1 : w.frozen? ⟨a, 0, none⟩ = false) (f2 : w.frozen? ⟨b, 0, none⟩ = false) (f3 : w.frozen? ⟨c, 0, none⟩ = false) (n12 : a ≠ b) (n13 : a ≠ c) (n23 : b ≠ c) (l1 : 0 ≤ n') (l2 : 0 ≤ m') :
    CSt (a, b, c) ((((w.setCell ⟨a, 0, none⟩ (.int .i64 n')).setCell ⟨b, 0, none⟩ (.int .i64 m')).setCell ⟨c, 0, none⟩ (.bool b')).alloc (Obj.cells #[bx0, bx1] T)) (n', m', b') ∧
    Keeps [a, b, c] w ((((w.setCell ⟨a, 0, none⟩ (.int .i64 n')).setCell ⟨b, 0, none⟩ (.int .i64 m')).setCell ⟨c, 0, none⟩ (.bool b')).alloc (Obj.cells #[bx0, bx1] T)) := by
  have la : a < w.heap.size := World.block_lt_of_cell? _ _ g1
  have lb : b < w.heap.size := World.block_lt_of_cell? _ _ g2
  have lc : c < w.heap.size := World.block_lt_of_cell? _ _ g3
  refine ⟨⟨?_, ?_, ?_, ?_, ?_, ?_, n12, n13, n23, l1, l2⟩, ⟨rfl, rfl, rfl, by simp [World.setCell], fun x hx hn => ?_⟩⟩
  · go_simp
  · go_simp
  · go_simp
  · go_simp
  · go_simp
  · go_simp
  · simp only [List.mem_cons, List.not_mem_nil, or_false, not_or] at hn
    rw [Below.heap_alloc _ _ _ (by simpa [World.setCell] using hx), Below.heap_setCell _ _ _ _ hn.2.2, Below.heap_setCell _ _ _ _ hn.2.1, Below.heap_setCell _ _ _ _ hn.1]

set_option maxHeartbeats 400000 in
theorem checkLook_any (a b c : Nat) (σ : Nt) (s : ByteArray) (ka : Option Addr) (l cap d : Nat) (w : World) (h : CSt (a, b, c) w σ) (hs : s.size ≤ maxLen) (h1 : σ.1 ≤ 100000) (h2 : σ.2.1 ≤ 100000) (hd : d ≤ 100000) :
    Calls Try.prog 56 #[.agg #[.string s, .slice ka l cap], .int .i64 (d : Int), .pointer (some ⟨a, 0, none⟩), .pointer (some ⟨b, 0, none⟩), .pointer (some ⟨c, 0, none⟩)] w fun e w' =>
      e = .returned (.bool (decide (σ.1 + 1 ≤ 40))) ∧ CSt (a, b, c) w' (ntStep σ (s, d)) ∧ Keeps [a, b, c] w w' := by
  obtain ⟨g1, g2, g3, f1, f2, f3, n12, n13, n23, lo1, lo2⟩ := h
  obtain ⟨n, m, bb⟩ := σ
  simp only at g1 g2 g3 f1 f2 f3 n12 n13 n23 lo1 lo2 h1 h2
  have la : a < w.heap.size := World.block_lt_of_cell? _ _ g1
  have lb : b < w.heap.size := World.block_lt_of_cell? _ _ g2
  have lc : c < w.heap.size := World.block_lt_of_cell? _ _ g3
  cases bb
  · go_enter Try.func56, Try.ntmps56
    go_wp2_with fail
    go_ret
    exact ⟨rfl, look3 w a b c (.string s) (.slice ka l cap) 24 n m _ _ _ g1 g2 g3 f1 f2 f3 n12 n13 n23 (by omega) (by omega)⟩
  · go_enter Try.func56, Try.ntmps56
    go_wp2_with fail
    refine (label_any s _ hs).mono ?_
    rintro e w1 ⟨rfl, rfl⟩
    go_wp2_with fail
    go_ret
    refine ⟨rfl, look3 w a b c (.string s) (.slice ka l cap) 24 n m _ _ _ g1 g2 g3 f1 f2 f3 n12 n13 n23 (by omega) (by omega)⟩

end Go.Proofs.Ytpgiagkbfnbgkab
