/- bits.Len of a number from 1 to 255 is how many binary places it has. Of the program's text. -/
import Derived.Test.YtcknganggcbkjabProg
import Derived.Lib.Strings
import Derived.Lib.Slices
import Derived.Lib.Small
import Derived.Lib.Walk
import Derived.Lib.BitFns
namespace Go.Proofs.Ytcknganggcbkjab
open Go
set_option linter.unusedVariables false
set_option maxRecDepth 20000

set_option maxHeartbeats 400000 in
set_option maxRecDepth 100000 in
theorem len64_any (x : Int) (w : World) (h : x < 256) (h1 : 0 < x) :
    Calls Try.prog 114 #[.int .u64 x] w fun e w' => e = .returned (.int .i64 (Lib.bitLen x.toNat)) ∧ w' = w := by
  go_enter Try.func114, Try.ntmps114
  go_wp2
  go_ret
  refine ⟨congrArg Ending.returned (congrArg (Value.int IntKind.i64) ?_), rfl⟩
  have e : x % 256 = x := by omega
  rw [e, Lib.len8_int x (by omega) (by omega)]

theorem bitLen_bd : ∀ n : Fin 256, 0 < n.val → 1 ≤ Lib.bitLen n.val ∧ Lib.bitLen n.val ≤ 8 ∧ 2 ^ (Lib.bitLen n.val - 1) ≤ n.val := by decide +kernel

theorem bitLen_bd' (n : Nat) (h : n < 256) (h0 : 0 < n) : 1 ≤ Lib.bitLen n ∧ Lib.bitLen n ≤ 8 ∧ 2 ^ (Lib.bitLen n - 1) ≤ n := bitLen_bd ⟨n, h⟩ h0

set_option maxHeartbeats 400000 in
set_option maxRecDepth 100000 in
theorem len_any (x : Int) (w : World) (h : x < 256) (h1 : 0 < x) :
    Calls Try.prog 105 #[.int .u64 x] w fun e w' => e = .returned (.int .i64 (Lib.bitLen x.toNat)) ∧ w' = w := by
  go_enter Try.func105, Try.ntmps105
  go_wp2_with fail
  refine (len64_any x _ h h1).mono ?_
  rintro e w1 ⟨rfl, rfl⟩
  go_wp2_with fail
  go_ret
  exact ⟨rfl, rfl⟩

end Go.Proofs.Ytcknganggcbkjab
