/- A map whose keys are two places and a length: a key whose first place lies in another block than all that were put in is not there. Of the program's types. -/
import Derived.Test.YtafojlockiekfaaProg
import Derived.Test.YtafojlockiekfaaFo2
import Derived.Test.YtafojlockiekfaaBack
import Derived.LaidEqlPtr
import Derived.WalkSpells
namespace Go.Proofs.Ytafojlockiekfaa
open Go.Deep Go.RowKit
set_option linter.unusedVariables false
set_option maxRecDepth 20000
set_option linter.unusedSimpArgs false

def keyV (a b : Addr) (n : Nat) : Value := .agg #[.pointer (some a), .pointer (some b), .int .i64 (n : Int)]

theorem Try.infoUnit : (Try.prog.info? 71).map (fun i => (i.zero, i.size, i.bytes)) = some (some (.agg #[]), 0, 0) := by kernel_rfl

theorem Try.placeHeld : Try.prog.stoodInHeld 70 = false := by kernel_rfl

theorem run_ptr_other {w : World} {a b : Addr} (d : Nat) (hab : a.block ≠ b.block) (ha : BPlain w a.block) (hb : BPlain w b.block) : (Op.equalIn (d + 1) 68 (.pointer (some a)) (.pointer (some b))).run Try.prog w = .ok false w := by
  obtain ⟨i24, hi24, hz0, hz1, hz2⟩ := info_parts Try.infoTree'
  obtain ⟨ca, ta, ha⟩ := ha
  obtain ⟨cb, tb, hb⟩ := hb
  simp [Op.equalIn, run_underlying Try.underlying68, sizeOf, typeInfo, hi24, hz1, run_sameAddr_other w (fun e => hab (by rw [e])) ha hb]

set_option maxRecDepth 100000 in
theorem run_key_other {w : World} {a b a' b' : Addr} {n n' : Nat} (hab : a.block ≠ a'.block) (ha : BPlain w a.block) (hb : BPlain w a'.block) : (Op.equal 70 (keyV a b n) (keyV a' b' n')).run Try.prog w = .ok false w := by
  have h1 : (Op.equalIn 9999 68 (.pointer (some a)) (.pointer (some a'))).run Try.prog w = .ok false w := run_ptr_other (w := w) 9998 hab ha hb
  have hp1 : (part 68 #[Value.pointer (some a), Value.pointer (some b), Value.int IntKind.i64 ↑n] 0).run Try.prog w = .ok (.pointer (some a)) w := by simp [part, isAgg, run_underlying Try.underlying68]
  have hp2 : (part 68 #[Value.pointer (some a'), Value.pointer (some b'), Value.int IntKind.i64 ↑n'] 0).run Try.prog w = .ok (.pointer (some a')) w := by simp [part, isAgg, run_underlying Try.underlying68]
  unfold Op.equal Op.maxDepth
  rw [show (10000 : Nat) = 9999 + 1 from rfl, Op.equalIn]
  simp only [keyV, Sem.run_bind, run_underlying Try.underlying70, Result.andThen_ok]
  simp [Try.placeHeld, hp1, hp2, h1]

theorem run_check_ptr {w : World} {e : Bool} (d : Nat) (p : Option Addr) : (Instr.checkKey e (d + 1) 68 (.pointer p)).run Try.prog w = .ok () w := by
  simp [Instr.checkKey, run_underlying Try.underlying68]
theorem run_check_int {w : World} {e : Bool} (d : Nat) (n : Int) : (Instr.checkKey e (d + 1) 3 (.int .i64 n)).run Try.prog w = .ok () w := by
  simp [Instr.checkKey, run_underlying Try.underlying3]
theorem run_check_key' {w : World} {e : Bool} {a b : Addr} {n : Nat} (d : Nat) : (Instr.checkKey e (d + 1 + 1) 70 (keyV a b n)).run Try.prog w = .ok () w := by
  have hp1 : (part 68 #[Value.pointer (some a), Value.pointer (some b), Value.int IntKind.i64 ↑n] 0).run Try.prog w = .ok (.pointer (some a)) w := by simp [part, isAgg, run_underlying Try.underlying68]
  have hp2 : (part 68 #[Value.pointer (some a), Value.pointer (some b), Value.int IntKind.i64 ↑n] 1).run Try.prog w = .ok (.pointer (some b)) w := by simp [part, isAgg, run_underlying Try.underlying68]
  have hp3 : (part 3 #[Value.pointer (some a), Value.pointer (some b), Value.int IntKind.i64 ↑n] 2).run Try.prog w = .ok (.int .i64 n) w := by simp [part, isAgg, run_underlying Try.underlying3]
  rw [Instr.checkKey]
  simp [keyV, run_underlying Try.underlying70, hp1, hp2, hp3, run_check_ptr, run_check_int]
theorem run_check_key {w : World} {e : Bool} {a b : Addr} {n : Nat} : (Instr.checkKey e 10000 70 (keyV a b n)).run Try.prog w = .ok () w := run_check_key' 9998

/-- The keys that were put in: their first places lie in blocks without a mark. -/
def KeysOk (w : World) (es : List MapEntry) (seen : List Nat) : Prop := ∀ x, x ∈ es → ∃ a b n, x.key = keyV a b n ∧ a.block ∈ seen ∧ BPlain w a.block

theorem run_find_none {w : World} {a b : Addr} {n : Nat} (ha : BPlain w a.block) : ∀ (es : List MapEntry) (seen : List Nat) (i : Nat), KeysOk w es seen → ¬ a.block ∈ seen → (Instr.findAsking 70 (keyV a b n) es i).run Try.prog w = .ok none w
  | [], _, _, _, _ => by simp [Instr.findAsking]
  | x :: es, seen, i, hk, hn => by
    obtain ⟨a', b', n', e, hm, hp⟩ := hk x (by simp)
    have h1 := run_find_none (b := b) (n := n) ha es seen (i + 1) (fun y hy => hk y (by simp [hy])) hn
    have h2 := run_key_other (w := w) (a := a) (b := b) (a' := a') (b' := b') (n := n) (n' := n') (fun e => hn (by rw [e]; exact hm)) ha hp
    simp [Instr.findAsking, e, h2, h1]

theorem run_findKey_none {w : World} {a b : Addr} {n : Nat} (ha : BPlain w a.block) (es : List MapEntry) (seen : List Nat) (hk : KeysOk w es seen) (hn : ¬ a.block ∈ seen) : (Instr.findKey 70 (keyV a b n) es).run Try.prog w = .ok none w := by
  have h := run_find_none (b := b) (n := n) ha es seen 0 hk hn
  cases es with
  | nil => simp [Instr.findKey, run_underlying Try.underlying70, Instr.findNow]
  | cons x es =>
    obtain ⟨a', b', n', e, hm, hp⟩ := hk x (by simp)
    simp only [Instr.findKey, Sem.run_bind, run_underlying Try.underlying70, Result.andThen_ok]
    rw [show Instr.findNow _ (keyV a b n) (x :: es) 0 = none by simp [Instr.findNow, Instr.sameNow, e, keyV]]
    exact h

theorem run_seen_no {w : World} {m clock : Nat} {es : Array MapEntry} {a b : Addr} {n : Nat} (hm : w.heap[m]? = some (.map es clock)) (ha : BPlain w a.block) (seen : List Nat) (hk : KeysOk w es.toList seen) (hn : ¬ a.block ∈ seen) :
    (Instr.lookup 64 (.map (some m)) (keyV a b n) true).run Try.prog w = .ok (.tuple #[.agg #[], .bool false]) w := by
  have h1 := run_findKey_none (b := b) (n := n) ha es.toList seen hk hn
  have h2 := fun e => run_check_key (w := w) (e := e) (a := a) (b := b) (n := n)
  have h3 : (zeroValue 71).run Try.prog w = .ok (.agg #[]) w := by
    obtain ⟨i48, hi48, hy0, hy1, hy2⟩ := info_parts Try.infoUnit
    simp [zeroValue, typeInfo, hi48, hy0]
  simp [Instr.lookup, run_underlying Try.underlying64, h1, h2, h3, getObj, Sem.run, hm]

theorem run_seen_put {w : World} {m clock : Nat} {es : Array MapEntry} {a b : Addr} {n : Nat} (hm : w.heap[m]? = some (.map es clock)) (ha : BPlain w a.block) (seen : List Nat) (hk : KeysOk w es.toList seen) (hn : ¬ a.block ∈ seen) (v : Value) :
    (Instr.mapUpdate 64 (.map (some m)) (keyV a b n) v).run Try.prog w = .ok () { w with heap := w.heap.setIfInBounds m (.map (es.push { key := keyV a b n, val := v, born := clock }) (clock + 1)) } := by
  have h1 := run_findKey_none (b := b) (n := n) ha es.toList seen hk hn
  have h2 := fun e => run_check_key (w := w) (e := e) (a := a) (b := b) (n := n)
  simp [Instr.mapUpdate, run_underlying Try.underlying64, h1, h2, getObj, setObj, Sem.run, hm]

end Go.Proofs.Ytafojlockiekfaa
