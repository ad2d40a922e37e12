/- tree.Size of a tree tells how many nodes it has. Of the program's text. -/
import Derived.Test.YtpgiagkbfnbgkabProg
import Derived.Test.YtpgiagkbfnbgkabFault
import Derived.Test.YtpgiagkbfnbgkabWalkS
namespace Go.Proofs.Ytpgiagkbfnbgkab
open Go.Deep Go.RowKit
set_option linter.unusedVariables false
set_option maxRecDepth 20000

set_option maxHeartbeats 400000 in
theorem size_any (s : ByteArray) (ka : Option Addr) (cap : Nat) (k : Fo) (w : World) (ht : TIn w s ka cap k) (hp : FPlain w k) (hn : 1 + fnodes k ≤ 200) :
    Calls Try.prog 27 #[.agg #[.string s, .slice ka (flen k) cap]] w fun e w' => e = .returned (.int .i64 (1 + (fnodes k : Int))) ∧ Below w.heap.size w w' := by
  have hbox : Below w.heap.size w ((w.alloc (Obj.cells #[Value.string s, Value.slice ka (flen k) cap] 24)).alloc (Obj.cells #[Value.int .i64 0] 3)) :=
    ((Below.refl _ _).alloc (Nat.le_refl _) _).alloc (by simp) _
  go_enter Try.func27, Try.ntmps27
  go_wp2_with fail
  refine (walkS_any (w.heap.size + 1) s ka cap k _ (ht.below hbox) (hp.below hbox) hn (fun x hx => by
    have : x = w.heap.size + 1 := by simpa using hx
    subst this
    exact ht.kids.off (by omega)) ⟨by go_simp, by go_simp, by omega⟩).mono ?_
  rintro e w1 ⟨rfl, hs1, hk1⟩
  have hc := hs1.c1
  have hb := hk1.to_below hbox (fun x hx => by
    have : x = w.heap.size + 1 := by simpa using hx
    omega)
  go_wp2_with fail
  go_ret
  exact ⟨rfl, hb⟩

end Go.Proofs.Ytpgiagkbfnbgkab
