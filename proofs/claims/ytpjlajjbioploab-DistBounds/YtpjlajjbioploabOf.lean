/- order.Of tells the nodes of a tree, or the code of tree.Check. Of the program's text. -/
import Derived.Test.YtpjlajjbioploabProg
import Derived.Test.YtpjlajjbioploabAdd
import Derived.Test.YtpjlajjbioploabFaultZ
namespace Go.Proofs.Ytpjlajjbioploab
open Go.Deep Go.RowKit
set_option linter.unusedVariables false
set_option maxRecDepth 20000

/-- What Of comes to, where Check may tell the codes of P. -/
def OfEnd (P : Int → Prop) (s : ByteArray) (k : Fo) (B : Nat) (e : Ending) (w' : World) : Prop :=
  (∃ c, P c ∧ c ≠ 0 ∧ e = .returned (.tuple #[.slice none 0 0, .int .i64 c])) ∨
  (P 0 ∧ ∃ v, e = .returned (.tuple #[v, .int .i64 0]) ∧ w'.ownsRow B 35 3 v (fnodes k + 1) (ndCells (ndT 0 s k (-1))))

set_option maxHeartbeats 1000000 in
theorem of_of (P : Int → Prop) (s : ByteArray) (ka : Option Addr) (cap : Nat) (k : Fo) (w : World) (ht : TIn w s ka cap k) (hP : P 0 → faultT s k = 0)
    (hck : ∀ W, Below w.heap.size w W → Calls Try.prog 26 #[.agg #[.string s, .slice ka (flen k) cap]] W fun e w' => (∃ c, P c ∧ e = .returned (.int .i64 c)) ∧ Below W.heap.size W w') :
    Calls Try.prog 16 #[.agg #[.string s, .slice ka (flen k) cap]] w fun e w' => OfEnd P s k w.heap.size e w' ∧ Below w.heap.size w w' := by
  have hbx : Below w.heap.size w (w.alloc (Obj.cells #[Value.string s, Value.slice ka (flen k) cap] 24)) := (Below.refl _ _).alloc (Nat.le_refl _) _
  have HC := hide (hck _ hbx)
  clear hck
  go_enter Try.func16, Try.ntmps16
  go_wp2_with fail
  refine Calls.mono HC.out ?_
  rintro e w1 ⟨⟨c, hpc, rfl⟩, hb1⟩
  have hB1 := hbx.trans (hb1.mono (by simp))
  have e0 : w1.cell? ⟨w.heap.size, 0, none⟩ = some (.string s) := by rw [hb1.cell (by simp)]; go_simp
  have e1 : w1.cell? ⟨w.heap.size, 1, none⟩ = some (.slice ka (flen k) cap) := by rw [hb1.cell (by simp)]; go_simp
  clear hb1 hbx HC
  by_cases h0 : c = 0
  · subst h0
    have hf := hP hpc
    obtain ⟨hn, _, hbad⟩ := fault_zero hf
    have HA := hide (adds_N w (fnodes k + 1) k (by omega) s ka cap [] 0 (.slice none 0 0) w1 rfl ht hbad hB1 ⟨rfl, Or.inl ⟨rfl, rfl⟩⟩ (by omega))
    clear hf hbad hP
    go_wp2_with fail
    refine Calls.mono HA.out ?_
    rintro e w2 ⟨v', rfl, hrow, hg, _⟩
    have hB2 : Below w.heap.size w w2 := hB1.grown hg hB1.size (fun g h => by cases h)
    obtain ⟨va, vc, rfl, _, _⟩ := ownsN_form hrow
    have HR := hide hrow
    clear hrow hg HA
    go_wp2_with fail
    refine bodyPost_ret (v := .tuple #[.slice va (0 + fnodes k + 1) vc, .int .i64 0]) (by simp [results, Try.results16, go_sem]) rfl ⟨Or.inr ⟨hpc, _, rfl, ?_⟩, hB2⟩
    have := HR.out
    simpa using this
  · have hcb : (c == 0) = false := beq_eq_false_iff_ne.2 h0
    go_wp2_with fail
    exact bodyPost_ret (v := .tuple #[.slice none 0 0, .int .i64 c]) (by simp [results, Try.results16, go_sem]) rfl ⟨Or.inl ⟨c, hpc, h0, rfl⟩, hB1⟩

end Go.Proofs.Ytpjlajjbioploab
