/- Print of package text tells a tree's text, or the code of tree.Check. Of the program's text. -/
import Derived.Test.YtafojlockiekfaaProg
import Derived.Test.YtafojlockiekfaaWT
import Derived.Test.YtafojlockiekfaaFault
namespace Go.Proofs.Ytafojlockiekfaa
open Go.Deep Go.RowKit
set_option linter.unusedVariables false
set_option maxRecDepth 20000

theorem labelB_size {s : ByteArray} (h : labelB s = true) : 1 ≤ s.size ∧ s.size ≤ 6 := by
  unfold labelB at h
  simp only [Bool.and_eq_true, decide_eq_true_eq] at h
  exact h.1
theorem clo_le (k : Fo) : (clo k).length ≤ 1 := by cases k <;> simp [clo]
theorem txtK_le : ∀ (k : Fo) (c : UInt8), badF k = false → (txtK k c).length ≤ 9 * fnodes k
  | .nil, _, _ => by simp [txtK]
  | .node _ _ x k r, c, h => by
    simp only [badF, Bool.or_eq_false_iff, Bool.not_eq_false'] at h
    have h1 := txtK_le k 40 h.1.2
    have h2 := txtK_le r 32 h.2
    have h3 := (labelB_size h.1.1).2
    have h4 := clo_le k
    have h5 : x.1.data.size = x.1.size := rfl
    simp only [txtK, fnodes, List.cons_append, List.length_cons, List.length_append, Array.length_toList]
    omega
theorem fault_zero {s : ByteArray} {k : Fo} (h : faultT s k = 0) : 1 + fnodes k ≤ 40 ∧ deepT k 0 = false ∧ badT s k = false := by
  unfold faultT at h
  split at h
  · cases h
  · split at h
    · cases h
    · split at h
      · cases h
      · rename_i h1 h2 h3
        exact ⟨by omega, by simpa using h2, by simpa using h3⟩
theorem txtT_le {s : ByteArray} {k : Fo} (h : faultT s k = 0) : (txtT s k).length ≤ 400 ∧ txtT s k ≠ [] := by
  obtain ⟨h1, h2, h3⟩ := fault_zero h
  unfold badT at h3
  simp only [Bool.or_eq_false_iff, Bool.not_eq_false'] at h3
  have h4 := labelB_size h3.1
  have h5 := txtK_le k 40 h3.2
  have h6 := clo_le k
  have h7 : s.data.size = s.size := rfl
  have hl : (txtT s k).length = s.size + ((txtK k 40).length + (clo k).length) := by simp [txtT]
  refine ⟨by omega, fun e => ?_⟩
  rw [e] at hl
  simp at hl
  omega

/-- What Print comes to, if Check may tell the codes of P. -/
def PrintEnd (P : Int → Prop) (s : ByteArray) (k : Fo) (e : Ending) : Prop :=
  (∃ c, P c ∧ c ≠ 0 ∧ e = .returned (.tuple #[.string ⟨#[]⟩, .int .i64 c])) ∨ (P 0 ∧ e = .returned (.tuple #[.string ⟨(txtT s k).toArray⟩, .int .i64 0]))

set_option maxHeartbeats 1000000 in
theorem print_of (P : Int → Prop) (s : ByteArray) (ka : Option Addr) (cap : Nat) (k : Fo) (w : World) (ht : TIn w s ka cap k) (hP : P 0 → faultT s k = 0)
    (hck : ∀ W, Below w.heap.size w W → Calls Try.prog 19 #[.agg #[.string s, .slice ka (flen k) cap]] W fun e w' => (∃ c, P c ∧ e = .returned (.int .i64 c)) ∧ Below W.heap.size W w') :
    Calls Try.prog 27 #[.agg #[.string s, .slice ka (flen k) cap]] w fun e w' => PrintEnd P s k e ∧ Below w.heap.size w w' := by
  have hbx : Below w.heap.size w (w.alloc (Obj.cells #[Value.string s, Value.slice ka (flen k) cap] 24)) := (Below.refl _ _).alloc (Nat.le_refl _) _
  have HC := hide (hck _ hbx)
  clear hck
  go_enter Try.func27, Try.ntmps27
  go_wp2_with fail
  refine Calls.mono HC.out ?_
  rintro e w1 ⟨⟨c, hpc, rfl⟩, hb1⟩
  have hB1 := hbx.trans (hb1.mono (by simp))
  have e0 : w1.cell? ⟨w.heap.size, 0, none⟩ = some (.string s) := by rw [hb1.cell (by simp)]; go_simp
  have e1 : w1.cell? ⟨w.heap.size, 1, none⟩ = some (.slice ka (flen k) cap) := by rw [hb1.cell (by simp)]; go_simp
  have hlt1 : w.heap.size < w1.heap.size := by have := hb1.size; simp at this; omega
  by_cases hc0 : c = 0
  · subst hc0
    have hf := hP hpc
    obtain ⟨hlen, hne⟩ := txtT_le hf
    have HPC := hide hpc
    have hBw : Below w.heap.size w (w1.alloc (Obj.cells #[Value.pointer none, Value.slice none 0 0] 80)) := hB1.alloc hB1.size _
    have hw0 : IsW w.heap.size w1.heap.size (Lib.byteCells []) (w1.alloc (Obj.cells #[Value.pointer none, Value.slice none 0 0] 80)) :=
      Or.inl ⟨by omega, .slice none 0 0, heap_alloc_new w1 _, World.ownsRow_nil _ _ _ _, by simp [Value.ownBlock]⟩
    have hcall := writes_N w w1.heap.size (fnodes k + 1) k (by omega) s ka cap [] _ ht hBw hw0 (by simp; omega)
    have HCALL := hide hcall
    have HNE := hide hne
    clear hcall hpc HC hP hf hne hbx
    go_wp2_with fail
    refine Calls.mono HCALL.out ?_
    rintro e w2 ⟨rfl, hw2, hb2⟩
    have hcall2 := string_any w.heap.size w1.heap.size (txtT s k) w2 (Or.inr (by simpa using hw2)) HNE.out
    have HC2 := hide hcall2
    clear hcall2 HCALL hw2
    go_wp2_with fail
    refine Calls.mono HC2.out ?_
    rintro e w3 ⟨rfl, hb3⟩
    go_wp2_with fail
    go_ret2
    exact ⟨Or.inr ⟨HPC.out, rfl⟩, hBw.trans (hb2.trans hb3)⟩
  · have hcb : (c == 0) = false := beq_eq_false_iff_ne.2 hc0
    go_wp2_with fail
    go_ret2
    exact ⟨Or.inl ⟨c, hpc, hc0, rfl⟩, hB1⟩

end Go.Proofs.Ytafojlockiekfaa
