/- Labels of the nodes of a tree are short. Of the document's words alone. -/
import Derived.Test.YtpjlajjbioploabFaultZ
import Derived.Test.YtpjlajjbioploabAdd
namespace Go.Proofs.Ytpjlajjbioploab
open Go.Deep Go.RowKit
set_option linter.unusedVariables false

theorem ndF_labs : ∀ (k : Fo) (b : Nat) (p : Int), badF k = false → ∀ x, x ∈ ndF b k p → x.lab.size ≤ 6
  | .nil, _, _, _, x, h => by simp [ndF] at h
  | .node _ _ y k r, b, p, hb, x, h => by
    simp only [badF, Bool.or_eq_false_iff, Bool.not_eq_false'] at hb
    simp only [ndF, List.mem_append, List.mem_cons] at h
    rcases h with h | rfl | h
    · exact ndF_labs k _ _ hb.1.2 x h
    · exact (labelB_size hb.1.1).2
    · exact ndF_labs r _ _ hb.2 x h
theorem ndT_labs {b : Nat} {s : ByteArray} {k : Fo} {p : Int} (h : badT s k = false) : ∀ x, x ∈ ndT b s k p → x.lab.size ≤ 6 := by
  obtain ⟨h1, h2⟩ := badT_small h
  intro x hx
  simp only [ndT, List.mem_append, List.mem_cons, List.not_mem_nil, or_false] at hx
  rcases hx with hx | rfl
  · exact ndF_labs k _ _ h2 x hx
  · exact h1

end Go.Proofs.Ytpjlajjbioploab
