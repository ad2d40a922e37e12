/- What a tree without a fault is. Of the document's words alone. -/
import Derived.Test.YtpgiagkbfnbgkabFault
import Derived.Test.YtpgiagkbfnbgkabFo2
namespace Go.Proofs.Ytpgiagkbfnbgkab
open Go.Deep Go.RowKit
set_option linter.unusedVariables false

theorem labelB_size {s : ByteArray} (h : labelB s = true) : 1 ≤ s.size ∧ s.size ≤ 6 := by
  unfold labelB at h
  simp only [Bool.and_eq_true, decide_eq_true_eq] at h
  exact h.1
theorem fault_zero {s : ByteArray} {k : Fo} (h : faultT s k = 0) : 1 + fnodes k ≤ 40 ∧ deepT k 0 = false ∧ badT s k = false := by
  unfold faultT at h
  split at h
  · cases h
  · split at h
    · cases h
    · split at h
      · cases h
      · rename_i h1 h2 h3
        exact ⟨by omega, by simpa using h2, by simpa using h3⟩

theorem badF_strip' : ∀ f : Fo, badF (strip f) = badF f
  | .nil => rfl
  | .node _ _ x k r => by simp [badF, strip, badF_strip' k, badF_strip' r]
theorem deepF_strip' : ∀ (f : Fo) (a : Int), deepF (strip f) a = deepF f a
  | .nil, _ => rfl
  | .node _ _ x k r, a => by simp [deepF, strip, deepF_strip' k, deepF_strip' r]
theorem faultT_strip (x : ByteArray) (f : Fo) : faultT x (strip f) = faultT x f := by
  unfold faultT deepT badT
  rw [fnodes_strip, deepF_strip', badF_strip']

end Go.Proofs.Ytpgiagkbfnbgkab
