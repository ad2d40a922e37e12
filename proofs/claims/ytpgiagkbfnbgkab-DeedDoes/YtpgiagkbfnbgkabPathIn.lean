/- Numbers that lie in memory. Of no program. -/
import Derived.Test.YtpgiagkbfnbgkabFo2
namespace Go.Proofs.Ytpgiagkbfnbgkab
open Go.Deep Go.RowKit
set_option linter.unusedVariables false
set_option maxRecDepth 20000

/-- The numbers of a path lie in w, behind the address pa. -/
def PIn (w : World) (pa : Option Addr) (ps : List Int) : Prop := ps = [] ∨ ∃ b o, pa = some ⟨b, o, none⟩ ∧ ∀ i p, ps[i]? = some p → w.cell? ⟨b, o + i, none⟩ = some (.int .i64 p)

theorem PIn.below {w w' : World} (h : Below w.heap.size w w') {pa : Option Addr} {ps : List Int} (hk : PIn w pa ps) : PIn w' pa ps := by
  rcases hk with hk | ⟨b, o, e, hk⟩
  · exact Or.inl hk
  · refine Or.inr ⟨b, o, e, fun i p hp => ?_⟩
    have h1 := hk i p hp
    rw [h.cell (World.block_lt_of_cell? _ _ h1)]
    exact h1
end Go.Proofs.Ytpgiagkbfnbgkab
