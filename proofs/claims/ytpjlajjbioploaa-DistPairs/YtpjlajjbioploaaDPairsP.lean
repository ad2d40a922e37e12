/- What stays keeps its order: lists of pairs alone. Of no program. -/
import Derived.Test.YtpjlajjbioploaaDFace
namespace Go.Proofs.Ytpjlajjbioploaa.Dist
open Go.Deep Go.RowKit
set_option linter.unusedVariables false
set_option maxRecDepth 20000

structure PairsOk (A B : List Nd) (L : List (Nat × Nat)) (c : Nat) : Prop where
  inn : ∀ (i : Nat) (p : Nat × Nat), L[i]? = some p → p.1 < A.length ∧ p.2 < B.length
  ord : ∀ (i j : Nat) (p q : Nat × Nat), i < j → L[i]? = some p → L[j]? = some q → Ahead (lefts A) (lefts B) p q
  cost : c + 2 * L.length = A.length + B.length + names (other A B) L
  last : L[L.length - 1]? = some (A.length - 1, B.length - 1)
  pos : 0 < L.length
  many : L.length ≤ 100
theorem pairsOk (s t : ByteArray) (k l : Fo) (hA : NOk (ndT 0 s k (-1))) (hB : NOk (ndT 0 t l (-1))) : PairsOk (ndT 0 s k (-1)) (ndT 0 t l (-1)) (bestP (ndT 0 s k (-1)) (ndT 0 t l (-1))) (costP (ndT 0 s k (-1)) (ndT 0 t l (-1))) := by
  obtain ⟨h1, h2, h3⟩ := bestP_ok s t k l
  have hb := best_is hA hB
  have hl := (bestL_len (bok_root hA hB)).1
  have hA4 := hA.many
  have hB4 := hB.many
  have e1 := ndT_length 0 s k (-1)
  have e2 := ndT_length 0 t l (-1)
  refine ⟨fun i p hp => ?_, fun i j p q hij hp hq => ?_, ?_, ?_, ?_, ?_⟩
  · rw [e1, e2]
    exact h1 p (List.mem_of_getElem? hp)
  · obtain ⟨hi, rfl⟩ := List.getElem?_eq_some_iff.1 hp
    obtain ⟨hj, rfl⟩ := List.getElem?_eq_some_iff.1 hq
    exact List.pairwise_iff_getElem.1 h2 i j hi hj hij
  · rw [e1, e2]
    exact h3
  · rw [← hb, List.length_append, List.length_singleton, Nat.add_sub_cancel, List.getElem?_append_right (Nat.le_refl _), Nat.sub_self]
    rfl
  · rw [← hb, List.length_append, List.length_singleton]
    omega
  · rw [← hb, List.length_append, List.length_singleton]
    omega
theorem names_take (c : Nat → Nat → Nat) : ∀ (L : List (Nat × Nat)) (i : Nat) (p : Nat × Nat), L[i]? = some p → names c (L.take (i + 1)) = names c (L.take i) + c p.1 p.2
  | [], i, p, h => by simp at h
  | q :: L, 0, p, h => by
    have : q = p := by simpa using h
    subst this
    simp [names]
  | q :: L, i + 1, p, h => by
    have := names_take c L i p (by simpa using h)
    simp only [List.take_succ_cons, names] at this ⊢
    omega
theorem names_le {A B : List Nd} : ∀ l : List (Nat × Nat), names (other A B) l ≤ l.length
  | [] => by simp [names]
  | p :: l => by
    have := other_le A B p.1 p.2
    have := names_le (A := A) (B := B) l
    simp only [names, List.length_cons]
    omega
/-- Pairs that lie at a place. -/
def PrAt (w : World) (g : Nat) (L : List (Nat × Nat)) : Prop := ∀ (i : Nat) (p : Nat × Nat), L[i]? = some p → w.cell? ⟨g, i * 2, none⟩ = some (.int .i64 (p.1 : Int)) ∧ w.cell? ⟨g, i * 2 + 1, none⟩ = some (.int .i64 (p.2 : Int))
theorem PrAt_of_owns {w : World} {B T g n vc : Nat} {L : List (Nat × Nat)} (h : w.ownsRow B T 2 (.slice (some ⟨g, 0, none⟩) n vc) n (prCells L)) : PrAt w g L := fun i p hp => by
  obtain ⟨c0, c1⟩ := prCells_at L i p hp
  have h0 := ownsRow_cell h _ _ c0
  have h1 := ownsRow_cell h _ _ c1
  exact ⟨by simpa using h0, by simpa using h1⟩
theorem PrAt.of_block {w w' : World} {g : Nat} {L : List (Nat × Nat)} (h : PrAt w g L) (e : w'.heap[g]? = w.heap[g]?) : PrAt w' g L := fun i p hp => by
  obtain ⟨h0, h1⟩ := h i p hp
  exact ⟨by rw [World.cell?_of_block (w := w) e]; exact h0, by rw [World.cell?_of_block (w := w) e]; exact h1⟩
end Go.Proofs.Ytpjlajjbioploaa.Dist
