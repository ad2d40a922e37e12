/- Lists that are put behind each other: what append comes to where the other list lies in memory, or is empty. Of no program. -/
/- cut of package pleachingref: a text, where a byte stands. Of the program's text. -/
import Derived.Laws.OwnMore
import Derived.Lib.AppendZeros
import Derived.Test.YtkoohfkomlmhoacDoorKBP06
import Derived.Test.YtkoohfkomlmhoacDoorProg
import Derived.Deep.LoopGhost
import Derived.Deep.AppendLies
import Derived.WalkSmall
import Derived.Test.YtkoohfkomlmhoacDoorKBP09
namespace Go.Proofs.YtkoohfkomlmhoacDoor.Deed
open Go.Deep Go.RowKit
set_option linter.unusedVariables false
set_option maxRecDepth 20000

/-- A list to be read: where, how long, its capacity, its cells. -/
structure Src where
  a : Option Addr
  n : Nat
  c : Nat
  xs : List Value
def Src.val (s : Src) : Value := .slice s.a s.n s.c
structure SrcIn (w : World) (size : Nat) (s : Src) : Prop where
  len : s.xs.length = s.n * size
  one : ∀ u ∈ s.xs, u.oneCell' = true
  lie : s.n = 0 ∨ ∃ ad, s.a = some ad ∧ ∀ j u, s.xs[j]? = some u → w.cell? (ad.add j) = some u
theorem SrcIn.below {w w' : World} {size : Nat} {s : Src} (h : SrcIn w size s) (hb : Below w.heap.size w w') : SrcIn w' size s := by
  refine ⟨h.len, h.one, ?_⟩
  rcases h.lie with h0 | ⟨ad, e, h0⟩
  · exact Or.inl h0
  · refine Or.inr ⟨ad, e, fun j u hu => ?_⟩
    have h1 := h0 j u hu
    rw [hb.cell (World.block_lt_of_cell? _ _ h1)]
    exact h1
end Go.Proofs.YtkoohfkomlmhoacDoor.Deed
namespace Go.Proofs.YtkoohfkomlmhoacDoor.Pat
open Go.Deep Go.RowKit Deed
set_option linter.unusedVariables false
set_option maxRecDepth 20000

/-- Pieces of text as cells. -/
def txCells (ps : List (List UInt8)) : List Value := ps.map fun p => Value.string (str p)
theorem cut_len (c : UInt8) : ∀ l, (cutP c l).length ≤ l.length + 1
  | [] => Nat.le_refl _
  | x :: l => by
    have ih := cut_len c l
    unfold cutP
    split
    · simp only [List.length_cons]; omega
    · split
      · simp
      · rename_i p ps h
        rw [h] at ih
        simp only [List.length_cons] at ih ⊢
        omega
theorem cut_size (c : UInt8) : ∀ l, ∀ p, p ∈ cutP c l → p.length ≤ l.length
  | [], p, h => by simp [cutP] at h; simp [h]
  | x :: l, p, h => by
    have ih := cut_size c l
    unfold cutP at h
    split at h
    · rcases List.mem_cons.1 h with rfl | h
      · simp
      · have := ih p h
        simp only [List.length_cons]; omega
    · split at h
      · rename_i hc
        exact absurd hc (cutP_ne c l)
      · rename_i q qs hc
        rw [hc] at ih
        rcases List.mem_cons.1 h with rfl | h
        · have := ih q (by simp)
          simp only [List.length_cons]; omega
        · have := ih p (by simp [h])
          simp only [List.length_cons]; omega
end Go.Proofs.YtkoohfkomlmhoacDoor.Pat
