/- order.add puts the nodes of a tree behind others. Of the program's text. -/
/- PathIn of package pleachingref: the path that has that text. Of the program's text. -/
import Derived.Test.YtkoohfkomlmhoacDoorProg
import Derived.WalkSpells
import Derived.Deep.LoopGhost
import Derived.Deep.RegionHeld3
import Derived.BigQuiet
import Derived.WalkSmall
import Derived.Deep.AppendLies
import Derived.Test.YtkoohfkomlmhoacDoorKLP05
import Derived.Test.YtkoohfkomlmhoacDoorKLP10
import Derived.Test.YtkoohfkomlmhoacDoorKLP00
import Derived.Test.YtkoohfkomlmhoacDoorKLP02
namespace Go.Proofs.YtkoohfkomlmhoacDoor
open Go.Deep Go.RowKit
set_option linter.unusedVariables false
set_option maxRecDepth 20000

theorem Tryd.infoInt : (Tryd.prog.info? 3).map (fun i => (i.zero, i.size, i.bytes)) = some (some (.int .i64 0), 1, 8) := by kernel_rfl

theorem int_news (w : World) (T : TypeId) (x : Int) (j : Nat) (u : Value) (h : ([Value.int .i64 x] : List Value)[j]? = some u) : (w.alloc (Obj.cells #[.int .i64 x] T)).cell? ((⟨w.heap.size, 0, none⟩ : Addr).add j) = some u := by
  refine World.news_of_block (cs := #[.int .i64 x]) (t := T) (fr := (0, 0)) ?_ j u h
  show (w.heap.push _)[w.heap.size]? = _
  simp
end Go.Proofs.YtkoohfkomlmhoacDoor
namespace Go.Proofs.YtkoohfkomlmhoacDoor.Pat
open Go.Deep Go.RowKit Deed
set_option linter.unusedVariables false
set_option maxRecDepth 20000

theorem allFew_snoc : ∀ (l : List (List UInt8)) (q : List Nat) (s : List UInt8) (n : Nat), allFew l = some q → fewP s = some n → allFew (l ++ [s]) = some (q ++ [n])
  | [], q, s, n, h, hs => by
    simp only [allFew, Option.some.injEq] at h
    subst h
    simp [allFew, hs]
  | x :: l, q, s, n, h, hs => by
    unfold allFew at h
    cases hx : fewP x with
    | none => rw [hx] at h; cases h
    | some m =>
      rw [hx] at h
      cases hl : allFew l with
      | none => rw [hl] at h; cases h
      | some r =>
        rw [hl] at h
        simp only [Option.some.injEq] at h
        subst h
        rw [List.cons_append, allFew, hx, allFew_snoc l r s n hl hs]
        rfl
theorem allFew_bad : ∀ (l : List (List UInt8)) (i : Nat) (s : List UInt8), l[i]? = some s → fewP s = none → allFew l = none
  | [], i, s, h, _ => by simp at h
  | x :: l, 0, s, h, hs => by
    simp only [List.getElem?_cons_zero, Option.some.injEq] at h
    subst h
    rw [allFew, hs]
  | x :: l, i + 1, s, h, hs => by
    rw [allFew, allFew_bad l i s (by simpa using h) hs]
    cases fewP x <;> rfl
def PathEnd (s : List UInt8) (w : World) (e : Ending) (w' : World) : Prop :=
  (pathIn s = none ∧ e = .returned (.tuple #[.slice none 0 0, .bool false])) ∨
  (∃ p va vc, pathIn s = some p ∧ e = .returned (.tuple #[.slice va (List.length (α := Nat) p) vc, .bool true]) ∧ w'.ownsRow w.heap.size 3 1 (.slice va p.length vc) p.length (intCells p))
theorem intCells_snoc (q : List Nat) (n : Nat) : intCells (q ++ [n]) = intCells q ++ [Value.int .i64 (n : Int)] := by simp [intCells]

end Go.Proofs.YtkoohfkomlmhoacDoor.Pat
