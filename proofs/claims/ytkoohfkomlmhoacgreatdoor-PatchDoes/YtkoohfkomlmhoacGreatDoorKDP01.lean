/- The nodes of a tree in order: lists of nodes alone. Of no program. -/
/- The tree that the parents of nodes tell: of lists alone. Of no program. -/
import Derived.Test.YtkoohfkomlmhoacGreatDoorKDP00
namespace Go.Proofs.YtkoohfkomlmhoacGreatDoor
open Go.Deep Go.RowKit
set_option linter.unusedVariables false
set_option maxRecDepth 20000

/-- A node: its label, its parent's number, the lowest number beneath it. -/
structure Nd where
  lab : ByteArray
  par : Int
  left : Int
deriving DecidableEq
def ndCell (x : Nd) : List Value := [.string x.lab, .int .i64 x.par, .int .i64 x.left]
def ndCells : List Nd → List Value
  | [] => []
  | x :: l => ndCell x ++ ndCells l
/-- The nodes of a forest behind so many others, whose roots' parent is told. -/
def ndF : Nat → Fo → Int → List Nd
  | _, .nil, _ => []
  | b, .node _ _ x k r, p => ndF b k ((b + fnodes k : Nat) : Int) ++ (⟨x.1, p, (b : Int)⟩ :: ndF (b + fnodes k + 1) r p)
def ndT (b : Nat) (s : ByteArray) (k : Fo) (p : Int) : List Nd := ndF b k ((b + fnodes k : Nat) : Int) ++ [⟨s, p, (b : Int)⟩]
/-- The numbers of the roots of a forest behind so many others. -/
def roots : Nat → Fo → List Nat
  | _, .nil => []
  | b, .node _ _ x k r => (b + fnodes k) :: roots (b + fnodes k + 1) r
theorem ndF_length : ∀ (k : Fo) (b : Nat) (p : Int), (ndF b k p).length = fnodes k
  | .nil, _, _ => rfl
  | .node _ _ x k r, b, p => by simp [ndF, fnodes, ndF_length k, ndF_length r]; omega
theorem ndT_length (b : Nat) (s : ByteArray) (k : Fo) (p : Int) : (ndT b s k p).length = fnodes k + 1 := by simp [ndT, ndF_length]
/-- The loop's steps: the nodes of the kids as far as j, and then one more. -/
theorem ndF_step {k : Fo} {j b' o' : Nat} {x : ByteArray × Option Addr × Nat} {kk : Fo} (h : fdrop j k = .node b' o' x kk (fdrop (j + 1) k)) (b : Nat) (p : Int) : ndF b (fdrop j k) p = ndT b x.1 kk p ++ ndF (b + fnodes kk + 1) (fdrop (j + 1) k) p := by
  rw [h]
  simp [ndF, ndT]
theorem roots_step {k : Fo} {j b' o' : Nat} {x : ByteArray × Option Addr × Nat} {kk : Fo} (h : fdrop j k = .node b' o' x kk (fdrop (j + 1) k)) (b : Nat) : roots b (fdrop j k) = (b + fnodes kk) :: roots (b + fnodes kk + 1) (fdrop (j + 1) k) := by
  rw [h]
  simp [roots]

end Go.Proofs.YtkoohfkomlmhoacGreatDoor
namespace Go.Proofs.YtkoohfkomlmhoacGreatDoor
open Go.Deep Go.RowKit
set_option linter.unusedVariables false
set_option maxRecDepth 20000

/-- Trees without addresses, one behind the other. -/
abbrev Gs := List (ByteArray × Fo)
def toFo : Gs → Fo
  | [] => .nil
  | x :: l => .node 0 0 (x.1, none, 0) x.2 (toFo l)
def gsF : Fo → Gs
  | .nil => []
  | .node _ _ x k r => (x.1, strip k) :: gsF r
end Go.Proofs.YtkoohfkomlmhoacGreatDoor
