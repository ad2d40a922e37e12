/- The nodes of a tree in order: lists of nodes alone. Of no program. -/
import Derived.Test.YtpgiagkbfnbgkabFo2
namespace Go.Proofs.Ytpgiagkbfnbgkab
open Go.Deep Go.RowKit
set_option linter.unusedVariables false
set_option maxRecDepth 20000

/-- A node: its label, its parent's number, the lowest number beneath it. -/
structure Nd where
  lab : ByteArray
  par : Int
  left : Int
deriving DecidableEq
def ndCell (x : Nd) : List Value := [.string x.lab, .int .i64 x.par, .int .i64 x.left]
def ndCells : List Nd → List Value
  | [] => []
  | x :: l => ndCell x ++ ndCells l
theorem ndCells_length : ∀ l : List Nd, (ndCells l).length = l.length * 3
  | [] => rfl
  | a :: l => by simp [ndCells, ndCell, ndCells_length l]; omega
theorem ndCells_append : ∀ l m : List Nd, ndCells (l ++ m) = ndCells l ++ ndCells m
  | [], m => rfl
  | a :: l, m => by simp [ndCells, ndCells_append l m]
theorem ndCells_at : ∀ (l : List Nd) (i : Nat) (x : Nd), l[i]? = some x → (ndCells l)[i * 3]? = some (.string x.lab) ∧ (ndCells l)[i * 3 + 1]? = some (.int .i64 x.par) ∧ (ndCells l)[i * 3 + 2]? = some (.int .i64 x.left)
  | [], i, x, h => by simp at h
  | a :: l, 0, x, h => by
    have : a = x := by simpa using h
    subst this
    simp [ndCells, ndCell]
  | a :: l, i + 1, x, h => by
    have := ndCells_at l i x (by simpa using h)
    rw [show (i + 1) * 3 = i * 3 + 3 by omega]
    simpa [ndCells, ndCell] using this
/-- One node's parent is another one. -/
def setPar : List Nd → Nat → Int → List Nd
  | [], _, _ => []
  | a :: l, 0, p => { a with par := p } :: l
  | a :: l, i + 1, p => a :: setPar l i p
theorem setPar_length : ∀ (l : List Nd) (i : Nat) (p : Int), (setPar l i p).length = l.length
  | [], _, _ => rfl
  | a :: l, 0, p => rfl
  | a :: l, i + 1, p => by simp [setPar, setPar_length l i p]
theorem ndCells_set : ∀ (l : List Nd) (i : Nat) (p : Int), i < l.length → (ndCells l).set (i * 3 + 1) (.int .i64 p) = ndCells (setPar l i p)
  | [], _, _, h => by simp at h
  | a :: l, 0, p, _ => by simp [ndCells, ndCell, setPar]
  | a :: l, i + 1, p, h => by
    have := ndCells_set l i p (by simpa using h)
    rw [show (i + 1) * 3 + 1 = i * 3 + 1 + 3 by omega]
    simp [ndCells, ndCell, setPar, this]
theorem setPar_append : ∀ (l m : List Nd) (i : Nat) (p : Int), setPar (l ++ m) (l.length + i) p = l ++ setPar m i p
  | [], m, i, p => by simp
  | a :: l, m, i, p => by
    have := setPar_append l m i p
    rw [show (a :: l).length + i = (l.length + i) + 1 by simp; omega]
    simp [setPar, this]

/-- The nodes of a forest behind so many others, whose roots' parent is told. -/
def ndF : Nat → Fo → Int → List Nd
  | _, .nil, _ => []
  | b, .node _ _ x k r, p => ndF b k ((b + fnodes k : Nat) : Int) ++ (⟨x.1, p, (b : Int)⟩ :: ndF (b + fnodes k + 1) r p)
def ndT (b : Nat) (s : ByteArray) (k : Fo) (p : Int) : List Nd := ndF b k ((b + fnodes k : Nat) : Int) ++ [⟨s, p, (b : Int)⟩]
/-- The numbers of the roots of a forest behind so many others. -/
def roots : Nat → Fo → List Nat
  | _, .nil => []
  | b, .node _ _ x k r => (b + fnodes k) :: roots (b + fnodes k + 1) r
theorem ndF_length : ∀ (k : Fo) (b : Nat) (p : Int), (ndF b k p).length = fnodes k
  | .nil, _, _ => rfl
  | .node _ _ x k r, b, p => by simp [ndF, fnodes, ndF_length k, ndF_length r]; omega
theorem ndT_length (b : Nat) (s : ByteArray) (k : Fo) (p : Int) : (ndT b s k p).length = fnodes k + 1 := by simp [ndT, ndF_length]
theorem roots_length : ∀ (k : Fo) (b : Nat), (roots b k).length = flen k
  | .nil, _ => rfl
  | .node _ _ x k r, b => by simp [roots, flen, roots_length r]
theorem roots_lt : ∀ (k : Fo) (b i : Nat), i ∈ roots b k → i < b + fnodes k
  | .nil, _, _, h => by simp [roots] at h
  | .node _ _ x k r, b, i, h => by
    simp only [roots, List.mem_cons] at h
    simp only [fnodes]
    rcases h with rfl | h
    · omega
    · have := roots_lt r _ i h
      omega
theorem ndF_strip : ∀ (k : Fo) (b : Nat) (p : Int), ndF b (strip k) p = ndF b k p
  | .nil, _, _ => rfl
  | .node _ _ x k r, b, p => by simp [ndF, strip, fnodes_strip, ndF_strip k, ndF_strip r]
theorem ndT_strip (b : Nat) (s : ByteArray) (k : Fo) (p : Int) : ndT b s (strip k) p = ndT b s k p := by
  unfold ndT
  rw [ndF_strip, fnodes_strip]

def setPars : List Nd → List Nat → Int → List Nd
  | l, [], _ => l
  | l, i :: is, p => setPars (setPar l i p) is p
/-- The roots' parents are set, one behind the other. -/
theorem setPars_roots : ∀ (k : Fo) (l : List Nd) (q p : Int), setPars (l ++ ndF l.length k q) (roots l.length k) p = l ++ ndF l.length k p
  | .nil, l, q, p => rfl
  | .node _ _ x k r, l, q, p => by
    simp only [ndF, roots, setPars]
    have e1 : l.length + fnodes k = l.length + (ndF l.length k ((l.length + fnodes k : Nat) : Int)).length := by rw [ndF_length]
    have e2 : setPar (l ++ (ndF l.length k ((l.length + fnodes k : Nat) : Int) ++ ⟨x.1, q, (l.length : Int)⟩ :: ndF (l.length + fnodes k + 1) r q)) (l.length + fnodes k) p = (l ++ ndF l.length k ((l.length + fnodes k : Nat) : Int) ++ [⟨x.1, p, (l.length : Int)⟩]) ++ ndF (l.length + fnodes k + 1) r q := by
      have := setPar_append (l ++ ndF l.length k ((l.length + fnodes k : Nat) : Int)) (⟨x.1, q, (l.length : Int)⟩ :: ndF (l.length + fnodes k + 1) r q) 0 p
      rw [List.length_append, ndF_length] at this
      rw [← List.append_assoc]
      refine Eq.trans this ?_
      simp [setPar]
    rw [e2]
    have hl : (l ++ ndF l.length k ((l.length + fnodes k : Nat) : Int) ++ [(⟨x.1, p, (l.length : Int)⟩ : Nd)]).length = l.length + fnodes k + 1 := by simp [ndF_length]; omega
    have := setPars_roots r (l ++ ndF l.length k ((l.length + fnodes k : Nat) : Int) ++ [⟨x.1, p, (l.length : Int)⟩]) q p
    rw [hl] at this
    rw [this]
    simp

/-- The loop's steps: the nodes of the kids as far as j, and then one more. -/
theorem ndF_step {k : Fo} {j b' o' : Nat} {x : ByteArray × Option Addr × Nat} {kk : Fo} (h : fdrop j k = .node b' o' x kk (fdrop (j + 1) k)) (b : Nat) (p : Int) : ndF b (fdrop j k) p = ndT b x.1 kk p ++ ndF (b + fnodes kk + 1) (fdrop (j + 1) k) p := by
  rw [h]
  simp [ndF, ndT]
theorem roots_step {k : Fo} {j b' o' : Nat} {x : ByteArray × Option Addr × Nat} {kk : Fo} (h : fdrop j k = .node b' o' x kk (fdrop (j + 1) k)) (b : Nat) : roots b (fdrop j k) = (b + fnodes kk) :: roots (b + fnodes kk + 1) (fdrop (j + 1) k) := by
  rw [h]
  simp [roots]

end Go.Proofs.Ytpgiagkbfnbgkab
