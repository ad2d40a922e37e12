/- What a forest of api.Tree in memory is (a list of trees, each with its label and its kids, as a binary tree: kids to the left, brothers to the right), that it lies in a world, and that it stays there while old memory is kept. Of no program. -/
import Derived.Deep.Trees
import Derived.Below
import Derived.WalkKit
namespace Go.Proofs.Ytpgiagkbfnbgkab
open Go.Deep Go.RowKit

/-- A list of trees: each node's payload is its label, and the address and capacity of its list of kids. -/
abbrev Fo := BT (ByteArray × Option Addr × Nat)

def flen : Fo → Nat
  | .nil => 0
  | .node _ _ _ _ r => flen r + 1
def fnodes : Fo → Nat
  | .nil => 0
  | .node _ _ _ k r => fnodes k + fnodes r + 1
def fdrop : Nat → Fo → Fo
  | 0, f => f
  | _ + 1, .nil => .nil
  | n + 1, .node _ _ _ _ r => fdrop n r
/-- how many levels -/
def fhigh : Fo → Nat
  | .nil => 0
  | .node _ _ _ k r => max (fhigh k + 1) (fhigh r)

/-- The forest lies in w, its first tree at block b, offset o. -/
def FIn (w : World) : Fo → Nat → Nat → Prop
  | .nil, _, _ => True
  | .node b' o' x k r, b, o => b' = b ∧ o' = o ∧ w.cell? ⟨b, o, none⟩ = some (.string x.1) ∧ w.cell? ⟨b, o + 1, none⟩ = some (.slice x.2.1 (flen k) x.2.2) ∧
      x.1.size ≤ maxLen ∧ flen k ≤ x.2.2 ∧ x.2.2 ≤ maxLen ∧ (k = .nil ∨ ∃ kb ko, x.2.1 = some ⟨kb, ko, none⟩ ∧ FIn w k kb ko) ∧ FIn w r b (o + 2)

/-- The kids of a node lie in w, behind the address ka. -/
def KIn (w : World) (ka : Option Addr) (k : Fo) : Prop := k = .nil ∨ ∃ kb ko, ka = some ⟨kb, ko, none⟩ ∧ FIn w k kb ko

/-- One tree, its root a value: label s, kids behind ka. -/
structure TIn (w : World) (s : ByteArray) (ka : Option Addr) (cap : Nat) (k : Fo) : Prop where
  size : s.size ≤ maxLen
  len : flen k ≤ cap
  cap : cap ≤ maxLen
  kids : KIn w ka k

theorem FIn.below {w w' : World} (h : Below w.heap.size w w') : ∀ {f : Fo} {b o : Nat}, FIn w f b o → FIn w' f b o
  | .nil, _, _, _ => trivial
  | .node _ _ x k r, b, o, ⟨h1, h2, h3, h4, h5, h6, h7, h8, h9⟩ => by
    have hb : b < w.heap.size := World.block_lt_of_cell? _ _ h3
    refine ⟨h1, h2, ?_, ?_, h5, h6, h7, ?_, FIn.below h h9⟩
    · rw [h.cell hb]; exact h3
    · rw [h.cell hb]; exact h4
    · rcases h8 with h8 | ⟨kb, ko, e, h8⟩
      · exact Or.inl h8
      · exact Or.inr ⟨kb, ko, e, FIn.below h h8⟩

theorem KIn.below {w w' : World} (h : Below w.heap.size w w') {ka : Option Addr} {k : Fo} (hk : KIn w ka k) : KIn w' ka k := by
  rcases hk with hk | ⟨b, o, e, hk⟩
  · exact Or.inl hk
  · exact Or.inr ⟨b, o, e, hk.below h⟩

theorem TIn.below {w w' : World} (h : Below w.heap.size w w') {s : ByteArray} {ka : Option Addr} {cap : Nat} {k : Fo} (hk : TIn w s ka cap k) : TIn w' s ka cap k :=
  ⟨hk.size, hk.len, hk.cap, hk.kids.below h⟩

theorem FIn.drop {w : World} : ∀ (j : Nat) {f : Fo} {b o : Nat}, FIn w f b o → FIn w (fdrop j f) b (o + j * 2)
  | 0, _, _, _, h => h
  | j + 1, .nil, _, _, _ => trivial
  | j + 1, .node _ _ _ _ r, b, o, ⟨_, _, _, _, _, _, _, _, h9⟩ => by
    have := FIn.drop j h9
    rwa [show o + 2 + j * 2 = o + (j + 1) * 2 by omega] at this

theorem flen_drop : ∀ (j : Nat) (f : Fo), flen (fdrop j f) = flen f - j
  | 0, _ => rfl
  | j + 1, .nil => by simp [fdrop, flen]
  | j + 1, .node _ _ _ _ r => by simp [fdrop, flen, flen_drop j r]

/-- From 'j is below the length' to the node that stands there. -/
theorem fdrop_node : ∀ (j : Nat) (f : Fo), j < flen f → ∃ b o x k, fdrop j f = .node b o x k (fdrop (j + 1) f)
  | _, .nil, h => absurd h (Nat.not_lt_zero _)
  | 0, .node b o x k r, _ => ⟨b, o, x, k, by simp [fdrop]⟩
  | j + 1, .node _ _ _ _ r, h => by
    obtain ⟨b, o, x, k, e⟩ := fdrop_node j r (by simp [flen] at h; omega)
    exact ⟨b, o, x, k, by simpa [fdrop] using e⟩

theorem fdrop_end : ∀ (j : Nat) (f : Fo), flen f ≤ j → fdrop j f = .nil
  | 0, .nil, _ => rfl
  | 0, .node _ _ _ _ _, h => by simp [flen] at h
  | j + 1, .nil, _ => rfl
  | j + 1, .node _ _ _ _ r, h => by simp [fdrop]; exact fdrop_end j r (by simp [flen] at h; omega)

theorem flen_le_nodes : ∀ f : Fo, flen f ≤ fnodes f
  | .nil => Nat.le_refl _
  | .node _ _ _ k r => by have := flen_le_nodes r; simp [flen, fnodes]; omega

/-- What stands at the head of a forest that lies in w. -/
theorem FIn.head {w : World} {b o b' o' : Nat} {x : ByteArray × Option Addr × Nat} {k r : Fo} (h : FIn w (.node b' o' x k r) b o) :
    w.cell? ⟨b, o, none⟩ = some (.string x.1) ∧ w.cell? ⟨b, o + 1, none⟩ = some (.slice x.2.1 (flen k) x.2.2) ∧ TIn w x.1 x.2.1 x.2.2 k ∧ FIn w r b (o + 2) :=
  let ⟨_, _, h3, h4, h5, h6, h7, h8, h9⟩ := h
  ⟨h3, h4, ⟨h5, h6, h7, h8⟩, h9⟩

theorem hide {p : Prop} (h : p) : Hid p := h

theorem bcell {B : Nat} {W w1 : World} (hb : Below B W w1) : (∀ b o, b < B → w1.cell? ⟨b, o, none⟩ = W.cell? ⟨b, o, none⟩) ∧ (∀ b o, b < B → w1.frozen? ⟨b, o, none⟩ = W.frozen? ⟨b, o, none⟩) :=
  ⟨fun b o h => hb.cell (p := ⟨b, o, none⟩) h, fun b o h => hb.frozen (p := ⟨b, o, none⟩) h⟩

/-- Behind a box: what is kept below it is kept of the old world. -/
theorem below_of_box {w w' : World} {x : Obj} (h : Below (w.heap.size + 1) (w.alloc x) w') : Below w.heap.size w w' :=
  ((Below.refl _ _).alloc (Nat.le_refl _) x).trans (h.mono (by omega))

/-- A node of the forest at place j, with what it says. -/
theorem FIn.at {w : World} {f : Fo} {b o : Nat} (h : FIn w f b o) {j : Nat} (hj : j < flen f) :
    ∃ b' o' x k, fdrop j f = .node b' o' x k (fdrop (j + 1) f) ∧ w.cell? ⟨b, o + j * 2, none⟩ = some (.string x.1) ∧ w.cell? ⟨b, o + j * 2 + 1, none⟩ = some (.slice x.2.1 (flen k) x.2.2) ∧ TIn w x.1 x.2.1 x.2.2 k ∧ b < w.heap.size := by
  obtain ⟨b', o', x, k, e⟩ := fdrop_node j f hj
  have hd := FIn.drop j h
  rw [e] at hd
  obtain ⟨h1, h2, h3, _⟩ := hd.head
  exact ⟨b', o', x, k, e, h1, h2, h3, World.block_lt_of_cell? _ _ h1⟩

end Go.Proofs.Ytpgiagkbfnbgkab
