/- What a forest of api.Tree in memory is (a list of trees, each with its label and its kids, as a binary tree: kids to the left, brothers to the right), that it lies in a world, and that it stays there while old memory is kept. Of no program. -/
/- Forests but for where they lie (strip), where a forest lies (FFrom, FOff), and a row of trees in a block as a forest. Of no program. -/
import Derived.Deep.Trees
import Derived.Below
import Derived.WalkKit
import Derived.Deep.AppendLies
namespace Go.Proofs.YtkoohfkomlmhoacGreatDoor
open Go.Deep Go.RowKit

/-- A list of trees: each node's payload is its label, and the address and capacity of its list of kids. -/
abbrev Fo := BT (ByteArray × Option Addr × Nat)

def flen : Fo → Nat
  | .nil => 0
  | .node _ _ _ _ r => flen r + 1
def fnodes : Fo → Nat
  | .nil => 0
  | .node _ _ _ k r => fnodes k + fnodes r + 1
def fdrop : Nat → Fo → Fo
  | 0, f => f
  | _ + 1, .nil => .nil
  | n + 1, .node _ _ _ _ r => fdrop n r
/-- how many levels -/
def fhigh : Fo → Nat
  | .nil => 0
  | .node _ _ _ k r => max (fhigh k + 1) (fhigh r)

/-- The forest lies in w, its first tree at block b, offset o. -/
def FIn (w : World) : Fo → Nat → Nat → Prop
  | .nil, _, _ => True
  | .node b' o' x k r, b, o => b' = b ∧ o' = o ∧ w.cell? ⟨b, o, none⟩ = some (.string x.1) ∧ w.cell? ⟨b, o + 1, none⟩ = some (.slice x.2.1 (flen k) x.2.2) ∧
      x.1.size ≤ maxLen ∧ flen k ≤ x.2.2 ∧ x.2.2 ≤ maxLen ∧ (k = .nil ∨ ∃ kb ko, x.2.1 = some ⟨kb, ko, none⟩ ∧ FIn w k kb ko) ∧ FIn w r b (o + 2)

/-- The kids of a node lie in w, behind the address ka. -/
def KIn (w : World) (ka : Option Addr) (k : Fo) : Prop := k = .nil ∨ ∃ kb ko, ka = some ⟨kb, ko, none⟩ ∧ FIn w k kb ko

/-- One tree, its root a value: label s, kids behind ka. -/
structure TIn (w : World) (s : ByteArray) (ka : Option Addr) (cap : Nat) (k : Fo) : Prop where
  size : s.size ≤ maxLen
  len : flen k ≤ cap
  cap : cap ≤ maxLen
  kids : KIn w ka k

theorem FIn.below {w w' : World} (h : Below w.heap.size w w') : ∀ {f : Fo} {b o : Nat}, FIn w f b o → FIn w' f b o
  | .nil, _, _, _ => trivial
  | .node _ _ x k r, b, o, ⟨h1, h2, h3, h4, h5, h6, h7, h8, h9⟩ => by
    have hb : b < w.heap.size := World.block_lt_of_cell? _ _ h3
    refine ⟨h1, h2, ?_, ?_, h5, h6, h7, ?_, FIn.below h h9⟩
    · rw [h.cell hb]; exact h3
    · rw [h.cell hb]; exact h4
    · rcases h8 with h8 | ⟨kb, ko, e, h8⟩
      · exact Or.inl h8
      · exact Or.inr ⟨kb, ko, e, FIn.below h h8⟩

theorem KIn.below {w w' : World} (h : Below w.heap.size w w') {ka : Option Addr} {k : Fo} (hk : KIn w ka k) : KIn w' ka k := by
  rcases hk with hk | ⟨b, o, e, hk⟩
  · exact Or.inl hk
  · exact Or.inr ⟨b, o, e, hk.below h⟩

theorem TIn.below {w w' : World} (h : Below w.heap.size w w') {s : ByteArray} {ka : Option Addr} {cap : Nat} {k : Fo} (hk : TIn w s ka cap k) : TIn w' s ka cap k :=
  ⟨hk.size, hk.len, hk.cap, hk.kids.below h⟩

theorem FIn.drop {w : World} : ∀ (j : Nat) {f : Fo} {b o : Nat}, FIn w f b o → FIn w (fdrop j f) b (o + j * 2)
  | 0, _, _, _, h => h
  | j + 1, .nil, _, _, _ => trivial
  | j + 1, .node _ _ _ _ r, b, o, ⟨_, _, _, _, _, _, _, _, h9⟩ => by
    have := FIn.drop j h9
    rwa [show o + 2 + j * 2 = o + (j + 1) * 2 by omega] at this

/-- From 'j is below the length' to the node that stands there. -/
theorem fdrop_node : ∀ (j : Nat) (f : Fo), j < flen f → ∃ b o x k, fdrop j f = .node b o x k (fdrop (j + 1) f)
  | _, .nil, h => absurd h (Nat.not_lt_zero _)
  | 0, .node b o x k r, _ => ⟨b, o, x, k, by simp [fdrop]⟩
  | j + 1, .node _ _ _ _ r, h => by
    obtain ⟨b, o, x, k, e⟩ := fdrop_node j r (by simp [flen] at h; omega)
    exact ⟨b, o, x, k, by simpa [fdrop] using e⟩

theorem fdrop_end : ∀ (j : Nat) (f : Fo), flen f ≤ j → fdrop j f = .nil
  | 0, .nil, _ => rfl
  | 0, .node _ _ _ _ _, h => by simp [flen] at h
  | j + 1, .nil, _ => rfl
  | j + 1, .node _ _ _ _ r, h => by simp [fdrop]; exact fdrop_end j r (by simp [flen] at h; omega)

/-- What stands at the head of a forest that lies in w. -/
theorem FIn.head {w : World} {b o b' o' : Nat} {x : ByteArray × Option Addr × Nat} {k r : Fo} (h : FIn w (.node b' o' x k r) b o) :
    w.cell? ⟨b, o, none⟩ = some (.string x.1) ∧ w.cell? ⟨b, o + 1, none⟩ = some (.slice x.2.1 (flen k) x.2.2) ∧ TIn w x.1 x.2.1 x.2.2 k ∧ FIn w r b (o + 2) :=
  let ⟨_, _, h3, h4, h5, h6, h7, h8, h9⟩ := h
  ⟨h3, h4, ⟨h5, h6, h7, h8⟩, h9⟩

theorem hide {p : Prop} (h : p) : Hid p := h

/-- A node of the forest at place j, with what it says. -/
theorem FIn.at {w : World} {f : Fo} {b o : Nat} (h : FIn w f b o) {j : Nat} (hj : j < flen f) :
    ∃ b' o' x k, fdrop j f = .node b' o' x k (fdrop (j + 1) f) ∧ w.cell? ⟨b, o + j * 2, none⟩ = some (.string x.1) ∧ w.cell? ⟨b, o + j * 2 + 1, none⟩ = some (.slice x.2.1 (flen k) x.2.2) ∧ TIn w x.1 x.2.1 x.2.2 k ∧ b < w.heap.size := by
  obtain ⟨b', o', x, k, e⟩ := fdrop_node j f hj
  have hd := FIn.drop j h
  rw [e] at hd
  obtain ⟨h1, h2, h3, _⟩ := hd.head
  exact ⟨b', o', x, k, e, h1, h2, h3, World.block_lt_of_cell? _ _ h1⟩

end Go.Proofs.YtkoohfkomlmhoacGreatDoor
namespace Go.Proofs.YtkoohfkomlmhoacGreatDoor
open Go.Deep Go.RowKit
set_option linter.unusedVariables false
set_option maxRecDepth 20000

/-- The forest without its addresses. -/
def strip : Fo → Fo
  | .nil => .nil
  | .node _ _ x k r => .node 0 0 (x.1, none, 0) (strip k) (strip r)

theorem strip_strip : ∀ f : Fo, strip (strip f) = strip f
  | .nil => rfl
  | .node _ _ x k r => by simp [strip, strip_strip k, strip_strip r]
theorem flen_strip : ∀ f : Fo, flen (strip f) = flen f
  | .nil => rfl
  | .node _ _ _ _ r => by simp [strip, flen, flen_strip r]
/-- All of it lies from block B on. -/
def FFrom (B : Nat) : Fo → Prop
  | .nil => True
  | .node b _ _ k r => B ≤ b ∧ FFrom B k ∧ FFrom B r
/-- Nothing of it lies in block g. -/
def FOff (g : Nat) : Fo → Prop
  | .nil => True
  | .node b _ _ k r => b ≠ g ∧ FOff g k ∧ FOff g r

theorem FFrom.mono {B B' : Nat} (h : B' ≤ B) : ∀ {f : Fo}, FFrom B f → FFrom B' f
  | .nil, _ => trivial
  | .node _ _ _ _ _, ⟨h1, h2, h3⟩ => ⟨Nat.le_trans h h1, FFrom.mono h h2, FFrom.mono h h3⟩
theorem FFrom.off {B g : Nat} (h : g < B) : ∀ {f : Fo}, FFrom B f → FOff g f
  | .nil, _ => trivial
  | .node _ _ _ _ _, ⟨h1, h2, h3⟩ => ⟨by omega, FFrom.off h h2, FFrom.off h h3⟩
/-- What lies in w lies in none of the blocks behind it. -/
theorem FIn.off {w : World} {g : Nat} (hg : w.heap.size ≤ g) : ∀ {f : Fo} {b o : Nat}, FIn w f b o → FOff g f
  | .nil, _, _, _ => trivial
  | .node _ _ x k r, b, o, ⟨h1, h2, h3, h4, h5, h6, h7, h8, h9⟩ => by
    have hb : b < w.heap.size := World.block_lt_of_cell? _ _ h3
    refine ⟨by omega, ?_, FIn.off hg h9⟩
    rcases h8 with h8 | ⟨kb, ko, e, h8⟩
    · subst h8; trivial
    · exact FIn.off hg h8
theorem KIn.off {w : World} {g : Nat} (hg : w.heap.size ≤ g) {ka : Option Addr} {k : Fo} (h : KIn w ka k) : FOff g k := by
  rcases h with h | ⟨b, o, e, h⟩
  · subst h; trivial
  · exact h.off hg

/-- One block alone has turned, in which nothing of it lies. -/
theorem FIn.but {w w' : World} {g : Nat} (h : ∀ b, b < w.heap.size → b ≠ g → w'.heap[b]? = w.heap[b]?) : ∀ {f : Fo} {b o : Nat}, FOff g f → FIn w f b o → FIn w' f b o
  | .nil, _, _, _, _ => trivial
  | .node b' _ x k r, b, o, ⟨g1, g2, g3⟩, ⟨h1, h2, h3, h4, h5, h6, h7, h8, h9⟩ => by
    have hb : b < w.heap.size := World.block_lt_of_cell? _ _ h3
    have hbl := h b hb (by omega)
    refine ⟨h1, h2, ?_, ?_, h5, h6, h7, ?_, FIn.but h g3 h9⟩
    · rw [World.cell?_of_block (w := w) hbl]; exact h3
    · rw [World.cell?_of_block (w := w) hbl]; exact h4
    · rcases h8 with h8 | ⟨kb, ko, e, h8⟩
      · exact Or.inl h8
      · exact Or.inr ⟨kb, ko, e, FIn.but h g2 h8⟩
theorem TIn.but {w w' : World} {g : Nat} (h : ∀ b, b < w.heap.size → b ≠ g → w'.heap[b]? = w.heap[b]?) {s : ByteArray} {ka : Option Addr} {cap : Nat} {k : Fo} (ho : FOff g k) (ht : TIn w s ka cap k) : TIn w' s ka cap k := by
  obtain ⟨h1, h2, h3, h4⟩ := ht
  refine ⟨h1, h2, h3, ?_⟩
  rcases h4 with h4 | ⟨kb, ko, e, h4⟩
  · exact Or.inl h4
  · exact Or.inr ⟨kb, ko, e, FIn.but h ho h4⟩

/-- A block that bears no frozen mark at all. -/
def BPlain (w : World) (b : Nat) : Prop := ∃ c e, w.heap[b]? = some (.cells c e (0, 0))
theorem BPlain.lt {w : World} {b : Nat} (h : BPlain w b) : b < w.heap.size := by
  obtain ⟨c, e, h⟩ := h
  rcases Nat.lt_or_ge b w.heap.size with h' | h'
  · exact h'
  · rw [Array.getElem?_eq_none h'] at h; cases h
theorem BPlain.below {w w' : World} {b : Nat} (hb : Below w.heap.size w w') (h : BPlain w b) : BPlain w' b := by
  have := hb.block b h.lt
  obtain ⟨c, e, h⟩ := h
  exact ⟨c, e, by rw [this]; exact h⟩
/-- All blocks of a forest are such. -/
def FPlain (w : World) : Fo → Prop
  | .nil => True
  | .node b _ _ k r => BPlain w b ∧ FPlain w k ∧ FPlain w r
theorem FPlain.below {w w' : World} (hb : Below w.heap.size w w') : ∀ {f : Fo}, FPlain w f → FPlain w' f
  | .nil, _ => trivial
  | .node _ _ _ _ _, ⟨h1, h2, h3⟩ => ⟨h1.below hb, FPlain.below hb h2, FPlain.below hb h3⟩
theorem FPlain.but {w w' : World} {g : Nat} (h : ∀ b, b < w.heap.size → b ≠ g → w'.heap[b]? = w.heap[b]?) : ∀ {f : Fo}, FOff g f → FPlain w f → FPlain w' f
  | .nil, _, _ => trivial
  | .node b _ _ _ _, ⟨g1, g2, g3⟩, ⟨h1, h2, h3⟩ => by
    have hb := h b h1.lt g1
    obtain ⟨c, e, h1⟩ := h1
    exact ⟨⟨c, e, by rw [hb]; exact h1⟩, FPlain.but h g2 h2, FPlain.but h g3 h3⟩
theorem FPlain.drop {w : World} : ∀ (j : Nat) {f : Fo}, FPlain w f → FPlain w (fdrop j f)
  | 0, _, h => h
  | _ + 1, .nil, _ => trivial
  | j + 1, .node _ _ _ _ _, ⟨_, _, h3⟩ => FPlain.drop j h3

/-- A tree as an item of a row: label, the kids' address and capacity, the kids. -/
abbrev It := ByteArray × Option Addr × Nat × Fo
def itCells (i : It) : List Value := [.string i.1, .slice i.2.1 (flen i.2.2.2) i.2.2.1]
def rowCells : List It → List Value
  | [] => []
  | i :: l => itCells i ++ rowCells l
/-- The items as a forest that lies from offset o on in block b. -/
def place (b : Nat) : Nat → List It → Fo
  | _, [] => .nil
  | o, i :: l => .node b o (i.1, i.2.1, i.2.2.1) i.2.2.2 (place b (o + 2) l)
/-- The items, and a forest behind them. -/
def joinF : List It → Fo → Fo
  | [], r => r
  | i :: l, r => .node 0 0 (i.1, i.2.1, i.2.2.1) i.2.2.2 (joinF l r)

theorem rowCells_append : ∀ (l : List It) (i : It), rowCells (l ++ [i]) = rowCells l ++ itCells i
  | [], i => by simp [rowCells]
  | a :: l, i => by simp [rowCells, rowCells_append l i]
theorem rowCells_length : ∀ l : List It, (rowCells l).length = l.length * 2
  | [] => rfl
  | a :: l => by simp [rowCells, itCells, rowCells_length l]; omega
theorem joinF_snoc : ∀ (l : List It) (i : It) (r : Fo), joinF (l ++ [i]) r = joinF l (.node 0 0 (i.1, i.2.1, i.2.2.1) i.2.2.2 r)
  | [], _, _ => rfl
  | a :: l, i, r => by simp [joinF, joinF_snoc l i r]
theorem strip_joinF : ∀ (l : List It) (r r' : Fo), strip r = strip r' → strip (joinF l r) = strip (joinF l r')
  | [], _, _, h => h
  | a :: l, r, r', h => by simp [joinF, strip, strip_joinF l r r' h]
theorem strip_place : ∀ (l : List It) (b o : Nat), strip (place b o l) = strip (joinF l .nil)
  | [], _, _ => rfl
  | a :: l, b, o => by simp [place, joinF, strip, strip_place l b (o + 2)]
theorem flen_place : ∀ (l : List It) (b o : Nat), flen (place b o l) = l.length
  | [], _, _ => rfl
  | a :: l, b, o => by simp [place, flen, flen_place l b (o + 2)]

/-- A forest's trees as items. -/
def itemsF : Fo → List It
  | .nil => []
  | .node _ _ x k r => (x.1, x.2.1, x.2.2, k) :: itemsF r
theorem FIn.row {w : World} : ∀ {f : Fo} {b o : Nat}, FIn w f b o → ∀ j u, (rowCells (itemsF f))[j]? = some u → w.cell? ⟨b, o + j, none⟩ = some u
  | .nil, _, _, _, j, u, h => by simp [itemsF, rowCells] at h
  | .node _ _ x k r, b, o, hf, 0, u, h => by
    have : Value.string x.1 = u := by simpa [itemsF, rowCells, itCells] using h
    rw [← this]
    exact hf.head.1
  | .node _ _ x k r, b, o, hf, 1, u, h => by
    have : Value.slice x.2.1 (flen k) x.2.2 = u := by simpa [itemsF, rowCells, itCells] using h
    rw [← this]
    exact hf.head.2.1
  | .node _ _ x k r, b, o, hf, j + 2, u, h => by
    have := FIn.row hf.head.2.2.2 j u (by simpa [itemsF, rowCells, itCells] using h)
    rwa [show o + 2 + j = o + (j + 2) by omega] at this
theorem rowCells_one : ∀ (l : List It) (u : Value), u ∈ rowCells l → u.oneCell' = true
  | [], u, h => by simp [rowCells] at h
  | i :: l, u, h => by
    simp only [rowCells, List.mem_append] at h
    rcases h with h | h
    · simp [itCells] at h
      rcases h with rfl | rfl <;> rfl
    · exact rowCells_one l u h

/-- What is asked of an item. -/
def ItIn (w : World) (i : It) : Prop := TIn w i.1 i.2.1 i.2.2.1 i.2.2.2

theorem FIn.items {w : World} : ∀ {f : Fo} {b o : Nat}, FIn w f b o → ∀ i, i ∈ itemsF f → ItIn w i
  | .nil, _, _, _, i, h => by simp [itemsF] at h
  | .node _ _ x k r, b, o, hf, i, h => by
    simp only [itemsF, List.mem_cons] at h
    rcases h with rfl | h
    · exact hf.head.2.2.1
    · exact FIn.items hf.head.2.2.2 i h

theorem place_in {w : World} {g : Nat} : ∀ (l : List It) (o : Nat), (∀ i, i ∈ l → ItIn w i) → (∀ j u, (rowCells l)[j]? = some u → w.cell? ⟨g, o + j, none⟩ = some u) → FIn w (place g o l) g o
  | [], _, _, _ => trivial
  | a :: l, o, hi, hc => by
    obtain ⟨h1, h2, h3, h4⟩ := hi a (by simp)
    refine ⟨rfl, rfl, ?_, ?_, h1, h2, h3, h4, place_in l (o + 2) (fun i h => hi i (by simp [h])) fun j u hu => ?_⟩
    · have := hc 0 (.string a.1) (by simp [rowCells, itCells])
      simpa using this
    · exact hc 1 (.slice a.2.1 (flen a.2.2.2) a.2.2.1) (by simp [rowCells, itCells])
    · have := hc (j + 2) u (by simpa [rowCells, itCells] using hu)
      rwa [show o + (j + 2) = o + 2 + j by omega] at this

theorem place_from {B g : Nat} (hg : B ≤ g) : ∀ (l : List It) (o : Nat), (∀ i, i ∈ l → FFrom B i.2.2.2) → FFrom B (place g o l)
  | [], _, _ => trivial
  | a :: l, o, h => ⟨hg, h a (by simp), place_from hg l (o + 2) fun i hi => h i (by simp [hi])⟩

/-- A step of an append of trees, one by one: the new item. -/
theorem join_step {l : List It} {k kk k' : Fo} {j b o cap' : Nat} {x : ByteArray × Option Addr × Nat} {ka' : Option Addr} (h : strip (joinF l (fdrop j k)) = strip k) (he : fdrop j k = .node b o x kk (fdrop (j + 1) k)) (hs : strip k' = strip kk) :
    strip (joinF (l ++ [(x.1, ka', cap', k')]) (fdrop (j + 1) k)) = strip k := by
  rw [joinF_snoc, ← h]
  refine strip_joinF l _ _ ?_
  rw [he]
  simp [strip, hs]

/-- The cells of what a slice owns, by index. -/
theorem ownsRow_cell {w : World} {base : Nat} {e : TypeId} {size g n cap : Nat} {xs : List Value} (h : w.ownsRow base e size (.slice (some ⟨g, 0, none⟩) n cap) n xs) : ∀ j u, xs[j]? = some u → w.cell? ⟨g, 0 + j, none⟩ = some u := by
  intro j u hu
  rcases h.2 with ⟨h0, _⟩ | ⟨g', cap', cur, hv, hb, hh, h1, h2, h3, h4⟩
  · cases h0
  · simp only [Value.slice.injEq, Option.some.injEq, Addr.mk.injEq] at hv
    obtain ⟨⟨rfl, _, _⟩, _, rfl⟩ := hv
    have hj : j < xs.length := (List.getElem?_eq_some_iff.1 hu).1
    have hl := h.1
    rw [Nat.zero_add, cell_of_row w g j cur e (0, 0) hh]
    rw [← h4, List.getElem?_take_of_lt (by omega)] at hu
    simpa using hu

/-- The block of a list, if it has one. -/
def hb : Fo → List Nat
  | .nil => []
  | .node b _ _ _ _ => [b]
/-- The blocks of all lists beneath a list. -/
def lb : Fo → List Nat
  | .nil => []
  | .node _ _ _ k r => hb k ++ lb k ++ lb r
/-- .. and its own. -/
def ab (f : Fo) : List Nat := hb f ++ lb f

theorem lb_lt {w : World} : ∀ {f : Fo} {b o : Nat}, FIn w f b o → ∀ q, q ∈ lb f → q < w.heap.size
  | .nil, _, _, _, q, hq => by simp [lb] at hq
  | .node _ _ x k r, b, o, hf, q, hq => by
    obtain ⟨_, _, ht, hr⟩ := hf.head
    simp only [lb, List.mem_append] at hq
    rcases hq with (hq | hq) | hq
    · rcases ht.kids with hk | ⟨kb, ko, _, hk⟩
      · subst hk; simp [hb] at hq
      · cases k with
        | nil => simp [hb] at hq
        | node b' o' y kk r' =>
          have e : q = b' := by simpa [hb] using hq
          have e' : b' = kb := hk.1
          have := World.block_lt_of_cell? _ _ hk.head.1
          simp only at this
          omega
    · rcases ht.kids with hk | ⟨kb, ko, _, hk⟩
      · subst hk; simp [lb] at hq
      · exact lb_lt hk q hq
    · exact lb_lt hr q hq
theorem ab_lt {w : World} {ka : Option Addr} {k : Fo} (h : KIn w ka k) : ∀ q, q ∈ ab k → q < w.heap.size := fun q hq => by
  rcases h with h | ⟨kb, ko, _, h⟩
  · subst h; simp [ab, hb, lb] at hq
  · simp only [ab, List.mem_append] at hq
    rcases hq with hq | hq
    · cases k with
      | nil => simp [hb] at hq
      | node b' o' y kk r' =>
        have e : q = b' := by simpa [hb] using hq
        have e' : b' = kb := h.1
        have := World.block_lt_of_cell? _ _ h.head.1
        simp only at this
        omega
    · exact lb_lt h q hq

theorem lb_from {B : Nat} : ∀ {f : Fo}, FFrom B f → ∀ q, q ∈ lb f → B ≤ q
  | .nil, _, q, hq => by simp [lb] at hq
  | .node _ _ x k r, ⟨_, h2, h3⟩, q, hq => by
    simp only [lb, List.mem_append] at hq
    rcases hq with (hq | hq) | hq
    · cases k with
      | nil => simp [hb] at hq
      | node b' _ _ _ _ =>
        have e : q = b' := by simpa [hb] using hq
        have := h2.1
        omega
    · exact lb_from h2 q hq
    · exact lb_from h3 q hq
theorem ab_from {B : Nat} {f : Fo} (h : FFrom B f) : ∀ q, q ∈ ab f → B ≤ q := fun q hq => by
  simp only [ab, List.mem_append] at hq
  rcases hq with hq | hq
  · cases f with
    | nil => simp [hb] at hq
    | node b' _ _ _ _ =>
      have e : q = b' := by simpa [hb] using hq
      have := h.1
      omega
  · exact lb_from h q hq
theorem lb_off {g : Nat} : ∀ {f : Fo}, FOff g f → ¬ g ∈ lb f
  | .nil, _ => by simp [lb]
  | .node _ _ x k r, ⟨_, h2, h3⟩ => by
    simp only [lb, List.mem_append, not_or]
    refine ⟨⟨?_, lb_off h2⟩, lb_off h3⟩
    cases k with
    | nil => simp [hb]
    | node b' _ _ _ _ => have := h2.1; simp [hb]; omega
theorem ab_off {g : Nat} {f : Fo} (h : FOff g f) : ¬ g ∈ ab f := by
  simp only [ab, List.mem_append, not_or]
  refine ⟨?_, lb_off h⟩
  cases f with
  | nil => simp [hb]
  | node b' _ _ _ _ => have := h.1; simp [hb]; omega
theorem lb_place : ∀ (l : List It) (g o : Nat), lb (place g o l) = l.flatMap fun i => ab i.2.2.2
  | [], _, _ => rfl
  | i :: l, g, o => by simp [place, lb, ab, lb_place l g (o + 2)]

end Go.Proofs.YtkoohfkomlmhoacGreatDoor
