/- What is left in memory when a node has turned in its place and the deed that undoes it is noted. Of no program. -/
/- Deeds done one behind the other, and all undone: trees and numbers alone. Of no program. -/
/- What a script comes to: a code, where, what comes of it, what undoes it; by one deed more each time. Trees and numbers alone. Of no program. -/
import Derived.Test.YtcknganggcbkjabGS08
import Derived.Test.YtcknganggcbkjabGS05
namespace Go.Proofs.Ytcknganggcbkjab.Deed
open Go.Deep Go.RowKit
set_option linter.unusedVariables false
set_option maxRecDepth 20000

/-- A deed in a block of its own. -/
structure BackIs (w : World) (c : Nat) (d : Dd) (pa : Option Addr) (pc : Nat) : Prop where
  c0 : w.cell? ⟨c, 0, none⟩ = some (.int .i64 d.kind)
  c1 : w.cell? ⟨c, 1, none⟩ = some (.slice pa d.path.length pc)
  c2 : w.cell? ⟨c, 2, none⟩ = some (.int .i64 d.pos)
  c3 : w.cell? ⟨c, 3, none⟩ = some (.int .i64 d.many)
  c4 : w.cell? ⟨c, 4, none⟩ = some (.string d.lab)
  fr : ∀ o, w.frozen? ⟨c, o, none⟩ = false
  blk : BPlain w c
theorem BackIs.of {w : World} {c T : Nat} {d : Dd} {pa : Option Addr} {pc : Nat} (h : w.heap[c]? = some (Obj.cells #[.int .i64 d.kind, .slice pa d.path.length pc, .int .i64 d.pos, .int .i64 d.many, .string d.lab] T)) : BackIs w c d pa pc := by
  refine ⟨?_, ?_, ?_, ?_, ?_, fun o => by simp [World.frozen?, h], ⟨_, _, h⟩⟩
  · rw [cell_of_row _ _ 0 _ _ _ h]; rfl
  · rw [cell_of_row _ _ 1 _ _ _ h]; rfl
  · rw [cell_of_row _ _ 2 _ _ _ h]; rfl
  · rw [cell_of_row _ _ 3 _ _ _ h]; rfl
  · rw [cell_of_row _ _ 4 _ _ _ h]; rfl
theorem BackIs.block {w w' : World} {c : Nat} {d : Dd} {pa : Option Addr} {pc : Nat} (h : BackIs w c d pa pc) (hb : w'.heap[c]? = w.heap[c]?) : BackIs w' c d pa pc :=
  ⟨by rw [World.cell?_of_block (w := w) hb]; exact h.c0, by rw [World.cell?_of_block (w := w) hb]; exact h.c1, by rw [World.cell?_of_block (w := w) hb]; exact h.c2, by rw [World.cell?_of_block (w := w) hb]; exact h.c3, by rw [World.cell?_of_block (w := w) hb]; exact h.c4, fun o => by rw [World.frozen?_of_block (w := w) hb]; exact h.fr o, by obtain ⟨cs, e, h'⟩ := h.blk; exact ⟨cs, e, by rw [hb]; exact h'⟩⟩
theorem BackIs.lt {w : World} {c : Nat} {d : Dd} {pa : Option Addr} {pc : Nat} (h : BackIs w c d pa pc) : c < w.heap.size := World.block_lt_of_cell? _ _ h.c0

def noDd : Dd := ⟨0, [], 0, 0, ⟨#[]⟩⟩

/-- The node n has turned to x, and the deed bk is noted in block c; all else that there was is as it was. -/
structure Turn (w w' : World) (n : Nd) (c : Nat) (x : It) (bk : Dd) : Prop where
  keep : ∀ B, B ≤ n.b → B ≤ c → B ≤ w.heap.size → Below B w w'
  same : ∀ q, q < w.heap.size → q ≠ n.b → q ≠ c → w'.heap[q]? = w.heap[q]?
  cell : ∀ o, o ≠ n.o → o ≠ n.o + 1 → w'.cell? ⟨n.b, o, none⟩ = w.cell? ⟨n.b, o, none⟩
  plain : BPlain w' n.b
  new : NodIn w' (nSet x [] n)
  kids : ∀ B, B ≤ w.heap.size → FFrom B n.k → FFrom B x.2.2.2
  kplain : FPlain w' x.2.2.2
  koff : ∀ c, c < w.heap.size → FOff c n.k → FOff c x.2.2.2
  back : ∃ pa pc, BackIs w' c bk pa pc ∧ DIn w' bk pa pc ∧ ∀ a, pa = some a → w.heap.size ≤ a.block

/-- Some blocks are as they were. -/
structure Kp (L : List Nat) (w w' : World) : Prop where
  size : w.heap.size ≤ w'.heap.size
  lt : ∀ q, q ∈ L → q < w.heap.size
  same : ∀ q, q ∈ L → w'.heap[q]? = w.heap[q]?
theorem Kp.refl {L : List Nat} {w : World} (h : ∀ q, q ∈ L → q < w.heap.size) : Kp L w w := ⟨Nat.le_refl _, h, fun _ _ => rfl⟩
theorem Kp.set {L : List Nat} {w w' : World} {c o : Nat} {v : Value} (h : Kp L w w') (hc : ¬ c ∈ L) : Kp L w (w'.setCell ⟨c, o, none⟩ v) :=
  ⟨by simpa [World.setCell] using h.size, h.lt, fun q hq => by rw [Below.heap_setCell _ _ _ _ (fun e => hc (by have e' : q = c := e; rw [← e']; exact hq))]; exact h.same q hq⟩
theorem Kp.alloc {L : List Nat} {w w' : World} {ob : Obj} (h : Kp L w w') : Kp L w (w'.alloc ob) :=
  ⟨by have := h.size; simp; omega, h.lt, fun q hq => by rw [Below.heap_alloc _ _ _ (Nat.lt_of_lt_of_le (h.lt q hq) h.size)]; exact h.same q hq⟩
theorem Kp.drew {L : List Nat} {w w' : World} (h : Kp L w w') : Kp L w w'.drew := ⟨h.size, h.lt, h.same⟩
theorem Kp.below {L : List Nat} {w w' w2 : World} (h : Kp L w w') (hb : Below w'.heap.size w' w2) : Kp L w w2 :=
  ⟨Nat.le_trans h.size hb.size, h.lt, fun q hq => by rw [hb.block q (Nat.lt_of_lt_of_le (h.lt q hq) h.size)]; exact h.same q hq⟩
theorem Kp.cell {L : List Nat} {w w' : World} (h : Kp L w w') {q o : Nat} {v : Value} (hq : q ∈ L) (hv : w.cell? ⟨q, o, none⟩ = some v) : w'.cell? ⟨q, o, none⟩ = some v := by
  rw [World.cell?_of_block (w := w) (h.same q hq)]
  exact hv
theorem Kp.frozen {L : List Nat} {w w' : World} (h : Kp L w w') {q o : Nat} {v : Bool} (hq : q ∈ L) (hv : w.frozen? ⟨q, o, none⟩ = v) : w'.frozen? ⟨q, o, none⟩ = v := by
  rw [World.frozen?_of_block (w := w) (h.same q hq)]
  exact hv

theorem cellN {w w' : World} {b o : Nat} {v : Value} (hb : w'.heap[b]? = w.heap[b]?) (h : w.cell? ⟨b, o, none⟩ = some v) : w'.cell? ⟨b, o, none⟩ = some v := by
  rw [World.cell?_of_block (w := w) hb]
  exact h
theorem cset_same {w : World} {a : Addr} {v u : Value} (h : w.cell? a = some u) : (w.setCell a v).cell? a = some v := World.cell?_setCell_same' w a v (by rw [h]; rfl)
theorem cset_other {w : World} {b o o' : Nat} {v : Value} (h : o' ≠ o) : (w.setCell ⟨b, o, none⟩ v).cell? ⟨b, o', none⟩ = w.cell? ⟨b, o', none⟩ := by
  apply World.cell?_setCell_other
  intro e
  injection e with _ e
  omega
theorem PIn.block {w w' : World} {pa : Option Addr} {l : List Int} (h : PIn w pa l) (hb : ∀ a, pa = some a → w'.heap[a.block]? = w.heap[a.block]?) : PIn w' pa l := by
  rcases h with h | ⟨b, o, e, h⟩
  · exact Or.inl h
  · refine Or.inr ⟨b, o, e, fun i p hp => ?_⟩
    exact cellN (b := b) (hb _ e) (h i p hp)
theorem plain_set1 {w : World} {b o : Nat} {v : Value} (h : BPlain w b) : BPlain (w.setCell ⟨b, o, none⟩ v) b := by
  obtain ⟨c, e, h⟩ := h
  refine ⟨c.setIfInBounds o v, e, ?_⟩
  simp [World.setCell, Array.getElem?_modify, h]
/-- A cell that is written as it is. -/
theorem setCell_self {w : World} {b o : Nat} {v : Value} (hp : BPlain w b) (h : w.cell? ⟨b, o, none⟩ = some v) : w.setCell ⟨b, o, none⟩ v = w := by
  obtain ⟨cs, e, hb⟩ := hp
  rw [cell_of_row _ _ o _ _ _ hb] at h
  have hh : (w.setCell ⟨b, o, none⟩ v).heap = w.heap := by
    apply Array.ext_getElem?
    intro j
    by_cases hj : j = b
    · subst hj
      simp only [World.setCell, Array.getElem?_modify, if_true, hb, Option.map_some, Option.isSome_none, Bool.false_eq_true, if_false]
      congr 2
      apply Array.ext_getElem?
      intro l
      by_cases hl : l = o
      · subst hl
        have hlt : l < cs.size := (Array.getElem?_eq_some_iff.1 h).1
        rw [Array.getElem?_setIfInBounds_self_of_lt hlt, h]
      · rw [Array.getElem?_setIfInBounds_ne (by omega)]
    · exact Below.heap_setCell _ _ _ _ hj
  show ({ w with heap := (w.setCell ⟨b, o, none⟩ v).heap } : World) = w
  rw [hh]
theorem set5 {w : World} {c : Nat} {d0 : Dd} {pa0 : Option Addr} {pc0 : Nat} (h : BackIs w c d0 pa0 pc0) (d : Dd) (pa : Option Addr) (pc : Nat) :
    BackIs (((((w.setCell ⟨c, 0, none⟩ (.int .i64 d.kind)).setCell ⟨c, 1, none⟩ (.slice pa d.path.length pc)).setCell ⟨c, 2, none⟩ (.int .i64 d.pos)).setCell ⟨c, 3, none⟩ (.int .i64 d.many)).setCell ⟨c, 4, none⟩ (.string d.lab)) c d pa pc := by
  obtain ⟨h0, h1, h2, h3, h4, hf, hb⟩ := h
  refine ⟨?_, ?_, ?_, ?_, ?_, fun o => ?_, plain_set1 (plain_set1 (plain_set1 (plain_set1 (plain_set1 hb))))⟩ <;> go_simp
theorem set3 {w : World} {c : Nat} {d0 : Dd} {pa0 : Option Addr} {pc0 : Nat} (h : BackIs w c d0 pa0 pc0) (k : Int) (path : List Int) (l : ByteArray) (pa : Option Addr) (pc : Nat) :
    BackIs (((w.setCell ⟨c, 0, none⟩ (.int .i64 k)).setCell ⟨c, 1, none⟩ (.slice pa path.length pc)).setCell ⟨c, 4, none⟩ (.string l)) c ⟨k, path, d0.pos, d0.many, l⟩ pa pc := by
  obtain ⟨h0, h1, h2, h3, h4, hf, hb⟩ := h
  refine ⟨?_, ?_, ?_, ?_, ?_, fun o => ?_, plain_set1 (plain_set1 (plain_set1 hb))⟩ <;> go_simp
/-- One block alone has turned, some blocks may have come. -/
structure Off (c : Nat) (w w' : World) : Prop where
  size : w.heap.size ≤ w'.heap.size
  same : ∀ q, q < w.heap.size → q ≠ c → w'.heap[q]? = w.heap[q]?
theorem Off.refl (c : Nat) (w : World) : Off c w w := ⟨Nat.le_refl _, fun _ _ _ => rfl⟩
theorem Off.set {c o : Nat} {w w' : World} {v : Value} (h : Off c w w') : Off c w (w'.setCell ⟨c, o, none⟩ v) :=
  ⟨by simpa [World.setCell] using h.size, fun q hq hn => by rw [Below.heap_setCell _ _ _ _ hn]; exact h.same q hq hn⟩
theorem Off.below {c : Nat} {w w' w2 : World} (h : Off c w w') (hb : Below w'.heap.size w' w2) : Off c w w2 :=
  ⟨Nat.le_trans h.size hb.size, fun q hq hn => by rw [hb.block q (Nat.lt_of_lt_of_le hq h.size)]; exact h.same q hq hn⟩

/-- First a deed was noted in c, then the node n turned. -/
theorem turn_of {w w1 w2 w' : World} {n : Nd} {c : Nat} {x : It} {bk : Dd} {pa : Option Addr} {pc : Nat} (hm : NodIn w n) (hp : BPlain w n.b) (hk : FPlain w n.k) (hc : c < w.heap.size) (hne : n.b ≠ c) (o1 : FOff n.b x.2.2.2) (o2 : FOff c x.2.2.2)
    (b1 : Below w.heap.size w w1) (b2 : Off c w1 w2) (b2' : ∀ B, B ≤ c → B ≤ w1.heap.size → Below B w1 w2) (bi : BackIs w2 c bk pa pc) (pi : PIn w1 pa bk.path) (pn : ∀ a, pa = some a → w.heap.size ≤ a.block ∧ a.block < w1.heap.size) (pl : bk.path.length ≤ pc) (pm : pc ≤ maxLen) (bl : bk.lab.size ≤ maxLen)
    (b3 : Off n.b w2 w') (b3' : ∀ B, B ≤ n.b → B ≤ w2.heap.size → Below B w2 w') (b3c : ∀ o, o ≠ n.o → o ≠ n.o + 1 → w'.cell? ⟨n.b, o, none⟩ = w2.cell? ⟨n.b, o, none⟩) (b3p : BPlain w2 n.b → BPlain w' n.b) (new : NodIn w' (nSet x [] n))
    (kids : ∀ B, B ≤ w.heap.size → FFrom B n.k → FFrom B x.2.2.2) (kplain : FPlain w' x.2.2.2) (koff : ∀ c, c < w.heap.size → FOff c n.k → FOff c x.2.2.2) : Turn w w' n c x bk := by
  have hnl : n.b < w.heap.size := World.block_lt_of_cell? _ _ hm.c0
  have s1 := b1.size
  have s2 := b2.size
  have e12 : w2.heap[n.b]? = w.heap[n.b]? := by rw [b2.same n.b (by omega) hne, b1.block n.b hnl]
  have hcc : w'.heap[c]? = w2.heap[c]? := b3.same c (by omega) (by omega)
  refine ⟨fun B h1 h2 h3 => (b1.mono h3).trans ((b2' B h2 (by omega)).trans (b3' B h1 (by omega))), fun q hq h1 h2 => ?_, fun o h1 h2 => ?_, b3p ?_, new, kids, kplain, koff, pa, pc, bi.block hcc, ⟨?_, pl, pm, bl⟩, fun a ha => (pn a ha).1⟩
  · rw [b3.same q (by omega) h1, b2.same q (by omega) h2, b1.block q hq]
  · rw [b3c o h1 h2]
    exact World.cell?_of_block (w := w) (w' := w2) (a := ⟨n.b, o, none⟩) e12
  · obtain ⟨cs, e, h⟩ := hp
    exact ⟨cs, e, e12.trans h⟩
  · refine PIn.block pi fun a ha => ?_
    obtain ⟨l1, l2⟩ := pn a ha
    rw [b3.same a.block (by omega) (by omega), b2.same a.block l2 (by omega)]

/-- A node's own block has turned as told, and another one ahead of it: its kids are as they were. -/
theorem kids_two {w w1 w2 w' : World} {n : Nd} {c : Nat} {ka : Option Addr} {k : Fo} (hk : KIn w ka k) (hp : FPlain w k) (o1 : FOff n.b k) (o2 : FOff c k) (b1 : Below w.heap.size w w1) (b2 : Off c w1 w2) (b3 : Off n.b w2 w') : KIn w' ka k ∧ FPlain w' k := by
  refine ⟨?_, FPlain.but (g := n.b) b3.same o1 (FPlain.but (g := c) b2.same o2 (hp.below b1))⟩
  have hk' := hk.below b1
  rcases hk' with h | ⟨b, o, e, h⟩
  · exact Or.inl h
  · exact Or.inr ⟨b, o, e, FIn.but (g := n.b) b3.same o1 (FIn.but (g := c) b2.same o2 h)⟩


theorem items_bare : ∀ k : Fo, (itemsF k).map bareIt = gsF k
  | .nil => rfl
  | .node _ _ x k r => by simp [itemsF, gsF, bareIt, items_bare r]
theorem items_plain {w : World} : ∀ {k : Fo}, FPlain w k → ∀ it, it ∈ itemsF k → FPlain w it.2.2.2
  | .nil, _, it, h => by simp [itemsF] at h
  | .node _ _ x k r, ⟨_, h2, h3⟩, it, h => by
    simp only [itemsF, List.mem_cons] at h
    rcases h with rfl | h
    · exact h2
    · exact items_plain h3 it h
theorem items_from {B : Nat} : ∀ {k : Fo}, FFrom B k → ∀ it, it ∈ itemsF k → FFrom B it.2.2.2
  | .nil, _, it, h => by simp [itemsF] at h
  | .node _ _ x k r, ⟨_, h2, h3⟩, it, h => by
    simp only [itemsF, List.mem_cons] at h
    rcases h with rfl | h
    · exact h2
    · exact items_from h3 it h
theorem items_off {c : Nat} : ∀ {k : Fo}, FOff c k → ∀ it, it ∈ itemsF k → FOff c it.2.2.2
  | .nil, _, it, h => by simp [itemsF] at h
  | .node _ _ x k r, ⟨_, h2, h3⟩, it, h => by
    simp only [itemsF, List.mem_cons] at h
    rcases h with rfl | h
    · exact h2
    · exact items_off h3 it h
theorem items_in {w : World} {ka : Option Addr} {k : Fo} (h : KIn w ka k) : ∀ it, it ∈ itemsF k → ItIn w it := fun it hi => by
  rcases h with rfl | ⟨b, o, _, h⟩
  · simp [itemsF] at hi
  · exact h.items it hi
theorem off_drop {c : Nat} : ∀ (p : Nat) {k : Fo}, FOff c k → FOff c (fdrop p k)
  | 0, _, h => h
  | _ + 1, .nil, _ => trivial
  | p + 1, .node _ _ _ _ r, ⟨_, _, h3⟩ => off_drop p h3
theorem kid_off {c p : Nat} {k : Fo} {m : Nd} (h : FOff c k) (hk : kidN p k = some m) : FOff c m.k := by
  have := off_drop p h
  rw [(kidN_some hk).2] at this
  exact this.2.1
/-- A row of trees that a call owns, as a list of kids. -/
theorem row_kids {w : World} {H T : Nat} {v : Value} {L : List It} (hrow : w.ownsRow H T 2 v L.length (rowCells L)) (hit : ∀ it, it ∈ L → ItIn w it ∧ FPlain w it.2.2.2) :
    ∃ ka cap k', v = .slice ka (flen k') cap ∧ strip k' = toFo (L.map bareIt) ∧ flen k' ≤ cap ∧ cap ≤ maxLen ∧ KIn w ka k' ∧ FPlain w k' ∧ (∀ B, B ≤ H → (∀ it, it ∈ L → FFrom B it.2.2.2) → FFrom B k') ∧ (∀ c, c < H → (∀ it, it ∈ L → FOff c it.2.2.2) → FOff c k') ∧ ((k' = .nil ∧ L = []) ∨ ∃ g, H ≤ g ∧ ab k' = g :: L.flatMap (fun i => ab i.2.2.2)) := by
  rcases hrow.2 with ⟨hv, hn⟩ | ⟨g, cap, cur, hv, hg, hh, h1, h2, h3, h4⟩
  · have : L = [] := List.eq_nil_of_length_eq_zero hn
    subst this
    exact ⟨none, 0, .nil, by rw [hv]; rfl, rfl, Nat.le_refl _, Nat.zero_le _, Or.inl rfl, trivial, fun _ _ _ => trivial, fun _ _ _ => trivial, Or.inl ⟨rfl, rfl⟩⟩
  · refine ⟨some ⟨g, 0, none⟩, cap, place g 0 L, by rw [hv, flen_place], by rw [strip_place, strip_join], by rw [flen_place]; exact h1, h2, Or.inr ⟨g, 0, rfl, ?_⟩, place_plain ⟨_, _, hh⟩ L 0 fun i hi => (hit i hi).2, fun B hB hf => place_from (by omega) L 0 hf, fun c hc ho => place_off (by omega) L 0 ho, ?_⟩
    · have hr := hrow
      rw [hv] at hr
      exact place_in L 0 (fun i hi => (hit i hi).1) (ownsRow_cell hr)
    · cases L with
      | nil => exact Or.inl ⟨rfl, rfl⟩
      | cons a L =>
        refine Or.inr ⟨g, hg, ?_⟩
        unfold ab
        rw [lb_place]
        rfl
theorem rowCells_app : ∀ (a b : List It), rowCells (a ++ b) = rowCells a ++ rowCells b
  | [], b => rfl
  | x :: a, b => by simp [rowCells, rowCells_app a b]

theorem lb_items : ∀ k : Fo, lb k = (itemsF k).flatMap (fun i => ab i.2.2.2)
  | .nil => rfl
  | .node _ _ x k r => by
    simp only [lb, itemsF, List.flatMap_cons, lb_items r]
    rfl
/-- A new list among lists no two of which share memory. -/
theorem ins_nodup {k kN : Fo} {i n H g : Nat} {l : ByteArray} {va : Option Addr} {vc : Nat} {x : Fo} (hk : (lb k).Nodup) (hlt : ∀ q, q ∈ lb k → q < H) (hN : (kN = .nil ∧ ((itemsF k).drop i).take n = []) ∨ ∃ g3, H ≤ g3 ∧ g3 < g ∧ ab kN = g3 :: (((itemsF k).drop i).take n).flatMap (fun i => ab i.2.2.2)) (hg : H ≤ g)
    (hx : ab x = g :: ((itemsF k).take i ++ ((l, va, vc, kN) :: (itemsF k).drop (i + n))).flatMap (fun i => ab i.2.2.2)) : (ab x).Nodup := by
  obtain ⟨A, hA⟩ : ∃ A, A = ((itemsF k).take i).flatMap (fun i => ab i.2.2.2) := ⟨_, rfl⟩
  obtain ⟨B, hB⟩ : ∃ B, B = (((itemsF k).drop i).take n).flatMap (fun i => ab i.2.2.2) := ⟨_, rfl⟩
  obtain ⟨C, hC⟩ : ∃ C, C = ((itemsF k).drop (i + n)).flatMap (fun i => ab i.2.2.2) := ⟨_, rfl⟩
  have hall : lb k = A ++ (B ++ C) := by
    rw [lb_items, hA, hB, hC, ← List.flatMap_append, ← List.flatMap_append, ← List.drop_drop, List.take_append_drop, List.take_append_drop]
  rw [hall] at hk hlt
  rw [hx, List.flatMap_append, List.flatMap_cons, ← hA, ← hC]
  rcases hN with ⟨e1, e2⟩ | ⟨g3, h1, h2, e⟩
  · have hb0 : B = [] := by rw [hB, e2]; rfl
    rw [hb0] at hk hlt
    rw [e1]
    simp only [ab, hb, lb, List.nil_append, List.nodup_cons] at hk hlt ⊢
    exact ⟨fun h => by have := hlt g h; omega, hk⟩
  · simp only [e, ← hB]
    have hp : (A ++ ((g3 :: B) ++ C)).Perm (g3 :: (A ++ (B ++ C))) := by
      rw [List.cons_append]
      exact List.perm_middle
    rw [List.nodup_cons, hp.nodup_iff, List.nodup_cons]
    refine ⟨fun h => ?_, fun h => by have := hlt g3 h; omega, hk⟩
    rcases List.mem_cons.1 (hp.mem_iff.1 h) with h | h
    · omega
    · have := hlt g h
      omega

end Go.Proofs.Ytcknganggcbkjab.Deed
namespace Go.Proofs.Ytcknganggcbkjab.Deed
open Go.Deep Go.RowKit
set_option linter.unusedVariables false
set_option maxRecDepth 20000

/-- All done: what comes of it, and those that undo them, in the order in which they are to be done. -/
def fwd : List Dd → ByteArray × Fo → Option ((ByteArray × Fo) × List Dd)
  | [], t => some (t, [])
  | d :: l, t => if (doP d t.1 t.2).1 = 0 then (match fwd l (doP d t.1 t.2).2.1 with
      | none => none
      | some y => some (y.1, y.2 ++ [(doP d t.1 t.2).2.2])) else none
theorem fwd_cons {d : Dd} {l : List Dd} {t y : ByteArray × Fo} {bs : List Dd} (h : fwd (d :: l) t = some (y, bs)) : ∃ x b bs', doP d t.1 t.2 = (0, x, b) ∧ fwd l x = some (y, bs') ∧ bs = bs' ++ [b] := by
  unfold fwd at h
  split at h
  · rename_i h0
    cases hf : fwd l (doP d t.1 t.2).2.1 with
    | none => simp [hf] at h
    | some z =>
      simp only [hf, Option.some.injEq, Prod.mk.injEq] at h
      obtain ⟨rfl, rfl⟩ := h
      exact ⟨(doP d t.1 t.2).2.1, (doP d t.1 t.2).2.2, z.2, by rw [← h0], hf, rfl⟩
  · cases h
theorem fwd_of {d : Dd} {l : List Dd} {t x y : ByteArray × Fo} {b : Dd} {bs : List Dd} (h1 : doP d t.1 t.2 = (0, x, b)) (h2 : fwd l x = some (y, bs)) : fwd (d :: l) t = some (y, bs ++ [b]) := by
  unfold fwd
  rw [h1]
  simp [h2]
theorem fwd_append : ∀ {l1 l2 : List Dd} {t x y : ByteArray × Fo} {b1 b2 : List Dd}, fwd l1 t = some (x, b1) → fwd l2 x = some (y, b2) → fwd (l1 ++ l2) t = some (y, b2 ++ b1)
  | [], l2, t, x, y, b1, b2, h1, h2 => by
    simp only [fwd, Option.some.injEq, Prod.mk.injEq] at h1
    obtain ⟨rfl, rfl⟩ := h1
    simpa using h2
  | d :: l1, l2, t, x, y, b1, b2, h1, h2 => by
    obtain ⟨z, b, bs, e1, e2, rfl⟩ := fwd_cons h1
    rw [List.cons_append, fwd_of e1 (fwd_append e2 h2), List.append_assoc]
/-- All undone, it is as it was, and undone by just these deeds. -/
theorem fwd_back : ∀ {l : List Dd} {t y : ByteArray × Fo} {bs : List Dd}, Bare t.2 → fwd l t = some (y, bs) → Bare y.2 ∧ fwd bs y = some (t, l) ∧ bs.length = l.length
  | [], t, y, bs, hb, h => by
    simp only [fwd, Option.some.injEq, Prod.mk.injEq] at h
    obtain ⟨rfl, rfl⟩ := h
    exact ⟨hb, rfl, rfl⟩
  | d :: l, t, y, bs, hb, h => by
    obtain ⟨x, b, bs', e1, e2, rfl⟩ := fwd_cons h
    obtain ⟨q1, q2, q3⟩ := doP_back e1
    obtain ⟨r1, r2, r3⟩ := fwd_back q1 e2
    have hs : strip t.2 = t.2 := hb
    rw [hs] at q3
    have h1 : fwd [b] x = some (t, [d]) := fwd_of (x := t) (b := d) (bs := []) q3 rfl
    exact ⟨r1, fwd_append r2 h1, by simp [r3]⟩
/-- A code of the first that can't be done, and its number. -/
def badAt : List Dd → ByteArray × Fo → Nat → Option (Int × Nat)
  | [], _, _ => none
  | d :: l, t, i => if (doP d t.1 t.2).1 = 0 then badAt l (doP d t.1 t.2).2.1 (i + 1) else some ((doP d t.1 t.2).1, i)
theorem bad_or : ∀ (l : List Dd) (t : ByteArray × Fo) (i : Nat), (badAt l t i = none ∧ ∃ y, fwd l t = some y) ∨ (fwd l t = none ∧ ∃ c j, badAt l t i = some (c, j) ∧ c ≠ 0 ∧ i ≤ j ∧ j < i + l.length)
  | [], t, i => Or.inl ⟨rfl, _, rfl⟩
  | d :: l, t, i => by
    by_cases h : (doP d t.1 t.2).1 = 0
    · rcases bad_or l (doP d t.1 t.2).2.1 (i + 1) with ⟨h1, y, h2⟩ | ⟨h1, c, j, h2, h3, h4, h5⟩
      · exact Or.inl ⟨by rw [badAt, if_pos h]; exact h1, _, fwd_of (by rw [← h]) h2⟩
      · refine Or.inr ⟨by rw [fwd, if_pos h, h1], c, j, by rw [badAt, if_pos h]; exact h2, h3, by omega, ?_⟩
        simp only [List.length_cons]
        omega
    · exact Or.inr ⟨by rw [fwd, if_neg h], _, i, by rw [badAt, if_neg h], h, Nat.le_refl _, by simp⟩
end Go.Proofs.Ytcknganggcbkjab.Deed
namespace Go.Proofs.Ytcknganggcbkjab.Deed
open Go.Deep Go.RowKit
set_option linter.unusedVariables false
set_option maxRecDepth 20000

theorem fwd_snoc {l : List Dd} {t x y : ByteArray × Fo} {bs : List Dd} {d b : Dd} (h : fwd l t = some (x, bs)) (h1 : doP d x.1 x.2 = (0, y, b)) : fwd (l ++ [d]) t = some (y, b :: bs) := by
  have h2 : fwd [d] x = some (y, [b]) := fwd_of (bs := []) h1 rfl
  simpa using fwd_append h h2
theorem bad_append : ∀ {l1 : List Dd} (l2 : List Dd) {t x : ByteArray × Fo} {bs : List Dd} (i : Nat), fwd l1 t = some (x, bs) → badAt (l1 ++ l2) t i = badAt l2 x (i + l1.length)
  | [], l2, t, x, bs, i, h => by
    simp only [fwd, Option.some.injEq, Prod.mk.injEq] at h
    obtain ⟨rfl, rfl⟩ := h
    rfl
  | d :: l1, l2, t, x, bs, i, h => by
    obtain ⟨z, b, bs', e1, e2, rfl⟩ := fwd_cons h
    rw [List.cons_append, badAt, e1, if_pos rfl, bad_append l2 (i + 1) e2, List.length_cons]
    congr 1
    omega
theorem fwd_len : ∀ {l : List Dd} {t x : ByteArray × Fo} {bs : List Dd}, fwd l t = some (x, bs) → bs.length = l.length
  | [], t, x, bs, h => by
    simp only [fwd, Option.some.injEq, Prod.mk.injEq] at h
    obtain ⟨rfl, rfl⟩ := h
    rfl
  | d :: l, t, x, bs, h => by
    obtain ⟨z, b, bs', e1, e2, rfl⟩ := fwd_cons h
    simp [fwd_len e2]

def noT : ByteArray × Fo := (⟨#[]⟩, .nil)
def runP (l : List Dd) (s : ByteArray) (k : Fo) : (Int × Int) × (ByteArray × Fo) × List Dd :=
  if faultT s k = 0 then
    if l.length ≤ 80 then
      match badAt l (s, strip k) 0 with
      | some (c, j) => ((c, (j : Int)), noT, [])
      | none => match fwd l (s, strip k) with
        | none => ((0, 0), noT, [])
        | some y => ((0, 0), y.1, y.2)
    else ((2, -1), noT, [])
  else ((faultT s k, -1), noT, [])
theorem runP_fault {l : List Dd} {s : ByteArray} {k : Fo} (h : faultT s k ≠ 0) : runP l s k = ((faultT s k, -1), noT, []) := by
  unfold runP; rw [if_neg h]
theorem runP_many {l : List Dd} {s : ByteArray} {k : Fo} (h : faultT s k = 0) (hl : 80 < l.length) : runP l s k = ((2, -1), noT, []) := by
  unfold runP; rw [if_pos h, if_neg (by omega)]
theorem runP_stop {l : List Dd} {s : ByteArray} {k : Fo} (h : faultT s k = 0) (hl : l.length ≤ 80) {i : Nat} {x : ByteArray × Fo} {bs : List Dd} (hf : fwd (l.take i) (s, strip k) = some (x, bs)) {d : Dd} (hd : l[i]? = some d) (hc : (doP d x.1 x.2).1 ≠ 0) : runP l s k = (((doP d x.1 x.2).1, (i : Int)), noT, []) := by
  have hlt := (List.getElem?_eq_some_iff.1 hd).1
  have hb : badAt l (s, strip k) 0 = some ((doP d x.1 x.2).1, i) := by
    have h1 : l = l.take i ++ (d :: l.drop (i + 1)) := by
      conv => lhs; rw [← List.take_append_drop i l]
      rw [List.drop_eq_getElem_cons hlt]
      congr 2
      obtain ⟨_, e⟩ := List.getElem?_eq_some_iff.1 hd
      exact e
    rw [h1, bad_append _ 0 hf, badAt, if_neg hc]
    simp
    omega
  unfold runP
  rw [if_pos h, if_pos hl, hb]
theorem runP_end {l : List Dd} {s : ByteArray} {k : Fo} (h : faultT s k = 0) (hl : l.length ≤ 80) {x : ByteArray × Fo} {bs : List Dd} (hf : fwd l (s, strip k) = some (x, bs)) : runP l s k = ((0, 0), x, bs) := by
  have hb : badAt l (s, strip k) 0 = none := by
    rcases bad_or l (s, strip k) 0 with ⟨h1, _⟩ | ⟨h1, _⟩
    · exact h1
    · rw [h1] at hf; cases hf
  unfold runP
  rw [if_pos h, if_pos hl, hb, hf]
theorem runP_congr (l : List Dd) (s : ByteArray) {k k' : Fo} (h : strip k = strip k') : runP l s k = runP l s k' := by
  unfold runP
  rw [← faultT_strip s k, h, faultT_strip]
/-- One deed more. -/
theorem fwd_take {l : List Dd} {t x : ByteArray × Fo} {bs : List Dd} {i : Nat} (hf : fwd (l.take i) t = some (x, bs)) {d : Dd} (hd : l[i]? = some d) (hc : (doP d x.1 x.2).1 = 0) : fwd (l.take (i + 1)) t = some ((doP d x.1 x.2).2.1, (doP d x.1 x.2).2.2 :: bs) := by
  have hlt := (List.getElem?_eq_some_iff.1 hd).1
  rw [List.take_succ_eq_append_getElem hlt, show l[i] = d by obtain ⟨_, e⟩ := List.getElem?_eq_some_iff.1 hd; exact e]
  exact fwd_snoc hf (by rw [← hc])
/-- What comes of a deed is a tree. -/
theorem doP_tree {d : Dd} {s : ByteArray} {k : Fo} (h : (doP d s k).1 = 0) : faultT (doP d s k).2.1.1 (doP d s k).2.1.2 = 0 := by
  by_cases h1 : faultT s k = 0
  · by_cases h2 : deedFault d = 0
    · by_cases h3 : (doneP d s k).1 = 0
      · by_cases h4 : faultT (doneP d s k).2.1 (doneP d s k).2.2 = 0
        · have e : doP d s k = (0, (doneP d s k).2, backP d s k) := by
            unfold doP
            rw [if_neg (by simp [h1]), if_neg (by simp [h2]), if_neg (by simp [h3]), if_neg (by simp [h4])]
          rw [e]
          exact h4
        · exfalso
          unfold doP at h
          rw [if_neg (by simp [h1]), if_neg (by simp [h2]), if_neg (by simp [h3]), if_pos h4] at h
          exact h4 h
      · exfalso
        unfold doP at h
        rw [if_neg (by simp [h1]), if_neg (by simp [h2]), if_pos h3] at h
        exact h3 h
    · exfalso
      unfold doP at h
      rw [if_neg (by simp [h1]), if_pos h2] at h
      exact h2 h
  · exfalso
    unfold doP at h
    rw [if_pos h1] at h
    exact h1 h
theorem fwd_tree : ∀ {l : List Dd} {t x : ByteArray × Fo} {bs : List Dd}, faultT t.1 t.2 = 0 → fwd l t = some (x, bs) → faultT x.1 x.2 = 0
  | [], t, x, bs, h0, h => by
    simp only [fwd, Option.some.injEq, Prod.mk.injEq] at h
    obtain ⟨rfl, rfl⟩ := h
    exact h0
  | d :: l, t, x, bs, h0, h => by
    obtain ⟨z, b, bs', e1, e2, rfl⟩ := fwd_cons h
    refine fwd_tree ?_ e2
    have := doP_tree (d := d) (s := t.1) (k := t.2) (by rw [e1])
    rw [e1] at this
    exact this
end Go.Proofs.Ytcknganggcbkjab.Deed
