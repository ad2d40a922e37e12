/- What is left in memory when a node has turned in its place and the deed that undoes it is noted. Of no program. -/
/- What change of package deed comes to: a deed done in place, and the deed that undoes it. Of no program. -/
/- at of package deed: the node at a path is found, and looked at; or there is none. Of the program's text. -/
import Derived.Test.YtpgiagkbfnbgkabGMem
import Derived.Test.YtpgiagkbfnbgkabDeedRef
import Derived.Test.YtpgiagkbfnbgkabProg
import Derived.Test.YtpgiagkbfnbgkabPathIn
import Derived.Deep.LoopGhost
import Derived.WalkSmall
namespace Go.Proofs.Ytpgiagkbfnbgkab.Deed
open Go.Deep Go.RowKit
set_option linter.unusedVariables false
set_option maxRecDepth 20000

/-- A deed in a block of its own. -/
structure BackIs (w : World) (c : Nat) (d : Dd) (pa : Option Addr) (pc : Nat) : Prop where
  c0 : w.cell? ⟨c, 0, none⟩ = some (.int .i64 d.kind)
  c1 : w.cell? ⟨c, 1, none⟩ = some (.slice pa d.path.length pc)
  c2 : w.cell? ⟨c, 2, none⟩ = some (.int .i64 d.pos)
  c3 : w.cell? ⟨c, 3, none⟩ = some (.int .i64 d.many)
  c4 : w.cell? ⟨c, 4, none⟩ = some (.string d.lab)
  fr : ∀ o, w.frozen? ⟨c, o, none⟩ = false
  blk : BPlain w c
theorem BackIs.of {w : World} {c T : Nat} {d : Dd} {pa : Option Addr} {pc : Nat} (h : w.heap[c]? = some (Obj.cells #[.int .i64 d.kind, .slice pa d.path.length pc, .int .i64 d.pos, .int .i64 d.many, .string d.lab] T)) : BackIs w c d pa pc := by
  refine ⟨?_, ?_, ?_, ?_, ?_, fun o => by simp [World.frozen?, h], ⟨_, _, h⟩⟩
  · rw [cell_of_row _ _ 0 _ _ _ h]; rfl
  · rw [cell_of_row _ _ 1 _ _ _ h]; rfl
  · rw [cell_of_row _ _ 2 _ _ _ h]; rfl
  · rw [cell_of_row _ _ 3 _ _ _ h]; rfl
  · rw [cell_of_row _ _ 4 _ _ _ h]; rfl
theorem BackIs.block {w w' : World} {c : Nat} {d : Dd} {pa : Option Addr} {pc : Nat} (h : BackIs w c d pa pc) (hb : w'.heap[c]? = w.heap[c]?) : BackIs w' c d pa pc :=
  ⟨by rw [World.cell?_of_block (w := w) hb]; exact h.c0, by rw [World.cell?_of_block (w := w) hb]; exact h.c1, by rw [World.cell?_of_block (w := w) hb]; exact h.c2, by rw [World.cell?_of_block (w := w) hb]; exact h.c3, by rw [World.cell?_of_block (w := w) hb]; exact h.c4, fun o => by rw [World.frozen?_of_block (w := w) hb]; exact h.fr o, by obtain ⟨cs, e, h'⟩ := h.blk; exact ⟨cs, e, by rw [hb]; exact h'⟩⟩
theorem BackIs.lt {w : World} {c : Nat} {d : Dd} {pa : Option Addr} {pc : Nat} (h : BackIs w c d pa pc) : c < w.heap.size := World.block_lt_of_cell? _ _ h.c0

def noDd : Dd := ⟨0, [], 0, 0, ⟨#[]⟩⟩

/-- The node n has turned to x, and the deed bk is noted in block c; all else that there was is as it was. -/
structure Turn (w w' : World) (n : Nd) (c : Nat) (x : It) (bk : Dd) : Prop where
  keep : ∀ B, B ≤ n.b → B ≤ c → B ≤ w.heap.size → Below B w w'
  same : ∀ q, q < w.heap.size → q ≠ n.b → q ≠ c → w'.heap[q]? = w.heap[q]?
  cell : ∀ o, o ≠ n.o → o ≠ n.o + 1 → w'.cell? ⟨n.b, o, none⟩ = w.cell? ⟨n.b, o, none⟩
  plain : BPlain w' n.b
  new : NodIn w' (nSet x [] n)
  kids : ∀ B, B ≤ w.heap.size → FFrom B n.k → FFrom B x.2.2.2
  kplain : FPlain w' x.2.2.2
  koff : ∀ c, c < w.heap.size → FOff c n.k → FOff c x.2.2.2
  back : ∃ pa pc, BackIs w' c bk pa pc ∧ DIn w' bk pa pc ∧ ∀ a, pa = some a → w.heap.size ≤ a.block

/-- Some blocks are as they were. -/
structure Kp (L : List Nat) (w w' : World) : Prop where
  size : w.heap.size ≤ w'.heap.size
  lt : ∀ q, q ∈ L → q < w.heap.size
  same : ∀ q, q ∈ L → w'.heap[q]? = w.heap[q]?
theorem Kp.refl {L : List Nat} {w : World} (h : ∀ q, q ∈ L → q < w.heap.size) : Kp L w w := ⟨Nat.le_refl _, h, fun _ _ => rfl⟩
theorem Kp.set {L : List Nat} {w w' : World} {c o : Nat} {v : Value} (h : Kp L w w') (hc : ¬ c ∈ L) : Kp L w (w'.setCell ⟨c, o, none⟩ v) :=
  ⟨by simpa [World.setCell] using h.size, h.lt, fun q hq => by rw [Below.heap_setCell _ _ _ _ (fun e => hc (by have e' : q = c := e; rw [← e']; exact hq))]; exact h.same q hq⟩
theorem Kp.alloc {L : List Nat} {w w' : World} {ob : Obj} (h : Kp L w w') : Kp L w (w'.alloc ob) :=
  ⟨by have := h.size; simp; omega, h.lt, fun q hq => by rw [Below.heap_alloc _ _ _ (Nat.lt_of_lt_of_le (h.lt q hq) h.size)]; exact h.same q hq⟩
theorem Kp.drew {L : List Nat} {w w' : World} (h : Kp L w w') : Kp L w w'.drew := ⟨h.size, h.lt, h.same⟩
theorem Kp.below {L : List Nat} {w w' w2 : World} (h : Kp L w w') (hb : Below w'.heap.size w' w2) : Kp L w w2 :=
  ⟨Nat.le_trans h.size hb.size, h.lt, fun q hq => by rw [hb.block q (Nat.lt_of_lt_of_le (h.lt q hq) h.size)]; exact h.same q hq⟩
theorem Kp.cell {L : List Nat} {w w' : World} (h : Kp L w w') {q o : Nat} {v : Value} (hq : q ∈ L) (hv : w.cell? ⟨q, o, none⟩ = some v) : w'.cell? ⟨q, o, none⟩ = some v := by
  rw [World.cell?_of_block (w := w) (h.same q hq)]
  exact hv
theorem Kp.frozen {L : List Nat} {w w' : World} (h : Kp L w w') {q o : Nat} {v : Bool} (hq : q ∈ L) (hv : w.frozen? ⟨q, o, none⟩ = v) : w'.frozen? ⟨q, o, none⟩ = v := by
  rw [World.frozen?_of_block (w := w) (h.same q hq)]
  exact hv

theorem cellN {w w' : World} {b o : Nat} {v : Value} (hb : w'.heap[b]? = w.heap[b]?) (h : w.cell? ⟨b, o, none⟩ = some v) : w'.cell? ⟨b, o, none⟩ = some v := by
  rw [World.cell?_of_block (w := w) hb]
  exact h
theorem cset_same {w : World} {a : Addr} {v u : Value} (h : w.cell? a = some u) : (w.setCell a v).cell? a = some v := World.cell?_setCell_same' w a v (by rw [h]; rfl)
theorem cset_other {w : World} {b o o' : Nat} {v : Value} (h : o' ≠ o) : (w.setCell ⟨b, o, none⟩ v).cell? ⟨b, o', none⟩ = w.cell? ⟨b, o', none⟩ := by
  apply World.cell?_setCell_other
  intro e
  injection e with _ e
  omega
theorem PIn.block {w w' : World} {pa : Option Addr} {l : List Int} (h : PIn w pa l) (hb : ∀ a, pa = some a → w'.heap[a.block]? = w.heap[a.block]?) : PIn w' pa l := by
  rcases h with h | ⟨b, o, e, h⟩
  · exact Or.inl h
  · refine Or.inr ⟨b, o, e, fun i p hp => ?_⟩
    exact cellN (b := b) (hb _ e) (h i p hp)
theorem plain_set1 {w : World} {b o : Nat} {v : Value} (h : BPlain w b) : BPlain (w.setCell ⟨b, o, none⟩ v) b := by
  obtain ⟨c, e, h⟩ := h
  refine ⟨c.setIfInBounds o v, e, ?_⟩
  simp [World.setCell, Array.getElem?_modify, h]
/-- A cell that is written as it is. -/
theorem setCell_self {w : World} {b o : Nat} {v : Value} (hp : BPlain w b) (h : w.cell? ⟨b, o, none⟩ = some v) : w.setCell ⟨b, o, none⟩ v = w := by
  obtain ⟨cs, e, hb⟩ := hp
  rw [cell_of_row _ _ o _ _ _ hb] at h
  have hh : (w.setCell ⟨b, o, none⟩ v).heap = w.heap := by
    apply Array.ext_getElem?
    intro j
    by_cases hj : j = b
    · subst hj
      simp only [World.setCell, Array.getElem?_modify, if_true, hb, Option.map_some, Option.isSome_none, Bool.false_eq_true, if_false]
      congr 2
      apply Array.ext_getElem?
      intro l
      by_cases hl : l = o
      · subst hl
        have hlt : l < cs.size := (Array.getElem?_eq_some_iff.1 h).1
        rw [Array.getElem?_setIfInBounds_self_of_lt hlt, h]
      · rw [Array.getElem?_setIfInBounds_ne (by omega)]
    · exact Below.heap_setCell _ _ _ _ hj
  show ({ w with heap := (w.setCell ⟨b, o, none⟩ v).heap } : World) = w
  rw [hh]
theorem set5 {w : World} {c : Nat} {d0 : Dd} {pa0 : Option Addr} {pc0 : Nat} (h : BackIs w c d0 pa0 pc0) (d : Dd) (pa : Option Addr) (pc : Nat) :
    BackIs (((((w.setCell ⟨c, 0, none⟩ (.int .i64 d.kind)).setCell ⟨c, 1, none⟩ (.slice pa d.path.length pc)).setCell ⟨c, 2, none⟩ (.int .i64 d.pos)).setCell ⟨c, 3, none⟩ (.int .i64 d.many)).setCell ⟨c, 4, none⟩ (.string d.lab)) c d pa pc := by
  obtain ⟨h0, h1, h2, h3, h4, hf, hb⟩ := h
  refine ⟨?_, ?_, ?_, ?_, ?_, fun o => ?_, plain_set1 (plain_set1 (plain_set1 (plain_set1 (plain_set1 hb))))⟩ <;> go_simp
theorem set3 {w : World} {c : Nat} {d0 : Dd} {pa0 : Option Addr} {pc0 : Nat} (h : BackIs w c d0 pa0 pc0) (k : Int) (path : List Int) (l : ByteArray) (pa : Option Addr) (pc : Nat) :
    BackIs (((w.setCell ⟨c, 0, none⟩ (.int .i64 k)).setCell ⟨c, 1, none⟩ (.slice pa path.length pc)).setCell ⟨c, 4, none⟩ (.string l)) c ⟨k, path, d0.pos, d0.many, l⟩ pa pc := by
  obtain ⟨h0, h1, h2, h3, h4, hf, hb⟩ := h
  refine ⟨?_, ?_, ?_, ?_, ?_, fun o => ?_, plain_set1 (plain_set1 (plain_set1 hb))⟩ <;> go_simp
/-- One block alone has turned, some blocks may have come. -/
structure Off (c : Nat) (w w' : World) : Prop where
  size : w.heap.size ≤ w'.heap.size
  same : ∀ q, q < w.heap.size → q ≠ c → w'.heap[q]? = w.heap[q]?
theorem Off.refl (c : Nat) (w : World) : Off c w w := ⟨Nat.le_refl _, fun _ _ _ => rfl⟩
theorem Off.set {c o : Nat} {w w' : World} {v : Value} (h : Off c w w') : Off c w (w'.setCell ⟨c, o, none⟩ v) :=
  ⟨by simpa [World.setCell] using h.size, fun q hq hn => by rw [Below.heap_setCell _ _ _ _ hn]; exact h.same q hq hn⟩
theorem Off.below {c : Nat} {w w' w2 : World} (h : Off c w w') (hb : Below w'.heap.size w' w2) : Off c w w2 :=
  ⟨Nat.le_trans h.size hb.size, fun q hq hn => by rw [hb.block q (Nat.lt_of_lt_of_le hq h.size)]; exact h.same q hq hn⟩

/-- First a deed was noted in c, then the node n turned. -/
theorem turn_of {w w1 w2 w' : World} {n : Nd} {c : Nat} {x : It} {bk : Dd} {pa : Option Addr} {pc : Nat} (hm : NodIn w n) (hp : BPlain w n.b) (hk : FPlain w n.k) (hc : c < w.heap.size) (hne : n.b ≠ c) (o1 : FOff n.b x.2.2.2) (o2 : FOff c x.2.2.2)
    (b1 : Below w.heap.size w w1) (b2 : Off c w1 w2) (b2' : ∀ B, B ≤ c → B ≤ w1.heap.size → Below B w1 w2) (bi : BackIs w2 c bk pa pc) (pi : PIn w1 pa bk.path) (pn : ∀ a, pa = some a → w.heap.size ≤ a.block ∧ a.block < w1.heap.size) (pl : bk.path.length ≤ pc) (pm : pc ≤ maxLen) (bl : bk.lab.size ≤ maxLen)
    (b3 : Off n.b w2 w') (b3' : ∀ B, B ≤ n.b → B ≤ w2.heap.size → Below B w2 w') (b3c : ∀ o, o ≠ n.o → o ≠ n.o + 1 → w'.cell? ⟨n.b, o, none⟩ = w2.cell? ⟨n.b, o, none⟩) (b3p : BPlain w2 n.b → BPlain w' n.b) (new : NodIn w' (nSet x [] n))
    (kids : ∀ B, B ≤ w.heap.size → FFrom B n.k → FFrom B x.2.2.2) (kplain : FPlain w' x.2.2.2) (koff : ∀ c, c < w.heap.size → FOff c n.k → FOff c x.2.2.2) : Turn w w' n c x bk := by
  have hnl : n.b < w.heap.size := World.block_lt_of_cell? _ _ hm.c0
  have s1 := b1.size
  have s2 := b2.size
  have e12 : w2.heap[n.b]? = w.heap[n.b]? := by rw [b2.same n.b (by omega) hne, b1.block n.b hnl]
  have hcc : w'.heap[c]? = w2.heap[c]? := b3.same c (by omega) (by omega)
  refine ⟨fun B h1 h2 h3 => (b1.mono h3).trans ((b2' B h2 (by omega)).trans (b3' B h1 (by omega))), fun q hq h1 h2 => ?_, fun o h1 h2 => ?_, b3p ?_, new, kids, kplain, koff, pa, pc, bi.block hcc, ⟨?_, pl, pm, bl⟩, fun a ha => (pn a ha).1⟩
  · rw [b3.same q (by omega) h1, b2.same q (by omega) h2, b1.block q hq]
  · rw [b3c o h1 h2]
    exact World.cell?_of_block (w := w) (w' := w2) (a := ⟨n.b, o, none⟩) e12
  · obtain ⟨cs, e, h⟩ := hp
    exact ⟨cs, e, e12.trans h⟩
  · refine PIn.block pi fun a ha => ?_
    obtain ⟨l1, l2⟩ := pn a ha
    rw [b3.same a.block (by omega) (by omega), b2.same a.block l2 (by omega)]

/-- A node's own block has turned as told, and another one ahead of it: its kids are as they were. -/
theorem kids_two {w w1 w2 w' : World} {n : Nd} {c : Nat} {ka : Option Addr} {k : Fo} (hk : KIn w ka k) (hp : FPlain w k) (o1 : FOff n.b k) (o2 : FOff c k) (b1 : Below w.heap.size w w1) (b2 : Off c w1 w2) (b3 : Off n.b w2 w') : KIn w' ka k ∧ FPlain w' k := by
  refine ⟨?_, FPlain.but (g := n.b) b3.same o1 (FPlain.but (g := c) b2.same o2 (hp.below b1))⟩
  have hk' := hk.below b1
  rcases hk' with h | ⟨b, o, e, h⟩
  · exact Or.inl h
  · exact Or.inr ⟨b, o, e, FIn.but (g := n.b) b3.same o1 (FIn.but (g := c) b2.same o2 h)⟩


theorem items_bare : ∀ k : Fo, (itemsF k).map bareIt = gsF k
  | .nil => rfl
  | .node _ _ x k r => by simp [itemsF, gsF, bareIt, items_bare r]
theorem items_plain {w : World} : ∀ {k : Fo}, FPlain w k → ∀ it, it ∈ itemsF k → FPlain w it.2.2.2
  | .nil, _, it, h => by simp [itemsF] at h
  | .node _ _ x k r, ⟨_, h2, h3⟩, it, h => by
    simp only [itemsF, List.mem_cons] at h
    rcases h with rfl | h
    · exact h2
    · exact items_plain h3 it h
theorem items_from {B : Nat} : ∀ {k : Fo}, FFrom B k → ∀ it, it ∈ itemsF k → FFrom B it.2.2.2
  | .nil, _, it, h => by simp [itemsF] at h
  | .node _ _ x k r, ⟨_, h2, h3⟩, it, h => by
    simp only [itemsF, List.mem_cons] at h
    rcases h with rfl | h
    · exact h2
    · exact items_from h3 it h
theorem items_off {c : Nat} : ∀ {k : Fo}, FOff c k → ∀ it, it ∈ itemsF k → FOff c it.2.2.2
  | .nil, _, it, h => by simp [itemsF] at h
  | .node _ _ x k r, ⟨_, h2, h3⟩, it, h => by
    simp only [itemsF, List.mem_cons] at h
    rcases h with rfl | h
    · exact h2
    · exact items_off h3 it h
theorem items_in {w : World} {ka : Option Addr} {k : Fo} (h : KIn w ka k) : ∀ it, it ∈ itemsF k → ItIn w it := fun it hi => by
  rcases h with rfl | ⟨b, o, _, h⟩
  · simp [itemsF] at hi
  · exact h.items it hi
theorem off_drop {c : Nat} : ∀ (p : Nat) {k : Fo}, FOff c k → FOff c (fdrop p k)
  | 0, _, h => h
  | _ + 1, .nil, _ => trivial
  | p + 1, .node _ _ _ _ r, ⟨_, _, h3⟩ => off_drop p h3
theorem kid_off {c p : Nat} {k : Fo} {m : Nd} (h : FOff c k) (hk : kidN p k = some m) : FOff c m.k := by
  have := off_drop p h
  rw [(kidN_some hk).2] at this
  exact this.2.1
/-- A row of trees that a call owns, as a list of kids. -/
theorem row_kids {w : World} {H T : Nat} {v : Value} {L : List It} (hrow : w.ownsRow H T 2 v L.length (rowCells L)) (hit : ∀ it, it ∈ L → ItIn w it ∧ FPlain w it.2.2.2) :
    ∃ ka cap k', v = .slice ka (flen k') cap ∧ strip k' = toFo (L.map bareIt) ∧ flen k' ≤ cap ∧ cap ≤ maxLen ∧ KIn w ka k' ∧ FPlain w k' ∧ (∀ B, B ≤ H → (∀ it, it ∈ L → FFrom B it.2.2.2) → FFrom B k') ∧ (∀ c, c < H → (∀ it, it ∈ L → FOff c it.2.2.2) → FOff c k') ∧ ((k' = .nil ∧ L = []) ∨ ∃ g, H ≤ g ∧ ab k' = g :: L.flatMap (fun i => ab i.2.2.2)) := by
  rcases hrow.2 with ⟨hv, hn⟩ | ⟨g, cap, cur, hv, hg, hh, h1, h2, h3, h4⟩
  · have : L = [] := List.eq_nil_of_length_eq_zero hn
    subst this
    exact ⟨none, 0, .nil, by rw [hv]; rfl, rfl, Nat.le_refl _, Nat.zero_le _, Or.inl rfl, trivial, fun _ _ _ => trivial, fun _ _ _ => trivial, Or.inl ⟨rfl, rfl⟩⟩
  · refine ⟨some ⟨g, 0, none⟩, cap, place g 0 L, by rw [hv, flen_place], by rw [strip_place, strip_join], by rw [flen_place]; exact h1, h2, Or.inr ⟨g, 0, rfl, ?_⟩, place_plain ⟨_, _, hh⟩ L 0 fun i hi => (hit i hi).2, fun B hB hf => place_from (by omega) L 0 hf, fun c hc ho => place_off (by omega) L 0 ho, ?_⟩
    · have hr := hrow
      rw [hv] at hr
      exact place_in L 0 (fun i hi => (hit i hi).1) (ownsRow_cell hr)
    · cases L with
      | nil => exact Or.inl ⟨rfl, rfl⟩
      | cons a L =>
        refine Or.inr ⟨g, hg, ?_⟩
        unfold ab
        rw [lb_place]
        rfl
theorem rowCells_app : ∀ (a b : List It), rowCells (a ++ b) = rowCells a ++ rowCells b
  | [], b => rfl
  | x :: a, b => by simp [rowCells, rowCells_app a b]

theorem lb_items : ∀ k : Fo, lb k = (itemsF k).flatMap (fun i => ab i.2.2.2)
  | .nil => rfl
  | .node _ _ x k r => by
    simp only [lb, itemsF, List.flatMap_cons, lb_items r]
    rfl
/-- A new list among lists no two of which share memory. -/
theorem ins_nodup {k kN : Fo} {i n H g : Nat} {l : ByteArray} {va : Option Addr} {vc : Nat} {x : Fo} (hk : (lb k).Nodup) (hlt : ∀ q, q ∈ lb k → q < H) (hN : (kN = .nil ∧ ((itemsF k).drop i).take n = []) ∨ ∃ g3, H ≤ g3 ∧ g3 < g ∧ ab kN = g3 :: (((itemsF k).drop i).take n).flatMap (fun i => ab i.2.2.2)) (hg : H ≤ g)
    (hx : ab x = g :: ((itemsF k).take i ++ ((l, va, vc, kN) :: (itemsF k).drop (i + n))).flatMap (fun i => ab i.2.2.2)) : (ab x).Nodup := by
  obtain ⟨A, hA⟩ : ∃ A, A = ((itemsF k).take i).flatMap (fun i => ab i.2.2.2) := ⟨_, rfl⟩
  obtain ⟨B, hB⟩ : ∃ B, B = (((itemsF k).drop i).take n).flatMap (fun i => ab i.2.2.2) := ⟨_, rfl⟩
  obtain ⟨C, hC⟩ : ∃ C, C = ((itemsF k).drop (i + n)).flatMap (fun i => ab i.2.2.2) := ⟨_, rfl⟩
  have hall : lb k = A ++ (B ++ C) := by
    rw [lb_items, hA, hB, hC, ← List.flatMap_append, ← List.flatMap_append, ← List.drop_drop, List.take_append_drop, List.take_append_drop]
  rw [hall] at hk hlt
  rw [hx, List.flatMap_append, List.flatMap_cons, ← hA, ← hC]
  rcases hN with ⟨e1, e2⟩ | ⟨g3, h1, h2, e⟩
  · have hb0 : B = [] := by rw [hB, e2]; rfl
    rw [hb0] at hk hlt
    rw [e1]
    simp only [ab, hb, lb, List.nil_append, List.nodup_cons] at hk hlt ⊢
    exact ⟨fun h => by have := hlt g h; omega, hk⟩
  · simp only [e, ← hB]
    have hp : (A ++ ((g3 :: B) ++ C)).Perm (g3 :: (A ++ (B ++ C))) := by
      rw [List.cons_append]
      exact List.perm_middle
    rw [List.nodup_cons, hp.nodup_iff, List.nodup_cons]
    refine ⟨fun h => ?_, fun h => by have := hlt g3 h; omega, hk⟩
    rcases List.mem_cons.1 (hp.mem_iff.1 h) with h | h
    · omega
    · have := hlt g h
      omega

end Go.Proofs.Ytpgiagkbfnbgkab.Deed
namespace Go.Proofs.Ytpgiagkbfnbgkab.Deed
open Go.Deep Go.RowKit
set_option linter.unusedVariables false
set_option maxRecDepth 20000

theorem plain_turn {w w' : World} {c : Nat} (h : ∀ q, BPlain w q → q ≠ c → BPlain w' q) : ∀ {f : Fo}, FPlain w f → FOff c f → FPlain w' f
  | .nil, _, _ => trivial
  | .node _ _ _ _ _, ⟨h1, h2, h3⟩, ⟨g1, g2, g3⟩ => ⟨h _ h1 g1, plain_turn h h2 g2, plain_turn h h3 g3⟩
theorem off_put {c : Nat} {m : Nd} (hm : FOff c m.k) : ∀ (p : Nat) {k : Fo}, FOff c k → FOff c (fput m p k)
  | 0, .nil, _ => trivial
  | _ + 1, .nil, _ => trivial
  | 0, .node _ _ _ _ _, ⟨h1, _, h3⟩ => ⟨h1, hm, h3⟩
  | p + 1, .node _ _ _ _ r, ⟨h1, h2, h3⟩ => ⟨h1, h2, off_put hm p h3⟩
theorem off_set {c : Nat} {x : It} : ∀ (ps : List Nat) {n m : Nd}, nAt ps n = some m → (FOff c m.k → FOff c x.2.2.2) → FOff c n.k → FOff c (nSet x ps n).k
  | [], n, m, ha, hx, h => by
    simp only [nAt, Option.some.injEq] at ha
    subst ha
    exact hx h
  | p :: ps, n, m, ha, hx, h => by
    unfold nAt at ha
    cases hk : kidN p n.k with
    | none => rw [hk] at ha; cases ha
    | some m' =>
      rw [hk] at ha
      rw [nSet_cons hk]
      exact off_put (off_set ps ha hx (kid_off h hk)) p h
theorem turn_root {w w' : World} {n m : Nd} {c : Nat} {x : It} {bk : Dd} {ps : List Nat} (h : NodIn w n) (h1 : NodOne n) (hp : BPlain w n.b) (hk : FPlain w n.k) (ha : nAt ps n = some m) (hc : c ≠ n.b) (ho : FOff c n.k) (hcl : c < w.heap.size) (t : Turn w w' m c x bk) :
    NodIn w' (nSet x ps n) ∧ FPlain w' (nSet x ps n).k ∧ (∀ B, B ≤ w.heap.size → B ≤ n.b → B ≤ c → FFrom B n.k → FFrom B (nSet x ps n).k ∧ Below B w w') ∧ (∀ q, q < w.heap.size → FOff q n.k → FOff q (nSet x ps n).k) ∧ (∀ q, q < w.heap.size → q ≠ n.b → q ≠ c → FOff q n.k → w'.heap[q]? = w.heap[q]?) := by
  obtain ⟨pa, pc, hbk, _, _⟩ := t.back
  have hpl : ∀ q, BPlain w q → q ≠ c → BPlain w' q := fun q hq hn => by
    by_cases e : q = m.b
    · rw [e]
      exact t.plain
    · obtain ⟨cs, T, hb⟩ := hq
      refine ⟨cs, T, ?_⟩
      rw [t.same q (BPlain.lt ⟨cs, T, hb⟩) e hn]
      exact hb
  refine ⟨upd2 h h1 ha hc ho hcl hbk.lt t.same t.cell t.new, plain_set t.kplain ps (plain_turn hpl hk ho), fun B hB hb hBc hf => ?_, fun q hq hf => off_set ps ha (t.koff q hq) hf, fun q hq hb hc' hf => t.same q hq (fun e => ?_) hc'⟩
  · obtain ⟨f1, f2⟩ := nAt_from ps hb hf ha
    exact ⟨from_set (t.kids B hB f2) ps hf, t.keep B f1 hBc hB⟩
  · rcases (nAt_in ps h h1 ha).2.2 with ⟨e', _⟩ | e'
    · omega
    · rw [← e] at e'
      exact ab_off hf e'

/-- What change comes to. -/
def ChEnd (w : World) (n : Nd) (d : Dd) (e : Ending) (w' : World) : Prop :=
  ((doneP d n.s (strip n.k)).1 ≠ 0 ∧ e = .returned (.tuple #[ddV noDd none 0, .int .i64 (doneP d n.s (strip n.k)).1]) ∧ Below w.heap.size w w') ∨
  (∃ n' pa pc, doneP d n.s (strip n.k) = (0, n'.s, strip n'.k) ∧ e = .returned (.tuple #[ddV (backP d n.s (strip n.k)) pa pc, .int .i64 0]) ∧ n'.b = n.b ∧ n'.o = n.o ∧ NodIn w' n' ∧ FPlain w' n'.k ∧ (∀ B, B ≤ w.heap.size → B ≤ n.b → FFrom B n.k → FFrom B n'.k ∧ Below B w w') ∧ DIn w' (backP d n.s (strip n.k)) pa pc ∧ (∀ a, pa = some a → w.heap.size ≤ a.block) ∧ (∀ q, q < w.heap.size → FOff q n.k → FOff q n'.k) ∧ (∀ q, q < w.heap.size → q ≠ n.b → FOff q n.k → w'.heap[q]? = w.heap[q]?) ∧ (d.kind = 3 → d.path = [] → (ab n.k).Nodup → (ab n'.k).Nodup))

/-- Two boxes. -/
theorem boxes2 (w : World) (o0 o1 : Obj) : ((w.alloc o0).alloc o1).heap.size = w.heap.size + 1 + 1 ∧ Below w.heap.size w ((w.alloc o0).alloc o1) ∧ ((w.alloc o0).alloc o1).heap[w.heap.size]? = some o0 ∧ ((w.alloc o0).alloc o1).heap[w.heap.size + 1]? = some o1 := by
  refine ⟨by simp, ((Below.refl _ _).alloc (Nat.le_refl _) _).alloc (by simp) _, ?_, ?_⟩
  · rw [Below.heap_alloc _ _ _ (by simp)]
    exact heap_alloc_new _ _
  · rw [show w.heap.size + 1 = (w.alloc o0).heap.size by simp]
    exact heap_alloc_new _ _
theorem NodIn.below {w w' : World} {n : Nd} (h : NodIn w n) (hb : Below w.heap.size w w') : NodIn w' n :=
  ⟨by rw [hb.cell (World.block_lt_of_cell? _ _ h.c0)]; exact h.c0, by rw [hb.cell (World.block_lt_of_cell? _ _ h.c1)]; exact h.c1, h.tin.below hb⟩
theorem one_off {w : World} {m : Nd} (h : NodIn w m) (h1 : NodOne m) : FOff m.b m.k := by
  rcases h.tin.kids with h0 | ⟨kb, ko, _, hf⟩
  · rw [h0]
    trivial
  · cases hk : m.k with
    | nil => trivial
    | node b o x k r =>
      rw [← hk]
      refine off_of hf (fun e => h1.out ?_) (fun e => h1.out (List.mem_append.2 (Or.inr e)))
      rw [hk] at hf
      have : b = kb := hf.1
      rw [hk]
      simp [ab, hb]
      omega
theorem nat_path {l : List Int} (h : l.any (fun p => decide (p < 0)) = false) : ∀ p, p ∈ l → 0 ≤ p := fun p hp => by
  have := List.any_eq_false.1 h p hp
  simpa using this
theorem nAt_nodes : ∀ (ps : List Nat) {n m : Nd}, nAt ps n = some m → fnodes m.k ≤ fnodes n.k
  | [], n, m, ha => by
    simp only [nAt, Option.some.injEq] at ha
    subst ha
    exact Nat.le_refl _
  | p :: ps, n, m, ha => by
    unfold nAt at ha
    cases hk : kidN p n.k with
    | none => rw [hk] at ha; cases ha
    | some m' =>
      rw [hk] at ha
      have h1 := nAt_nodes ps ha
      have h2 := fnodes_drop p n.k
      rw [(kidN_some hk).2] at h2
      simp only [fnodes] at h2
      omega

/-- The deed that undoes it is laid into a box of the caller's. -/
theorem ch_set {w W w1 : World} {n : Nd} {d : Dd} {e : Ending} {c : Nat} {v0 v1 v2 v3 v4 : Value} (bW : Below w.heap.size w W) (hc : w.heap.size ≤ c) (hcW : c < W.heap.size) (hn : n.b < w.heap.size) (hoff : FOff c n.k) (h : ChEnd W n d e w1) :
    ChEnd w n d e (((((w1.setCell ⟨c, 0, none⟩ v0).setCell ⟨c, 1, none⟩ v1).setCell ⟨c, 2, none⟩ v2).setCell ⟨c, 3, none⟩ v3).setCell ⟨c, 4, none⟩ v4) := by
  have hs : ∀ q, q ≠ c → (((((w1.setCell ⟨c, 0, none⟩ v0).setCell ⟨c, 1, none⟩ v1).setCell ⟨c, 2, none⟩ v2).setCell ⟨c, 3, none⟩ v3).setCell ⟨c, 4, none⟩ v4).heap[q]? = w1.heap[q]? := fun q hq => by
    rw [Below.heap_setCell _ _ _ _ hq, Below.heap_setCell _ _ _ _ hq, Below.heap_setCell _ _ _ _ hq, Below.heap_setCell _ _ _ _ hq, Below.heap_setCell _ _ _ _ hq]
  have hB : ∀ B, B ≤ c → Below B w w1 → Below B w (((((w1.setCell ⟨c, 0, none⟩ v0).setCell ⟨c, 1, none⟩ v1).setCell ⟨c, 2, none⟩ v2).setCell ⟨c, 3, none⟩ v3).setCell ⟨c, 4, none⟩ v4) := fun B h1 h2 => ((((h2.setCell h1 _).setCell h1 _).setCell h1 _).setCell h1 _).setCell h1 _
  have sW := bW.size
  rcases h with ⟨h1, h2, h3⟩ | ⟨n', pa, pc, h1, h2, h3, h4, h5, h6, h7, h8, h9, h10, h11, h12⟩
  · exact Or.inl ⟨h1, h2, hB _ hc (bW.trans (h3.mono sW))⟩
  · have ho := h10 c hcW hoff
    refine Or.inr ⟨n', pa, pc, h1, h2, h3, h4, ⟨?_, ?_, TIn.but (g := c) (fun b _ hb => hs b hb) ho h5.tin⟩, FPlain.but (g := c) (fun b _ hb => hs b hb) ho h6, fun B b1 b2 b3 => ?_, ⟨PIn.block h8.path fun a ha => hs _ (by have := h9 a ha; omega), h8.len, h8.cap, h8.lab⟩, fun a ha => Nat.le_trans sW (h9 a ha), fun q hq hf => h10 q (by omega) hf, fun q hq hb hf => ?_, h12⟩
    · exact cellN (hs n'.b (by omega)) h5.c0
    · exact cellN (hs n'.b (by omega)) h5.c1
    · obtain ⟨f1, f2⟩ := h7 B (by omega) b2 b3
      exact ⟨f1, hB B (by omega) ((bW.mono b1).trans f2)⟩
    · rw [hs q (by omega), h11 q (by omega) hb hf, bW.block q hq]

end Go.Proofs.Ytpgiagkbfnbgkab.Deed
namespace Go.Proofs.Ytpgiagkbfnbgkab.Deed
open Go.Deep Go.RowKit
set_option linter.unusedVariables false
set_option maxRecDepth 20000

set_option maxHeartbeats 2000000 in
theorem atN_any (c1 c2 : Nat) (n : Nd) (path : List Int) (pa : Option Addr) (pc : Nat) (w : World) (hn : NodIn w n) (h1 : NodOne n) (hpi : PIn w pa path) (hpl : path.length ≤ 10000) (h0 : ∀ p, p ∈ path → 0 ≤ p) (Q : Ending → World → Prop)
    (hf : ∀ m, nAt (nats path) n = some m → Calls Try.prog 74 #[.pointer (some ⟨m.b, m.o, none⟩), .pointer (some ⟨c1, 0, none⟩), .pointer (some ⟨c2, 0, none⟩)] w Q) (hz : nAt (nats path) n = none → Q (.returned (.int .i64 7)) w) (hr : ∀ e w', Q e w' → ∃ c, e = .returned (.int .i64 c)) :
    Calls Try.prog 73 #[.pointer (some ⟨n.b, n.o, none⟩), .slice pa path.length pc, .func (.func 74) #[] #[.pointer (some ⟨c1, 0, none⟩), .pointer (some ⟨c2, 0, none⟩)]] w Q := by
  have HF := hide hf
  have HZ := hide hz
  have HR := hide hr
  have HN := hide hn
  have H1 := hide h1
  have H0 := hide h0
  clear hf hz hr hn h1 h0
  go_enter Try.func73, Try.ntmps73
  go_wp2_with fail
  go_loopg [0, 11] path.length (fun gk v0 v11 wr => ∃ (i : Nat) (q : Nd), gk = path.length - i ∧ i ≤ path.length ∧ v0 = .pointer (some ⟨q.b, q.o, none⟩) ∧ v11 = .int .i64 (i : Nat) ∧ wr = w ∧ Hid (nAt (nats (path.take i)) n = some q))
  case atStart => exact ⟨0, n, rfl, Nat.zero_le _, rfl, rfl, rfl, hide (by simp [nats, nAt])⟩
  case round =>
    obtain ⟨i, q, hgk, hi, rfl, rfl, hwr, hq⟩ := hrel
    obtain ⟨wA, hwA⟩ : ∃ wA, wA = wr := ⟨_, rfl⟩
    rw [← hwA]
    have hwB : wA = w := hwA.trans hwr
    clear hwA hwr
    subst hwB
    by_cases hin : i < path.length
    · obtain ⟨P, hP⟩ : ∃ P : Nat, path[i]? = some ((P : Nat) : Int) := by
        obtain ⟨P, hP⟩ := Int.eq_ofNat_of_zero_le (H0.out path[i] (List.getElem_mem hin))
        exact ⟨P, by rw [List.getElem?_eq_getElem hin, hP]⟩
      have htk : nats (path.take (i + 1)) = nats (path.take i) ++ [P] := by
        have : path[i] = (P : Int) := by simpa [List.getElem?_eq_getElem hin] using hP
        rw [List.take_succ_eq_append_getElem hin, nats_append, this]
        simp [nats]
      have hst : nAt (nats (path.take (i + 1))) n = kidN P q.k := by rw [htk, nAt_snoc, hq.out]
      obtain ⟨b, o, rfl, hc⟩ : ∃ b o, pa = some ⟨b, o, none⟩ ∧ wA.cell? ⟨b, o + i, none⟩ = some (.int .i64 (P : Int)) := by
        rcases hpi with rfl | ⟨b, o, rfl, h⟩
        · simp at hin
        · exact ⟨b, o, rfl, h i _ hP⟩
      have hqi := (nAt_in _ HN.out H1.out hq.out).1
      have hc1 := hqi.c1
      have hlen := hqi.tin.len
      have hcap := hqi.tin.cap
      unfold maxLen at hcap
      cases hk : kidN P q.k with
      | none =>
        have hge := kidN_none hk
        have HE := hide (show nAt (nats path) n = none by
          have e : nats path = nats (path.take (i + 1)) ++ nats (path.drop (i + 1)) := by rw [← nats_append, List.take_append_drop]
          rw [e]
          exact nAt_none _ _ (hst.trans hk))
        clear hst hk htk hqi hP
        have hd : decide (((flen q.k : Nat) : Int) ≤ (P : Int)) = true := decide_eq_true (by omega)
        go_wp2_with fail
        exact HZ.out HE.out
      | some m =>
        have hlt := (kidN_some hk).1
        obtain ⟨_, kb, ko, e1, _, e2, e3⟩ := kid_in hqi hk
        rw [e1] at hc1
        have HE := hide (hst.trans hk)
        have HM := hide (And.intro e2 e3)
        clear hst hk htk hqi hP e1 e2 e3
        have hd : decide (((flen q.k : Nat) : Int) ≤ (P : Int)) = false := decide_eq_false (by omega)
        go_wp2_with fail
        go_roundg (path.length - (i + 1))
        case measure => omega
        case rel => exact ⟨i + 1, m, rfl, by omega, by rw [HM.out.1, HM.out.2, Nat.mul_comm 2 P], by go_num, rfl, HE⟩
    · have hie : i = path.length := by omega
      subst hie
      rw [List.take_length] at hq
      clear hgk
      go_wp2_with fail
      refine (HF.out q hq.out).mono ?_
      rintro e w1 hQ
      obtain ⟨c, rfl⟩ := HR.out _ _ hQ
      have HQ := hide hQ
      clear hQ
      go_wp2_with fail
      exact HQ.out

set_option maxHeartbeats 2000000 in
theorem atR_any (c1 c2 c3 : Nat) (n : Nd) (path : List Int) (pa : Option Addr) (pc : Nat) (w : World) (hn : NodIn w n) (h1 : NodOne n) (hpi : PIn w pa path) (hpl : path.length ≤ 10000) (h0 : ∀ p, p ∈ path → 0 ≤ p) (Q : Ending → World → Prop)
    (hf : ∀ m, nAt (nats path) n = some m → Calls Try.prog 76 #[.pointer (some ⟨m.b, m.o, none⟩), .pointer (some ⟨c1, 0, none⟩), .pointer (some ⟨c2, 0, none⟩), .pointer (some ⟨c3, 0, none⟩)] w Q) (hz : nAt (nats path) n = none → Q (.returned (.int .i64 7)) w) (hr : ∀ e w', Q e w' → ∃ c, e = .returned (.int .i64 c)) :
    Calls Try.prog 73 #[.pointer (some ⟨n.b, n.o, none⟩), .slice pa path.length pc, .func (.func 76) #[] #[.pointer (some ⟨c1, 0, none⟩), .pointer (some ⟨c2, 0, none⟩), .pointer (some ⟨c3, 0, none⟩)]] w Q := by
  have HF := hide hf
  have HZ := hide hz
  have HR := hide hr
  have HN := hide hn
  have H1 := hide h1
  have H0 := hide h0
  clear hf hz hr hn h1 h0
  go_enter Try.func73, Try.ntmps73
  go_wp2_with fail
  go_loopg [0, 11] path.length (fun gk v0 v11 wr => ∃ (i : Nat) (q : Nd), gk = path.length - i ∧ i ≤ path.length ∧ v0 = .pointer (some ⟨q.b, q.o, none⟩) ∧ v11 = .int .i64 (i : Nat) ∧ wr = w ∧ Hid (nAt (nats (path.take i)) n = some q))
  case atStart => exact ⟨0, n, rfl, Nat.zero_le _, rfl, rfl, rfl, hide (by simp [nats, nAt])⟩
  case round =>
    obtain ⟨i, q, hgk, hi, rfl, rfl, hwr, hq⟩ := hrel
    obtain ⟨wA, hwA⟩ : ∃ wA, wA = wr := ⟨_, rfl⟩
    rw [← hwA]
    have hwB : wA = w := hwA.trans hwr
    clear hwA hwr
    subst hwB
    by_cases hin : i < path.length
    · obtain ⟨P, hP⟩ : ∃ P : Nat, path[i]? = some ((P : Nat) : Int) := by
        obtain ⟨P, hP⟩ := Int.eq_ofNat_of_zero_le (H0.out path[i] (List.getElem_mem hin))
        exact ⟨P, by rw [List.getElem?_eq_getElem hin, hP]⟩
      have htk : nats (path.take (i + 1)) = nats (path.take i) ++ [P] := by
        have : path[i] = (P : Int) := by simpa [List.getElem?_eq_getElem hin] using hP
        rw [List.take_succ_eq_append_getElem hin, nats_append, this]
        simp [nats]
      have hst : nAt (nats (path.take (i + 1))) n = kidN P q.k := by rw [htk, nAt_snoc, hq.out]
      obtain ⟨b, o, rfl, hc⟩ : ∃ b o, pa = some ⟨b, o, none⟩ ∧ wA.cell? ⟨b, o + i, none⟩ = some (.int .i64 (P : Int)) := by
        rcases hpi with rfl | ⟨b, o, rfl, h⟩
        · simp at hin
        · exact ⟨b, o, rfl, h i _ hP⟩
      have hqi := (nAt_in _ HN.out H1.out hq.out).1
      have hc1 := hqi.c1
      have hlen := hqi.tin.len
      have hcap := hqi.tin.cap
      unfold maxLen at hcap
      cases hk : kidN P q.k with
      | none =>
        have hge := kidN_none hk
        have HE := hide (show nAt (nats path) n = none by
          have e : nats path = nats (path.take (i + 1)) ++ nats (path.drop (i + 1)) := by rw [← nats_append, List.take_append_drop]
          rw [e]
          exact nAt_none _ _ (hst.trans hk))
        clear hst hk htk hqi hP
        have hd : decide (((flen q.k : Nat) : Int) ≤ (P : Int)) = true := decide_eq_true (by omega)
        go_wp2_with fail
        exact HZ.out HE.out
      | some m =>
        have hlt := (kidN_some hk).1
        obtain ⟨_, kb, ko, e1, _, e2, e3⟩ := kid_in hqi hk
        rw [e1] at hc1
        have HE := hide (hst.trans hk)
        have HM := hide (And.intro e2 e3)
        clear hst hk htk hqi hP e1 e2 e3
        have hd : decide (((flen q.k : Nat) : Int) ≤ (P : Int)) = false := decide_eq_false (by omega)
        go_wp2_with fail
        go_roundg (path.length - (i + 1))
        case measure => omega
        case rel => exact ⟨i + 1, m, rfl, by omega, by rw [HM.out.1, HM.out.2, Nat.mul_comm 2 P], by go_num, rfl, HE⟩
    · have hie : i = path.length := by omega
      subst hie
      rw [List.take_length] at hq
      clear hgk
      go_wp2_with fail
      refine (HF.out q hq.out).mono ?_
      rintro e w1 hQ
      obtain ⟨c, rfl⟩ := HR.out _ _ hQ
      have HQ := hide hQ
      clear hQ
      go_wp2_with fail
      exact HQ.out

set_option maxHeartbeats 2000000 in
theorem atI_any (c1 c2 : Nat) (n : Nd) (path : List Int) (pa : Option Addr) (pc : Nat) (w : World) (hn : NodIn w n) (h1 : NodOne n) (hpi : PIn w pa path) (hpl : path.length ≤ 10000) (h0 : ∀ p, p ∈ path → 0 ≤ p) (Q : Ending → World → Prop)
    (hf : ∀ m, nAt (nats path) n = some m → Calls Try.prog 78 #[.pointer (some ⟨m.b, m.o, none⟩), .pointer (some ⟨c1, 0, none⟩), .pointer (some ⟨c2, 0, none⟩)] w Q) (hz : nAt (nats path) n = none → Q (.returned (.int .i64 7)) w) (hr : ∀ e w', Q e w' → ∃ c, e = .returned (.int .i64 c)) :
    Calls Try.prog 73 #[.pointer (some ⟨n.b, n.o, none⟩), .slice pa path.length pc, .func (.func 78) #[] #[.pointer (some ⟨c1, 0, none⟩), .pointer (some ⟨c2, 0, none⟩)]] w Q := by
  have HF := hide hf
  have HZ := hide hz
  have HR := hide hr
  have HN := hide hn
  have H1 := hide h1
  have H0 := hide h0
  clear hf hz hr hn h1 h0
  go_enter Try.func73, Try.ntmps73
  go_wp2_with fail
  go_loopg [0, 11] path.length (fun gk v0 v11 wr => ∃ (i : Nat) (q : Nd), gk = path.length - i ∧ i ≤ path.length ∧ v0 = .pointer (some ⟨q.b, q.o, none⟩) ∧ v11 = .int .i64 (i : Nat) ∧ wr = w ∧ Hid (nAt (nats (path.take i)) n = some q))
  case atStart => exact ⟨0, n, rfl, Nat.zero_le _, rfl, rfl, rfl, hide (by simp [nats, nAt])⟩
  case round =>
    obtain ⟨i, q, hgk, hi, rfl, rfl, hwr, hq⟩ := hrel
    obtain ⟨wA, hwA⟩ : ∃ wA, wA = wr := ⟨_, rfl⟩
    rw [← hwA]
    have hwB : wA = w := hwA.trans hwr
    clear hwA hwr
    subst hwB
    by_cases hin : i < path.length
    · obtain ⟨P, hP⟩ : ∃ P : Nat, path[i]? = some ((P : Nat) : Int) := by
        obtain ⟨P, hP⟩ := Int.eq_ofNat_of_zero_le (H0.out path[i] (List.getElem_mem hin))
        exact ⟨P, by rw [List.getElem?_eq_getElem hin, hP]⟩
      have htk : nats (path.take (i + 1)) = nats (path.take i) ++ [P] := by
        have : path[i] = (P : Int) := by simpa [List.getElem?_eq_getElem hin] using hP
        rw [List.take_succ_eq_append_getElem hin, nats_append, this]
        simp [nats]
      have hst : nAt (nats (path.take (i + 1))) n = kidN P q.k := by rw [htk, nAt_snoc, hq.out]
      obtain ⟨b, o, rfl, hc⟩ : ∃ b o, pa = some ⟨b, o, none⟩ ∧ wA.cell? ⟨b, o + i, none⟩ = some (.int .i64 (P : Int)) := by
        rcases hpi with rfl | ⟨b, o, rfl, h⟩
        · simp at hin
        · exact ⟨b, o, rfl, h i _ hP⟩
      have hqi := (nAt_in _ HN.out H1.out hq.out).1
      have hc1 := hqi.c1
      have hlen := hqi.tin.len
      have hcap := hqi.tin.cap
      unfold maxLen at hcap
      cases hk : kidN P q.k with
      | none =>
        have hge := kidN_none hk
        have HE := hide (show nAt (nats path) n = none by
          have e : nats path = nats (path.take (i + 1)) ++ nats (path.drop (i + 1)) := by rw [← nats_append, List.take_append_drop]
          rw [e]
          exact nAt_none _ _ (hst.trans hk))
        clear hst hk htk hqi hP
        have hd : decide (((flen q.k : Nat) : Int) ≤ (P : Int)) = true := decide_eq_true (by omega)
        go_wp2_with fail
        exact HZ.out HE.out
      | some m =>
        have hlt := (kidN_some hk).1
        obtain ⟨_, kb, ko, e1, _, e2, e3⟩ := kid_in hqi hk
        rw [e1] at hc1
        have HE := hide (hst.trans hk)
        have HM := hide (And.intro e2 e3)
        clear hst hk htk hqi hP e1 e2 e3
        have hd : decide (((flen q.k : Nat) : Int) ≤ (P : Int)) = false := decide_eq_false (by omega)
        go_wp2_with fail
        go_roundg (path.length - (i + 1))
        case measure => omega
        case rel => exact ⟨i + 1, m, rfl, by omega, by rw [HM.out.1, HM.out.2, Nat.mul_comm 2 P], by go_num, rfl, HE⟩
    · have hie : i = path.length := by omega
      subst hie
      rw [List.take_length] at hq
      clear hgk
      go_wp2_with fail
      refine (HF.out q hq.out).mono ?_
      rintro e w1 hQ
      obtain ⟨c, rfl⟩ := HR.out _ _ hQ
      have HQ := hide hQ
      clear hQ
      go_wp2_with fail
      exact HQ.out

end Go.Proofs.Ytpgiagkbfnbgkab.Deed
