/- What the loops of tree.Own keep: lists that are new but whose kids are still the old ones, and what comes of the whole when all of them are done. Of no program. -/
/- The steps of tree.Own's loops: a list is taken, an item of it is made new, its new list is put behind the others, a list is done. Of no program. -/
/- tree.Own makes, of a tree that lies in memory, the same tree in new memory. Of the program's text. -/
import Derived.Test.YtcknganggcbkjabGS00
import Derived.Test.YtcknganggcbkjabZOwnInv
import Derived.Test.YtcknganggcbkjabProg
import Derived.Test.YtcknganggcbkjabGS12
import Derived.Test.YtcknganggcbkjabGS13
import Derived.Deep.LoopGhost
namespace Go.Proofs.Ytcknganggcbkjab
open Go.Deep Go.RowKit
set_option linter.unusedVariables false
set_option maxRecDepth 20000

/-- All labels of a forest are of 1000 bytes at most. -/
def SmallF : Fo → Prop
  | .nil => True
  | .node _ _ x k r => x.1.size ≤ 1000 ∧ SmallF k ∧ SmallF r

/-- In w, from block g on, a forest lies that is S but for where it lies; all of it from block B on, in blocks without a mark; bs are its lists' blocks. -/
def Reads (B : Nat) (w : World) (g : Nat) (S : Fo) (bs : List Nat) : Prop := ∃ F, FIn w F g 0 ∧ strip F = S ∧ FFrom B F ∧ FPlain w F ∧ (ab F).Perm bs

/-- A list that is new, in block g, whose items still have the old kids. -/
abbrev Pd := Nat × List It
def pdCell (p : Pd) : Value := .slice (some ⟨p.1, 0, none⟩) p.2.length p.2.length
def itNodes : List It → Nat
  | [] => 0
  | i :: l => 1 + fnodes i.2.2.2 + itNodes l
def pTot : List Pd → Nat
  | [] => 0
  | p :: l => itNodes p.2 + pTot l

theorem itNodes_len : ∀ l : List It, l.length ≤ itNodes l
  | [] => Nat.le_refl _
  | i :: l => by have := itNodes_len l; simp [itNodes]; omega
theorem itNodes_items : ∀ f : Fo, itNodes (itemsF f) = fnodes f
  | .nil => rfl
  | .node _ _ x k r => by simp [itemsF, itNodes, fnodes, itNodes_items r]; omega
theorem pTot_append : ∀ (a b : List Pd), pTot (a ++ b) = pTot a + pTot b
  | [], b => by simp [pTot]
  | p :: a, b => by simp [pTot, pTot_append a b]; omega
theorem pTot_len : ∀ l : List Pd, (∀ p, p ∈ l → 0 < p.2.length) → l.length ≤ pTot l
  | [], _ => Nat.le_refl _
  | p :: l, h => by
    have h1 := pTot_len l (fun q hq => h q (by simp [hq]))
    have h2 := h p (by simp)
    have h3 := itNodes_len p.2
    simp [pTot]
    omega

/-- An item that has been made new: its label, and its new list if it has kids. -/
abbrev Ni := ByteArray × Option Pd
def niKids : Option Pd → Value
  | none => .slice none 0 0
  | some p => pdCell p
def niCells (n : Ni) : List Value := [.string n.1, niKids n.2]
def rowNew : List Ni → List Value
  | [] => []
  | n :: l => niCells n ++ rowNew l
def newPd : List Ni → List Pd
  | [] => []
  | n :: l => n.2.toList ++ newPd l

theorem rowNew_append : ∀ (l : List Ni) (n : Ni), rowNew (l ++ [n]) = rowNew l ++ niCells n
  | [], n => by simp [rowNew]
  | a :: l, n => by simp [rowNew, rowNew_append l n]
theorem rowNew_length : ∀ l : List Ni, (rowNew l).length = l.length * 2
  | [] => rfl
  | a :: l => by simp [rowNew, niCells, rowNew_length l]; omega
theorem newPd_append : ∀ (l : List Ni) (n : Ni), newPd (l ++ [n]) = newPd l ++ n.2.toList
  | [], n => by simp [newPd]
  | a :: l, n => by simp [newPd, newPd_append l n]

/-- The new ones are of the old ones. -/
def Match : List It → List Ni → Prop
  | [], [] => True
  | i :: l, n :: m => (n.1 = i.1 ∧ ((flen i.2.2.2 = 0 ∧ n.2 = none) ∨ (0 < flen i.2.2.2 ∧ ∃ g, n.2 = some (g, itemsF i.2.2.2)))) ∧ Match l m
  | _, _ => False

theorem Match.length : ∀ {l : List It} {m : List Ni}, Match l m → l.length = m.length
  | [], [], _ => rfl
  | _ :: l, _ :: m, h => by simp [Match.length h.2]
  | [], _ :: _, h => h.elim
  | _ :: _, [], h => h.elim
theorem Match.snoc : ∀ {l : List It} {m : List Ni} {i : It} {n : Ni}, Match l m → (n.1 = i.1 ∧ ((flen i.2.2.2 = 0 ∧ n.2 = none) ∨ (0 < flen i.2.2.2 ∧ ∃ g, n.2 = some (g, itemsF i.2.2.2)))) → Match (l ++ [i]) (m ++ [n])
  | [], [], _, _, _, h => ⟨h, trivial⟩
  | _ :: l, _ :: m, _, _, h, h' => ⟨h.1, Match.snoc h.2 h'⟩
  | [], _ :: _, _, _, h, _ => h.elim
  | _ :: _, [], _, _, h, _ => h.elim
theorem Match.tot : ∀ {l : List It} {m : List Ni}, Match l m → pTot (newPd m) + l.length ≤ itNodes l
  | [], [], _ => Nat.le_refl _
  | i :: l, n :: m, ⟨⟨h1, h2⟩, h⟩ => by
    have := Match.tot h
    rcases h2 with ⟨_, e⟩ | ⟨_, g, e⟩
    · simp [newPd, e, itNodes]; omega
    · simp [newPd, e, itNodes, pTot, itNodes_items]; omega
  | [], _ :: _, h => h.elim
  | _ :: _, [], h => h.elim

/-- What becomes of a row when all its new lists are done. -/
theorem match_items {B : Nat} {w : World} {bsf : Nat → List Nat} : ∀ {l : List It} {m : List Ni}, Match l m → (∀ i, i ∈ l → i.1.size ≤ maxLen ∧ fnodes i.2.2.2 ≤ maxLen) → (∀ p, p ∈ newPd m → Reads B w p.1 (strip (joinF p.2 .nil)) (bsf p.1)) →
    ∃ L : List It, rowCells L = rowNew m ∧ (∀ i, i ∈ L → ItIn w i ∧ FFrom B i.2.2.2 ∧ FPlain w i.2.2.2) ∧ strip (joinF L .nil) = strip (joinF l .nil) ∧ (L.flatMap (fun i => ab i.2.2.2)).Perm ((newPd m).flatMap (fun p => bsf p.1))
  | [], [], _, _, _ => ⟨[], rfl, fun _ h => by simp at h, rfl, List.Perm.refl _⟩
  | i :: l, n :: m, ⟨⟨h1, h2⟩, h⟩, hs, hr => by
    obtain ⟨L, e1, e2, e3, e4⟩ := match_items h (fun q hq => hs q (by simp [hq])) (fun p hp => hr p (by simp [newPd, hp]))
    rcases h2 with ⟨h0, e⟩ | ⟨h0, g, e⟩
    · refine ⟨(i.1, none, 0, .nil) :: L, by simp [rowCells, rowNew, e1, itCells, niCells, h1, e, niKids, flen], fun q hq => ?_, ?_, by simpa [newPd, e, ab, hb, lb] using e4⟩
      · rcases List.mem_cons.1 hq with rfl | hq
        · exact ⟨⟨(hs i (by simp)).1, Nat.le_refl _, Nat.zero_le _, Or.inl rfl⟩, trivial, trivial⟩
        · exact e2 q hq
      · have hk : i.2.2.2 = .nil := by
          cases hi : i.2.2.2 with
          | nil => rfl
          | node _ _ _ _ _ => rw [hi] at h0; simp [flen] at h0
        simp [joinF, strip, e3, hk]
    · obtain ⟨F, f1, f2, f3, f4, f5⟩ := hr (g, itemsF i.2.2.2) (by simp [newPd, e])
      simp only at f1 f2
      rw [joinF_items] at f2
      have fl := flen_of_strip f2
      refine ⟨(i.1, some ⟨g, 0, none⟩, flen i.2.2.2, F) :: L, by simp [rowCells, rowNew, e1, itCells, niCells, h1, e, niKids, pdCell, itemsF_length, fl], fun q hq => ?_, ?_, by simpa [newPd, e] using f5.append e4⟩
      · rcases List.mem_cons.1 hq with rfl | hq
        · exact ⟨⟨(hs i (by simp)).1, by simp only; omega, Nat.le_trans (flen_le_nodes _) (hs i (by simp)).2, Or.inr ⟨g, 0, rfl, f1⟩⟩, f3, f4⟩
        · exact e2 q hq
      · simp [joinF, strip, e3, f2]
  | [], _ :: _, h, _, _ => h.elim
  | _ :: _, [], h, _, _ => h.elim

/-- The row, read. -/
theorem reads_row {B : Nat} {w : World} {bsf : Nat → List Nat} {g T : Nat} {l : List It} {m : List Ni} (hB : B ≤ g) (hl : 0 < l.length) (hm : Match l m) (hs : ∀ i, i ∈ l → i.1.size ≤ maxLen ∧ fnodes i.2.2.2 ≤ maxLen) (hr : ∀ p, p ∈ newPd m → Reads B w p.1 (strip (joinF p.2 .nil)) (bsf p.1))
    (hg : w.heap[g]? = some (.cells (rowNew m).toArray T (0, 0))) : Reads B w g (strip (joinF l .nil)) (g :: (newPd m).flatMap (fun p => bsf p.1)) := by
  obtain ⟨L, e1, e2, e3, e4⟩ := match_items hm hs hr
  have hab : ab (place g 0 L) = g :: L.flatMap (fun i => ab i.2.2.2) := by
    have hn := flen_of_strip (f := joinF L .nil) (g := joinF l .nil) e3
    have hj : ∀ l : List It, flen (joinF l .nil) = l.length := fun l => by
      induction l with
      | nil => rfl
      | cons a l ih => simp [joinF, flen, ih]
    rw [hj, hj] at hn
    cases L with
    | nil => simp at hn; omega
    | cons a L =>
      have := lb_place (a :: L) g 0
      unfold ab
      rw [this]
      rfl
  refine ⟨place g 0 L, place_in L 0 (fun i hi => (e2 i hi).1) (fun j u hu => ?_), by rw [strip_place, e3], place_from hB L 0 fun i hi => (e2 i hi).2.1, place_plain ⟨_, _, hg⟩ L 0 fun i hi => (e2 i hi).2.2, by rw [hab]; exact e4.cons g⟩
  rw [Nat.zero_add, cell_of_row w g j _ T (0, 0) hg]
  rw [e1] at hu
  simpa using hu

/-- What is asked of a list that is new. -/
structure PdOk (w0 wr : World) (T : Nat) (p : Pd) : Prop where
  from' : w0.heap.size ≤ p.1
  row : wr.heap[p.1]? = some (.cells (rowCells p.2).toArray T (0, 0))
  pos : 0 < p.2.length
  each : ∀ i, i ∈ p.2 → ItIn w0 i ∧ i.1.size ≤ 1000 ∧ SmallF i.2.2.2

/-- What the outer loop keeps: w0 is the world in which the call began; rb: the root's list, of which T is to be read. -/
structure OInv (T T' : Nat) (w0 wr : World) (v : Value) (pend : List Pd) (done : List Nat) (rb : Nat) (S : Fo) : Prop where
  row : wr.ownsRow w0.heap.size T' 1 v pend.length (pend.map pdCell)
  each : ∀ p, p ∈ pend → PdOk w0 wr T p
  apart : (pend.map (·.1) ++ done).Nodup
  vout : ∀ g, v.ownBlock = some g → ¬ g ∈ pend.map (·.1) ++ done
  lt : ∀ b, b ∈ done → b < wr.heap.size
  below : Below w0.heap.size w0 wr
  wand : ∀ (w' : World) (bsf : Nat → List Nat), Below w0.heap.size w0 w' → (∀ b, b ∈ done → w'.heap[b]? = wr.heap[b]?) → (∀ p, p ∈ pend → Reads w0.heap.size w' p.1 (strip (joinF p.2 .nil)) (bsf p.1)) → Reads w0.heap.size w' rb S (done ++ pend.flatMap (fun p => bsf p.1))

end Go.Proofs.Ytcknganggcbkjab
namespace Go.Proofs.Ytcknganggcbkjab
open Go.Deep Go.RowKit
set_option linter.unusedVariables false
set_option maxRecDepth 20000

theorem heap_lt {w : World} {b : Nat} {o : Obj} (h : w.heap[b]? = some o) : b < w.heap.size := by
  rcases Nat.lt_or_ge b w.heap.size with h' | h'
  · exact h'
  · rw [Array.getElem?_eq_none h'] at h; cases h

theorem own1_block {w : World} {B T n g : Nat} {v : Value} {xs : List Value} (h : w.ownsRow B T 1 v n xs) (hg : v.ownBlock = some g) : B ≤ g ∧ g < w.heap.size := by
  rcases h.2 with ⟨h2, _⟩ | ⟨g', cap, cur, hv, hb, hh, r⟩
  · subst h2; cases hg
  · subst hv
    simp only [Value.ownBlock, Option.some.injEq] at hg
    subst hg
    exact ⟨hb, heap_lt hh⟩
theorem own1_same {w w' : World} {B T n : Nat} {v : Value} {xs : List Value} (h : w.ownsRow B T 1 v n xs) (hb : ∀ g, v.ownBlock = some g → w'.heap[g]? = w.heap[g]?) : w'.ownsRow B T 1 v n xs := by
  obtain ⟨h1, h2⟩ := h
  refine ⟨h1, ?_⟩
  rcases h2 with h2 | ⟨g, cap, cur, hv, hg, hh, r⟩
  · exact Or.inl h2
  · exact Or.inr ⟨g, cap, cur, hv, hg, by rw [hb g (by rw [hv]; rfl)]; exact hh, r⟩
theorem own1_pop {w : World} {B T n g cap : Nat} {xs ys : List Value} (h : w.ownsRow B T 1 (.slice (some ⟨g, 0, none⟩) (n + 1) cap) (n + 1) (xs ++ ys)) (hx : xs.length = n) : w.ownsRow B T 1 (.slice (some ⟨g, 0, none⟩) n cap) n xs := by
  refine ⟨by omega, Or.inr ?_⟩
  rcases h.2 with ⟨h0, _⟩ | ⟨g', cap', cur, hv, hb, hh, h1, h2, h3, h4⟩
  · cases h0
  · simp only [Value.slice.injEq, Option.some.injEq, Addr.mk.injEq] at hv
    obtain ⟨⟨rfl, _, _⟩, _, rfl⟩ := hv
    refine ⟨g, cap, cur, rfl, hb, hh, by omega, h2, h3, ?_⟩
    have := congrArg (List.take (n * 1)) h4
    rw [List.take_take, show min (n * 1) ((n + 1) * 1) = n * 1 by omega, List.take_append_of_le_length (by omega), List.take_of_length_le (l := xs) (by omega)] at this
    exact this
theorem own1_form {w : World} {B T n : Nat} {v : Value} {xs : List Value} (h : w.ownsRow B T 1 v n xs) (hn : 0 < n) :
    ∃ g cap, v = .slice (some ⟨g, 0, none⟩) n cap ∧ B ≤ g ∧ g < w.heap.size ∧ n ≤ cap ∧ cap ≤ maxLen := by
  rcases h.2 with ⟨_, h0⟩ | ⟨g, cap, cur, hv, hb, hh, h1, h2, h3, h4⟩
  · omega
  · exact ⟨g, cap, hv, hb, heap_lt hh, h1, h2⟩
theorem own1_cell {w : World} {B T g n cap : Nat} {xs : List Value} (h : w.ownsRow B T 1 (.slice (some ⟨g, 0, none⟩) n cap) n xs) : ∀ j u, xs[j]? = some u → w.cell? ⟨g, j, none⟩ = some u := by
  intro j u hu
  rcases h.2 with ⟨h0, _⟩ | ⟨g', cap', cur, hv, hb, hh, h1, h2, h3, h4⟩
  · cases h0
  · simp only [Value.slice.injEq, Option.some.injEq, Addr.mk.injEq] at hv
    obtain ⟨⟨rfl, _, _⟩, _, rfl⟩ := hv
    have hj : j < xs.length := (List.getElem?_eq_some_iff.1 hu).1
    have hl := h.1
    rw [cell_of_row w g j cur T (0, 0) hh]
    rw [← h4, List.getElem?_take_of_lt (by omega)] at hu
    simpa using hu

theorem PdOk.same {w0 wr w1 : World} {T : Nat} {p : Pd} (h : PdOk w0 wr T p) (hb : w1.heap[p.1]? = wr.heap[p.1]?) : PdOk w0 w1 T p := ⟨h.from', by rw [hb]; exact h.row, h.pos, h.each⟩

/-- What the inner loop keeps: wq is the world in which the list g was taken. -/
structure InInv (T T' : Nat) (w0 wq wr : World) (v : Value) (pend : List Pd) (g : Nat) (done : List Nat) (L : List Ni) (rest : List It) : Prop where
  grow : wr.heap[g]? = some (.cells (rowNew L ++ rowCells rest).toArray T (0, 0))
  row : wr.ownsRow w0.heap.size T' 1 v pend.length (pend.map pdCell)
  each : ∀ p, p ∈ pend → PdOk w0 wr T p
  apart : (pend.map (·.1) ++ g :: done).Nodup
  vout : ∀ q, v.ownBlock = some q → ¬ q ∈ pend.map (·.1) ++ g :: done
  lt : ∀ b, b ∈ done → b < wr.heap.size
  gfrom : w0.heap.size ≤ g
  below : Below w0.heap.size w0 wr
  old : ∀ b, b ∈ done → wr.heap[b]? = wq.heap[b]?

/-- A step that turns no block that was there, but one that is none of these. -/
theorem InInv.on {T T' : Nat} {w0 wq wr w1 : World} {v : Value} {pend : List Pd} {g : Nat} {done : List Nat} {L : List Ni} {rest : List It} (h : InInv T T' w0 wq wr v pend g done L rest) (hb : Below wr.heap.size wr w1) : InInv T T' w0 wq w1 v pend g done L rest := by
  refine ⟨?_, own1_same h.row fun q hq => hb.block q (own1_block h.row hq).2, fun p hp => (h.each p hp).same (hb.block _ (heap_lt (h.each p hp).row)), h.apart, h.vout, fun b hb' => Nat.lt_of_lt_of_le (h.lt b hb') hb.size, h.gfrom, h.below.trans (hb.mono h.below.size), fun b hb' => ?_⟩
  · rw [hb.block g (heap_lt h.grow)]; exact h.grow
  · rw [hb.block b (h.lt b hb')]; exact h.old b hb'

theorem set_two {A R : List Value} {c0 c1 a b : Value} : ((A ++ c0 :: c1 :: R).set A.length a).set (A.length + 1) b = A ++ a :: b :: R := by
  rw [List.set_append_right _ _ (Nat.le_refl _), Nat.sub_self, List.set_cons_zero, List.set_append_right _ _ (by omega)]
  simp

/-- The next item is made new. -/
theorem InInv.put {T T' : Nat} {w0 wq wr w1 : World} {v : Value} {pend : List Pd} {g : Nat} {done : List Nat} {L : List Ni} {i : It} {rest : List It} (n : Ni) (h : InInv T T' w0 wq wr v pend g done L (i :: rest))
    (hw : w1 = (wr.setCell ⟨g, L.length * 2, none⟩ (.string n.1)).setCell ⟨g, L.length * 2 + 1, none⟩ (niKids n.2)) : InInv T T' w0 wq w1 v pend g done (L ++ [n]) rest := by
  subst hw
  have hoth : ∀ b, b ≠ g → ((wr.setCell ⟨g, L.length * 2, none⟩ (.string n.1)).setCell ⟨g, L.length * 2 + 1, none⟩ (niKids n.2)).heap[b]? = wr.heap[b]? := fun b hb => by
    rw [Below.heap_setCell _ _ _ _ hb, Below.heap_setCell _ _ _ _ hb]
  have hnp : ¬ g ∈ pend.map (·.1) := fun hm => (List.nodup_append.1 h.apart).2.2 g hm g (by simp) rfl
  have hnd : ¬ g ∈ done := (List.nodup_cons.1 (List.nodup_append.1 h.apart).2.1).1
  have hvg : ∀ q, v.ownBlock = some q → q ≠ g := fun q hq e => h.vout q hq (by simp [e])
  refine ⟨?_, own1_same h.row fun q hq => hoth q (hvg q hq), fun p hp => (h.each p hp).same (hoth _ fun e => hnp (e ▸ List.mem_map_of_mem hp)), h.apart, h.vout, fun b hb => by simpa [World.setCell] using h.lt b hb, h.gfrom, (h.below.setCell h.gfrom _).setCell h.gfrom _, fun b hb => by rw [hoth b (fun e => hnd (e ▸ hb))]; exact h.old b hb⟩
  have hl := rowNew_length L
  simp only [World.setCell, Array.getElem?_modify, if_true, h.grow, Option.map_some, Option.isSome_none, Bool.false_eq_true, if_false]
  congr 2
  rw [List.setIfInBounds_toArray, List.setIfInBounds_toArray]
  congr 1
  rw [rowNew_append, ← hl]
  simp only [rowCells, itCells, List.cons_append, List.nil_append, niCells, List.append_assoc]
  exact set_two

/-- A new list comes behind the others. -/
theorem InInv.more {T T' : Nat} {w0 wq wr w3 : World} {v : Value} {pend : List Pd} {g gv cap : Nat} {done : List Nat} {L : List Ni} {rest : List It} {p : Pd} {ob : Obj} (h : InInv T T' w0 wq wr v pend g done L rest)
    (hp : PdOk w0 wr T p) (hfresh : ¬ p.1 ∈ pend.map (·.1) ++ g :: done) (hpv : ∀ q, v.ownBlock = some q → q ≠ p.1)
    (hown : w3.ownsRow w0.heap.size T' 1 (.slice (some ⟨gv, 0, none⟩) (pend.length + 1) cap) (pend.length + 1) (pend.map pdCell ++ [pdCell p])) (hgrow : (wr.alloc ob).grownBy w3 v.ownBlock) (hat : v.ownBlock = some gv ∨ gv = wr.heap.size + 1) :
    InInv T T' w0 wq w3 (.slice (some ⟨gv, 0, none⟩) (pend.length + 1) cap) (pend ++ [p]) g done L rest := by
  have hsame : ∀ b, b < wr.heap.size → (∀ q, v.ownBlock = some q → q ≠ b) → w3.heap[b]? = wr.heap[b]? := fun b hlt hne => by
    rw [hgrow.block b (by simp; omega) (fun e => hne b e.symm rfl), Below.heap_alloc _ _ _ hlt]
  have hlt : ∀ b, b ∈ pend.map (·.1) ++ g :: done → b < wr.heap.size := fun b hb => by
    rcases List.mem_append.1 hb with hb | hb
    · obtain ⟨q, hq, rfl⟩ := List.mem_map.1 hb
      exact heap_lt (h.each q hq).row
    · rcases List.mem_cons.1 hb with rfl | hb
      · exact heap_lt h.grow
      · exact h.lt b hb
  have hin : ∀ b, b ∈ pend.map (·.1) ++ g :: done → w3.heap[b]? = wr.heap[b]? := fun b hb => hsame b (hlt b hb) fun q hq e => h.vout q hq (e ▸ hb)
  have hps := hsame p.1 (heap_lt hp.row) hpv
  have hgv : ¬ gv ∈ (pend ++ [p]).map (·.1) ++ g :: done := fun hm => by
    have hm' : gv ∈ pend.map (·.1) ++ g :: done ∨ gv = p.1 := by
      simp only [List.map_append, List.map_cons, List.map_nil, List.mem_append, List.mem_cons, List.not_mem_nil, or_false] at hm ⊢
      rcases hm with (hm | hm) | hm
      · exact Or.inl (Or.inl hm)
      · exact Or.inr hm
      · exact Or.inl (Or.inr hm)
    rcases hat with hat | hat
    · rcases hm' with hm' | hm'
      · exact h.vout gv hat hm'
      · exact hpv gv hat hm'
    · rcases hm' with hm' | hm'
      · have := hlt gv hm'; omega
      · have := heap_lt hp.row; omega
  refine ⟨by rw [hin g (by simp)]; exact h.grow, by simpa using hown, fun q hq => ?_, ?_, fun q hq => ?_, fun b hb => Nat.lt_of_lt_of_le (h.lt b hb) (Nat.le_trans (by simp) hgrow.size), h.gfrom, (h.below.alloc h.below.size ob).grown hgrow (by have := h.below.size; simp; omega) fun q hq => (own1_block h.row hq).1, fun b hb => by rw [hin b (by simp [hb])]; exact h.old b hb⟩
  · rcases List.mem_append.1 hq with hq | hq
    · exact (h.each q hq).same (hin _ (by simp only [List.mem_append]; exact Or.inl (List.mem_map_of_mem hq)))
    · have : q = p := by simpa using hq
      subst this
      exact hp.same hps
  · have h1 := h.apart
    rw [List.map_append, List.map_cons, List.map_nil, List.append_assoc]
    rw [List.nodup_append] at h1 ⊢
    refine ⟨h1.1, ?_, ?_⟩
    · rw [List.singleton_append, List.nodup_cons]
      exact ⟨fun hm => hfresh (by simp only [List.mem_append]; exact Or.inr hm), h1.2.1⟩
    · intro a ha b hb e
      simp only [List.singleton_append, List.mem_cons] at hb
      rcases hb with rfl | hb
      · exact hfresh (by simp only [List.mem_append]; exact Or.inl (e ▸ ha))
      · exact h1.2.2 a ha b (by simpa using hb) e
  · simp only [Value.ownBlock, Option.some.injEq] at hq
    subst hq
    exact hgv

/-- A list is taken: the last one. -/
theorem OInv.take {T T' : Nat} {w0 wr w1 : World} {pend : List Pd} {g tg cap : Nat} {its : List It} {done : List Nat} {rb : Nat} {S : Fo} (h : OInv T T' w0 wr (.slice (some ⟨tg, 0, none⟩) (pend.length + 1) cap) (pend ++ [(g, its)]) done rb S) (hb : Below wr.heap.size wr w1) :
    InInv T T' w0 wr w1 (.slice (some ⟨tg, 0, none⟩) pend.length cap) pend g done [] its := by
  have hr := h.row
  simp only [List.length_append, List.length_cons, List.length_nil, List.map_append, List.map_cons, List.map_nil] at hr
  have hp := h.each (g, its) (by simp)
  have hin : InInv T T' w0 wr wr (.slice (some ⟨tg, 0, none⟩) pend.length cap) pend g done [] its := by
    refine ⟨by simpa [rowNew] using hp.row, own1_pop hr (by simp), fun p hp => h.each p (by simp [hp]), ?_, fun q hq => ?_, h.lt, hp.from', h.below, fun _ _ => rfl⟩
    · have := h.apart
      simpa [List.append_assoc] using this
    · have := h.vout q hq
      simpa [List.append_assoc] using this
  exact hin.on hb

/-- A list is done. -/
theorem InInv.finish {T T' : Nat} {w0 wq wr : World} {v : Value} {pend : List Pd} {g : Nat} {its : List It} {done : List Nat} {L : List Ni} {rb : Nat} {S : Fo} (h : InInv T T' w0 wq wr v (pend ++ newPd L) g done L []) (hm : Match its L) (hs : ∀ i, i ∈ its → i.1.size ≤ maxLen ∧ fnodes i.2.2.2 ≤ maxLen)
    (hpos : 0 < its.length) (wand : ∀ (w' : World) (bsf : Nat → List Nat), Below w0.heap.size w0 w' → (∀ b, b ∈ done → w'.heap[b]? = wq.heap[b]?) → (∀ p, p ∈ pend ++ [(g, its)] → Reads w0.heap.size w' p.1 (strip (joinF p.2 .nil)) (bsf p.1)) → Reads w0.heap.size w' rb S (done ++ (pend ++ [(g, its)]).flatMap (fun p => bsf p.1))) :
    OInv T T' w0 wr v (pend ++ newPd L) (g :: done) rb S := by
  have hg := h.grow
  simp only [rowCells, List.append_nil] at hg
  refine ⟨h.row, h.each, h.apart, h.vout, fun b hb => ?_, h.below, fun w' bsf hb' hd hr => ?_⟩
  · rcases List.mem_cons.1 hb with rfl | hb
    · exact heap_lt h.grow
    · exact h.lt b hb
  · have hap := h.apart
    have hgp : ∀ p, p ∈ pend → p.1 ≠ g := fun p hp e => by
      have h1 := (List.nodup_append.1 hap).2.2 p.1 (List.mem_map_of_mem (by simp [hp])) g (by simp)
      exact h1 e
    obtain ⟨F, q1, q2, q3, q4, q5⟩ := wand w' (fun b => if b = g then g :: (newPd L).flatMap (fun p => bsf p.1) else bsf b) hb' (fun b hb => by
      rw [hd b (by simp [hb])]
      exact h.old b hb) fun p hp => by
        rcases List.mem_append.1 hp with hp | hp
        · simp only [if_neg (hgp p hp)]
          exact hr p (by simp [hp])
        · have : p = (g, its) := by simpa using hp
          subst this
          simp only [if_true]
          refine reads_row (T := T) h.gfrom hpos hm hs (fun q hq => hr q (by simp [hq])) ?_
          rw [hd g (by simp)]
          exact hg
    refine ⟨F, q1, q2, q3, q4, q5.trans ?_⟩
    have e1 : pend.flatMap (fun p => if p.1 = g then g :: (newPd L).flatMap (fun p => bsf p.1) else bsf p.1) = pend.flatMap (fun p => bsf p.1) := by
      clear q5 q4 q3 q2 q1 hr hd hs hm wand h hg hap
      induction pend with
      | nil => rfl
      | cons a l ih =>
        rw [List.flatMap_cons, List.flatMap_cons, if_neg (hgp a (by simp)), ih fun p hp => hgp p (by simp [hp])]
    rw [List.flatMap_append, e1, List.flatMap_append]
    simp only [List.flatMap_cons, List.flatMap_nil, if_true, List.append_nil]
    rw [← List.append_assoc, List.cons_append]
    refine List.perm_middle.trans ?_
    rw [List.append_assoc]

/-- Where the next item of the row lies. -/
theorem InInv.cells {T T' : Nat} {w0 wq wr : World} {v : Value} {pend : List Pd} {g : Nat} {done : List Nat} {L : List Ni} {i : It} {rest : List It} (h : InInv T T' w0 wq wr v pend g done L (i :: rest)) :
    wr.cell? ⟨g, L.length * 2, none⟩ = some (.string i.1) ∧ wr.cell? ⟨g, L.length * 2 + 1, none⟩ = some (.slice i.2.1 (flen i.2.2.2) i.2.2.1) ∧ (∀ o, wr.frozen? ⟨g, o, none⟩ = false) ∧ g < wr.heap.size := by
  have hl := rowNew_length L
  refine ⟨?_, ?_, fun o => by simp [World.frozen?, h.grow], heap_lt h.grow⟩
  · rw [cell_of_row wr g _ _ T (0, 0) h.grow, ← hl]
    simp [rowCells, itCells]
  · rw [cell_of_row wr g _ _ T (0, 0) h.grow, ← hl]
    simp [rowCells, itCells]

theorem drop_step {its : List It} {i : Nat} (h : i < its.length) : ∃ it, its[i]? = some it ∧ its.drop i = it :: its.drop (i + 1) ∧ its.take (i + 1) = its.take i ++ [it] :=
  ⟨its[i], List.getElem?_eq_getElem h, List.drop_eq_getElem_cons h, by rw [List.take_succ_eq_append_getElem h]⟩

theorem itNodes_mem : ∀ {l : List It} {i : It}, i ∈ l → 1 + fnodes i.2.2.2 ≤ itNodes l
  | [], _, h => by simp at h
  | a :: l, i, h => by
    rcases List.mem_cons.1 h with rfl | h
    · simp [itNodes]
    · have := itNodes_mem h
      simp [itNodes]; omega
theorem itNodes_take : ∀ (l : List It) (n : Nat), itNodes (l.take n) ≤ itNodes l
  | [], n => by simp
  | a :: l, 0 => by simp [itNodes]
  | a :: l, n + 1 => by have := itNodes_take l n; simp [itNodes]; omega

theorem SmallF.items : ∀ {f : Fo}, SmallF f → ∀ i, i ∈ itemsF f → i.1.size ≤ 1000 ∧ SmallF i.2.2.2
  | .nil, _, i, h => by simp [itemsF] at h
  | .node _ _ x k r, ⟨h1, h2, h3⟩, i, h => by
    simp only [itemsF, List.mem_cons] at h
    rcases h with rfl | h
    · exact ⟨h1, h2⟩
    · exact SmallF.items h3 i h

theorem smallF_drop : ∀ (j : Nat) {f : Fo}, SmallF f → SmallF (fdrop j f)
  | 0, _, h => h
  | _ + 1, .nil, _ => trivial
  | j + 1, .node _ _ _ _ _, ⟨_, _, h3⟩ => smallF_drop j h3

theorem list_news' (w : World) (T : TypeId) (v : Value) (n : Nat) (hn : w.heap.size = n) (j : Nat) (u : Value) (h : [v][j]? = some u) : (w.alloc (Obj.cells #[v] T)).cell? ((⟨n, 0, none⟩ : Addr).add j) = some u := by
  subst hn
  refine World.news_of_block (cs := #[v]) (t := T) (fr := (0, 0)) ?_ j u h
  show (w.heap.push _)[w.heap.size]? = _
  simp

theorem list_news (w : World) (T : TypeId) (v : Value) (j : Nat) (u : Value) (h : [v][j]? = some u) : (w.alloc (Obj.cells #[v] T)).cell? ((⟨w.heap.size, 0, none⟩ : Addr).add j) = some u := by
  refine World.news_of_block (cs := #[v]) (t := T) (fr := (0, 0)) ?_ j u h
  show (w.heap.push _)[w.heap.size]? = _
  simp

end Go.Proofs.Ytcknganggcbkjab
namespace Go.Proofs.Ytcknganggcbkjab
open Go.Deep Go.RowKit
set_option linter.unusedVariables false
set_option maxRecDepth 20000

theorem Try.infoList : (Try.prog.info? 22).map (fun i => (i.zero, i.size, i.bytes)) = some (some (.slice none 0 0), 1, 24) := by kernel_rfl

set_option maxHeartbeats 1600000 in
theorem own_nd (s : ByteArray) (ka : Option Addr) (cap : Nat) (k : Fo) (w : World) (ht : TIn w s ka cap k) (hp : FPlain w k) (hn : 1 + fnodes k ≤ 200) (hs : s.size ≤ 1000) (hsm : SmallF k) :
    Calls Try.prog 54 #[.agg #[.string s, .slice ka (flen k) cap]] w fun e w' => ∃ ka' cap' k', e = .returned (.agg #[.string s, .slice ka' (flen k') cap']) ∧ strip k' = strip k ∧ TIn w' s ka' cap' k' ∧ FFrom w.heap.size k' ∧ FPlain w' k' ∧ (ab k').Nodup ∧ Below w.heap.size w w' := by
  have hbox : Below w.heap.size w ((w.alloc (Obj.cells #[Value.string s, Value.slice ka (flen k) cap] 24)).alloc (Obj.cells #[Value.string ⟨#[]⟩, Value.slice none 0 0] 24)) :=
    ((Below.refl _ _).alloc (Nat.le_refl _) _).alloc (by simp) _
  obtain ⟨i22, hi22, hy0, hy1, hy2⟩ := info_parts Try.infoList
  have hne : ((1 : Int) + (fnodes k : Int) == 9223372036854775807) = false := beq_eq_false_iff_ne.2 (by omega)
  go_enter Try.func54, Try.ntmps54
  go_wp2_with fail
  refine (size_any s ka cap k _ (ht.below hbox) (hp.below hbox) hn).mono ?_
  rintro e w1 ⟨rfl, hb1⟩
  have hc0 : w1.cell? ⟨w.heap.size, 0, none⟩ = some (.string s) := by (rw [hb1.cell (by simp; omega)]; go_simp)
  have hc1 : w1.cell? ⟨w.heap.size, 1, none⟩ = some (.slice ka (flen k) cap) := by (rw [hb1.cell (by simp; omega)]; go_simp)
  have hd0 : w1.cell? ⟨w.heap.size + 1, 0, none⟩ = some (.string ⟨#[]⟩) := by (rw [hb1.cell (by simp)]; go_simp)
  have hd1 : w1.cell? ⟨w.heap.size + 1, 1, none⟩ = some (.slice none 0 0) := by (rw [hb1.cell (by simp)]; go_simp)
  have hf0 : w1.frozen? ⟨w.heap.size + 1, 0, none⟩ = false := by (rw [hb1.frozen (by simp)]; go_simp)
  have hf1 : w1.frozen? ⟨w.heap.size + 1, 1, none⟩ = false := by (rw [hb1.frozen (by simp)]; go_simp)
  have hz1' : w.heap.size + 1 < w1.heap.size := by have := hb1.size; simp at this; omega
  have hz1'' : w.heap.size < w1.heap.size := by omega
  have hbW := hbox.trans (hb1.mono (by simp; omega))
  have ht1 := ht.below hbW
  have hstart : OInv 24 22 w1 ((w1.alloc (Obj.cells #[Value.string s, Value.slice ka (flen k) cap] 24)).alloc (Obj.cells #[Value.slice (some ⟨w1.heap.size, 0, none⟩) 1 1] 22)) (.slice (some ⟨w1.heap.size + 1, 0, none⟩) 1 1) [(w1.heap.size, [(s, ka, cap, k)])] [] w1.heap.size (strip (.node 0 0 (s, ka, cap) k .nil)) := by
    have e : (w1.alloc (Obj.cells #[Value.string s, Value.slice ka (flen k) cap] 24)).heap.size = w1.heap.size + 1 := by simp
    have h2 := heap_alloc_new (w1.alloc (Obj.cells #[Value.string s, Value.slice ka (flen k) cap] 24)) (Obj.cells #[Value.slice (some ⟨w1.heap.size, 0, none⟩) 1 1] 22)
    rw [e] at h2
    refine ⟨⟨rfl, Or.inr ⟨w1.heap.size + 1, 1, _, rfl, by omega, h2, by simp, by simp [maxLen], rfl, by simp [pdCell]⟩⟩, fun p hp => ?_, by simp, fun q hq => ?_, fun b hb => by simp at hb, ((Below.refl _ _).alloc (Nat.le_refl _) _).alloc (by simp) _, fun w' bsf _ _ hr => ?_⟩
    · have : p = (w1.heap.size, [(s, ka, cap, k)]) := by simpa using hp
      subst this
      refine ⟨Nat.le_refl _, ?_, by simp, fun i hi => ?_⟩
      · rw [Below.heap_alloc _ _ _ (by simp), heap_alloc_new]
        simp [rowCells, itCells]
      · have : i = (s, ka, cap, k) := by simpa using hi
        subst this
        exact ⟨ht1, hs, hsm⟩
    · simp only [Value.ownBlock, Option.some.injEq] at hq
      simp
      omega
    · have := hr (w1.heap.size, [(s, ka, cap, k)]) (by simp)
      simpa [joinF] using this
  have HS := hide hstart
  clear hstart
  go_wp2_with fail
  go_loopg [4] (1 + fnodes k) (fun gk v wr => ∃ (pend : List Pd) (done : List Nat), gk = pTot pend ∧ pTot pend ≤ 200 ∧ OInv 24 22 w1 wr v pend done w1.heap.size (strip (.node 0 0 (s, ka, cap) k .nil)))
  case atStart => exact ⟨_, _, by simp [pTot, itNodes], by simp [pTot, itNodes]; omega, HS.out⟩
  case round =>
    obtain ⟨pend, done, hgk, hpt, hI⟩ := hrel
    rcases List.eq_nil_or_concat pend with hfs | ⟨pend0, t, hfs⟩
    · subst hfs
      obtain ⟨F, hF1, hF2, hF3, hF4, hF5⟩ := hI.wand wr (fun _ => []) hI.below (fun _ _ => rfl) (fun p hp => by simp at hp)
      have hnd : (ab F).Nodup := by
        refine hF5.nodup_iff.2 ?_
        have := hI.apart
        simpa using this
      clear hF5
      cases F with
      | nil => simp [strip] at hF2
      | node b' o' x kk r =>
        simp only [strip, BT.node.injEq, Prod.mk.injEq] at hF2
        obtain ⟨_, _, ⟨hx1, _, _⟩, hkk, hr⟩ := hF2
        obtain ⟨hc0', hc1', htin, _⟩ := hF1.head
        rw [hx1] at hc0' htin
        have hbl := hI.below
        have hd0' : wr.cell? ⟨w.heap.size + 1, 0, none⟩ = some (.string ⟨#[]⟩) := by rw [hbl.cell hz1']; exact hd0
        have hd1' : wr.cell? ⟨w.heap.size + 1, 1, none⟩ = some (.slice none 0 0) := by rw [hbl.cell hz1']; exact hd1
        have hf0' : wr.frozen? ⟨w.heap.size + 1, 0, none⟩ = false := by rw [hbl.frozen hz1']; exact hf0
        have hf1' : wr.frozen? ⟨w.heap.size + 1, 1, none⟩ = false := by rw [hbl.frozen hz1']; exact hf1
        have hbF : Below w.heap.size w wr := hbW.trans (hbl.mono (by omega))
        have hndk : (ab kk).Nodup := by
          have h1 := (List.nodup_append.1 hnd).2.1
          simp only [lb] at h1
          exact (List.nodup_append.1 h1).1
        clear hnd
        have HK := hide hkk
        have HX := hide hx1
        have hrow := hI.row.2
        simp only [List.length_nil] at hrow
        clear hkk hx1 hr hI hF1
        rcases hrow with ⟨rfl, _⟩ | ⟨g, cap2, cur, rfl, _⟩
        all_goals
          go_wp2_with fail
          refine bodyPost_ret (v := .agg #[.string s, .slice x.2.1 (flen kk) x.2.2]) (by simp [results, Try.results54, go_sem, *]) rfl ⟨x.2.1, x.2.2, kk, rfl, HK.out, ?_, hF3.2.1.mono (by omega), ?_, hndk, ?_⟩
          · exact TIn.but (g := w.heap.size + 1) (set2_but _ _ _ _ _ _) (hF3.2.1.off (by omega)) htin
          · exact FPlain.but (g := w.heap.size + 1) (set2_but _ _ _ _ _ _) (hF3.2.1.off (by omega)) hF4.2.1
          · exact (hbF.setCell (by simp) _).setCell (by simp) _
    · rw [List.concat_eq_append] at hfs
      subst hfs
      obtain ⟨g, its⟩ := t
      have hrow := hI.row
      simp only [List.length_append, List.length_cons, List.length_nil] at hrow
      obtain ⟨tg, cap2, rfl, hg1, hg2, hg3, hg4⟩ := own1_form hrow (by omega)
      have hcT : wr.cell? ⟨tg, pend0.length, none⟩ = some (.slice (some ⟨g, 0, none⟩) its.length its.length) := own1_cell hrow _ _ (by simp [pdCell])
      unfold maxLen at hg4
      have HI := hide hI
      have HG := hide hgk
      have hpl := pTot_len _ (fun p hp => (hI.each p hp).pos)
      simp only [List.length_append, List.length_cons, List.length_nil] at hpl
      have hsl : ∀ wx, (Instr.slice 115 (.slice (some ⟨tg, 0, none⟩) (pend0.length + 1) cap2) none (some (.int .i64 (pend0.length : Int))) none).run Try.prog wx = .ok (.slice (some ⟨tg, 0, none⟩) pend0.length cap2) wx := fun wx => by
        rw [run_slice_h wx 115 _ _ _ Try.underlying115 .i64 _ (by omega) (by omega)]
        simp [go_sem, sliced, Addr.add]
      clear hI hgk hrow
      go_wp2_with fail
      go_loopg [4, 32] its.length (fun gk v c wi => ∃ (L : List Ni), c = .int .i64 L.length ∧ gk = its.length - L.length ∧ L.length ≤ its.length ∧ Match (its.take L.length) L ∧ InInv 24 22 w1 wr wi v (pend0 ++ newPd L) g done L (its.drop L.length))
      case atStart => exact ⟨[], rfl, by simp, by simp, trivial, by simpa [newPd] using HI.out.take (Below.refl _ _)⟩
      case round =>
        rename_i wi
        obtain ⟨L, rfl, hgi, hle, hma, hin⟩ := hrel
        have hpg := HI.out.each (g, its) (by simp)
        by_cases hlt : L.length < its.length
        · obtain ⟨it, hit, hdr, htk⟩ := drop_step hlt
          rw [hdr] at hin
          obtain ⟨hr0, hr1, hrf, hgl⟩ := hin.cells
          obtain ⟨hi1, hi2, hi3⟩ := hpg.each it (List.mem_of_getElem? hit)
          have hiz := itNodes_mem (List.mem_of_getElem? hit)
          have hitl := itNodes_len its
          have hpt' := hpt
          rw [pTot_append] at hpt'
          simp only [pTot] at hpt'
          have HIN := hide hin
          have HGI := hide hgi
          have HM := hide hma
          clear hgi hin hma hdr hit
          go_wp2_with fail
          have hbA : Below wr.heap.size wr (wr.alloc (Obj.cells #[Value.string it.1, Value.slice it.2.1 (flen it.2.2.2) it.2.2.1] 24)) := (Below.refl _ _).alloc (Nat.le_refl _) _
          have hbI := HIN.out.below
          refine (ownNode_any it.1 it.2.1 it.2.2.1 it.2.2.2 _ (hi1.below (hbI.trans (hbA.mono hbI.size))) hi2 (by omega)).mono ?_
          rintro e w2 ⟨he, hb2⟩
          have hbB : Below wr.heap.size wr w2 := hbA.trans (hb2.mono (by simp))
          have hin2 := HIN.out.on hbB
          obtain ⟨hs0, hs1, hsf, hgl2⟩ := hin2.cells
          have hn1 : w2.cell? ⟨wr.heap.size, 1, none⟩ = some (.slice it.2.1 (flen it.2.2.2) it.2.2.1) := by (rw [hb2.cell (by simp)]; go_simp)
          have HIN2 := hide hin2
          have hmt := HM.out.tot
          have hit2 := itNodes_take its L.length
          have hplen : (pend0 ++ newPd L).length ≤ 200 := by
            have := pTot_len _ (fun p hp => (HIN.out.each p hp).pos)
            rw [pTot_append] at this
            omega
          have hitl2 : its.length ≤ 200 := by omega
          clear hin2 hmt hit2
          rcases he with ⟨hk0, rfl⟩ | ⟨hk0, g', rfl, hg'1, hg'2⟩
          · have HK := hide hk0
            clear hk0
            have hin3 := HIN2.out.put (it.1, none) rfl
            have HIN3 := hide hin3
            have hm3 := HM.out.snoc (i := it) (n := (it.1, none)) ⟨rfl, Or.inl ⟨HK.out, rfl⟩⟩
            rw [← htk] at hm3
            have HM3 := hide hm3
            clear hin3 hm3
            have hkb : ¬ (0 : Int) < (flen it.2.2.2 : Int) := by have := HK.out; omega
            go_wp2_with fail
            go_roundg (its.length - (L.length + 1))
            case measure => have := HGI.out; omega
            case rel => exact ⟨L ++ [(it.1, none)], by simp, by simp, by simp; omega, by simpa using HM3.out, by simpa [newPd_append, niKids] using HIN3.out⟩
          · have hkb : (0 : Int) < (flen it.2.2.2 : Int) := by omega
            have HG2 := hide hg'2
            have hin3 := HIN2.out.put (w1 := (w2.setCell ⟨g, L.length * 2, none⟩ (.string it.1)).setCell ⟨g, L.length * 2 + 1, none⟩ (.slice (some ⟨g', 0, none⟩) (flen it.2.2.2) (flen it.2.2.2))) (it.1, some (g', itemsF it.2.2.2)) (by simp [niKids, pdCell, itemsF_length])
            have hg'g : g' ≠ g := by simp at hg'1; omega
            have hpd : PdOk w1 ((w2.setCell ⟨g, L.length * 2, none⟩ (.string it.1)).setCell ⟨g, L.length * 2 + 1, none⟩ (.slice (some ⟨g', 0, none⟩) (flen it.2.2.2) (flen it.2.2.2))) 24 (g', itemsF it.2.2.2) := by
              refine ⟨by simp at hg'1 ⊢; have := hbI.size; omega, ?_, by rw [itemsF_length]; omega, fun i hi => ?_⟩
              · rw [Below.heap_setCell _ _ _ _ hg'g, Below.heap_setCell _ _ _ _ hg'g]
                exact HG2.out
              · rcases hi1.kids with hk | ⟨kb, ko, _, hk⟩
                · rw [hk] at hi; simp [itemsF] at hi
                · exact ⟨hk.items i hi, (hi3.items i hi).1, (hi3.items i hi).2⟩
            have hfresh : ¬ g' ∈ (pend0 ++ newPd L).map (·.1) ++ g :: done := fun hm => by
              have hl : g' < wr.heap.size := by
                rcases List.mem_append.1 hm with hm | hm
                · obtain ⟨q, hq, rfl⟩ := List.mem_map.1 hm
                  exact heap_lt (HIN.out.each q hq).row
                · rcases List.mem_cons.1 hm with rfl | hm
                  · exact heap_lt HIN.out.grow
                  · exact HIN.out.lt _ hm
              simp at hg'1
              omega
            have hpv : ∀ q, u4.ownBlock = some q → q ≠ g' := fun q hq e => by
              have := (own1_block HIN.out.row hq).2
              simp at hg'1
              omega
            have hrow3 := hin3.row
            have hm3 := HM.out.snoc (i := it) (n := (it.1, some (g', itemsF it.2.2.2))) ⟨rfl, Or.inr ⟨hk0, g', rfl⟩⟩
            rw [← htk] at hm3
            have HM3 := hide hm3
            have HIN3 := hide hin3
            have HPD := hide hpd
            have HFR := hide hfresh
            have HPV := hide hpv
            have HRW := hide hrow3
            clear hin3 hg'2 hpd hfresh hpv hm3 hrow3
            have hz3 : w1.heap.size ≤ w2.heap.size := by have := hbI.size; have := hbB.size; omega
            go_wp2_with (at_builtin; refine wpList_append_lies _ rfl (.tmp 46) (.tmp 52) 115 rfl w1.heap.size 22 i22 _ 1 24 Try.underlying115 hi22 hy0 hy1 hy2 rfl (by decide) _ (pend0 ++ newPd L).length _ rfl (by exact own1_same HRW.out (fun q hq => Below.heap_alloc _ _ _ (own1_block HRW.out hq).2)) ⟨w2.heap.size, 0, none⟩ 1 1 [.slice (some ⟨g', 0, none⟩) (flen it.2.2.2) (flen it.2.2.2)] rfl rfl (by exact list_news' _ _ _ _ (by simp [World.setCell])) (by intro u hu; simp at hu; subst hu; rfl) (by decide) (by unfold maxLen; omega) (by omega) (by simp [World.setCell]; omega) (w2.heap.size + 1) (by simp [World.setCell]) ?_)
            intro gv cap3 w3 hown hgrow hat hlt3
            have hin4 := HIN3.out.more (gv := gv) (cap := cap3) HPD.out HFR.out HPV.out (by simpa [pdCell, itemsF_length] using hown) hgrow (by simpa [World.setCell] using hat)
            have HIN4 := hide hin4
            clear hin4 hown hgrow hat
            go_wp2_with fail
            go_roundg (its.length - (L.length + 1))
            case measure => have := HGI.out; omega
            case rel =>
              refine ⟨L ++ [(it.1, some (g', itemsF it.2.2.2))], by simp, by simp, by simp; omega, by simpa using HM3.out, ?_⟩
              have := HIN4.out
              simpa [newPd_append, List.append_assoc] using this
        · have hLe : L.length = its.length := by omega
          have hma' := hma
          rw [hLe, List.take_length] at hma'
          rw [hLe, List.drop_length] at hin
          have hfin := hin.finish hma' (hpos := hpg.pos) (fun i hi => ⟨by have := (hpg.each i hi).2.1; unfold maxLen; omega, by have := itNodes_mem hi; have := hpt; rw [pTot_append] at this; simp only [pTot] at this; unfold maxLen; omega⟩) HI.out.wand
          have htt := hma'.tot
          have HF := hide hfin
          clear hfin hin hma hma'
          go_wp2_with fail
          go_roundg (pTot (pend0 ++ newPd L))
          case measure =>
            have := HG.out
            have := hpg.pos
            rw [pTot_append] at *
            simp only [pTot] at *
            omega
          case rel =>
            refine ⟨_, _, rfl, ?_, HF.out⟩
            rw [pTot_append] at *
            simp only [pTot] at *
            omega

theorem own_any (s : ByteArray) (ka : Option Addr) (cap : Nat) (k : Fo) (w : World) (ht : TIn w s ka cap k) (hp : FPlain w k) (hn : 1 + fnodes k ≤ 200) (hs : s.size ≤ 1000) (hsm : SmallF k) :
    Calls Try.prog 54 #[.agg #[.string s, .slice ka (flen k) cap]] w fun e w' => ∃ ka' cap' k', e = .returned (.agg #[.string s, .slice ka' (flen k') cap']) ∧ strip k' = strip k ∧ TIn w' s ka' cap' k' ∧ FFrom w.heap.size k' ∧ FPlain w' k' ∧ Below w.heap.size w w' :=
  (own_nd s ka cap k w ht hp hn hs hsm).mono fun e w' ⟨ka', cap', k', h1, h2, h3, h4, h5, _, h6⟩ => ⟨ka', cap', k', h1, h2, h3, h4, h5, h6⟩

end Go.Proofs.Ytcknganggcbkjab
