/- Numbers that lie in memory. Of no program. -/
/- What a loop that appends trees, each in new memory, to a list of its own keeps: the list's items so far. Of no program. -/
import Derived.Test.YtkoohfkomlmhoacGreatDoorKDP00
namespace Go.Proofs.YtkoohfkomlmhoacGreatDoor
open Go.Deep Go.RowKit
set_option linter.unusedVariables false
set_option maxRecDepth 20000

/-- The numbers of a path lie in w, behind the address pa. -/
def PIn (w : World) (pa : Option Addr) (ps : List Int) : Prop := ps = [] ∨ ∃ b o, pa = some ⟨b, o, none⟩ ∧ ∀ i p, ps[i]? = some p → w.cell? ⟨b, o + i, none⟩ = some (.int .i64 p)

theorem PIn.below {w w' : World} (h : Below w.heap.size w w') {pa : Option Addr} {ps : List Int} (hk : PIn w pa ps) : PIn w' pa ps := by
  rcases hk with hk | ⟨b, o, e, hk⟩
  · exact Or.inl hk
  · refine Or.inr ⟨b, o, e, fun i p hp => ?_⟩
    have h1 := hk i p hp
    rw [h.cell (World.block_lt_of_cell? _ _ h1)]
    exact h1
end Go.Proofs.YtkoohfkomlmhoacGreatDoor
namespace Go.Proofs.YtkoohfkomlmhoacGreatDoor
open Go.Deep Go.RowKit
set_option linter.unusedVariables false
set_option maxRecDepth 20000

/-- j of the trees of k have been made anew; their items L are the row that v owns, from block B on. -/
structure OwnInv (T : TypeId) (B : Nat) (wr : World) (k : Fo) (v : Value) (j : Nat) (L : List It) : Prop where
  long : L.length = j
  told : strip (joinF L (fdrop j k)) = strip k
  each : ∀ it, it ∈ L → ItIn wr it ∧ FFrom B it.2.2.2 ∧ FPlain wr it.2.2.2 ∧ ∀ g, v.ownBlock = some g → FOff g it.2.2.2
  nod : (L.flatMap fun i => ab i.2.2.2).Nodup
  row : wr.ownsRow B T 2 v j (rowCells L)

theorem place_plain {w : World} {g : Nat} (hg : BPlain w g) : ∀ (l : List It) (o : Nat), (∀ i, i ∈ l → FPlain w i.2.2.2) → FPlain w (place g o l)
  | [], _, _ => trivial
  | a :: l, o, h => ⟨hg, h a (by simp), place_plain hg l (o + 2) fun i hi => h i (by simp [hi])⟩

theorem ownsRow_below {w w' : World} {B T n : Nat} {v : Value} {xs : List Value} (h : w.ownsRow B T 2 v n xs) (hb : Below w.heap.size w w') : w'.ownsRow B T 2 v n xs := by
  obtain ⟨h1, h2⟩ := h
  refine ⟨h1, ?_⟩
  rcases h2 with h2 | ⟨g, cap, cur, hv, hg, hh, r⟩
  · exact Or.inl h2
  · have hlt : g < w.heap.size := by
      rcases Nat.lt_or_ge g w.heap.size with h | h
      · exact h
      · rw [Array.getElem?_eq_none h] at hh; cases hh
    exact Or.inr ⟨g, cap, cur, hv, hg, by rw [hb.block g hlt]; exact hh, r⟩

theorem OwnInv.below {T B : Nat} {w w' : World} {k : Fo} {v : Value} {j : Nat} {L : List It} (h : OwnInv T B w k v j L) (hb : Below w.heap.size w w') : OwnInv T B w' k v j L :=
  ⟨h.long, h.told, fun it hi => ⟨TIn.below hb (h.each it hi).1, (h.each it hi).2.1, (h.each it hi).2.2.1.below hb, (h.each it hi).2.2.2⟩, h.nod, ownsRow_below h.row hb⟩

theorem ownBlock_lt {w : World} {B T n g : Nat} {v : Value} {xs : List Value} (h : w.ownsRow B T 2 v n xs) (hg : v.ownBlock = some g) : B ≤ g ∧ g < w.heap.size := by
  rcases h.2 with ⟨h2, _⟩ | ⟨g', cap, cur, hv, hb, hh, r⟩
  · subst h2; cases hg
  · subst hv
    simp only [Value.ownBlock, Option.some.injEq] at hg
    subst hg
    refine ⟨hb, ?_⟩
    rcases Nat.lt_or_ge g' w.heap.size with h | h
    · exact h
    · rw [Array.getElem?_eq_none h] at hh; cases hh

theorem OwnInv.step {T B : Nat} {wr w1 w3 : World} {k kk k' : Fo} {v : Value} {j b o cap cap' g : Nat} {x : ByteArray × Option Addr × Nat} {ka' : Option Addr} {L : List It} {ob : Obj}
    (h : OwnInv T B wr k v j L) (hb1 : Below wr.heap.size wr w1) (he : fdrop j k = .node b o x kk (fdrop (j + 1) k)) (hst : strip k' = strip kk) (ht : TIn w1 x.1 ka' cap' k') (hpl : FPlain w1 k') (hnd : (ab k').Nodup) (hfr : FFrom wr.heap.size k') (hB : B ≤ wr.heap.size)
    (hown : w3.ownsRow B T 2 (.slice (some ⟨g, 0, none⟩) (j + 1) cap) (j + 1) (rowCells L ++ itCells (x.1, ka', cap', k'))) (hgrow : (w1.alloc ob).grownBy w3 v.ownBlock) (hat : v.ownBlock = some g ∨ g = w1.heap.size + 1) :
    OwnInv T B w3 k (.slice (some ⟨g, 0, none⟩) (j + 1) cap) (j + 1) (L ++ [(x.1, ka', cap', k')]) := by
  have h1 := h.below hb1
  have hsame : ∀ b, b < w1.heap.size → some b ≠ v.ownBlock → w3.heap[b]? = w1.heap[b]? := fun b hlt hne => by
    rw [hgrow.block b (by simp; omega) hne, Below.heap_alloc _ _ _ hlt]
  have keep : ∀ it : It, ItIn w1 it → (∀ g, v.ownBlock = some g → FOff g it.2.2.2) → ItIn w3 it := fun it hi hoff => by
    cases hv : v.ownBlock with
    | none => exact TIn.but (g := w1.heap.size) (fun b hlt _ => hsame b hlt (by rw [hv]; simp)) (hi.kids.off (Nat.le_refl _)) hi
    | some g0 => exact TIn.but (g := g0) (fun b hlt hne => hsame b hlt (by rw [hv]; simpa using hne)) (hoff g0 hv) hi
  have keepP : ∀ it : It, ItIn w1 it → FPlain w1 it.2.2.2 → (∀ g, v.ownBlock = some g → FOff g it.2.2.2) → FPlain w3 it.2.2.2 := fun it hi hq hoff => by
    cases hv : v.ownBlock with
    | none => exact FPlain.but (g := w1.heap.size) (fun b hlt _ => hsame b hlt (by rw [hv]; simp)) (hi.kids.off (Nat.le_refl _)) hq
    | some g0 => exact FPlain.but (g := g0) (fun b hlt hne => hsame b hlt (by rw [hv]; simpa using hne)) (hoff g0 hv) hq
  have newoff : ∀ g0, v.ownBlock = some g0 → FOff g0 k' := fun g0 hv => hfr.off (ownBlock_lt h.row hv).2
  have off : ∀ it : It, ItIn w1 it → (∀ g, v.ownBlock = some g → FOff g it.2.2.2) → ∀ g', (Value.slice (some ⟨g, 0, none⟩) (j + 1) cap).ownBlock = some g' → FOff g' it.2.2.2 := fun it hi hoff g' hg' => by
    simp only [Value.ownBlock, Option.some.injEq] at hg'
    subst hg'
    rcases hat with hat | hat
    · exact hoff _ hat
    · exact hi.kids.off (by omega)
  refine ⟨by simp [h.long], join_step h.told he hst, fun it hi => ?_, ?_, by rw [rowCells_append]; exact hown⟩
  rotate_left
  · rw [List.flatMap_append, List.nodup_append]
    refine ⟨h.nod, by simpa using hnd, fun a ha b hb' e => ?_⟩
    obtain ⟨it, hit, ha'⟩ := List.mem_flatMap.1 ha
    have h2 := ab_lt (h.each it hit).1.kids a ha'
    have h3 := ab_from hfr b (by simpa using hb')
    omega
  rcases List.mem_append.1 hi with hi | hi
  · obtain ⟨e1, e2, e4, e3⟩ := h1.each it hi
    exact ⟨keep it e1 e3, e2, keepP it e1 e4 e3, off it e1 e3⟩
  · have : it = (x.1, ka', cap', k') := by simpa using hi
    subst this
    exact ⟨keep _ ht newoff, hfr.mono hB, keepP _ ht hpl newoff, off _ ht newoff⟩

theorem own_news (w1 : World) (T : TypeId) (i : It) (j : Nat) (u : Value) (h : (itCells i)[j]? = some u) : (w1.alloc (Obj.cells #[.string i.1, .slice i.2.1 (flen i.2.2.2) i.2.2.1] T)).cell? ((⟨w1.heap.size, 0, none⟩ : Addr).add j) = some u := by
  refine World.news_of_block (cs := #[.string i.1, .slice i.2.1 (flen i.2.2.2) i.2.2.1]) (t := T) (fr := (0, 0)) ?_ j u h
  show (w1.heap.push _)[w1.heap.size]? = _
  simp

theorem own_one (i : It) : ∀ u ∈ itCells i, u.oneCell' = true := by
  intro u hu
  simp [itCells] at hu
  rcases hu with rfl | rfl <;> rfl

/-- At the end the value is a list of all of them. -/
theorem OwnInv.done {T B : Nat} {wr : World} {k : Fo} {v : Value} {j : Nat} {L : List It} (h : OwnInv T B wr k v j L) (hj : flen k ≤ j) :
    ∃ ka cap k', v = .slice ka (flen k') cap ∧ strip k' = strip k ∧ flen k' ≤ cap ∧ cap ≤ maxLen ∧ KIn wr ka k' ∧ FFrom B k' ∧ FPlain wr k' ∧ (ab k').Nodup := by
  have ht := h.told
  rw [fdrop_end j k hj] at ht
  rcases h.row.2 with ⟨hv, hn⟩ | ⟨g, cap, cur, hv, hg, hh, h1, h2, h3, h4⟩
  · have : L = [] := List.eq_nil_of_length_eq_zero (by rw [h.long, hn])
    subst this
    exact ⟨none, 0, .nil, by rw [hv]; rfl, ht, Nat.le_refl _, Nat.zero_le _, Or.inl rfl, trivial, trivial, by simp [ab, hb, lb]⟩
  · refine ⟨some ⟨g, 0, none⟩, cap, place g 0 L, by rw [hv, flen_place, h.long], by rw [strip_place]; exact ht, by rw [flen_place, h.long]; exact h1, h2, Or.inr ⟨g, 0, rfl, ?_⟩, place_from hg L 0 fun i hi => (h.each i hi).2.1, place_plain ⟨_, _, hh⟩ L 0 fun i hi => (h.each i hi).2.2.1, ?_⟩
    · have hr := h.row
      rw [hv] at hr
      exact place_in L 0 (fun i hi => (h.each i hi).1) (ownsRow_cell hr)
    · rw [ab, lb_place]
      cases hL : L with
      | nil => simp [place, hb]
      | cons i l =>
        rw [← hL]
        have e : hb (place g 0 L) = [g] := by rw [hL]; rfl
        rw [e, List.singleton_append, List.nodup_cons]
        refine ⟨fun hm => ?_, h.nod⟩
        obtain ⟨it, hit, hm'⟩ := List.mem_flatMap.1 hm
        exact ab_off ((h.each it hit).2.2.2 g (by rw [hv]; rfl)) hm'

end Go.Proofs.YtkoohfkomlmhoacGreatDoor
