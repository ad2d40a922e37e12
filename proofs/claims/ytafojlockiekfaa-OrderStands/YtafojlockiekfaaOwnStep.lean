/- The steps of tree.Own's loops: a list is taken, an item of it is made new, its new list is put behind the others, a list is done. Of no program. -/
import Derived.Test.YtafojlockiekfaaOwnLoop
namespace Go.Proofs.Ytafojlockiekfaa
open Go.Deep Go.RowKit
set_option linter.unusedVariables false
set_option maxRecDepth 20000

theorem heap_lt {w : World} {b : Nat} {o : Obj} (h : w.heap[b]? = some o) : b < w.heap.size := by
  rcases Nat.lt_or_ge b w.heap.size with h' | h'
  · exact h'
  · rw [Array.getElem?_eq_none h'] at h; cases h

theorem own1_block {w : World} {B T n g : Nat} {v : Value} {xs : List Value} (h : w.ownsRow B T 1 v n xs) (hg : v.ownBlock = some g) : B ≤ g ∧ g < w.heap.size := by
  rcases h.2 with ⟨h2, _⟩ | ⟨g', cap, cur, hv, hb, hh, r⟩
  · subst h2; cases hg
  · subst hv
    simp only [Value.ownBlock, Option.some.injEq] at hg
    subst hg
    exact ⟨hb, heap_lt hh⟩
theorem own1_same {w w' : World} {B T n : Nat} {v : Value} {xs : List Value} (h : w.ownsRow B T 1 v n xs) (hb : ∀ g, v.ownBlock = some g → w'.heap[g]? = w.heap[g]?) : w'.ownsRow B T 1 v n xs := by
  obtain ⟨h1, h2⟩ := h
  refine ⟨h1, ?_⟩
  rcases h2 with h2 | ⟨g, cap, cur, hv, hg, hh, r⟩
  · exact Or.inl h2
  · exact Or.inr ⟨g, cap, cur, hv, hg, by rw [hb g (by rw [hv]; rfl)]; exact hh, r⟩
theorem own1_pop {w : World} {B T n g cap : Nat} {xs ys : List Value} (h : w.ownsRow B T 1 (.slice (some ⟨g, 0, none⟩) (n + 1) cap) (n + 1) (xs ++ ys)) (hx : xs.length = n) : w.ownsRow B T 1 (.slice (some ⟨g, 0, none⟩) n cap) n xs := by
  refine ⟨by omega, Or.inr ?_⟩
  rcases h.2 with ⟨h0, _⟩ | ⟨g', cap', cur, hv, hb, hh, h1, h2, h3, h4⟩
  · cases h0
  · simp only [Value.slice.injEq, Option.some.injEq, Addr.mk.injEq] at hv
    obtain ⟨⟨rfl, _, _⟩, _, rfl⟩ := hv
    refine ⟨g, cap, cur, rfl, hb, hh, by omega, h2, h3, ?_⟩
    have := congrArg (List.take (n * 1)) h4
    rw [List.take_take, show min (n * 1) ((n + 1) * 1) = n * 1 by omega, List.take_append_of_le_length (by omega), List.take_of_length_le (l := xs) (by omega)] at this
    exact this
theorem own1_form {w : World} {B T n : Nat} {v : Value} {xs : List Value} (h : w.ownsRow B T 1 v n xs) (hn : 0 < n) :
    ∃ g cap, v = .slice (some ⟨g, 0, none⟩) n cap ∧ B ≤ g ∧ g < w.heap.size ∧ n ≤ cap ∧ cap ≤ maxLen := by
  rcases h.2 with ⟨_, h0⟩ | ⟨g, cap, cur, hv, hb, hh, h1, h2, h3, h4⟩
  · omega
  · exact ⟨g, cap, hv, hb, heap_lt hh, h1, h2⟩
theorem own1_cell {w : World} {B T g n cap : Nat} {xs : List Value} (h : w.ownsRow B T 1 (.slice (some ⟨g, 0, none⟩) n cap) n xs) : ∀ j u, xs[j]? = some u → w.cell? ⟨g, j, none⟩ = some u := by
  intro j u hu
  rcases h.2 with ⟨h0, _⟩ | ⟨g', cap', cur, hv, hb, hh, h1, h2, h3, h4⟩
  · cases h0
  · simp only [Value.slice.injEq, Option.some.injEq, Addr.mk.injEq] at hv
    obtain ⟨⟨rfl, _, _⟩, _, rfl⟩ := hv
    have hj : j < xs.length := (List.getElem?_eq_some_iff.1 hu).1
    have hl := h.1
    rw [cell_of_row w g j cur T (0, 0) hh]
    rw [← h4, List.getElem?_take_of_lt (by omega)] at hu
    simpa using hu

theorem PdOk.same {w0 wr w1 : World} {T : Nat} {p : Pd} (h : PdOk w0 wr T p) (hb : w1.heap[p.1]? = wr.heap[p.1]?) : PdOk w0 w1 T p := ⟨h.from', by rw [hb]; exact h.row, h.pos, h.each⟩

/-- What the inner loop keeps: wq is the world in which the list g was taken. -/
structure InInv (T T' : Nat) (w0 wq wr : World) (v : Value) (pend : List Pd) (g : Nat) (done : List Nat) (L : List Ni) (rest : List It) : Prop where
  grow : wr.heap[g]? = some (.cells (rowNew L ++ rowCells rest).toArray T (0, 0))
  row : wr.ownsRow w0.heap.size T' 1 v pend.length (pend.map pdCell)
  each : ∀ p, p ∈ pend → PdOk w0 wr T p
  apart : (pend.map (·.1) ++ g :: done).Nodup
  vout : ∀ q, v.ownBlock = some q → ¬ q ∈ pend.map (·.1) ++ g :: done
  lt : ∀ b, b ∈ done → b < wr.heap.size
  gfrom : w0.heap.size ≤ g
  below : Below w0.heap.size w0 wr
  old : ∀ b, b ∈ done → wr.heap[b]? = wq.heap[b]?

/-- A step that turns no block that was there, but one that is none of these. -/
theorem InInv.on {T T' : Nat} {w0 wq wr w1 : World} {v : Value} {pend : List Pd} {g : Nat} {done : List Nat} {L : List Ni} {rest : List It} (h : InInv T T' w0 wq wr v pend g done L rest) (hb : Below wr.heap.size wr w1) : InInv T T' w0 wq w1 v pend g done L rest := by
  refine ⟨?_, own1_same h.row fun q hq => hb.block q (own1_block h.row hq).2, fun p hp => (h.each p hp).same (hb.block _ (heap_lt (h.each p hp).row)), h.apart, h.vout, fun b hb' => Nat.lt_of_lt_of_le (h.lt b hb') hb.size, h.gfrom, h.below.trans (hb.mono h.below.size), fun b hb' => ?_⟩
  · rw [hb.block g (heap_lt h.grow)]; exact h.grow
  · rw [hb.block b (h.lt b hb')]; exact h.old b hb'

theorem set_two {A R : List Value} {c0 c1 a b : Value} : ((A ++ c0 :: c1 :: R).set A.length a).set (A.length + 1) b = A ++ a :: b :: R := by
  rw [List.set_append_right _ _ (Nat.le_refl _), Nat.sub_self, List.set_cons_zero, List.set_append_right _ _ (by omega)]
  simp

/-- The next item is made new. -/
theorem InInv.put {T T' : Nat} {w0 wq wr w1 : World} {v : Value} {pend : List Pd} {g : Nat} {done : List Nat} {L : List Ni} {i : It} {rest : List It} (n : Ni) (h : InInv T T' w0 wq wr v pend g done L (i :: rest))
    (hw : w1 = (wr.setCell ⟨g, L.length * 2, none⟩ (.string n.1)).setCell ⟨g, L.length * 2 + 1, none⟩ (niKids n.2)) : InInv T T' w0 wq w1 v pend g done (L ++ [n]) rest := by
  subst hw
  have hoth : ∀ b, b ≠ g → ((wr.setCell ⟨g, L.length * 2, none⟩ (.string n.1)).setCell ⟨g, L.length * 2 + 1, none⟩ (niKids n.2)).heap[b]? = wr.heap[b]? := fun b hb => by
    rw [Below.heap_setCell _ _ _ _ hb, Below.heap_setCell _ _ _ _ hb]
  have hnp : ¬ g ∈ pend.map (·.1) := fun hm => (List.nodup_append.1 h.apart).2.2 g hm g (by simp) rfl
  have hnd : ¬ g ∈ done := (List.nodup_cons.1 (List.nodup_append.1 h.apart).2.1).1
  have hvg : ∀ q, v.ownBlock = some q → q ≠ g := fun q hq e => h.vout q hq (by simp [e])
  refine ⟨?_, own1_same h.row fun q hq => hoth q (hvg q hq), fun p hp => (h.each p hp).same (hoth _ fun e => hnp (e ▸ List.mem_map_of_mem hp)), h.apart, h.vout, fun b hb => by simpa [World.setCell] using h.lt b hb, h.gfrom, (h.below.setCell h.gfrom _).setCell h.gfrom _, fun b hb => by rw [hoth b (fun e => hnd (e ▸ hb))]; exact h.old b hb⟩
  have hl := rowNew_length L
  simp only [World.setCell, Array.getElem?_modify, if_true, h.grow, Option.map_some, Option.isSome_none, Bool.false_eq_true, if_false]
  congr 2
  rw [List.setIfInBounds_toArray, List.setIfInBounds_toArray]
  congr 1
  rw [rowNew_append, ← hl]
  simp only [rowCells, itCells, List.cons_append, List.nil_append, niCells, List.append_assoc]
  exact set_two

/-- A new list comes behind the others. -/
theorem InInv.more {T T' : Nat} {w0 wq wr w3 : World} {v : Value} {pend : List Pd} {g gv cap : Nat} {done : List Nat} {L : List Ni} {rest : List It} {p : Pd} {ob : Obj} (h : InInv T T' w0 wq wr v pend g done L rest)
    (hp : PdOk w0 wr T p) (hfresh : ¬ p.1 ∈ pend.map (·.1) ++ g :: done) (hpv : ∀ q, v.ownBlock = some q → q ≠ p.1)
    (hown : w3.ownsRow w0.heap.size T' 1 (.slice (some ⟨gv, 0, none⟩) (pend.length + 1) cap) (pend.length + 1) (pend.map pdCell ++ [pdCell p])) (hgrow : (wr.alloc ob).grownBy w3 v.ownBlock) (hat : v.ownBlock = some gv ∨ gv = wr.heap.size + 1) :
    InInv T T' w0 wq w3 (.slice (some ⟨gv, 0, none⟩) (pend.length + 1) cap) (pend ++ [p]) g done L rest := by
  have hsame : ∀ b, b < wr.heap.size → (∀ q, v.ownBlock = some q → q ≠ b) → w3.heap[b]? = wr.heap[b]? := fun b hlt hne => by
    rw [hgrow.block b (by simp; omega) (fun e => hne b e.symm rfl), Below.heap_alloc _ _ _ hlt]
  have hlt : ∀ b, b ∈ pend.map (·.1) ++ g :: done → b < wr.heap.size := fun b hb => by
    rcases List.mem_append.1 hb with hb | hb
    · obtain ⟨q, hq, rfl⟩ := List.mem_map.1 hb
      exact heap_lt (h.each q hq).row
    · rcases List.mem_cons.1 hb with rfl | hb
      · exact heap_lt h.grow
      · exact h.lt b hb
  have hin : ∀ b, b ∈ pend.map (·.1) ++ g :: done → w3.heap[b]? = wr.heap[b]? := fun b hb => hsame b (hlt b hb) fun q hq e => h.vout q hq (e ▸ hb)
  have hps := hsame p.1 (heap_lt hp.row) hpv
  have hgv : ¬ gv ∈ (pend ++ [p]).map (·.1) ++ g :: done := fun hm => by
    have hm' : gv ∈ pend.map (·.1) ++ g :: done ∨ gv = p.1 := by
      simp only [List.map_append, List.map_cons, List.map_nil, List.mem_append, List.mem_cons, List.not_mem_nil, or_false] at hm ⊢
      rcases hm with (hm | hm) | hm
      · exact Or.inl (Or.inl hm)
      · exact Or.inr hm
      · exact Or.inl (Or.inr hm)
    rcases hat with hat | hat
    · rcases hm' with hm' | hm'
      · exact h.vout gv hat hm'
      · exact hpv gv hat hm'
    · rcases hm' with hm' | hm'
      · have := hlt gv hm'; omega
      · have := heap_lt hp.row; omega
  refine ⟨by rw [hin g (by simp)]; exact h.grow, by simpa using hown, fun q hq => ?_, ?_, fun q hq => ?_, fun b hb => Nat.lt_of_lt_of_le (h.lt b hb) (Nat.le_trans (by simp) hgrow.size), h.gfrom, (h.below.alloc h.below.size ob).grown hgrow (by have := h.below.size; simp; omega) fun q hq => (own1_block h.row hq).1, fun b hb => by rw [hin b (by simp [hb])]; exact h.old b hb⟩
  · rcases List.mem_append.1 hq with hq | hq
    · exact (h.each q hq).same (hin _ (by simp only [List.mem_append]; exact Or.inl (List.mem_map_of_mem hq)))
    · have : q = p := by simpa using hq
      subst this
      exact hp.same hps
  · have h1 := h.apart
    rw [List.map_append, List.map_cons, List.map_nil, List.append_assoc]
    rw [List.nodup_append] at h1 ⊢
    refine ⟨h1.1, ?_, ?_⟩
    · rw [List.singleton_append, List.nodup_cons]
      exact ⟨fun hm => hfresh (by simp only [List.mem_append]; exact Or.inr hm), h1.2.1⟩
    · intro a ha b hb e
      simp only [List.singleton_append, List.mem_cons] at hb
      rcases hb with rfl | hb
      · exact hfresh (by simp only [List.mem_append]; exact Or.inl (e ▸ ha))
      · exact h1.2.2 a ha b (by simpa using hb) e
  · simp only [Value.ownBlock, Option.some.injEq] at hq
    subst hq
    exact hgv

/-- A list is taken: the last one. -/
theorem OInv.take {T T' : Nat} {w0 wr w1 : World} {pend : List Pd} {g tg cap : Nat} {its : List It} {done : List Nat} {rb : Nat} {S : Fo} (h : OInv T T' w0 wr (.slice (some ⟨tg, 0, none⟩) (pend.length + 1) cap) (pend ++ [(g, its)]) done rb S) (hb : Below wr.heap.size wr w1) :
    InInv T T' w0 wr w1 (.slice (some ⟨tg, 0, none⟩) pend.length cap) pend g done [] its := by
  have hr := h.row
  simp only [List.length_append, List.length_cons, List.length_nil, List.map_append, List.map_cons, List.map_nil] at hr
  have hp := h.each (g, its) (by simp)
  have hin : InInv T T' w0 wr wr (.slice (some ⟨tg, 0, none⟩) pend.length cap) pend g done [] its := by
    refine ⟨by simpa [rowNew] using hp.row, own1_pop hr (by simp), fun p hp => h.each p (by simp [hp]), ?_, fun q hq => ?_, h.lt, hp.from', h.below, fun _ _ => rfl⟩
    · have := h.apart
      simpa [List.append_assoc] using this
    · have := h.vout q hq
      simpa [List.append_assoc] using this
  exact hin.on hb

/-- A list is done. -/
theorem InInv.finish {T T' : Nat} {w0 wq wr : World} {v : Value} {pend : List Pd} {g : Nat} {its : List It} {done : List Nat} {L : List Ni} {rb : Nat} {S : Fo} (h : InInv T T' w0 wq wr v (pend ++ newPd L) g done L []) (hm : Match its L) (hs : ∀ i, i ∈ its → i.1.size ≤ maxLen ∧ fnodes i.2.2.2 ≤ maxLen)
    (wand : ∀ w', Below w0.heap.size w0 w' → (∀ b, b ∈ done → w'.heap[b]? = wq.heap[b]?) → (∀ p, p ∈ pend ++ [(g, its)] → Reads w0.heap.size w' p.1 (strip (joinF p.2 .nil))) → Reads w0.heap.size w' rb S) :
    OInv T T' w0 wr v (pend ++ newPd L) (g :: done) rb S := by
  have hg := h.grow
  simp only [rowCells, List.append_nil] at hg
  refine ⟨h.row, h.each, h.apart, h.vout, fun b hb => ?_, h.below, fun w' hb' hd hr => ?_⟩
  · rcases List.mem_cons.1 hb with rfl | hb
    · exact heap_lt h.grow
    · exact h.lt b hb
  · refine wand w' hb' (fun b hb => ?_) fun p hp => ?_
    · rw [hd b (by simp [hb])]
      exact h.old b hb
    · rcases List.mem_append.1 hp with hp | hp
      · exact hr p (by simp [hp])
      · have : p = (g, its) := by simpa using hp
        subst this
        refine reads_row (T := T) h.gfrom hm hs (fun q hq => hr q (by simp [hq])) ?_
        rw [hd g (by simp)]
        exact hg

/-- Where the next item of the row lies. -/
theorem InInv.cells {T T' : Nat} {w0 wq wr : World} {v : Value} {pend : List Pd} {g : Nat} {done : List Nat} {L : List Ni} {i : It} {rest : List It} (h : InInv T T' w0 wq wr v pend g done L (i :: rest)) :
    wr.cell? ⟨g, L.length * 2, none⟩ = some (.string i.1) ∧ wr.cell? ⟨g, L.length * 2 + 1, none⟩ = some (.slice i.2.1 (flen i.2.2.2) i.2.2.1) ∧ (∀ o, wr.frozen? ⟨g, o, none⟩ = false) ∧ g < wr.heap.size := by
  have hl := rowNew_length L
  refine ⟨?_, ?_, fun o => by simp [World.frozen?, h.grow], heap_lt h.grow⟩
  · rw [cell_of_row wr g _ _ T (0, 0) h.grow, ← hl]
    simp [rowCells, itCells]
  · rw [cell_of_row wr g _ _ T (0, 0) h.grow, ← hl]
    simp [rowCells, itCells]

theorem drop_step {its : List It} {i : Nat} (h : i < its.length) : ∃ it, its[i]? = some it ∧ its.drop i = it :: its.drop (i + 1) ∧ its.take (i + 1) = its.take i ++ [it] :=
  ⟨its[i], List.getElem?_eq_getElem h, List.drop_eq_getElem_cons h, by rw [List.take_succ_eq_append_getElem h]⟩

theorem itNodes_mem : ∀ {l : List It} {i : It}, i ∈ l → 1 + fnodes i.2.2.2 ≤ itNodes l
  | [], _, h => by simp at h
  | a :: l, i, h => by
    rcases List.mem_cons.1 h with rfl | h
    · simp [itNodes]
    · have := itNodes_mem h
      simp [itNodes]; omega
theorem itNodes_take : ∀ (l : List It) (n : Nat), itNodes (l.take n) ≤ itNodes l
  | [], n => by simp
  | a :: l, 0 => by simp [itNodes]
  | a :: l, n + 1 => by have := itNodes_take l n; simp [itNodes]; omega

theorem SmallF.items : ∀ {f : Fo}, SmallF f → ∀ i, i ∈ itemsF f → i.1.size ≤ 1000 ∧ SmallF i.2.2.2
  | .nil, _, i, h => by simp [itemsF] at h
  | .node _ _ x k r, ⟨h1, h2, h3⟩, i, h => by
    simp only [itemsF, List.mem_cons] at h
    rcases h with rfl | h
    · exact ⟨h1, h2⟩
    · exact SmallF.items h3 i h

theorem smallF_drop : ∀ (j : Nat) {f : Fo}, SmallF f → SmallF (fdrop j f)
  | 0, _, h => h
  | _ + 1, .nil, _ => trivial
  | j + 1, .node _ _ _ _ _, ⟨_, _, h3⟩ => smallF_drop j h3

theorem list_news' (w : World) (T : TypeId) (v : Value) (n : Nat) (hn : w.heap.size = n) (j : Nat) (u : Value) (h : [v][j]? = some u) : (w.alloc (Obj.cells #[v] T)).cell? ((⟨n, 0, none⟩ : Addr).add j) = some u := by
  subst hn
  refine World.news_of_block (cs := #[v]) (t := T) (fr := (0, 0)) ?_ j u h
  show (w.heap.push _)[w.heap.size]? = _
  simp

theorem list_news (w : World) (T : TypeId) (v : Value) (j : Nat) (u : Value) (h : [v][j]? = some u) : (w.alloc (Obj.cells #[v] T)).cell? ((⟨w.heap.size, 0, none⟩ : Addr).add j) = some u := by
  refine World.news_of_block (cs := #[v]) (t := T) (fr := (0, 0)) ?_ j u h
  show (w.heap.push _)[w.heap.size]? = _
  simp

end Go.Proofs.Ytafojlockiekfaa
