/- The steps of a walk through a tree: a list of the way is at its end, a node is met, a list more comes. Of no program. -/
import Derived.Test.YtpgiagkbfnbgkabWalkInv
import Derived.Test.YtpgiagkbfnbgkabProg
namespace Go.Proofs.Ytpgiagkbfnbgkab
open Go.Deep Go.RowKit
set_option linter.unusedVariables false
set_option maxRecDepth 20000

theorem ownsRow_block {w w' : World} {B T n : Nat} {v : Value} {xs : List Value} (h : w.ownsRow B T 2 v n xs) (hb : ∀ g, v.ownBlock = some g → w'.heap[g]? = w.heap[g]?) : w'.ownsRow B T 2 v n xs := by
  obtain ⟨h1, h2⟩ := h
  refine ⟨h1, ?_⟩
  rcases h2 with h2 | ⟨g, cap, cur, hv, hg, hh, r⟩
  · exact Or.inl h2
  · exact Or.inr ⟨g, cap, cur, hv, hg, by rw [hb g (by rw [hv]; rfl)]; exact hh, r⟩

theorem frSt_map_snoc (fs : List Fr) (t : Fr) : (fs ++ [t]).map frSt = fs.map frSt ++ [frSt t] := by simp

/-- A world behind which nothing of the first world's, and not the way's row, has turned. -/
theorem WInv.on {C : List Nat} {T H : Nat} {w1 wr w2 : World} {v : Value} {fs : List Fr} (h : WInv C T H w1 wr v fs) (hk : Keeps C wr w2) (hC : ∀ c, c ∈ C → c < w1.heap.size) : WInv C T H w1 w2 v fs :=
  ⟨h.each, h.high, ownsRow_block h.row fun g hg => by
    obtain ⟨h1, h2⟩ := ownBlock_lt h.row hg
    exact hk.block g h2 fun hm => by have := hC g hm; omega, h.keeps.trans hk⟩

theorem WInv.pop {C : List Nat} {T H : Nat} {w1 wr w2 : World} {fs : List Fr} {t : Fr} {g cap : Nat} (h : WInv C T H w1 wr (.slice (some ⟨g, 0, none⟩) (fs.length + 1) cap) (fs ++ [t])) (hb : Below wr.heap.size wr w2) : WInv C T H w1 w2 (.slice (some ⟨g, 0, none⟩) fs.length cap) fs := by
  have hr := h.row
  simp only [List.length_append, List.length_cons, List.length_nil, frSt_map_snoc, wayCells_append] at hr
  exact ⟨fun f hf => h.each f (by simp [hf]), high_init h.high, ownsRow_below (own_pop hr (by simp [wayCells_length])) hb, h.keeps.trans (Keeps.of_below hb)⟩

/-- The node at the place that comes next has been met; the number is one more. -/
theorem WInv.next {C : List Nat} {T H : Nat} {w1 wr w2 : World} {fs : List Fr} {A : Addr} {cp j : Nat} {F : Fo} {g cap : Nat} (h : WInv C T H w1 wr (.slice (some ⟨g, 0, none⟩) (fs.length + 1) cap) (fs ++ [(A, cp, j, F)])) (hj : j < flen F)
    (hb : Below (wr.setCell ⟨g, fs.length * 2 + 1, none⟩ (.int .i64 ((j : Int) + 1))).heap.size (wr.setCell ⟨g, fs.length * 2 + 1, none⟩ (.int .i64 ((j : Int) + 1))) w2) : WInv C T H w1 w2 (.slice (some ⟨g, 0, none⟩) (fs.length + 1) cap) (fs ++ [(A, cp, j + 1, F)]) := by
  have hr := h.row
  simp only [List.length_append, List.length_cons, List.length_nil, frSt_map_snoc] at hr
  have hg := ownBlock_lt hr (g := g) rfl
  have hr2 := own_set (.int .i64 ((j : Int) + 1)) hr (show fs.length * 2 + 1 < (fs.length + 1) * 2 by omega)
  have e := wayCells_set (fs.map frSt) (frSt (A, cp, j, F)) (frSt (A, cp, j + 1, F)) rfl rfl rfl
  rw [List.length_map] at e
  rw [show ((frSt (A, cp, j + 1, F)).2.2.2 : Int) = (j : Int) + 1 by simp [frSt]] at e
  rw [e] at hr2
  refine ⟨fun f hf => ?_, high_last (t := (A, cp, j, F)) rfl h.high, by simpa only [List.length_append, List.length_cons, List.length_nil, frSt_map_snoc] using ownsRow_below hr2 hb, ?_⟩
  · rcases List.mem_append.1 hf with hf | hf
    · exact h.each f (by simp [hf])
    · have : f = (A, cp, j + 1, F) := by simpa using hf
      subst this
      obtain ⟨h1, h2⟩ := h.each (A, cp, j, F) (by simp)
      exact ⟨⟨h1.spot, h1.pos, h1.len, h1.cap, by simp only; omega, h1.lies, h1.plain, h1.off⟩, h2⟩
  · refine h.keeps.below (Below.trans (b := wr.setCell ⟨g, fs.length * 2 + 1, none⟩ (.int .i64 ((j : Int) + 1))) ?_ (hb.mono (by simp [World.setCell]; exact h.keeps.size)))
    exact (Below.refl _ _).setCell hg.1 _

/-- The kids of the node that was met are the next list of the way. -/
theorem WInv.push {C : List Nat} {T H : Nat} {w1 wr w2 w3 : World} {v : Value} {fs : List Fr} {A : Addr} {cp j b o g cap : Nat} {F kk r : Fo} {x : ByteArray × Option Addr × Nat} {A' : Addr} {ob : Obj}
    (h : WInv C T H w1 wr v (fs ++ [(A, cp, j + 1, F)])) (he : fdrop j F = .node b o x kk r) (hA : x.2.1 = some A') (hkk : 0 < flen kk) 
    (hown : w3.ownsRow w1.heap.size T 2 (.slice (some ⟨g, 0, none⟩) (fs.length + 1 + 1) cap) (fs.length + 1 + 1) (wayCells ((fs ++ [(A, cp, j + 1, F)]).map frSt) ++ stCells (A', flen kk, x.2.2, 0)))
    (hgrow : (wr.alloc ob).grownBy w3 v.ownBlock) (hb : Below w3.heap.size w3 w2) :
    WInv C T H w1 w2 (.slice (some ⟨g, 0, none⟩) (fs.length + 1 + 1) cap) (fs ++ [(A, cp, j + 1, F)] ++ [(A', x.2.2, 0, kk)]) := by
  obtain ⟨h1, h2⟩ := h.each (A, cp, j + 1, F) (by simp)
  have hl := FIn.drop j h1.lies
  have hpl := FPlain.drop j h1.plain
  have hhi := fhigh_kid he
  simp only at hl hpl
  rw [he] at hl hpl
  obtain ⟨hc0, hc1, htin, _⟩ := hl.head
  have hnew : FrOk C w1 (A', x.2.2, 0, kk) := by
    rcases htin.kids with hk | ⟨kb, ko, e, hk⟩
    · rw [hk] at hkk; simp [flen] at hkk
    · rw [hA] at e
      simp only [Option.some.injEq] at e
      subst e
      exact ⟨rfl, hkk, htin.len, htin.cap, Nat.zero_le _, hk, hpl.2.1, fun c hc => by
        have := foff_drop j (h1.off c hc)
        simp only at this
        rw [he] at this
        exact this.2.1⟩
  have hb3 : Below w1.heap.size wr w3 := ((Below.refl _ _).alloc h.keeps.size _).grown hgrow (by have := h.keeps.size; simp; omega) fun q hq => (ownBlock_lt h.row hq).1
  refine ⟨fun f hf => ?_, high_snoc hhi h.high, ?_, ?_⟩
  · rcases List.mem_append.1 hf with hf | hf
    · exact h.each f hf
    · have : f = (A', x.2.2, 0, kk) := by simpa using hf
      subst this
      exact ⟨hnew, by simp only at h2 ⊢; omega⟩
  · have := ownsRow_below hown hb
    rw [← wayCells_append] at this
    simpa [frSt] using this
  · exact h.keeps.below (hb3.trans (hb.mono (Nat.le_trans h.keeps.size hb3.size)))

/-- The premises of comesBack. -/
theorem WInv.plain {C : List Nat} {T H : Nat} {w1 wr : World} {v : Value} {fs : List Fr} (h : WInv C T H w1 wr v fs) : ∀ s, s ∈ fs.map frSt → BPlain wr s.1.block := fun s hs => by
  obtain ⟨f, hf, rfl⟩ := List.mem_map.1 hs
  obtain ⟨h1, _⟩ := h.each f hf
  obtain ⟨A, cp, j, F⟩ := f
  cases F with
  | nil => have := h1.pos; simp [flen] at this
  | node b o x k r =>
    have hb : b = A.block := h1.lies.1
    have hp := h1.plain.1
    have hn : ¬ b ∈ C := fun hm => (h1.off b hm).1 rfl
    have hlt := BPlain.lt hp
    obtain ⟨c, e, hp'⟩ := hp
    refine ⟨c, e, ?_⟩
    show wr.heap[A.block]? = _
    rw [← hb, h.keeps.block b hlt hn]
    exact hp'
theorem WInv.caps {C : List Nat} {T H : Nat} {w1 wr : World} {v : Value} {fs : List Fr} (h : WInv C T H w1 wr v fs) : (∀ s, s ∈ fs.map frSt → 0 < s.2.1) ∧ ∀ s, s ∈ fs.map frSt → s.2.1 ≤ s.2.2.1 ∧ s.2.2.1 ≤ maxLen := by
  refine ⟨fun s hs => ?_, fun s hs => ?_⟩
  · obtain ⟨f, hf, rfl⟩ := List.mem_map.1 hs
    exact (h.each f hf).1.pos
  · obtain ⟨f, hf, rfl⟩ := List.mem_map.1 hs
    exact ⟨(h.each f hf).1.len, (h.each f hf).1.cap⟩

/-- comesBack, asked of the way. -/
theorem WInv.back {C : List Nat} {T H g n cap : Nat} {w1 wr : World} {fs : List Fr} (h : WInv C T H w1 wr (.slice (some ⟨g, 0, none⟩) n cap) fs) (hH : H ≤ 256) (hn : fs.length = n) (h0 : 0 < n) :
    Calls Try.prog 68 #[.slice (some ⟨g, 0, none⟩) n cap] wr fun e w' => e = .returned (.bool false) ∧ Below wr.heap.size wr w' := by
  subst hn
  have hr := h.row
  obtain ⟨g', cap', cur, hv, _, _, _, hc, _⟩ := own_form hr h0
  simp only [Value.slice.injEq, Option.some.injEq, Addr.mk.injEq] at hv
  obtain ⟨⟨rfl, _, _⟩, _, rfl⟩ := hv
  have := back_any (fs.map frSt) g cap wr (by have := h.len; simp; omega) (by simpa using h0) (by simpa using hc) (ownsRow_cell hr) h.plain h.caps.1 h.caps.2 h.diff
  simpa using this

theorem way_news (w : World) (T : TypeId) (A : Addr) (l c : Nat) (j : Nat) (u : Value) (h : (stCells (A, l, c, 0))[j]? = some u) : (w.alloc (Obj.cells #[.slice (some A) l c, .int .i64 0] T)).cell? ((⟨w.heap.size, 0, none⟩ : Addr).add j) = some u := by
  refine World.news_of_block (cs := #[.slice (some A) l c, .int .i64 0]) (t := T) (fr := (0, 0)) ?_ j u h
  show (w.heap.push _)[w.heap.size]? = _
  simp
theorem way_one (s : St) : ∀ u ∈ stCells s, u.oneCell' = true := by
  intro u hu
  simp [stCells] at hu
  rcases hu with rfl | rfl <;> rfl

theorem rem_pop {fs : List Fr} {A : Addr} {cp j : Nat} {F : Fo} (h : j = flen F) : remF (fs ++ [(A, cp, j, F)]) 0 = remF fs 0 := by
  rw [remF_snoc, fdrop_end j F (by omega)]
  rfl
theorem rem_next {fs : List Fr} {A : Addr} {cp j b o : Nat} {F kk : Fo} {x : ByteArray × Option Addr × Nat} (h : fdrop j F = .node b o x kk (fdrop (j + 1) F)) :
    remF (fs ++ [(A, cp, j, F)]) 0 = (x.1, fs.length) :: (pre kk (fs.length + 1) ++ remF (fs ++ [(A, cp, j + 1, F)]) 0) := by
  rw [remF_snoc, remF_snoc]
  simp only [h, pre, Nat.zero_add, List.cons_append, List.append_assoc]
theorem rem_push {fs : List Fr} {t : Fr} {A : Addr} {cp : Nat} {kk : Fo} : remF (fs ++ [t] ++ [(A, cp, 0, kk)]) 0 = pre kk (fs.length + 1) ++ remF (fs ++ [t]) 0 := by
  rw [remF_snoc]
  simp [fdrop]

end Go.Proofs.Ytpgiagkbfnbgkab
