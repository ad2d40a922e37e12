/- The walk through a tree whose memory bears whatever marks: what its loop keeps. Of no program. -/
import Derived.Test.YtpjlajjbioploabProg
import Derived.Test.YtpjlajjbioploabWalkStep
import Derived.Test.YtpjlajjbioploabRBack
namespace Go.Proofs.Ytpjlajjbioploab.Raw
open Go.Deep Go.RowKit
set_option linter.unusedVariables false
set_option maxRecDepth 20000

structure FrOk (C : List Nat) (w : World) (f : Fr) : Prop where
  spot : f.1.spot = none
  pos : 0 < flen f.2.2.2
  len : flen f.2.2.2 ≤ f.2.1
  cap : f.2.1 ≤ maxLen
  next : f.2.2.1 ≤ flen f.2.2.2
  lies : FIn w f.2.2.2 f.1.block f.1.off
  plain : FCold w f.2.2.2
  off : ∀ c, c ∈ C → FOff c f.2.2.2

structure WInv (C : List Nat) (T H : Nat) (w1 wr : World) (v : Value) (fs : List Fr) : Prop where
  each : ∀ f, f ∈ fs → FrOk C w1 f ∧ fhigh f.2.2.2 ≤ H
  high : ∀ (i j : Nat) (f g : Fr), i < j → fs[i]? = some f → fs[j]? = some g → fhigh g.2.2.2 < fhigh f.2.2.2
  row : wr.ownsRow w1.heap.size T 2 v fs.length (wayCells (fs.map frSt))
  keeps : Keeps C w1 wr

theorem WInv.len {C : List Nat} {T H : Nat} {w1 wr : World} {v : Value} {fs : List Fr} (h : WInv C T H w1 wr v fs) : fs.length ≤ H := by
  cases hfs : fs with
  | nil => simp
  | cons f l =>
    have h0 : fs[0]? = some f := by rw [hfs]; rfl
    have := high_len (fun f hf => (h.each f hf).1.pos) h.high _ 0 f rfl h0
    have := (h.each f (by rw [hfs]; simp)).2
    rw [← hfs]
    omega

/-- No two lists of a way are the same. -/
theorem WInv.diff {C : List Nat} {T H : Nat} {w1 wr : World} {v : Value} {fs : List Fr} (h : WInv C T H w1 wr v fs) :
    ∀ (i j : Nat) (s t : St), i < j → (fs.map frSt)[i]? = some s → (fs.map frSt)[j]? = some t → ¬ (s.2.1 = t.2.1 ∧ s.1 = t.1) := by
  intro i j s t hij hs ht ⟨e1, e2⟩
  rw [List.getElem?_map] at hs ht
  obtain ⟨f, hf, rfl⟩ := Option.map_eq_some_iff.1 hs
  obtain ⟨g, hg, rfl⟩ := Option.map_eq_some_iff.1 ht
  have h1 := (h.each f (List.mem_of_getElem? hf)).1
  have h2 := (h.each g (List.mem_of_getElem? hg)).1
  have hh := h.high i j f g hij hf hg
  simp only [frSt] at e1 e2
  have l1 := h1.lies
  rw [e2] at l1
  rw [FIn.uniq l1 h2.lies e1] at hh
  omega

/-- A world behind which nothing of the first world's, and not the way's row, has turned. -/
theorem WInv.on {C : List Nat} {T H : Nat} {w1 wr w2 : World} {v : Value} {fs : List Fr} (h : WInv C T H w1 wr v fs) (hk : Keeps C wr w2) (hC : ∀ c, c ∈ C → c < w1.heap.size) : WInv C T H w1 w2 v fs :=
  ⟨h.each, h.high, ownsRow_block h.row fun g hg => by
    obtain ⟨h1, h2⟩ := ownBlock_lt h.row hg
    exact hk.block g h2 fun hm => by have := hC g hm; omega, h.keeps.trans hk⟩

theorem WInv.pop {C : List Nat} {T H : Nat} {w1 wr w2 : World} {fs : List Fr} {t : Fr} {g cap : Nat} (h : WInv C T H w1 wr (.slice (some ⟨g, 0, none⟩) (fs.length + 1) cap) (fs ++ [t])) (hb : Below wr.heap.size wr w2) : WInv C T H w1 w2 (.slice (some ⟨g, 0, none⟩) fs.length cap) fs := by
  have hr := h.row
  simp only [List.length_append, List.length_cons, List.length_nil, frSt_map_snoc, wayCells_append] at hr
  exact ⟨fun f hf => h.each f (by simp [hf]), high_init h.high, ownsRow_below (own_pop hr (by simp [wayCells_length])) hb, h.keeps.trans (Keeps.of_below hb)⟩

/-- The node at the place that comes next has been met; the number is one more. -/
theorem WInv.next {C : List Nat} {T H : Nat} {w1 wr w2 : World} {fs : List Fr} {A : Addr} {cp j : Nat} {F : Fo} {g cap : Nat} (h : WInv C T H w1 wr (.slice (some ⟨g, 0, none⟩) (fs.length + 1) cap) (fs ++ [(A, cp, j, F)])) (hj : j < flen F)
    (hb : Below (wr.setCell ⟨g, fs.length * 2 + 1, none⟩ (.int .i64 ((j : Int) + 1))).heap.size (wr.setCell ⟨g, fs.length * 2 + 1, none⟩ (.int .i64 ((j : Int) + 1))) w2) : WInv C T H w1 w2 (.slice (some ⟨g, 0, none⟩) (fs.length + 1) cap) (fs ++ [(A, cp, j + 1, F)]) := by
  have hr := h.row
  simp only [List.length_append, List.length_cons, List.length_nil, frSt_map_snoc] at hr
  have hg := ownBlock_lt hr (g := g) rfl
  have hr2 := own_set (.int .i64 ((j : Int) + 1)) hr (show fs.length * 2 + 1 < (fs.length + 1) * 2 by omega)
  have e := wayCells_set (fs.map frSt) (frSt (A, cp, j, F)) (frSt (A, cp, j + 1, F)) rfl rfl rfl
  rw [List.length_map] at e
  rw [show ((frSt (A, cp, j + 1, F)).2.2.2 : Int) = (j : Int) + 1 by simp [frSt]] at e
  rw [e] at hr2
  refine ⟨fun f hf => ?_, high_last (t := (A, cp, j, F)) rfl h.high, by simpa only [List.length_append, List.length_cons, List.length_nil, frSt_map_snoc] using ownsRow_below hr2 hb, ?_⟩
  · rcases List.mem_append.1 hf with hf | hf
    · exact h.each f (by simp [hf])
    · have : f = (A, cp, j + 1, F) := by simpa using hf
      subst this
      obtain ⟨h1, h2⟩ := h.each (A, cp, j, F) (by simp)
      exact ⟨⟨h1.spot, h1.pos, h1.len, h1.cap, by simp only; omega, h1.lies, h1.plain, h1.off⟩, h2⟩
  · refine h.keeps.below (Below.trans (b := wr.setCell ⟨g, fs.length * 2 + 1, none⟩ (.int .i64 ((j : Int) + 1))) ?_ (hb.mono (by simp [World.setCell]; exact h.keeps.size)))
    exact (Below.refl _ _).setCell hg.1 _

/-- The kids of the node that was met are the next list of the way. -/
theorem WInv.push {C : List Nat} {T H : Nat} {w1 wr w2 w3 : World} {v : Value} {fs : List Fr} {A : Addr} {cp j b o g cap : Nat} {F kk r : Fo} {x : ByteArray × Option Addr × Nat} {A' : Addr} {ob : Obj}
    (h : WInv C T H w1 wr v (fs ++ [(A, cp, j + 1, F)])) (he : fdrop j F = .node b o x kk r) (hA : x.2.1 = some A') (hkk : 0 < flen kk) 
    (hown : w3.ownsRow w1.heap.size T 2 (.slice (some ⟨g, 0, none⟩) (fs.length + 1 + 1) cap) (fs.length + 1 + 1) (wayCells ((fs ++ [(A, cp, j + 1, F)]).map frSt) ++ stCells (A', flen kk, x.2.2, 0)))
    (hgrow : (wr.alloc ob).grownBy w3 v.ownBlock) (hb : Below w3.heap.size w3 w2) :
    WInv C T H w1 w2 (.slice (some ⟨g, 0, none⟩) (fs.length + 1 + 1) cap) (fs ++ [(A, cp, j + 1, F)] ++ [(A', x.2.2, 0, kk)]) := by
  obtain ⟨h1, h2⟩ := h.each (A, cp, j + 1, F) (by simp)
  have hl := FIn.drop j h1.lies
  have hpl := FCold.drop j h1.plain
  have hhi := fhigh_kid he
  simp only at hl hpl
  rw [he] at hl hpl
  obtain ⟨hc0, hc1, htin, _⟩ := hl.head
  have hnew : FrOk C w1 (A', x.2.2, 0, kk) := by
    rcases htin.kids with hk | ⟨kb, ko, e, hk⟩
    · rw [hk] at hkk; simp [flen] at hkk
    · rw [hA] at e
      simp only [Option.some.injEq] at e
      subst e
      exact ⟨rfl, hkk, htin.len, htin.cap, Nat.zero_le _, hk, hpl.2.1, fun c hc => by
        have := foff_drop j (h1.off c hc)
        simp only at this
        rw [he] at this
        exact this.2.1⟩
  have hb3 : Below w1.heap.size wr w3 := ((Below.refl _ _).alloc h.keeps.size _).grown hgrow (by have := h.keeps.size; simp; omega) fun q hq => (ownBlock_lt h.row hq).1
  refine ⟨fun f hf => ?_, high_snoc hhi h.high, ?_, ?_⟩
  · rcases List.mem_append.1 hf with hf | hf
    · exact h.each f hf
    · have : f = (A', x.2.2, 0, kk) := by simpa using hf
      subst this
      exact ⟨hnew, by simp only at h2 ⊢; omega⟩
  · have := ownsRow_below hown hb
    rw [← wayCells_append] at this
    simpa [frSt] using this
  · exact h.keeps.below (hb3.trans (hb.mono (Nat.le_trans h.keeps.size hb3.size)))

/-- The premises of comesBack. -/
theorem WInv.plain {C : List Nat} {T H : Nat} {w1 wr : World} {v : Value} {fs : List Fr} (h : WInv C T H w1 wr v fs) : ∀ s, s ∈ fs.map frSt → BCold wr s.1.block s.1.off := fun s hs => by
  obtain ⟨f, hf, rfl⟩ := List.mem_map.1 hs
  obtain ⟨h1, _⟩ := h.each f hf
  obtain ⟨A, cp, j, F⟩ := f
  cases F with
  | nil => have := h1.pos; simp [flen] at this
  | node b o x k r =>
    have hb : b = A.block := h1.lies.1
    have ho : o = A.off := h1.lies.2.1
    have hp := h1.plain.1
    have hn : ¬ b ∈ C := fun hm => (h1.off b hm).1 rfl
    have hlt := BCold.lt hp
    show BCold wr A.block A.off
    rw [← hb, ← ho]
    exact hp.of_block (h.keeps.block b hlt hn)

theorem WInv.caps {C : List Nat} {T H : Nat} {w1 wr : World} {v : Value} {fs : List Fr} (h : WInv C T H w1 wr v fs) : (∀ s, s ∈ fs.map frSt → 0 < s.2.1) ∧ ∀ s, s ∈ fs.map frSt → s.2.1 ≤ s.2.2.1 ∧ s.2.2.1 ≤ maxLen := by
  refine ⟨fun s hs => ?_, fun s hs => ?_⟩
  · obtain ⟨f, hf, rfl⟩ := List.mem_map.1 hs
    exact (h.each f hf).1.pos
  · obtain ⟨f, hf, rfl⟩ := List.mem_map.1 hs
    exact ⟨(h.each f hf).1.len, (h.each f hf).1.cap⟩

/-- comesBack, asked of the way. -/
theorem WInv.back {C : List Nat} {T H g n cap : Nat} {w1 wr : World} {fs : List Fr} (h : WInv C T H w1 wr (.slice (some ⟨g, 0, none⟩) n cap) fs) (hH : H ≤ 256) (hn : fs.length = n) (h0 : 0 < n) :
    Calls Try.prog 40 #[.slice (some ⟨g, 0, none⟩) n cap] wr fun e w' => (∃ r, e = .returned (.bool r)) ∧ Below wr.heap.size wr w' := by
  subst hn
  have hr := h.row
  obtain ⟨g', cap', cur, hv, _, _, _, hc, _⟩ := own_form hr h0
  simp only [Value.slice.injEq, Option.some.injEq, Addr.mk.injEq] at hv
  obtain ⟨⟨rfl, _, _⟩, _, rfl⟩ := hv
  have := back_raw (fs.map frSt) g cap wr (by have := h.len; simp; omega) (by simpa using h0) (by simpa using hc) (ownsRow_cell hr) h.plain h.caps.1 h.caps.2 h.diff
  simpa using this

end Go.Proofs.Ytpjlajjbioploab.Raw
