/- done of package pleachingref: a node is put in, some kids beneath it. Of the program's text. -/
/- done of package pleachingref: where the deed's place is out of range; a step down the path. Of the program's text. -/
import Derived.Deep.DeepCutAuto
import Derived.Test.YtkoohfkomlmhoacGreatDoorKDP29
import Derived.Test.YtkoohfkomlmhoacGreatDoorKDP04
namespace Go.Proofs.YtkoohfkomlmhoacGreatDoor.Deed
open Go.Deep Go.RowKit
set_option linter.unusedVariables false
set_option maxRecDepth 20000

/-- The tree that is made, its kids so far. -/
structure InsInv (w : World) (s : ByteArray) (ka : Option Addr) (cap : Nat) (k : Fo) (od : Obj) (G : Gs) (wr : World) (va : Option Addr) (vc : Nat) (L : List It) : Prop where
  c0 : wr.heap[w.heap.size]? = some (Obj.cells #[Value.string s, Value.slice ka (flen k) cap] 47)
  c1 : wr.heap[w.heap.size + 1]? = some od
  c2 : wr.heap[w.heap.size + 1 + 1]? = some (Obj.cells #[Value.string ⟨#[]⟩, Value.slice none 0 0] 47)
  c3 : wr.heap[w.heap.size + 1 + 1 + 1]? = some (Obj.cells #[Value.string s, Value.slice va L.length vc] 47)
  kin : KInv 47 (w.heap.size + 1 + 1 + 1 + 1) wr (.slice va L.length vc) L
  told : L.map bareIt = G
  below : Below w.heap.size w wr
  size : w.heap.size + 1 + 1 + 1 + 1 ≤ wr.heap.size

theorem InsInv.next {w : World} {s : ByteArray} {ka : Option Addr} {cap : Nat} {k : Fo} {od : Obj} {G G' : Gs} {wr w3 : World} {va va' : Option Addr} {vc vc' : Nat} {L L' : List It} (h : InsInv w s ka cap k od G wr va vc L) (hB : Below (w.heap.size + 1 + 1 + 1 + 1) wr w3)
    (hK : KInv 47 (w.heap.size + 1 + 1 + 1 + 1) w3 (.slice va' L'.length vc') L') (ht : L'.map bareIt = G') :
    w3.heap[w.heap.size + 1 + 1 + 1]? = some (Obj.cells #[Value.string s, Value.slice va L.length vc] 47) ∧ InsInv w s ka cap k od G' (w3.setCell ⟨w.heap.size + 1 + 1 + 1, 1, none⟩ (.slice va' L'.length vc')) va' vc' L' := by
  have hs := h.size
  have hb3 : ∀ b, b < w.heap.size + 1 + 1 + 1 + 1 → w3.heap[b]? = wr.heap[b]? := fun b hlt => hB.block b hlt
  have hc3 : w3.heap[w.heap.size + 1 + 1 + 1]? = some (Obj.cells #[Value.string s, Value.slice va L.length vc] 47) := by rw [hb3 _ (by omega)]; exact h.c3
  refine ⟨hc3, ?_, ?_, ?_, ?_, ?_, ht, ?_, ?_⟩
  · rw [Below.heap_setCell _ _ _ _ (by simp <;> omega), hb3 _ (by omega)]
    exact h.c0
  · rw [Below.heap_setCell _ _ _ _ (by simp <;> omega), hb3 _ (by omega)]
    exact h.c1
  · rw [Below.heap_setCell _ _ _ _ (by simp <;> omega), hb3 _ (by omega)]
    exact h.c2
  · simp [World.setCell, Array.getElem?_modify, hc3]
  · exact hK.but (g0 := w.heap.size + 1 + 1 + 1) (by omega) fun b _ hb => Below.heap_setCell _ _ _ _ hb
  · exact (h.below.trans (hB.mono (by omega))).setCell (by simp <;> omega) _
  · have := hB.size
    simp
    omega

/-- The node that is put in, in a block of its own. -/
structure KidIn (h : Nat) (wr : World) (bk : Nat) (x : It) (lab : ByteArray) (l : Gs) : Prop where
  blk : wr.heap[bk]? = some (Obj.cells #[.string x.1, .slice x.2.1 (flen x.2.2.2) x.2.2.1] 47)
  tin : ItIn wr x
  lo : h ≤ bk
  frm : FFrom h x.2.2.2
  plain : FPlain wr x.2.2.2
  told : bareIt x = (lab, toFo l)

/-- Its block made ahead of its kids. -/
theorem KidIn.ahead {h bk : Nat} {w5 : World} {lab : ByteArray} {ka : Option Addr} {cap : Nat} {k : Fo} {l : Gs} {a b : Value} (hb : w5.heap[bk]? = some (Obj.cells #[a, b] 47)) (hl : lab.size ≤ maxLen) (h1 : flen k ≤ cap) (h2 : cap ≤ maxLen) (hk : KIn w5 ka k) (hf : FFrom (bk + 1) k) (hh : h ≤ bk) (hp : FPlain w5 k) (hs : strip k = toFo l) :
    KidIn h ((w5.setCell ⟨bk, 0, none⟩ (.string lab)).setCell ⟨bk, 1, none⟩ (.slice ka (flen k) cap)) bk (lab, ka, cap, k) lab l := by
  have ho : FOff bk k := hf.off (by omega)
  refine ⟨by simp [World.setCell, Array.getElem?_modify, hb], TIn.set (TIn.set ⟨hl, h1, h2, hk⟩ ho) ho, hh, hf.mono (by omega), FPlain.set (FPlain.set hp ho) ho, by simp only [bareIt, hs]⟩
/-- Its block made behind its kids. -/
theorem KidIn.behind {h : Nat} {w5 : World} {lab : ByteArray} {ka : Option Addr} {cap : Nat} {k : Fo} {l : Gs} (hl : lab.size ≤ maxLen) (h1 : flen k ≤ cap) (h2 : cap ≤ maxLen) (hk : KIn w5 ka k) (hf : FFrom h k) (hw : h ≤ w5.heap.size) (hp : FPlain w5 k) (hs : strip k = toFo l) :
    KidIn h (w5.alloc (Obj.cells #[.string lab, .slice ka (flen k) cap] 47)) w5.heap.size (lab, ka, cap, k) lab l := by
  have hB : Below w5.heap.size w5 (w5.alloc (Obj.cells #[.string lab, .slice ka (flen k) cap] 47)) := (Below.refl _ _).alloc (Nat.le_refl _) _
  exact ⟨heap_alloc_new _ _, TIn.below hB ⟨hl, h1, h2, hk⟩, hw, hf, hp.below hB, by simp only [bareIt, hs]⟩

/-- What OwnList comes to, as kids of a tree. -/
def OwnKEnd (l : Gs) (w : World) (e : Ending) (w' : World) : Prop := ∃ ka' cap' k', e = .returned (.slice ka' (flen k') cap') ∧ strip k' = toFo l ∧ flen k' ≤ cap' ∧ cap' ≤ maxLen ∧ KIn w' ka' k' ∧ FFrom w.heap.size k' ∧ FPlain w' k' ∧ Below w.heap.size w w'
theorem OwnLEnd.kids {l : Gs} {w w' : World} {e : Ending} (h : OwnLEnd l w e w') : OwnKEnd l w e w' := by
  obtain ⟨va, vc, L, rfl, hK, hLk, hb⟩ := h
  obtain ⟨ka', cap', k', hv, hst, hlc, hcm, hkin, hfr, hpl, _⟩ := hK.done2
  exact ⟨ka', cap', k', by rw [hv], by rw [hst, hLk], hlc, hcm, hkin, hfr, hpl, hb⟩

end Go.Proofs.YtkoohfkomlmhoacGreatDoor.Deed
namespace Go.Proofs.YtkoohfkomlmhoacGreatDoor.Deed
open Go.Deep Go.RowKit
set_option linter.unusedVariables false
set_option maxRecDepth 20000

/-- It is the same where it lies nowhere. -/
def OpS (op : Op) : Prop := ∀ s k, (op s (strip k)).1 = (op s k).1 ∧ ((op s k).1 = 0 → op s (strip k) = op s k)
theorem namOp_s (lab : ByteArray) : OpS (namOp lab) := fun s k => ⟨rfl, fun _ => by simp only [namOp, strip_strip]⟩
theorem delOp_s (i : Nat) : OpS (delOp i) := fun s k => by
  unfold delOp
  rw [gs_strip]
  cases (gsF k)[i]? with
  | none => exact ⟨rfl, fun h => by cases h⟩
  | some x => exact ⟨rfl, fun _ => rfl⟩
theorem insOp_s (i n : Nat) (lab : ByteArray) : OpS (insOp i n lab) := fun s k => by
  unfold insOp
  rw [gs_strip, flen_strip]
  split
  · exact ⟨rfl, fun _ => rfl⟩
  · exact ⟨rfl, fun h => by cases h⟩
theorem modP_s {op : Op} (h : OpS op) (p : List Nat) : OpS (modP op p) := fun s k => by
  cases p with
  | nil => exact h s k
  | cons p ps =>
    unfold modP
    rw [gs_strip]
    cases (gsF k)[p]? with
    | none => exact ⟨rfl, fun h => by cases h⟩
    | some x => exact ⟨rfl, fun _ => rfl⟩
theorem doneR_s (d : Dd) (rest : List Int) : OpS (doneR d rest) := by
  unfold doneR
  split
  · exact modP_s (namOp_s _) _
  · split
    · exact modP_s (delOp_s _) _
    · exact modP_s (insOp_s _ _ _) _

theorem DoneEnd.s {d : Dd} {rest : List Int} {s : ByteArray} {k : Fo} {w w' : World} {e : Ending} (h : DoneEnd (doneR d rest s k) w e w') : DoneEnd (doneR d rest s (strip k)) w e w' := by
  obtain ⟨h1, h2⟩ := doneR_s d rest s k
  obtain ⟨s', ka', cap', k', rfl, hg, hb⟩ := h
  refine ⟨s', ka', cap', k', by rw [h1], fun h0 => ?_, hb⟩
  rw [h1] at h0
  rw [h2 h0]
  exact hg h0

/-- What a call of done has left, in a block of its own. -/
structure XIn (h : Nat) (wr : World) (bx : Nat) (x : It) (r : Int × ByteArray × Fo) : Prop where
  blk : wr.heap[bx]? = some (Obj.cells #[.string x.1, .slice x.2.1 (flen x.2.2.2) x.2.2.1] 47)
  lo : h ≤ bx
  good : r.1 = 0 → x.1 = r.2.1 ∧ strip x.2.2.2 = r.2.2 ∧ ItIn wr x ∧ FFrom h x.2.2.2 ∧ FPlain wr x.2.2.2
theorem XIn.ahead {h bx : Nat} {w5 : World} {x : It} {r : Int × ByteArray × Fo} {a b : Value} (hb : w5.heap[bx]? = some (Obj.cells #[a, b] 47)) (hh : h ≤ bx) (hg : r.1 = 0 → x.1 = r.2.1 ∧ strip x.2.2.2 = r.2.2 ∧ ItIn w5 x ∧ FFrom (bx + 1) x.2.2.2 ∧ FPlain w5 x.2.2.2) :
    XIn h ((w5.setCell ⟨bx, 0, none⟩ (.string x.1)).setCell ⟨bx, 1, none⟩ (.slice x.2.1 (flen x.2.2.2) x.2.2.1)) bx x r := by
  refine ⟨by simp [World.setCell, Array.getElem?_modify, hb], hh, fun h0 => ?_⟩
  obtain ⟨g1, g2, g3, g4, g5⟩ := hg h0
  have ho : FOff bx x.2.2.2 := g4.off (by omega)
  exact ⟨g1, g2, TIn.set (TIn.set g3 ho) ho, g4.mono (by omega), FPlain.set (FPlain.set g5 ho) ho⟩
theorem XIn.behind {h : Nat} {w5 : World} {x : It} {r : Int × ByteArray × Fo} (hh : h ≤ w5.heap.size) (hg : r.1 = 0 → x.1 = r.2.1 ∧ strip x.2.2.2 = r.2.2 ∧ ItIn w5 x ∧ FFrom h x.2.2.2 ∧ FPlain w5 x.2.2.2) :
    XIn h (w5.alloc (Obj.cells #[.string x.1, .slice x.2.1 (flen x.2.2.2) x.2.2.1] 47)) w5.heap.size x r := by
  have hB : Below w5.heap.size w5 (w5.alloc (Obj.cells #[.string x.1, .slice x.2.1 (flen x.2.2.2) x.2.2.1] 47)) := (Below.refl _ _).alloc (Nat.le_refl _) _
  refine ⟨heap_alloc_new _ _, hh, fun h0 => ?_⟩
  obtain ⟨g1, g2, g3, g4, g5⟩ := hg h0
  exact ⟨g1, g2, TIn.below hB g3, g4, g5.below hB⟩

/-- What OwnList comes to, its length the kids'. -/
def OwnFEnd (k : Fo) (w : World) (e : Ending) (w' : World) : Prop := ∃ va vc L, e = .returned (.slice va (flen k) vc) ∧ KInv 47 w.heap.size w' (.slice va (flen k) vc) L ∧ L.length = flen k ∧ L.map bareIt = gsF k ∧ Below w.heap.size w w'
theorem OwnLEnd.long {k : Fo} {w w' : World} {e : Ending} (h : OwnLEnd (gsF k) w e w') : OwnFEnd k w e w' := by
  obtain ⟨va, vc, L, rfl, hK, hLk, hb⟩ := h
  have hl : L.length = flen k := by rw [← gs_len, ← hLk, List.length_map]
  rw [hl] at hK
  exact ⟨va, vc, L, by rw [hl], hK, hl, hLk, hb⟩
/-- A tree that is made, its kids one's own. -/
structure OIn (B : Nat) (wr : World) (bo : Nat) (s : ByteArray) (k : Fo) (va : Option Addr) (vc : Nat) (L : List It) : Prop where
  blk : wr.heap[bo]? = some (Obj.cells #[.string s, .slice va (flen k) vc] 47)
  lo : B ≤ bo
  kin : KInv 47 B wr (.slice va (flen k) vc) L
  long : L.length = flen k
  told : L.map bareIt = gsF k
  ne : ∀ g, (Value.slice va (flen k) vc).ownBlock = some g → g ≠ bo
theorem OIn.ahead {B bo : Nat} {w5 : World} {s : ByteArray} {k : Fo} {va : Option Addr} {vc : Nat} {L : List It} {a b : Value} (hb : w5.heap[bo]? = some (Obj.cells #[a, b] 47)) (hB : B ≤ bo) (hK : KInv 47 (bo + 1) w5 (.slice va (flen k) vc) L) (hl : L.length = flen k) (ht : L.map bareIt = gsF k) :
    OIn B ((w5.setCell ⟨bo, 0, none⟩ (.string s)).setCell ⟨bo, 1, none⟩ (.slice va (flen k) vc)) bo s k va vc L :=
  ⟨by simp [World.setCell, Array.getElem?_modify, hb], hB, Deed.KInv.lower (hK.but (g0 := bo) (by omega) (set2_but _ _ _ _ _ _)) (by omega), hl, ht, fun g hg => by have := (ownBlock_lt hK.row hg).1; omega⟩
theorem OIn.behind {B : Nat} {w5 : World} {s : ByteArray} {k : Fo} {va : Option Addr} {vc : Nat} {L : List It} (hB : B ≤ w5.heap.size) (hK : KInv 47 B w5 (.slice va (flen k) vc) L) (hl : L.length = flen k) (ht : L.map bareIt = gsF k) :
    OIn B (w5.alloc (Obj.cells #[.string s, .slice va (flen k) vc] 47)) w5.heap.size s k va vc L :=
  ⟨heap_alloc_new _ _, hB, Deed.KInv.below hK ((Below.refl _ _).alloc (Nat.le_refl _) _), hl, ht, fun g hg => by have := (ownBlock_lt hK.row hg).2; omega⟩

end Go.Proofs.YtkoohfkomlmhoacGreatDoor.Deed
