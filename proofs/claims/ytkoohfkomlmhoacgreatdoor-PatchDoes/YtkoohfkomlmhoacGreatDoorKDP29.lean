/- done of package pleachingref does a deed at what is left of its path. Of the program's text. -/
/- done of package pleachingref: a node is taken away, and its kids come to its place. Of the program's text. -/
import Derived.Test.YtkoohfkomlmhoacGreatDoorProg
import Derived.Deep.RegionHeld3
import Derived.Test.YtkoohfkomlmhoacGreatDoorKDP22
import Derived.Test.YtkoohfkomlmhoacGreatDoorKDP13
import Derived.BigQuiet
import Derived.Deep.RegionLaw
namespace Go.Proofs.YtkoohfkomlmhoacGreatDoor.Deed
open Go.Deep Go.RowKit
set_option linter.unusedVariables false
set_option maxRecDepth 20000

/-- What done comes to: a code, and where it is 0 the tree, in new memory. -/
def DoneEnd (r : Int × ByteArray × Fo) (w : World) (e : Ending) (w' : World) : Prop := ∃ s' ka' cap' k', e = .returned (.tuple #[.agg #[.string s', .slice ka' (flen k') cap'], .int .i64 r.1]) ∧ (r.1 = 0 → s' = r.2.1 ∧ strip k' = r.2.2 ∧ TIn w' s' ka' cap' k' ∧ FFrom w.heap.size k' ∧ FPlain w' k') ∧ Below w.heap.size w w'

theorem TIn.set {w : World} {g o : Nat} {v : Value} {s : ByteArray} {ka : Option Addr} {cap : Nat} {k : Fo} (h : TIn w s ka cap k) (ho : FOff g k) : TIn (w.setCell ⟨g, o, none⟩ v) s ka cap k :=
  TIn.but (g := g) (fun b _ hb => Below.heap_setCell _ _ _ _ hb) ho h
theorem FPlain.set {w : World} {g o : Nat} {v : Value} {k : Fo} (h : FPlain w k) (ho : FOff g k) : FPlain (w.setCell ⟨g, o, none⟩ v) k :=
  FPlain.but (g := g) (fun b _ hb => Below.heap_setCell _ _ _ _ hb) ho h

/-- A list of one's own and the trees of another one behind: append. -/
theorem append_K {B B2 : Nat} {w : World} {va va2 : Option Addr} {vc vc2 : Nat} {L L2 : List It} (h : KInv 47 B w (.slice va L.length vc) L) (h2 : KInv 47 B2 w (.slice va2 L2.length vc2) L2) (hB : B ≤ B2) (hlt : ∀ g, (Value.slice va L.length vc).ownBlock = some g → g < B2) (hBw : B ≤ w.heap.size) (hlen : L.length + L2.length ≤ 1000000) :
    ∃ va' vc' w', (Builtin.append_ #[45, 45] 45 #[.slice va L.length vc, .slice va2 L2.length vc2]).run Tryz.prog w = .ok (.slice va' (L ++ L2).length vc') w' ∧ KInv 47 B w' (.slice va' (L ++ L2).length vc') (L ++ L2) ∧ w.grownBy w' (Value.slice va L.length vc).ownBlock ∧ ((Value.slice va' (L ++ L2).length vc').ownBlock = (Value.slice va L.length vc).ownBlock ∨ ∀ g, (Value.slice va' (L ++ L2).length vc').ownBlock = some g → g = w.heap.size) := by
  obtain ⟨i24, hi24, hz0, hz1, hz2⟩ := info_parts Tryz.infoTree
  rcases Nat.eq_zero_or_pos L2.length with h0 | h0
  · have : L2 = [] := List.eq_nil_of_length_eq_zero h0
    subst this
    cases va2 with
    | none =>
      have hc : vc2 = 0 := by
        rcases h2.row.2 with ⟨e, _⟩ | ⟨g, c, cur, e, _⟩
        · injection e
        · injection e with e1; cases e1
      subst hc
      refine ⟨va, vc, w, ?_, by simpa using h, grownBy_refl _ _, Or.inl (by simp)⟩
      have := run_append_owned_none (P := Tryz.prog) (w := w) B 45 45 47 i24 2 Tryz.underlying45 hi24 (.slice va L.length vc) L.length (rowCells L) h.row
      simpa using this
    | some ad =>
      obtain ⟨v', w', hr, hown, hgrow, _, hat⟩ := run_append_own_at (P := Tryz.prog) w B 45 45 47 i24 _ 2 40 Tryz.underlying45 hi24 hz0 hz1 hz2 rfl (by decide) (.slice va L.length vc) L.length (rowCells L) h.row ad 0 vc2 [] rfl (fun j u hu => by simp at hu) (fun u hu => by simp at hu) (by unfold maxLen; omega) (by omega) hBw
      obtain ⟨va', vc', rfl, _, _⟩ := ownsN_form hown
      have hk : KInv 47 B w' (.slice va' (L ++ []).length vc') (L ++ []) := by
        simp only [List.append_nil]
        refine ⟨fun it hi => ?_, by simpa using hown⟩
        obtain ⟨e1, e2, e3, e4⟩ := h.each it hi
        refine ⟨?_, e2, ?_, fun g hg => ?_⟩
        · cases hv : (Value.slice va L.length vc).ownBlock with
          | none => exact TIn.but (g := w.heap.size) (fun b hlt _ => hgrow.block b hlt (by rw [hv]; simp)) (e1.kids.off (Nat.le_refl _)) e1
          | some g0 => exact TIn.but (g := g0) (fun b hlt hne => hgrow.block b hlt (by rw [hv]; simpa using hne)) (e4 g0 hv) e1
        · cases hv : (Value.slice va L.length vc).ownBlock with
          | none => exact FPlain.but (g := w.heap.size) (fun b hlt _ => hgrow.block b hlt (by rw [hv]; simp)) (e1.kids.off (Nat.le_refl _)) e3
          | some g0 => exact FPlain.but (g := g0) (fun b hlt hne => hgrow.block b hlt (by rw [hv]; simpa using hne)) (e4 g0 hv) e3
        · rcases hat with hat | hat
          · exact e4 g (hat.symm.trans hg)
          · have : some w.heap.size = some g := hat.symm.trans hg
            injection this with this
            exact e1.kids.off (by omega)
      refine ⟨va', vc', w', by simpa using hr, hk, hgrow, ?_⟩
      rcases hat with hat | hat
      · exact Or.inl (by simpa [Value.ownBlock] using hat)
      · exact Or.inr fun g hg => by
          have : some w.heap.size = some g := hat.symm.trans (by simpa [Value.ownBlock] using hg)
          injection this with this
          exact this.symm
  · obtain ⟨g2, c2, hv2, hg2, hg2l, _, _⟩ := ownsN_some h2.row h0
    rw [hv2]
    have hr2 := h2.row
    rw [hv2] at hr2
    obtain ⟨g, cap, w', hr, hown, hgrow, hat, _⟩ := run_append_lies (P := Tryz.prog) w 45 45 B 47 i24 _ 2 40 Tryz.underlying45 hi24 hz0 hz1 hz2 rfl (by decide) (.slice va L.length vc) L.length (rowCells L) h.row ⟨g2, 0, none⟩ L2.length c2 (rowCells L2) (rowCells_length L2) (fun j u hu => by
      have := ownsRow_cell hr2 j u hu
      by_cases e : j = 0
      · subst e
        simpa [Addr.add] using this
      · simpa [Addr.add, e] using this) (rowCells_one L2) h0 (by unfold maxLen; omega) (by omega) hBw w.heap.size rfl
    have hk := KInv.join h (fun it hi => ⟨(h2.each it hi).1, (h2.each it hi).2.1.mono hB, (h2.each it hi).2.2.1, fun g hg => (h2.each it hi).2.1.off (hlt g hg)⟩) hown hgrow hat
    refine ⟨some ⟨g, 0, none⟩, cap, w', by rw [List.length_append]; exact hr, by rw [List.length_append]; exact hk, hgrow, ?_⟩
    rcases hat with hat | hat
    · exact Or.inl hat.symm
    · refine Or.inr fun g' hg' => ?_
      simp only [Value.ownBlock, Option.some.injEq] at hg'
      omega

end Go.Proofs.YtkoohfkomlmhoacGreatDoor.Deed
namespace Go.Proofs.YtkoohfkomlmhoacGreatDoor.Deed
open Go.Deep Go.RowKit
set_option linter.unusedVariables false
set_option maxRecDepth 20000

/-- A tree of one's own that lies in a block of its own, behind a list of one's own. -/
theorem append_1 {B : Nat} {w : World} {va : Option Addr} {vc : Nat} {L : List It} {x : It} (h : KInv 47 B w (.slice va L.length vc) L) (hx : ItIn w x) (hf : FFrom B x.2.2.2) (hq : FPlain w x.2.2.2) (ho : ∀ g, (Value.slice va L.length vc).ownBlock = some g → FOff g x.2.2.2) (hBw : B ≤ w.heap.size) (hlen : L.length + 1 ≤ 1000000) :
    ∃ va' vc' w', (Builtin.append_ #[45, 45] 45 #[.slice va L.length vc, .slice (some ⟨w.heap.size, 0, none⟩) 1 1]).run Tryz.prog (w.alloc (Obj.cells #[.string x.1, .slice x.2.1 (flen x.2.2.2) x.2.2.1] 47)) = .ok (.slice va' (L ++ [x]).length vc') w' ∧ KInv 47 B w' (.slice va' (L ++ [x]).length vc') (L ++ [x]) ∧ (w.alloc (Obj.cells #[.string x.1, .slice x.2.1 (flen x.2.2.2) x.2.2.1] 47)).grownBy w' (Value.slice va L.length vc).ownBlock := by
  obtain ⟨i24, hi24, hz0, hz1, hz2⟩ := info_parts Tryz.infoTree
  obtain ⟨g, cap, w', hr, hown, hgrow, hat, _⟩ := run_append_lies (P := Tryz.prog) (w.alloc (Obj.cells #[.string x.1, .slice x.2.1 (flen x.2.2.2) x.2.2.1] 47)) 45 45 B 47 i24 _ 2 40 Tryz.underlying45 hi24 hz0 hz1 hz2 rfl (by decide) (.slice va L.length vc) L.length (rowCells L) (ownsRow_below h.row ((Below.refl _ _).alloc (Nat.le_refl _) _)) ⟨w.heap.size, 0, none⟩ 1 1 (itCells x) rfl (own_news w 47 x) (own_one x) (by decide) (by unfold maxLen; omega) (by omega) (by simp; omega) (w.heap.size + 1) (by simp)
  refine ⟨some ⟨g, 0, none⟩, cap, w', by rw [List.length_append]; exact hr, ?_, hgrow⟩
  rw [List.length_append]
  exact KInv.step h hx hq hf ho hown hgrow hat

/-- The kids so far, one of them taken away. -/
def delJ (p : Nat) (l : Gs) : Gs := match l[p]? with
  | none => l
  | some x => l.take p ++ (gsF x.2 ++ l.drop (p + 1))
theorem delJ_at {p : Nat} {l : Gs} {y : ByteArray × Fo} (h : l.length = p) : delJ p (l ++ [y]) = delJ p l ++ gsF y.2 := by
  subst h
  simp [delJ]
theorem delJ_on {p : Nat} {l : Gs} {y : ByteArray × Fo} (h : l.length ≠ p) : delJ p (l ++ [y]) = delJ p l ++ [y] := by
  unfold delJ
  rcases Nat.lt_or_ge l.length p with h1 | h1
  · rw [List.getElem?_eq_none (by simp; omega), List.getElem?_eq_none (by omega)]
  · have h2 : p < l.length := by omega
    rw [List.getElem?_append_left h2, List.getElem?_eq_getElem h2]
    simp only
    rw [List.take_append_of_le_length (by omega), List.drop_append_of_le_length (by omega)]
    simp

/-- What the loop keeps that takes a node away. -/
structure DelInv (w : World) (s : ByteArray) (ka : Option Addr) (cap : Nat) (k : Fo) (p j : Nat) (wr : World) (va : Option Addr) (vc : Nat) (L : List It) : Prop where
  c0 : wr.heap[w.heap.size]? = some (Obj.cells #[Value.string s, Value.slice ka (flen k) cap] 47)
  c2 : wr.heap[w.heap.size + 1 + 1]? = some (Obj.cells #[Value.string ⟨#[]⟩, Value.slice none 0 0] 47)
  c3 : wr.heap[w.heap.size + 1 + 1 + 1]? = some (Obj.cells #[Value.string s, Value.slice va L.length vc] 47)
  kin : KInv 47 (w.heap.size + 1 + 1 + 1 + 1) wr (.slice va L.length vc) L
  told : L.map bareIt = delJ p ((gsF k).take j)
  few : L.length ≤ j + 99999 ∧ (j ≤ p → L.length ≤ j)
  below : Below w.heap.size w wr
  size : w.heap.size + 1 + 1 + 1 + 1 ≤ wr.heap.size

theorem DelInv.next {w : World} {s : ByteArray} {ka : Option Addr} {cap : Nat} {k : Fo} {p j j' : Nat} {wr w1 w3 : World} {va va' : Option Addr} {vc vc' : Nat} {L L' : List It} (h : DelInv w s ka cap k p j wr va vc L) (hb : Below wr.heap.size wr w1) (hg : w1.grownBy w3 (Value.slice va L.length vc).ownBlock)
    (hK : KInv 47 (w.heap.size + 1 + 1 + 1 + 1) w3 (.slice va' L'.length vc') L') (ht : L'.map bareIt = delJ p ((gsF k).take j')) (hf : L'.length ≤ j' + 99999 ∧ (j' ≤ p → L'.length ≤ j')) :
    Below (w.heap.size + 1 + 1 + 1 + 1) wr w3 ∧ w3.heap[w.heap.size + 1 + 1 + 1]? = some (Obj.cells #[Value.string s, Value.slice va L.length vc] 47) ∧ DelInv w s ka cap k p j' (w3.setCell ⟨w.heap.size + 1 + 1 + 1, 1, none⟩ (.slice va' L'.length vc')) va' vc' L' := by
  have hs := h.size
  have hB : Below (w.heap.size + 1 + 1 + 1 + 1) wr w3 := (hb.mono hs).grown hg (Nat.le_trans hs hb.size) fun q hq => (ownBlock_lt h.kin.row hq).1
  have hb3 : ∀ b, b < w.heap.size + 1 + 1 + 1 + 1 → w3.heap[b]? = wr.heap[b]? := fun b hlt => hB.block b hlt
  have hc3 : w3.heap[w.heap.size + 1 + 1 + 1]? = some (Obj.cells #[Value.string s, Value.slice va L.length vc] 47) := by rw [hb3 _ (by omega)]; exact h.c3
  refine ⟨hB, hc3, ?_, ?_, ?_, ?_, ht, hf, ?_, ?_⟩
  · rw [Below.heap_setCell _ _ _ _ (by simp <;> omega), hb3 _ (by omega)]
    exact h.c0
  · rw [Below.heap_setCell _ _ _ _ (by simp <;> omega), hb3 _ (by omega)]
    exact h.c2
  · simp [World.setCell, Array.getElem?_modify, hc3]
  · exact hK.but (g0 := w.heap.size + 1 + 1 + 1) (by omega) fun b _ hb => Below.heap_setCell _ _ _ _ hb
  · exact (h.below.trans (hB.mono (by omega))).setCell (by simp <;> omega) _
  · have := hB.size
    simp
    omega

theorem DelInv.kids {w : World} {s : ByteArray} {ka : Option Addr} {cap : Nat} {k : Fo} {p : Nat} {wr w1 : World} {va va2 : Option Addr} {vc vc2 : Nat} {L L2 : List It} {y : ByteArray × Fo} (h : DelInv w s ka cap k p p wr va vc L) (hp : p < 99999) (he : (gsF k)[p]? = some y) (h2 : KInv 47 wr.heap.size w1 (.slice va2 L2.length vc2) L2) (hL2 : L2.map bareIt = gsF y.2) (hn : flen y.2 < 99999) (hb : Below wr.heap.size wr w1) :
    ∃ va' vc' w3 L', (Builtin.append_ #[45, 45] 45 #[.slice va L.length vc, .slice va2 L2.length vc2]).run Tryz.prog w1 = .ok (.slice va' (List.length (α := It) L') vc') w3 ∧ Below (w.heap.size + 1 + 1 + 1 + 1) wr w3 ∧ w3.heap[w.heap.size + 1 + 1 + 1]? = some (Obj.cells #[Value.string s, Value.slice va L.length vc] 47) ∧ DelInv w s ka cap k p (p + 1) (w3.setCell ⟨w.heap.size + 1 + 1 + 1, 1, none⟩ (.slice va' L'.length vc')) va' vc' L' := by
  have hs := h.size
  have hl2 : L2.length = flen y.2 := by rw [← gs_len, ← hL2, List.length_map]
  have hf := h.few.2 (Nat.le_refl _)
  obtain ⟨va', vc', w3, hr, hK, hg, _⟩ := append_K (Deed.KInv.below h.kin hb) h2 hs (fun g hg => (ownBlock_lt h.kin.row hg).2) (Nat.le_trans hs hb.size) (by omega)
  have hplen : p < (gsF k).length := by
    rcases Nat.lt_or_ge p (gsF k).length with h' | h'
    · exact h'
    · rw [List.getElem?_eq_none h'] at he
      cases he
  have ht : (L ++ L2).map bareIt = delJ p ((gsF k).take (p + 1)) := by
    rw [List.take_add_one, he, Option.toList_some, delJ_at (by rw [List.length_take]; omega), List.map_append, h.told, hL2]
  obtain ⟨e1, e2, e3⟩ := h.next hb hg hK ht ⟨by rw [List.length_append]; omega, fun h' => absurd h' (by omega)⟩
  exact ⟨va', vc', w3, _, hr, e1, e2, e3⟩
theorem DelInv.one {w : World} {s : ByteArray} {ka : Option Addr} {cap : Nat} {k : Fo} {p j : Nat} {wr w1 : World} {va : Option Addr} {vc : Nat} {L : List It} {x : It} {y : ByteArray × Fo} (h : DelInv w s ka cap k p j wr va vc L) (hjp : j ≠ p) (hj : j < 99999) (he : (gsF k)[j]? = some y) (hx : ItIn w1 x) (hf : FFrom wr.heap.size x.2.2.2) (hq : FPlain w1 x.2.2.2) (hy : bareIt x = y) (hb : Below wr.heap.size wr w1) :
    ∃ va' vc' w3 L', (Builtin.append_ #[45, 45] 45 #[.slice va L.length vc, .slice (some ⟨w1.heap.size, 0, none⟩) 1 1]).run Tryz.prog (w1.alloc (Obj.cells #[.string x.1, .slice x.2.1 (flen x.2.2.2) x.2.2.1] 47)) = .ok (.slice va' (List.length (α := It) L') vc') w3 ∧ Below (w.heap.size + 1 + 1 + 1 + 1) wr w3 ∧ w3.heap[w.heap.size + 1 + 1 + 1]? = some (Obj.cells #[Value.string s, Value.slice va L.length vc] 47) ∧ DelInv w s ka cap k p (j + 1) (w3.setCell ⟨w.heap.size + 1 + 1 + 1, 1, none⟩ (.slice va' L'.length vc')) va' vc' L' := by
  have hs := h.size
  have hfw := h.few
  obtain ⟨va', vc', w3, hr, hK, hg⟩ := append_1 (Deed.KInv.below h.kin hb) hx (hf.mono hs) hq (fun g hg => hf.off (ownBlock_lt h.kin.row hg).2) (Nat.le_trans hs hb.size) (by omega)
  have hplen : j < (gsF k).length := by
    rcases Nat.lt_or_ge j (gsF k).length with h' | h'
    · exact h'
    · rw [List.getElem?_eq_none h'] at he
      cases he
  have ht : (L ++ [x]).map bareIt = delJ p ((gsF k).take (j + 1)) := by
    rw [List.take_add_one, he, Option.toList_some, delJ_on (by rw [List.length_take]; omega), List.map_append, h.told, List.map_cons, List.map_nil, hy]
  obtain ⟨e1, e2, e3⟩ := h.next (hb.alloc hb.size _) hg hK ht ⟨by rw [List.length_append]; simp only [List.length_cons, List.length_nil]; omega, fun h' => by rw [List.length_append]; simp only [List.length_cons, List.length_nil]; have := hfw.2 (by omega); omega⟩
  exact ⟨va', vc', w3, _, hr, e1, e2, e3⟩

end Go.Proofs.YtkoohfkomlmhoacGreatDoor.Deed
