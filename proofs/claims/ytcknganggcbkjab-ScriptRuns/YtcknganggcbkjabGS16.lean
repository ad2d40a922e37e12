/- Labels of the nodes of a tree are short. Of the document's words alone. -/
/- order.grow makes the tree that the parents of nodes tell. Of the program's text. -/
/- slices.Equal of nodes, and SameNodes of package pleachingref: are two lists of nodes the same? Of the program's text. -/
import Derived.Test.YtcknganggcbkjabGS04
import Derived.Test.YtcknganggcbkjabGS15
import Derived.Test.YtcknganggcbkjabProg
import Derived.Test.YtcknganggcbkjabGS07
import Derived.Test.YtcknganggcbkjabGS01
import Derived.Deep.LoopGhost
import Derived.Deep.RegionHeld3
import Derived.Deep.AppendLies
import Derived.Laws.MakeOwn
import Derived.WalkSmall
import Derived.Laws.StructEq
import Derived.Deep.QuietTactic
import Derived.BigQuiet
namespace Go.Proofs.Ytcknganggcbkjab
open Go.Deep Go.RowKit
set_option linter.unusedVariables false

theorem ndF_labs : ∀ (k : Fo) (b : Nat) (p : Int), badF k = false → ∀ x, x ∈ ndF b k p → x.lab.size ≤ 6
  | .nil, _, _, _, x, h => by simp [ndF] at h
  | .node _ _ y k r, b, p, hb, x, h => by
    simp only [badF, Bool.or_eq_false_iff, Bool.not_eq_false'] at hb
    simp only [ndF, List.mem_append, List.mem_cons] at h
    rcases h with h | rfl | h
    · exact ndF_labs k _ _ hb.1.2 x h
    · exact (labelB_size hb.1.1).2
    · exact ndF_labs r _ _ hb.2 x h
theorem ndT_labs {b : Nat} {s : ByteArray} {k : Fo} {p : Int} (h : badT s k = false) : ∀ x, x ∈ ndT b s k p → x.lab.size ≤ 6 := by
  obtain ⟨h1, h2⟩ := badT_small h
  intro x hx
  simp only [ndT, List.mem_append, List.mem_cons, List.not_mem_nil, or_false] at hx
  rcases hx with hx | rfl
  · exact ndF_labs k _ _ h2 x hx
  · exact h1

end Go.Proofs.Ytcknganggcbkjab
namespace Go.Proofs.Ytcknganggcbkjab
open Go.Deep Go.RowKit
set_option linter.unusedVariables false
set_option maxRecDepth 20000

/-- Nodes that lie in memory. -/
def NIn (w : World) (la : Option Addr) (L : List Nd) : Prop := L = [] ∨ ∃ b o, la = some ⟨b, o, none⟩ ∧
  ∀ i x, L[i]? = some x → w.cell? ⟨b, o + i * 3, none⟩ = some (.string x.lab) ∧ w.cell? ⟨b, o + i * 3 + 1, none⟩ = some (.int .i64 x.par) ∧ w.cell? ⟨b, o + i * 3 + 2, none⟩ = some (.int .i64 x.left) ∧ x.lab.size ≤ maxLen

def GrowEnd (L : List Nd) (w : World) (e : Ending) (w' : World) : Prop :=
  (growP L = none ∧ e = .returned (.tuple #[.agg #[.string ⟨#[]⟩, .slice none 0 0], .bool false])) ∨
  (∃ x k ka cap k', growP L = some (x, k) ∧ e = .returned (.tuple #[.agg #[.string x, .slice ka (flen k') cap], .bool true]) ∧ strip k' = k ∧ TIn w' x ka cap k' ∧ FPlain w' k')

theorem made_at (n m : Nat) (hm : m < n) : (madeCells (Value.agg #[.string ⟨#[]⟩, .slice none 0 0]).cells (n * 2))[m * 2]? = some (.string ⟨#[]⟩) ∧ (madeCells (Value.agg #[.string ⟨#[]⟩, .slice none 0 0]).cells (n * 2))[m * 2 + 1]? = some (.slice none 0 0) := by
  have e0 : m * 2 % 2 = 0 := by omega
  have e1 : (m * 2 + 1) % 2 = 1 := by omega
  constructor
  · simp [madeCells, Value.cells, show m * 2 < n * 2 by omega, e0]
  · simp [madeCells, Value.cells, show m * 2 + 1 < n * 2 by omega, e1]

theorem setCell_swap (w : World) {a b : Addr} {u v : Value} (h : a.block ≠ b.block) : (w.setCell a u).setCell b v = (w.setCell b v).setCell a u := by
  unfold World.setCell
  congr 1
  apply Array.ext
  · simp
  · intro j h1 h2
    simp only [Array.getElem_modify]
    by_cases ha : a.block = j
    · by_cases hb : b.block = j
      · exact absurd (ha.trans hb.symm) h
      · simp [ha, hb]
    · simp [ha]
theorem zero_news (w : World) (T : TypeId) (j : Nat) (u : Value) (h : ([Value.string ⟨#[]⟩, Value.slice none 0 0] : List Value)[j]? = some u) : (w.alloc (Obj.cells #[.string ⟨#[]⟩, .slice none 0 0] T)).drew.cell? ((⟨w.heap.size, 0, none⟩ : Addr).add j) = some u := by
  refine World.news_of_block (cs := #[.string ⟨#[]⟩, .slice none 0 0]) (t := T) (fr := (0, 0)) ?_ j u h
  show (w.heap.push _)[w.heap.size]? = _
  simp
theorem rowCells_len : ∀ l : List It, (rowCells l).length = l.length * 2
  | [] => rfl
  | a :: l => by simp [rowCells, itCells, rowCells_len l]; omega

/-- The step of grow in memory: behind the append, and behind the two stores. -/
theorem grow_step {T n i p len : Nat} {w wa w4 : World} {lab : Nat → ByteArray} {vv : Nat → Value} {K : Nat → List It} {y : Nd} {ka pa : Option Addr} {cap pc g2 cap2 : Nat} {k' : Fo} {OB : Obj} {RB : Obj}
    (h : GInv T (n + 1) i (w.heap.size + 1) wa (updV lab i y.lab) vv K) (hip : i < p) (hpn : p ≤ n) (hin : i < n) (hvi : vv i = .slice ka (flen k') cap) (hvp : vv p = .slice pa (K p).length pc) (hlen : len = (K p).length)
    (hk : strip k' = toFo ((K i).map bareIt) ∧ flen k' ≤ cap ∧ cap ≤ maxLen ∧ KIn wa ka k' ∧ FFrom (w.heap.size + 1 + 1) k' ∧ FPlain wa k' ∧ ∀ c, (vv i).ownBlock ≠ some c → (∀ it, it ∈ K i → FOff c it.2.2.2) → FOff c k') (ysz : y.lab.size ≤ maxLen)
    (hown : w4.ownsRow (w.heap.size + 1 + 1) T 2 (.slice (some ⟨g2, 0, none⟩) (len + 1) cap2) (len + 1) (rowCells (K p) ++ [Value.string ⟨#[]⟩, Value.slice none 0 0])) (hgrow : ((wa.alloc OB).drew).grownBy w4 (Value.slice pa len pc).ownBlock) (hat : (Value.slice pa len pc).ownBlock = some g2 ∨ g2 = wa.heap.size + 1)
    (hza : w.heap.size + 1 < wa.heap.size) (hRa : wa.heap[w.heap.size]? = some RB) (hBa : Below w.heap.size w wa) :
    wa.heap.size ≤ w4.heap.size ∧ w.heap.size + 1 < g2 ∧ w4.cell? ⟨w.heap.size + 1, i * 2, none⟩ = some (.string y.lab) ∧ w4.cell? ⟨w.heap.size + 1, i * 2 + 1, none⟩ = some (.slice ka (flen k') cap) ∧ w4.cell? ⟨w.heap.size + 1, p * 2 + 1, none⟩ = some (.slice pa len pc) ∧ (∀ o, w4.frozen? ⟨w.heap.size + 1, o, none⟩ = false) ∧
    w4.cell? ⟨g2, len * 2, none⟩ = some (.string ⟨#[]⟩) ∧ w4.cell? ⟨g2, len * 2 + 1, none⟩ = some (.slice none 0 0) ∧ (∀ o, w4.frozen? ⟨g2, o, none⟩ = false) ∧
    (GInv T (n + 1) (i + 1) (w.heap.size + 1) (((w4.setCell ⟨g2, len * 2, none⟩ (.string y.lab)).setCell ⟨g2, len * 2 + 1, none⟩ (.slice ka (flen k') cap)).setCell ⟨w.heap.size + 1, p * 2 + 1, none⟩ (.slice (some ⟨g2, 0, none⟩) (len + 1) cap2)) (updV lab i y.lab) (updV vv p (.slice (some ⟨g2, 0, none⟩) (len + 1) cap2)) (updV K p (K p ++ [(y.lab, ka, cap, k')])) ∧
      (((w4.setCell ⟨g2, len * 2, none⟩ (.string y.lab)).setCell ⟨g2, len * 2 + 1, none⟩ (.slice ka (flen k') cap)).setCell ⟨w.heap.size + 1, p * 2 + 1, none⟩ (.slice (some ⟨g2, 0, none⟩) (len + 1) cap2)).heap[w.heap.size]? = some RB ∧
      Below w.heap.size w (((w4.setCell ⟨g2, len * 2, none⟩ (.string y.lab)).setCell ⟨g2, len * 2 + 1, none⟩ (.slice ka (flen k') cap)).setCell ⟨w.heap.size + 1, p * 2 + 1, none⟩ (.slice (some ⟨g2, 0, none⟩) (len + 1) cap2))) := by
  obtain ⟨hst, hkl, hkc, hkin, hkfr, hkpl, hkoff⟩ := hk
  subst hlen
  have hgrow1 : (wa.alloc OB).grownBy w4 (vv p).ownBlock := by rw [hvp]; exact ⟨hgrow.os, hgrow.tape, hgrow.output, hgrow.size, hgrow.block⟩
  have hat1 : (vv p).ownBlock = some g2 ∨ g2 = wa.heap.size + 1 := by rw [hvp]; exact hat
  have hg2 := (ownBlockN_lt hown (g := g2) rfl)
  have hz : (wa.alloc OB).heap.size = wa.heap.size + 1 := by simp
  have hs4 := hgrow1.size
  rw [hz] at hs4
  have hpown : ∀ b, (vv p).ownBlock = some b → w.heap.size + 1 + 1 ≤ b := fun b hb => (ownBlockN_lt (h.rows p (by omega) (by omega)).row hb).1
  have hsame : ∀ b, b < w.heap.size + 1 + 1 → b < wa.heap.size → w4.heap[b]? = wa.heap[b]? := fun b hb hlt => by
    rw [hgrow1.block b (by omega) (fun e => by have := hpown b e.symm; omega), Below.heap_alloc _ _ _ hlt]
  obtain ⟨ci0, ci1, _, cif⟩ := h.cells (m := i) (by omega)
  obtain ⟨cp0, cp1, _, _⟩ := h.cells (m := p) (by omega)
  rw [updV_same] at ci0
  rw [hvi] at ci1
  rw [hvp] at cp1
  have hcell : ∀ o, w4.cell? ⟨w.heap.size + 1, o, none⟩ = wa.cell? ⟨w.heap.size + 1, o, none⟩ := fun o => World.cell?_of_block (hsame (w.heap.size + 1) (by omega) hza)
  have hfro : ∀ o, w4.frozen? ⟨w.heap.size + 1, o, none⟩ = wa.frozen? ⟨w.heap.size + 1, o, none⟩ := fun o => World.frozen?_of_block (hsame (w.heap.size + 1) (by omega) hza)
  have hrl : (rowCells (K p)).length = (K p).length * 2 := rowCells_len _
  refine ⟨by omega, by omega, by rw [hcell]; exact ci0, by rw [hcell]; exact ci1, by rw [hcell]; exact cp1, fun o => by rw [hfro]; exact cif o, ?_, ?_, fun o => own_frozen hown o, ?_⟩
  · simpa using ownsRow_cell hown ((K p).length * 2) (.string ⟨#[]⟩) (by rw [List.getElem?_append_right (by omega), hrl]; simp)
  · simpa using ownsRow_cell hown ((K p).length * 2 + 1) (.slice none 0 0) (by rw [List.getElem?_append_right (by omega), hrl]; simp)
  · have hown3 := own_setN (Value.slice ka (flen k') cap) (own_setN (Value.string y.lab) hown (j := (K p).length * 2) (by omega)) (j := (K p).length * 2 + 1) (by omega)
    have e1 : ((rowCells (K p) ++ [Value.string ⟨#[]⟩, Value.slice none 0 0]).set ((K p).length * 2) (Value.string y.lab)).set ((K p).length * 2 + 1) (Value.slice ka (flen k') cap) = rowCells (K p) ++ itCells (y.lab, ka, cap, k') := by
      rw [List.set_append_right _ _ (by omega), hrl, List.set_append_right _ _ (by omega), hrl]
      simp [itCells]
    rw [e1] at hown3
    have hgrow3 : (wa.alloc OB).grownBy ((w4.setCell ⟨g2, (K p).length * 2, none⟩ (.string y.lab)).setCell ⟨g2, (K p).length * 2 + 1, none⟩ (.slice ka (flen k') cap)) (vv p).ownBlock := by
      have hr : some g2 = (vv p).ownBlock ∨ ∀ g, some g2 = some g → (wa.alloc OB).heap.size ≤ g := by
        rcases hat1 with e | e
        · exact Or.inl e.symm
        · refine Or.inr fun g hg => ?_
          injection hg with hg
          omega
      exact grownBy_trans (grownBy_trans hgrow1 (grownBy_setCell w4 g2 _ _) hr) (grownBy_setCell _ g2 _ _) hr
    refine ⟨?_, ?_, ?_⟩
    · have := h.push hip (by omega) (by rw [updV_same]; exact ysz) hvi hkl hkc hkin hkfr hkpl hkoff (by rw [updV_same]; exact hown3) hgrow3 hat1
      rw [updV_same] at this
      exact this
    · rw [Below.heap_setCell _ _ _ _ (by simp), Below.heap_setCell _ _ _ _ (by simp; omega), Below.heap_setCell _ _ _ _ (by simp; omega), hsame w.heap.size (by omega) (by omega)]
      exact hRa
    · have hB4 : Below w.heap.size w w4 := (hBa.alloc (by omega) OB).grown hgrow1 (by simp; omega) (fun b hb => by have := hpown b hb; omega)
      exact ((hB4.setCell (by simp; omega) _).setCell (by simp; omega) _).setCell (by simp) _

set_option maxHeartbeats 2000000 in
theorem grow_any (la : Option Addr) (lc : Nat) (L : List Nd) (w : World) (hL : NIn w la L) (h0 : 0 < L.length) (h40 : L.length ≤ 40) (hlc : L.length ≤ lc) (hlm : lc ≤ maxLen) :
    Calls Try.prog 115 #[.slice la L.length lc] w fun e w' => GrowEnd L w e w' ∧ Below w.heap.size w w' := by
  rcases hL with rfl | ⟨b, o, rfl, hL⟩
  · simp at h0
  unfold maxLen at hlm
  obtain ⟨n, hn⟩ : ∃ n, L.length = n + 1 := ⟨L.length - 1, by omega⟩
  obtain ⟨i24, hi24, hz0, hz1, hz2⟩ := info_parts Try.infoTree'
  obtain ⟨M, hM⟩ : ∃ M, M = madeCells (Value.agg #[.string ⟨#[]⟩, .slice none 0 0]).cells ((n + 1) * 2) := ⟨_, rfl⟩
  have hmk : ∀ W : World, (Instr.makeSlice 22 (.int .i64 ((n : Int) + 1)) (.int .i64 ((n : Int) + 1))).run Try.prog W = .ok (.slice (some ⟨W.heap.size, 0, none⟩) (n + 1) (n + 1)) (W.alloc (.cells M 24)) := fun W => by
    have h := run_make (P := Try.prog) W 22 24 i24 _ Try.underlying22 hi24 hz0 .i64 .i64 ((n : Int) + 1) ((n : Int) + 1) (by omega) (by omega) (by rw [hz2]; omega) (by omega)
    rw [hz1, show ((n : Int) + 1).toNat = n + 1 by omega, ← hM] at h
    exact h
  obtain ⟨xr, hxr⟩ : ∃ x, L[n]? = some x := ⟨_, List.getElem?_eq_getElem (by omega)⟩
  obtain ⟨r0, _, _, rsz⟩ := hL n xr hxr
  have hbl : b < w.heap.size := World.block_lt_of_cell? _ _ r0
  obtain ⟨W2, hW2⟩ : ∃ W2, W2 = (w.alloc (Obj.cells #[Value.string ⟨#[]⟩, Value.slice none 0 0] 24)).alloc (Obj.cells M 24) := ⟨_, rfl⟩
  have hW2b : Below w.heap.size w W2 := by rw [hW2]; exact ((Below.refl _ _).alloc (Nat.le_refl _) _).alloc (by simp) _
  have hW2s : W2.heap.size = w.heap.size + 2 := by rw [hW2]; simp
  have hg0 : GInv 24 (n + 1) 0 (w.heap.size + 1) W2 (fun _ => ⟨#[]⟩) (fun _ => .slice none 0 0) (fun _ => []) := by
    refine ⟨⟨M, ?_, fun m hm => by rw [hM]; exact made_at (n + 1) m hm⟩, fun m _ _ => KInv.start _ _ _, (fun _ _ _ _ _ _ _ b hb => by cases hb), (fun _ _ _ _ _ _ _ it hit => by simp at hit)⟩
    rw [hW2, show w.heap.size + 1 = (w.alloc (Obj.cells #[Value.string ⟨#[]⟩, Value.slice none 0 0] 24)).heap.size by simp]
    exact heap_alloc_new _ _
  have hrb : W2.heap[w.heap.size]? = some (Obj.cells #[Value.string ⟨#[]⟩, Value.slice none 0 0] 24) := by
    rw [hW2, Below.heap_alloc _ _ _ (by simp)]
    exact heap_alloc_new _ _
  have s0 := (hg0.cells (m := n) (by omega)).1
  have sf := (hg0.cells (m := n) (by omega)).2.2.2 (n * 2)
  have r0' : W2.cell? ⟨b, o + n * 3, none⟩ = some (.string xr.lab) := by rw [hW2b.cell hbl]; exact r0
  have hg1 := hg0.label (j := n) (by omega) xr.lab
  have hrb1 : (W2.setCell ⟨w.heap.size + 1, n * 2, none⟩ (.string xr.lab)).heap[w.heap.size]? = some (Obj.cells #[Value.string ⟨#[]⟩, Value.slice none 0 0] 24) := by
    rw [Below.heap_setCell _ _ _ _ (by simp)]
    exact hrb
  have hb1 : Below w.heap.size w (W2.setCell ⟨w.heap.size + 1, n * 2, none⟩ (.string xr.lab)) := hW2b.setCell (by simp) _
  have hs1 : (W2.setCell ⟨w.heap.size + 1, n * 2, none⟩ (.string xr.lab)).heap.size = w.heap.size + 2 := by simp [World.setCell, hW2s]
  have he1 : W2.setCell ⟨w.heap.size + 1, n * 2, none⟩ (.string xr.lab) = (w.alloc (Obj.cells #[Value.string ⟨#[]⟩, Value.slice none 0 0] 24)).alloc (Obj.cells (M.setIfInBounds (n * 2) (Value.string xr.lab)) 24) := by rw [hW2]; go_simp
  obtain ⟨W3, hW3⟩ : ∃ W3, W3 = W2.setCell ⟨w.heap.size + 1, n * 2, none⟩ (.string xr.lab) := ⟨_, rfl⟩
  rw [← hW3] at hg1 hrb1 hb1 hs1 he1
  have HG := hide hg1
  have HRB := hide hrb1
  have HB1 := hide hb1
  have HXR := hide hxr
  have HL := hide hL
  clear hg0 hg1 hrb hrb1 hb1 hxr hL hM hW2b hW3
  subst hW2
  rw [hn]
  rw [hn] at h40 hlc
  have HN := hide hn
  clear hn h0
  go_enter Try.func115, Try.ntmps115
  go_wp2_with fail
  rw [← he1]
  clear he1 hmk s0 sf r0' r0 hW2s
  go_loopg [28] n (fun gk v28 wr => ∃ (i : Nat) (lab : Nat → ByteArray) (vv : Nat → Value) (K : Nat → List It) (G : Nat → Gs), gk = n - i ∧ i ≤ n ∧ v28 = .int .i64 (i : Nat) ∧ Hid (GInv 24 (n + 1) i (w.heap.size + 1) wr lab vv K) ∧ Hid (lab n = xr.lab) ∧ Hid (∀ m, i ≤ m → m ≤ n → (K m).map bareIt = G m) ∧ Hid (∀ m, m ≤ n → (K m).length ≤ i) ∧ Hid (grows (n + 1) (L.take n) 0 (fun _ => []) = grows (n + 1) ((L.take n).drop i) i G) ∧ Hid (wr.heap[w.heap.size]? = some (Obj.cells #[Value.string ⟨#[]⟩, Value.slice none 0 0] 24)) ∧ Below w.heap.size w wr)
  case atStart => exact ⟨0, _, _, _, fun _ => [], rfl, Nat.zero_le _, rfl, HG.out, by show _ = _; simp [updV], fun _ _ _ => rfl, fun _ _ => Nat.le_refl _, by show _ = _; rw [List.drop_zero], HRB.out, HB1.out⟩
  case round =>
    obtain ⟨i, lab, vv, K, G, hgk, hi, rfl, hGI, hlab, hlk, hKl, hrun, hRes, hBr⟩ := hrel
    have q0 : wr.cell? ⟨w.heap.size, 0, none⟩ = some (.string ⟨#[]⟩) := by rw [cell_of_row _ _ 0 _ _ _ hRes.out]; rfl
    have q1 : wr.cell? ⟨w.heap.size, 1, none⟩ = some (.slice none 0 0) := by rw [cell_of_row _ _ 1 _ _ _ hRes.out]; rfl
    have qf : ∀ o, wr.frozen? ⟨w.heap.size, o, none⟩ = false := fun o => by simp [World.frozen?, hRes.out]
    have hzr : w.heap.size + 1 < wr.heap.size := (hGI.out.cells (m := n) (by omega)).2.2.1
    have af : ∀ o, wr.frozen? ⟨w.heap.size + 1, o, none⟩ = false := (hGI.out.cells (m := n) (by omega)).2.2.2
    by_cases hlt : i < n
    · obtain ⟨ai0, ai1, _, _⟩ := hGI.out.cells (m := i) (by omega)
      obtain ⟨y, hy⟩ : ∃ y, L[i]? = some y := ⟨_, List.getElem?_eq_getElem (by have := HN.out; omega)⟩
      obtain ⟨y0, y1, y2, ysz⟩ := HL.out i y hy
      have y0' : wr.cell? ⟨b, o + i * 3, none⟩ = some (.string y.lab) := by rw [hBr.cell hbl]; exact y0
      have y1' : wr.cell? ⟨b, o + i * 3 + 1, none⟩ = some (.int .i64 y.par) := by rw [hBr.cell hbl]; exact y1
      have y2' : wr.cell? ⟨b, o + i * 3 + 2, none⟩ = some (.int .i64 y.left) := by rw [hBr.cell hbl]; exact y2
      have hdrop : (L.take n).drop i = y :: (L.take n).drop (i + 1) := by
        have hlen : i < (L.take n).length := by rw [List.length_take]; have := HN.out; omega
        rw [List.drop_eq_getElem_cons hlen]
        congr 1
        have h1 : (L.take n)[i]? = some y := by rw [List.getElem?_take_of_lt hlt]; exact hy
        rw [List.getElem?_eq_getElem hlen] at h1
        simpa using h1
      have HD := hide hdrop
      clear hdrop y0 y1 y2 hy
      by_cases hle : y.par ≤ (i : Int)
      · have hd : decide (y.par ≤ (i : Int)) = true := decide_eq_true hle
        have HNO := hide (show growP L = none by
          unfold growP
          rw [HN.out, Nat.add_sub_cancel, HXR.out]
          simp only
          rw [hrun.out, HD.out, grows, if_pos (Or.inl hle)]
          rfl)
        clear hle
        have hra : (wr.alloc (Obj.cells #[Value.string y.lab, Value.int .i64 y.par, Value.int .i64 y.left] 35)).heap[w.heap.size]? = some (Obj.cells #[Value.string ⟨#[]⟩, Value.slice none 0 0] 24) := by rw [Below.heap_alloc _ _ _ (by omega)]; exact hRes.out
        have qa0 : (wr.alloc (Obj.cells #[Value.string y.lab, Value.int .i64 y.par, Value.int .i64 y.left] 35)).frozen? ⟨w.heap.size, 0, none⟩ = false := by simp [World.frozen?, hra]
        have qa1 : (wr.alloc (Obj.cells #[Value.string y.lab, Value.int .i64 y.par, Value.int .i64 y.left] 35)).frozen? ⟨w.heap.size, 1, none⟩ = false := by simp [World.frozen?, hra]
        have qc0 : (wr.alloc (Obj.cells #[Value.string y.lab, Value.int .i64 y.par, Value.int .i64 y.left] 35)).cell? ⟨w.heap.size, 0, none⟩ = some (.string ⟨#[]⟩) := by rw [cell_of_row _ _ 0 _ _ _ hra]; rfl
        have qc1 : (wr.alloc (Obj.cells #[Value.string y.lab, Value.int .i64 y.par, Value.int .i64 y.left] 35)).cell? ⟨w.heap.size, 1, none⟩ = some (.slice none 0 0) := by rw [cell_of_row _ _ 1 _ _ _ hra]; rfl
        clear hra
        go_wp2_with fail
        refine bodyPost_ret (v := .tuple #[.agg #[.string ⟨#[]⟩, .slice none 0 0], .bool false]) (by simp [results, Try.results115, go_sem, *]) rfl ⟨Or.inl ⟨HNO.out, rfl⟩, ?_⟩
        exact (((hBr.trans ((Below.refl _ _).alloc (by omega) _)).setCell (by simp) _).setCell (by simp) _)
      · have hd : decide (y.par ≤ (i : Int)) = false := decide_eq_false hle
        by_cases hgt : (n : Int) < y.par
        · have hd2 : decide ((n : Int) < y.par) = true := decide_eq_true hgt
          have HNO := hide (show growP L = none by
            unfold growP
            rw [HN.out, Nat.add_sub_cancel, HXR.out]
            simp only
            rw [hrun.out, HD.out, grows, if_pos (Or.inr (by omega))]
            rfl)
          clear hgt hle
          have hra : (wr.alloc (Obj.cells #[Value.string y.lab, Value.int .i64 y.par, Value.int .i64 y.left] 35)).heap[w.heap.size]? = some (Obj.cells #[Value.string ⟨#[]⟩, Value.slice none 0 0] 24) := by rw [Below.heap_alloc _ _ _ (by omega)]; exact hRes.out
          have qa0 : (wr.alloc (Obj.cells #[Value.string y.lab, Value.int .i64 y.par, Value.int .i64 y.left] 35)).frozen? ⟨w.heap.size, 0, none⟩ = false := by simp [World.frozen?, hra]
          have qa1 : (wr.alloc (Obj.cells #[Value.string y.lab, Value.int .i64 y.par, Value.int .i64 y.left] 35)).frozen? ⟨w.heap.size, 1, none⟩ = false := by simp [World.frozen?, hra]
          have qc0 : (wr.alloc (Obj.cells #[Value.string y.lab, Value.int .i64 y.par, Value.int .i64 y.left] 35)).cell? ⟨w.heap.size, 0, none⟩ = some (.string ⟨#[]⟩) := by rw [cell_of_row _ _ 0 _ _ _ hra]; rfl
          have qc1 : (wr.alloc (Obj.cells #[Value.string y.lab, Value.int .i64 y.par, Value.int .i64 y.left] 35)).cell? ⟨w.heap.size, 1, none⟩ = some (.slice none 0 0) := by rw [cell_of_row _ _ 1 _ _ _ hra]; rfl
          clear hra
          go_wp2_with fail
          refine bodyPost_ret (v := .tuple #[.agg #[.string ⟨#[]⟩, .slice none 0 0], .bool false]) (by simp [results, Try.results115, go_sem, *]) rfl ⟨Or.inl ⟨HNO.out, rfl⟩, ?_⟩
          exact (((hBr.trans ((Below.refl _ _).alloc (by omega) _)).setCell (by simp) _).setCell (by simp) _)
        · obtain ⟨p, hp⟩ : ∃ p : Nat, y.par = (p : Int) := ⟨y.par.toNat, by omega⟩
          have hip : i < p := by omega
          have hpn : p ≤ n := by omega
          obtain ⟨ap0, ap1, _, _⟩ := hGI.out.cells (m := p) (by omega)
          have HP := hide hp
          rw [hp] at y1' hd
          have hd2 : decide ((n : Int) < (p : Int)) = false := decide_eq_false (by omega)
          clear hp hgt hle
          have hga := (hGI.out.label (j := i) (by omega) y.lab).below ((Below.refl _ _).alloc (Nat.le_refl _) (Obj.cells #[Value.string y.lab, Value.int .i64 (p : Int), Value.int .i64 y.left] 35))
          have hBa : Below w.heap.size w ((wr.setCell ⟨w.heap.size + 1, i * 2, none⟩ (.string y.lab)).alloc (Obj.cells #[Value.string y.lab, Value.int .i64 (p : Int), Value.int .i64 y.left] 35)) := (hBr.setCell (by simp) _).alloc (by simp [World.setCell]; omega) _
          have hRa : ((wr.setCell ⟨w.heap.size + 1, i * 2, none⟩ (.string y.lab)).alloc (Obj.cells #[Value.string y.lab, Value.int .i64 (p : Int), Value.int .i64 y.left] 35)).heap[w.heap.size]? = some (Obj.cells #[Value.string ⟨#[]⟩, Value.slice none 0 0] 24) := by
            rw [Below.heap_alloc _ _ _ (by simp [World.setCell]; omega), Below.heap_setCell _ _ _ _ (by simp)]
            exact hRes.out
          go_wp2_with fail
          obtain ⟨wa, hwa⟩ : ∃ wa, wa = (wr.setCell ⟨w.heap.size + 1, i * 2, none⟩ (.string y.lab)).alloc (Obj.cells #[Value.string y.lab, Value.int .i64 (p : Int), Value.int .i64 y.left] 35) := ⟨_, rfl⟩
          rw [← hwa] at hga hBa hRa ⊢
          clear hwa ai0 ai1 ap0 ap1 q0 q1 qf af y0' y1' y2' hRes hBr hzr
          have hza : w.heap.size + 1 < wa.heap.size := (hga.cells (m := n) (by omega)).2.2.1
          obtain ⟨ka, cap, k', hvi, hst, hkl, hkc, hkin, hkfr, hkpl, hkoff⟩ := (hga.rows i (Nat.le_refl _) (by omega)).done2
          obtain ⟨pa, pc, hvp, hpl, hpm⟩ := ownsN_form (hga.rows p (by omega) (by omega)).row
          obtain ⟨len, hlen⟩ : ∃ len, len = (K p).length := ⟨_, rfl⟩
          have hprow := (hga.rows p (by omega) (by omega)).row
          have ci0 := (hga.cells (m := i) (by omega)).1
          have ci1 := (hga.cells (m := i) (by omega)).2.1
          have cp1 := (hga.cells (m := p) (by omega)).2.1
          have cpf := (hga.cells (m := p) (by omega)).2.2.2
          rw [updV_same] at ci0
          rw [hvi] at ci1
          rw [hvp, ← hlen] at cp1
          rw [hvp, ← hlen] at hprow
          rw [← hlen] at hpl
          unfold maxLen at hpm
          have hlen40 : len ≤ i := by rw [hlen]; exact hKl.out p hpn
          have HGA := hide hga
          have HVI := hide hvi
          have HVP := hide hvp
          have HLN := hide hlen
          have HPR := hide hprow
          have HKI := hide (And.intro hst (And.intro hkl (And.intro hkc (And.intro hkin (And.intro hkfr (And.intro hkpl hkoff))))))
          have cpd : ∀ ob, (wa.alloc ob).cell? ⟨w.heap.size + 1, p * 2 + 1, none⟩ = some (.slice pa len pc) := fun ob => by rw [World.cell?_alloc_some _ _ _ (by show (wa.cell? _).isSome = true; rw [cp1]; rfl)]; exact cp1
          clear hga hvi hvp hlen hprow hst hkl hkc hkin hkfr hkpl hkoff
          refine wp_region_held_drew (S := fun W => W.cell? ⟨w.heap.size + 1, i * 2, none⟩ = some (.string y.lab) ∧ W.cell? ⟨w.heap.size + 1, i * 2 + 1, none⟩ = some (.slice ka (flen k') cap)) (by kernel_rfl) ⟨ci0, ci1⟩ ?_
          intro hS0
          refine wpAnyH_take (i := 0) (v := .pointer (some ⟨w.heap.size + 1, p * 2, none⟩)) rfl (by kernel_rfl) (by kernel_rfl) (by kernel_rfl) (fun _ _ _ h => h) (Or.inl ⟨by rfl, by intro W hSw; go_simp⟩) (by assumption) ?_
          refine wpAnyH_take (i := 1) (v := .pointer (some ⟨w.heap.size + 1, p * 2, none⟩)) rfl (by kernel_rfl) (by kernel_rfl) (by kernel_rfl) (fun _ _ _ h => h) (Or.inl ⟨by rfl, by intro W hSw; go_simp⟩) (by assumption) ?_
          refine wpAnyH_take (i := 2) (v := .pointer (some ⟨w.heap.size + 1, p * 2 + 1, none⟩)) rfl (by kernel_rfl) (by kernel_rfl) (by kernel_rfl) (fun _ _ _ h => h) (Or.inl ⟨by rfl, by intro W hSw; go_simp⟩) (by assumption) ?_
          refine wpAnyH_take (i := 4) (v := .slice (some ⟨w.heap.size + 1, 0, none⟩) (n + 1) (n + 1)) rfl (by kernel_rfl) (by kernel_rfl) (by kernel_rfl) (fun _ _ _ h => h) (Or.inl ⟨by rfl, by intro W hSw; go_simp⟩) (by assumption) ?_
          refine wpAnyH_take (i := 5) (v := .int .i64 (i : Int)) rfl (by kernel_rfl) (by kernel_rfl) (by kernel_rfl) (fun _ _ _ h => h) (Or.inl ⟨by rfl, by intro W hSw; go_simp⟩) (by assumption) ?_
          refine wpAnyH_take (i := 6) (v := .pointer (some ⟨w.heap.size + 1, i * 2, none⟩)) rfl (by kernel_rfl) (by kernel_rfl) (by kernel_rfl) (fun _ _ _ h => h) (Or.inl ⟨by rfl, by intro W hSw; go_simp; intro h; exfalso; omega⟩) (by assumption) ?_
          refine wpAnyH_take (i := 7) (v := .agg #[.string y.lab, .slice ka (flen k') cap]) rfl (by kernel_rfl) (by kernel_rfl) (by kernel_rfl) (fun _ _ _ h => h) (Or.inl ⟨by rfl, by intro W hSw; obtain ⟨hs0, hs1⟩ := hSw; go_simp⟩) (by assumption) ?_
          simp only [Act.put, List.setIfInBounds_toArray]
          have HREL := hide (show updV lab i y.lab n = xr.lab ∧ (∀ m, i + 1 ≤ m → m ≤ n → (updV K p (K p ++ [(y.lab, ka, cap, k')]) m).map bareIt = upd G p (G p ++ [(y.lab, toFo (G i))]) m) ∧ (∀ m, m ≤ n → (updV K p (K p ++ [(y.lab, ka, cap, k')]) m).length ≤ i + 1) ∧ grows (n + 1) (L.take n) 0 (fun _ => []) = grows (n + 1) ((L.take n).drop (i + 1)) (i + 1) (upd G p (G p ++ [(y.lab, toFo (G i))])) by
            refine ⟨by rw [updV_other _ _ (by omega)]; exact hlab.out, fun m hm1 hm2 => ?_, fun m hm => ?_, ?_⟩
            · by_cases hmp : m = p
              · subst hmp
                rw [updV_same]
                simp only [List.map_append, List.map_cons, List.map_nil, upd, if_pos]
                rw [hlk.out m (by omega) hm2]
                simp only [bareIt]
                rw [HKI.out.1, hlk.out i (Nat.le_refl _) (by omega)]
              · rw [updV_other _ _ hmp]
                simp only [upd, if_neg hmp]
                exact hlk.out m (by omega) hm2
            · by_cases hmp : m = p
              · subst hmp
                rw [updV_same]
                have := hKl.out m hm
                simp
                omega
              · rw [updV_other _ _ hmp]
                have := hKl.out m hm
                omega
            · rw [hrun.out, HD.out, grows, if_neg (by rw [HP.out]; simp only [not_or]; omega), HP.out]
              simp)
          have cai0 : ∀ ob, (wa.alloc ob).cell? ⟨w.heap.size + 1, i * 2, none⟩ = some (.string y.lab) := fun ob => by rw [World.cell?_alloc_some _ _ _ (by rw [ci0]; rfl)]; exact ci0
          have cai1 : ∀ ob, (wa.alloc ob).cell? ⟨w.heap.size + 1, i * 2 + 1, none⟩ = some (.slice ka (flen k') cap) := fun ob => by rw [World.cell?_alloc_some _ _ _ (by rw [ci1]; rfl)]; exact ci1
          refine wpAnyH_ready (rs := [3, 9]) (by kernel_rfl) (by simp) ?_
          refine AllReadyH.cons rfl (fun KK hK => ?_) (AllReadyH.cons rfl (fun KK hK => ?_) AllReadyH.nil)
          · go_simp
            refine hK.out _ _ ⟨ci0, ci1⟩ (fun hHeld => ?_)
            clear hK KK
            refine wpAnyH_take (i := 8) (v := .int .i64 (len : Int)) rfl (by kernel_rfl) (by kernel_rfl) (by kernel_rfl) (fun _ _ _ h => h) (Or.inl ⟨by rfl, by intro W hSw; go_simp⟩) (by assumption) ?_
            refine wpAnyH_ready (rs := [9]) (by kernel_rfl) (by simp) ?_
            refine AllReadyH.cons rfl (fun KK hK => ?_) AllReadyH.nil
            go_simp
            refine hK.out _ _ ⟨cai0 _, cai1 _⟩ (fun hHeld => ?_)
            clear hK KK
            refine wpAnyH_ready (rs := [10]) (by kernel_rfl) (by simp) ?_
            refine AllReadyH.cons rfl (fun KK hK => ?_) AllReadyH.nil
            refine step_append_lies _ rfl (.tmp 57) (.tmp 63) 22 rfl (w.heap.size + 1 + 1) 24 i24 _ 2 40 Try.underlying22 hi24 hz0 hz1 hz2 rfl (by decide) _ len (rowCells (K p)) rfl (ownsN_below HPR.out (((Below.refl _ _).alloc (Nat.le_refl _) _).drew)) ⟨wa.heap.size, 0, none⟩ 1 1 [Value.string ⟨#[]⟩, Value.slice none 0 0] rfl rfl (zero_news wa 24) (by simp [Value.oneCell']) (by decide) (by unfold maxLen; omega) (by omega) (by simp; omega) (wa.heap.size + 1) (by simp) ?_
            intro g2 cap2 w4 hown hgrow hat hlt4
            obtain ⟨hz4, hg2, c40, c41, c4p, c4f, r40, r41, r4f, hfin⟩ := grow_step (y := y) HGA.out hip hpn hlt HVI.out HVP.out HLN.out HKI.out ysz hown hgrow hat hza hRa hBa
            have HF := hide hfin
            have hng : ¬ w.heap.size + 1 = g2 := by omega
            have hng2 : ¬ g2 = w.heap.size + 1 := by omega
            have hpi : ¬ p = i := by omega
            have hpi2 : ¬ i = p := by omega
            clear hfin hown hgrow hat
            refine hK.out _ _ ⟨c40, c41⟩ (fun hHeld => ?_)
            clear hK KK
            simp only [Act.put, List.setIfInBounds_toArray]
            refine wpAnyH_take (i := 11) (v := .pointer (some ⟨g2, len * 2, none⟩)) rfl (by kernel_rfl) (by kernel_rfl) (by kernel_rfl) (fun _ _ _ h => h) (Or.inl ⟨by rfl, by intro W hSw; go_simp; try (intro h; exfalso; omega)⟩) (by assumption) ?_
            refine wpAnyH_take (i := 13) (v := .pointer (some ⟨w.heap.size + 1, p * 2, none⟩)) rfl (by kernel_rfl) (by kernel_rfl) (by kernel_rfl) (fun _ _ _ h => h) (Or.inl ⟨by rfl, by intro W hSw; go_simp⟩) (by assumption) ?_
            refine wpAnyH_take (i := 14) (v := .pointer (some ⟨w.heap.size + 1, p * 2 + 1, none⟩)) rfl (by kernel_rfl) (by kernel_rfl) (by kernel_rfl) (fun _ _ _ h => h) (Or.inl ⟨by rfl, by intro W hSw; go_simp⟩) (by assumption) ?_
            simp only [Act.put]
            refine wpAnyH_ready (rs := [12, 15]) (by kernel_rfl) (by simp) ?_
            refine AllReadyH.cons rfl (fun KK hK => ?_) (AllReadyH.cons rfl (fun KK hK => ?_) AllReadyH.nil)
            · go_simp
              refine hK.out _ _ ⟨by go_simp, by go_simp⟩ (fun hHeld => ?_)
              clear hK KK
              refine wpAnyH_ready (rs := [15]) (by kernel_rfl) (by simp) ?_
              refine AllReadyH.cons rfl (fun KK hK => ?_) AllReadyH.nil
              go_simp
              refine hK.out _ _ ⟨by go_simp, by go_simp⟩ (fun hHeld => ?_)
              clear hK KK
              refine wpAnyH_done (by kernel_rfl) ?_ _
              go_wp2_with fail
              go_roundg (n - (i + 1))
              case measure => omega
              case rel => exact ⟨i + 1, _, _, _, _, rfl, by omega, by go_num, HF.out.1, HREL.out.1, HREL.out.2.1, HREL.out.2.2.1, HREL.out.2.2.2, HF.out.2.1, HF.out.2.2⟩
            · go_simp
              refine hK.out _ _ ⟨by go_simp, by go_simp⟩ (fun hHeld => ?_)
              clear hK KK
              refine wpAnyH_ready (rs := [12]) (by kernel_rfl) (by simp) ?_
              refine AllReadyH.cons rfl (fun KK hK => ?_) AllReadyH.nil
              go_simp
              refine hK.out _ _ ⟨by go_simp, by go_simp⟩ (fun hHeld => ?_)
              clear hK KK
              refine wpAnyH_done (by kernel_rfl) ?_ _
              go_wp2_with fail
              go_roundg (n - (i + 1))
              case measure => omega
              case rel =>
                rw [setCell_swap w4 (a := ⟨w.heap.size + 1, p * 2 + 1, none⟩) (b := ⟨g2, len * 2, none⟩) hng, setCell_swap (w4.setCell ⟨g2, len * 2, none⟩ (.string y.lab)) (a := ⟨w.heap.size + 1, p * 2 + 1, none⟩) (b := ⟨g2, len * 2 + 1, none⟩) hng]
                exact ⟨i + 1, _, _, _, _, rfl, by omega, by go_num, HF.out.1, HREL.out.1, HREL.out.2.1, HREL.out.2.2.1, HREL.out.2.2.2, HF.out.2.1, HF.out.2.2⟩
          · go_simp
            refine hK.out _ _ ⟨cai0 _, cai1 _⟩ (fun hHeld => ?_)
            clear hK KK
            refine wpAnyH_ready (rs := [3]) (by kernel_rfl) (by simp) ?_
            refine AllReadyH.cons rfl (fun KK hK => ?_) AllReadyH.nil
            go_simp
            refine hK.out _ _ ⟨cai0 _, cai1 _⟩ (fun hHeld => ?_)
            clear hK KK
            refine wpAnyH_take (i := 8) (v := .int .i64 (len : Int)) rfl (by kernel_rfl) (by kernel_rfl) (by kernel_rfl) (fun _ _ _ h => h) (Or.inl ⟨by rfl, by intro W hSw; go_simp⟩) (by assumption) ?_
            refine wpAnyH_ready (rs := [10]) (by kernel_rfl) (by simp) ?_
            refine AllReadyH.cons rfl (fun KK hK => ?_) AllReadyH.nil
            refine step_append_lies _ rfl (.tmp 57) (.tmp 63) 22 rfl (w.heap.size + 1 + 1) 24 i24 _ 2 40 Try.underlying22 hi24 hz0 hz1 hz2 rfl (by decide) _ len (rowCells (K p)) rfl (ownsN_below HPR.out (((Below.refl _ _).alloc (Nat.le_refl _) _).drew)) ⟨wa.heap.size, 0, none⟩ 1 1 [Value.string ⟨#[]⟩, Value.slice none 0 0] rfl rfl (zero_news wa 24) (by simp [Value.oneCell']) (by decide) (by unfold maxLen; omega) (by omega) (by simp; omega) (wa.heap.size + 1) (by simp) ?_
            intro g2 cap2 w4 hown hgrow hat hlt4
            obtain ⟨hz4, hg2, c40, c41, c4p, c4f, r40, r41, r4f, hfin⟩ := grow_step (y := y) HGA.out hip hpn hlt HVI.out HVP.out HLN.out HKI.out ysz hown hgrow hat hza hRa hBa
            have HF := hide hfin
            have hng : ¬ w.heap.size + 1 = g2 := by omega
            have hng2 : ¬ g2 = w.heap.size + 1 := by omega
            have hpi : ¬ p = i := by omega
            have hpi2 : ¬ i = p := by omega
            clear hfin hown hgrow hat
            refine hK.out _ _ ⟨c40, c41⟩ (fun hHeld => ?_)
            clear hK KK
            simp only [Act.put, List.setIfInBounds_toArray]
            refine wpAnyH_take (i := 11) (v := .pointer (some ⟨g2, len * 2, none⟩)) rfl (by kernel_rfl) (by kernel_rfl) (by kernel_rfl) (fun _ _ _ h => h) (Or.inl ⟨by rfl, by intro W hSw; go_simp; try (intro h; exfalso; omega)⟩) (by assumption) ?_
            refine wpAnyH_take (i := 13) (v := .pointer (some ⟨w.heap.size + 1, p * 2, none⟩)) rfl (by kernel_rfl) (by kernel_rfl) (by kernel_rfl) (fun _ _ _ h => h) (Or.inl ⟨by rfl, by intro W hSw; go_simp⟩) (by assumption) ?_
            refine wpAnyH_take (i := 14) (v := .pointer (some ⟨w.heap.size + 1, p * 2 + 1, none⟩)) rfl (by kernel_rfl) (by kernel_rfl) (by kernel_rfl) (fun _ _ _ h => h) (Or.inl ⟨by rfl, by intro W hSw; go_simp⟩) (by assumption) ?_
            simp only [Act.put]
            refine wpAnyH_ready (rs := [12, 15]) (by kernel_rfl) (by simp) ?_
            refine AllReadyH.cons rfl (fun KK hK => ?_) (AllReadyH.cons rfl (fun KK hK => ?_) AllReadyH.nil)
            · go_simp
              refine hK.out _ _ ⟨by go_simp, by go_simp⟩ (fun hHeld => ?_)
              clear hK KK
              refine wpAnyH_ready (rs := [15]) (by kernel_rfl) (by simp) ?_
              refine AllReadyH.cons rfl (fun KK hK => ?_) AllReadyH.nil
              go_simp
              refine hK.out _ _ ⟨by go_simp, by go_simp⟩ (fun hHeld => ?_)
              clear hK KK
              refine wpAnyH_done (by kernel_rfl) ?_ _
              go_wp2_with fail
              go_roundg (n - (i + 1))
              case measure => omega
              case rel => exact ⟨i + 1, _, _, _, _, rfl, by omega, by go_num, HF.out.1, HREL.out.1, HREL.out.2.1, HREL.out.2.2.1, HREL.out.2.2.2, HF.out.2.1, HF.out.2.2⟩
            · go_simp
              refine hK.out _ _ ⟨by go_simp, by go_simp⟩ (fun hHeld => ?_)
              clear hK KK
              refine wpAnyH_ready (rs := [12]) (by kernel_rfl) (by simp) ?_
              refine AllReadyH.cons rfl (fun KK hK => ?_) AllReadyH.nil
              go_simp
              refine hK.out _ _ ⟨by go_simp, by go_simp⟩ (fun hHeld => ?_)
              clear hK KK
              refine wpAnyH_done (by kernel_rfl) ?_ _
              go_wp2_with fail
              go_roundg (n - (i + 1))
              case measure => omega
              case rel =>
                rw [setCell_swap w4 (a := ⟨w.heap.size + 1, p * 2 + 1, none⟩) (b := ⟨g2, len * 2, none⟩) hng, setCell_swap (w4.setCell ⟨g2, len * 2, none⟩ (.string y.lab)) (a := ⟨w.heap.size + 1, p * 2 + 1, none⟩) (b := ⟨g2, len * 2 + 1, none⟩) hng]
                exact ⟨i + 1, _, _, _, _, rfl, by omega, by go_num, HF.out.1, HREL.out.1, HREL.out.2.1, HREL.out.2.2.1, HREL.out.2.2.2, HF.out.2.1, HF.out.2.2⟩
    · obtain ⟨an0, an1, _, _⟩ := hGI.out.cells (m := n) (by omega)
      obtain ⟨ka, cap, k', hv, hst, hkl, hkc, hkin, hkfr, hkpl, _⟩ := (hGI.out.rows n hi (by omega)).done2
      have hlks := hlk.out n hi (Nat.le_refl _)
      have HV := hide hv
      have HOK := hide (show growP L = some (xr.lab, strip k') by
        unfold growP
        rw [HN.out, Nat.add_sub_cancel, HXR.out]
        simp only
        rw [hrun.out, List.drop_of_length_le (by rw [List.length_take]; omega), grows, hst, hlks]
        rfl)
      rw [hv] at an1
      rw [hlab.out] at an0
      have hT : TIn wr xr.lab ka cap k' := ⟨rsz, hkl, hkc, hkin⟩
      clear hv hst hlks
      go_wp2_with fail
      have hb2 : ∀ c, c < wr.heap.size → c ≠ w.heap.size → ((wr.setCell ⟨w.heap.size, 0, none⟩ (Value.string xr.lab)).setCell ⟨w.heap.size, 1, none⟩ (Value.slice ka (flen k') cap)).heap[c]? = wr.heap[c]? := fun c _ hc => by
        rw [Below.heap_setCell _ _ _ _ hc, Below.heap_setCell _ _ _ _ hc]
      have hoff : FOff w.heap.size k' := hkfr.off (by omega)
      refine bodyPost_ret (v := .tuple #[.agg #[.string xr.lab, .slice ka (flen k') cap], .bool true]) (by simp [results, Try.results115, go_sem, *]) rfl ⟨Or.inr ⟨xr.lab, strip k', ka, cap, k', HOK.out, rfl, rfl, TIn.but hb2 hoff hT, FPlain.but hb2 hoff hkpl⟩, ?_⟩
      exact (hBr.setCell (by simp) _).setCell (by simp) _
end Go.Proofs.Ytcknganggcbkjab
namespace Go.Proofs.Ytcknganggcbkjab
open Go.Deep Go.RowKit
set_option linter.unusedVariables false
set_option maxRecDepth 20000

theorem toList_eqB' {a b : ByteArray} (h1 : a.toList = b.toList) : a = b := by
  rw [ByteArray.toList_eq, ByteArray.toList_eq] at h1
  obtain ⟨⟨x⟩⟩ := a
  obtain ⟨⟨y⟩⟩ := b
  have : x = y := h1
  rw [this]
theorem NIn.below {w w' : World} {la : Option Addr} {L : List Nd} (h : NIn w la L) (hb : Below w.heap.size w w') : NIn w' la L := by
  rcases h with h | ⟨b, o, h1, h2⟩
  · exact Or.inl h
  · refine Or.inr ⟨b, o, h1, fun i x hx => ?_⟩
    obtain ⟨g0, g1, g2, g3⟩ := h2 i x hx
    have hlt : b < w.heap.size := World.block_lt_of_cell? _ _ g0
    exact ⟨by rw [hb.cell (p := ⟨b, o + i * 3, none⟩) hlt]; exact g0, by rw [hb.cell (p := ⟨b, o + i * 3 + 1, none⟩) hlt]; exact g1, by rw [hb.cell (p := ⟨b, o + i * 3 + 2, none⟩) hlt]; exact g2, g3⟩

set_option maxHeartbeats 1000000 in
theorem eqN_any (la lb : Option Addr) (lc mc : Nat) (L M : List Nd) (w : World) (hL : NIn w la L) (hM : NIn w lb M) (hl : L.length ≤ 100000) (hm : M.length ≤ maxLen) :
    Calls Try.prog 116 #[.slice la L.length lc, .slice lb M.length mc] w fun e w' => e = .returned (.bool (decide (L = M))) ∧ Below w.heap.size w w' := by
  unfold maxLen at hm
  by_cases hlen : L.length = M.length
  · have hb : ((L.length : Int) == (M.length : Int)) = true := beq_iff_eq.2 (by omega)
    rw [← hlen]
    have HLE := hide hlen
    have hle1 : M.length ≤ L.length := by omega
    clear hlen
    go_enter Try.func116, Try.ntmps116
    go_wp2_with fail
    go_loopg [13] L.length (fun gk v wr => ∃ i : Nat, gk = L.length - i ∧ i ≤ L.length ∧ v = .int .i64 (i : Nat) ∧ Hid (L.take i = M.take i) ∧ Below w.heap.size w wr)
    case atStart => exact ⟨0, rfl, Nat.zero_le _, rfl, rfl, Below.refl _ _⟩
    case round =>
      obtain ⟨i, hgk, hi, rfl, hsame, hbr⟩ := hrel
      by_cases hlt : i < L.length
      · obtain ⟨x, hx⟩ : ∃ x, L[i]? = some x := ⟨_, List.getElem?_eq_getElem hlt⟩
        obtain ⟨y, hy⟩ : ∃ y, M[i]? = some y := ⟨_, List.getElem?_eq_getElem (by have := HLE.out; omega)⟩
        rcases hL with hL | ⟨b, o, rfl, hL⟩
        · rw [hL] at hlt; simp at hlt
        rcases hM with hM | ⟨c, q, rfl, hM⟩
        · rw [hM] at hy; simp at hy
        obtain ⟨x0, x1, x2, _⟩ := hL i x hx
        obtain ⟨y0, y1, y2, _⟩ := hM i y hy
        have hbl : b < w.heap.size := World.block_lt_of_cell? _ _ x0
        have hcl : c < w.heap.size := World.block_lt_of_cell? _ _ y0
        have x0' : wr.cell? ⟨b, o + i * 3, none⟩ = some (.string x.lab) := by rw [hbr.cell hbl]; exact x0
        have x1' : wr.cell? ⟨b, o + i * 3 + 1, none⟩ = some (.int .i64 x.par) := by rw [hbr.cell hbl]; exact x1
        have x2' : wr.cell? ⟨b, o + i * 3 + 2, none⟩ = some (.int .i64 x.left) := by rw [hbr.cell hbl]; exact x2
        have y0' : wr.cell? ⟨c, q + i * 3, none⟩ = some (.string y.lab) := by rw [hbr.cell hcl]; exact y0
        have y1' : wr.cell? ⟨c, q + i * 3 + 1, none⟩ = some (.int .i64 y.par) := by rw [hbr.cell hcl]; exact y1
        have y2' : wr.cell? ⟨c, q + i * 3 + 2, none⟩ = some (.int .i64 y.left) := by rw [hbr.cell hcl]; exact y2
        have HX := hide hx
        have HY := hide hy
        clear x0 x1 x2 y0 y1 y2 hL hM hx hy
        have hfail : x ≠ y → decide (L = M) = false := fun hne => decide_eq_false (fun e => hne (by
          have h1 := HX.out
          rw [e, HY.out] at h1
          simpa using h1.symm))
        have HFAIL := hide hfail
        clear hfail
        by_cases h1 : x.lab.toList = y.lab.toList
        · by_cases h2 : x.par = y.par
          · by_cases h3 : x.left = y.left
            · have hxy : x = y := by
                have e1 : x.lab = y.lab := toList_eqB' h1
                cases x
                cases y
                simp only at e1 h2 h3
                rw [e1, h2, h3]
              have HT := hide (show L.take (i + 1) = M.take (i + 1) by
                have h4 := HX.out
                have h5 := HY.out
                rw [List.getElem?_eq_getElem hlt] at h4
                have hlm : i < M.length := by have := HLE.out; omega
                rw [List.getElem?_eq_getElem hlm] at h5
                rw [List.take_succ_eq_append_getElem hlt, List.take_succ_eq_append_getElem hlm, hsame.out]
                have e1 : L[i] = x := by simpa using h4
                have e2 : M[i] = y := by simpa using h5
                rw [e1, e2, hxy])
              clear hxy
              go_wp2_with fail
              go_quiet (fail)
              go_wp2_with fail
              go_roundg (L.length - (i + 1))
              case measure => omega
              case rel => exact ⟨i + 1, rfl, by omega, by go_num, HT.out, below_drewN hbr _⟩
            · have HV := hide (HFAIL.out (fun e => h3 (by rw [e])))
              go_wp2_with fail
              go_quiet (fail)
              go_wp2_with fail
              go_ret
              exact ⟨by rw [HV.out]; rfl, below_drewN hbr _⟩
          · have HV := hide (HFAIL.out (fun e => h2 (by rw [e])))
            go_wp2_with fail
            go_quiet (fail)
            go_wp2_with fail
            go_ret
            exact ⟨by rw [HV.out]; rfl, below_drewN hbr _⟩
        · have HV := hide (HFAIL.out (fun e => h1 (by rw [e])))
          go_wp2_with fail
          go_quiet (fail)
          go_wp2_with fail
          go_ret
          exact ⟨by rw [HV.out]; rfl, below_drewN hbr _⟩
      · have HV := hide (show decide (L = M) = true from decide_eq_true (by
          have h1 := hsame.out
          rw [List.take_of_length_le (by omega), List.take_of_length_le (by have := HLE.out; omega)] at h1
          exact h1))
        go_wp2_with fail
        go_ret
        exact ⟨by rw [HV.out]; rfl, hbr⟩
  · have hb : ((L.length : Int) == (M.length : Int)) = false := beq_eq_false_iff_ne.2 (by omega)
    have HNE := hide (show decide (L = M) = false from decide_eq_false (fun e => hlen (by rw [e])))
    clear hlen
    go_enter Try.func116, Try.ntmps116
    go_wp2_with fail
    go_ret
    exact ⟨by rw [HNE.out]; rfl, Below.refl _ _⟩

end Go.Proofs.Ytcknganggcbkjab
