/- done of package pleachingref: a node is put in, some kids beneath it. Of the program's text. -/
import Derived.Test.YtpgiagkbfnbgkabDoneDel
import Derived.Deep.DeepCutAuto
namespace Go.Proofs.Ytpgiagkbfnbgkab.Deed
open Go.Deep Go.RowKit
set_option linter.unusedVariables false
set_option maxRecDepth 20000

/-- The tree that is made, its kids so far. -/
structure InsInv (w : World) (s : ByteArray) (ka : Option Addr) (cap : Nat) (k : Fo) (od : Obj) (G : Gs) (wr : World) (va : Option Addr) (vc : Nat) (L : List It) : Prop where
  c0 : wr.heap[w.heap.size]? = some (Obj.cells #[Value.string s, Value.slice ka (flen k) cap] 24)
  c1 : wr.heap[w.heap.size + 1]? = some od
  c2 : wr.heap[w.heap.size + 1 + 1]? = some (Obj.cells #[Value.string ⟨#[]⟩, Value.slice none 0 0] 24)
  c3 : wr.heap[w.heap.size + 1 + 1 + 1]? = some (Obj.cells #[Value.string s, Value.slice va L.length vc] 24)
  kin : KInv 24 (w.heap.size + 1 + 1 + 1 + 1) wr (.slice va L.length vc) L
  told : L.map bareIt = G
  below : Below w.heap.size w wr
  size : w.heap.size + 1 + 1 + 1 + 1 ≤ wr.heap.size

theorem InsInv.start {w W wr : World} {s : ByteArray} {ka : Option Addr} {cap : Nat} {k : Fo} {od : Obj} (hW : W = (((w.alloc (Obj.cells #[Value.string s, Value.slice ka (flen k) cap] 24)).alloc od).alloc (Obj.cells #[Value.string ⟨#[]⟩, Value.slice none 0 0] 24)).alloc (Obj.cells #[Value.string s, Value.slice none 0 0] 24)) (hb : Below (w.heap.size + 1 + 1 + 1 + 1) W wr) :
    InsInv w s ka cap k od [] wr none 0 [] := by
  obtain ⟨hWs, hB, c0, c1, c2, c3⟩ := boxes4 w (Obj.cells #[Value.string s, Value.slice ka (flen k) cap] 24) od (Obj.cells #[Value.string ⟨#[]⟩, Value.slice none 0 0] 24) (Obj.cells #[Value.string s, Value.slice none 0 0] 24)
  rw [← hW] at hWs hB c0 c1 c2 c3
  exact ⟨by rw [hb.block _ (by omega)]; exact c0, by rw [hb.block _ (by omega)]; exact c1, by rw [hb.block _ (by omega)]; exact c2, by rw [hb.block _ (by omega)]; exact c3, KInv.start _ _ _, rfl, hB.trans (hb.mono (by omega)), by have := hb.size; omega⟩
theorem InsInv.next {w : World} {s : ByteArray} {ka : Option Addr} {cap : Nat} {k : Fo} {od : Obj} {G G' : Gs} {wr w3 : World} {va va' : Option Addr} {vc vc' : Nat} {L L' : List It} (h : InsInv w s ka cap k od G wr va vc L) (hB : Below (w.heap.size + 1 + 1 + 1 + 1) wr w3)
    (hK : KInv 24 (w.heap.size + 1 + 1 + 1 + 1) w3 (.slice va' L'.length vc') L') (ht : L'.map bareIt = G') :
    w3.heap[w.heap.size + 1 + 1 + 1]? = some (Obj.cells #[Value.string s, Value.slice va L.length vc] 24) ∧ InsInv w s ka cap k od G' (w3.setCell ⟨w.heap.size + 1 + 1 + 1, 1, none⟩ (.slice va' L'.length vc')) va' vc' L' := by
  have hs := h.size
  have hb3 : ∀ b, b < w.heap.size + 1 + 1 + 1 + 1 → w3.heap[b]? = wr.heap[b]? := fun b hlt => hB.block b hlt
  have hc3 : w3.heap[w.heap.size + 1 + 1 + 1]? = some (Obj.cells #[Value.string s, Value.slice va L.length vc] 24) := by rw [hb3 _ (by omega)]; exact h.c3
  refine ⟨hc3, ?_, ?_, ?_, ?_, ?_, ht, ?_, ?_⟩
  · rw [Below.heap_setCell _ _ _ _ (by simp <;> omega), hb3 _ (by omega)]
    exact h.c0
  · rw [Below.heap_setCell _ _ _ _ (by simp <;> omega), hb3 _ (by omega)]
    exact h.c1
  · rw [Below.heap_setCell _ _ _ _ (by simp <;> omega), hb3 _ (by omega)]
    exact h.c2
  · simp [World.setCell, Array.getElem?_modify, hc3]
  · exact hK.but (g0 := w.heap.size + 1 + 1 + 1) (by omega) fun b _ hb => Below.heap_setCell _ _ _ _ hb
  · exact (h.below.trans (hB.mono (by omega))).setCell (by simp <;> omega) _
  · have := hB.size
    simp
    omega

/-- The tree that is made, given back. -/
theorem InsInv.fin {w : World} {s : ByteArray} {ka : Option Addr} {cap : Nat} {k : Fo} {od : Obj} {G : Gs} {wr : World} {va : Option Addr} {vc : Nat} {L : List It} (h : InsInv w s ka cap k od G wr va vc L) (hs : s.size ≤ maxLen) :
    ∃ ka' cap' k', wr.cell? ⟨w.heap.size + 1 + 1, 0, none⟩ = some (.string ⟨#[]⟩) ∧ wr.cell? ⟨w.heap.size + 1 + 1, 1, none⟩ = some (.slice none 0 0) ∧ wr.frozen? ⟨w.heap.size + 1 + 1, 0, none⟩ = false ∧ wr.frozen? ⟨w.heap.size + 1 + 1, 1, none⟩ = false ∧ wr.cell? ⟨w.heap.size + 1 + 1 + 1, 0, none⟩ = some (.string s) ∧ wr.cell? ⟨w.heap.size + 1 + 1 + 1, 1, none⟩ = some (.slice ka' (flen k') cap') ∧
      Hid (DoneEnd (0, s, toFo G) w (.returned (.tuple #[.agg #[.string s, .slice ka' (flen k') cap'], .int .i64 0])) ((wr.setCell ⟨w.heap.size + 1 + 1, 0, none⟩ (.string s)).setCell ⟨w.heap.size + 1 + 1, 1, none⟩ (.slice ka' (flen k') cap'))) := by
  obtain ⟨ka', cap', k', hv, hst, hlc, hcm, hkin, hfr, hpl, _⟩ := h.kin.done2
  have o2 : FOff (w.heap.size + 1 + 1) k' := hfr.off (by omega)
  refine ⟨ka', cap', k', by rw [cell_of_row _ _ 0 _ _ _ h.c2]; rfl, by rw [cell_of_row _ _ 1 _ _ _ h.c2]; rfl, by simp [World.frozen?, h.c2], by simp [World.frozen?, h.c2], by rw [cell_of_row _ _ 0 _ _ _ h.c3]; rfl, ?_, hide ⟨s, ka', cap', k', rfl, fun _ => ⟨rfl, by rw [hst, h.told], TIn.set (TIn.set ⟨hs, hlc, hcm, hkin⟩ o2) o2, hfr.mono (by omega), FPlain.set (FPlain.set hpl o2) o2⟩, (h.below.setCell (by simp <;> omega) _).setCell (by simp <;> omega) _⟩⟩
  rw [cell_of_row _ _ 1 _ _ _ h.c3, ← hv]
  rfl

/-- The node that is put in, in a block of its own. -/
structure KidIn (h : Nat) (wr : World) (bk : Nat) (x : It) (lab : ByteArray) (l : Gs) : Prop where
  blk : wr.heap[bk]? = some (Obj.cells #[.string x.1, .slice x.2.1 (flen x.2.2.2) x.2.2.1] 24)
  tin : ItIn wr x
  lo : h ≤ bk
  frm : FFrom h x.2.2.2
  plain : FPlain wr x.2.2.2
  told : bareIt x = (lab, toFo l)

/-- Its block made ahead of its kids. -/
theorem KidIn.ahead {h bk : Nat} {w5 : World} {lab : ByteArray} {ka : Option Addr} {cap : Nat} {k : Fo} {l : Gs} {a b : Value} (hb : w5.heap[bk]? = some (Obj.cells #[a, b] 24)) (hl : lab.size ≤ maxLen) (h1 : flen k ≤ cap) (h2 : cap ≤ maxLen) (hk : KIn w5 ka k) (hf : FFrom (bk + 1) k) (hh : h ≤ bk) (hp : FPlain w5 k) (hs : strip k = toFo l) :
    KidIn h ((w5.setCell ⟨bk, 0, none⟩ (.string lab)).setCell ⟨bk, 1, none⟩ (.slice ka (flen k) cap)) bk (lab, ka, cap, k) lab l := by
  have ho : FOff bk k := hf.off (by omega)
  refine ⟨by simp [World.setCell, Array.getElem?_modify, hb], TIn.set (TIn.set ⟨hl, h1, h2, hk⟩ ho) ho, hh, hf.mono (by omega), FPlain.set (FPlain.set hp ho) ho, by simp only [bareIt, hs]⟩
/-- Its block made behind its kids. -/
theorem KidIn.behind {h : Nat} {w5 : World} {lab : ByteArray} {ka : Option Addr} {cap : Nat} {k : Fo} {l : Gs} (hl : lab.size ≤ maxLen) (h1 : flen k ≤ cap) (h2 : cap ≤ maxLen) (hk : KIn w5 ka k) (hf : FFrom h k) (hw : h ≤ w5.heap.size) (hp : FPlain w5 k) (hs : strip k = toFo l) :
    KidIn h (w5.alloc (Obj.cells #[.string lab, .slice ka (flen k) cap] 24)) w5.heap.size (lab, ka, cap, k) lab l := by
  have hB : Below w5.heap.size w5 (w5.alloc (Obj.cells #[.string lab, .slice ka (flen k) cap] 24)) := (Below.refl _ _).alloc (Nat.le_refl _) _
  exact ⟨heap_alloc_new _ _, TIn.below hB ⟨hl, h1, h2, hk⟩, hw, hf, hp.below hB, by simp only [bareIt, hs]⟩

/-- A tree that lies in a block of its own, behind a list of one's own. -/
theorem append_at {B b : Nat} {w : World} {va : Option Addr} {vc : Nat} {L : List It} {x : It} (h : KInv 24 B w (.slice va L.length vc) L) (hb : w.heap[b]? = some (Obj.cells #[.string x.1, .slice x.2.1 (flen x.2.2.2) x.2.2.1] 24)) (hx : ItIn w x) (hf : FFrom B x.2.2.2) (hq : FPlain w x.2.2.2) (ho : ∀ g, (Value.slice va L.length vc).ownBlock = some g → FOff g x.2.2.2) (hBw : B ≤ w.heap.size) (hlen : L.length + 1 ≤ 1000000) :
    ∃ va' vc' w', (Builtin.append_ #[22, 22] 22 #[.slice va L.length vc, .slice (some ⟨b, 0, none⟩) 1 1]).run Try.prog w = .ok (.slice va' (L ++ [x]).length vc') w' ∧ KInv 24 B w' (.slice va' (L ++ [x]).length vc') (L ++ [x]) ∧ w.grownBy w' (Value.slice va L.length vc).ownBlock := by
  obtain ⟨i24, hi24, hz0, hz1, hz2⟩ := info_parts Try.infoTree
  obtain ⟨g, cap, w', hr, hown, hgrow, hat, _⟩ := run_append_lies (P := Try.prog) w 22 22 B 24 i24 _ 2 40 Try.underlying22 hi24 hz0 hz1 hz2 rfl (by decide) (.slice va L.length vc) L.length (rowCells L) h.row ⟨b, 0, none⟩ 1 1 (itCells x) rfl (World.news_of_block hb) (own_one x) (by decide) (by unfold maxLen; omega) (by omega) hBw w.heap.size rfl
  refine ⟨some ⟨g, 0, none⟩, cap, w', by rw [List.length_append]; exact hr, ?_, hgrow⟩
  rw [List.length_append]
  refine KInv.join h (L2 := [x]) (fun it hi => ?_) (by simpa [rowCells] using hown) hgrow hat
  have : it = x := by simpa using hi
  subst this
  exact ⟨hx, hf, hq, ho⟩

/-- The kids ahead of it, and it. -/
theorem ins_mid {w : World} {s : ByteArray} {ka : Option Addr} {cap : Nat} {k : Fo} {od : Obj} {wc w5 w6 : World} {bk b : Nat} {x : It} {lab : ByteArray} {l l2 : Gs} {va2 : Option Addr} {vc2 : Nat} {L2 : List It} (h : InsInv w s ka cap k od [] wc none 0 []) (hk : KidIn (w.heap.size + 1 + 1 + 1 + 1) wc bk x lab l) (h2 : KInv 24 wc.heap.size w5 (.slice va2 L2.length vc2) L2) (hL2 : L2.map bareIt = l2) (hn : l2.length ≤ 99999) (hb5 : Below wc.heap.size wc w5) (hb6 : Below w5.heap.size w5 w6) (hbb : w6.heap[b]? = some (Obj.cells #[.string x.1, .slice x.2.1 (flen x.2.2.2) x.2.2.1] 24)) :
    ∃ va' vc' w3 L', (Builtin.append_ #[22, 22] 22 #[.slice va2 L2.length vc2, .slice (some ⟨b, 0, none⟩) 1 1]).run Try.prog w6 = .ok (.slice va' (List.length (α := It) L') vc') w3 ∧ Below wc.heap.size wc w3 ∧ w3.heap[w.heap.size + 1 + 1 + 1]? = some (Obj.cells #[Value.string s, Value.slice none 0 0] 24) ∧ InsInv w s ka cap k od (l2 ++ [(lab, toFo l)]) (w3.setCell ⟨w.heap.size + 1 + 1 + 1, 1, none⟩ (.slice va' L'.length vc')) va' vc' L' := by
  have hs := h.size
  have hl2 : L2.length = l2.length := by rw [← hL2, List.length_map]
  have hb56 : Below wc.heap.size wc w6 := hb5.trans (hb6.mono hb5.size)
  have hz6 := hb56.size
  obtain ⟨va', vc', w3, hr, hK, hg⟩ := append_at (Deed.KInv.below (Deed.KInv.lower h2 hs) hb6) hbb (TIn.below hb56 hk.tin) hk.frm (hk.plain.below hb56) (fun g hg => hk.tin.kids.off (ownBlock_lt h2.row hg).1) (by omega) (by omega)
  have hB : Below wc.heap.size wc w3 := hb56.grown hg hz6 fun q hq => (ownBlock_lt h2.row hq).1
  obtain ⟨e1, e2⟩ := h.next (hB.mono hs) hK (G' := l2 ++ [(lab, toFo l)]) (by rw [List.map_append, hL2, List.map_cons, List.map_nil, hk.told])
  exact ⟨va', vc', w3, _, hr, hB, e1, e2⟩
/-- And the kids behind it. -/
theorem ins_end {w : World} {s : ByteArray} {ka : Option Addr} {cap : Nat} {k : Fo} {od : Obj} {wc w5 : World} {G l2 : Gs} {va va2 : Option Addr} {vc vc2 : Nat} {L L2 : List It} (h : InsInv w s ka cap k od G wc va vc L) (h2 : KInv 24 wc.heap.size w5 (.slice va2 L2.length vc2) L2) (hL2 : L2.map bareIt = l2) (hn : G.length + l2.length ≤ 1000000) (hb5 : Below wc.heap.size wc w5) :
    ∃ va' vc' w3 L', (Builtin.append_ #[22, 22] 22 #[.slice va L.length vc, .slice va2 L2.length vc2]).run Try.prog w5 = .ok (.slice va' (List.length (α := It) L') vc') w3 ∧ Below (w.heap.size + 1 + 1 + 1 + 1) wc w3 ∧ w3.heap[w.heap.size + 1 + 1 + 1]? = some (Obj.cells #[Value.string s, Value.slice va L.length vc] 24) ∧ InsInv w s ka cap k od (G ++ l2) (w3.setCell ⟨w.heap.size + 1 + 1 + 1, 1, none⟩ (.slice va' L'.length vc')) va' vc' L' := by
  have hs := h.size
  have hl2 : L2.length = l2.length := by rw [← hL2, List.length_map]
  have hl1 : L.length = G.length := by rw [← h.told, List.length_map]
  obtain ⟨va', vc', w3, hr, hK, hg, _⟩ := append_K (Deed.KInv.below h.kin hb5) h2 hs (fun g hg => (ownBlock_lt h.kin.row hg).2) (Nat.le_trans hs hb5.size) (by omega)
  have hB : Below (w.heap.size + 1 + 1 + 1 + 1) wc w3 := (hb5.mono hs).grown hg (Nat.le_trans hs hb5.size) fun q hq => (ownBlock_lt h.kin.row hq).1
  obtain ⟨e1, e2⟩ := h.next hB hK (G' := G ++ l2) (by rw [List.map_append, hL2, h.told])
  exact ⟨va', vc', w3, _, hr, hB, e1, e2⟩

/-- What OwnList comes to, as kids of a tree. -/
def OwnKEnd (l : Gs) (w : World) (e : Ending) (w' : World) : Prop := ∃ ka' cap' k', e = .returned (.slice ka' (flen k') cap') ∧ strip k' = toFo l ∧ flen k' ≤ cap' ∧ cap' ≤ maxLen ∧ KIn w' ka' k' ∧ FFrom w.heap.size k' ∧ FPlain w' k' ∧ Below w.heap.size w w'
theorem OwnLEnd.kids {l : Gs} {w w' : World} {e : Ending} (h : OwnLEnd l w e w') : OwnKEnd l w e w' := by
  obtain ⟨va, vc, L, rfl, hK, hLk, hb⟩ := h
  obtain ⟨ka', cap', k', hv, hst, hlc, hcm, hkin, hfr, hpl, _⟩ := hK.done2
  exact ⟨ka', cap', k', by rw [hv], by rw [hst, hLk], hlc, hcm, hkin, hfr, hpl, hb⟩

set_option maxHeartbeats 4000000 in
theorem done_ins (d : Dd) (hk3 : d.kind = 3) (hp0 : 0 ≤ d.pos) (hm0 : 0 ≤ d.many) (s : ByteArray) (ka : Option Addr) (cap : Nat) (k : Fo) (pa pb : Option Addr) (pc qc : Nat) (w : World) (ht : TIn w s ka cap k) (hn : fnodes k < 99999) (hl : d.lab.size ≤ maxLen) (hok : d.pos.toNat + d.many.toNat ≤ flen k) :
    Calls Try.prog 45 #[.agg #[.string s, .slice ka (flen k) cap], ddV d pa pc, .slice pb 0 qc] w (DoneEnd (doneR d [] s k) w) := by
  rw [doneR_ins hk3]
  obtain ⟨i, hi⟩ : ∃ i : Nat, d.pos = (i : Int) := ⟨d.pos.toNat, by omega⟩
  obtain ⟨n, hnn⟩ : ∃ n : Nat, d.many = (n : Int) := ⟨d.many.toNat, by omega⟩
  rw [hi, hnn, Int.toNat_natCast, Int.toNat_natCast] at hok
  unfold ddV
  rw [hk3, hi, hnn, Int.toNat_natCast, Int.toNat_natCast]
  have hlk := flen_le_nodes k
  have hcap := ht.cap
  have hlen := ht.len
  unfold maxLen at hcap
  obtain ⟨W, hW⟩ : ∃ W, W = (((w.alloc (Obj.cells #[Value.string s, Value.slice ka (flen k) cap] 24)).alloc (Obj.cells #[.int .i64 3, .slice pa d.path.length pc, .int .i64 (i : Int), .int .i64 (n : Int), .string d.lab] 44)).alloc (Obj.cells #[Value.string ⟨#[]⟩, Value.slice none 0 0] 24)).alloc (Obj.cells #[Value.string s, Value.slice none 0 0] 24) := ⟨_, rfl⟩
  obtain ⟨hWs, hB, c0, c1, c2, c3⟩ := boxes4 w (Obj.cells #[Value.string s, Value.slice ka (flen k) cap] 24) (Obj.cells #[.int .i64 3, .slice pa d.path.length pc, .int .i64 (i : Int), .int .i64 (n : Int), .string d.lab] 44) (Obj.cells #[Value.string ⟨#[]⟩, Value.slice none 0 0] 24) (Obj.cells #[Value.string s, Value.slice none 0 0] 24)
  rw [← hW] at hWs hB c0 c1 c2 c3
  have HST := hide (fun wr (h : Below (w.heap.size + 1 + 1 + 1 + 1) W wr) => InsInv.start hW h)
  have d1 : decide ((flen k : Int) < (i : Int)) = false := decide_eq_false (by omega)
  have d2 : decide ((flen k : Int) - (i : Int) < (n : Int)) = false := decide_eq_false (by omega)
  have HV := hide (show insOp i n d.lab s k = (0, s, toFo ((gsF k).take i ++ ((d.lab, toFo (((gsF k).drop i).take n)) :: (gsF k).drop (i + n)))) by unfold insOp; rw [if_pos hok])
  have x1 : W.cell? ⟨w.heap.size, 1, none⟩ = some (.slice ka (flen k) cap) := by rw [cell_of_row _ _ 1 _ _ _ c0]; rfl
  have y2 : W.cell? ⟨w.heap.size + 1, 2, none⟩ = some (.int .i64 (i : Int)) := by rw [cell_of_row _ _ 2 _ _ _ c1]; rfl
  have y3 : W.cell? ⟨w.heap.size + 1, 3, none⟩ = some (.int .i64 (n : Int)) := by rw [cell_of_row _ _ 3 _ _ _ c1]; rfl
  have y4 : W.cell? ⟨w.heap.size + 1, 4, none⟩ = some (.string d.lab) := by rw [cell_of_row _ _ 4 _ _ _ c1]; rfl
  have v1 : IntKind.i64.wrap ((i : Int) + (n : Int)) = (i : Int) + (n : Int) := by rw [IntKind.wrap_i64]; omega
  have sl1 := slice_lh ka (flen k) cap i (i + n) (by omega) (by omega)
  simp only [Nat.add_sub_cancel_left, Int.natCast_add] at sl1
  have hl1 : flen (ftake n (fdrop i k)) = n := flen_take _ _ (by rw [flen_drop]; omega)
  have ho1 : ∀ W', Below W.heap.size W W' → Calls Try.prog 42 #[.slice (subA ka cap i) n (cap - i)] W' (OwnKEnd (((gsF k).drop i).take n) W') := fun W' h => by
    have := ownListK_any (ftake n (fdrop i k)) (subA ka cap i) (cap - i) W' (Nat.lt_of_le_of_lt (Nat.le_trans (fnodes_take _ _) (fnodes_drop _ _)) hn) ((KIn.part ht.kids cap i n hlen).below (hB.trans (h.mono (by omega))))
    rw [hl1, gs_take, gs_drop] at this
    exact this.mono fun _ _ h => h.kids
  have hS : ∀ w', Below (w.heap.size + 1 + 1 + 1 + 1) W w' → (w'.cell? ⟨w.heap.size, 1, none⟩ = some (.slice ka (flen k) cap) ∧ w'.cell? ⟨w.heap.size + 1, 2, none⟩ = some (.int .i64 (i : Int)) ∧ w'.cell? ⟨w.heap.size + 1, 3, none⟩ = some (.int .i64 (n : Int)) ∧ w'.cell? ⟨w.heap.size + 1, 4, none⟩ = some (.string d.lab)) := fun w' h => ⟨by (rw [h.cell (by simp <;> omega)]; exact x1), by (rw [h.cell (by simp <;> omega)]; exact y2), by (rw [h.cell (by simp <;> omega)]; exact y3), by (rw [h.cell (by simp <;> omega)]; exact y4)⟩
  have HS := hide hS
  have HO1 := hide ho1
  have HWS := hide hWs
  have HB := hide hB
  have HT := hide ht
  have hW4 : w.heap.size + 1 + 1 + 1 + 1 ≤ W.heap.size := by omega
  have HB0 := hide (show Below W.heap.size W W.drew from (Below.refl _ _).drew)
  clear c0 c1 c2 c3 hWs hB ht hl1 ho1 hS
  go_enter Try.func45, Try.ntmps45
  go_wp2_with fail
  rw [← hW]
  clear hW
  go_cut [15] (fun v wx => ∃ (bk : Nat) (x : It), v = .pointer (some ⟨bk, 0, none⟩) ∧ Hid (Below (w.heap.size + 1 + 1 + 1 + 1) W wx ∧ KidIn (w.heap.size + 1 + 1 + 1 + 1) wx bk x d.lab (((gsF k).drop i).take n)))
  case first =>
    go_region_held3 (fun w' => w'.cell? ⟨w.heap.size, 1, none⟩ = some (.slice ka (flen k) cap) ∧ w'.cell? ⟨w.heap.size + 1, 2, none⟩ = some (.int .i64 (i : Int)) ∧ w'.cell? ⟨w.heap.size + 1, 3, none⟩ = some (.int .i64 (n : Int)) ∧ w'.cell? ⟨w.heap.size + 1, 4, none⟩ = some (.string d.lab))
      (first | exact HS.out _ (HB0.out.mono hW4) | exact HS.out _ ((HB0.out.mono hW4).alloc hW4 _) | exact HS.out _ HB5.out | exact HS.out _ (HB5.out.alloc (by omega) _) | exact HS.out _ ((HB5.out.setCell (by simp; omega) _).setCell (by simp; omega) _) | exact HS.out _ (((HB5.out.alloc (by omega) _).setCell (by simp; omega) _).setCell (by simp; omega) _))
      (first
        | (go_at_call 42; refine (HO1.out _ HB0.out).mono ?_; rintro e w5 ⟨ka', cap', k', rfl, hst, hlc, hcm, hkin, hfr, hpl, hb5⟩
           have hz5 : W.heap.size ≤ w5.heap.size := hb5.size
           have HB5 := hide (show Below (w.heap.size + 1 + 1 + 1 + 1) W w5 from (HB0.out.mono hW4).trans (hb5.mono hW4))
           have HKD := hide (KidIn.behind (h := w.heap.size + 1 + 1 + 1 + 1) (l := ((gsF k).drop i).take n) hl hlc hcm hkin (hfr.mono hW4) (Nat.le_trans hW4 hz5) hpl hst)
           clear hb5 hst hlc hcm hkin hfr hpl)
        | (go_at_call 42; refine (HO1.out _ (HB0.out.alloc (Nat.le_refl _) _)).mono ?_; rintro e w5 ⟨ka', cap', k', rfl, hst, hlc, hcm, hkin, hfr, hpl, hb5⟩
           have hc5 : w5.heap[W.heap.size]? = some (Obj.cells #[Value.string ⟨#[]⟩, Value.slice none 0 0] 24) := by (rw [hb5.block _ (by simp)]; exact heap_alloc_new _ _)
           have hz5 : W.heap.size + 1 ≤ w5.heap.size := by (have := hb5.size; simpa using this)
           have z0 : w5.cell? ⟨W.heap.size, 0, none⟩ = some (.string ⟨#[]⟩) := by (rw [cell_of_row _ _ 0 _ _ _ hc5]; rfl)
           have z1 : w5.cell? ⟨W.heap.size, 1, none⟩ = some (.slice none 0 0) := by (rw [cell_of_row _ _ 1 _ _ _ hc5]; rfl)
           have f0 : w5.frozen? ⟨W.heap.size, 0, none⟩ = false := by simp [World.frozen?, hc5]
           have f1 : w5.frozen? ⟨W.heap.size, 1, none⟩ = false := by simp [World.frozen?, hc5]
           have HB5 := hide (show Below (w.heap.size + 1 + 1 + 1 + 1) W w5 from ((HB0.out.mono hW4).alloc hW4 _).trans (hb5.mono (by simp only [nblk_alloc]; exact Nat.le_succ_of_le hW4)))
           have HKD := hide (KidIn.ahead (h := w.heap.size + 1 + 1 + 1 + 1) (l := ((gsF k).drop i).take n) hc5 hl hlc hcm hkin (by simpa using hfr) hW4 hpl hst)
           clear hb5 hst hlc hcm hkin hfr hpl hc5))
    · go_wp2_with fail
      go_meet
      case rel => exact ⟨_, _, rfl, hide ⟨HB5.out.alloc (by omega) _, HKD.out⟩⟩
    · go_wp2_with fail
      go_meet
      case rel => exact ⟨_, _, rfl, hide ⟨(HB5.out.setCell (by simp; omega) _).setCell (by simp; omega) _, HKD.out⟩⟩
  case rest =>
    obtain ⟨bk, x, rfl, hc⟩ := hcut
    obtain ⟨wA, hwA⟩ : ∃ wA, wA = wc := ⟨_, rfl⟩
    subst hwA
    clear HO1 HB0 x1 y2 y3 y4 sl1
    have hI := hide (HST.out wA hc.out.1)
    obtain ⟨x1, y2, _, _⟩ := HS.out wA hc.out.1
    have q0 : wA.cell? ⟨bk, 0, none⟩ = some (.string x.1) := by rw [cell_of_row _ _ 0 _ _ _ hc.out.2.blk]; rfl
    have q1 : wA.cell? ⟨bk, 1, none⟩ = some (.slice x.2.1 (flen x.2.2.2) x.2.2.1) := by rw [cell_of_row _ _ 1 _ _ _ hc.out.2.blk]; rfl
    have hbk : bk < wA.heap.size := World.block_lt_of_cell? _ _ q0
    have hlo := hc.out.2.lo
    have hzA := hI.out.size
    have sl2 := slice_h ka (flen k) cap i (by omega)
    have hl2 : flen (ftake i k) = i := flen_take _ _ (by omega)
    have ho2 : ∀ W', Below wA.heap.size wA W' → Calls Try.prog 42 #[.slice (subA ka cap 0) i cap] W' (OwnLEnd ((gsF k).take i) W') := fun W' h => by
      have := ownListK_any (ftake i k) (subA ka cap 0) cap W' (Nat.lt_of_le_of_lt (fnodes_take _ _) hn) ((KIn.part HT.out.kids cap 0 i hlen).below (hI.out.below.trans (h.mono (by omega))))
      rw [hl2, gs_take] at this
      exact this
    have hS2 : ∀ w', Below wA.heap.size wA w' → (w'.cell? ⟨w.heap.size, 1, none⟩ = some (.slice ka (flen k) cap) ∧ w'.cell? ⟨w.heap.size + 1, 2, none⟩ = some (.int .i64 (i : Int)) ∧ w'.cell? ⟨bk, 0, none⟩ = some (.string x.1) ∧ w'.cell? ⟨bk, 1, none⟩ = some (.slice x.2.1 (flen x.2.2.2) x.2.2.1)) := fun w' h => ⟨by (rw [h.cell (by simp <;> omega)]; exact x1), by (rw [h.cell (by simp <;> omega)]; exact y2), by (rw [h.cell (by simp <;> omega)]; exact q0), by (rw [h.cell (by simp <;> omega)]; exact q1)⟩
    have hS4 : ∀ w' v, Below wA.heap.size wA w' → ((w'.setCell ⟨w.heap.size + 1 + 1 + 1, 1, none⟩ v).cell? ⟨w.heap.size, 1, none⟩ = some (.slice ka (flen k) cap) ∧ (w'.setCell ⟨w.heap.size + 1 + 1 + 1, 1, none⟩ v).cell? ⟨w.heap.size + 1, 2, none⟩ = some (.int .i64 (i : Int)) ∧ (w'.setCell ⟨w.heap.size + 1 + 1 + 1, 1, none⟩ v).cell? ⟨bk, 0, none⟩ = some (.string x.1) ∧ (w'.setCell ⟨w.heap.size + 1 + 1 + 1, 1, none⟩ v).cell? ⟨bk, 1, none⟩ = some (.slice x.2.1 (flen x.2.2.2) x.2.2.1)) := fun w' v h => ⟨cellS (hS2 w' h).1 (by simp <;> omega), cellS (hS2 w' h).2.1 (by simp <;> omega), cellS (hS2 w' h).2.2.1 (by simp <;> omega), cellS (hS2 w' h).2.2.2 (by simp <;> omega)⟩
    have HS2 := hide hS2
    have HS4 := hide hS4
    have HO2 := hide ho2
    have HA0 := hide (show Below wA.heap.size wA wA.drew from (Below.refl _ _).drew)
    have hln : ((gsF k).take i).length ≤ 99999 := by rw [List.length_take]; omega
    clear hS2 hS4 ho2 hl2
    go_wp2_with fail
    go_cut [13] (fun v wx => v = .pointer (some ⟨w.heap.size + 1 + 1 + 1, 0, none⟩) ∧ ∃ va vc L, Hid (InsInv w s ka cap k (Obj.cells #[.int .i64 3, .slice pa d.path.length pc, .int .i64 (i : Int), .int .i64 (n : Int), .string d.lab] 44) ((gsF k).take i ++ [(d.lab, toFo (((gsF k).drop i).take n))]) wx va vc L))
    case first =>
      go_region_held3 (fun w' => w'.cell? ⟨w.heap.size, 1, none⟩ = some (.slice ka (flen k) cap) ∧ w'.cell? ⟨w.heap.size + 1, 2, none⟩ = some (.int .i64 (i : Int)) ∧ w'.cell? ⟨bk, 0, none⟩ = some (.string x.1) ∧ w'.cell? ⟨bk, 1, none⟩ = some (.slice x.2.1 (flen x.2.2.2) x.2.2.1))
        (first | exact HS2.out _ HA0.out | exact HS2.out _ (HA0.out.alloc (Nat.le_refl _) _) | exact HS2.out _ HA5.out | exact HS2.out _ (HA5.out.alloc HA5.out.size _) | exact HS2.out _ HA3.out | exact HS4.out _ _ HA3.out)
        (first
          | (refine step_append_run rfl _ _ _ rfl rfl HR.out rfl rfl ?_)
          | (go_at_call 42; refine (HO2.out _ HA0.out).mono ?_; rintro e w5 ⟨va2, vc2, L2, rfl, hK2, hL2, hb5⟩
             have hb5' : Below wA.heap.size wA w5 := HA0.out.trans hb5
             obtain ⟨va3, vc3, w3, L3, hr3, hB3, hc3, hI3⟩ := ins_mid hI.out hc.out.2 hK2 hL2 hln hb5' ((Below.refl _ w5).alloc (Nat.le_refl _) _) (heap_alloc_new _ _)
             have HR := hide hr3
             have HI3 := hide hI3
             have HA5 := hide hb5'
             have HA3 := hide hB3
             have z3 : w3.cell? ⟨w.heap.size + 1 + 1 + 1, 1, none⟩ = some (.slice none 0 0) := by (rw [cell_of_row _ _ 1 _ _ _ hc3]; rfl)
             have z4 : w3.frozen? ⟨w.heap.size + 1 + 1 + 1, 1, none⟩ = false := by simp [World.frozen?, hc3]
             clear hr3 hI3 hB3 hc3 hb5 hb5' hK2 hL2)
          | (go_at_call 42; refine (HO2.out _ (HA0.out.alloc (Nat.le_refl _) _)).mono ?_; rintro e w5 ⟨va2, vc2, L2, rfl, hK2, hL2, hb5⟩
             have hb5' : Below wA.heap.size wA w5 := (HA0.out.alloc (Nat.le_refl _) _).trans (hb5.mono (by simp only [nblk_alloc]; exact Nat.le_succ _))
             have hbb : w5.heap[wA.heap.size]? = some (Obj.cells #[.string x.1, .slice x.2.1 (flen x.2.2.2) x.2.2.1] 24) := by (rw [hb5.block _ (by simp only [nblk_alloc]; exact Nat.lt_succ_self _)]; exact heap_alloc_new _ _)
             obtain ⟨va3, vc3, w3, L3, hr3, hB3, hc3, hI3⟩ := ins_mid hI.out hc.out.2 (Deed.KInv.lower hK2 (by simp only [nblk_alloc]; exact Nat.le_succ _)) hL2 hln hb5' (Below.refl _ w5) hbb
             have HR := hide hr3
             have HI3 := hide hI3
             have HA5 := hide hb5'
             have HA3 := hide hB3
             have z3 : w3.cell? ⟨w.heap.size + 1 + 1 + 1, 1, none⟩ = some (.slice none 0 0) := by (rw [cell_of_row _ _ 1 _ _ _ hc3]; rfl)
             have z4 : w3.frozen? ⟨w.heap.size + 1 + 1 + 1, 1, none⟩ = false := by simp [World.frozen?, hc3]
             clear hr3 hI3 hB3 hc3 hb5 hb5' hK2 hL2 hbb))
      all_goals
        go_wp2_with fail
        go_meet
        case rel => exact ⟨rfl, va3, vc3, L3, HI3⟩
    case rest =>
      obtain ⟨rfl, va, vc, L, hJ⟩ := hcut
      obtain ⟨wB, hwB⟩ : ∃ wB, wB = wc := ⟨_, rfl⟩
      subst hwB
      clear HO2 HS2 HS4 HA0 x1 y2 q0 q1 hbk hlo hzA sl2 hI hc hln HS HST
      have x1 : wB.cell? ⟨w.heap.size, 1, none⟩ = some (.slice ka (flen k) cap) := by rw [cell_of_row _ _ 1 _ _ _ hJ.out.c0]; rfl
      have y2 : wB.cell? ⟨w.heap.size + 1, 2, none⟩ = some (.int .i64 (i : Int)) := by rw [cell_of_row _ _ 2 _ _ _ hJ.out.c1]; rfl
      have y3 : wB.cell? ⟨w.heap.size + 1, 3, none⟩ = some (.int .i64 (n : Int)) := by rw [cell_of_row _ _ 3 _ _ _ hJ.out.c1]; rfl
      have o1 : wB.cell? ⟨w.heap.size + 1 + 1 + 1, 1, none⟩ = some (.slice va L.length vc) := by rw [cell_of_row _ _ 1 _ _ _ hJ.out.c3]; rfl
      have hzB := hJ.out.size
      have sl3 := slice_l ka (flen k) cap (i + n) (by omega)
      simp only [Int.natCast_add] at sl3
      have hl3 : flen (ftake (flen k - (i + n)) (fdrop (i + n) k)) = flen k - (i + n) := flen_take _ _ (by rw [flen_drop]; omega)
      have ho3 : Calls Try.prog 42 #[.slice (subA ka cap (i + n)) (flen k - (i + n)) (cap - (i + n))] wB.drew (OwnLEnd ((gsF k).drop (i + n)) wB.drew) := by
        have := ownListK_any (ftake (flen k - (i + n)) (fdrop (i + n) k)) (subA ka cap (i + n)) (cap - (i + n)) wB.drew (Nat.lt_of_le_of_lt (Nat.le_trans (fnodes_take _ _) (fnodes_drop _ _)) hn) ((KIn.part HT.out.kids cap (i + n) (flen k - (i + n)) hlen).below hJ.out.below.drew)
        rw [hl3, gs_take, gs_drop, List.take_of_length_le (by rw [List.length_drop, gs_len]; omega)] at this
        exact this
      have HO3 := hide ho3
      have hln : ((gsF k).take i ++ [(d.lab, toFo (((gsF k).drop i).take n))]).length + ((gsF k).drop (i + n)).length ≤ 1000000 := by
        simp only [List.length_append, List.length_take, List.length_drop, List.length_cons, List.length_nil, gs_len]
        omega
      have HLN := hide hln
      clear ho3 hl3 hln
      go_wp2_with fail
      go_region_law (first
          | (refine step_append_run rfl _ _ _ rfl rfl HR.out rfl rfl ?_)
          | (go_simp; refine HO3.out.mono ?_; rintro e w1 ⟨va2, vc2, L2, rfl, hK2, hL2, hb1⟩
             have hb1' : Below wB.heap.size wB w1 := ((Below.refl wB.heap.size wB).drew).trans hb1
             obtain ⟨va3, vc3, w3, L3, hr3, hB3, hc3, hI3⟩ := ins_end hJ.out hK2 hL2 HLN.out hb1'
             have HR := hide hr3
             have HI3 := hide hI3
             have z1 : w1.cell? ⟨w.heap.size + 1 + 1 + 1, 1, none⟩ = some (.slice va L.length vc) := by (rw [hb1'.cell (by simp; omega)]; exact o1)
             have z3 : w3.cell? ⟨w.heap.size + 1 + 1 + 1, 1, none⟩ = some (.slice va L.length vc) := by (rw [cell_of_row _ _ 1 _ _ _ hc3]; rfl)
             have z4 : w3.frozen? ⟨w.heap.size + 1 + 1 + 1, 1, none⟩ = false := by simp [World.frozen?, hc3]
             clear hr3 hI3 hB3 hc3 hb1 hb1' hK2 hL2
             go_simp))
      all_goals
        obtain ⟨w4, hw4⟩ : ∃ w4, w4 = w3.setCell ⟨w.heap.size + 1 + 1 + 1, 1, none⟩ (.slice va3 L3.length vc3) := ⟨_, rfl⟩
        rw [← hw4] at HI3
        rw [← hw4]
        obtain ⟨ka', cap', k', e20, e21, f20, f21, e30, e31, hfin⟩ := HI3.out.fin HT.out.size
        clear hw4 HR z1 z3 z4 x1 y2 y3 o1 sl3 HO3 HLN HI3 hJ
        go_wp2_with fail
        refine bodyPost_ret (v := .tuple #[.agg #[.string s, .slice ka' (flen k') cap'], .int .i64 0]) (by simp [results, Try.results45, go_sem, *]) rfl ?_
        rw [HV.out]
        have := hfin.out
        rw [List.append_assoc, List.singleton_append] at this
        exact this

end Go.Proofs.Ytpgiagkbfnbgkab.Deed
