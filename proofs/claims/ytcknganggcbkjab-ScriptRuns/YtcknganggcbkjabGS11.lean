/- done of package pleachingref: a node is taken away, and its kids come to its place. Of the program's text. -/
/- The closures of tree.Check and tree.Size: each node that they look at is counted, and its label and place noted. Of the program's text. -/
/- The steps of a walk through a tree: a list of the way is at its end, a node is met, a list more comes. Of no program. -/
import Derived.Test.YtcknganggcbkjabGS10
import Derived.BigQuiet
import Derived.Deep.RegionLaw
import Derived.Test.YtcknganggcbkjabProg
import Derived.Test.YtcknganggcbkjabGS03
import Derived.Test.YtcknganggcbkjabGS01
namespace Go.Proofs.Ytcknganggcbkjab.Deed
open Go.Deep Go.RowKit
set_option linter.unusedVariables false
set_option maxRecDepth 20000

/-- append at a step of a region that draws its order, its run known. -/
theorem step_append_run {P : Program} {w : World} {ops : Array Oper} {o : Oper} {a : Act} {K : Act → World → Prop} {Q : Exit → Act → World → Prop} {E : Prop} (hgd : o.guard = none) (s x : Operand) (t : TypeId)
    (ho : o.op = .call { callee := .builtin .append, args := #[s, x], argTypes := #[t, t] }) (ht : o.type = t) {vs vx v : Value} {w' : World} (hr : (Builtin.append_ #[t, t] t #[vs, vx]).run P w = .ok v w') (hs : a.eval s = vs) (hx : a.eval x = vx) (h : K (a.put o.dst v) w') :
    if Region.wanted o (yielded ops a.tmps) = true then Oper.wp P o a w K Q else E := by
  have hw : Region.wanted o (yielded ops a.tmps) = true := by simp [Region.wanted, hgd]
  rw [if_pos hw]
  unfold Oper.wp execOp
  simp only [ho, ht, resolve, invoke, builtin, Sem.run_bind, Sem.run_pure, Result.andThen_ok, List.map_toArray, List.map_cons, List.map_nil, hs, hx, hr]
  exact h

/-- A tree of one's own that lies in a block of its own, behind a list of one's own. -/
theorem append_1 {B : Nat} {w : World} {va : Option Addr} {vc : Nat} {L : List It} {x : It} (h : KInv 24 B w (.slice va L.length vc) L) (hx : ItIn w x) (hf : FFrom B x.2.2.2) (hq : FPlain w x.2.2.2) (ho : ∀ g, (Value.slice va L.length vc).ownBlock = some g → FOff g x.2.2.2) (hBw : B ≤ w.heap.size) (hlen : L.length + 1 ≤ 1000000) :
    ∃ va' vc' w', (Builtin.append_ #[22, 22] 22 #[.slice va L.length vc, .slice (some ⟨w.heap.size, 0, none⟩) 1 1]).run Try.prog (w.alloc (Obj.cells #[.string x.1, .slice x.2.1 (flen x.2.2.2) x.2.2.1] 24)) = .ok (.slice va' (L ++ [x]).length vc') w' ∧ KInv 24 B w' (.slice va' (L ++ [x]).length vc') (L ++ [x]) ∧ (w.alloc (Obj.cells #[.string x.1, .slice x.2.1 (flen x.2.2.2) x.2.2.1] 24)).grownBy w' (Value.slice va L.length vc).ownBlock := by
  obtain ⟨i24, hi24, hz0, hz1, hz2⟩ := info_parts Try.infoTree
  obtain ⟨g, cap, w', hr, hown, hgrow, hat, _⟩ := run_append_lies (P := Try.prog) (w.alloc (Obj.cells #[.string x.1, .slice x.2.1 (flen x.2.2.2) x.2.2.1] 24)) 22 22 B 24 i24 _ 2 40 Try.underlying22 hi24 hz0 hz1 hz2 rfl (by decide) (.slice va L.length vc) L.length (rowCells L) (ownsRow_below h.row ((Below.refl _ _).alloc (Nat.le_refl _) _)) ⟨w.heap.size, 0, none⟩ 1 1 (itCells x) rfl (own_news w 24 x) (own_one x) (by decide) (by unfold maxLen; omega) (by omega) (by simp; omega) (w.heap.size + 1) (by simp)
  refine ⟨some ⟨g, 0, none⟩, cap, w', by rw [List.length_append]; exact hr, ?_, hgrow⟩
  rw [List.length_append]
  exact KInv.step h hx hq hf ho hown hgrow hat

/-- The kids so far, one of them taken away. -/
def delJ (p : Nat) (l : Gs) : Gs := match l[p]? with
  | none => l
  | some x => l.take p ++ (gsF x.2 ++ l.drop (p + 1))
theorem delJ_nil (p : Nat) : delJ p [] = [] := by simp [delJ]
theorem delJ_at {p : Nat} {l : Gs} {y : ByteArray × Fo} (h : l.length = p) : delJ p (l ++ [y]) = delJ p l ++ gsF y.2 := by
  subst h
  simp [delJ]
theorem delJ_on {p : Nat} {l : Gs} {y : ByteArray × Fo} (h : l.length ≠ p) : delJ p (l ++ [y]) = delJ p l ++ [y] := by
  unfold delJ
  rcases Nat.lt_or_ge l.length p with h1 | h1
  · rw [List.getElem?_eq_none (by simp; omega), List.getElem?_eq_none (by omega)]
  · have h2 : p < l.length := by omega
    rw [List.getElem?_append_left h2, List.getElem?_eq_getElem h2]
    simp only
    rw [List.take_append_of_le_length (by omega), List.drop_append_of_le_length (by omega)]
    simp

/-- What the loop keeps that takes a node away. -/
structure DelInv (w : World) (s : ByteArray) (ka : Option Addr) (cap : Nat) (k : Fo) (p j : Nat) (wr : World) (va : Option Addr) (vc : Nat) (L : List It) : Prop where
  c0 : wr.heap[w.heap.size]? = some (Obj.cells #[Value.string s, Value.slice ka (flen k) cap] 24)
  c2 : wr.heap[w.heap.size + 1 + 1]? = some (Obj.cells #[Value.string ⟨#[]⟩, Value.slice none 0 0] 24)
  c3 : wr.heap[w.heap.size + 1 + 1 + 1]? = some (Obj.cells #[Value.string s, Value.slice va L.length vc] 24)
  kin : KInv 24 (w.heap.size + 1 + 1 + 1 + 1) wr (.slice va L.length vc) L
  told : L.map bareIt = delJ p ((gsF k).take j)
  few : L.length ≤ j + 99999 ∧ (j ≤ p → L.length ≤ j)
  below : Below w.heap.size w wr
  size : w.heap.size + 1 + 1 + 1 + 1 ≤ wr.heap.size

theorem DelInv.next {w : World} {s : ByteArray} {ka : Option Addr} {cap : Nat} {k : Fo} {p j j' : Nat} {wr w1 w3 : World} {va va' : Option Addr} {vc vc' : Nat} {L L' : List It} (h : DelInv w s ka cap k p j wr va vc L) (hb : Below wr.heap.size wr w1) (hg : w1.grownBy w3 (Value.slice va L.length vc).ownBlock)
    (hK : KInv 24 (w.heap.size + 1 + 1 + 1 + 1) w3 (.slice va' L'.length vc') L') (ht : L'.map bareIt = delJ p ((gsF k).take j')) (hf : L'.length ≤ j' + 99999 ∧ (j' ≤ p → L'.length ≤ j')) :
    Below (w.heap.size + 1 + 1 + 1 + 1) wr w3 ∧ w3.heap[w.heap.size + 1 + 1 + 1]? = some (Obj.cells #[Value.string s, Value.slice va L.length vc] 24) ∧ DelInv w s ka cap k p j' (w3.setCell ⟨w.heap.size + 1 + 1 + 1, 1, none⟩ (.slice va' L'.length vc')) va' vc' L' := by
  have hs := h.size
  have hB : Below (w.heap.size + 1 + 1 + 1 + 1) wr w3 := (hb.mono hs).grown hg (Nat.le_trans hs hb.size) fun q hq => (ownBlock_lt h.kin.row hq).1
  have hb3 : ∀ b, b < w.heap.size + 1 + 1 + 1 + 1 → w3.heap[b]? = wr.heap[b]? := fun b hlt => hB.block b hlt
  have hc3 : w3.heap[w.heap.size + 1 + 1 + 1]? = some (Obj.cells #[Value.string s, Value.slice va L.length vc] 24) := by rw [hb3 _ (by omega)]; exact h.c3
  refine ⟨hB, hc3, ?_, ?_, ?_, ?_, ht, hf, ?_, ?_⟩
  · rw [Below.heap_setCell _ _ _ _ (by simp <;> omega), hb3 _ (by omega)]
    exact h.c0
  · rw [Below.heap_setCell _ _ _ _ (by simp <;> omega), hb3 _ (by omega)]
    exact h.c2
  · simp [World.setCell, Array.getElem?_modify, hc3]
  · exact hK.but (g0 := w.heap.size + 1 + 1 + 1) (by omega) fun b _ hb => Below.heap_setCell _ _ _ _ hb
  · exact (h.below.trans (hB.mono (by omega))).setCell (by simp <;> omega) _
  · have := hB.size
    simp
    omega

theorem DelInv.start {w wr : World} {s : ByteArray} {ka : Option Addr} {cap : Nat} {k : Fo} {p : Nat} {od : Obj} (hb : Below (((((w.alloc (Obj.cells #[Value.string s, Value.slice ka (flen k) cap] 24)).alloc od).alloc (Obj.cells #[Value.string ⟨#[]⟩, Value.slice none 0 0] 24)).alloc (Obj.cells #[Value.string s, Value.slice none 0 0] 24)).heap.size) ((((w.alloc (Obj.cells #[Value.string s, Value.slice ka (flen k) cap] 24)).alloc od).alloc (Obj.cells #[Value.string ⟨#[]⟩, Value.slice none 0 0] 24)).alloc (Obj.cells #[Value.string s, Value.slice none 0 0] 24)) wr) :
    DelInv w s ka cap k p 0 wr none 0 [] := by
  obtain ⟨hWs, hB, c0, c1, c2, c3⟩ := boxes4 w (Obj.cells #[Value.string s, Value.slice ka (flen k) cap] 24) od (Obj.cells #[Value.string ⟨#[]⟩, Value.slice none 0 0] 24) (Obj.cells #[Value.string s, Value.slice none 0 0] 24)
  rw [hWs] at hb
  refine ⟨by rw [hb.block _ (by omega)]; exact c0, by rw [hb.block _ (by omega)]; exact c2, by rw [hb.block _ (by omega)]; exact c3, KInv.start _ _ _, by simp [delJ_nil], by simp, hB.trans (hb.mono (by omega)), by have := hb.size; omega⟩

theorem DelInv.kids {w : World} {s : ByteArray} {ka : Option Addr} {cap : Nat} {k : Fo} {p : Nat} {wr w1 : World} {va va2 : Option Addr} {vc vc2 : Nat} {L L2 : List It} {y : ByteArray × Fo} (h : DelInv w s ka cap k p p wr va vc L) (hp : p < 99999) (he : (gsF k)[p]? = some y) (h2 : KInv 24 wr.heap.size w1 (.slice va2 L2.length vc2) L2) (hL2 : L2.map bareIt = gsF y.2) (hn : flen y.2 < 99999) (hb : Below wr.heap.size wr w1) :
    ∃ va' vc' w3 L', (Builtin.append_ #[22, 22] 22 #[.slice va L.length vc, .slice va2 L2.length vc2]).run Try.prog w1 = .ok (.slice va' (List.length (α := It) L') vc') w3 ∧ Below (w.heap.size + 1 + 1 + 1 + 1) wr w3 ∧ w3.heap[w.heap.size + 1 + 1 + 1]? = some (Obj.cells #[Value.string s, Value.slice va L.length vc] 24) ∧ DelInv w s ka cap k p (p + 1) (w3.setCell ⟨w.heap.size + 1 + 1 + 1, 1, none⟩ (.slice va' L'.length vc')) va' vc' L' := by
  have hs := h.size
  have hl2 : L2.length = flen y.2 := by rw [← gs_len, ← hL2, List.length_map]
  have hf := h.few.2 (Nat.le_refl _)
  obtain ⟨va', vc', w3, hr, hK, hg, _⟩ := append_K (Deed.KInv.below h.kin hb) h2 hs (fun g hg => (ownBlock_lt h.kin.row hg).2) (Nat.le_trans hs hb.size) (by omega)
  have hplen : p < (gsF k).length := by
    rcases Nat.lt_or_ge p (gsF k).length with h' | h'
    · exact h'
    · rw [List.getElem?_eq_none h'] at he
      cases he
  have ht : (L ++ L2).map bareIt = delJ p ((gsF k).take (p + 1)) := by
    rw [List.take_add_one, he, Option.toList_some, delJ_at (by rw [List.length_take]; omega), List.map_append, h.told, hL2]
  obtain ⟨e1, e2, e3⟩ := h.next hb hg hK ht ⟨by rw [List.length_append]; omega, fun h' => absurd h' (by omega)⟩
  exact ⟨va', vc', w3, _, hr, e1, e2, e3⟩
theorem DelInv.one {w : World} {s : ByteArray} {ka : Option Addr} {cap : Nat} {k : Fo} {p j : Nat} {wr w1 : World} {va : Option Addr} {vc : Nat} {L : List It} {x : It} {y : ByteArray × Fo} (h : DelInv w s ka cap k p j wr va vc L) (hjp : j ≠ p) (hj : j < 99999) (he : (gsF k)[j]? = some y) (hx : ItIn w1 x) (hf : FFrom wr.heap.size x.2.2.2) (hq : FPlain w1 x.2.2.2) (hy : bareIt x = y) (hb : Below wr.heap.size wr w1) :
    ∃ va' vc' w3 L', (Builtin.append_ #[22, 22] 22 #[.slice va L.length vc, .slice (some ⟨w1.heap.size, 0, none⟩) 1 1]).run Try.prog (w1.alloc (Obj.cells #[.string x.1, .slice x.2.1 (flen x.2.2.2) x.2.2.1] 24)) = .ok (.slice va' (List.length (α := It) L') vc') w3 ∧ Below (w.heap.size + 1 + 1 + 1 + 1) wr w3 ∧ w3.heap[w.heap.size + 1 + 1 + 1]? = some (Obj.cells #[Value.string s, Value.slice va L.length vc] 24) ∧ DelInv w s ka cap k p (j + 1) (w3.setCell ⟨w.heap.size + 1 + 1 + 1, 1, none⟩ (.slice va' L'.length vc')) va' vc' L' := by
  have hs := h.size
  have hfw := h.few
  obtain ⟨va', vc', w3, hr, hK, hg⟩ := append_1 (Deed.KInv.below h.kin hb) hx (hf.mono hs) hq (fun g hg => hf.off (ownBlock_lt h.kin.row hg).2) (Nat.le_trans hs hb.size) (by omega)
  have hplen : j < (gsF k).length := by
    rcases Nat.lt_or_ge j (gsF k).length with h' | h'
    · exact h'
    · rw [List.getElem?_eq_none h'] at he
      cases he
  have ht : (L ++ [x]).map bareIt = delJ p ((gsF k).take (j + 1)) := by
    rw [List.take_add_one, he, Option.toList_some, delJ_on (by rw [List.length_take]; omega), List.map_append, h.told, List.map_cons, List.map_nil, hy]
  obtain ⟨e1, e2, e3⟩ := h.next (hb.alloc hb.size _) hg hK ht ⟨by rw [List.length_append]; simp only [List.length_cons, List.length_nil]; omega, fun h' => by rw [List.length_append]; simp only [List.length_cons, List.length_nil]; have := hfw.2 (by omega); omega⟩
  exact ⟨va', vc', w3, _, hr, e1, e2, e3⟩

set_option maxHeartbeats 2000000 in
theorem done_del (d : Dd) (hk2 : d.kind = 2) (p : Nat) (s : ByteArray) (ka : Option Addr) (cap : Nat) (k : Fo) (pa : Option Addr) (pb po pc qc : Nat) (w : World) (ht : TIn w s ka cap k) (hn : fnodes k < 99999) (hp : w.cell? ⟨pb, po, none⟩ = some (.int .i64 (p : Int))) :
    Calls Try.prog 56 #[.agg #[.string s, .slice ka (flen k) cap], ddV d pa pc, .slice (some ⟨pb, po, none⟩) 1 qc] w (DoneEnd (doneR d [(p : Int)] s k) w) := by
  rw [doneR_del hk2, Int.toNat_natCast]
  unfold ddV
  rw [hk2]
  have hpb : pb < w.heap.size := World.block_lt_of_cell? _ _ hp
  have hlk := flen_le_nodes k
  obtain ⟨W, hW⟩ : ∃ W, W = (((w.alloc (Obj.cells #[Value.string s, Value.slice ka (flen k) cap] 24)).alloc (Obj.cells #[.int .i64 2, .slice pa d.path.length pc, .int .i64 d.pos, .int .i64 d.many, .string d.lab] 44)).alloc (Obj.cells #[Value.string ⟨#[]⟩, Value.slice none 0 0] 24)).alloc (Obj.cells #[Value.string s, Value.slice none 0 0] 24) := ⟨_, rfl⟩
  obtain ⟨hWs, hB, c0, c1, c2, c3⟩ := boxes4 w (Obj.cells #[Value.string s, Value.slice ka (flen k) cap] 24) (Obj.cells #[.int .i64 2, .slice pa d.path.length pc, .int .i64 d.pos, .int .i64 d.many, .string d.lab] 44) (Obj.cells #[Value.string ⟨#[]⟩, Value.slice none 0 0] 24) (Obj.cells #[Value.string s, Value.slice none 0 0] 24)
  rw [← hW] at hWs hB c0 c1 c2 c3
  have p0 : W.cell? ⟨pb, po, none⟩ = some (.int .i64 (p : Int)) := by rw [hB.cell hpb]; exact hp
  have x0 : W.cell? ⟨w.heap.size, 0, none⟩ = some (.string s) := by rw [cell_of_row _ _ 0 _ _ _ c0]; rfl
  have x1 : W.cell? ⟨w.heap.size, 1, none⟩ = some (.slice ka (flen k) cap) := by rw [cell_of_row _ _ 1 _ _ _ c0]; rfl
  by_cases hge : flen k ≤ p
  · have d1 : decide ((flen k : Int) ≤ (p : Int)) = true := decide_eq_true (by omega)
    have HV := hide (show delOp p s k = (7, s, k) by
      unfold delOp
      rw [List.getElem?_eq_none (by rw [gs_len]; exact hge)])
    have y0 : W.cell? ⟨w.heap.size + 1 + 1, 0, none⟩ = some (.string ⟨#[]⟩) := by rw [cell_of_row _ _ 0 _ _ _ c2]; rfl
    have y1 : W.cell? ⟨w.heap.size + 1 + 1, 1, none⟩ = some (.slice none 0 0) := by rw [cell_of_row _ _ 1 _ _ _ c2]; rfl
    have f0 : W.frozen? ⟨w.heap.size + 1 + 1, 0, none⟩ = false := by simp [World.frozen?, c2]
    have f1 : W.frozen? ⟨w.heap.size + 1 + 1, 1, none⟩ = false := by simp [World.frozen?, c2]
    clear c0 c1 c2 c3 hWs ht
    have HB := hide hB
    clear hB
    go_enter Try.func56, Try.ntmps56
    go_wp2_with fail
    rw [← hW]
    clear hW
    go_quiet (fail)
    go_wp2_with fail
    refine bodyPost_ret (v := .tuple #[.agg #[.string s, .slice ka (flen k) cap], .int .i64 7]) (by simp [results, Try.results56, go_sem, *]) rfl ⟨s, ka, cap, k, by rw [HV.out], fun h => (by rw [HV.out] at h; cases h), ?_⟩
    repeat (first | exact HB.out | refine Below.setCell ?_ (by simp <;> omega) _ | refine below_drewN ?_ _ | refine Below.drew ?_)
  have d1 : decide ((flen k : Int) ≤ (p : Int)) = false := decide_eq_false (by omega)
  rcases ht.kids with rfl | ⟨kb, ko, rfl, hkf⟩
  · simp [flen] at hge
  have hst : ∀ wr, Below W.heap.size W wr → DelInv w s (some ⟨kb, ko, none⟩) cap k p 0 wr none 0 [] := fun wr h => DelInv.start (by rw [← hW]; exact h)
  have HST := hide hst
  have HKF := hide hkf
  have HT := hide ht
  clear hkf ht hst c0 c1 c2 c3 hWs hB
  go_enter Try.func56, Try.ntmps56
  go_wp2_with fail
  rw [← hW]
  clear hW
  go_quiet (fail)
  go_wp2_with fail
  have hS0 := hide (HST.out _ (below_drewN (Below.refl W.heap.size W) nq))
  clear HST x0 x1 p0
  go_loopw [14] (fun c wr => ∃ (j : Nat) (va : Option Addr) (vc : Nat) (L : List It), j ≤ flen k ∧ c = .int .i64 j ∧ Hid (DelInv w s (some ⟨kb, ko, none⟩) cap k p j wr va vc L)) (fun c _ => flen k - (intOf c).toNat)
  case atStart => exact ⟨0, none, 0, [], Nat.zero_le _, rfl, hS0⟩
  case round =>
    obtain ⟨j, va, vc, L, hj, rfl, hI⟩ := hrel
    have q0 : wr.cell? ⟨pb, po, none⟩ = some (.int .i64 (p : Int)) := by rw [hI.out.below.cell hpb]; exact hp
    have x1 : wr.cell? ⟨w.heap.size, 1, none⟩ = some (.slice (some ⟨kb, ko, none⟩) (flen k) cap) := by rw [cell_of_row _ _ 1 _ _ _ hI.out.c0]; rfl
    have o1 : wr.cell? ⟨w.heap.size + 1 + 1 + 1, 1, none⟩ = some (.slice va L.length vc) := by rw [cell_of_row _ _ 1 _ _ _ hI.out.c3]; rfl
    by_cases hlt : j < flen k
    · obtain ⟨b', o', x, kk, he, hc0, hc1, htin, hbb⟩ := HKF.out.at hlt
      have HE := hide (gs_node he)
      have hn2 : fnodes kk < 99999 := by have := fnodes_of_drop he; omega
      clear he
      have k0 : wr.cell? ⟨kb, ko + j * 2, none⟩ = some (.string x.1) := by rw [hI.out.below.cell hbb]; exact hc0
      have k1 : wr.cell? ⟨kb, ko + j * 2 + 1, none⟩ = some (.slice x.2.1 (flen kk) x.2.2) := by rw [hI.out.below.cell hbb]; exact hc1
      have hS : ∀ w', Below (w.heap.size + 1) wr w' → (w'.cell? ⟨w.heap.size, 1, none⟩ = some (.slice (some ⟨kb, ko, none⟩) (flen k) cap) ∧ w'.cell? ⟨kb, ko + j * 2, none⟩ = some (.string x.1) ∧ w'.cell? ⟨kb, ko + j * 2 + 1, none⟩ = some (.slice x.2.1 (flen kk) x.2.2)) := fun w' h => ⟨by (rw [h.cell (by simp)]; exact x1), by (rw [h.cell (by simp; omega)]; exact k0), by (rw [h.cell (by simp; omega)]; exact k1)⟩
      have HS := hide hS
      have hz := hI.out.size
      have HB0 := hide (show Below (w.heap.size + 1) wr wr.drew from (Below.refl _ _).drew)
      have HTI := hide htin
      clear hS htin hc0 hc1 hS0
      by_cases hjp : j = p
      · subst hjp
        have HO := hide (ownListK_any kk x.2.1 x.2.2 wr.drew hn2 (HTI.out.kids.below hI.out.below.drew))
        go_wp2_with fail
        go_region_law (first
            | (refine step_append_run rfl _ _ _ rfl rfl HR.out rfl rfl ?_)
            | (go_simp; refine HO.out.mono ?_; rintro e w1 ⟨va2, vc2, L2, rfl, hK2, hL2, hb1⟩
               have hb1' : Below wr.heap.size wr w1 := ((Below.refl wr.heap.size wr).drew).trans hb1
               obtain ⟨va3, vc3, w3, L3, hr3, hB3, hc3, hI3⟩ := hI.out.kids (by omega) HE.out hK2 (by rw [gs_strip]; exact hL2) (by rw [flen_strip]; have := flen_le_nodes kk; omega) hb1'
               have HR := hide hr3
               have HI3 := hide hI3
               have z1 : w1.cell? ⟨w.heap.size + 1 + 1 + 1, 1, none⟩ = some (.slice va L.length vc) := by (rw [hb1'.cell (by simp; omega)]; exact o1)
               have z3 : w3.cell? ⟨w.heap.size + 1 + 1 + 1, 1, none⟩ = some (.slice va L.length vc) := by (rw [cell_of_row _ _ 1 _ _ _ hc3]; rfl)
               have z4 : w3.frozen? ⟨w.heap.size + 1 + 1 + 1, 1, none⟩ = false := by simp [World.frozen?, hc3]
               clear hr3 hI3 hB3 hc3 hb1 hb1' hK2 hL2
               go_simp))
        all_goals
          go_wp2_with fail
          go_roundw
          case rel => exact ⟨j + 1, va3, vc3, L3, by omega, by go_num, HI3⟩
          case measure => simp [intOf]; omega
      · have e1 : ((j : Int) == (p : Int)) = false := beq_eq_false_iff_ne.2 (by omega)
        have HO := hide (refOwn_any x.1 x.2.1 x.2.2 kk wr.drew hn2 (HTI.out.below hI.out.below.drew))
        go_wp2_with fail
        go_region_law (first
            | (refine step_append_run rfl _ _ _ rfl rfl HR.out rfl rfl ?_)
            | (go_simp; refine HO.out.mono ?_; rintro e w1 ⟨ka2, cap2, k2, rfl, hst2, ht2, hfr2, hpl2, hnd2, hb1⟩
               have hb1' : Below wr.heap.size wr w1 := ((Below.refl wr.heap.size wr).drew).trans hb1
               obtain ⟨va3, vc3, w3, L3, hr3, hB3, hc3, hI3⟩ := hI.out.one (x := (x.1, ka2, cap2, k2)) hjp (by omega) HE.out ht2 hfr2 hpl2 (by simp only [bareIt, hst2]) hb1'
               have HR := hide hr3
               have HI3 := hide hI3
               have z1 : w1.cell? ⟨w.heap.size + 1 + 1 + 1, 1, none⟩ = some (.slice va L.length vc) := by (rw [hb1'.cell (by simp; omega)]; exact o1)
               have z2 : (w1.alloc (Obj.cells #[Value.string x.1, Value.slice ka2 (flen k2) cap2] 24)).cell? ⟨w.heap.size + 1 + 1 + 1, 1, none⟩ = some (.slice va L.length vc) := cellA z1 _
               have z3 : w3.cell? ⟨w.heap.size + 1 + 1 + 1, 1, none⟩ = some (.slice va L.length vc) := by (rw [cell_of_row _ _ 1 _ _ _ hc3]; rfl)
               have z4 : w3.frozen? ⟨w.heap.size + 1 + 1 + 1, 1, none⟩ = false := by simp [World.frozen?, hc3]
               clear hr3 hI3 hB3 hc3 hb1 hb1' hst2 ht2 hfr2 hpl2 hnd2
               go_simp))
        all_goals
          go_wp2_with fail
          go_roundw
          case rel => exact ⟨j + 1, va3, vc3, L3, by omega, by go_num, HI3⟩
          case measure => simp [intOf]; omega
    · have hje : j = flen k := by omega
      have c20 := hI.out.c2
      have c30 := hI.out.c3
      have q20 : wr.cell? ⟨w.heap.size + 1 + 1, 0, none⟩ = some (.string ⟨#[]⟩) := by rw [cell_of_row _ _ 0 _ _ _ c20]; rfl
      have q21 : wr.cell? ⟨w.heap.size + 1 + 1, 1, none⟩ = some (.slice none 0 0) := by rw [cell_of_row _ _ 1 _ _ _ c20]; rfl
      have f20 : wr.frozen? ⟨w.heap.size + 1 + 1, 0, none⟩ = false := by simp [World.frozen?, c20]
      have f21 : wr.frozen? ⟨w.heap.size + 1 + 1, 1, none⟩ = false := by simp [World.frozen?, c20]
      have q30 : wr.cell? ⟨w.heap.size + 1 + 1 + 1, 0, none⟩ = some (.string s) := by rw [cell_of_row _ _ 0 _ _ _ c30]; rfl
      obtain ⟨ka', cap', k', hv, hst, hlc, hcm, hkin, hfr, hpl, _⟩ := hI.out.kin.done2
      have HE := hide (show TIn wr s ka' cap' k' from ⟨HT.out.size, hlc, hcm, hkin⟩)
      obtain ⟨y, hy⟩ : ∃ y, (gsF k)[p]? = some y := ⟨_, List.getElem?_eq_getElem (by rw [gs_len]; omega)⟩
      have hD : delOp p s k = (0, s, toFo (delJ p (gsF k))) := by
        unfold delOp delJ
        rw [hy]
      have HD := hide hD
      have HS := hide (show strip k' = toFo (delJ p (gsF k)) by
        rw [hst, hI.out.told, List.take_of_length_le (by rw [gs_len]; omega)])
      have HFR := hide hfr
      have HPL := hide hpl
      have hbw := hide hI.out.below
      rw [hv] at o1
      clear hst hlc hcm hkin hfr hpl hv hy hD c20 c30 hje hI
      go_wp2_with fail
      have o2 : FOff (w.heap.size + 1 + 1) k' := HFR.out.off (by omega)
      refine bodyPost_ret (v := .tuple #[.agg #[.string s, .slice ka' (flen k') cap'], .int .i64 0]) (by simp [results, Try.results56, go_sem, *]) rfl ⟨s, ka', cap', k', by rw [HD.out], fun _ => ⟨by rw [HD.out], by rw [HD.out]; exact HS.out, TIn.set (TIn.set HE.out o2) o2, HFR.out.mono (by omega), FPlain.set (FPlain.set HPL.out o2) o2⟩, ?_⟩
      exact (hbw.out.setCell (by simp <;> omega) _).setCell (by simp <;> omega) _

end Go.Proofs.Ytcknganggcbkjab.Deed
namespace Go.Proofs.Ytcknganggcbkjab
open Go.Deep Go.RowKit
set_option linter.unusedVariables false
set_option maxRecDepth 20000

/-- What Check's closure has noted: nodes, the deepest, all labels good. -/
abbrev Nt := Int × Int × Bool
def ntStep (σ : Nt) (x : ByteArray × Nat) : Nt := (σ.1 + 1, max σ.2.1 (x.2 : Int), σ.2.2 && labelB x.1)

structure CSt (C : Nat × Nat × Nat) (w : World) (σ : Nt) : Prop where
  c1 : w.cell? ⟨C.1, 0, none⟩ = some (.int .i64 σ.1)
  c2 : w.cell? ⟨C.2.1, 0, none⟩ = some (.int .i64 σ.2.1)
  c3 : w.cell? ⟨C.2.2, 0, none⟩ = some (.bool σ.2.2)
  f1 : w.frozen? ⟨C.1, 0, none⟩ = false
  f2 : w.frozen? ⟨C.2.1, 0, none⟩ = false
  f3 : w.frozen? ⟨C.2.2, 0, none⟩ = false
  n12 : C.1 ≠ C.2.1
  n13 : C.1 ≠ C.2.2
  n23 : C.2.1 ≠ C.2.2
  lo1 : 0 ≤ σ.1
  lo2 : 0 ≤ σ.2.1

theorem look3 (w : World) (a b c : Nat) (bx0 bx1 : Value) (T : TypeId) (n m : Int) (n' m' : Int) (b' : Bool) {v : Bool} (g1 : w.cell? ⟨a, 0, none⟩ = some (.int .i64 n)) (g2 : w.cell? ⟨b, 0, none⟩ = some (.int .i64 m)) (g3 : w.cell? ⟨c, 0, none⟩ = some (.bool v))
    (f1 : w.frozen? ⟨a, 0, none⟩ = false) (f2 : w.frozen? ⟨b, 0, none⟩ = false) (f3 : w.frozen? ⟨c, 0, none⟩ = false) (n12 : a ≠ b) (n13 : a ≠ c) (n23 : b ≠ c) (l1 : 0 ≤ n') (l2 : 0 ≤ m') :
    CSt (a, b, c) ((((w.setCell ⟨a, 0, none⟩ (.int .i64 n')).setCell ⟨b, 0, none⟩ (.int .i64 m')).setCell ⟨c, 0, none⟩ (.bool b')).alloc (Obj.cells #[bx0, bx1] T)) (n', m', b') ∧
    Keeps [a, b, c] w ((((w.setCell ⟨a, 0, none⟩ (.int .i64 n')).setCell ⟨b, 0, none⟩ (.int .i64 m')).setCell ⟨c, 0, none⟩ (.bool b')).alloc (Obj.cells #[bx0, bx1] T)) := by
  have la : a < w.heap.size := World.block_lt_of_cell? _ _ g1
  have lb : b < w.heap.size := World.block_lt_of_cell? _ _ g2
  have lc : c < w.heap.size := World.block_lt_of_cell? _ _ g3
  refine ⟨⟨?_, ?_, ?_, ?_, ?_, ?_, n12, n13, n23, l1, l2⟩, ⟨rfl, rfl, rfl, by simp [World.setCell], fun x hx hn => ?_⟩⟩
  · go_simp
  · go_simp
  · go_simp
  · go_simp
  · go_simp
  · go_simp
  · simp only [List.mem_cons, List.not_mem_nil, or_false, not_or] at hn
    rw [Below.heap_alloc _ _ _ (by simpa [World.setCell] using hx), Below.heap_setCell _ _ _ _ hn.2.2, Below.heap_setCell _ _ _ _ hn.2.1, Below.heap_setCell _ _ _ _ hn.1]

set_option maxHeartbeats 400000 in
theorem checkLook_any (a b c : Nat) (σ : Nt) (s : ByteArray) (ka : Option Addr) (l cap d : Nat) (w : World) (h : CSt (a, b, c) w σ) (hs : s.size ≤ maxLen) (h1 : σ.1 ≤ 100000) (h2 : σ.2.1 ≤ 100000) (hd : d ≤ 100000) :
    Calls Try.prog 67 #[.agg #[.string s, .slice ka l cap], .int .i64 (d : Int), .pointer (some ⟨a, 0, none⟩), .pointer (some ⟨b, 0, none⟩), .pointer (some ⟨c, 0, none⟩)] w fun e w' =>
      e = .returned (.bool (decide (σ.1 + 1 ≤ 40))) ∧ CSt (a, b, c) w' (ntStep σ (s, d)) ∧ Keeps [a, b, c] w w' := by
  obtain ⟨g1, g2, g3, f1, f2, f3, n12, n13, n23, lo1, lo2⟩ := h
  obtain ⟨n, m, bb⟩ := σ
  simp only at g1 g2 g3 f1 f2 f3 n12 n13 n23 lo1 lo2 h1 h2
  have la : a < w.heap.size := World.block_lt_of_cell? _ _ g1
  have lb : b < w.heap.size := World.block_lt_of_cell? _ _ g2
  have lc : c < w.heap.size := World.block_lt_of_cell? _ _ g3
  cases bb
  · go_enter Try.func67, Try.ntmps67
    go_wp2_with fail
    go_ret
    exact ⟨rfl, look3 w a b c (.string s) (.slice ka l cap) 24 n m _ _ _ g1 g2 g3 f1 f2 f3 n12 n13 n23 (by omega) (by omega)⟩
  · go_enter Try.func67, Try.ntmps67
    go_wp2_with fail
    refine (label_any s _ hs).mono ?_
    rintro e w1 ⟨rfl, rfl⟩
    go_wp2_with fail
    go_ret
    refine ⟨rfl, look3 w a b c (.string s) (.slice ka l cap) 24 n m _ _ _ g1 g2 g3 f1 f2 f3 n12 n13 n23 (by omega) (by omega)⟩

end Go.Proofs.Ytcknganggcbkjab
namespace Go.Proofs.Ytcknganggcbkjab
open Go.Deep Go.RowKit
set_option linter.unusedVariables false
set_option maxRecDepth 20000

theorem ownsRow_block {w w' : World} {B T n : Nat} {v : Value} {xs : List Value} (h : w.ownsRow B T 2 v n xs) (hb : ∀ g, v.ownBlock = some g → w'.heap[g]? = w.heap[g]?) : w'.ownsRow B T 2 v n xs := by
  obtain ⟨h1, h2⟩ := h
  refine ⟨h1, ?_⟩
  rcases h2 with h2 | ⟨g, cap, cur, hv, hg, hh, r⟩
  · exact Or.inl h2
  · exact Or.inr ⟨g, cap, cur, hv, hg, by rw [hb g (by rw [hv]; rfl)]; exact hh, r⟩

theorem frSt_map_snoc (fs : List Fr) (t : Fr) : (fs ++ [t]).map frSt = fs.map frSt ++ [frSt t] := by simp

/-- A world behind which nothing of the first world's, and not the way's row, has turned. -/
theorem WInv.on {C : List Nat} {T H : Nat} {w1 wr w2 : World} {v : Value} {fs : List Fr} (h : WInv C T H w1 wr v fs) (hk : Keeps C wr w2) (hC : ∀ c, c ∈ C → c < w1.heap.size) : WInv C T H w1 w2 v fs :=
  ⟨h.each, h.high, ownsRow_block h.row fun g hg => by
    obtain ⟨h1, h2⟩ := ownBlock_lt h.row hg
    exact hk.block g h2 fun hm => by have := hC g hm; omega, h.keeps.trans hk⟩

theorem WInv.pop {C : List Nat} {T H : Nat} {w1 wr w2 : World} {fs : List Fr} {t : Fr} {g cap : Nat} (h : WInv C T H w1 wr (.slice (some ⟨g, 0, none⟩) (fs.length + 1) cap) (fs ++ [t])) (hb : Below wr.heap.size wr w2) : WInv C T H w1 w2 (.slice (some ⟨g, 0, none⟩) fs.length cap) fs := by
  have hr := h.row
  simp only [List.length_append, List.length_cons, List.length_nil, frSt_map_snoc, wayCells_append] at hr
  exact ⟨fun f hf => h.each f (by simp [hf]), high_init h.high, ownsRow_below (own_pop hr (by simp [wayCells_length])) hb, h.keeps.trans (Keeps.of_below hb)⟩

/-- The node at the place that comes next has been met; the number is one more. -/
theorem WInv.next {C : List Nat} {T H : Nat} {w1 wr w2 : World} {fs : List Fr} {A : Addr} {cp j : Nat} {F : Fo} {g cap : Nat} (h : WInv C T H w1 wr (.slice (some ⟨g, 0, none⟩) (fs.length + 1) cap) (fs ++ [(A, cp, j, F)])) (hj : j < flen F)
    (hb : Below (wr.setCell ⟨g, fs.length * 2 + 1, none⟩ (.int .i64 ((j : Int) + 1))).heap.size (wr.setCell ⟨g, fs.length * 2 + 1, none⟩ (.int .i64 ((j : Int) + 1))) w2) : WInv C T H w1 w2 (.slice (some ⟨g, 0, none⟩) (fs.length + 1) cap) (fs ++ [(A, cp, j + 1, F)]) := by
  have hr := h.row
  simp only [List.length_append, List.length_cons, List.length_nil, frSt_map_snoc] at hr
  have hg := ownBlock_lt hr (g := g) rfl
  have hr2 := own_set (.int .i64 ((j : Int) + 1)) hr (show fs.length * 2 + 1 < (fs.length + 1) * 2 by omega)
  have e := wayCells_set (fs.map frSt) (frSt (A, cp, j, F)) (frSt (A, cp, j + 1, F)) rfl rfl rfl
  rw [List.length_map] at e
  rw [show ((frSt (A, cp, j + 1, F)).2.2.2 : Int) = (j : Int) + 1 by simp [frSt]] at e
  rw [e] at hr2
  refine ⟨fun f hf => ?_, high_last (t := (A, cp, j, F)) rfl h.high, by simpa only [List.length_append, List.length_cons, List.length_nil, frSt_map_snoc] using ownsRow_below hr2 hb, ?_⟩
  · rcases List.mem_append.1 hf with hf | hf
    · exact h.each f (by simp [hf])
    · have : f = (A, cp, j + 1, F) := by simpa using hf
      subst this
      obtain ⟨h1, h2⟩ := h.each (A, cp, j, F) (by simp)
      exact ⟨⟨h1.spot, h1.pos, h1.len, h1.cap, by simp only; omega, h1.lies, h1.plain, h1.off⟩, h2⟩
  · refine h.keeps.below (Below.trans (b := wr.setCell ⟨g, fs.length * 2 + 1, none⟩ (.int .i64 ((j : Int) + 1))) ?_ (hb.mono (by simp [World.setCell]; exact h.keeps.size)))
    exact (Below.refl _ _).setCell hg.1 _

/-- The kids of the node that was met are the next list of the way. -/
theorem WInv.push {C : List Nat} {T H : Nat} {w1 wr w2 w3 : World} {v : Value} {fs : List Fr} {A : Addr} {cp j b o g cap : Nat} {F kk r : Fo} {x : ByteArray × Option Addr × Nat} {A' : Addr} {ob : Obj}
    (h : WInv C T H w1 wr v (fs ++ [(A, cp, j + 1, F)])) (he : fdrop j F = .node b o x kk r) (hA : x.2.1 = some A') (hkk : 0 < flen kk) 
    (hown : w3.ownsRow w1.heap.size T 2 (.slice (some ⟨g, 0, none⟩) (fs.length + 1 + 1) cap) (fs.length + 1 + 1) (wayCells ((fs ++ [(A, cp, j + 1, F)]).map frSt) ++ stCells (A', flen kk, x.2.2, 0)))
    (hgrow : (wr.alloc ob).grownBy w3 v.ownBlock) (hb : Below w3.heap.size w3 w2) :
    WInv C T H w1 w2 (.slice (some ⟨g, 0, none⟩) (fs.length + 1 + 1) cap) (fs ++ [(A, cp, j + 1, F)] ++ [(A', x.2.2, 0, kk)]) := by
  obtain ⟨h1, h2⟩ := h.each (A, cp, j + 1, F) (by simp)
  have hl := FIn.drop j h1.lies
  have hpl := FPlain.drop j h1.plain
  have hhi := fhigh_kid he
  simp only at hl hpl
  rw [he] at hl hpl
  obtain ⟨hc0, hc1, htin, _⟩ := hl.head
  have hnew : FrOk C w1 (A', x.2.2, 0, kk) := by
    rcases htin.kids with hk | ⟨kb, ko, e, hk⟩
    · rw [hk] at hkk; simp [flen] at hkk
    · rw [hA] at e
      simp only [Option.some.injEq] at e
      subst e
      exact ⟨rfl, hkk, htin.len, htin.cap, Nat.zero_le _, hk, hpl.2.1, fun c hc => by
        have := foff_drop j (h1.off c hc)
        simp only at this
        rw [he] at this
        exact this.2.1⟩
  have hb3 : Below w1.heap.size wr w3 := ((Below.refl _ _).alloc h.keeps.size _).grown hgrow (by have := h.keeps.size; simp; omega) fun q hq => (ownBlock_lt h.row hq).1
  refine ⟨fun f hf => ?_, high_snoc hhi h.high, ?_, ?_⟩
  · rcases List.mem_append.1 hf with hf | hf
    · exact h.each f hf
    · have : f = (A', x.2.2, 0, kk) := by simpa using hf
      subst this
      exact ⟨hnew, by simp only at h2 ⊢; omega⟩
  · have := ownsRow_below hown hb
    rw [← wayCells_append] at this
    simpa [frSt] using this
  · exact h.keeps.below (hb3.trans (hb.mono (Nat.le_trans h.keeps.size hb3.size)))

/-- The premises of comesBack. -/
theorem WInv.plain {C : List Nat} {T H : Nat} {w1 wr : World} {v : Value} {fs : List Fr} (h : WInv C T H w1 wr v fs) : ∀ s, s ∈ fs.map frSt → BPlain wr s.1.block := fun s hs => by
  obtain ⟨f, hf, rfl⟩ := List.mem_map.1 hs
  obtain ⟨h1, _⟩ := h.each f hf
  obtain ⟨A, cp, j, F⟩ := f
  cases F with
  | nil => have := h1.pos; simp [flen] at this
  | node b o x k r =>
    have hb : b = A.block := h1.lies.1
    have hp := h1.plain.1
    have hn : ¬ b ∈ C := fun hm => (h1.off b hm).1 rfl
    have hlt := BPlain.lt hp
    obtain ⟨c, e, hp'⟩ := hp
    refine ⟨c, e, ?_⟩
    show wr.heap[A.block]? = _
    rw [← hb, h.keeps.block b hlt hn]
    exact hp'
theorem WInv.caps {C : List Nat} {T H : Nat} {w1 wr : World} {v : Value} {fs : List Fr} (h : WInv C T H w1 wr v fs) : (∀ s, s ∈ fs.map frSt → 0 < s.2.1) ∧ ∀ s, s ∈ fs.map frSt → s.2.1 ≤ s.2.2.1 ∧ s.2.2.1 ≤ maxLen := by
  refine ⟨fun s hs => ?_, fun s hs => ?_⟩
  · obtain ⟨f, hf, rfl⟩ := List.mem_map.1 hs
    exact (h.each f hf).1.pos
  · obtain ⟨f, hf, rfl⟩ := List.mem_map.1 hs
    exact ⟨(h.each f hf).1.len, (h.each f hf).1.cap⟩

/-- comesBack, asked of the way. -/
theorem WInv.back {C : List Nat} {T H g n cap : Nat} {w1 wr : World} {fs : List Fr} (h : WInv C T H w1 wr (.slice (some ⟨g, 0, none⟩) n cap) fs) (hH : H ≤ 256) (hn : fs.length = n) (h0 : 0 < n) :
    Calls Try.prog 89 #[.slice (some ⟨g, 0, none⟩) n cap] wr fun e w' => e = .returned (.bool false) ∧ Below wr.heap.size wr w' := by
  subst hn
  have hr := h.row
  obtain ⟨g', cap', cur, hv, _, _, _, hc, _⟩ := own_form hr h0
  simp only [Value.slice.injEq, Option.some.injEq, Addr.mk.injEq] at hv
  obtain ⟨⟨rfl, _, _⟩, _, rfl⟩ := hv
  have := back_any (fs.map frSt) g cap wr (by have := h.len; simp; omega) (by simpa using h0) (by simpa using hc) (ownsRow_cell hr) h.plain h.caps.1 h.caps.2 h.diff
  simpa using this

theorem way_news (w : World) (T : TypeId) (A : Addr) (l c : Nat) (j : Nat) (u : Value) (h : (stCells (A, l, c, 0))[j]? = some u) : (w.alloc (Obj.cells #[.slice (some A) l c, .int .i64 0] T)).cell? ((⟨w.heap.size, 0, none⟩ : Addr).add j) = some u := by
  refine World.news_of_block (cs := #[.slice (some A) l c, .int .i64 0]) (t := T) (fr := (0, 0)) ?_ j u h
  show (w.heap.push _)[w.heap.size]? = _
  simp
theorem way_one (s : St) : ∀ u ∈ stCells s, u.oneCell' = true := by
  intro u hu
  simp [stCells] at hu
  rcases hu with rfl | rfl <;> rfl

theorem rem_pop {fs : List Fr} {A : Addr} {cp j : Nat} {F : Fo} (h : j = flen F) : remF (fs ++ [(A, cp, j, F)]) 0 = remF fs 0 := by
  rw [remF_snoc, fdrop_end j F (by omega)]
  rfl
theorem rem_next {fs : List Fr} {A : Addr} {cp j b o : Nat} {F kk : Fo} {x : ByteArray × Option Addr × Nat} (h : fdrop j F = .node b o x kk (fdrop (j + 1) F)) :
    remF (fs ++ [(A, cp, j, F)]) 0 = (x.1, fs.length) :: (pre kk (fs.length + 1) ++ remF (fs ++ [(A, cp, j + 1, F)]) 0) := by
  rw [remF_snoc, remF_snoc]
  simp only [h, pre, Nat.zero_add, List.cons_append, List.append_assoc]
theorem rem_push {fs : List Fr} {t : Fr} {A : Addr} {cp : Nat} {kk : Fo} : remF (fs ++ [t] ++ [(A, cp, 0, kk)]) 0 = pre kk (fs.length + 1) ++ remF (fs ++ [t]) 0 := by
  rw [remF_snoc]
  simp [fdrop]

end Go.Proofs.Ytcknganggcbkjab
