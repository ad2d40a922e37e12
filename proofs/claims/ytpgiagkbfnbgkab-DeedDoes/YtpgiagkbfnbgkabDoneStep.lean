/- done of package pleachingref: where the deed's place is out of range; a step down the path. Of the program's text. -/
import Derived.Test.YtpgiagkbfnbgkabDoneIns
import Derived.Test.YtpgiagkbfnbgkabPathIn
namespace Go.Proofs.Ytpgiagkbfnbgkab.Deed
open Go.Deep Go.RowKit
set_option linter.unusedVariables false
set_option maxRecDepth 20000

/-- It is the same where it lies nowhere. -/
def OpS (op : Op) : Prop := ∀ s k, (op s (strip k)).1 = (op s k).1 ∧ ((op s k).1 = 0 → op s (strip k) = op s k)
theorem namOp_s (lab : ByteArray) : OpS (namOp lab) := fun s k => ⟨rfl, fun _ => by simp only [namOp, strip_strip]⟩
theorem delOp_s (i : Nat) : OpS (delOp i) := fun s k => by
  unfold delOp
  rw [gs_strip]
  cases (gsF k)[i]? with
  | none => exact ⟨rfl, fun h => by cases h⟩
  | some x => exact ⟨rfl, fun _ => rfl⟩
theorem insOp_s (i n : Nat) (lab : ByteArray) : OpS (insOp i n lab) := fun s k => by
  unfold insOp
  rw [gs_strip, flen_strip]
  split
  · exact ⟨rfl, fun _ => rfl⟩
  · exact ⟨rfl, fun h => by cases h⟩
theorem modP_s {op : Op} (h : OpS op) (p : List Nat) : OpS (modP op p) := fun s k => by
  cases p with
  | nil => exact h s k
  | cons p ps =>
    unfold modP
    rw [gs_strip]
    cases (gsF k)[p]? with
    | none => exact ⟨rfl, fun h => by cases h⟩
    | some x => exact ⟨rfl, fun _ => rfl⟩
theorem doneR_s (d : Dd) (rest : List Int) : OpS (doneR d rest) := by
  unfold doneR
  split
  · exact modP_s (namOp_s _) _
  · split
    · exact modP_s (delOp_s _) _
    · exact modP_s (insOp_s _ _ _) _

theorem boxes3 (w : World) (o0 o1 o2 : Obj) : (((w.alloc o0).alloc o1).alloc o2).heap.size = w.heap.size + 1 + 1 + 1 ∧ Below w.heap.size w (((w.alloc o0).alloc o1).alloc o2) ∧ (((w.alloc o0).alloc o1).alloc o2).heap[w.heap.size]? = some o0 ∧ (((w.alloc o0).alloc o1).alloc o2).heap[w.heap.size + 1]? = some o1 ∧ (((w.alloc o0).alloc o1).alloc o2).heap[w.heap.size + 1 + 1]? = some o2 := by
  refine ⟨by simp, (((Below.refl _ _).alloc (Nat.le_refl _) _).alloc (by simp) _).alloc (by simp <;> omega) _, ?_, ?_, ?_⟩
  · rw [Below.heap_alloc _ _ _ (by simp <;> omega), Below.heap_alloc _ _ _ (by simp)]
    exact heap_alloc_new _ _
  · rw [Below.heap_alloc _ _ _ (by simp), show w.heap.size + 1 = (w.alloc o0).heap.size by simp]
    exact heap_alloc_new _ _
  · rw [show w.heap.size + 1 + 1 = ((w.alloc o0).alloc o1).heap.size by simp]
    exact heap_alloc_new _ _
theorem DoneEnd.s {d : Dd} {rest : List Int} {s : ByteArray} {k : Fo} {w w' : World} {e : Ending} (h : DoneEnd (doneR d rest s k) w e w') : DoneEnd (doneR d rest s (strip k)) w e w' := by
  obtain ⟨h1, h2⟩ := doneR_s d rest s k
  obtain ⟨s', ka', cap', k', rfl, hg, hb⟩ := h
  refine ⟨s', ka', cap', k', by rw [h1], fun h0 => ?_, hb⟩
  rw [h1] at h0
  rw [h2 h0]
  exact hg h0

/-- What a call of done has left, in a block of its own. -/
structure XIn (h : Nat) (wr : World) (bx : Nat) (x : It) (r : Int × ByteArray × Fo) : Prop where
  blk : wr.heap[bx]? = some (Obj.cells #[.string x.1, .slice x.2.1 (flen x.2.2.2) x.2.2.1] 24)
  lo : h ≤ bx
  good : r.1 = 0 → x.1 = r.2.1 ∧ strip x.2.2.2 = r.2.2 ∧ ItIn wr x ∧ FFrom h x.2.2.2 ∧ FPlain wr x.2.2.2
theorem XIn.ahead {h bx : Nat} {w5 : World} {x : It} {r : Int × ByteArray × Fo} {a b : Value} (hb : w5.heap[bx]? = some (Obj.cells #[a, b] 24)) (hh : h ≤ bx) (hg : r.1 = 0 → x.1 = r.2.1 ∧ strip x.2.2.2 = r.2.2 ∧ ItIn w5 x ∧ FFrom (bx + 1) x.2.2.2 ∧ FPlain w5 x.2.2.2) :
    XIn h ((w5.setCell ⟨bx, 0, none⟩ (.string x.1)).setCell ⟨bx, 1, none⟩ (.slice x.2.1 (flen x.2.2.2) x.2.2.1)) bx x r := by
  refine ⟨by simp [World.setCell, Array.getElem?_modify, hb], hh, fun h0 => ?_⟩
  obtain ⟨g1, g2, g3, g4, g5⟩ := hg h0
  have ho : FOff bx x.2.2.2 := g4.off (by omega)
  exact ⟨g1, g2, TIn.set (TIn.set g3 ho) ho, g4.mono (by omega), FPlain.set (FPlain.set g5 ho) ho⟩
theorem XIn.behind {h : Nat} {w5 : World} {x : It} {r : Int × ByteArray × Fo} (hh : h ≤ w5.heap.size) (hg : r.1 = 0 → x.1 = r.2.1 ∧ strip x.2.2.2 = r.2.2 ∧ ItIn w5 x ∧ FFrom h x.2.2.2 ∧ FPlain w5 x.2.2.2) :
    XIn h (w5.alloc (Obj.cells #[.string x.1, .slice x.2.1 (flen x.2.2.2) x.2.2.1] 24)) w5.heap.size x r := by
  have hB : Below w5.heap.size w5 (w5.alloc (Obj.cells #[.string x.1, .slice x.2.1 (flen x.2.2.2) x.2.2.1] 24)) := (Below.refl _ _).alloc (Nat.le_refl _) _
  refine ⟨heap_alloc_new _ _, hh, fun h0 => ?_⟩
  obtain ⟨g1, g2, g3, g4, g5⟩ := hg h0
  exact ⟨g1, g2, TIn.below hB g3, g4, g5.below hB⟩

/-- What OwnList comes to, its length the kids'. -/
def OwnFEnd (k : Fo) (w : World) (e : Ending) (w' : World) : Prop := ∃ va vc L, e = .returned (.slice va (flen k) vc) ∧ KInv 24 w.heap.size w' (.slice va (flen k) vc) L ∧ L.length = flen k ∧ L.map bareIt = gsF k ∧ Below w.heap.size w w'
theorem OwnLEnd.long {k : Fo} {w w' : World} {e : Ending} (h : OwnLEnd (gsF k) w e w') : OwnFEnd k w e w' := by
  obtain ⟨va, vc, L, rfl, hK, hLk, hb⟩ := h
  have hl : L.length = flen k := by rw [← gs_len, ← hLk, List.length_map]
  rw [hl] at hK
  exact ⟨va, vc, L, by rw [hl], hK, hl, hLk, hb⟩
/-- A tree that is made, its kids one's own. -/
structure OIn (B : Nat) (wr : World) (bo : Nat) (s : ByteArray) (k : Fo) (va : Option Addr) (vc : Nat) (L : List It) : Prop where
  blk : wr.heap[bo]? = some (Obj.cells #[.string s, .slice va (flen k) vc] 24)
  lo : B ≤ bo
  kin : KInv 24 B wr (.slice va (flen k) vc) L
  long : L.length = flen k
  told : L.map bareIt = gsF k
  ne : ∀ g, (Value.slice va (flen k) vc).ownBlock = some g → g ≠ bo
theorem OIn.ahead {B bo : Nat} {w5 : World} {s : ByteArray} {k : Fo} {va : Option Addr} {vc : Nat} {L : List It} {a b : Value} (hb : w5.heap[bo]? = some (Obj.cells #[a, b] 24)) (hB : B ≤ bo) (hK : KInv 24 (bo + 1) w5 (.slice va (flen k) vc) L) (hl : L.length = flen k) (ht : L.map bareIt = gsF k) :
    OIn B ((w5.setCell ⟨bo, 0, none⟩ (.string s)).setCell ⟨bo, 1, none⟩ (.slice va (flen k) vc)) bo s k va vc L :=
  ⟨by simp [World.setCell, Array.getElem?_modify, hb], hB, Deed.KInv.lower (hK.but (g0 := bo) (by omega) (set2_but _ _ _ _ _ _)) (by omega), hl, ht, fun g hg => by have := (ownBlock_lt hK.row hg).1; omega⟩
theorem OIn.behind {B : Nat} {w5 : World} {s : ByteArray} {k : Fo} {va : Option Addr} {vc : Nat} {L : List It} (hB : B ≤ w5.heap.size) (hK : KInv 24 B w5 (.slice va (flen k) vc) L) (hl : L.length = flen k) (ht : L.map bareIt = gsF k) :
    OIn B (w5.alloc (Obj.cells #[.string s, .slice va (flen k) vc] 24)) w5.heap.size s k va vc L :=
  ⟨heap_alloc_new _ _, hB, Deed.KInv.below hK ((Below.refl _ _).alloc (Nat.le_refl _) _), hl, ht, fun g hg => by have := (ownBlock_lt hK.row hg).2; omega⟩

set_option maxHeartbeats 1000000 in
theorem done_far (d : Dd) (hk3 : d.kind = 3) (hp0 : 0 ≤ d.pos) (hm0 : 0 ≤ d.many) (hm1 : d.many ≤ 9223372036854775807) (s : ByteArray) (ka : Option Addr) (cap : Nat) (k : Fo) (pa pb : Option Addr) (pc qc : Nat) (w : World) (ht : TIn w s ka cap k) (hn : fnodes k < 99999) (hok : ¬ d.pos.toNat + d.many.toNat ≤ flen k) :
    Calls Try.prog 45 #[.agg #[.string s, .slice ka (flen k) cap], ddV d pa pc, .slice pb 0 qc] w (DoneEnd (doneR d [] s k) w) := by
  rw [doneR_ins hk3]
  obtain ⟨i, hi⟩ : ∃ i : Nat, d.pos = (i : Int) := ⟨d.pos.toNat, by omega⟩
  obtain ⟨n, hnn⟩ : ∃ n : Nat, d.many = (n : Int) := ⟨d.many.toNat, by omega⟩
  rw [hi, hnn, Int.toNat_natCast, Int.toNat_natCast] at hok
  unfold ddV
  rw [hk3, hi, hnn, Int.toNat_natCast, Int.toNat_natCast]
  have hlk := flen_le_nodes k
  have HV := hide (show insOp i n d.lab s k = (9, s, k) by unfold insOp; rw [if_neg hok])
  by_cases h1 : flen k < i
  · have d1 : decide ((flen k : Int) < (i : Int)) = true := decide_eq_true (by omega)
    go_enter Try.func45, Try.ntmps45
    go_wp2_with fail
    refine bodyPost_ret (v := .tuple #[.agg #[.string s, .slice ka (flen k) cap], .int .i64 9]) (by simp [results, Try.results45, go_sem, *]) rfl ⟨s, ka, cap, k, by rw [HV.out], fun h => (by rw [HV.out] at h; cases h), ?_⟩
    repeat (first | exact Below.refl _ _ | refine Below.setCell ?_ (by simp <;> omega) _ | refine Below.alloc ?_ (by simp <;> omega) _ | refine below_drewN ?_ _ | refine Below.drew ?_)
  · have d1 : decide ((flen k : Int) < (i : Int)) = false := decide_eq_false (by omega)
    have d2 : decide ((flen k : Int) - (i : Int) < (n : Int)) = true := decide_eq_true (by omega)
    go_enter Try.func45, Try.ntmps45
    go_wp2_with fail
    refine bodyPost_ret (v := .tuple #[.agg #[.string s, .slice ka (flen k) cap], .int .i64 9]) (by simp [results, Try.results45, go_sem, *]) rfl ⟨s, ka, cap, k, by rw [HV.out], fun h => (by rw [HV.out] at h; cases h), ?_⟩
    repeat (first | exact Below.refl _ _ | refine Below.setCell ?_ (by simp <;> omega) _ | refine Below.alloc ?_ (by simp <;> omega) _ | refine below_drewN ?_ _ | refine Below.drew ?_)

/-- The end: the new kid in its place. -/
theorem step_fin {w wA wB : World} {s : ByteArray} {k : Fo} {bo bx p : Nat} {va : Option Addr} {vc : Nat} {L : List It} {y : It} {r : Int × ByteArray × Fo} (hO : OIn wA.heap.size wB bo s k va vc L) (hX : XIn (w.heap.size + 1 + 1 + 1) wA bx y r) (hb : Below wA.heap.size wA wB) (hw : Below w.heap.size w wA) (hz : w.heap.size + 1 + 1 + 1 ≤ wA.heap.size) (c2 : wA.heap[w.heap.size + 1 + 1]? = some (Obj.cells #[Value.string ⟨#[]⟩, Value.slice none 0 0] 24)) (hp : p < flen k) (hs : s.size ≤ maxLen) :
    ∃ g u0 u1, va = some ⟨g, 0, none⟩ ∧ ¬ g = bo ∧ ¬ bo = g ∧ ¬ g = w.heap.size + 1 + 1 ∧ ¬ w.heap.size + 1 + 1 = g ∧ flen k ≤ vc ∧ vc ≤ maxLen ∧ wB.cell? ⟨g, p * 2, none⟩ = some u0 ∧ wB.cell? ⟨g, p * 2 + 1, none⟩ = some u1 ∧ wB.frozen? ⟨g, p * 2, none⟩ = false ∧ wB.frozen? ⟨g, p * 2 + 1, none⟩ = false ∧ wB.cell? ⟨bo, 0, none⟩ = some (.string s) ∧ wB.cell? ⟨bo, 1, none⟩ = some (.slice va (flen k) vc) ∧ wB.cell? ⟨bx, 0, none⟩ = some (.string y.1) ∧ wB.cell? ⟨bx, 1, none⟩ = some (.slice y.2.1 (flen y.2.2.2) y.2.2.1) ∧
      wB.cell? ⟨w.heap.size + 1 + 1, 0, none⟩ = some (.string ⟨#[]⟩) ∧ wB.cell? ⟨w.heap.size + 1 + 1, 1, none⟩ = some (.slice none 0 0) ∧ wB.frozen? ⟨w.heap.size + 1 + 1, 0, none⟩ = false ∧ wB.frozen? ⟨w.heap.size + 1 + 1, 1, none⟩ = false ∧
      Hid (DoneEnd (r.1, s, toFo ((gsF k).set p r.2)) w (.returned (.tuple #[.agg #[.string s, .slice va (flen k) vc], .int .i64 r.1])) ((((wB.setCell ⟨g, p * 2, none⟩ (.string y.1)).setCell ⟨g, p * 2 + 1, none⟩ (.slice y.2.1 (flen y.2.2.2) y.2.2.1)).setCell ⟨w.heap.size + 1 + 1, 0, none⟩ (.string s)).setCell ⟨w.heap.size + 1 + 1, 1, none⟩ (.slice va (flen k) vc))) := by
  have hrow := hO.kin.row
  rw [hO.long] at hrow
  obtain ⟨g, vc', hv, hg1, hg2, h3, h4⟩ := ownsN_some hrow (by omega)
  injection hv with hv1 hv2 hv3
  subst hv1 hv3
  have hne := hO.ne g rfl
  have hbw : Below w.heap.size w wB := hw.trans (hb.mono (by omega))
  have hbx : bx < wA.heap.size := by
    rcases Nat.lt_or_ge bx wA.heap.size with h' | h'
    · exact h'
    · have := hX.blk
      rw [Array.getElem?_eq_none h'] at this
      cases this
  have xB : wB.heap[bx]? = _ := (hb.block _ hbx).trans hX.blk
  have cB : wB.heap[w.heap.size + 1 + 1]? = _ := (hb.block _ (by omega)).trans c2
  obtain ⟨cur, hcur, hlen2⟩ : ∃ cur : Array Value, wB.heap[g]? = some (.cells cur 24) ∧ flen k * 2 ≤ cur.size := by
    rcases hrow.2 with ⟨h0, _⟩ | ⟨g', cap', cur, hv, hb', hh, h1, h2, h3, h4⟩
    · cases h0
    · simp only [Value.slice.injEq, Option.some.injEq, Addr.mk.injEq] at hv
      obtain ⟨⟨rfl, _, _⟩, _, rfl⟩ := hv
      exact ⟨cur, hh, by rw [h3]; exact Nat.mul_le_mul_right _ h1⟩
  refine ⟨g, cur[p * 2]'(by omega), cur[p * 2 + 1]'(by omega), rfl, hne, fun e => hne e.symm, by omega, by omega, h3, h4, ?_, ?_, by simp [World.frozen?, hcur], by simp [World.frozen?, hcur], by rw [cell_of_row _ _ 0 _ _ _ hO.blk]; rfl, by rw [cell_of_row _ _ 1 _ _ _ hO.blk]; rfl, by rw [cell_of_row _ _ 0 _ _ _ xB]; rfl, by rw [cell_of_row _ _ 1 _ _ _ xB]; rfl, by rw [cell_of_row _ _ 0 _ _ _ cB]; rfl, by rw [cell_of_row _ _ 1 _ _ _ cB]; rfl, by simp [World.frozen?, cB], by simp [World.frozen?, cB], hide ?_⟩
  · rw [cell_of_row _ _ _ _ _ _ hcur, Array.getElem?_eq_getElem (by omega)]
  · rw [cell_of_row _ _ _ _ _ _ hcur, Array.getElem?_eq_getElem (by omega)]
  have hbe : Below w.heap.size w ((((wB.setCell ⟨g, p * 2, none⟩ (.string y.1)).setCell ⟨g, p * 2 + 1, none⟩ (.slice y.2.1 (flen y.2.2.2) y.2.2.1)).setCell ⟨w.heap.size + 1 + 1, 0, none⟩ (.string s)).setCell ⟨w.heap.size + 1 + 1, 1, none⟩ (.slice (some ⟨g, 0, none⟩) (flen k) vc)) :=
    (((hbw.setCell (by simp only; omega) _).setCell (by simp only; omega) _).setCell (by simp only; omega) _).setCell (by simp only; omega) _
  by_cases h0 : r.1 = 0
  · obtain ⟨g1, g2, g3, g4, g5⟩ := hX.good h0
    have hoff : FOff g y.2.2.2 := g3.kids.off hg1
    have hK := KInv.put (Deed.KInv.lower hO.kin (show w.heap.size + 1 + 1 + 1 ≤ _ from hz)) hO.long hp (TIn.below hb g3) g4 (g5.below hb) hoff
    obtain ⟨ka', cap', k', hv, hst, hlc, hcm, hkin, hfr, hpl, _⟩ := hK.done2
    have o2 : FOff (w.heap.size + 1 + 1) k' := hfr.off (by omega)
    refine ⟨s, ka', cap', k', by rw [hv], fun _ => ⟨rfl, ?_, TIn.set (TIn.set ⟨hs, hlc, hcm, hkin⟩ o2) o2, hfr.mono (by omega), FPlain.set (FPlain.set hpl o2) o2⟩, hbe⟩
    rw [hst, map_set, hO.told]
    have : bareIt y = r.2 := by rw [← Prod.eta r.2, ← g1, ← g2]; rfl
    rw [this]
  · have hkn := hO.kin
    obtain ⟨ka', cap', k', hv, _⟩ := hkn.done2
    exact ⟨s, ka', cap', k', by rw [hv], fun h => absurd h h0, hbe⟩

/-- A call of done, of a tree and what is left of the path. -/
def DoneAt (d : Dd) (rest : List Int) : Prop := ∀ (s : ByteArray) (ka : Option Addr) (cap : Nat) (k : Fo) (pa pb : Option Addr) (pc qc : Nat) (w : World), TIn w s ka cap k → fnodes k < 99999 → PIn w pb rest → rest.length ≤ qc → qc ≤ maxLen →
    Calls Try.prog 45 #[.agg #[.string s, .slice ka (flen k) cap], ddV d pa pc, .slice pb rest.length qc] w (DoneEnd (doneR d rest s k) w)

theorem last_no {d : Dd} {p : Int} {ps : List Int} (h : ¬ isLast d (p :: ps)) : d.kind = 2 → ¬ ps.length = 0 := fun h2 h0 => h (by
  unfold isLast
  rw [if_pos h2]
  simp [h0])

set_option maxHeartbeats 4000000 in
theorem done_step (d : Dd) (p : Nat) (ps : List Int) (hl : ¬ isLast d ((p : Int) :: ps)) (hd : DoneAt d ps) : DoneAt d ((p : Int) :: ps) := by
  intro s ka cap k pa pb pc qc w ht hn hpi hq1 hq2
  rw [doneR_step hl, Int.toNat_natCast]
  unfold ddV
  have hlk := flen_le_nodes k
  have hcap := ht.cap
  have hlen := ht.len
  rcases hpi with hpi | ⟨gb, go', rfl, hpi⟩
  · cases hpi
  have hp : w.cell? ⟨gb, go', none⟩ = some (.int .i64 (p : Int)) := by
    have := hpi 0 (p : Int) rfl
    simpa using this
  have hpb : gb < w.heap.size := World.block_lt_of_cell? _ _ hp
  have hl2 := last_no hl
  have hk2 : (d.kind == 2) = true → ((ps.length : Int) + 1 == 1) = false := fun h => beq_eq_false_iff_ne.2 (by have := hl2 (by simpa using h); omega)
  have hne : ((ps.length : Int) + 1 == 0) = false := beq_eq_false_iff_ne.2 (by omega)
  show Calls Try.prog 45 #[.agg #[.string s, .slice ka (flen k) cap], .agg #[.int .i64 d.kind, .slice pa d.path.length pc, .int .i64 d.pos, .int .i64 d.many, .string d.lab], .slice (some ⟨gb, go', none⟩) (ps.length + 1) qc] w _
  have hkk : ((ps.length : Int) + 1 == 1) = false ∧ (d.kind == 2) = true ∨ (d.kind == 2) = false := by
    by_cases h : d.kind = 2
    · exact Or.inl ⟨hk2 (by simpa using h), by simpa using h⟩
    · exact Or.inr (by simpa using h)
  clear hl2 hk2
  have p0 : (((w.alloc (Obj.cells #[Value.string s, Value.slice ka (flen k) cap] 24)).alloc (Obj.cells #[.int .i64 d.kind, .slice pa d.path.length pc, .int .i64 d.pos, .int .i64 d.many, .string d.lab] 44)).alloc (Obj.cells #[Value.string ⟨#[]⟩, Value.slice none 0 0] 24)).cell? ⟨gb, go', none⟩ = some (.int .i64 (p : Int)) := cellA (cellA (cellA hp _) _) _
  by_cases hge : flen k ≤ p
  · have d1 : decide ((flen k : Int) ≤ (p : Int)) = true := decide_eq_true (by omega)
    have hV : (gsF k)[p]? = none := List.getElem?_eq_none (by rw [gs_len]; exact hge)
    simp only [hV]
    clear hV
    rcases hkk with ⟨e2, e3⟩ | e3
    all_goals
      go_enter Try.func45, Try.ntmps45
      go_wp2_with fail
      refine bodyPost_ret (v := .tuple #[.agg #[.string s, .slice ka (flen k) cap], .int .i64 7]) (by simp [results, Try.results45, go_sem, *]) rfl ⟨s, ka, cap, k, rfl, fun h => (by cases h), ?_⟩
      repeat (first | exact Below.refl _ _ | refine Below.setCell ?_ (by simp <;> omega) _ | refine Below.alloc ?_ (by simp <;> omega) _ | refine below_drewN ?_ _ | refine Below.drew ?_)
  have d1 : decide ((flen k : Int) ≤ (p : Int)) = false := decide_eq_false (by omega)
  have hlt : p < flen k := by omega
  have hltI : (p : Int) < (flen k : Int) := by omega
  have hltJ : (0 : Int) ≤ (p : Int) := by omega
  rcases ht.kids with rfl | ⟨kb, ko, rfl, hkf⟩
  · simp [flen] at hge
  obtain ⟨b', o', x, kk, he, hc0, hc1, htin, hbb⟩ := hkf.at (show p < flen k by omega)
  have hV := gs_node he
  have hn2 : fnodes kk < 99999 := by have := fnodes_of_drop he; omega
  simp only [hV]
  obtain ⟨r, hr⟩ : ∃ r, r = doneR d ps x.1 (strip kk) := ⟨_, rfl⟩
  rw [← hr]
  obtain ⟨pa', hsl, hpa⟩ : ∃ pa', (∀ wx, (Instr.slice 42 (.slice (some ⟨gb, go', none⟩) (ps.length + 1) qc) (some (.int .i64 1)) none none).run Try.prog wx = .ok (.slice pa' ps.length (qc - 1)) wx) ∧ PIn w pa' ps := by
    simp only [List.length_cons] at hq1
    refine ⟨if qc = 1 then some ⟨gb, go', none⟩ else some ⟨gb, go' + 1, none⟩, fun wx => ?_, ?_⟩
    · rw [run_slice_l wx 42 _ _ _ Try.underlying42 .i64 1 (by omega) (by omega)]
      simp [go_sem, sliced, Addr.add]
    · split
      · exact Or.inl (List.eq_nil_of_length_eq_zero (by omega))
      · refine Or.inr ⟨gb, go' + 1, rfl, fun i q hq => ?_⟩
        have := hpi (i + 1) q (by simpa using hq)
        rwa [show go' + (i + 1) = go' + 1 + i by omega] at this
  obtain ⟨W, hW⟩ : ∃ W, W = ((w.alloc (Obj.cells #[Value.string s, Value.slice (some ⟨kb, ko, none⟩) (flen k) cap] 24)).alloc (Obj.cells #[.int .i64 d.kind, .slice pa d.path.length pc, .int .i64 d.pos, .int .i64 d.many, .string d.lab] 44)).alloc (Obj.cells #[Value.string ⟨#[]⟩, Value.slice none 0 0] 24) := ⟨_, rfl⟩
  obtain ⟨hWs, hB, c0, c1, c2⟩ := boxes3 w (Obj.cells #[Value.string s, Value.slice (some ⟨kb, ko, none⟩) (flen k) cap] 24) (Obj.cells #[.int .i64 d.kind, .slice pa d.path.length pc, .int .i64 d.pos, .int .i64 d.many, .string d.lab] 44) (Obj.cells #[Value.string ⟨#[]⟩, Value.slice none 0 0] 24)
  rw [← hW] at hWs hB c0 c1 c2
  have hS : ∀ w', Below W.heap.size W w' → (w'.cell? ⟨w.heap.size, 1, none⟩ = some (.slice (some ⟨kb, ko, none⟩) (flen k) cap) ∧ w'.cell? ⟨kb, ko + p * 2, none⟩ = some (.string x.1) ∧ w'.cell? ⟨kb, ko + p * 2 + 1, none⟩ = some (.slice x.2.1 (flen kk) x.2.2) ∧ w'.cell? ⟨w.heap.size + 1, 0, none⟩ = some (.int .i64 d.kind) ∧ w'.cell? ⟨w.heap.size + 1, 1, none⟩ = some (.slice pa d.path.length pc) ∧ w'.cell? ⟨w.heap.size + 1, 2, none⟩ = some (.int .i64 d.pos) ∧ w'.cell? ⟨w.heap.size + 1, 3, none⟩ = some (.int .i64 d.many) ∧ w'.cell? ⟨w.heap.size + 1, 4, none⟩ = some (.string d.lab)) := fun w' h => by
    have e0 : w'.heap[w.heap.size]? = _ := (h.block _ (by omega)).trans c0
    have e1 : w'.heap[w.heap.size + 1]? = _ := (h.block _ (by omega)).trans c1
    exact ⟨by (rw [cell_of_row _ _ 1 _ _ _ e0]; rfl), by (rw [h.cell (by simp only; omega), hB.cell hbb]; exact hc0), by (rw [h.cell (by simp only; omega), hB.cell hbb]; exact hc1), by (rw [cell_of_row _ _ 0 _ _ _ e1]; rfl), by (rw [cell_of_row _ _ 1 _ _ _ e1]; rfl), by (rw [cell_of_row _ _ 2 _ _ _ e1]; rfl), by (rw [cell_of_row _ _ 3 _ _ _ e1]; rfl), by (rw [cell_of_row _ _ 4 _ _ _ e1]; rfl)⟩
  have hO : ∀ W', Below W.heap.size W W' → Calls Try.prog 45 #[.agg #[.string x.1, .slice x.2.1 (flen kk) x.2.2], .agg #[.int .i64 d.kind, .slice pa d.path.length pc, .int .i64 d.pos, .int .i64 d.many, .string d.lab], .slice pa' ps.length (qc - 1)] W' (DoneEnd r W') := fun W' h => by
    have hBW := hB.trans (h.mono (by omega))
    rw [hr]
    simp only [List.length_cons] at hq1
    exact (hd x.1 x.2.1 x.2.2 kk pa pa' pc (qc - 1) W' (htin.below hBW) hn2 (hpa.below hBW) (by omega) (by omega)).mono fun _ _ h => h.s
  have HS := hide hS
  have HO := hide hO
  have HW := hide (And.intro hWs (And.intro hB (And.intro c0 c2)))
  have HKF := hide hkf
  have HT := hide ht
  have HB0 := hide (show Below W.heap.size W W.drew from (Below.refl _ _).drew)
  have hW4 : w.heap.size ≤ W.heap.size := by omega
  clear hS hO hWs hB c0 c1 c2 hkf ht hd hr hV he hc0 hc1 htin hpa hpi
  rcases hkk with ⟨e2, e3⟩ | e3
  all_goals
    go_enter Try.func45, Try.ntmps45
    go_wp2_with fail
    rw [← hW]
    clear hW p0
    go_cut [10, 11] (fun v c wx => ∃ (bx : Nat) (y : It), v = .pointer (some ⟨bx, 0, none⟩) ∧ c = .int .i64 r.1 ∧ Hid (Below W.heap.size W wx ∧ XIn W.heap.size wx bx y r))
    case first =>
      go_region_held3 (fun w' => w'.cell? ⟨w.heap.size, 1, none⟩ = some (.slice (some ⟨kb, ko, none⟩) (flen k) cap) ∧ w'.cell? ⟨kb, ko + p * 2, none⟩ = some (.string x.1) ∧ w'.cell? ⟨kb, ko + p * 2 + 1, none⟩ = some (.slice x.2.1 (flen kk) x.2.2) ∧ w'.cell? ⟨w.heap.size + 1, 0, none⟩ = some (.int .i64 d.kind) ∧ w'.cell? ⟨w.heap.size + 1, 1, none⟩ = some (.slice pa d.path.length pc) ∧ w'.cell? ⟨w.heap.size + 1, 2, none⟩ = some (.int .i64 d.pos) ∧ w'.cell? ⟨w.heap.size + 1, 3, none⟩ = some (.int .i64 d.many) ∧ w'.cell? ⟨w.heap.size + 1, 4, none⟩ = some (.string d.lab))
        (first | exact HS.out _ HB0.out | exact HS.out _ (HB0.out.alloc (Nat.le_refl _) _) | exact HS.out _ HB5.out | exact HS.out _ (HB5.out.alloc HB5.out.size _) | exact HS.out _ ((HB5.out.setCell (Nat.le_refl _) _).setCell (Nat.le_refl _) _))
        (first
          | (go_at_call 45; refine (HO.out _ HB0.out).mono ?_; rintro e w5 ⟨s', ka', cap', k', rfl, hg, hb5⟩
             have HB5 := hide (show Below W.heap.size W w5 from HB0.out.trans hb5)
             have HX := hide (XIn.behind (h := W.heap.size) (x := (s', ka', cap', k')) HB5.out.size hg)
             clear hg hb5)
          | (go_at_call 45; refine (HO.out _ (HB0.out.alloc (Nat.le_refl _) _)).mono ?_; rintro e w5 ⟨s', ka', cap', k', rfl, hg, hb5⟩
             have HB5 := hide (show Below W.heap.size W w5 from (HB0.out.alloc (Nat.le_refl _) _).trans (hb5.mono (by simp only [nblk_alloc]; exact Nat.le_succ _)))
             have hc5 : w5.heap[W.heap.size]? = some (Obj.cells #[Value.string ⟨#[]⟩, Value.slice none 0 0] 24) := by (rw [hb5.block _ (by simp only [nblk_alloc]; exact Nat.lt_succ_self _)]; exact heap_alloc_new _ _)
             have z0 : w5.cell? ⟨W.heap.size, 0, none⟩ = some (.string ⟨#[]⟩) := by (rw [cell_of_row _ _ 0 _ _ _ hc5]; rfl)
             have z1 : w5.cell? ⟨W.heap.size, 1, none⟩ = some (.slice none 0 0) := by (rw [cell_of_row _ _ 1 _ _ _ hc5]; rfl)
             have f0 : w5.frozen? ⟨W.heap.size, 0, none⟩ = false := by simp [World.frozen?, hc5]
             have f1 : w5.frozen? ⟨W.heap.size, 1, none⟩ = false := by simp [World.frozen?, hc5]
             have HX := hide (XIn.ahead (h := W.heap.size) (x := (s', ka', cap', k')) (r := r) hc5 (Nat.le_refl _) (fun h0 => ⟨(hg h0).1, (hg h0).2.1, (hg h0).2.2.1, by (have := (hg h0).2.2.2.1; rw [nblk_alloc] at this; exact this), (hg h0).2.2.2.2⟩))
             clear hg hb5 hc5))
      · go_wp2_with fail
        go_meet
        case rel => exact ⟨_, _, rfl, rfl, hide ⟨HB5.out.alloc HB5.out.size _, HX.out⟩⟩
      · go_wp2_with fail
        go_meet
        case rel => exact ⟨_, _, rfl, rfl, hide ⟨(HB5.out.setCell (Nat.le_refl _) _).setCell (Nat.le_refl _) _, HX.out⟩⟩
    case rest =>
      obtain ⟨bx, y, rfl, rfl, hc⟩ := hcut
      obtain ⟨wA, hwA⟩ : ∃ wA, wA = wc := ⟨_, rfl⟩
      subst hwA
      have hzA : w.heap.size + 1 + 1 + 1 ≤ wA.heap.size := by have := hc.out.1.size; have := HW.out.1; omega
      have a0 : wA.heap[w.heap.size]? = some (Obj.cells #[Value.string s, Value.slice (some ⟨kb, ko, none⟩) (flen k) cap] 24) := by rw [hc.out.1.block _ (by have := HW.out.1; omega)]; exact HW.out.2.2.1
      have a2 : wA.heap[w.heap.size + 1 + 1]? = some (Obj.cells #[Value.string ⟨#[]⟩, Value.slice none 0 0] 24) := by rw [hc.out.1.block _ (by have := HW.out.1; omega)]; exact HW.out.2.2.2
      have hbA : Below w.heap.size w wA := HW.out.2.1.trans (hc.out.1.mono hW4)
      have HX := hide (show XIn (w.heap.size + 1 + 1 + 1) wA bx y r from ⟨hc.out.2.blk, by have := hc.out.2.lo; have := HW.out.1; omega, fun h0 => ⟨(hc.out.2.good h0).1, (hc.out.2.good h0).2.1, (hc.out.2.good h0).2.2.1, (hc.out.2.good h0).2.2.2.1.mono (by have := HW.out.1; omega), (hc.out.2.good h0).2.2.2.2⟩⟩)
      have hS2 : ∀ w', Below wA.heap.size wA w' → (w'.cell? ⟨w.heap.size, 0, none⟩ = some (.string s) ∧ w'.cell? ⟨w.heap.size, 1, none⟩ = some (.slice (some ⟨kb, ko, none⟩) (flen k) cap)) := fun w' h => by
        have e0 : w'.heap[w.heap.size]? = _ := (h.block _ (by omega)).trans a0
        exact ⟨by (rw [cell_of_row _ _ 0 _ _ _ e0]; rfl), by (rw [cell_of_row _ _ 1 _ _ _ e0]; rfl)⟩
      have hO2 : ∀ W', Below wA.heap.size wA W' → Calls Try.prog 42 #[.slice (some ⟨kb, ko, none⟩) (flen k) cap] W' (OwnFEnd k W') := fun W' h => (ownListK_any k (some ⟨kb, ko, none⟩) cap W' hn ((show KIn w (some ⟨kb, ko, none⟩) k from Or.inr ⟨kb, ko, rfl, HKF.out⟩).below (hbA.trans (h.mono (by omega))))).mono fun _ _ h => h.long
      have HS2 := hide hS2
      have HO2 := hide hO2
      have HA0 := hide (show Below wA.heap.size wA wA.drew from (Below.refl _ _).drew)
      have HA2 := hide a2
      have HBA := hide hbA
      clear HO HS HB0 HW hc a0 a2 hbA hS2 hO2 hsl hp hW4
      go_wp2_with fail
      go_cut [12] (fun v wx => ∃ (bo : Nat) (va : Option Addr) (vc : Nat) (L : List It), v = .pointer (some ⟨bo, 0, none⟩) ∧ Hid (Below wA.heap.size wA wx ∧ OIn wA.heap.size wx bo s k va vc L))
      case first =>
        go_region_held3 (fun w' => w'.cell? ⟨w.heap.size, 0, none⟩ = some (.string s) ∧ w'.cell? ⟨w.heap.size, 1, none⟩ = some (.slice (some ⟨kb, ko, none⟩) (flen k) cap))
          (first | exact HS2.out _ HA0.out | exact HS2.out _ (HA0.out.alloc (Nat.le_refl _) _) | exact HS2.out _ HB5.out | exact HS2.out _ (HB5.out.alloc HB5.out.size _) | exact HS2.out _ ((HB5.out.setCell (Nat.le_refl _) _).setCell (Nat.le_refl _) _))
          (first
            | (go_at_call 42; refine (HO2.out _ HA0.out).mono ?_; rintro e w5 ⟨va, vc, L, rfl, hK, hlL, hLk, hb5⟩
               have HB5 := hide (show Below wA.heap.size wA w5 from HA0.out.trans hb5)
               have HZ := hide (OIn.behind (B := wA.heap.size) (s := s) HB5.out.size hK hlL hLk)
               clear hK hlL hLk hb5)
            | (go_at_call 42; refine (HO2.out _ (HA0.out.alloc (Nat.le_refl _) _)).mono ?_; rintro e w5 ⟨va, vc, L, rfl, hK, hlL, hLk, hb5⟩
               have HB5 := hide (show Below wA.heap.size wA w5 from (HA0.out.alloc (Nat.le_refl _) _).trans (hb5.mono (by simp only [nblk_alloc]; exact Nat.le_succ _)))
               have hc5 : w5.heap[wA.heap.size]? = some (Obj.cells #[Value.string ⟨#[]⟩, Value.slice none 0 0] 24) := by (rw [hb5.block _ (by simp only [nblk_alloc]; exact Nat.lt_succ_self _)]; exact heap_alloc_new _ _)
               have z0 : w5.cell? ⟨wA.heap.size, 0, none⟩ = some (.string ⟨#[]⟩) := by (rw [cell_of_row _ _ 0 _ _ _ hc5]; rfl)
               have z1 : w5.cell? ⟨wA.heap.size, 1, none⟩ = some (.slice none 0 0) := by (rw [cell_of_row _ _ 1 _ _ _ hc5]; rfl)
               have f0 : w5.frozen? ⟨wA.heap.size, 0, none⟩ = false := by simp [World.frozen?, hc5]
               have f1 : w5.frozen? ⟨wA.heap.size, 1, none⟩ = false := by simp [World.frozen?, hc5]
               have HZ := hide (OIn.ahead (B := wA.heap.size) (s := s) hc5 (Nat.le_refl _) (Deed.KInv.lower hK (by rw [nblk_alloc]; exact Nat.le_refl _)) hlL hLk)
               clear hK hlL hLk hb5 hc5))
        · go_wp2_with fail
          go_meet
          case rel => exact ⟨_, _, _, _, rfl, hide ⟨HB5.out.alloc HB5.out.size _, HZ.out⟩⟩
        · go_wp2_with fail
          go_meet
          case rel => exact ⟨_, _, _, _, rfl, hide ⟨(HB5.out.setCell (Nat.le_refl _) _).setCell (Nat.le_refl _) _, HZ.out⟩⟩
      case rest =>
        obtain ⟨bo, va, vc, L, rfl, hz⟩ := hcut
        obtain ⟨wB, hwB⟩ : ∃ wB, wB = wc := ⟨_, rfl⟩
        subst hwB
        obtain ⟨g, u0, u1, rfl, n1, n2, n3, n4, hvc, hvm, i0, i1, i2, i3, i4, i5, i6, i7, i8, i9, i10, i11, hfin⟩ := step_fin (p := p) hz.out.2 HX.out hz.out.1 HBA.out hzA HA2.out hlt HT.out.size
        clear HS2 HO2 HA0 HA2 HBA HX hz HKF
        go_wp2_with fail
        refine bodyPost_ret (v := .tuple #[.agg #[.string s, .slice (some ⟨g, 0, none⟩) (flen k) vc], .int .i64 r.1]) (by simp [results, Try.results45, go_sem, *]) rfl ?_
        exact hfin.out

end Go.Proofs.Ytpgiagkbfnbgkab.Deed
