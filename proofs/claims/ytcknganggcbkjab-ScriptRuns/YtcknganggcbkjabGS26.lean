/- The closure of package deed's remove: a kid goes, its kids come to its place, and what undoes it is noted. Of the program's text. -/
/- remove of package deed. Of the program's text. -/
/- change of package deed. Of the program's text. -/
import Derived.Test.YtcknganggcbkjabGS09
import Derived.Test.YtcknganggcbkjabGS24
import Derived.Deep.RegionLaw
import Derived.Deep.DeepCutAuto
import Derived.BigQuiet
import Derived.Test.YtcknganggcbkjabGS23
import Derived.Test.YtcknganggcbkjabGS25
namespace Go.Proofs.Ytcknganggcbkjab.Deed
open Go.Deep Go.RowKit
set_option linter.unusedVariables false
set_option maxRecDepth 20000

/-- What it comes to. -/
def RemEnd (w : World) (m : Nd) (c3 p : Nat) (path : List Int) (e : Ending) (w' : World) : Prop :=
  (kidN p m.k = none ∧ e = .returned (.int .i64 7) ∧ Below w.heap.size w w') ∨ ∃ nd x, kidN p m.k = some nd ∧ e = .returned (.int .i64 0) ∧ Turn w w' m c3 x ⟨3, path, (p : Int), (flen nd.k : Int), nd.s⟩ ∧ x.1 = m.s ∧ strip x.2.2.2 = toFo ((gsF m.k).take p ++ (gsF nd.k ++ (gsF m.k).drop (p + 1)))

set_option maxHeartbeats 2000000 in
theorem lookR_any (m : Nd) (cp ca c3 : Nat) (p : Nat) (path : List Int) (pa : Option Addr) (pc : Nat) (w : World) (hm : NodIn w m) (hp : BPlain w m.b) (hk : FPlain w m.k) (hcp : w.cell? ⟨cp, 0, none⟩ = some (.int .i64 (p : Int))) (hca : w.cell? ⟨ca, 0, none⟩ = some (.slice pa path.length pc)) (h3 : BackIs w c3 noDd none 0) (hpi : PIn w pa path)
    (n1 : m.b ≠ c3) (n2 : cp ≠ c3) (n3 : ca ≠ c3) (n4 : cp ≠ m.b) (n5 : ca ≠ m.b) (o1 : FOff m.b m.k) (o3 : FOff c3 m.k) (hl : path.length ≤ 60) (hn : fnodes m.k ≤ 200) :
    Calls Try.prog 100 #[.pointer (some ⟨m.b, m.o, none⟩), .pointer (some ⟨cp, 0, none⟩), .pointer (some ⟨ca, 0, none⟩), .pointer (some ⟨c3, 0, none⟩)] w (RemEnd w m c3 p path) := by
  have HM := hide hm
  have H3 := hide h3
  obtain ⟨z0, z1, z2, z3, z4, zf, _⟩ := h3
  obtain ⟨m0, m1, mt⟩ := hm
  unfold noDd at z0 z1 z2 z3 z4
  simp only [List.length_nil] at z0 z1 z2 z3 z4
  have lm : m.b < w.heap.size := World.block_lt_of_cell? _ _ m0
  have lp : cp < w.heap.size := World.block_lt_of_cell? _ _ hcp
  have la : ca < w.heap.size := World.block_lt_of_cell? _ _ hca
  have l3 : c3 < w.heap.size := World.block_lt_of_cell? _ _ z0
  have hlen := mt.len
  have hcap := mt.cap
  have hfl := flen_le_nodes m.k
  unfold maxLen at hcap
  cases hkid : kidN p m.k with
  | none =>
    have hge := kidN_none hkid
    have hd : decide (((flen m.k : Nat) : Int) ≤ (p : Int)) = true := decide_eq_true (by omega)
    have HK := hide hkid
    clear hkid hp hk hpi o1 o3 mt z0 z1 z2 z3 z4 zf m0
    go_enter Try.func100, Try.ntmps100
    go_wp2_with fail
    go_quiet (fail)
    go_wp2_with fail
    go_ret
    exact Or.inl ⟨HK.out, rfl, below_drewN (Below.refl _ _) _⟩
  | some nd =>
    have hlt := (kidN_some hkid).1
    have hd : decide (((flen m.k : Nat) : Int) ≤ (p : Int)) = false := decide_eq_false (by omega)
    obtain ⟨hnd, kb, ko, e1, _, e2, e3⟩ := kid_in HM.out hkid
    obtain ⟨d0, d1, dt⟩ := hnd
    rw [e2, e3] at d0 d1
    rw [show ko + 2 * p = ko + p * 2 by omega] at d0 d1
    rw [e1] at m1
    have lk : kb < w.heap.size := World.block_lt_of_cell? _ _ d0
    have HK := hide (And.intro hkid (And.intro hp (And.intro hk (And.intro mt (And.intro hpi (And.intro o1 (And.intro o3 (And.intro e1 dt))))))))
    clear hkid hp hk hpi o1 o3 mt z0 z1 z2 z3 z4 zf m0 e1 e2 e3 dt
    go_enter Try.func100, Try.ntmps100
    go_wp2_with fail
    go_quiet (fail)
    go_wp2_with fail
    obtain ⟨wA, hwA⟩ : ∃ wA, wA = w.drewN nq := ⟨_, rfl⟩
    rw [← hwA]
    have bA : Below w.heap.size w wA := by rw [hwA]; exact below_drewN (Below.refl _ _) _
    have sA : wA.heap.size = w.heap.size := by rw [hwA]; rfl
    clear hwA
    have hK0 : Kp [cp, ca, m.b, kb] wA wA := Kp.refl (by simp; omega)
    have a1 : wA.cell? ⟨cp, 0, none⟩ = some (.int .i64 (p : Int)) := by rw [bA.cell lp]; exact hcp
    have a2 : wA.cell? ⟨ca, 0, none⟩ = some (.slice pa path.length pc) := by rw [bA.cell la]; exact hca
    have a3 : wA.cell? ⟨m.b, m.o + 1, none⟩ = some (.slice (some ⟨kb, ko, none⟩) (flen m.k) m.cap) := by rw [bA.cell lm]; exact m1
    have a4 : wA.cell? ⟨kb, ko + p * 2, none⟩ = some (.string nd.s) := by rw [bA.cell lk]; exact d0
    have a5 : wA.cell? ⟨kb, ko + p * 2 + 1, none⟩ = some (.slice nd.ka (flen nd.k) nd.cap) := by rw [bA.cell lk]; exact d1
    clear hcp hca m1 d0 d1
    have HB := hide bA
    clear bA
    obtain ⟨wB, hwB⟩ : ∃ wB, wB = wA.drew.alloc (Obj.cells #[Value.string ⟨#[]⟩, Value.slice none 0 0] 24) := ⟨_, rfl⟩
    have hKB : Kp [cp, ca, m.b, kb] wA wB := by rw [hwB]; exact hK0.drew.alloc
    have b1 : (wA.drew.alloc (Obj.cells #[Value.string ⟨#[]⟩, Value.slice none 0 0] 24)).cell? ⟨cp, 0, none⟩ = some (.int .i64 (p : Int)) := by rw [← hwB]; exact hKB.cell (by simp) a1
    have b3 : (wA.drew.alloc (Obj.cells #[Value.string ⟨#[]⟩, Value.slice none 0 0] 24)).cell? ⟨m.b, m.o + 1, none⟩ = some (.slice (some ⟨kb, ko, none⟩) (flen m.k) m.cap) := by rw [← hwB]; exact hKB.cell (by simp) a3
    have b4 : (wA.drew.alloc (Obj.cells #[Value.string ⟨#[]⟩, Value.slice none 0 0] 24)).cell? ⟨kb, ko + p * 2, none⟩ = some (.string nd.s) := by rw [← hwB]; exact hKB.cell (by simp) a4
    have b5 : (wA.drew.alloc (Obj.cells #[Value.string ⟨#[]⟩, Value.slice none 0 0] 24)).cell? ⟨kb, ko + p * 2 + 1, none⟩ = some (.slice nd.ka (flen nd.k) nd.cap) := by rw [← hwB]; exact hKB.cell (by simp) a5
    go_region
    clear b1 b3 b4 b5 hKB hwB hK0
    obtain ⟨wC, hwC⟩ : ∃ wC, wC = (wA.alloc (Obj.cells #[Value.string nd.s, Value.slice nd.ka (flen nd.k) nd.cap] 24)).drew := ⟨_, rfl⟩
    have bC : Below w.heap.size w wC := by rw [hwC]; exact (HB.out.alloc (by omega) _).drew
    have sC : wC.heap.size = w.heap.size + 1 := by rw [hwC]; show (wA.alloc _).heap.size = _; simp [sA]
    have nC : wC.heap[w.heap.size]? = some (Obj.cells #[Value.string nd.s, Value.slice nd.ka (flen nd.k) nd.cap] 24) := by rw [hwC, ← sA]; exact heap_alloc_new wA _
    have hKC : Kp [cp, ca, m.b] wA wC := by rw [hwC]; exact (Kp.refl (by simp; omega)).alloc.drew
    rw [← hwC]
    clear hwC
    have c1 : wC.cell? ⟨cp, 0, none⟩ = some (.int .i64 (p : Int)) := hKC.cell (by simp) a1
    have c2 : wC.cell? ⟨ca, 0, none⟩ = some (.slice pa path.length pc) := hKC.cell (by simp) a2
    have c4 : wC.cell? ⟨w.heap.size, 0, none⟩ = some (.string nd.s) := by rw [cell_of_row _ _ 0 _ _ _ nC]; rfl
    have c5 : wC.cell? ⟨w.heap.size, 1, none⟩ = some (.slice nd.ka (flen nd.k) nd.cap) := by rw [cell_of_row _ _ 1 _ _ _ nC]; rfl
    have c6 : wC.cell? ⟨m.b, m.o + 1, none⟩ = some (.slice (some ⟨kb, ko, none⟩) (flen m.k) m.cap) := hKC.cell (by simp) a3
    clear a1 a2 a3 a4 a5 sA
    have HC := hide (And.intro bC (And.intro nC c6))
    clear bC nC hKC HB c6
    have hX := H3.out.block (w' := wC) (HC.out.1.block c3 l3)
    have hn2 : ¬ c3 ∈ [cp, ca, w.heap.size] := by simp; omega
    have HK0 := hide (show Kp [cp, ca, w.heap.size] wC wC.drew from (Kp.refl (by simp; omega)).drew)
    have HS := hide (fun (W : World) (h : Kp [cp, ca, w.heap.size] wC W) => And.intro (h.cell (by simp) c1) (And.intro (h.cell (by simp) c2) (And.intro (h.cell (by simp) c4) (h.cell (by simp) c5))))
    have HJ := hide (joined_any pa none pc 0 path [] wC.drew ((HK.out.2.2.2.2.1.below HC.out.1).below (Below.refl _ wC).drew) (Or.inl rfl) (by simp; omega))
    simp only [List.append_nil, List.length_nil] at HJ
    have HX := hide hX
    clear hX
    go_wp2_with fail
    go_region_held3 (fun w' => w'.cell? ⟨cp, 0, none⟩ = some (.int .i64 (p : Int)) ∧ w'.cell? ⟨ca, 0, none⟩ = some (.slice pa path.length pc) ∧ w'.cell? ⟨w.heap.size, 0, none⟩ = some (.string nd.s) ∧ w'.cell? ⟨w.heap.size, 1, none⟩ = some (.slice nd.ka (flen nd.k) nd.cap))
      ((refine HS.out _ ?_; (repeat refine Kp.set ?_ hn2); first | exact HK1.out | exact HK0.out))
      ((go_at_call 99; refine Calls.mono HJ.out ?_; rintro e w1 ⟨va, vc, rfl, p1, p2, p3, p4, hb1⟩
        have hbW : Below wC.heap.size wC w1 := (Below.refl _ wC).drew.trans hb1
        have hx := HX.out.block (w' := w1) (hbW.block c3 (by omega))
        have HX1 := hide hx
        obtain ⟨x0, x1, x2, x3, x4, xf, _⟩ := hx
        unfold noDd at x0 x1 x2 x3 x4
        simp only [List.length_nil] at x0 x1 x2 x3 x4
        have HK1 := hide (show Kp [cp, ca, w.heap.size] wC w1 from HK0.out.below hb1)
        have HP := hide (And.intro p1 (And.intro p2 (And.intro p3 (And.intro p4 hbW))))
        clear p1 p2 p3 p4 hb1 hbW))
    go_wp2_with fail
    have hbk := set5 HX1.out ⟨3, path, (p : Int), (flen nd.k : Int), nd.s⟩ va vc
    have hof := ((((Off.refl c3 w1).set (o := 0) (v := .int .i64 3)).set (o := 1) (v := .slice va path.length vc)).set (o := 2) (v := .int .i64 (p : Int))).set (o := 3) (v := .int .i64 (flen nd.k : Int)) |>.set (o := 4) (v := .string nd.s)
    have hbl : ∀ B, B ≤ c3 → B ≤ w1.heap.size → Below B w1 (((((w1.setCell ⟨c3, 0, none⟩ (.int .i64 3)).setCell ⟨c3, 1, none⟩ (.slice va path.length vc)).setCell ⟨c3, 2, none⟩ (.int .i64 (p : Int))).setCell ⟨c3, 3, none⟩ (.int .i64 (flen nd.k : Int))).setCell ⟨c3, 4, none⟩ (.string nd.s)) := fun B h1 _ => ((((Below.refl B w1).setCell h1 _).setCell h1 _).setCell h1 _).setCell h1 _ |>.setCell h1 _
    simp only at hbk
    obtain ⟨w8, hw8⟩ : ∃ w8, w8 = ((((w1.setCell ⟨c3, 0, none⟩ (.int .i64 3)).setCell ⟨c3, 1, none⟩ (.slice va path.length vc)).setCell ⟨c3, 2, none⟩ (.int .i64 (p : Int))).setCell ⟨c3, 3, none⟩ (.int .i64 (flen nd.k : Int))).setCell ⟨c3, 4, none⟩ (.string nd.s) := ⟨_, rfl⟩
    rw [← hw8] at hbk hof hbl ⊢
    clear hw8
    have s1 : w.heap.size ≤ w1.heap.size := Nat.le_trans HC.out.1.size HP.out.2.2.2.2.size
    have s8 := hof.size
    have hb01 : Below w.heap.size w w1 := HC.out.1.trans (HP.out.2.2.2.2.mono (by omega))
    have e8 : ∀ q, q < w.heap.size + 1 → q ≠ c3 → w8.heap[q]? = wC.heap[q]? := fun q hq hne => by
      have := HP.out.2.2.2.2.size
      rw [hof.same q (by omega) hne, HP.out.2.2.2.2.block q (by omega)]
    have f1 : w8.cell? ⟨cp, 0, none⟩ = some (.int .i64 (p : Int)) := cellN (e8 cp (by omega) n2) c1
    have f5 : w8.cell? ⟨w.heap.size, 1, none⟩ = some (.slice nd.ka (flen nd.k) nd.cap) := cellN (e8 _ (by omega) (by omega)) c5
    have f6 : w8.cell? ⟨m.b, m.o + 1, none⟩ = some (.slice (some ⟨kb, ko, none⟩) (flen m.k) m.cap) := cellN (e8 m.b (by omega) n1) HC.out.2.2
    have f7 : w8.cell? ⟨m.b, m.o, none⟩ = some (.string m.s) := by
      refine cellN (e8 m.b (by omega) n1) ?_
      rw [HC.out.1.cell lm]
      exact HM.out.c0
    have f8 : ∀ o, w8.frozen? ⟨m.b, o, none⟩ = false := fun o => by
      obtain ⟨cs, e, h⟩ := HK.out.2.1
      have hh : w8.heap[m.b]? = some (.cells cs e (0, 0)) := by rw [e8 m.b (by omega) n1, HC.out.1.block m.b lm]; exact h
      simp [World.frozen?, hh]
    obtain ⟨hkid, hp, hk, mt, hpi, o1, o3, e1, dt⟩ := HK.out
    have ndo := kid_off o1 hkid
    have ndo3 := kid_off o3 hkid
    have ndp := (kid_plain hk hkid).2
    have hndn : fnodes nd.k ≤ fnodes m.k := by
      have := fnodes_drop p m.k
      rw [(kidN_some hkid).2] at this
      simp only [fnodes] at this
      omega
    have hndl := flen_le_nodes nd.k
    have hO8 : Off c3 w w8 := ⟨by omega, fun q hq hne => by rw [hof.same q (by omega) hne, hb01.block q hq]⟩
    have k8 : KIn w8 (some ⟨kb, ko, none⟩) m.k := by
      rw [← e1]
      exact (TIn.but (g := c3) hO8.same o3 mt).kids
    have d8 : KIn w8 nd.ka nd.k := (TIn.but (g := c3) hO8.same ndo3 dt).kids
    have HW := hide (swapped_any (some ⟨kb, ko, none⟩) m.cap m.k p 1 ⟨nd.ka, flen nd.k, nd.cap, rowCells (itemsF nd.k)⟩ w8.drew (k8.below (Below.refl _ w8).drew) mt.len mt.cap (by omega) (src_row (d8.below (Below.refl _ w8).drew) nd.cap) (by simp only; omega))
    unfold Src.val at HW
    simp only at HW
    have HT := hide (show ∀ (va2 : Option Addr) (vc2 : Nat) (w2 : World), w2.ownsRow w8.heap.size 24 2 (.slice va2 (p + (flen nd.k + (flen m.k - (p + 1)))) vc2) (p + (flen nd.k + (flen m.k - (p + 1)))) (rowCells ((itemsF m.k).take p) ++ (rowCells (itemsF nd.k) ++ rowCells ((itemsF m.k).drop (p + 1)))) → Below w8.heap.size w8 w2 → RemEnd w m c3 p path (.returned (.int .i64 0)) (w2.setCell ⟨m.b, m.o + 1, none⟩ (.slice va2 (p + (flen nd.k + (flen m.k - (p + 1)))) vc2)) from fun va2 vc2 w2 hown hb2 => by
      have hof3 : Off m.b w8 (w2.setCell ⟨m.b, m.o + 1, none⟩ (.slice va2 (p + (flen nd.k + (flen m.k - (p + 1)))) vc2)) := ((Off.refl m.b w8).below hb2).set
      obtain ⟨L, hL⟩ : ∃ L, L = (itemsF m.k).take p ++ (itemsF nd.k ++ (itemsF m.k).drop (p + 1)) := ⟨_, rfl⟩
      have hLl : L.length = p + (flen nd.k + (flen m.k - (p + 1))) := by
        rw [hL]
        simp only [List.length_append, List.length_take, List.length_drop, itemsF_length]
        omega
      have hLm : ∀ it, it ∈ L → it ∈ itemsF m.k ∨ it ∈ itemsF nd.k := fun it hi => by
        rw [hL] at hi
        rcases List.mem_append.1 hi with hi | hi
        · exact Or.inl (List.mem_of_mem_take hi)
        · rcases List.mem_append.1 hi with hi | hi
          · exact Or.inr hi
          · exact Or.inl (List.mem_of_mem_drop hi)
      have hcells : rowCells ((itemsF m.k).take p) ++ (rowCells (itemsF nd.k) ++ rowCells ((itemsF m.k).drop (p + 1))) = rowCells L := by rw [hL, rowCells_app, rowCells_app]
      rw [hcells, ← hLl] at hown
      rw [← hLl] at hof3 ⊢
      have hrow : (w2.setCell ⟨m.b, m.o + 1, none⟩ (.slice va2 L.length vc2)).ownsRow w8.heap.size 24 2 (.slice va2 L.length vc2) L.length (rowCells L) := ownsN_block hown fun g hg => Below.heap_setCell _ _ _ _ (by
        have := (ownBlockN_lt hown hg).1
        show g ≠ m.b
        omega)
      have hit : ∀ it, it ∈ L → ItIn (w2.setCell ⟨m.b, m.o + 1, none⟩ (.slice va2 L.length vc2)) it ∧ FPlain (w2.setCell ⟨m.b, m.o + 1, none⟩ (.slice va2 L.length vc2)) it.2.2.2 := fun it hi => by
        rcases hLm it hi with hi | hi
        · have h := items_in mt.kids it hi
          have hq := kids_two (n := m) h.kids (items_plain hk it hi) (items_off o1 it hi) (items_off o3 it hi) hb01 hof hof3
          exact ⟨⟨h.size, h.len, h.cap, hq.1⟩, hq.2⟩
        · have h := items_in dt.kids it hi
          have hq := kids_two (n := m) h.kids (items_plain ndp it hi) (items_off ndo it hi) (items_off ndo3 it hi) hb01 hof hof3
          exact ⟨⟨h.size, h.len, h.cap, hq.1⟩, hq.2⟩
      obtain ⟨ka', cap', k', hv, hst, hl1, hl2, hkin, hpl, hfr, hoff, _⟩ := row_kids hrow hit
      rw [hv] at hof3 hkin hpl ⊢
      have l2 := hb2.size
      have q2 : w2.heap[m.b]? = w8.heap[m.b]? := hb2.block m.b (by omega)
      refine Or.inr ⟨nd, (m.s, ka', cap', k'), hkid, rfl, ?_, rfl, ?_⟩
      · refine turn_of HM.out hp hk l3 n1 (hoff m.b (by omega) fun it hi => ?_) (hoff c3 (by omega) fun it hi => ?_) hb01 hof hbl hbk HP.out.1 (fun a ha => ?_) HP.out.2.1 HP.out.2.2.1 dt.size hof3 (fun B h1 h2 => (hb2.mono h2).setCell h1 _) (fun o h1 h2 => ?_) (fun h => plain_set1 (h.below hb2)) ⟨?_, cset_same (cellN q2 f6), ⟨mt.size, hl1, hl2, hkin⟩⟩ (fun B hB h => hfr B (by omega) fun it hi => ?_) hpl (fun c hc h => hoff c (by omega) fun it hi => ?_)
        · rcases hLm it hi with hi | hi
          · exact items_off o1 it hi
          · exact items_off ndo it hi
        · rcases hLm it hi with hi | hi
          · exact items_off o3 it hi
          · exact items_off ndo3 it hi
        · obtain ⟨u1, u2⟩ := HP.out.2.2.2.1 a ha
          have : wC.drew.heap.size = wC.heap.size := rfl
          omega
        · rw [cset_other (by omega)]
          exact World.cell?_of_block (w := w8) (w' := w2) (a := ⟨m.b, o, none⟩) q2
        · show (w2.setCell ⟨m.b, m.o + 1, none⟩ _).cell? ⟨m.b, m.o, none⟩ = _
          rw [cset_other (by omega)]
          exact cellN q2 f7
        · rcases hLm it hi with hi | hi
          · exact items_from h it hi
          · exact items_from (kid_from h hkid).2 it hi
        · rcases hLm it hi with hi | hi
          · exact items_off h it hi
          · exact items_off (kid_off h hkid) it hi
      · rw [hst, hL]
        simp only [List.map_append, List.map_take, List.map_drop, items_bare])
    have HF := hide (And.intro hbk (And.intro hof (And.intro hbl (And.intro hb01 hO8))))
    have hcapn := dt.cap
    unfold maxLen at hcapn
    clear hbk hof hbl hb01 hO8 e8 hkid hp hk mt hpi o1 o3 e1 dt ndo ndo3 ndp k8 d8 c1 c2 c4 c5 x0 x1 x2 x3 x4 xf
    go_wp2_with fail
    go_region_law (first
        | (go_simp; refine Calls.mono HW.out ?_; rintro e w2 ⟨va2, vc2, rfl, hown, hb2⟩
           have hb2' : Below w8.heap.size w8 w2 := (Below.refl _ w8).drew.trans hb2
           have g6 : w2.cell? ⟨m.b, m.o + 1, none⟩ = some (.slice (some ⟨kb, ko, none⟩) (flen m.k) m.cap) := by (rw [hb2'.cell (show m.b < w8.heap.size by omega)]; exact f6)
           have g8 : w2.frozen? ⟨m.b, m.o + 1, none⟩ = false := by (rw [hb2'.frozen (show m.b < w8.heap.size by omega)]; exact f8 _)
           have HO := hide hown
           have HB2 := hide hb2'
           clear hown hb2 hb2'
           go_simp))
    all_goals
      go_wp2_with fail
      go_ret
      exact HT.out va2 vc2 w2 HO.out HB2.out
end Go.Proofs.Ytcknganggcbkjab.Deed
namespace Go.Proofs.Ytcknganggcbkjab.Deed
open Go.Deep Go.RowKit
set_option linter.unusedVariables false
set_option maxRecDepth 20000

theorem wrap_len {a : Nat} (h : a ≤ 100000) : wrap64 (((a + 1 : Nat) : Int) - 1) = (a : Int) := by
  unfold wrap64
  omega

set_option maxHeartbeats 2000000 in
theorem remove_any (n : Nd) (d : Dd) (pa : Option Addr) (pc : Nat) (w : World) (hn : NodIn w n) (h1 : NodOne n) (hp : BPlain w n.b) (hk : FPlain w n.k) (hd : DIn w d pa pc) (hkd : d.kind = 2) (q : List Int) (p : Nat) (hpq : d.path = q ++ [(p : Int)]) (hnn : fnodes n.k ≤ 200) (h0 : q.any (fun p => decide (p < 0)) = false) (hl : d.path.length ≤ 60) :
    Calls Try.prog 85 #[.pointer (some ⟨n.b, n.o, none⟩), ddV d pa pc] w (ChEnd w n d) := by
  obtain ⟨b, o, rfl, hpi⟩ : ∃ b o, pa = some ⟨b, o, none⟩ ∧ ∀ i p, d.path[i]? = some p → w.cell? ⟨b, o + i, none⟩ = some (.int .i64 p) := by
    rcases hd.path with h | h
    · rw [hpq] at h
      simp at h
    · exact h
  have hpl : d.path.length = q.length + 1 := by rw [hpq]; simp
  have hnl : n.b < w.heap.size := World.block_lt_of_cell? _ _ hn.c0
  have hpp := hpi q.length (p : Int) (by rw [hpq]; simp)
  have hbl : b < w.heap.size := World.block_lt_of_cell? _ _ hpp
  have hpq2 : PIn w (some ⟨b, o, none⟩) q := Or.inr ⟨b, o, rfl, fun i x hx => hpi i x (by rw [hpq, List.getElem?_append_left (List.getElem?_eq_some_iff.1 hx).1]; exact hx)⟩
  have hpc := hd.len
  have hpm := hd.cap
  unfold maxLen at hpm
  have hdone : doneP d = modP (delOp p) (nats q) := by
    rw [doneP_del hkd hpq]
    rfl
  have hoff : ∀ c, w.heap.size ≤ c → FOff c n.k := fun c hc => hn.tin.kids.off hc
  -- what comes of it, wherever the two numbers lie
  have hend : ∀ (W : World) (cp ca : Nat), Below w.heap.size w W → w.heap.size ≤ cp → w.heap.size ≤ ca → cp ≠ w.heap.size + 1 → ca ≠ w.heap.size + 1 → BackIs W (w.heap.size + 1) noDd none 0 → W.cell? ⟨cp, 0, none⟩ = some (.int .i64 (p : Int)) → W.cell? ⟨ca, 0, none⟩ = some (.slice (some ⟨b, o, none⟩) q.length pc) →
      Calls Try.prog 97 #[.pointer (some ⟨n.b, n.o, none⟩), .slice (some ⟨b, o, none⟩) q.length pc, .func (.func 100) #[] #[.pointer (some ⟨cp, 0, none⟩), .pointer (some ⟨ca, 0, none⟩), .pointer (some ⟨w.heap.size + 1, 0, none⟩)]] W fun e w1 => (e = .returned (.int .i64 7) ∧ BackIs w1 (w.heap.size + 1) noDd none 0 ∧ ChEnd w n d (.returned (.tuple #[ddV noDd none 0, .int .i64 7])) w1) ∨ (e = .returned (.int .i64 0) ∧ ∃ nk ns va vc, BackIs w1 (w.heap.size + 1) ⟨3, q, (p : Int), nk, ns⟩ va vc ∧ ChEnd w n d (.returned (.tuple #[ddV ⟨3, q, (p : Int), nk, ns⟩ va vc, .int .i64 0])) w1) := fun W cp ca bW lp la np na i3 hcp hca => by
    have hnW := hn.below bW
    have hpW := hp.below bW
    have hkW := hk.below bW
    have sW := bW.size
    have l3 := i3.lt
    refine atR_any cp ca (w.heap.size + 1) n q (some ⟨b, o, none⟩) pc W hnW h1 (hpq2.below bW) (by omega) (nat_path h0) _ (fun m hm => ?_) (fun hz => ?_) (fun e w' h => ?_)
    · obtain ⟨a1, a2, _⟩ := nAt_in _ hnW h1 hm
      obtain ⟨a1', _, _⟩ := nAt_in _ hn h1 hm
      obtain ⟨b1, b2⟩ := nAt_plain _ hpW hkW hm
      have lm : m.b < w.heap.size := World.block_lt_of_cell? _ _ a1'.c0
      have hmn := nAt_nodes _ hm
      refine Calls.mono (lookR_any m cp ca (w.heap.size + 1) p q (some ⟨b, o, none⟩) pc W a1 b1 b2 hcp hca i3 (hpq2.below bW) (by omega) (by omega) (by omega) (by omega) (by omega) (one_off a1 a2) (a1'.tin.kids.off (by omega)) (by omega) (by omega)) ?_
      intro e w1 h
      rcases h with ⟨hkid, he, hb1⟩ | ⟨nd, x, hkid, he, ht, hx1, hx2⟩
      · have hc : (doneP d n.s (strip n.k)).1 = 7 := by
          rw [hdone, mod_code _ hm]
          unfold delOp
          rw [gs_strip, List.getElem?_eq_none (by rw [gs_len]; exact kidN_none hkid)]
        exact Or.inl ⟨he, i3.block (hb1.block _ l3), Or.inl ⟨by rw [hc]; decide, by rw [hc], bW.trans (hb1.mono (by omega))⟩⟩
      · obtain ⟨va, vc, hb, hdi, hva⟩ := ht.back
        obtain ⟨r1, r2, r3, r4, r5⟩ := turn_root hnW h1 hpW hkW hm (by omega) (hoff _ (by omega)) l3 ht
        have hat : atM (nats d.path) n.s (strip n.k) = some (nd.s, strip nd.k) := by
          rw [hpq, nats_append, show nats [(p : Int)] = [p] by simp [nats], atM_snoc _ _ _ _ _ _ (at_nAt _ hm), gs_strip, kid_gs hkid]
        have hbk : backP d n.s (strip n.k) = ⟨3, q, (p : Int), (flen nd.k : Int), nd.s⟩ := by
          unfold backP
          rw [if_neg (by omega), if_pos hkd, hat, hpq]
          simp [flen_strip]
        refine Or.inr ⟨he, _, _, va, vc, hb, Or.inr ⟨_, va, vc, ?_, by rw [hbk], (nSet_b _ _ _).1, (nSet_b _ _ _).2, r1, r2, fun B hB hbn hf => ?_, by rw [hbk]; exact hdi, fun a ha => Nat.le_trans sW (hva a ha), fun q hq hf => r4 q (by omega) hf, fun q hq hb' hf => (r5 q (by omega) hb' (by omega) hf).trans (bW.block q hq), fun h3 => absurd h3 (by omega)⟩⟩
        · rw [hdone]
          refine mod_set _ hm ?_
          unfold delOp
          rw [gs_strip, kid_gs hkid]
          simp only
          rw [gs_strip, hx1, hx2]
        · obtain ⟨f1, f2⟩ := r3 B (by omega) hbn (by omega) hf
          exact ⟨f1, (bW.mono hB).trans f2⟩
    · have hc : (doneP d n.s (strip n.k)).1 = 7 := by rw [hdone]; exact mod_none _ hz
      exact Or.inl ⟨rfl, i3, Or.inl ⟨by rw [hc]; decide, by rw [hc], bW⟩⟩
    · rcases h with ⟨rfl, _⟩ | ⟨rfl, _⟩
      · exact ⟨_, rfl⟩
      · exact ⟨_, rfl⟩
  have HE := hide hend
  obtain ⟨W, hW⟩ : ∃ W, W = (w.alloc (Obj.cells #[.int .i64 d.kind, .slice (some ⟨b, o, none⟩) d.path.length pc, .int .i64 d.pos, .int .i64 d.many, .string d.lab] 44)).alloc (Obj.cells #[.int .i64 0, .slice none 0 0, .int .i64 0, .int .i64 0, .string ⟨#[]⟩] 44) := ⟨_, rfl⟩
  obtain ⟨sW, bW, q1, q2⟩ := boxes2 w (Obj.cells #[.int .i64 d.kind, .slice (some ⟨b, o, none⟩) d.path.length pc, .int .i64 d.pos, .int .i64 d.many, .string d.lab] 44) (Obj.cells #[.int .i64 0, .slice none 0 0, .int .i64 0, .int .i64 0, .string ⟨#[]⟩] 44)
  rw [← hW] at sW bW q1 q2
  have i1 : BackIs W w.heap.size d (some ⟨b, o, none⟩) pc := BackIs.of q1
  have i2 : BackIs W (w.heap.size + 1) noDd none 0 := BackIs.of (d := noDd) q2
  have k1 := i1.c1
  have hw := wrap_len (a := q.length) (by omega)
  rw [← hpl] at hw
  have hlt : q.length < d.path.length := by omega
  have hsl : ∀ wx, (Instr.slice 42 (.slice (some ⟨b, o, none⟩) d.path.length pc) none (some (.int .i64 (q.length : Int))) none).run Try.prog wx = .ok (.slice (some ⟨b, o, none⟩) q.length pc) wx := fun wx => by
    rw [run_slice_h wx 42 _ _ _ Try.underlying42 .i64 (q.length : Int) (by omega) (by omega)]
    simp [go_sem, sliced, Addr.add]
  have hpW : W.cell? ⟨b, o + q.length, none⟩ = some (.int .i64 (p : Int)) := by rw [bW.cell hbl]; exact hpp
  have HI := hide (And.intro bW i2)
  clear hend hpi hn h1 hp hk hd hpq hdone hoff hpq2 h0 i1 i2 q1 q2 hkd hpp bW hpl hl hpc
  unfold ddV
  go_enter Try.func85, Try.ntmps85
  go_wp2_with fail
  rw [← hW]
  clear hW
  have HK0 := hide (show Kp [w.heap.size, b] W W.drew from (Kp.refl (by simp; omega)).drew)
  have HS := hide (fun (V : World) (h : Kp [w.heap.size, b] W V) => And.intro (h.cell (by simp) k1) (h.cell (by simp) hpW))
  have g1 : ¬ W.heap.size ∈ [w.heap.size, b] := by simp; omega
  have g2 : ¬ W.heap.size + 1 ∈ [w.heap.size, b] := by simp; omega
  go_region_held3 (fun w' => w'.cell? ⟨w.heap.size, 1, none⟩ = some (.slice (some ⟨b, o, none⟩) d.path.length pc) ∧ w'.cell? ⟨b, o + q.length, none⟩ = some (.int .i64 (p : Int)))
    ((refine HS.out _ ?_; (repeat (first | refine Kp.alloc ?_ | refine Kp.set ?_ g1 | refine Kp.set ?_ g2 | refine Kp.drew ?_)); first | exact HK0.out | exact Kp.refl HK0.out.lt))
    (fail)
  · obtain ⟨V, hV⟩ : ∃ V, V = ((W.alloc (Obj.cells #[Value.slice (some ⟨b, o, none⟩) q.length pc] 42)).alloc (Obj.cells #[Value.int IntKind.i64 (p : Int)] 3)).drew := ⟨_, rfl⟩
    obtain ⟨u1, u2, u3, u4⟩ := boxes2 W (Obj.cells #[Value.slice (some ⟨b, o, none⟩) q.length pc] 42) (Obj.cells #[Value.int IntKind.i64 (p : Int)] 3)
    have bV : Below W.heap.size W V := by rw [hV]; exact u2.drew
    have v1 : V.heap[W.heap.size]? = some (Obj.cells #[Value.slice (some ⟨b, o, none⟩) q.length pc] 42) := by rw [hV]; exact u3
    have v2 : V.heap[W.heap.size + 1]? = some (Obj.cells #[Value.int IntKind.i64 (p : Int)] 3) := by rw [hV]; exact u4
    rw [sW] at v1 v2
    have c1 : V.cell? ⟨w.heap.size + 1 + 1, 0, none⟩ = some (.slice (some ⟨b, o, none⟩) q.length pc) := by rw [cell_of_row _ _ 0 _ _ _ v1]; rfl
    have c2 : V.cell? ⟨w.heap.size + 1 + 1 + 1, 0, none⟩ = some (.int .i64 (p : Int)) := by rw [cell_of_row _ _ 0 _ _ _ v2]; rfl
    have HAT := hide (HE.out V (w.heap.size + 1 + 1 + 1) (w.heap.size + 1 + 1) (HI.out.1.trans (bV.mono HI.out.1.size)) (by omega) (by omega) (by omega) (by omega) (HI.out.2.block (bV.block _ (by omega))) c2 c1)
    rw [← hV]
    clear hV u1 u2 u3 u4 v1 v2 bV
    go_wp2_with fail
    refine Calls.mono HAT.out ?_
    clear c1 c2
    rintro e w1 (⟨rfl, hb, he⟩ | ⟨rfl, nk, ns, va, vc, hb, he⟩)
    · have HZ := hide he
      obtain ⟨x0, x1, x2, x3, x4, xf, xb⟩ := hb
      unfold noDd at x0 x1 x2 x3 x4
      simp only [List.length_nil] at x0 x1 x2 x3 x4
      have s0 := setCell_self xb x0
      have s1 := setCell_self xb x1
      have s2 := setCell_self xb x2
      have s3 := setCell_self xb x3
      have s4 := setCell_self xb x4
      clear xb he HAT HE HI HS HK0
      go_wp2_with fail
      refine bodyPost_ret (v := .tuple #[.agg #[.int .i64 0, .slice none 0 0, .int .i64 0, .int .i64 0, .string ⟨#[]⟩], .int .i64 7]) (by simp [results, Try.results85, go_sem, *]) rfl ?_
      exact HZ.out
    · have HZ := hide he
      obtain ⟨x0, x1, x2, x3, x4, xf, xb⟩ := hb
      simp only at x0 x1 x2 x3 x4
      have s0 := setCell_self xb x0
      have s1 := setCell_self xb x1
      have s2 := setCell_self xb x2
      have s3 := setCell_self xb x3
      have s4 := setCell_self xb x4
      clear xb he HAT HE HI HS HK0
      go_wp2_with fail
      refine bodyPost_ret (v := .tuple #[.agg #[.int .i64 3, .slice va q.length vc, .int .i64 (p : Int), .int .i64 nk, .string ns], .int .i64 0]) (by simp [results, Try.results85, go_sem, *]) rfl ?_
      exact HZ.out
  · obtain ⟨V, hV⟩ : ∃ V, V = ((W.alloc (Obj.cells #[Value.int IntKind.i64 (p : Int)] 3)).alloc (Obj.cells #[Value.slice (some ⟨b, o, none⟩) q.length pc] 42)).drew := ⟨_, rfl⟩
    obtain ⟨u1, u2, u3, u4⟩ := boxes2 W (Obj.cells #[Value.int IntKind.i64 (p : Int)] 3) (Obj.cells #[Value.slice (some ⟨b, o, none⟩) q.length pc] 42)
    have bV : Below W.heap.size W V := by rw [hV]; exact u2.drew
    have v1 : V.heap[W.heap.size]? = some (Obj.cells #[Value.int IntKind.i64 (p : Int)] 3) := by rw [hV]; exact u3
    have v2 : V.heap[W.heap.size + 1]? = some (Obj.cells #[Value.slice (some ⟨b, o, none⟩) q.length pc] 42) := by rw [hV]; exact u4
    rw [sW] at v1 v2
    have c1 : V.cell? ⟨w.heap.size + 1 + 1, 0, none⟩ = some (.int .i64 (p : Int)) := by rw [cell_of_row _ _ 0 _ _ _ v1]; rfl
    have c2 : V.cell? ⟨w.heap.size + 1 + 1 + 1, 0, none⟩ = some (.slice (some ⟨b, o, none⟩) q.length pc) := by rw [cell_of_row _ _ 0 _ _ _ v2]; rfl
    have HAT := hide (HE.out V (w.heap.size + 1 + 1) (w.heap.size + 1 + 1 + 1) (HI.out.1.trans (bV.mono HI.out.1.size)) (by omega) (by omega) (by omega) (by omega) (HI.out.2.block (bV.block _ (by omega))) c1 c2)
    rw [← hV]
    clear hV u1 u2 u3 u4 v1 v2 bV
    go_wp2_with fail
    refine Calls.mono HAT.out ?_
    clear c1 c2
    rintro e w1 (⟨rfl, hb, he⟩ | ⟨rfl, nk, ns, va, vc, hb, he⟩)
    · have HZ := hide he
      obtain ⟨x0, x1, x2, x3, x4, xf, xb⟩ := hb
      unfold noDd at x0 x1 x2 x3 x4
      simp only [List.length_nil] at x0 x1 x2 x3 x4
      have s0 := setCell_self xb x0
      have s1 := setCell_self xb x1
      have s2 := setCell_self xb x2
      have s3 := setCell_self xb x3
      have s4 := setCell_self xb x4
      clear xb he HAT HE HI HS HK0
      go_wp2_with fail
      refine bodyPost_ret (v := .tuple #[.agg #[.int .i64 0, .slice none 0 0, .int .i64 0, .int .i64 0, .string ⟨#[]⟩], .int .i64 7]) (by simp [results, Try.results85, go_sem, *]) rfl ?_
      exact HZ.out
    · have HZ := hide he
      obtain ⟨x0, x1, x2, x3, x4, xf, xb⟩ := hb
      simp only at x0 x1 x2 x3 x4
      have s0 := setCell_self xb x0
      have s1 := setCell_self xb x1
      have s2 := setCell_self xb x2
      have s3 := setCell_self xb x3
      have s4 := setCell_self xb x4
      clear xb he HAT HE HI HS HK0
      go_wp2_with fail
      refine bodyPost_ret (v := .tuple #[.agg #[.int .i64 3, .slice va q.length vc, .int .i64 (p : Int), .int .i64 nk, .string ns], .int .i64 0]) (by simp [results, Try.results85, go_sem, *]) rfl ?_
      exact HZ.out
end Go.Proofs.Ytcknganggcbkjab.Deed
namespace Go.Proofs.Ytcknganggcbkjab.Deed
open Go.Deep Go.RowKit
set_option linter.unusedVariables false
set_option maxRecDepth 20000

set_option maxHeartbeats 2000000 in
theorem changeN_any (n : Nd) (d : Dd) (pa : Option Addr) (pc : Nat) (w : World) (hn : NodIn w n) (hkd : d.kind = 1) (hc : ∀ W, Below w.heap.size w W → Calls Try.prog 84 #[.pointer (some ⟨n.b, n.o, none⟩), ddV d pa pc] W (ChEnd W n d)) :
    Calls Try.prog 55 #[.pointer (some ⟨n.b, n.o, none⟩), ddV d pa pc] w (ChEnd w n d) := by
  obtain ⟨W, hW⟩ : ∃ W, W = (w.alloc (Obj.cells #[.int .i64 1, .slice pa d.path.length pc, .int .i64 d.pos, .int .i64 d.many, .string d.lab] 44)).alloc (Obj.cells #[.int .i64 0, .slice none 0 0, .int .i64 0, .int .i64 0, .string ⟨#[]⟩] 44) := ⟨_, rfl⟩
  obtain ⟨sW, bW, q1, q2⟩ := boxes2 w (Obj.cells #[.int .i64 1, .slice pa d.path.length pc, .int .i64 d.pos, .int .i64 d.many, .string d.lab] 44) (Obj.cells #[.int .i64 0, .slice none 0 0, .int .i64 0, .int .i64 0, .string ⟨#[]⟩] 44)
  rw [← hW] at sW bW q1 q2
  have i2 : BackIs W (w.heap.size + 1) noDd none 0 := BackIs.of (d := noDd) q2
  have hnl : n.b < w.heap.size := World.block_lt_of_cell? _ _ hn.c0
  have hoff : FOff (w.heap.size + 1) n.k := hn.tin.kids.off (by omega)
  have hcW := hc W bW
  unfold ddV at hcW
  rw [hkd] at hcW
  have HC := hide hcW
  have HI := hide (And.intro bW (And.intro i2 hoff))
  clear hcW hc bW i2 hoff q1 q2 hn
  unfold ddV
  rw [hkd]
  clear hkd
  go_enter Try.func55, Try.ntmps55
  go_wp2_with fail
  rw [← hW]
  clear hW
  refine Calls.mono HC.out ?_
  intro e w1 he
  have HE := hide he
  have hx : BackIs w1 (w.heap.size + 1) noDd none 0 := by
    refine HI.out.2.1.block ?_
    rcases he with ⟨_, _, h3⟩ | ⟨n', pa', pc', _, _, _, _, _, _, _, _, _, _, h11, _⟩
    · exact h3.block _ (by omega)
    · exact h11 _ (by omega) (by omega) HI.out.2.2
  obtain ⟨x0, x1, x2, x3, x4, xf, _⟩ := hx
  unfold noDd at x0 x1 x2 x3 x4
  simp only [List.length_nil] at x0 x1 x2 x3 x4
  rcases he with ⟨_, he, _⟩ | ⟨n', pa', pc', _, he, _⟩
  · subst he
    obtain ⟨c, hcc⟩ : ∃ c, c = (doneP d n.s (strip n.k)).1 := ⟨_, rfl⟩
    rw [← hcc] at HE ⊢
    clear hcc
    unfold ddV noDd
    simp only [List.length_nil]
    go_wp2_with fail
    refine bodyPost_ret (v := .tuple #[.agg #[.int .i64 0, .slice none 0 0, .int .i64 0, .int .i64 0, .string ⟨#[]⟩], .int .i64 c]) (by simp [results, Try.results55, go_sem, *]) rfl ?_
    exact ch_set HI.out.1 (by omega) (by omega) hnl HI.out.2.2 HE.out
  · subst he
    obtain ⟨bk, hbk⟩ : ∃ bk, bk = backP d n.s (strip n.k) := ⟨_, rfl⟩
    rw [← hbk] at HE ⊢
    clear hbk
    unfold ddV
    go_wp2_with fail
    refine bodyPost_ret (v := .tuple #[.agg #[.int .i64 bk.kind, .slice pa' bk.path.length pc', .int .i64 bk.pos, .int .i64 bk.many, .string bk.lab], .int .i64 0]) (by simp [results, Try.results55, go_sem, *]) rfl ?_
    exact ch_set HI.out.1 (by omega) (by omega) hnl HI.out.2.2 HE.out

set_option maxHeartbeats 2000000 in
theorem changeR_any (n : Nd) (d : Dd) (pa : Option Addr) (pc : Nat) (w : World) (hn : NodIn w n) (hkd : d.kind = 2) (hc : ∀ W, Below w.heap.size w W → Calls Try.prog 85 #[.pointer (some ⟨n.b, n.o, none⟩), ddV d pa pc] W (ChEnd W n d)) :
    Calls Try.prog 55 #[.pointer (some ⟨n.b, n.o, none⟩), ddV d pa pc] w (ChEnd w n d) := by
  obtain ⟨W, hW⟩ : ∃ W, W = (w.alloc (Obj.cells #[.int .i64 2, .slice pa d.path.length pc, .int .i64 d.pos, .int .i64 d.many, .string d.lab] 44)).alloc (Obj.cells #[.int .i64 0, .slice none 0 0, .int .i64 0, .int .i64 0, .string ⟨#[]⟩] 44) := ⟨_, rfl⟩
  obtain ⟨sW, bW, q1, q2⟩ := boxes2 w (Obj.cells #[.int .i64 2, .slice pa d.path.length pc, .int .i64 d.pos, .int .i64 d.many, .string d.lab] 44) (Obj.cells #[.int .i64 0, .slice none 0 0, .int .i64 0, .int .i64 0, .string ⟨#[]⟩] 44)
  rw [← hW] at sW bW q1 q2
  have i2 : BackIs W (w.heap.size + 1) noDd none 0 := BackIs.of (d := noDd) q2
  have hnl : n.b < w.heap.size := World.block_lt_of_cell? _ _ hn.c0
  have hoff : FOff (w.heap.size + 1) n.k := hn.tin.kids.off (by omega)
  have hcW := hc W bW
  unfold ddV at hcW
  rw [hkd] at hcW
  have HC := hide hcW
  have HI := hide (And.intro bW (And.intro i2 hoff))
  clear hcW hc bW i2 hoff q1 q2 hn
  unfold ddV
  rw [hkd]
  clear hkd
  go_enter Try.func55, Try.ntmps55
  go_wp2_with fail
  rw [← hW]
  clear hW
  refine Calls.mono HC.out ?_
  intro e w1 he
  have HE := hide he
  have hx : BackIs w1 (w.heap.size + 1) noDd none 0 := by
    refine HI.out.2.1.block ?_
    rcases he with ⟨_, _, h3⟩ | ⟨n', pa', pc', _, _, _, _, _, _, _, _, _, _, h11, _⟩
    · exact h3.block _ (by omega)
    · exact h11 _ (by omega) (by omega) HI.out.2.2
  obtain ⟨x0, x1, x2, x3, x4, xf, _⟩ := hx
  unfold noDd at x0 x1 x2 x3 x4
  simp only [List.length_nil] at x0 x1 x2 x3 x4
  rcases he with ⟨_, he, _⟩ | ⟨n', pa', pc', _, he, _⟩
  · subst he
    obtain ⟨c, hcc⟩ : ∃ c, c = (doneP d n.s (strip n.k)).1 := ⟨_, rfl⟩
    rw [← hcc] at HE ⊢
    clear hcc
    unfold ddV noDd
    simp only [List.length_nil]
    go_wp2_with fail
    refine bodyPost_ret (v := .tuple #[.agg #[.int .i64 0, .slice none 0 0, .int .i64 0, .int .i64 0, .string ⟨#[]⟩], .int .i64 c]) (by simp [results, Try.results55, go_sem, *]) rfl ?_
    exact ch_set HI.out.1 (by omega) (by omega) hnl HI.out.2.2 HE.out
  · subst he
    obtain ⟨bk, hbk⟩ : ∃ bk, bk = backP d n.s (strip n.k) := ⟨_, rfl⟩
    rw [← hbk] at HE ⊢
    clear hbk
    unfold ddV
    go_wp2_with fail
    refine bodyPost_ret (v := .tuple #[.agg #[.int .i64 bk.kind, .slice pa' bk.path.length pc', .int .i64 bk.pos, .int .i64 bk.many, .string bk.lab], .int .i64 0]) (by simp [results, Try.results55, go_sem, *]) rfl ?_
    exact ch_set HI.out.1 (by omega) (by omega) hnl HI.out.2.2 HE.out

set_option maxHeartbeats 2000000 in
theorem changeI_any (n : Nd) (d : Dd) (pa : Option Addr) (pc : Nat) (w : World) (hn : NodIn w n) (hkd : d.kind = 3) (hc : ∀ W, Below w.heap.size w W → Calls Try.prog 86 #[.pointer (some ⟨n.b, n.o, none⟩), ddV d pa pc] W (ChEnd W n d)) :
    Calls Try.prog 55 #[.pointer (some ⟨n.b, n.o, none⟩), ddV d pa pc] w (ChEnd w n d) := by
  obtain ⟨W, hW⟩ : ∃ W, W = (w.alloc (Obj.cells #[.int .i64 3, .slice pa d.path.length pc, .int .i64 d.pos, .int .i64 d.many, .string d.lab] 44)).alloc (Obj.cells #[.int .i64 0, .slice none 0 0, .int .i64 0, .int .i64 0, .string ⟨#[]⟩] 44) := ⟨_, rfl⟩
  obtain ⟨sW, bW, q1, q2⟩ := boxes2 w (Obj.cells #[.int .i64 3, .slice pa d.path.length pc, .int .i64 d.pos, .int .i64 d.many, .string d.lab] 44) (Obj.cells #[.int .i64 0, .slice none 0 0, .int .i64 0, .int .i64 0, .string ⟨#[]⟩] 44)
  rw [← hW] at sW bW q1 q2
  have i2 : BackIs W (w.heap.size + 1) noDd none 0 := BackIs.of (d := noDd) q2
  have hnl : n.b < w.heap.size := World.block_lt_of_cell? _ _ hn.c0
  have hoff : FOff (w.heap.size + 1) n.k := hn.tin.kids.off (by omega)
  have hcW := hc W bW
  unfold ddV at hcW
  rw [hkd] at hcW
  have HC := hide hcW
  have HI := hide (And.intro bW (And.intro i2 hoff))
  clear hcW hc bW i2 hoff q1 q2 hn
  unfold ddV
  rw [hkd]
  clear hkd
  go_enter Try.func55, Try.ntmps55
  go_wp2_with fail
  rw [← hW]
  clear hW
  refine Calls.mono HC.out ?_
  intro e w1 he
  have HE := hide he
  have hx : BackIs w1 (w.heap.size + 1) noDd none 0 := by
    refine HI.out.2.1.block ?_
    rcases he with ⟨_, _, h3⟩ | ⟨n', pa', pc', _, _, _, _, _, _, _, _, _, _, h11, _⟩
    · exact h3.block _ (by omega)
    · exact h11 _ (by omega) (by omega) HI.out.2.2
  obtain ⟨x0, x1, x2, x3, x4, xf, _⟩ := hx
  unfold noDd at x0 x1 x2 x3 x4
  simp only [List.length_nil] at x0 x1 x2 x3 x4
  rcases he with ⟨_, he, _⟩ | ⟨n', pa', pc', _, he, _⟩
  · subst he
    obtain ⟨c, hcc⟩ : ∃ c, c = (doneP d n.s (strip n.k)).1 := ⟨_, rfl⟩
    rw [← hcc] at HE ⊢
    clear hcc
    unfold ddV noDd
    simp only [List.length_nil]
    go_wp2_with fail
    refine bodyPost_ret (v := .tuple #[.agg #[.int .i64 0, .slice none 0 0, .int .i64 0, .int .i64 0, .string ⟨#[]⟩], .int .i64 c]) (by simp [results, Try.results55, go_sem, *]) rfl ?_
    exact ch_set HI.out.1 (by omega) (by omega) hnl HI.out.2.2 HE.out
  · subst he
    obtain ⟨bk, hbk⟩ : ∃ bk, bk = backP d n.s (strip n.k) := ⟨_, rfl⟩
    rw [← hbk] at HE ⊢
    clear hbk
    unfold ddV
    go_wp2_with fail
    refine bodyPost_ret (v := .tuple #[.agg #[.int .i64 bk.kind, .slice pa' bk.path.length pc', .int .i64 bk.pos, .int .i64 bk.many, .string bk.lab], .int .i64 0]) (by simp [results, Try.results55, go_sem, *]) rfl ?_
    exact ch_set HI.out.1 (by omega) (by omega) hnl HI.out.2.2 HE.out

/-- change, whatever the good deed. -/
theorem change_any (n : Nd) (d : Dd) (pa : Option Addr) (pc : Nat) (w : World) (hn : NodIn w n) (h1 : NodOne n) (hp : BPlain w n.b) (hk : FPlain w n.k) (hd : DIn w d pa pc) (hf : deedFault d = 0) (hnn : fnodes n.k ≤ 200) (hl : d.path.length ≤ 60) (hs : d.lab.size ≤ 100) :
    Calls Try.prog 55 #[.pointer (some ⟨n.b, n.o, none⟩), ddV d pa pc] w (ChEnd w n d) := by
  obtain ⟨f1, f2, f3, f4, f5, f6, f7, f8⟩ := deedFault_zero hf
  rcases f1 with h | h | h
  · exact changeN_any n d pa pc w hn h fun W bW => name_any n d pa pc W (hn.below bW) h1 (hp.below bW) (hk.below bW) (hd.below bW) h f6 hl hs
  · obtain ⟨q, i, hq⟩ : ∃ q i, d.path = q ++ [i] := ⟨_, _, last_split (f8 h)⟩
    rw [hq] at f6
    obtain ⟨g1, g2⟩ := any_append f6
    obtain ⟨p, rfl⟩ := Int.eq_ofNat_of_zero_le (show 0 ≤ i by simpa using g2)
    exact changeR_any n d pa pc w hn h fun W bW => remove_any n d pa pc W (hn.below bW) h1 (hp.below bW) (hk.below bW) (hd.below bW) h q p hq hnn g1 hl
  · obtain ⟨i, hi⟩ := Int.eq_ofNat_of_zero_le f4
    obtain ⟨m, hm⟩ := Int.eq_ofNat_of_zero_le f5
    exact changeI_any n d pa pc w hn h fun W bW => insert_any n d pa pc W (hn.below bW) h1 (hp.below bW) (hk.below bW) (hd.below bW) h i m hi hm hnn f6 hl hs

end Go.Proofs.Ytcknganggcbkjab.Deed
