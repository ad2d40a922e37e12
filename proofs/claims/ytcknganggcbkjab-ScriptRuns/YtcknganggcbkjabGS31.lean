/- grid of package dist lays rows of zeros. Of the program's text. -/
/- forests of package dist: what all forests cost that begin where two trees do. Of the program's text. -/
/- greatest and fill of package dist. Of the program's text. -/
import Derived.Test.YtcknganggcbkjabProg
import Derived.Test.YtcknganggcbkjabGS28
import Derived.Deep.LoopGhost
import Derived.WalkSmall
import Derived.Test.YtcknganggcbkjabGS30
import Derived.Deep.RegionHeld3
namespace Go.Proofs.Ytcknganggcbkjab.Dist
open Go.Deep Go.RowKit
set_option linter.unusedVariables false
set_option maxRecDepth 20000

theorem infoInts : (Try.prog.info? 42).map (fun i => (i.zero, i.size, i.bytes)) = some (some (.slice none 0 0), 1, 24) := by kernel_rfl
theorem infoNum : (Try.prog.info? 3).map (fun i => (i.zero, i.size, i.bytes)) = some (some (.int .i64 0), 1, 8) := by kernel_rfl

structure GrInv (w : World) (n m i : Nat) (wr : World) : Prop where
  head : wr.rowIs w.heap.size 42 n (fun a => if a < i then .slice (some ⟨w.heap.size + 1 + a, 0, none⟩) m m else .slice none 0 0)
  rows : ∀ a, a < i → wr.rowIs (w.heap.size + 1 + a) 3 m (fun _ => .int .i64 0)
  size : wr.heap.size = w.heap.size + 1 + i
  below : Below w.heap.size w wr

theorem GrInv.step {w wr : World} {n m i : Nat} (h : GrInv w n m i wr) (hi : i < n) :
    GrInv w n m (i + 1) ((wr.setCell ⟨w.heap.size, i, none⟩ (.slice (some ⟨wr.heap.size, 0, none⟩) m m)).alloc (.cells (madeCells #[.int .i64 0] m) 3)) := by
  have hs := h.size
  have hz : (wr.setCell ⟨w.heap.size, i, none⟩ (.slice (some ⟨wr.heap.size, 0, none⟩) m m)).heap.size = wr.heap.size := by simp [World.setCell]
  refine ⟨?_, fun a ha => ?_, by simp [World.setCell]; omega, (h.below.setCell (by simp) _).alloc (by omega) _⟩
  · refine ((h.head.set i _).congr fun a ha => ?_).alloc _
    by_cases e : a = i
    · subst e
      rw [if_pos rfl, if_pos (by omega), hs]
    · rw [if_neg e]
      by_cases e2 : a < i
      · rw [if_pos e2, if_pos (by omega)]
      · rw [if_neg e2, if_neg (by omega)]
  · by_cases e : a = i
    · subst e
      have := World.rowIs_made (wr.setCell ⟨w.heap.size, a, none⟩ (.slice (some ⟨wr.heap.size, 0, none⟩) m m)) (.int .i64 0) m 3
      rw [hz, hs] at this
      rw [hs]
      exact this
    · exact ((h.rows a (by omega)).setOther (by simp; omega) _).alloc _

set_option maxHeartbeats 1000000 in
theorem grid_any (n m : Nat) (w : World) (hn : n ≤ 1000) (hm : m ≤ 1000) :
    Calls Try.prog 44 #[.int .i64 (n : Int), .int .i64 (m : Int)] w fun e w' => e = .returned (.slice (some ⟨w.heap.size, 0, none⟩) n n) ∧ GridIn w' w.heap.size n m (fun _ _ => 0) ∧ Below w.heap.size w w' ∧ w'.heap.size = w.heap.size + 1 + n := by
  have hmk := run_make_row' (P := Try.prog) 70 42 (.slice none 0 0) 24 Try.underlying70 infoInts rfl .i64 .i64 n (by omega) (by omega)
  have hmi := run_make_row' (P := Try.prog) 42 3 (.int .i64 0) 8 Try.underlying42 infoNum rfl .i64 .i64 m (by omega) (by omega)
  have hst : GrInv w n m 0 (w.alloc (.cells (madeCells #[.slice none 0 0] n) 42)) := ⟨(World.rowIs_made w _ n _).congr fun a _ => (if_neg (by omega)).symm, fun a ha => by omega, by simp, (Below.refl _ _).alloc (Nat.le_refl _) _⟩
  have HST := hide hst
  clear hst
  go_enter Try.func44, Try.ntmps44
  go_wp2_with fail
  go_loopg [11] n (fun gk v11 wr => ∃ i : Nat, gk = n - i ∧ i ≤ n ∧ v11 = .int .i64 (i : Nat) ∧ GrInv w n m i wr)
  case atStart => exact ⟨0, rfl, Nat.zero_le _, rfl, HST.out⟩
  case round =>
    obtain ⟨i, hgk, hi, rfl, hI⟩ := hrel
    by_cases hin : i < n
    · have q0 := hI.head.cell hin
      rw [if_neg (by omega)] at q0
      have q1 := hI.head.frozen i
      have hs := hI.size
      have hlt : w.heap.size < wr.heap.size := by omega
      have HI := hide (hI.step hin)
      clear hI hs
      go_wp2_with fail
      go_roundg (n - (i + 1))
      case measure => omega
      case rel => exact ⟨i + 1, rfl, by omega, by go_num, HI.out⟩
    · have hie : i = n := by omega
      subst hie
      have HI := hide hI
      clear hI
      go_wp2_with fail
      go_ret
      exact ⟨rfl, ⟨HI.out.head.congr fun a ha => if_pos ha, fun a ha => HI.out.rows a ha⟩, HI.out.below, HI.out.size⟩
end Go.Proofs.Ytcknganggcbkjab.Dist
namespace Go.Proofs.Ytcknganggcbkjab.Dist
open Go.Deep Go.RowKit
set_option linter.unusedVariables false
set_option maxRecDepth 20000

theorem ForIn.set {w : World} {T : Tab} {F : Fst} {h : Nat → Nat → Nat} (hf : ForIn w T F h) {m n : Nat} (hm : m < F.M) (v : Nat) : ForIn (w.setCell ⟨F.gc + 1 + m, n, none⟩ (.int .i64 (v : Int))) T F (upd h m n v) := by
  have h1 := hf.ltT
  have h2 := hf.ltG
  have ep : (w.setCell ⟨F.gc + 1 + m, n, none⟩ (.int .i64 (v : Int))).heap[F.p]? = w.heap[F.p]? := blk_setCell_other _ _ _ _ (by simp; omega)
  exact ⟨by rw [World.cell?_of_block (w := w) ep]; exact hf.c0, by rw [World.cell?_of_block (w := w) ep]; exact hf.c1, by rw [World.cell?_of_block (w := w) ep]; exact hf.c2, by rw [World.cell?_of_block (w := w) ep]; exact hf.c3, hf.grid.set hm v, h1, h2, hf.inA, hf.inB⟩
theorem ForIn.congr {w : World} {T : Tab} {F : Fst} {h h' : Nat → Nat → Nat} (hf : ForIn w T F h) (e : ∀ i j, i < F.M → j < F.N → h i j = h' i j) : ForIn w T F h' :=
  ⟨hf.c0, hf.c1, hf.c2, hf.c3, hf.grid.congr e, hf.ltT, hf.ltG, hf.inA, hf.inB⟩

/-- What the loops of forests keep. -/
structure FInv (w : World) (T : Tab) (i j m n : Nat) (wr : World) : Prop where
  fo : ForIn wr T (Fst.of T.A T.B i j w.heap.size) (filled (DV T.A T.B i j) m n)
  below : Below w.heap.size w wr
theorem FInv.put {w wr : World} {T : Tab} {i j m n k : Nat} (h : FInv w T i j m n wr) (hm : m < i - lefts T.A i + 2) : FInv w T i j m (n + 1) ((wr.drewN k).setCell ⟨w.heap.size + 1 + 1 + m, n, none⟩ (.int .i64 (DV T.A T.B i j m n : Int))) :=
  ⟨((h.fo.drewN k).set (m := m) (n := n) hm (DV T.A T.B i j m n)).congr fun a b _ _ => filled_put _ _ _ _ _, (below_drewN h.below k).setCell (by simp; omega) _⟩
theorem FInv.line {w wr : World} {T : Tab} {i j m : Nat} (h : FInv w T i j m (j - lefts T.B j + 2) wr) : FInv w T i j (m + 1) 0 wr :=
  ⟨h.fo.congr fun a b _ hb => filled_line _ _ _ _ _ hb, h.below⟩

set_option maxHeartbeats 2000000 in
theorem forests_any (T : Tab) (f : Nat → Nat → Nat) (i j : Nat) (w : World) (hT : TabIn w T f) (hi : i < T.A.length) (hj : j < T.B.length) (hN : Needs T.A T.B f i j) (hs : ∀ a b, a < T.A.length → b < T.B.length → f a b ≤ 1000) :
    Calls Try.prog 49 #[.pointer (some ⟨T.t, 0, none⟩), .int .i64 (i : Int), .int .i64 (j : Int)] w fun e w' => e = .returned (.pointer (some ⟨w.heap.size, 0, none⟩)) ∧ ForIn w' T (Fst.of T.A T.B i j w.heap.size) (DV T.A T.B i j) ∧ Below w.heap.size w w' := by
  have hA := hT.okA.many
  have hB := hT.okB.many
  have htl := hT.lt
  obtain ⟨a, ha, hla, hai, _⟩ := left_at hT.okA hi
  obtain ⟨b, hb, hlb, hbj, _⟩ := left_at hT.okB hj
  obtain ⟨_, _, a2⟩ := hT.na i a ha
  obtain ⟨_, _, b2⟩ := hT.nb j b hb
  rw [hla] at a2
  rw [hlb] at b2
  have c0 := hT.c0
  have c1 := hT.c1
  have HT := hide hT
  have HN := hide hN
  have HS := hide hs
  obtain ⟨x, hx⟩ : ∃ x, x = lefts T.A i := ⟨_, rfl⟩
  obtain ⟨y, hy⟩ : ∃ y, y = lefts T.B j := ⟨_, rfl⟩
  rw [← hx] at a2 hai
  rw [← hy] at b2 hbj
  have HX := hide hx
  have HY := hide hy
  obtain ⟨M, hM⟩ : ∃ M, M = i - x + 2 := ⟨_, rfl⟩
  obtain ⟨N, hNn⟩ : ∃ N, N = j - y + 2 := ⟨_, rfl⟩
  have eM : (M : Int) = (i : Int) - (x : Int) + 2 := by omega
  have eN : (N : Int) = (j : Int) - (y : Int) + 2 := by omega
  have hg := fun W' : World => grid_any M N W' (by omega) (by omega)
  have v1 : IntKind.i64.wrap ((i : Int) - (x : Int)) = ((i - x : Nat) : Int) := by rw [IntKind.wrap_i64]; omega
  have v2 : IntKind.i64.wrap (((i - x : Nat) : Int) + 2) = (M : Int) := by rw [IntKind.wrap_i64]; omega
  have v3 : IntKind.i64.wrap ((j : Int) - (y : Int)) = ((j - y : Nat) : Int) := by rw [IntKind.wrap_i64]; omega
  have v4 : IntKind.i64.wrap (((j - y : Nat) : Int) + 2) = (N : Int) := by rw [IntKind.wrap_i64]; omega
  have hM40 : M ≤ 41 := by omega
  have hN40 : N ≤ 41 := by omega
  have HG := hide hg
  have HM := hide hM
  have HNn := hide hNn
  clear hT hN hs hla hlb ha hb hg eM eN hM hNn hx hy
  obtain ⟨W, hW⟩ : ∃ W, W = (w.alloc (Obj.cells #[Value.pointer (some ⟨T.t, 0, none⟩), .int .i64 (x : Int), .int .i64 (y : Int), .slice none 0 0] 76)).drew := ⟨_, rfl⟩
  have hWB : Below w.heap.size w W := by rw [hW]; exact ((Below.refl _ _).alloc (Nat.le_refl _) _).drew
  have hWs : W.heap.size = w.heap.size + 1 := by rw [hW]; simp
  have hWb : W.heap[w.heap.size]? = some (Obj.cells #[Value.pointer (some ⟨T.t, 0, none⟩), .int .i64 (x : Int), .int .i64 (y : Int), .slice none 0 0] 76) := by rw [hW]; exact heap_alloc_new _ _
  have HWB := hide hWB
  have HWb := hide hWb
  clear hWB hWb
  go_enter Try.func49, Try.ntmps49
  go_wp2_with fail
  go_region
  rw [← hW]
  clear hW
  have p0 : W.cell? ⟨w.heap.size, 0, none⟩ = some (.pointer (some ⟨T.t, 0, none⟩)) := by rw [cell_of_row _ _ 0 _ _ _ HWb.out]; rfl
  have p1 : W.cell? ⟨w.heap.size, 1, none⟩ = some (.int .i64 (x : Int)) := by rw [cell_of_row _ _ 1 _ _ _ HWb.out]; rfl
  have p2 : W.cell? ⟨w.heap.size, 2, none⟩ = some (.int .i64 (y : Int)) := by rw [cell_of_row _ _ 2 _ _ _ HWb.out]; rfl
  have p3 : W.cell? ⟨w.heap.size, 3, none⟩ = some (.slice none 0 0) := by rw [cell_of_row _ _ 3 _ _ _ HWb.out]; rfl
  have p4 : W.frozen? ⟨w.heap.size, 3, none⟩ = false := by simp [World.frozen?, HWb.out]
  go_wp2_with fail
  go_region_held3 (fun w' => w'.cell? ⟨w.heap.size, 1, none⟩ = some (.int .i64 (x : Int)) ∧ w'.cell? ⟨w.heap.size, 2, none⟩ = some (.int .i64 (y : Int)))
    (refine ⟨?_, ?_⟩ <;> go_simp)
    ((go_at_call 44; refine (HG.out _).mono ?_; rintro e w1 ⟨rfl, hgr, hb1, hz1⟩; have HGR := hide hgr; have HB1 := hide hb1; have HZ1 := hide hz1
      have k0 : w1.cell? ⟨w.heap.size, 0, none⟩ = some (.pointer (some ⟨T.t, 0, none⟩)) := by (rw [hb1.cell (by simp <;> omega)]; go_simp)
      have k1 : w1.cell? ⟨w.heap.size, 1, none⟩ = some (.int .i64 (x : Int)) := by (rw [hb1.cell (by simp <;> omega)]; go_simp)
      have k2 : w1.cell? ⟨w.heap.size, 2, none⟩ = some (.int .i64 (y : Int)) := by (rw [hb1.cell (by simp <;> omega)]; go_simp)
      have k3 : w1.cell? ⟨w.heap.size, 3, none⟩ = some (.slice none 0 0) := by (rw [hb1.cell (by simp <;> omega)]; exact p3)
      have k4 : w1.frozen? ⟨w.heap.size, 3, none⟩ = false := by (rw [hb1.frozen (by simp <;> omega)]; exact p4)
      clear hgr hb1 hz1))
  go_wp2_with fail
  obtain ⟨W2, hW2⟩ : ∃ W2, W2 = w1.setCell ⟨w.heap.size, 3, none⟩ (.slice (some ⟨w.heap.size + 1, 0, none⟩) M M) := ⟨_, rfl⟩
  rw [← hW2]
  have hst : FInv w T i j 0 0 W2 := by
    have hz : W.drew.heap.size = w.heap.size + 1 := hWs
    have hgr := HGR.out
    have hb1 := HB1.out
    rw [hz] at hgr hb1
    have e1 : ForIn W2 T ⟨w.heap.size, x, y, w.heap.size + 1, M, N⟩ (filled (DV T.A T.B i j) 0 0) := by
      have hb : w.heap.size < w1.heap.size := by have := hgr.lt; omega
      refine ⟨by rw [hW2]; go_simp, by rw [hW2]; go_simp, by rw [hW2]; go_simp, by rw [hW2]; go_simp, ?_, htl, by simp, ?_, ?_⟩
      · rw [hW2]
        exact (hgr.setOther (Or.inl (by simp)) _).congr fun a b _ _ => (filled_zero _ a b).symm
      · have := HM.out
        simp only
        omega
      · have := HNn.out
        simp only
        omega
    have e2 : Fst.of T.A T.B i j w.heap.size = ⟨w.heap.size, x, y, w.heap.size + 1, M, N⟩ := by unfold Fst.of; rw [HM.out, HNn.out, HX.out, HY.out]
    refine ⟨by rw [e2]; exact e1, ?_⟩
    rw [hW2]
    exact (HWB.out.drew.trans (hb1.mono (by omega))).setCell (by simp) _
  have HST := hide hst
  clear hst hW2 HGR HB1 HZ1 HWB HWb HG k0 k1 k2 k3 k4 p0 p1 p2 p3 p4 hWs a2 b2 c0 c1 v1 v2 v3 v4
  go_loopg [52] M (fun gk v52 wr => ∃ m : Nat, gk = M - m ∧ m ≤ M ∧ v52 = .int .i64 (m : Nat) ∧ FInv w T i j m 0 wr)
  case atStart => exact ⟨0, rfl, Nat.zero_le _, rfl, HST.out⟩
  case round =>
    obtain ⟨m, hgk, hm, rfl, hI⟩ := hrel
    obtain ⟨wA, hwA⟩ : ∃ wA, wA = wr := ⟨_, rfl⟩
    subst hwA
    have p3 : wA.cell? ⟨w.heap.size, 3, none⟩ = some (.slice (some ⟨w.heap.size + 1, 0, none⟩) M M) := by rw [HM.out, HX.out]; exact hI.fo.c3
    by_cases hin : m < M
    · have q0 : wA.cell? ⟨w.heap.size + 1, m, none⟩ = some (.slice (some ⟨w.heap.size + 1 + 1 + m, 0, none⟩) N N) := by rw [HNn.out, HY.out]; exact hI.fo.grid.cell (by rw [HM.out, HX.out] at hin; exact hin)
      have HI := hide hI
      clear hI
      go_wp2_with fail
      go_loopg [63] N (fun gk v63 wr => ∃ n : Nat, gk = N - n ∧ n ≤ N ∧ v63 = .int .i64 (n : Nat) ∧ FInv w T i j m n wr)
      case atStart => exact ⟨0, rfl, Nat.zero_le _, rfl, HI.out⟩
      case round =>
        obtain ⟨n, hgk2, hn, rfl, hI2⟩ := hrel
        by_cases hin2 : n < N
        · have hm2 : m < i - lefts T.A i + 2 := by rw [HM.out, HX.out] at hin; exact hin
          have hn2 : n < j - lefts T.B j + 2 := by rw [HNn.out, HY.out] at hin2; exact hin2
          have hT2 := HT.out.below hI2.below
          have r3 : wr.cell? ⟨w.heap.size, 3, none⟩ = some (.slice (some ⟨w.heap.size + 1, 0, none⟩) M M) := by rw [HM.out, HX.out]; exact hI2.fo.c3
          have r0 : wr.cell? ⟨w.heap.size + 1, m, none⟩ = some (.slice (some ⟨w.heap.size + 1 + 1 + m, 0, none⟩) N N) := by rw [HNn.out, HY.out]; exact hI2.fo.grid.cell hm2
          have r1 : wr.cell? ⟨w.heap.size + 1 + 1 + m, n, none⟩ = some (.int .i64 (filled (DV T.A T.B i j) m n m n : Int)) := hI2.fo.grid.num hm2 hn2
          have r2 : wr.frozen? ⟨w.heap.size + 1 + 1 + m, n, none⟩ = false := hI2.fo.grid.frozen hm2 n
          have hl := least_any T (Fst.of T.A T.B i j w.heap.size) f (filled (DV T.A T.B i j) m n) m n wr.drew (hT2.drewN 1) (hI2.fo.drewN 1) (forOk T f HT.out.okA HT.out.okB hi hj HS.out) hm2 hn2
          rw [lst_is T f HT.out.okA HT.out.okB hi hj HN.out hm2 hn2] at hl
          have HL : Hid (Calls Try.prog 82 #[.pointer (some ⟨w.heap.size, 0, none⟩), .int .i64 (m : Int), .int .i64 (n : Int)] wr.drew fun e w' => e = .returned (.int .i64 (DV T.A T.B i j m n : Int)) ∧ ∃ k, w' = wr.drew.drewN k) := hide hl
          have HI2 := hide hI2
          clear hl hT2 hI2
          go_wp2_with fail
          go_region_held3 (fun w' => w'.cell? ⟨w.heap.size, 3, none⟩ = some (.slice (some ⟨w.heap.size + 1, 0, none⟩) M M) ∧ w'.cell? ⟨w.heap.size + 1, m, none⟩ = some (.slice (some ⟨w.heap.size + 1 + 1 + m, 0, none⟩) N N))
            (refine ⟨?_, ?_⟩ <;> go_simp)
            ((go_at_call 82; refine HL.out.mono ?_; rintro e w2 ⟨rfl, k, hw2⟩
              have k0 : w2.cell? ⟨w.heap.size, 3, none⟩ = some (.slice (some ⟨w.heap.size + 1, 0, none⟩) M M) := by (rw [hw2]; exact r3)
              have k1 : w2.cell? ⟨w.heap.size + 1, m, none⟩ = some (.slice (some ⟨w.heap.size + 1 + 1 + m, 0, none⟩) N N) := by (rw [hw2]; exact r0)
              have k2 : w2.cell? ⟨w.heap.size + 1 + 1 + m, n, none⟩ = some (.int .i64 (filled (DV T.A T.B i j) m n m n : Int)) := by (rw [hw2]; exact r1)
              have k3 : w2.frozen? ⟨w.heap.size + 1 + 1 + m, n, none⟩ = false := by (rw [hw2]; exact r2)
              have HW2 := hide hw2
              clear hw2))
          go_wp2_with fail
          go_roundg (N - (n + 1))
          case measure => omega
          case rel =>
            refine ⟨n + 1, rfl, by omega, by go_num, ?_⟩
            rw [HW2.out, show wr.drew.drewN k = wr.drewN (1 + k) from World.drewN_drewN wr 1 k]
            exact HI2.out.put (k := 1 + k) hm2
        · have hne : n = N := by omega
          subst hne
          have HI2 := hide hI2
          clear hI2
          go_wp2_with fail
          go_roundg (M - (m + 1))
          case measure => omega
          case rel =>
            refine ⟨m + 1, rfl, by omega, by go_num, ?_⟩
            have := HI2.out
            rw [HNn.out, HY.out] at this
            exact this.line
    · have hme : m = M := by omega
      subst hme
      have HI := hide hI
      clear hI
      go_wp2_with fail
      go_ret
      refine ⟨rfl, HI.out.fo.congr fun a b ha hb => ?_, HI.out.below⟩
      rw [HM.out, HX.out]
      exact filled_all _ _ _ _ ha
end Go.Proofs.Ytcknganggcbkjab.Dist
namespace Go.Proofs.Ytcknganggcbkjab.Dist
open Go.Deep Go.RowKit
set_option linter.unusedVariables false
set_option maxRecDepth 20000
set_option maxHeartbeats 1000000 in
theorem greatest_any (L : List Nd) (b o c i : Nat) (w : World) (hL : NAt w b o L) (hO : NOk L) (hi : i < L.length) (hc : L.length ≤ c) (hcm : c ≤ maxLen) :
    Calls Try.prog 80 #[.slice (some ⟨b, o, none⟩) L.length c, .int .i64 (i : Int)] w fun e w' => (∃ r : Bool, e = .returned (.bool r) ∧ (r = true ↔ Grt L i)) ∧ ∃ n, w' = w.drewN n := by
  unfold maxLen at hcm
  obtain ⟨x, hx⟩ : ∃ x, L[i]? = some x := ⟨_, List.getElem?_eq_getElem hi⟩
  obtain ⟨_, x1, x2⟩ := hL i x hx
  have h40 := hO.many
  rcases hO.up i x hx with hn | ⟨p, y, hp, hip, hy, hle⟩
  · have hg := hide (grt_root hO hx hn)
    have hb : decide (x.par < 0) = true := decide_eq_true hn
    clear hL hx hO
    go_enter Try.func80, Try.ntmps80
    go_wp2_with fail
    go_quiet (fail)
    go_wp2_with fail
    go_ret
    exact ⟨⟨true, rfl, fun _ => hg.out, fun _ => rfl⟩, _, rfl⟩
  · obtain ⟨_, _, y2⟩ := hL p y hy
    have hg := hide (grt_iff hO hx hp hy)
    have hpl := (List.getElem?_eq_some_iff.1 hy).1
    rw [hp] at x1
    clear hL hx hy hO hle hp
    have hpn : ¬ ((p : Int) < 0) := by omega
    go_enter Try.func80, Try.ntmps80
    go_wp2_with fail
    go_quiet (fail)
    go_wp2_with fail
    go_ret
    refine ⟨⟨_, rfl, ?_⟩, _, rfl⟩
    rw [hg.out]
    simp
    omega

/-- What the loops of fill keep. -/
structure FlInv (w : World) (T : Tab) (i j : Nat) (wr : World) : Prop where
  tab : ∃ f, TabIn wr T f ∧ Known T.A T.B f i j ∧ ∀ a b, a < T.A.length → b < T.B.length → f a b ≤ 1000
  kept : KeptT T w wr
theorem TD_le {A B : List Nd} (hA : NOk A) (hB : NOk B) {i j : Nat} (hi : i < A.length) (hj : j < B.length) : TD A B i j ≤ 1000 := by
  have h1 := hA.post.le i hi
  have h2 := hB.post.le j hj
  have h3 := hA.many
  have h4 := hB.many
  have := DV_le hA hB hi hj (m := i - lefts A i + 1) (n := j - lefts B j + 1) (by omega) (by omega)
  unfold DV at this
  rw [show lefts A i + (i - lefts A i + 1) = i + 1 by omega, show lefts B j + (j - lefts B j + 1) = j + 1 by omega] at this
  unfold TD
  omega
theorem noted_le {A B : List Nd} {f : Nat → Nat → Nat} (hA : NOk A) (hB : NOk B) {i j : Nat} (h : ∀ a b, a < A.length → b < B.length → f a b ≤ 1000) : ∀ a b, a < A.length → b < B.length → noted A B f i j a b ≤ 1000 := fun a b ha hb => by
  unfold noted
  split
  · exact TD_le hA hB ha hb
  · exact h a b ha hb

set_option maxHeartbeats 2000000 in
theorem fill_any (T : Tab) (w : World) (hT : TabIn w T (fun _ _ => 0)) :
    Calls Try.prog 45 #[.pointer (some ⟨T.t, 0, none⟩)] w fun e w' => e = .returned (.tuple #[]) ∧ TabIn w' T (TD T.A T.B) ∧ KeptT T w w' := by
  have hA := hT.okA.many
  have hB := hT.okB.many
  have okA := hide hT.okA
  have okB := hide hT.okB
  have cpA := hT.capA
  have cpB := hT.capB
  have c0 := hT.c0
  have HST := hide (show FlInv w T 0 0 w from ⟨⟨_, hT, Known.start _ _ _, fun _ _ _ _ => by omega⟩, KeptT.refl _ _⟩)
  clear hT
  go_enter Try.func45, Try.ntmps45
  go_wp2_with fail
  go_loopg [9] T.A.length (fun gk v9 wr => ∃ i : Nat, gk = T.A.length - i ∧ i ≤ T.A.length ∧ v9 = .int .i64 (i : Nat) ∧ FlInv w T i 0 wr)
  case atStart => exact ⟨0, rfl, Nat.zero_le _, rfl, HST.out⟩
  case round =>
    clear HST c0
    obtain ⟨i, hgk, hi, rfl, hI⟩ := hrel
    obtain ⟨wA, hwA⟩ : ∃ wA, wA = wr := ⟨_, rfl⟩
    subst hwA
    obtain ⟨⟨f, hT, hK, hS⟩, hkept⟩ := hI
    by_cases hin : i < T.A.length
    · have c0 := hT.c0
      have HG := hide (greatest_any T.A T.ba T.oa T.ca i wA hT.na hT.okA hin cpA.1 cpA.2)
      have HT := hide hT
      have HK := hide hK
      have HS := hide hS
      have HKP := hide hkept
      clear hT hK hS hkept
      go_wp2_with fail
      refine Calls.mono HG.out ?_
      rintro e w1 ⟨⟨r, rfl, hr⟩, k, hw1⟩
      have hT1 : TabIn w1 T f := by rw [hw1]; exact HT.out.drewN k
      have hKP1 : KeptT T w w1 := by rw [hw1]; exact HKP.out.trans (KeptT.drewN T wA k)
      clear hw1 HG HT HKP c0
      cases r
      · have HR := hide (show ¬ Grt T.A i from fun h => by have := hr.2 h; cases this)
        have HT1 := hide hT1
        have HKP1 := hide hKP1
        clear hr hT1 hKP1
        go_wp2_with fail
        go_roundg (T.A.length - (i + 1))
        case measure => omega
        case rel => exact ⟨i + 1, rfl, by omega, by go_num, ⟨f, HT1.out, HK.out.skip hin HR.out, HS.out⟩, HKP1.out⟩
      · have HR := hide (hr.1 rfl)
        have c1 := hT1.c1
        have HI1 := hide (show FlInv w T i 0 w1 from ⟨⟨f, hT1, HK.out, HS.out⟩, hKP1⟩)
        clear hr hT1 hKP1 HK HS
        go_wp2_with fail
        go_loopg [24] T.B.length (fun gk v24 wr => ∃ j : Nat, gk = T.B.length - j ∧ j ≤ T.B.length ∧ v24 = .int .i64 (j : Nat) ∧ FlInv w T i j wr)
        case atStart => exact ⟨0, rfl, Nat.zero_le _, rfl, HI1.out⟩
        case round =>
          clear HI1 c1
          obtain ⟨j, hgk2, hj, rfl, hI2⟩ := hrel
          obtain ⟨⟨f2, hT2, hK2, hS2⟩, hkept2⟩ := hI2
          by_cases hin2 : j < T.B.length
          · have c1 := hT2.c1
            have HG2 := hide (greatest_any T.B T.bb T.ob T.cb j wr hT2.nb hT2.okB hin2 cpB.1 cpB.2)
            have HT2 := hide hT2
            have HK2 := hide hK2
            have HS2 := hide hS2
            have HKP2 := hide hkept2
            clear hT2 hK2 hS2 hkept2
            go_wp2_with fail
            refine Calls.mono HG2.out ?_
            rintro e w3 ⟨⟨r, rfl, hr⟩, k3, hw3⟩
            have hT3 : TabIn w3 T f2 := by rw [hw3]; exact HT2.out.drewN k3
            have hKP3 : KeptT T w w3 := by rw [hw3]; exact HKP2.out.trans (KeptT.drewN T wr k3)
            clear hw3 HG2 HT2 HKP2 c1
            cases r
            · have HR2 := hide (show ¬ Grt T.B j from fun h => by have := hr.2 h; cases this)
              have HT3 := hide hT3
              have HKP3 := hide hKP3
              clear hr hT3 hKP3
              go_wp2_with fail
              go_roundg (T.B.length - (j + 1))
              case measure => omega
              case rel => exact ⟨j + 1, rfl, by omega, by go_num, ⟨f2, HT3.out, HK2.out.skipB hin2 HR2.out, HS2.out⟩, HKP3.out⟩
            · have HR2 := hide (hr.1 rfl)
              have HF := hide (forests_any T f2 i j w3 hT3 hin hin2 (HK2.out.needs okA.out okB.out hin hin2 HR.out HR2.out) HS2.out)
              have HT3 := hide hT3
              have HKP3 := hide hKP3
              clear hr hT3 hKP3
              go_wp2_with fail
              refine Calls.mono HF.out ?_
              rintro e w4 ⟨rfl, hfor, hb4⟩
              have HN := hide (note_any T f2 i j w3.heap.size w4 (HT3.out.below hb4) hfor hin hin2)
              have HKP4 := hide (HKP3.out.trans (KeptT.of_below hb4))
              clear HF HT3 HKP3 hfor hb4
              go_wp2_with fail
              refine Calls.mono HN.out ?_
              rintro e w5 ⟨rfl, htab, hkp⟩
              have HT5 := hide htab
              have HKP5 := hide (HKP4.out.trans hkp)
              clear HN HKP4 htab hkp
              go_wp2_with fail
              go_roundg (T.B.length - (j + 1))
              case measure => omega
              case rel => exact ⟨j + 1, rfl, by omega, by go_num, ⟨_, HT5.out, HK2.out.note hin hin2, noted_le okA.out okB.out HS2.out⟩, HKP5.out⟩
          · have hne : j = T.B.length := by omega
            subst hne
            have HE := hide (show FlInv w T (i + 1) 0 wr from ⟨⟨f2, hT2, hK2.line, hS2⟩, hkept2⟩)
            clear hT2 hK2 hS2 hkept2
            go_wp2_with fail
            go_roundg (T.A.length - (i + 1))
            case measure => omega
            case rel => exact ⟨i + 1, rfl, by omega, by go_num, HE.out⟩
    · have hie : i = T.A.length := by omega
      subst hie
      have HE := hide (hT.congr fun a b ha hb => hK.all a b ha hb)
      have HKP := hide hkept
      clear hT hK hS hkept
      go_wp2_with fail
      go_end0
      exact ⟨rfl, HE.out, HKP.out⟩
end Go.Proofs.Ytcknganggcbkjab.Dist
