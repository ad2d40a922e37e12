/- forests of package dist: what all forests cost that begin where two trees do. Of the program's text. -/
import Derived.Test.YtpjlajjbioploabProg
import Derived.Test.YtpjlajjbioploabDForP
import Derived.Test.YtpjlajjbioploabDGrid
import Derived.Deep.RegionHeld3
namespace Go.Proofs.Ytpjlajjbioploab.Dist
open Go.Deep Go.RowKit
set_option linter.unusedVariables false
set_option maxRecDepth 20000

theorem ForIn.set {w : World} {T : Tab} {F : Fst} {h : Nat → Nat → Nat} (hf : ForIn w T F h) {m n : Nat} (hm : m < F.M) (v : Nat) : ForIn (w.setCell ⟨F.gc + 1 + m, n, none⟩ (.int .i64 (v : Int))) T F (upd h m n v) := by
  have h1 := hf.ltT
  have h2 := hf.ltG
  have ep : (w.setCell ⟨F.gc + 1 + m, n, none⟩ (.int .i64 (v : Int))).heap[F.p]? = w.heap[F.p]? := blk_setCell_other _ _ _ _ (by simp; omega)
  exact ⟨by rw [World.cell?_of_block (w := w) ep]; exact hf.c0, by rw [World.cell?_of_block (w := w) ep]; exact hf.c1, by rw [World.cell?_of_block (w := w) ep]; exact hf.c2, by rw [World.cell?_of_block (w := w) ep]; exact hf.c3, hf.grid.set hm v, h1, h2, hf.inA, hf.inB⟩
theorem ForIn.congr {w : World} {T : Tab} {F : Fst} {h h' : Nat → Nat → Nat} (hf : ForIn w T F h) (e : ∀ i j, i < F.M → j < F.N → h i j = h' i j) : ForIn w T F h' :=
  ⟨hf.c0, hf.c1, hf.c2, hf.c3, hf.grid.congr e, hf.ltT, hf.ltG, hf.inA, hf.inB⟩

/-- What the loops of forests keep. -/
structure FInv (w : World) (T : Tab) (i j m n : Nat) (wr : World) : Prop where
  fo : ForIn wr T (Fst.of T.A T.B i j w.heap.size) (filled (DV T.A T.B i j) m n)
  below : Below w.heap.size w wr
theorem FInv.put {w wr : World} {T : Tab} {i j m n k : Nat} (h : FInv w T i j m n wr) (hm : m < i - lefts T.A i + 2) : FInv w T i j m (n + 1) ((wr.drewN k).setCell ⟨w.heap.size + 1 + 1 + m, n, none⟩ (.int .i64 (DV T.A T.B i j m n : Int))) :=
  ⟨((h.fo.drewN k).set (m := m) (n := n) hm (DV T.A T.B i j m n)).congr fun a b _ _ => filled_put _ _ _ _ _, (below_drewN h.below k).setCell (by simp; omega) _⟩
theorem FInv.line {w wr : World} {T : Tab} {i j m : Nat} (h : FInv w T i j m (j - lefts T.B j + 2) wr) : FInv w T i j (m + 1) 0 wr :=
  ⟨h.fo.congr fun a b _ hb => filled_line _ _ _ _ _ hb, h.below⟩

set_option maxHeartbeats 2000000 in
theorem forests_any (T : Tab) (f : Nat → Nat → Nat) (i j : Nat) (w : World) (hT : TabIn w T f) (hi : i < T.A.length) (hj : j < T.B.length) (hN : Needs T.A T.B f i j) (hs : ∀ a b, a < T.A.length → b < T.B.length → f a b ≤ 1000) :
    Calls Try.prog 22 #[.pointer (some ⟨T.t, 0, none⟩), .int .i64 (i : Int), .int .i64 (j : Int)] w fun e w' => e = .returned (.pointer (some ⟨w.heap.size, 0, none⟩)) ∧ ForIn w' T (Fst.of T.A T.B i j w.heap.size) (DV T.A T.B i j) ∧ Below w.heap.size w w' := by
  have hA := hT.okA.many
  have hB := hT.okB.many
  have htl := hT.lt
  obtain ⟨a, ha, hla, hai, _⟩ := left_at hT.okA hi
  obtain ⟨b, hb, hlb, hbj, _⟩ := left_at hT.okB hj
  obtain ⟨_, _, a2⟩ := hT.na i a ha
  obtain ⟨_, _, b2⟩ := hT.nb j b hb
  rw [hla] at a2
  rw [hlb] at b2
  have c0 := hT.c0
  have c1 := hT.c1
  have HT := hide hT
  have HN := hide hN
  have HS := hide hs
  obtain ⟨x, hx⟩ : ∃ x, x = lefts T.A i := ⟨_, rfl⟩
  obtain ⟨y, hy⟩ : ∃ y, y = lefts T.B j := ⟨_, rfl⟩
  rw [← hx] at a2 hai
  rw [← hy] at b2 hbj
  have HX := hide hx
  have HY := hide hy
  obtain ⟨M, hM⟩ : ∃ M, M = i - x + 2 := ⟨_, rfl⟩
  obtain ⟨N, hNn⟩ : ∃ N, N = j - y + 2 := ⟨_, rfl⟩
  have eM : (M : Int) = (i : Int) - (x : Int) + 2 := by omega
  have eN : (N : Int) = (j : Int) - (y : Int) + 2 := by omega
  have hg := fun W' : World => grid_any M N W' (by omega) (by omega)
  have v1 : IntKind.i64.wrap ((i : Int) - (x : Int)) = ((i - x : Nat) : Int) := by rw [IntKind.wrap_i64]; omega
  have v2 : IntKind.i64.wrap (((i - x : Nat) : Int) + 2) = (M : Int) := by rw [IntKind.wrap_i64]; omega
  have v3 : IntKind.i64.wrap ((j : Int) - (y : Int)) = ((j - y : Nat) : Int) := by rw [IntKind.wrap_i64]; omega
  have v4 : IntKind.i64.wrap (((j - y : Nat) : Int) + 2) = (N : Int) := by rw [IntKind.wrap_i64]; omega
  have hM40 : M ≤ 41 := by omega
  have hN40 : N ≤ 41 := by omega
  have HG := hide hg
  have HM := hide hM
  have HNn := hide hNn
  clear hT hN hs hla hlb ha hb hg eM eN hM hNn hx hy
  obtain ⟨W, hW⟩ : ∃ W, W = (w.alloc (Obj.cells #[Value.pointer (some ⟨T.t, 0, none⟩), .int .i64 (x : Int), .int .i64 (y : Int), .slice none 0 0] 53)).drew := ⟨_, rfl⟩
  have hWB : Below w.heap.size w W := by rw [hW]; exact ((Below.refl _ _).alloc (Nat.le_refl _) _).drew
  have hWs : W.heap.size = w.heap.size + 1 := by rw [hW]; simp
  have hWb : W.heap[w.heap.size]? = some (Obj.cells #[Value.pointer (some ⟨T.t, 0, none⟩), .int .i64 (x : Int), .int .i64 (y : Int), .slice none 0 0] 53) := by rw [hW]; exact heap_alloc_new _ _
  have HWB := hide hWB
  have HWb := hide hWb
  clear hWB hWb
  go_enter Try.func22, Try.ntmps22
  go_wp2_with fail
  go_region
  rw [← hW]
  clear hW
  have p0 : W.cell? ⟨w.heap.size, 0, none⟩ = some (.pointer (some ⟨T.t, 0, none⟩)) := by rw [cell_of_row _ _ 0 _ _ _ HWb.out]; rfl
  have p1 : W.cell? ⟨w.heap.size, 1, none⟩ = some (.int .i64 (x : Int)) := by rw [cell_of_row _ _ 1 _ _ _ HWb.out]; rfl
  have p2 : W.cell? ⟨w.heap.size, 2, none⟩ = some (.int .i64 (y : Int)) := by rw [cell_of_row _ _ 2 _ _ _ HWb.out]; rfl
  have p3 : W.cell? ⟨w.heap.size, 3, none⟩ = some (.slice none 0 0) := by rw [cell_of_row _ _ 3 _ _ _ HWb.out]; rfl
  have p4 : W.frozen? ⟨w.heap.size, 3, none⟩ = false := by simp [World.frozen?, HWb.out]
  go_wp2_with fail
  go_region_held3 (fun w' => w'.cell? ⟨w.heap.size, 1, none⟩ = some (.int .i64 (x : Int)) ∧ w'.cell? ⟨w.heap.size, 2, none⟩ = some (.int .i64 (y : Int)))
    (refine ⟨?_, ?_⟩ <;> go_simp)
    ((go_at_call 17; refine (HG.out _).mono ?_; rintro e w1 ⟨rfl, hgr, hb1, hz1⟩; have HGR := hide hgr; have HB1 := hide hb1; have HZ1 := hide hz1
      have k0 : w1.cell? ⟨w.heap.size, 0, none⟩ = some (.pointer (some ⟨T.t, 0, none⟩)) := by (rw [hb1.cell (by simp <;> omega)]; go_simp)
      have k1 : w1.cell? ⟨w.heap.size, 1, none⟩ = some (.int .i64 (x : Int)) := by (rw [hb1.cell (by simp <;> omega)]; go_simp)
      have k2 : w1.cell? ⟨w.heap.size, 2, none⟩ = some (.int .i64 (y : Int)) := by (rw [hb1.cell (by simp <;> omega)]; go_simp)
      have k3 : w1.cell? ⟨w.heap.size, 3, none⟩ = some (.slice none 0 0) := by (rw [hb1.cell (by simp <;> omega)]; exact p3)
      have k4 : w1.frozen? ⟨w.heap.size, 3, none⟩ = false := by (rw [hb1.frozen (by simp <;> omega)]; exact p4)
      clear hgr hb1 hz1))
  go_wp2_with fail
  obtain ⟨W2, hW2⟩ : ∃ W2, W2 = w1.setCell ⟨w.heap.size, 3, none⟩ (.slice (some ⟨w.heap.size + 1, 0, none⟩) M M) := ⟨_, rfl⟩
  rw [← hW2]
  have hst : FInv w T i j 0 0 W2 := by
    have hz : W.drew.heap.size = w.heap.size + 1 := hWs
    have hgr := HGR.out
    have hb1 := HB1.out
    rw [hz] at hgr hb1
    have e1 : ForIn W2 T ⟨w.heap.size, x, y, w.heap.size + 1, M, N⟩ (filled (DV T.A T.B i j) 0 0) := by
      have hb : w.heap.size < w1.heap.size := by have := hgr.lt; omega
      refine ⟨by rw [hW2]; go_simp, by rw [hW2]; go_simp, by rw [hW2]; go_simp, by rw [hW2]; go_simp, ?_, htl, by simp, ?_, ?_⟩
      · rw [hW2]
        exact (hgr.setOther (Or.inl (by simp)) _).congr fun a b _ _ => (filled_zero _ a b).symm
      · have := HM.out
        simp only
        omega
      · have := HNn.out
        simp only
        omega
    have e2 : Fst.of T.A T.B i j w.heap.size = ⟨w.heap.size, x, y, w.heap.size + 1, M, N⟩ := by unfold Fst.of; rw [HM.out, HNn.out, HX.out, HY.out]
    refine ⟨by rw [e2]; exact e1, ?_⟩
    rw [hW2]
    exact (HWB.out.drew.trans (hb1.mono (by omega))).setCell (by simp) _
  have HST := hide hst
  clear hst hW2 HGR HB1 HZ1 HWB HWb HG k0 k1 k2 k3 k4 p0 p1 p2 p3 p4 hWs a2 b2 c0 c1 v1 v2 v3 v4
  go_loopg [52] M (fun gk v52 wr => ∃ m : Nat, gk = M - m ∧ m ≤ M ∧ v52 = .int .i64 (m : Nat) ∧ FInv w T i j m 0 wr)
  case atStart => exact ⟨0, rfl, Nat.zero_le _, rfl, HST.out⟩
  case round =>
    obtain ⟨m, hgk, hm, rfl, hI⟩ := hrel
    obtain ⟨wA, hwA⟩ : ∃ wA, wA = wr := ⟨_, rfl⟩
    subst hwA
    have p3 : wA.cell? ⟨w.heap.size, 3, none⟩ = some (.slice (some ⟨w.heap.size + 1, 0, none⟩) M M) := by rw [HM.out, HX.out]; exact hI.fo.c3
    by_cases hin : m < M
    · have q0 : wA.cell? ⟨w.heap.size + 1, m, none⟩ = some (.slice (some ⟨w.heap.size + 1 + 1 + m, 0, none⟩) N N) := by rw [HNn.out, HY.out]; exact hI.fo.grid.cell (by rw [HM.out, HX.out] at hin; exact hin)
      have HI := hide hI
      clear hI
      go_wp2_with fail
      go_loopg [63] N (fun gk v63 wr => ∃ n : Nat, gk = N - n ∧ n ≤ N ∧ v63 = .int .i64 (n : Nat) ∧ FInv w T i j m n wr)
      case atStart => exact ⟨0, rfl, Nat.zero_le _, rfl, HI.out⟩
      case round =>
        obtain ⟨n, hgk2, hn, rfl, hI2⟩ := hrel
        by_cases hin2 : n < N
        · have hm2 : m < i - lefts T.A i + 2 := by rw [HM.out, HX.out] at hin; exact hin
          have hn2 : n < j - lefts T.B j + 2 := by rw [HNn.out, HY.out] at hin2; exact hin2
          have hT2 := HT.out.below hI2.below
          have r3 : wr.cell? ⟨w.heap.size, 3, none⟩ = some (.slice (some ⟨w.heap.size + 1, 0, none⟩) M M) := by rw [HM.out, HX.out]; exact hI2.fo.c3
          have r0 : wr.cell? ⟨w.heap.size + 1, m, none⟩ = some (.slice (some ⟨w.heap.size + 1 + 1 + m, 0, none⟩) N N) := by rw [HNn.out, HY.out]; exact hI2.fo.grid.cell hm2
          have r1 : wr.cell? ⟨w.heap.size + 1 + 1 + m, n, none⟩ = some (.int .i64 (filled (DV T.A T.B i j) m n m n : Int)) := hI2.fo.grid.num hm2 hn2
          have r2 : wr.frozen? ⟨w.heap.size + 1 + 1 + m, n, none⟩ = false := hI2.fo.grid.frozen hm2 n
          have hl := least_any T (Fst.of T.A T.B i j w.heap.size) f (filled (DV T.A T.B i j) m n) m n wr.drew (hT2.drewN 1) (hI2.fo.drewN 1) (forOk T f HT.out.okA HT.out.okB hi hj HS.out) hm2 hn2
          rw [lst_is T f HT.out.okA HT.out.okB hi hj HN.out hm2 hn2] at hl
          have HL : Hid (Calls Try.prog 30 #[.pointer (some ⟨w.heap.size, 0, none⟩), .int .i64 (m : Int), .int .i64 (n : Int)] wr.drew fun e w' => e = .returned (.int .i64 (DV T.A T.B i j m n : Int)) ∧ ∃ k, w' = wr.drew.drewN k) := hide hl
          have HI2 := hide hI2
          clear hl hT2 hI2
          go_wp2_with fail
          go_region_held3 (fun w' => w'.cell? ⟨w.heap.size, 3, none⟩ = some (.slice (some ⟨w.heap.size + 1, 0, none⟩) M M) ∧ w'.cell? ⟨w.heap.size + 1, m, none⟩ = some (.slice (some ⟨w.heap.size + 1 + 1 + m, 0, none⟩) N N))
            (refine ⟨?_, ?_⟩ <;> go_simp)
            ((go_at_call 30; refine HL.out.mono ?_; rintro e w2 ⟨rfl, k, hw2⟩
              have k0 : w2.cell? ⟨w.heap.size, 3, none⟩ = some (.slice (some ⟨w.heap.size + 1, 0, none⟩) M M) := by (rw [hw2]; exact r3)
              have k1 : w2.cell? ⟨w.heap.size + 1, m, none⟩ = some (.slice (some ⟨w.heap.size + 1 + 1 + m, 0, none⟩) N N) := by (rw [hw2]; exact r0)
              have k2 : w2.cell? ⟨w.heap.size + 1 + 1 + m, n, none⟩ = some (.int .i64 (filled (DV T.A T.B i j) m n m n : Int)) := by (rw [hw2]; exact r1)
              have k3 : w2.frozen? ⟨w.heap.size + 1 + 1 + m, n, none⟩ = false := by (rw [hw2]; exact r2)
              have HW2 := hide hw2
              clear hw2))
          go_wp2_with fail
          go_roundg (N - (n + 1))
          case measure => omega
          case rel =>
            refine ⟨n + 1, rfl, by omega, by go_num, ?_⟩
            rw [HW2.out, show wr.drew.drewN k = wr.drewN (1 + k) from World.drewN_drewN wr 1 k]
            exact HI2.out.put (k := 1 + k) hm2
        · have hne : n = N := by omega
          subst hne
          have HI2 := hide hI2
          clear hI2
          go_wp2_with fail
          go_roundg (M - (m + 1))
          case measure => omega
          case rel =>
            refine ⟨m + 1, rfl, by omega, by go_num, ?_⟩
            have := HI2.out
            rw [HNn.out, HY.out] at this
            exact this.line
    · have hme : m = M := by omega
      subst hme
      have HI := hide hI
      clear hI
      go_wp2_with fail
      go_ret
      refine ⟨rfl, HI.out.fo.congr fun a b ha hb => ?_, HI.out.below⟩
      rw [HM.out, HX.out]
      exact filled_all _ _ _ _ ha
end Go.Proofs.Ytpjlajjbioploab.Dist
