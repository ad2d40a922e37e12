/- Trees that are the same but for where they lie, and trees that are not great. Of no program. -/
/- pleachinglaw.scriptBegun answers true. Of the program's text. -/
/- What the reference's Run comes to, and what its loop keeps. Of no program. -/
import Derived.Test.YtcknganggcbkjabGS34
import Derived.Test.YtcknganggcbkjabGS03
import Derived.Test.YtcknganggcbkjabGS14
import Derived.Test.YtcknganggcbkjabProg
import Derived.WalkSmall
import Derived.Test.YtcknganggcbkjabGS15
import Derived.Test.YtcknganggcbkjabGS27
namespace Go.Proofs.Ytcknganggcbkjab.Deed
open Go.Deep Go.RowKit
set_option linter.unusedVariables false
set_option maxRecDepth 20000

theorem sameF_refl : ∀ f : Fo, sameF f f = true
  | .nil => rfl
  | .node _ _ x k r => by simp [sameF, sameF_refl k, sameF_refl r]
theorem sameF_strip_left : ∀ (f g : Fo), sameF (strip f) g = sameF f g
  | .nil, .nil => rfl
  | .nil, .node _ _ _ _ _ => rfl
  | .node _ _ _ _ _, .nil => rfl
  | .node _ _ x k r, .node _ _ y l q => by simp [sameF, strip, sameF_strip_left k l, sameF_strip_left r q]
theorem sameT_of_strip {s : ByteArray} {f g : Fo} (e : strip f = strip g) : sameT s f s g = true := by
  unfold sameT
  rw [← sameF_strip_left f g, e, sameF_strip_left, sameF_refl]
  simp
theorem longF_strip : ∀ f : Fo, longF (strip f) = longF f
  | .nil => rfl
  | .node _ _ x k r => by simp [longF, strip, longF_strip k, longF_strip r]
theorem longF_small : ∀ {f : Fo}, longF f = false → SmallF f
  | .nil, _ => trivial
  | .node _ _ x k r, h => by
    simp only [longF, Bool.or_eq_false_iff, decide_eq_false_iff_not] at h
    exact ⟨by omega, longF_small h.1.2, longF_small h.2⟩
theorem great_long {s : ByteArray} {k : Fo} (h : greatT s k = false) : s.size ≤ 1000 ∧ longF k = false := by
  unfold greatT longT at h
  simp only [Bool.or_eq_false_iff, decide_eq_false_iff_not] at h
  exact ⟨by omega, h.2.2⟩
theorem small_of {k k' : Fo} (h : longF k = false) (e : strip k' = strip k) : SmallF k' := longF_small (by rw [← longF_strip, e, longF_strip]; exact h)

end Go.Proofs.Ytcknganggcbkjab.Deed
namespace Go.Proofs.Ytcknganggcbkjab.Scr
open Go.Deep Go.RowKit Deed
set_option linter.unusedVariables false
set_option maxRecDepth 20000

def sA : Fo := .node 0 0 (⟨#[98]⟩, none, 0) (.node 0 0 (⟨#[99]⟩, none, 0) .nil .nil) .nil
def sB : Fo := .node 0 0 (⟨#[99]⟩, none, 0) .nil (.node 0 0 (⟨#[100]⟩, none, 0) .nil .nil)
def fA (n : Nat) : Fo := .node (n + 1) 0 (⟨#[98]⟩, some ⟨n, 0, none⟩, 1) (.node n 0 (⟨#[99]⟩, none, 0) .nil .nil) .nil
def fB (n : Nat) : Fo := .node n 0 (⟨#[99]⟩, none, 0) .nil (.node n 2 (⟨#[100]⟩, none, 0) .nil .nil)
theorem fA_strip (n : Nat) : strip (fA n) = sA := rfl
theorem fB_strip (n : Nat) : strip (fB n) = sB := rfl
def sBest : List (Nat × Nat) := Dist.bestP (nds (⟨#[97]⟩, sA)) (nds (⟨#[97]⟩, sB))
theorem best_is : sBest = [(0, 0), (2, 2)] := by kernel_rfl
theorem ok_a : DiffOk ⟨#[97]⟩ sA ⟨#[97]⟩ sB := by
  refine ⟨by kernel_rfl, by kernel_rfl, fun i hi h => ?_, fun i hi h => ?_, by kernel_rfl, by kernel_rfl, of_decide_eq_true (by kernel_rfl)⟩
  · have h3 : i < 3 := hi
    match i, h3 with
    | 0, _ => exact absurd h (by rw [show stayA (Dist.bestP (nds (⟨#[97]⟩, sA)) (nds (⟨#[97]⟩, sB))) 0 = true by kernel_rfl]; simp)
    | 1, _ => exact ⟨by kernel_rfl, of_decide_eq_true (by kernel_rfl), by kernel_rfl⟩
    | 2, _ => exact absurd h (by rw [show stayA (Dist.bestP (nds (⟨#[97]⟩, sA)) (nds (⟨#[97]⟩, sB))) 2 = true by kernel_rfl]; simp)
  · have h3 : i < 3 := hi
    match i, h3 with
    | 0, _ => exact absurd h (by rw [show stayB (Dist.bestP (nds (⟨#[97]⟩, sA)) (nds (⟨#[97]⟩, sB))) 0 = true by kernel_rfl]; simp)
    | 1, _ => exact ⟨by kernel_rfl, of_decide_eq_true (by kernel_rfl), by kernel_rfl⟩
    | 2, _ => exact absurd h (by rw [show stayB (Dist.bestP (nds (⟨#[97]⟩, sA)) (nds (⟨#[97]⟩, sB))) 2 = true by kernel_rfl]; simp)
theorem nds_strip (s : ByteArray) (k : Fo) : nds (s, strip k) = nds (s, k) := ndT_strip _ _ _ _
theorem DiffOk.of_strip {s1 : ByteArray} {k1 : Fo} {s2 : ByteArray} {k2 : Fo} (h : DiffOk s1 (strip k1) s2 (strip k2)) : DiffOk s1 k1 s2 k2 := by
  obtain ⟨h1, h2, h3, h4, h5, h6, h7⟩ := h
  rw [faultT_strip] at h1 h2
  simp only [nds_strip, strip_strip, fnodes_strip] at h3 h4
  simp only [thinA, thinB, nds_strip, strip_strip, fnodes_strip] at h5 h6 h7
  exact ⟨h1, h2, h3, h4, h5, h6, h7⟩
theorem diffP_strip (s1 : ByteArray) (k1 : Fo) (s2 : ByteArray) (k2 : Fo) : diffP s1 (strip k1) s2 (strip k2) = diffP s1 k1 s2 k2 := by
  unfold diffP thinA thinB
  simp only [nds_strip, strip_strip, fnodes_strip]
def sL : List Dd := [⟨2, [0], 0, 0, ⟨#[]⟩⟩, ⟨3, [], 1, 0, ⟨#[100]⟩⟩]
def sR : List Dd := [⟨2, [1], 0, 0, ⟨#[]⟩⟩, ⟨3, [], 0, 1, ⟨#[98]⟩⟩]
theorem diff_is : diffP ⟨#[97]⟩ sA ⟨#[97]⟩ sB = sL := by kernel_rfl
theorem run_is : runP sL ⟨#[97]⟩ sA = ((0, 0), (⟨#[97]⟩, sB), sR) := by kernel_rfl
theorem back_is : (runP sR ⟨#[97]⟩ sB).1 = (0, 0) ∧ (runP sR ⟨#[97]⟩ sB).2.1 = (⟨#[97]⟩, sA) := ⟨by kernel_rfl, by kernel_rfl⟩
theorem boxes5 (w : World) (o0 o1 o2 o3 o4 : Obj) : (((((w.alloc o0).alloc o1).alloc o2).alloc o3).alloc o4).heap.size = w.heap.size + 1 + 1 + 1 + 1 + 1 ∧ Below w.heap.size w (((((w.alloc o0).alloc o1).alloc o2).alloc o3).alloc o4) ∧ (((((w.alloc o0).alloc o1).alloc o2).alloc o3).alloc o4).heap[w.heap.size]? = some o0 ∧ (((((w.alloc o0).alloc o1).alloc o2).alloc o3).alloc o4).heap[w.heap.size + 1]? = some o1 ∧ (((((w.alloc o0).alloc o1).alloc o2).alloc o3).alloc o4).heap[w.heap.size + 1 + 1]? = some o2 ∧ (((((w.alloc o0).alloc o1).alloc o2).alloc o3).alloc o4).heap[w.heap.size + 1 + 1 + 1]? = some o3 ∧ (((((w.alloc o0).alloc o1).alloc o2).alloc o3).alloc o4).heap[w.heap.size + 1 + 1 + 1 + 1]? = some o4 := by
  obtain ⟨a1, a2, a3, a4, a5, a6⟩ := boxes4 w o0 o1 o2 o3
  refine ⟨by simp, a2.alloc (by rw [a1]; omega) _, ?_, ?_, ?_, ?_, ?_⟩
  · rw [Below.heap_alloc _ _ _ (by rw [a1]; omega)]; exact a3
  · rw [Below.heap_alloc _ _ _ (by rw [a1]; omega)]; exact a4
  · rw [Below.heap_alloc _ _ _ (by rw [a1]; omega)]; exact a5
  · rw [Below.heap_alloc _ _ _ (by rw [a1]; omega)]; exact a6
  · rw [← a1]; exact heap_alloc_new _ _

set_option maxHeartbeats 4000000 in
theorem begun_any (w : World) : Calls Try.prog 35 #[] w fun e w' => e = .returned (.bool true) ∧ Below w.heap.size w w' := by
  obtain ⟨W, hW⟩ : ∃ W, W = ((((w.alloc (Obj.cells #[Value.string ⟨#[99]⟩, Value.slice none 0 0] 24)).alloc (Obj.cells #[Value.string ⟨#[98]⟩, Value.slice (some ⟨w.heap.size, 0, none⟩) 1 1] 24)).alloc (Obj.cells #[Value.string ⟨#[97]⟩, Value.slice (some ⟨w.heap.size + 1, 0, none⟩) 1 1] 24)).alloc (Obj.cells #[Value.string ⟨#[99]⟩, Value.slice none 0 0, Value.string ⟨#[100]⟩, Value.slice none 0 0] 24)).alloc (Obj.cells #[Value.string ⟨#[97]⟩, Value.slice (some ⟨w.heap.size + 1 + 1 + 1, 0, none⟩) 2 2] 24) := ⟨_, rfl⟩
  obtain ⟨sW, hB, h0, h1, h2, h3, h4⟩ := boxes5 w (Obj.cells #[Value.string ⟨#[99]⟩, Value.slice none 0 0] 24) (Obj.cells #[Value.string ⟨#[98]⟩, Value.slice (some ⟨w.heap.size, 0, none⟩) 1 1] 24) (Obj.cells #[Value.string ⟨#[97]⟩, Value.slice (some ⟨w.heap.size + 1, 0, none⟩) 1 1] 24) (Obj.cells #[Value.string ⟨#[99]⟩, Value.slice none 0 0, Value.string ⟨#[100]⟩, Value.slice none 0 0] 24) (Obj.cells #[Value.string ⟨#[97]⟩, Value.slice (some ⟨w.heap.size + 1 + 1 + 1, 0, none⟩) 2 2] 24)
  rw [← hW] at sW hB h0 h1 h2 h3 h4
  have hsz : ∀ c : UInt8, (⟨#[c]⟩ : ByteArray).size ≤ maxLen := fun c => by show 1 ≤ maxLen; unfold maxLen; omega
  have m0 : 0 ≤ maxLen := Nat.zero_le _
  have m1 : 1 ≤ maxLen := by unfold maxLen; omega
  have m2 : 2 ≤ maxLen := by unfold maxLen; omega
  have hTA : TIn W ⟨#[97]⟩ (some ⟨w.heap.size + 1, 0, none⟩) 1 (fA w.heap.size) := by
    refine ⟨hsz _, Nat.le_refl 1, m1, Or.inr ⟨w.heap.size + 1, 0, rfl, ?_⟩⟩
    refine ⟨rfl, rfl, by rw [cell_of_row _ _ 0 _ _ _ h1]; rfl, by rw [cell_of_row _ _ 1 _ _ _ h1]; rfl, hsz _, Nat.le_refl 1, m1, Or.inr ⟨w.heap.size, 0, rfl, ?_⟩, trivial⟩
    exact ⟨rfl, rfl, by rw [cell_of_row _ _ 0 _ _ _ h0]; rfl, by rw [cell_of_row _ _ 1 _ _ _ h0]; rfl, hsz _, Nat.le_refl 0, m0, Or.inl rfl, trivial⟩
  have hPA : FPlain W (fA w.heap.size) := ⟨⟨_, _, h1⟩, ⟨⟨_, _, h0⟩, trivial, trivial⟩, trivial⟩
  have hTB : TIn W ⟨#[97]⟩ (some ⟨w.heap.size + 1 + 1 + 1, 0, none⟩) 2 (fB (w.heap.size + 1 + 1 + 1)) := by
    refine ⟨hsz _, Nat.le_refl 2, m2, Or.inr ⟨w.heap.size + 1 + 1 + 1, 0, rfl, ?_⟩⟩
    refine ⟨rfl, rfl, by rw [cell_of_row _ _ 0 _ _ _ h3]; rfl, by rw [cell_of_row _ _ 1 _ _ _ h3]; rfl, hsz _, Nat.le_refl 0, m0, Or.inl rfl, ?_⟩
    exact ⟨rfl, rfl, by rw [cell_of_row _ _ 2 _ _ _ h3]; rfl, by rw [cell_of_row _ _ 3 _ _ _ h3]; rfl, hsz _, Nat.le_refl 0, m0, Or.inl rfl, trivial⟩
  have hPB : FPlain W (fB (w.heap.size + 1 + 1 + 1)) := ⟨⟨_, _, h3⟩, trivial, ⟨⟨_, _, h3⟩, trivial, trivial⟩⟩
  have hdf := diff_ok ⟨#[97]⟩ (some ⟨w.heap.size + 1, 0, none⟩) 1 (fA w.heap.size) ⟨#[97]⟩ (some ⟨w.heap.size + 1 + 1 + 1, 0, none⟩) 2 (fB (w.heap.size + 1 + 1 + 1)) W hTA hPA hTB hPB (DiffOk.of_strip (by rw [fA_strip, fB_strip]; exact ok_a))
  rw [← diffP_strip, fA_strip, fB_strip, diff_is] at hdf
  have hlA : flen (fA w.heap.size) = 1 := rfl
  have hlB : flen (fB (w.heap.size + 1 + 1 + 1)) = 2 := rfl
  rw [hlA, hlB] at hdf
  have HDF := hide hdf
  have HTA := hide (And.intro hTA (And.intro hPA (And.intro hTB hPB)))
  have HC := hide (And.intro sW (And.intro hB (And.intro h2 h4)))
  clear hdf hTA hPA hTB hPB h0 h1 h2 h3 h4 sW hB hsz m0 m1 m2 hlA hlB
  go_enter Try.func35, Try.ntmps35
  go_wp2_with fail
  rw [← hW]
  clear hW
  refine Calls.mono HDF.out ?_
  rintro e w1 ⟨la, lc, L, rfl, hL, hds, hl1, hl2, hb1⟩
  have hL2 : L.length = 2 := by
    have := congrArg List.length hL
    rw [dds_len] at this
    exact this
  have hzW := HC.out.1
  have z1 := hb1.size
  have e2 : w1.heap[w.heap.size + 1 + 1]? = _ := (hb1.block _ (by omega)).trans HC.out.2.2.1
  have p0 : w1.cell? ⟨w.heap.size + 1 + 1, 0, none⟩ = some (.string ⟨#[97]⟩) := by rw [cell_of_row _ _ 0 _ _ _ e2]; rfl
  have p1 : w1.cell? ⟨w.heap.size + 1 + 1, 1, none⟩ = some (.slice (some ⟨w.heap.size + 1, 0, none⟩) 1 1) := by rw [cell_of_row _ _ 1 _ _ _ e2]; rfl
  have hsmall : ∀ x, x ∈ L → x.1.path.length ≤ 60 ∧ x.1.lab.size ≤ 100 := fun x hx => by
    have h1 : x.1 ∈ dds L := List.mem_map.2 ⟨x, hx, rfl⟩
    rw [hL] at h1
    simp only [sL, List.mem_cons, List.not_mem_nil, or_false] at h1
    rcases h1 with h1 | h1 <;> rw [h1] <;> decide
  have hrun := prun_any L la lc ⟨#[97]⟩ (some ⟨w.heap.size + 1, 0, none⟩) 1 (fA w.heap.size) w1 (HTA.out.1.below hb1) (HTA.out.2.1.below hb1) (by show 1 + 2 ≤ 200; omega) hl1 hl2 hds hsmall
  rw [hL, runP_congr sL ⟨#[97]⟩ (show strip (fA w.heap.size) = strip sA from rfl), run_is, hL2, show flen (fA w.heap.size) = 1 from rfl] at hrun
  have HRN := hide hrun
  have HB1 := hide hb1
  rw [hL2]
  rw [hL2] at hl1
  unfold maxLen at hl2
  clear hrun hL hL2 hds hb1 e2 hsmall HDF
  go_wp2_with fail
  refine Calls.mono HRN.out ?_
  rintro e w2 ⟨sx, kax, capx, kx, va, vc, A, rfl, rfl, hstx, hA, htx, _, hpx, hdsA, hv1, hv2, hb2, _⟩
  simp only at hstx htx ⊢
  have hfx : flen kx = 2 := flen_of_strip (g := sB) hstx
  have hA2 : A.length = 2 := by
    have := congrArg List.length hA
    rw [dds_len] at this
    exact this
  obtain ⟨V3, hV3⟩ : ∃ V3, V3 = (w2.alloc (Obj.cells #[Value.string ⟨#[97]⟩, Value.slice kax 2 capx] 24)).alloc (Obj.cells #[.int .i64 0, .int .i64 0] 57) := ⟨_, rfl⟩
  obtain ⟨sV3, b3, n3, n3f⟩ := boxes2 w2 (Obj.cells #[Value.string ⟨#[97]⟩, Value.slice kax 2 capx] 24) (Obj.cells #[.int .i64 0, .int .i64 0] 57)
  rw [← hV3] at sV3 b3 n3 n3f
  have hsmall : ∀ x, x ∈ A → x.1.path.length ≤ 60 ∧ x.1.lab.size ≤ 100 := fun x hx => by
    have h1 : x.1 ∈ dds A := List.mem_map.2 ⟨x, hx, rfl⟩
    rw [hA] at h1
    simp only [sR, List.mem_cons, List.not_mem_nil, or_false] at h1
    rcases h1 with h1 | h1 <;> rw [h1] <;> decide
  have hrun := prun_any A va vc ⟨#[97]⟩ kax capx kx V3 (htx.below b3) (hpx.below b3) (by rw [← fnodes_strip, hstx]; show 1 + 2 ≤ 200; omega) hv1 hv2 (hdsA.below b3) hsmall
  rw [hA, runP_congr _ ⟨#[97]⟩ (show strip kx = strip sB from hstx.trans rfl), hA2, hfx] at hrun
  have HRN2 := hide hrun
  have z2 := hb2.size
  have z3 := b3.size
  have BW3 : Below W.heap.size W V3 := HB1.out.trans ((hb2.trans (b3.mono z2)).mono z1)
  have HX := hide (And.intro (htx.below b3) (And.intro hstx (And.intro n3 (And.intro n3f BW3))))
  have hcx := htx.cap
  have hcl := htx.len
  rw [hfx] at hcl
  unfold maxLen at hv2 hcx
  rw [hA2] at hv1
  rw [hfx, hA2]
  clear hrun hA htx hpx hdsA hsmall hstx n3 n3f BW3 b3 hb2 hfx hA2 HRN HB1 p0 p1
  go_wp2_with fail
  rw [← hV3]
  clear hV3
  refine Calls.mono HRN2.out ?_
  rintro e w4 ⟨sy, kay, capy, ky, ua, uc, K, rfl, hsy, hsty, _, hty, _, _, _, hu1, hu2, hb4, _⟩
  rw [back_is.2] at hsy hsty
  simp only at hsy hsty
  subst hsy
  rw [back_is.1]
  simp only
  have hfy : flen ky = 1 := flen_of_strip (g := sA) hsty
  obtain ⟨V5, hV5⟩ : ∃ V5, V5 = (w4.alloc (Obj.cells #[Value.string ⟨#[97]⟩, Value.slice kay 1 capy] 24)).alloc (Obj.cells #[.int .i64 0, .int .i64 0] 57) := ⟨_, rfl⟩
  obtain ⟨sV5, b5, n5, n5f⟩ := boxes2 w4 (Obj.cells #[Value.string ⟨#[97]⟩, Value.slice kay 1 capy] 24) (Obj.cells #[.int .i64 0, .int .i64 0] 57)
  rw [← hV5] at sV5 b5 n5 n5f
  have z4 := hb4.size
  have z5 := b5.size
  have B5 : Below V3.heap.size V3 V5 := hb4.trans (b5.mono z4)
  have hz3 := HX.out.2.2.2.2.size
  have BW5 : Below W.heap.size W V5 := HX.out.2.2.2.2.trans (B5.mono hz3)
  have e3 : V5.heap[w2.heap.size]? = _ := (B5.block _ (by omega)).trans HX.out.2.2.1
  have e3f : V5.heap[w2.heap.size + 1]? = _ := (B5.block _ (by omega)).trans HX.out.2.2.2.1
  have eA : V5.heap[w.heap.size + 1 + 1]? = _ := (BW5.block _ (by omega)).trans HC.out.2.2.1
  have eB : V5.heap[w.heap.size + 1 + 1 + 1 + 1]? = _ := (BW5.block _ (by omega)).trans HC.out.2.2.2
  have x0 : V5.cell? ⟨w2.heap.size, 0, none⟩ = some (.string ⟨#[97]⟩) := by rw [cell_of_row _ _ 0 _ _ _ e3]; rfl
  have x1 : V5.cell? ⟨w2.heap.size, 1, none⟩ = some (.slice kax 2 capx) := by rw [cell_of_row _ _ 1 _ _ _ e3]; rfl
  have x2 : V5.cell? ⟨w2.heap.size + 1, 0, none⟩ = some (.int .i64 0) := by rw [cell_of_row _ _ 0 _ _ _ e3f]; rfl
  have y0 : V5.cell? ⟨w4.heap.size, 0, none⟩ = some (.string ⟨#[97]⟩) := by rw [cell_of_row _ _ 0 _ _ _ n5]; rfl
  have y1 : V5.cell? ⟨w4.heap.size, 1, none⟩ = some (.slice kay 1 capy) := by rw [cell_of_row _ _ 1 _ _ _ n5]; rfl
  have y2 : V5.cell? ⟨w4.heap.size + 1, 0, none⟩ = some (.int .i64 0) := by rw [cell_of_row _ _ 0 _ _ _ n5f]; rfl
  have a0 : V5.cell? ⟨w.heap.size + 1 + 1, 0, none⟩ = some (.string ⟨#[97]⟩) := by rw [cell_of_row _ _ 0 _ _ _ eA]; rfl
  have a1 : V5.cell? ⟨w.heap.size + 1 + 1, 1, none⟩ = some (.slice (some ⟨w.heap.size + 1, 0, none⟩) 1 1) := by rw [cell_of_row _ _ 1 _ _ _ eA]; rfl
  have b0 : V5.cell? ⟨w.heap.size + 1 + 1 + 1 + 1, 0, none⟩ = some (.string ⟨#[97]⟩) := by rw [cell_of_row _ _ 0 _ _ _ eB]; rfl
  have b1 : V5.cell? ⟨w.heap.size + 1 + 1 + 1 + 1, 1, none⟩ = some (.slice (some ⟨w.heap.size + 1 + 1 + 1, 0, none⟩) 2 2) := by rw [cell_of_row _ _ 1 _ _ _ eB]; rfl
  have hfx : flen (fB (w.heap.size + 1 + 1 + 1)) = 2 := rfl
  have s1 := sameTree_any ⟨#[97]⟩ kax capx _ ⟨#[97]⟩ (some ⟨w.heap.size + 1 + 1 + 1, 0, none⟩) 2 (fB (w.heap.size + 1 + 1 + 1)) V5 (HX.out.1.below B5) (HTA.out.2.2.1.below BW5)
  rw [sameT_of_strip (HX.out.2.1.trans (fB_strip _).symm), flen_of_strip (g := sB) HX.out.2.1] at s1
  have s2 := fun (U : World) (hU : Below V5.heap.size V5 U) => sameTree_any ⟨#[97]⟩ kay capy ky ⟨#[97]⟩ (some ⟨w.heap.size + 1, 0, none⟩) 1 (fA w.heap.size) U ((hty.below b5).below hU) ((HTA.out.1.below BW5).below hU)
  rw [sameT_of_strip (hsty.trans (fA_strip _).symm), hfy] at s2
  have HS1 := hide s1
  have HS2 := hide s2
  have HBW := hide (HC.out.2.1.trans (BW5.mono (by omega)))
  have hcy := hty.cap
  have hly := hty.len
  rw [hfy] at hly
  unfold maxLen at hcy hu2
  rw [hfy]
  have hkl : K.length ≤ 9223372036854775807 := by omega
  clear hsty hty hb4 b5 n5 n5f B5 BW5 e3 e3f eA eB s1 s2 HX HTA HC HRN2 hfy hfx
  rw [hV5] at x0 x1 x2 y0 y1 y2 a0 a1 b0 b1
  go_wp2_with fail
  rw [← hV5]
  rw [← hV5] at y0 y1 a0 a1
  clear hV5 x0 x1 x2 y2 b0 b1
  refine Calls.mono HS1.out ?_
  rintro e w6 ⟨rfl, hb6⟩
  have g : ∀ (p : Addr) v, V5.cell? p = some v → w6.cell? p = some v := fun p v h => by rw [hb6.cell (World.block_lt_of_cell? _ _ h)]; exact h
  have y0' := g _ _ y0
  have y1' := g _ _ y1
  have a0' := g _ _ a0
  have a1' := g _ _ a1
  have HB6 := hide hb6
  clear g y0 y1 a0 a1 hb6
  go_wp2_with fail
  refine Calls.mono (HS2.out w6 HB6.out) ?_
  rintro e w7 ⟨rfl, hb7⟩
  have HB7 := hide hb7
  clear hb7
  go_wp2_with fail
  go_ret
  exact ⟨rfl, HBW.out.trans ((HB6.out.trans (HB7.out.mono HB6.out.size)).mono HBW.out.size)⟩
end Go.Proofs.Ytcknganggcbkjab.Scr
namespace Go.Proofs.Ytcknganggcbkjab.Deed
open Go.Deep Go.RowKit
set_option linter.unusedVariables false
set_option maxRecDepth 20000

def RRunEnd (r : (Int × Int) × (ByteArray × Fo) × List Dd) (w : World) (e : Ending) (w' : World) : Prop := ∃ s' ka' cap' k' va vc A, e = .returned (.tuple #[.agg #[.string s', .slice ka' (flen k') cap'], .slice va (List.length (α := Pd) A) vc, .agg #[.int .i64 r.1.1, .int .i64 r.1.2]]) ∧ s' = r.2.1.1 ∧ strip k' = r.2.1.2 ∧ dds A = r.2.2 ∧ TIn w' s' ka' cap' k' ∧ DsIn w' va A ∧ A.length ≤ vc ∧ vc ≤ maxLen ∧ Below w.heap.size w w'
theorem RRunEnd.bad {c q : Int} {w w' : World} (h : Below w.heap.size w w') : RRunEnd ((c, q), noT, []) w (.returned (.tuple #[.agg #[.string ⟨#[]⟩, .slice none 0 0], .slice none 0 0, .agg #[.int .i64 c, .int .i64 q]])) w' :=
  ⟨⟨#[]⟩, none, 0, .nil, none, 0, [], rfl, rfl, rfl, rfl, ⟨by decide, Nat.le_refl _, by decide, Or.inl rfl⟩, ⟨Or.inl rfl, PdsIn.nil _⟩, Nat.le_refl _, by decide, h⟩

/-- No number lies in a tree's box. -/
theorem tbox_cell {w : World} {c : Nat} {a : ByteArray} {p : Option Addr} {q r : Nat} {T : TypeId} (h : w.heap[c]? = some (.cells #[.string a, .slice p q r] T)) {b o : Nat} {n : Int} (hc : w.cell? ⟨b, o, none⟩ = some (.int .i64 n)) : b ≠ c := fun e => by
  subst e
  rw [cell_of_row _ _ o _ _ _ h] at hc
  match o with
  | 0 => simp at hc
  | 1 => simp at hc
  | o + 2 => simp at hc
theorem DIn.tbox {w : World} {c : Nat} {a : ByteArray} {p : Option Addr} {q r : Nat} {T : TypeId} (h : w.heap[c]? = some (.cells #[.string a, .slice p q r] T)) {u v : Value} {d : Dd} {pa : Option Addr} {pc : Nat} (hd : DIn w d pa pc) : DIn ((w.setCell ⟨c, 0, none⟩ u).setCell ⟨c, 1, none⟩ v) d pa pc := by
  refine hd.block fun hp ad ha => box2_off ?_
  rcases hd.path with h0 | ⟨b, o, e, hc⟩
  · exact absurd h0 hp
  · rw [e] at ha
    injection ha with ha
    subst ha
    obtain ⟨n, ps, hps⟩ := List.exists_cons_of_ne_nil hp
    exact tbox_cell h (hc 0 n (by rw [hps]; rfl))
theorem DsIn.tbox {w : World} {c : Nat} {a : ByteArray} {p : Option Addr} {q r : Nat} {T : TypeId} (h : w.heap[c]? = some (.cells #[.string a, .slice p q r] T)) {u v : Value} {va : Option Addr} {A : List Pd} (hd : DsIn w va A) : DsIn ((w.setCell ⟨c, 0, none⟩ u).setCell ⟨c, 1, none⟩ v) va A := by
  refine ⟨?_, fun x hx => (hd.each x hx).tbox h⟩
  rcases hd.lie with h0 | ⟨b, o, e, hc⟩
  · exact Or.inl h0
  · by_cases hA : A = []
    · exact Or.inl hA
    · obtain ⟨x, A', rfl⟩ := List.exists_cons_of_ne_nil hA
      have hb : b ≠ c := tbox_cell h (hc 0 (.int .i64 x.1.kind) rfl)
      refine Or.inr ⟨b, o, e, fun j u' hu => ?_⟩
      have := hc j u' hu
      rw [World.cell?_of_block (box2_off hb)]
      exact this
theorem box5_set {w : World} {c : Nat} {a0 a1 a2 a3 a4 u0 u1 u2 u3 u4 : Value} {T : TypeId} (h : w.heap[c]? = some (.cells #[a0, a1, a2, a3, a4] T)) : (((((w.setCell ⟨c, 0, none⟩ u0).setCell ⟨c, 1, none⟩ u1).setCell ⟨c, 2, none⟩ u2).setCell ⟨c, 3, none⟩ u3).setCell ⟨c, 4, none⟩ u4).heap[c]? = some (.cells #[u0, u1, u2, u3, u4] T) := by
  simp [World.setCell, Array.getElem?_modify, h]
theorem box5_off {w : World} {c q : Nat} {u0 u1 u2 u3 u4 : Value} (h : q ≠ c) : (((((w.setCell ⟨c, 0, none⟩ u0).setCell ⟨c, 1, none⟩ u1).setCell ⟨c, 2, none⟩ u2).setCell ⟨c, 3, none⟩ u3).setCell ⟨c, 4, none⟩ u4).heap[q]? = w.heap[q]? := by
  rw [Below.heap_setCell _ _ _ _ h, Below.heap_setCell _ _ _ _ h, Below.heap_setCell _ _ _ _ h, Below.heap_setCell _ _ _ _ h, Below.heap_setCell _ _ _ _ h]

/-- Behind a call of Do and two new boxes, in whatever order. -/
structure ZIn (wA Z : World) (bx cy : Nat) (R : Int × (ByteArray × Fo) × Dd) (x : ByteArray) (ka : Option Addr) (cap : Nat) (k : Fo) (pa : Option Addr) (pc : Nat) : Prop where
  below : Below wA.heap.size wA Z
  lx : wA.heap.size ≤ bx
  ly : wA.heap.size ≤ cy
  ne : bx ≠ cy
  hx : Z.heap[bx]? = some (Obj.cells #[.string ⟨#[]⟩, .slice none 0 0] 24)
  hy : Z.heap[cy]? = some (Obj.cells #[.int .i64 0, .slice none 0 0, .int .i64 0, .int .i64 0, .string ⟨#[]⟩] 44)
  es : x = R.2.1.1
  ek : strip k = R.2.1.2
  tin : TIn Z x ka cap k
  frm : FFrom wA.heap.size k
  din : DIn Z R.2.2 pa pc
  ox : FOff bx k
  oy : FOff cy k
  px : R.2.2.path ≠ [] → ∀ a, pa = some a → a.block ≠ bx ∧ a.block ≠ cy
theorem zin_mk {wA Wc w5 Z : World} {bx cy : Nat} {R : Int × (ByteArray × Fo) × Dd} {x : ByteArray} {ka : Option Addr} {cap : Nat} {k : Fo} {pa pa' : Option Addr} {pc pc' : Nat} {d : Dd} (hd : DIn wA d pa pc) (bc : Below wA.heap.size wA Wc) (b5 : Below Wc.heap.size Wc w5) (bZ : Below w5.heap.size w5 Z)
    (es : x = R.2.1.1) (ek : strip k = R.2.1.2) (ht : TIn w5 x ka cap k) (hf : FFrom Wc.heap.size k) (hdi : DIn w5 R.2.2 pa' pc') (hq : R.2.2.path ≠ [] → ∀ a, pa' = some a → RQ Wc d pa a) (lx : wA.heap.size ≤ bx) (ly : wA.heap.size ≤ cy) (ne : bx ≠ cy)
    (hx : Z.heap[bx]? = some (Obj.cells #[.string ⟨#[]⟩, .slice none 0 0] 24)) (hy : Z.heap[cy]? = some (Obj.cells #[.int .i64 0, .slice none 0 0, .int .i64 0, .int .i64 0, .string ⟨#[]⟩] 44)) (kx : bx < Wc.heap.size ∨ w5.heap.size ≤ bx) (ky : cy < Wc.heap.size ∨ w5.heap.size ≤ cy) : ZIn wA Z bx cy R x ka cap k pa' pc' := by
  have zc := bc.size
  have z5 := b5.size
  have off : ∀ q, (q < Wc.heap.size ∨ w5.heap.size ≤ q) → FOff q k := fun q hq => by
    rcases hq with h | h
    · exact hf.off h
    · rcases ht.kids with h1 | ⟨kb, ko, e1, hfi⟩
      · rw [h1]; trivial
      · exact FIn.off h hfi
  have far : ∀ q, wA.heap.size ≤ q → (q < Wc.heap.size ∨ w5.heap.size ≤ q) → R.2.2.path ≠ [] → ∀ a, pa' = some a → a.block ≠ q := fun q hl hq' hp a ha => by
    have h1 := hdi.lt hp a ha
    rcases hq hp a ha with h2 | ⟨h2, a0, h3, h4⟩
    · rcases hq' with h | h <;> omega
    · have := hd.lt h2 a0 h3
      omega
  exact ⟨bc.trans ((b5.trans (bZ.mono z5)).mono zc), lx, ly, ne, hx, hy, es, ek, ht.below bZ, hf.mono zc, hdi.below bZ, off bx kx, off cy ky, fun hp a ha => ⟨far bx lx kx hp a ha, far cy ly ky hp a ha⟩⟩
/-- And what was told is laid into them. -/
structure YIn (wA Z : World) (bx cy : Nat) (R : Int × (ByteArray × Fo) × Dd) (x : ByteArray) (ka : Option Addr) (cap : Nat) (k : Fo) (pa : Option Addr) (pc : Nat) : Prop where
  below : Below wA.heap.size wA Z
  lx : wA.heap.size ≤ bx
  ly : wA.heap.size ≤ cy
  hx : Z.heap[bx]? = some (Obj.cells #[.string x, .slice ka (flen k) cap] 24)
  hy : Z.heap[cy]? = some (Obj.cells #[.int .i64 R.2.2.kind, .slice pa R.2.2.path.length pc, .int .i64 R.2.2.pos, .int .i64 R.2.2.many, .string R.2.2.lab] 44)
  es : x = R.2.1.1
  ek : strip k = R.2.1.2
  tin : TIn Z x ka cap k
  frm : FFrom wA.heap.size k
  din : DIn Z R.2.2 pa pc
theorem ZIn.stored {wA Z : World} {bx cy : Nat} {R : Int × (ByteArray × Fo) × Dd} {x : ByteArray} {ka : Option Addr} {cap : Nat} {k : Fo} {pa : Option Addr} {pc : Nat} (h : ZIn wA Z bx cy R x ka cap k pa pc) :
    YIn wA ((((((((Z.setCell ⟨bx, 0, none⟩ (.string x)).setCell ⟨bx, 1, none⟩ (.slice ka (flen k) cap))).setCell ⟨cy, 0, none⟩ (.int .i64 R.2.2.kind)).setCell ⟨cy, 1, none⟩ (.slice pa R.2.2.path.length pc)).setCell ⟨cy, 2, none⟩ (.int .i64 R.2.2.pos)).setCell ⟨cy, 3, none⟩ (.int .i64 R.2.2.many)).setCell ⟨cy, 4, none⟩ (.string R.2.2.lab)) bx cy R x ka cap k pa pc := by
  refine ⟨((((((h.below.setCell h.lx _).setCell h.lx _).setCell h.ly _).setCell h.ly _).setCell h.ly _).setCell h.ly _).setCell h.ly _, h.lx, h.ly, ?_, ?_, h.es, h.ek, TIn.set (TIn.set (TIn.set (TIn.set (TIn.set (TIn.set (TIn.set h.tin h.ox) h.ox) h.oy) h.oy) h.oy) h.oy) h.oy, h.frm, ?_⟩
  · rw [box5_off h.ne]
    exact box2_set h.hx
  · exact box5_set (by rw [box2_off (Ne.symm h.ne)]; exact h.hy)
  · refine h.din.block fun hp a ha => ?_
    obtain ⟨p1, p2⟩ := h.px hp a ha
    rw [box5_off p2, box2_off p1]

/-- What the loop keeps. -/
structure QInv (w : World) (L : List Pd) (s : ByteArray) (k : Fo) (i : Nat) (wr : World) (x : ByteArray) (ka : Option Addr) (cap : Nat) (kk : Fo) (A : List Pd) (va : Option Addr) (vc : Nat) : Prop where
  fw : fwd ((dds L).take i) (s, strip k) = some ((x, strip kk), dds A)
  len : A.length = i
  tin : TIn wr x ka cap kk
  o0 : FOff w.heap.size kk
  o1 : FOff (w.heap.size + 1) kk
  o2 : FOff (w.heap.size + 1 + 1) kk
  ds : DsIn wr va A
  cap1 : i ≤ vc
  cap2 : vc ≤ maxLen
  box : wr.heap[w.heap.size]? = some (Obj.cells #[.string x, .slice ka (flen kk) cap] 24)
  b1 : wr.heap[w.heap.size + 1]? = some (Obj.cells #[.string ⟨#[]⟩, .slice none 0 0] 24)
  b2 : wr.heap[w.heap.size + 1 + 1]? = some (Obj.cells #[.int .i64 0, .int .i64 0] 57)
  below : Below w.heap.size w wr
  size : w.heap.size + 3 ≤ wr.heap.size
/-- A deed is put in front: what append comes to. -/
theorem front {w : World} {va : Option Addr} {vc n : Nat} {A : List Pd} (h : DsIn w va A) (hn : n = A.length) (x : Pd) (hx : DIn w x.1 x.2.1 x.2.2) (hl : A.length ≤ 1000) :
    ∃ va' vc' w', (Builtin.append_ #[54, 54] 54 #[.slice (some ⟨w.heap.size, 0, none⟩) 1 1, .slice va n vc]).run Try.prog (w.alloc (Obj.cells #[.int .i64 x.1.kind, .slice x.2.1 x.1.path.length x.2.2, .int .i64 x.1.pos, .int .i64 x.1.many, .string x.1.lab] 44)) = .ok (.slice va' (n + 1) vc') w' ∧ DsIn w' va' (x :: A) ∧ n + 1 ≤ vc' ∧ vc' ≤ maxLen ∧ Below w.heap.size w w' := by
  subst hn
  obtain ⟨i0, hi0, hz0, hz1, hz2⟩ := info_parts Try.infoDeed
  obtain ⟨W, hW⟩ : ∃ W, W = w.alloc (Obj.cells #[.int .i64 x.1.kind, .slice x.2.1 x.1.path.length x.2.2, .int .i64 x.1.pos, .int .i64 x.1.many, .string x.1.lab] 44) := ⟨_, rfl⟩
  have bW : Below w.heap.size w W := by rw [hW]; exact (Below.refl _ _).alloc (Nat.le_refl _) _
  have sW : W.heap.size = w.heap.size + 1 := by rw [hW]; simp
  have hnew : W.ownsRow w.heap.size 44 5 (.slice (some ⟨w.heap.size, 0, none⟩) 1 1) 1 (pdCell x) := by
    rw [hW]
    exact ⟨rfl, Or.inr ⟨w.heap.size, 1, _, rfl, Nat.le_refl _, heap_alloc_new _ _, Nat.le_refl _, by unfold maxLen; omega, rfl, rfl⟩⟩
  obtain ⟨va', vc', w', hr, hown, hb⟩ := append_src (P := Try.prog) W 54 44 i0 _ 5 64 Try.underlying54 hi0 hz0 hz1 hz2 rfl (by decide) hnew ((h.below bW).src (c := vc) rfl) (by simp only; unfold maxLen; omega) (by simp only; omega) (by omega)
  simp only [Src.val] at hr hown
  have hbw : Below w.heap.size w w' := bW.trans hb
  have e : pdCell x ++ pdCells A = pdCells (x :: A) := rfl
  rw [e] at hown
  rw [Nat.add_comm 1 A.length] at hr hown
  obtain ⟨va2, vc2, e2, h1, h2⟩ := ownsN_form hown
  injection e2 with e3 e4 e5
  subst e5
  refine ⟨va', vc', w', by rw [← hW]; exact hr, DsIn_of_owns (L := x :: A) hown fun y hy => ?_, h1, h2, hbw⟩
  rcases List.mem_cons.1 hy with rfl | hy
  · exact hx.below hbw
  · exact (h.each y hy).below hbw
theorem QInv.step {w : World} {L : List Pd} {s : ByteArray} {k : Fo} {i : Nat} {wA : World} {x : ByteArray} {ka : Option Addr} {cap : Nat} {kk : Fo} {A : List Pd} {va : Option Addr} {vc : Nat} (h : QInv w L s k i wA x ka cap kk A va vc) {y : Pd} (hy : L[i]? = some y) {R : Int × (ByteArray × Fo) × Dd} (hR : R = doP y.1 x kk) (h0 : R.1 = 0)
    {Z w4 : World} {bx cy : Nat} {x' : ByteArray} {ka' : Option Addr} {cap' : Nat} {k' : Fo} {pa : Option Addr} {pc : Nat} (hY : YIn wA Z bx cy R x' ka' cap' k' pa pc) (b4 : Below ((Z.setCell ⟨w.heap.size, 0, none⟩ (.string x')).setCell ⟨w.heap.size, 1, none⟩ (.slice ka' (flen k') cap')).heap.size ((Z.setCell ⟨w.heap.size, 0, none⟩ (.string x')).setCell ⟨w.heap.size, 1, none⟩ (.slice ka' (flen k') cap')) w4)
    {va' : Option Addr} {vc' : Nat} (hds : DsIn w4 va' ((R.2.2, pa, pc) :: A)) (c1 : i + 1 ≤ vc') (c2 : vc' ≤ maxLen) : QInv w L s k (i + 1) w4 x' ka' cap' k' ((R.2.2, pa, pc) :: A) va' vc' := by
  have hsz := h.size
  have o0 : FOff w.heap.size k' := hY.frm.off (by omega)
  have z1 := hY.below.size
  have sz : ((Z.setCell ⟨w.heap.size, 0, none⟩ (.string x')).setCell ⟨w.heap.size, 1, none⟩ (.slice ka' (flen k') cap')).heap.size = Z.heap.size := by simp [World.setCell]
  have z4 := b4.size
  rw [sz] at z4
  have keep : ∀ q, q < wA.heap.size → q ≠ w.heap.size → w4.heap[q]? = wA.heap[q]? := fun q hq hne => by
    rw [b4.block q (by rw [sz]; omega), box2_off hne, hY.below.block q hq]
  refine ⟨?_, by simp [h.len], (TIn.set (TIn.set hY.tin o0) o0).below b4, o0, hY.frm.off (by omega), hY.frm.off (by omega), hds, c1, c2, ?_, ?_, ?_, ?_, by omega⟩
  · have := fwd_take (d := y.1) h.fw (dds_at hy) (by simp only; rw [doP_strip, ← hR]; exact h0)
    simp only [doP_strip, ← hR] at this
    rw [this, hY.es, hY.ek]
    rfl
  · rw [b4.block _ (by rw [sz]; omega)]
    exact box2_set (by rw [hY.below.block _ (by omega)]; exact h.box)
  · rw [keep _ (by omega) (by omega)]; exact h.b1
  · rw [keep _ (by omega) (by omega)]; exact h.b2
  · exact (((h.below.trans (hY.below.mono (by omega))).setCell (Nat.le_refl _) _).setCell (Nat.le_refl _) _).trans (b4.mono (by rw [sz]; omega))
end Go.Proofs.Ytcknganggcbkjab.Deed
