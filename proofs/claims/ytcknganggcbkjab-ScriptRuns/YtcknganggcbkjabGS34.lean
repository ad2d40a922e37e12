/- Diff of package script, where all that is asked on the way is so. Of the program's text. -/
/- Run of package script. Of the program's text. -/
/- SameTree and SameTrees of package pleachingref, of trees that lie in memory, say whether the forests are the same but for where they lie. Of the program's text. -/
import Derived.Test.YtcknganggcbkjabProg
import Derived.Test.YtcknganggcbkjabGS28
import Derived.Test.YtcknganggcbkjabGS32
import Derived.Test.YtcknganggcbkjabGS33
import Derived.WalkSmall
import Derived.Test.YtcknganggcbkjabGS15
import Derived.Test.YtcknganggcbkjabGS27
import Derived.Deep.LoopGhost
import Derived.Deep.RegionHeld3
import Derived.Test.YtcknganggcbkjabGS03
namespace Go.Proofs.Ytcknganggcbkjab.Scr
open Go.Deep Go.RowKit Deed
set_option linter.unusedVariables false
set_option maxRecDepth 20000

theorem of_end (s : ByteArray) (ka : Option Addr) (cap : Nat) (k : Fo) (w : World) (ht : TIn w s ka cap k) (hp : FPlain w k) (hf : faultT s k = 0) :
    Calls Try.prog 43 #[.agg #[.string s, .slice ka (flen k) cap]] w fun e w' => OfEnd (fun c => c = 0) s k w.heap.size e w' ∧ Below w.heap.size w w' := by
  refine of_of (fun c => c = 0) s ka cap k w ht (fun _ => hf) fun W hW => ?_
  have h := check_any s ka cap k W (ht.below hW) (hp.below hW) (by have := (fault_zero hf).1; omega)
  rw [hf] at h
  exact h.mono fun e w' h => ⟨⟨0, rfl, h.1⟩, h.2⟩
/-- All that is asked of two trees on the way. -/
structure DiffOk (s1 : ByteArray) (k1 : Fo) (s2 : ByteArray) (k2 : Fo) : Prop where
  f1 : faultT s1 k1 = 0
  f2 : faultT s2 k2 = 0
  a : ∀ i, i < fnodes k1 + 1 → stayA (Dist.bestP (nds (s1, k1)) (nds (s2, k2))) i = false → ThOk (stayA (Dist.bestP (nds (s1, k1)) (nds (s2, k2)))) (s1, strip k1) i
  b : ∀ i, i < fnodes k2 + 1 → stayB (Dist.bestP (nds (s1, k1)) (nds (s2, k2))) i = false → ThOk (stayB (Dist.bestP (nds (s1, k1)) (nds (s2, k2)))) (s2, strip k2) i
  fa : faultT (thinA s1 k1 s2 k2).t.1 (thinA s1 k1 s2 k2).t.2 = 0
  fb : faultT (thinB s1 k1 s2 k2).t.1 (thinB s1 k1 s2 k2).t.2 = 0
  le : fnodes (thinB s1 k1 s2 k2).t.2 ≤ fnodes (thinA s1 k1 s2 k2).t.2
theorem names_len (A B : List Nd) : ∀ n, (namesP A B n).length ≤ n
  | 0 => Nat.le_refl _
  | n + 1 => by
    unfold namesP
    have := names_len A B n
    rw [List.length_append]
    split <;> simp <;> omega
theorem row_src {B : Nat} {w : World} {va : Option Addr} {vc : Nat} {A : List Deed.Pd} (h : Row B w (.slice va A.length vc) A) : SrcIn w 5 ⟨va, A.length, vc, Deed.pdCells A⟩ := (h.ds rfl).src rfl

def DiffEnd (L : List Dd) (w : World) (e : Ending) (w' : World) : Prop := ∃ va vc A, e = .returned (.tuple #[.slice va (List.length (α := Deed.Pd) A) vc, .int .i64 0]) ∧ dds A = L ∧ DsIn w' va A ∧ A.length ≤ vc ∧ vc ≤ maxLen ∧ Below w.heap.size w w'

set_option maxHeartbeats 4000000 in
theorem diff_ok (s1 : ByteArray) (ka1 : Option Addr) (cap1 : Nat) (k1 : Fo) (s2 : ByteArray) (ka2 : Option Addr) (cap2 : Nat) (k2 : Fo) (w : World) (ht1 : TIn w s1 ka1 cap1 k1) (hp1 : FPlain w k1) (ht2 : TIn w s2 ka2 cap2 k2) (hp2 : FPlain w k2) (hok : DiffOk s1 k1 s2 k2) :
    Calls Try.prog 40 #[.agg #[.string s1, .slice ka1 (flen k1) cap1], .agg #[.string s2, .slice ka2 (flen k2) cap2]] w (DiffEnd (diffP s1 k1 s2 k2) w) := by
  obtain ⟨W, hW⟩ : ∃ W, W = (w.alloc (Obj.cells #[Value.string s1, Value.slice ka1 (flen k1) cap1] 24)).alloc (Obj.cells #[Value.string s2, Value.slice ka2 (flen k2) cap2] 24) := ⟨_, rfl⟩
  obtain ⟨hWs, hB, c0, c1⟩ := boxes2 w (Obj.cells #[Value.string s1, Value.slice ka1 (flen k1) cap1] 24) (Obj.cells #[Value.string s2, Value.slice ka2 (flen k2) cap2] 24)
  rw [← hW] at hWs hB c0 c1
  have hT1 : ∀ W', Below W.heap.size W W' → TIn W' s1 ka1 cap1 k1 ∧ FPlain W' k1 ∧ TIn W' s2 ka2 cap2 k2 ∧ FPlain W' k2 := fun W' hb => ⟨ht1.below (hB.trans (hb.mono (by omega))), hp1.below (hB.trans (hb.mono (by omega))), ht2.below (hB.trans (hb.mono (by omega))), hp2.below (hB.trans (hb.mono (by omega)))⟩
  have HOF := hide (Dist.distof_of (fun c => c = 0) (fun c => c = 0) s1 s2 ka1 ka2 cap1 cap2 k1 k2 W (fun _ => hok.f1) (fun _ => hok.f2) (fun W' hb => of_end s1 ka1 cap1 k1 W' (hT1 W' hb).1 (hT1 W' hb).2.1 hok.f1) (fun W' hb => of_end s2 ka2 cap2 k2 W' (hT1 W' hb).2.2.1 (hT1 W' hb).2.2.2 hok.f2))
  have HT1 := hide hT1
  have HC := hide (And.intro hWs (And.intro hB (And.intro c0 c1)))
  have HOK := hide hok
  clear hWs hB c0 c1 ht1 hp1 ht2 hp2 hT1 hok
  go_enter Try.func40, Try.ntmps40
  go_wp2_with fail
  rw [← hW]
  clear hW
  refine Calls.mono HOF.out ?_
  rintro e w1 ⟨h | ⟨_, _, T, hTA, hTB, rfl, htab⟩, hb1⟩
  · exfalso
    obtain ⟨c, h1, h2, _⟩ := h
    rcases h1 with h1 | ⟨_, h1⟩ <;> exact h2 h1
  rw [← hTA, ← hTB] at htab
  have HBS := hide (Dist.dbest_any T w1 htab)
  obtain ⟨best, hbest⟩ : ∃ best, best = Dist.bestP (nds (s1, k1)) (nds (s2, k2)) := ⟨_, rfl⟩
  rw [hTA, hTB, show Dist.bestP (ndT 0 s1 k1 (-1)) (ndT 0 s2 k2 (-1)) = best from hbest.symm] at HBS
  have HBE := hide hbest
  have HB1 := hide hb1
  clear htab hTA hTB hbest hb1 HOF
  go_wp2_with fail
  refine Calls.mono HBS.out ?_
  rintro e w2 ⟨v, rfl, hrow, hb2⟩
  obtain ⟨bva, bvc, rfl, hbv1, hbv2⟩ := ownsN_form hrow
  obtain ⟨V2, hV2⟩ : ∃ V2, V2 = w2.alloc (Obj.cells #[.slice bva best.length bvc] 66) := ⟨_, rfl⟩
  have b2V : Below w2.heap.size w2 V2 := by rw [hV2]; exact (Below.refl _ _).alloc (Nat.le_refl _) _
  have sV2 : V2.heap.size = w2.heap.size + 1 := by rw [hV2]; simp
  have nV2 : V2.heap[w2.heap.size]? = some (Obj.cells #[.slice bva best.length bvc] 66) := by rw [hV2]; exact heap_alloc_new _ _
  have z1 := HB1.out.size
  have z2 := hb2.size
  have hzW := HC.out.1
  have BV2 : Below W.heap.size W V2 := HB1.out.trans ((hb2.trans (b2V.mono z2)).mono z1)
  have hst : ∀ U, Below V2.heap.size V2 U → U.ownsRow w1.heap.size 99 2 (.slice bva best.length bvc) best.length (Dist.prCells best) ∧ U.cell? ⟨w2.heap.size, 0, none⟩ = some (.slice bva best.length bvc) := fun U hU => by
    refine ⟨ownsN_below (ownsN_below hrow b2V) hU, ?_⟩
    rw [cell_of_row _ _ 0 _ _ _ ((hU.block _ (by omega)).trans nV2)]
    rfl
  have th1 := thin1_any w2.heap.size (stayA best) s1 ka1 cap1 k1 V2 (HT1.out V2 BV2).1 (HT1.out V2 BV2).2.1 HOK.out.f1 (fun U hU n => stays1 best bva bvc _ n w2.heap.size U (hst U hU).1 (hst U hU).2) (by rw [HBE.out]; exact HOK.out.a)
  have th2 := fun (U : World) (hU : Below V2.heap.size V2 U) => thin2_any w2.heap.size (stayB best) s2 ka2 cap2 k2 U (HT1.out U (BV2.trans (hU.mono (by omega)))).2.2.1 (HT1.out U (BV2.trans (hU.mono (by omega)))).2.2.2 HOK.out.f2 (fun U' hU' n => stays2 best bva bvc _ n w2.heap.size U' (hst U' (hU.trans (hU'.mono hU.size))).1 (hst U' (hU.trans (hU'.mono hU.size))).2) (by rw [HBE.out]; exact HOK.out.b)
  rw [show thAt (stayA best) (s1, strip k1) (fnodes k1 + 1) = thinA s1 k1 s2 k2 by unfold thinA; rw [HBE.out]] at th1
  rw [show thAt (stayB best) (s2, strip k2) (fnodes k2 + 1) = thinB s1 k1 s2 k2 by unfold thinB; rw [HBE.out]] at th2
  have HTH1 := hide th1
  have HTH2 := hide th2
  have e0 : V2.heap[w.heap.size]? = _ := (BV2.block _ (by omega)).trans HC.out.2.2.1
  have p0 : V2.cell? ⟨w.heap.size, 0, none⟩ = some (.string s1) := by rw [cell_of_row _ _ 0 _ _ _ e0]; rfl
  have p1 : V2.cell? ⟨w.heap.size, 1, none⟩ = some (.slice ka1 (flen k1) cap1) := by rw [cell_of_row _ _ 1 _ _ _ e0]; rfl
  have HBV2 := hide BV2
  unfold maxLen at hbv2
  clear th1 th2 hst hrow hb2 b2V nV2 BV2 e0 HBS HB1 z1 z2
  rw [hV2] at p0 p1
  go_wp2_with fail
  rw [← hV2]
  clear hV2 p0 p1
  refine Calls.mono HTH1.out ?_
  rintro e w3 ⟨x, ka, cap, kk, va, vc, ua, uc, A, K, rfl, hX, hA, hK, ht, hp, hrA, _, hb3⟩
  obtain ⟨V4, hV4⟩ : ∃ V4, V4 = w3.alloc (Obj.cells #[Value.string x, Value.slice ka (flen kk) cap] 24) := ⟨_, rfl⟩
  have b4 : Below w3.heap.size w3 V4 := by rw [hV4]; exact (Below.refl _ _).alloc (Nat.le_refl _) _
  have s4 : V4.heap.size = w3.heap.size + 1 := by rw [hV4]; simp
  have n4 : V4.heap[w3.heap.size]? = some (Obj.cells #[Value.string x, Value.slice ka (flen kk) cap] 24) := by rw [hV4]; exact heap_alloc_new _ _
  have z3 := hb3.size
  have hzV := HBV2.out.size
  have B4 : Below V2.heap.size V2 V4 := hb3.trans (b4.mono z3)
  have BW4 : Below W.heap.size W V4 := HBV2.out.trans (B4.mono hzV)
  have e1 : V4.heap[w.heap.size + 1]? = _ := (BW4.block _ (by omega)).trans HC.out.2.2.2
  have p0 : V4.cell? ⟨w.heap.size + 1, 0, none⟩ = some (.string s2) := by rw [cell_of_row _ _ 0 _ _ _ e1]; rfl
  have p1 : V4.cell? ⟨w.heap.size + 1, 1, none⟩ = some (.slice ka2 (flen k2) cap2) := by rw [cell_of_row _ _ 1 _ _ _ e1]; rfl
  have HX := hide (And.intro hX (And.intro hA (And.intro (ht.below b4) (And.intro (hp.below b4) (And.intro (hrA.below b4) n4)))))
  have HT2 := hide (HTH2.out V4 B4)
  have HBW4 := hide BW4
  have hvA : A.length ≤ vc ∧ vc ≤ maxLen := by
    obtain ⟨va', vc', e', h1, h2⟩ := hrA.form
    injection e' with e1 e2 e3
    subst e3
    exact ⟨h1, h2⟩
  unfold maxLen at hvA
  clear hX hA hK ht hp hrA hb3 b4 n4 B4 BW4 e1 HTH1 HTH2 z3
  rw [hV4] at p0 p1
  go_wp2_with fail
  rw [← hV4]
  clear hV4 p0 p1
  refine Calls.mono HT2.out ?_
  rintro e w5 ⟨y, la, lap, ll, ya, yc, za, zc, A2, K2, rfl, hY, _, hK2, ht', hp', _, hrK, hb5⟩
  obtain ⟨V6, hV6⟩ : ∃ V6, V6 = w5.alloc (Obj.cells #[Value.string y, Value.slice la (flen ll) lap] 24) := ⟨_, rfl⟩
  have b6 : Below w5.heap.size w5 V6 := by rw [hV6]; exact (Below.refl _ _).alloc (Nat.le_refl _) _
  have s6 : V6.heap.size = w5.heap.size + 1 := by rw [hV6]; simp
  have z5 := hb5.size
  have B6 : Below V4.heap.size V4 V6 := hb5.trans (b6.mono z5)
  have e9 : V6.heap[w3.heap.size]? = _ := (B6.block _ (by omega)).trans HX.out.2.2.2.2.2
  have p0 : V6.cell? ⟨w3.heap.size, 0, none⟩ = some (.string x) := by rw [cell_of_row _ _ 0 _ _ _ e9]; rfl
  have p1 : V6.cell? ⟨w3.heap.size, 1, none⟩ = some (.slice ka (flen kk) cap) := by rw [cell_of_row _ _ 1 _ _ _ e9]; rfl
  have hfa : faultT x kk = 0 := by
    have := HOK.out.fa
    rw [HX.out.1] at this
    simpa only [faultT_strip] using this
  have hfb : faultT y ll = 0 := by
    have := HOK.out.fb
    rw [hY] at this
    simpa only [faultT_strip] using this
  have hle : fnodes ll ≤ fnodes kk := by
    have := HOK.out.le
    rw [HX.out.1, hY] at this
    simpa only [fnodes_strip] using this
  have HNM := hide (names_any x ka cap kk y la lap ll V6 (HX.out.2.2.1.below B6) (HX.out.2.2.2.1.below B6) hfa (ht'.below b6) (hp'.below b6) hfb hle)
  have hvK : K2.length ≤ zc ∧ zc ≤ maxLen := by
    obtain ⟨va', vc', e', h1, h2⟩ := hrK.form
    injection e' with e1 e2 e3
    subst e3
    exact ⟨h1, h2⟩
  have hlA : A.length ≤ 40 := by
    have h1 := congrArg List.length HX.out.2.1
    rw [dds_len] at h1
    have h2 := (th_len (stayA (Dist.bestP (nds (s1, k1)) (nds (s2, k2)))) (s1, strip k1) (fnodes k1 + 1)).1
    have h3 := (fault_zero HOK.out.f1).1
    unfold thinA at h1
    omega
  have hlK : K2.length ≤ 40 := by
    have h1 := congrArg List.length hK2
    rw [dds_len, List.length_reverse] at h1
    have h2 := th_len (stayB (Dist.bestP (nds (s1, k1)) (nds (s2, k2)))) (s2, strip k2) (fnodes k2 + 1)
    have h3 := (fault_zero HOK.out.f2).1
    unfold thinB at h1
    omega
  have hfl := (fault_zero hfb).1
  have HDP := hide (show ∀ N : List Deed.Pd, dds N = namesP (ndT 0 x kk (-1)) (ndT 0 y ll (-1)) (fnodes ll + 1) → dds (A ++ (N ++ K2)) = diffP s1 k1 s2 k2 by
    intro N hN
    unfold diffP
    rw [dds_append, dds_append, HX.out.2.1, hK2, hN, HX.out.1, hY]
    unfold nds
    simp only [ndT_strip, ndT_length])
  have HR := hide (And.intro (HX.out.2.2.2.2.1.below B6) (hrK.below b6))
  have HB6 := hide (HBW4.out.trans (B6.mono HBW4.out.size))
  unfold maxLen at hvK
  clear hY hK2 ht' hp' hrK hb5 b6 B6 e9 hfa hfb hle HX HBW4 HOK z5
  rw [hV6] at p0 p1
  go_wp2_with fail
  rw [← hV6]
  clear hV6 p0 p1
  refine Calls.mono HNM.out ?_
  rintro e w7 ⟨na, nc, N, rfl, hN, hrN, hb7⟩
  have hvN : N.length ≤ nc ∧ nc ≤ maxLen := by
    obtain ⟨va', vc', e', h1, h2⟩ := hrN.form
    injection e' with e1 e2 e3
    subst e3
    exact ⟨h1, h2⟩
  have hlN : N.length ≤ 41 := by
    have h1 := congrArg List.length hN
    rw [dds_len] at h1
    have := names_len (ndT 0 x kk (-1)) (ndT 0 y ll (-1)) (fnodes ll + 1)
    omega
  obtain ⟨V8, hV8⟩ : ∃ V8, V8 = w7.alloc (Obj.cells #[.slice va A.length vc, .slice na N.length nc, .slice za K2.length zc] 54) := ⟨_, rfl⟩
  have b8 : Below w7.heap.size w7 V8 := by rw [hV8]; exact (Below.refl _ _).alloc (Nat.le_refl _) _
  have n8 : V8.heap[w7.heap.size]? = some (Obj.cells #[.slice va A.length vc, .slice na N.length nc, .slice za K2.length zc] 54) := by rw [hV8]; exact heap_alloc_new _ _
  have rA := (HR.out.1.below hb7).below b8
  have rN := hrN.below b8
  have rK := (HR.out.2.below hb7).below b8
  have hcc := concatD_any w7.heap.size 3 [⟨va, A.length, vc, Deed.pdCells A⟩, ⟨na, N.length, nc, Deed.pdCells N⟩, ⟨za, K2.length, zc, Deed.pdCells K2⟩] V8 (0, 0) n8 (fun s hs => by
    simp only [List.mem_cons, List.not_mem_nil, or_false] at hs
    rcases hs with rfl | rfl | rfl
    · exact row_src rA
    · exact row_src rN
    · exact row_src rK) (by simp) (by simp only [Deed.tot]; omega)
  have HCC := hide hcc
  have HZ := hide (And.intro rA.each (And.intro rN.each (And.intro rK.each (And.intro (HB6.out.trans ((hb7.trans (b8.mono hb7.size)).mono HB6.out.size)) (HDP.out N hN)))))
  simp only [List.length_cons, List.length_nil, Deed.tot, Nat.zero_add, Nat.add_zero] at HCC
  unfold maxLen at hvN
  clear hN hrN hb7 b8 n8 rA rN rK hcc HR HDP HNM
  go_wp2_with fail
  rw [← hV8]
  clear hV8
  refine Calls.mono HCC.out ?_
  rintro e w9 ⟨fa, fc, rfl, hown, hb9⟩
  have HW := hide (And.intro hown hb9)
  clear hown hb9 HCC
  go_wp2_with fail
  refine bodyPost_ret (v := .tuple #[.slice fa (A.length + (N.length + K2.length)) fc, .int .i64 0]) (by simp [results, Try.results40, go_sem]) rfl ?_
  obtain ⟨hown, hb9⟩ := HW.out
  obtain ⟨r1, r2, r3, bb, hdd⟩ := HZ.out
  have hcs : List.flatMap (fun x => x.xs) [(⟨va, A.length, vc, Deed.pdCells A⟩ : Src), ⟨na, N.length, nc, Deed.pdCells N⟩, ⟨za, K2.length, zc, Deed.pdCells K2⟩] = Deed.pdCells (A ++ (N ++ K2)) := by
    rw [Deed.pdCells_append, Deed.pdCells_append]
    simp
  rw [hcs] at hown
  have hl : A.length + (N.length + K2.length) = (A ++ (N ++ K2)).length := by simp
  rw [hl] at hown ⊢
  obtain ⟨_, _, e', h1, h2⟩ := ownsN_form hown
  injection e' with e1 e2 e3
  subst e3
  have hbw : Below w.heap.size w w9 := HC.out.2.1.trans ((bb.trans (hb9.mono bb.size)).mono (by have := HC.out.1; omega))
  exact ⟨fa, fc, A ++ (N ++ K2), rfl, hdd, DsIn_of_owns hown ((r1.append (r2.append r3)).below hb9), h1, h2, hbw⟩
end Go.Proofs.Ytcknganggcbkjab.Scr
namespace Go.Proofs.Ytcknganggcbkjab.Deed
open Go.Deep Go.RowKit
set_option linter.unusedVariables false
set_option maxRecDepth 20000

set_option maxHeartbeats 2000000 in
theorem prun_bad (L : List Pd) (la : Option Addr) (lc : Nat) (s : ByteArray) (ka : Option Addr) (cap : Nat) (k : Fo) (w : World) (ht : TIn w s ka cap k) (hp : FPlain w k) (hn : 1 + fnodes k ≤ 200) (h : faultT s k ≠ 0) :
    Calls Try.prog 37 #[.agg #[.string s, .slice ka (flen k) cap], .slice la L.length lc] w (RunEnd True (runP (dds L) s k) w) := by
  rw [runP_fault h]
  obtain ⟨c, hc⟩ : ∃ c, c = faultT s k := ⟨_, rfl⟩
  have hb : (c == 0) = false := beq_eq_false_iff_ne.2 (by rw [hc]; exact h)
  have hb2 : (c != 0) = true := by simp [bne, hb]
  rw [← hc]
  obtain ⟨W, hW⟩ : ∃ W, W = ((w.alloc (Obj.cells #[Value.string s, Value.slice ka (flen k) cap] 24)).alloc (Obj.cells #[Value.string ⟨#[]⟩, Value.slice none 0 0] 24)).alloc (Obj.cells #[.int .i64 0, .int .i64 0] 57) := ⟨_, rfl⟩
  obtain ⟨hWs, hB, c0, c1, c2⟩ := boxesR w (Obj.cells #[Value.string s, Value.slice ka (flen k) cap] 24) (Obj.cells #[Value.string ⟨#[]⟩, Value.slice none 0 0] 24) (Obj.cells #[.int .i64 0, .int .i64 0] 57)
  rw [← hW] at hWs hB c0 c1 c2
  have HF := hide (check_any s ka cap k W (ht.below hB) (hp.below hB) hn)
  have HC := hide (And.intro hWs (And.intro hB (And.intro c1 c2)))
  rw [← hc] at HF
  clear hWs hB c0 c1 c2 ht hp hn h hc
  go_enter Try.func37, Try.ntmps37
  go_wp2_with fail
  rw [← hW]
  clear hW
  refine Calls.mono HF.out ?_
  rintro e w1 ⟨rfl, hb1⟩
  have hws := HC.out.1
  have e1 : w1.heap[w.heap.size + 1]? = _ := (hb1.block _ (by omega)).trans HC.out.2.2.1
  have e2 : w1.heap[w.heap.size + 1 + 1]? = _ := (hb1.block _ (by omega)).trans HC.out.2.2.2
  have q10 : w1.cell? ⟨w.heap.size + 1, 0, none⟩ = some (.string ⟨#[]⟩) := by rw [cell_of_row _ _ 0 _ _ _ e1]; rfl
  have q11 : w1.cell? ⟨w.heap.size + 1, 1, none⟩ = some (.slice none 0 0) := by rw [cell_of_row _ _ 1 _ _ _ e1]; rfl
  have f1 : ∀ o, w1.frozen? ⟨w.heap.size + 1, o, none⟩ = false := fun o => by simp [World.frozen?, e1]
  have f2 : ∀ o, w1.frozen? ⟨w.heap.size + 1 + 1, o, none⟩ = false := fun o => by simp [World.frozen?, e2]
  have q20 : w1.cell? ⟨w.heap.size + 1 + 1, 0, none⟩ = some (.int .i64 0) := by rw [cell_of_row _ _ 0 _ _ _ e2]; rfl
  have q21 : w1.cell? ⟨w.heap.size + 1 + 1, 1, none⟩ = some (.int .i64 0) := by rw [cell_of_row _ _ 1 _ _ _ e2]; rfl
  have HB := hide (HC.out.2.1.trans (hb1.mono (by omega)))
  clear e1 e2 hb1 hws HC HF
  go_wp2_with fail
  refine bodyPost_ret (v := .tuple #[.agg #[.string ⟨#[]⟩, .slice none 0 0], .slice none 0 0, .agg #[.int .i64 c, .int .i64 (-1)]]) (by simp [results, Try.results37, go_sem, *]) rfl (RunEnd.bad ?_)
  exact (((HB.out.setCell (by simp only; omega) _).setCell (by simp only; omega) _).setCell (by simp only; omega) _).setCell (by simp only; omega) _

set_option maxHeartbeats 2000000 in
theorem prun_many (L : List Pd) (la : Option Addr) (lc : Nat) (s : ByteArray) (ka : Option Addr) (cap : Nat) (k : Fo) (w : World) (ht : TIn w s ka cap k) (hp : FPlain w k) (hn : 1 + fnodes k ≤ 200) (h : faultT s k = 0) (hl : 80 < L.length) (hlc : L.length ≤ lc) (hlm : lc ≤ maxLen) :
    Calls Try.prog 37 #[.agg #[.string s, .slice ka (flen k) cap], .slice la L.length lc] w (RunEnd True (runP (dds L) s k) w) := by
  rw [runP_many h (by rw [dds_len]; exact hl)]
  unfold maxLen at hlm
  obtain ⟨W, hW⟩ : ∃ W, W = ((w.alloc (Obj.cells #[Value.string s, Value.slice ka (flen k) cap] 24)).alloc (Obj.cells #[Value.string ⟨#[]⟩, Value.slice none 0 0] 24)).alloc (Obj.cells #[.int .i64 0, .int .i64 0] 57) := ⟨_, rfl⟩
  obtain ⟨hWs, hB, c0, c1, c2⟩ := boxesR w (Obj.cells #[Value.string s, Value.slice ka (flen k) cap] 24) (Obj.cells #[Value.string ⟨#[]⟩, Value.slice none 0 0] 24) (Obj.cells #[.int .i64 0, .int .i64 0] 57)
  rw [← hW] at hWs hB c0 c1 c2
  have hf := check_any s ka cap k W (ht.below hB) (hp.below hB) hn
  rw [h] at hf
  have HF := hide hf
  have HC := hide (And.intro hWs (And.intro hB (And.intro c1 c2)))
  clear hWs hB c0 c1 c2 ht hp hn h hf
  go_enter Try.func37, Try.ntmps37
  go_wp2_with fail
  rw [← hW]
  clear hW
  refine Calls.mono HF.out ?_
  rintro e w1 ⟨rfl, hb1⟩
  have hws := HC.out.1
  have e1 : w1.heap[w.heap.size + 1]? = _ := (hb1.block _ (by omega)).trans HC.out.2.2.1
  have e2 : w1.heap[w.heap.size + 1 + 1]? = _ := (hb1.block _ (by omega)).trans HC.out.2.2.2
  have q10 : w1.cell? ⟨w.heap.size + 1, 0, none⟩ = some (.string ⟨#[]⟩) := by rw [cell_of_row _ _ 0 _ _ _ e1]; rfl
  have q11 : w1.cell? ⟨w.heap.size + 1, 1, none⟩ = some (.slice none 0 0) := by rw [cell_of_row _ _ 1 _ _ _ e1]; rfl
  have f1 : ∀ o, w1.frozen? ⟨w.heap.size + 1, o, none⟩ = false := fun o => by simp [World.frozen?, e1]
  have f2 : ∀ o, w1.frozen? ⟨w.heap.size + 1 + 1, o, none⟩ = false := fun o => by simp [World.frozen?, e2]
  have q20 : w1.cell? ⟨w.heap.size + 1 + 1, 0, none⟩ = some (.int .i64 0) := by rw [cell_of_row _ _ 0 _ _ _ e2]; rfl
  have q21 : w1.cell? ⟨w.heap.size + 1 + 1, 1, none⟩ = some (.int .i64 0) := by rw [cell_of_row _ _ 1 _ _ _ e2]; rfl
  have HB := hide (HC.out.2.1.trans (hb1.mono (by omega)))
  clear e1 e2 hb1 hws HC HF
  go_wp2_with fail
  refine bodyPost_ret (v := .tuple #[.agg #[.string ⟨#[]⟩, .slice none 0 0], .slice none 0 0, .agg #[.int .i64 2, .int .i64 (-1)]]) (by simp [results, Try.results37, go_sem, *]) rfl (RunEnd.bad ?_)
  exact (((HB.out.setCell (by simp only; omega) _).setCell (by simp only; omega) _).setCell (by simp only; omega) _).setCell (by simp only; omega) _

set_option maxHeartbeats 4000000 in
theorem prun_good (L : List Pd) (la : Option Addr) (lc : Nat) (s : ByteArray) (ka : Option Addr) (cap : Nat) (k : Fo) (w : World) (ht : TIn w s ka cap k) (hp : FPlain w k) (h : faultT s k = 0) (hl : L.length ≤ 80) (hlc : L.length ≤ lc) (hlm : lc ≤ maxLen) (hL : DsIn w la L) (hg : ∀ x, x ∈ L → x.1.path.length ≤ 60 ∧ x.1.lab.size ≤ 100) :
    Calls Try.prog 37 #[.agg #[.string s, .slice ka (flen k) cap], .slice la L.length lc] w (RunEnd True (runP (dds L) s k) w) := by
  unfold maxLen at hlm
  obtain ⟨hn, hs, hsm⟩ := fault_small h
  obtain ⟨W, hW⟩ : ∃ W, W = ((w.alloc (Obj.cells #[Value.string s, Value.slice ka (flen k) cap] 24)).alloc (Obj.cells #[Value.string ⟨#[]⟩, Value.slice none 0 0] 24)).alloc (Obj.cells #[.int .i64 0, .int .i64 0] 57) := ⟨_, rfl⟩
  obtain ⟨hWs, hB, c0, c1, c2⟩ := boxesR w (Obj.cells #[Value.string s, Value.slice ka (flen k) cap] 24) (Obj.cells #[Value.string ⟨#[]⟩, Value.slice none 0 0] 24) (Obj.cells #[.int .i64 0, .int .i64 0] 57)
  rw [← hW] at hWs hB c0 c1 c2
  have hf := check_any s ka cap k W (ht.below hB) (hp.below hB) hn
  rw [h] at hf
  have HF := hide hf
  have HO := hide (fun (W' : World) (hb : Below W.heap.size W W') => own_any s ka cap k W' (ht.below (hB.trans (hb.mono (by omega)))) (hp.below (hB.trans (hb.mono (by omega)))) hn hs hsm)
  have HC := hide (And.intro hWs (And.intro hB (And.intro c0 (And.intro c1 c2))))
  have HFT := hide h
  have HL := hide hL
  have HG := hide hg
  clear hWs hB c0 c1 c2 ht hp hn h hf hs hsm hL hg
  go_enter Try.func37, Try.ntmps37
  go_wp2_with fail
  rw [← hW]
  clear hW
  refine Calls.mono HF.out ?_
  rintro e w1 ⟨rfl, hb1⟩
  have e0 : w1.heap[w.heap.size]? = _ := (hb1.block _ (by have := HC.out.1; omega)).trans HC.out.2.2.1
  have p0 : w1.cell? ⟨w.heap.size, 0, none⟩ = some (.string s) := by rw [cell_of_row _ _ 0 _ _ _ e0]; rfl
  have p1 : w1.cell? ⟨w.heap.size, 1, none⟩ = some (.slice ka (flen k) cap) := by rw [cell_of_row _ _ 1 _ _ _ e0]; rfl
  have HB1 := hide hb1
  clear hb1 e0 HF
  go_wp2_with fail
  refine Calls.mono (HO.out w1 HB1.out) ?_
  rintro e w2 ⟨ka', cap', k', rfl, hst, htk, hfr, hpl, hb2⟩
  have hz := HC.out.1
  have hz1 := HB1.out.size
  have hz2 := hb2.size
  have bW2 : Below W.heap.size W w2 := HB1.out.trans (hb2.mono hz1)
  have e0 : w2.heap[w.heap.size]? = _ := (bW2.block _ (by omega)).trans HC.out.2.2.1
  have e1 : w2.heap[w.heap.size + 1]? = _ := (bW2.block _ (by omega)).trans HC.out.2.2.2.1
  have e2 : w2.heap[w.heap.size + 1 + 1]? = _ := (bW2.block _ (by omega)).trans HC.out.2.2.2.2
  have r0 : w2.cell? ⟨w.heap.size, 0, none⟩ = some (.string s) := by rw [cell_of_row _ _ 0 _ _ _ e0]; rfl
  have r1 : w2.cell? ⟨w.heap.size, 1, none⟩ = some (.slice ka (flen k) cap) := by rw [cell_of_row _ _ 1 _ _ _ e0]; rfl
  have f0 : ∀ o, w2.frozen? ⟨w.heap.size, o, none⟩ = false := fun o => by simp [World.frozen?, e0]
  have o0 : FOff w.heap.size k' := hfr.off (by omega)
  have HST : Hid (RInv w L s k 0 ((w2.setCell ⟨w.heap.size, 0, none⟩ (.string s)).setCell ⟨w.heap.size, 1, none⟩ (.slice ka' (flen k') cap')) s ka' cap' k' [] (.slice none 0 0)) := hide
    ⟨⟨[], by rw [hst]; simp [fwd], rfl⟩, rfl, TIn.set (TIn.set htk o0) o0, FPlain.set (FPlain.set hpl o0) o0, hfr.mono (by omega), Row.nil _ _, (fun g hg => by cases hg), box2_set e0, by rw [box2_off (by omega)]; exact e1, by rw [box2_off (by omega)]; exact e2, ((HC.out.2.1.trans (bW2.mono (by omega))).setCell (Nat.le_refl _) _).setCell (Nat.le_refl _) _, by simp [World.setCell]; omega⟩
  obtain ⟨Y, hY⟩ : ∃ Y, Y = (w2.setCell ⟨w.heap.size, 0, none⟩ (.string s)).setCell ⟨w.heap.size, 1, none⟩ (.slice ka' (flen k') cap') := ⟨_, rfl⟩
  rw [← hY] at HST
  clear e0 e1 e2 o0 hst htk hfr hpl hb2 bW2 p0 p1 HO HB1 HC hz hz1 hz2
  go_wp2_with fail
  rw [← hY]
  clear hY r0 r1 f0
  go_loopg [8, 30] L.length (fun gk v8 v30 wr => ∃ (i : Nat) (x : ByteArray) (ka : Option Addr) (cap : Nat) (kk : Fo) (A : List Pd) (va : Option Addr) (vc : Nat), gk = L.length - i ∧ i ≤ L.length ∧ v30 = .int .i64 (i : Nat) ∧ v8 = .slice va i vc ∧ Hid (RInv w L s k i wr x ka cap kk A (.slice va i vc)))
  case atStart => exact ⟨0, s, ka', cap', k', [], none, 0, rfl, Nat.zero_le _, rfl, rfl, HST⟩
  case round =>
    obtain ⟨i, x, ka, cap, kk, A, va, vc, hgk, hi, rfl, rfl, hI⟩ := hrel
    obtain ⟨wA, hwA⟩ : ∃ wA, wA = wr := ⟨_, rfl⟩
    subst hwA
    have hsz := hI.out.size
    have q00 : wA.cell? ⟨w.heap.size, 0, none⟩ = some (.string x) := by rw [cell_of_row _ _ 0 _ _ _ hI.out.box]; rfl
    have q01 : wA.cell? ⟨w.heap.size, 1, none⟩ = some (.slice ka (flen kk) cap) := by rw [cell_of_row _ _ 1 _ _ _ hI.out.box]; rfl
    have hvc : i ≤ vc ∧ vc ≤ maxLen := by
      obtain ⟨va', vc', e, h1, h2⟩ := hI.out.row.form
      injection e with e1 e2 e3
      subst e3
      exact ⟨by omega, h2⟩
    unfold maxLen at hvc
    by_cases hin : i < L.length
    · obtain ⟨y, hy⟩ : ∃ y, L[i]? = some y := ⟨_, List.getElem?_eq_getElem hin⟩
      obtain ⟨b, o, rfl, x0, x1, x2, x3, x4, hyd⟩ := (HL.out.below hI.out.below).at hy
      obtain ⟨hyp, hyl⟩ := HG.out y (List.mem_of_getElem? hy)
      obtain ⟨d, pa, pc⟩ := y
      simp only at x0 x1 x2 x3 x4 hyd hyp hyl
      have hd1 := hyd.len
      have hd2 := hyd.cap
      unfold maxLen at hd2
      obtain ⟨V1, hV1⟩ : ∃ V1, V1 = wA.alloc (Obj.cells #[.int .i64 d.kind, .slice pa d.path.length pc, .int .i64 d.pos, .int .i64 d.many, .string d.lab] 44) := ⟨_, rfl⟩
      have b1 : Below wA.heap.size wA V1 := by rw [hV1]; exact (Below.refl _ _).alloc (Nat.le_refl _) _
      have s1 : V1.heap.size = wA.heap.size + 1 := by rw [hV1]; simp
      have p0 : V1.cell? ⟨w.heap.size, 0, none⟩ = some (.string x) := by rw [b1.cell (show w.heap.size < wA.heap.size by omega)]; exact q00
      have p1 : V1.cell? ⟨w.heap.size, 1, none⟩ = some (.slice ka (flen kk) cap) := by rw [b1.cell (show w.heap.size < wA.heap.size by omega)]; exact q01
      have hft : faultT x kk = 0 := by
        obtain ⟨bs, f1, _⟩ := hI.out.fw
        have := fwd_tree (by simp only; rw [faultT_strip]; exact HFT.out) f1
        simpa only [faultT_strip] using this
      obtain ⟨hn1, hn2, hn3⟩ := fault_small hft
      by_cases hc0 : (doP d x kk).1 = 0
      · have hdo := pdo_good d x ka cap kk pa pc V1 (hI.out.tin.below b1) (hI.out.plain.below b1) hn1 hn2 hn3 (hyd.below b1) hyp hyl hc0
        unfold ddV at hdo
        have HDO := hide hdo
        have HY := hide hy
        have HB := hide (And.intro b1 (And.intro s1 hc0))
        clear hdo hy b1 s1 hyd hft hn1 hn2 hn3 hc0
        rw [hV1] at p0 p1
        go_wp2_with fail
        rw [← hV1]
        rw [← hV1] at p0 p1
        clear hV1 x0 x1 x2 x3 x4
        refine Calls.mono HDO.out ?_
        rintro e w2 ⟨x', ka', cap', k', pa', pc', rfl, hx', hk', ht', hf', hp', hd', hb', _, hfr⟩
        obtain ⟨D, hD⟩ : ∃ D, D = (doP d x kk).2.2 := ⟨_, rfl⟩
        rw [HB.out.2.2]
        rw [← hD] at hd' hfr ⊢
        unfold ddV
        obtain ⟨V2, hV2⟩ : ∃ V2, V2 = (w2.alloc (Obj.cells #[Value.string x', Value.slice ka' (flen k') cap'] 24)).alloc (Obj.cells #[.int .i64 D.kind, .slice pa' D.path.length pc', .int .i64 D.pos, .int .i64 D.many, .string D.lab] 44) := ⟨_, rfl⟩
        obtain ⟨sV2, b3, n11, n12⟩ := boxes2 w2 (Obj.cells #[Value.string x', Value.slice ka' (flen k') cap'] 24) (Obj.cells #[.int .i64 D.kind, .slice pa' D.path.length pc', .int .i64 D.pos, .int .i64 D.many, .string D.lab] 44)
        rw [← hV2] at sV2 b3 n11 n12
        have z1 := HB.out.1.size
        have z1' := HB.out.2.1
        have z2 := hb'.size
        have z3 := b3.size
        have bD : Below w2.heap.size w2 V2.drew := b3.trans (Below.refl _ _).drew
        have bR : Below wA.heap.size wA V2.drew := HB.out.1.trans ((hb'.trans (bD.mono z2)).mono z1)
        have hown : ∀ g, (Value.slice va i vc).ownBlock = some g → w.heap.size + 3 ≤ g ∧ g < wA.heap.size := fun g hg' => ownBlockN_lt hI.out.row.own hg'
        obtain ⟨va', vc', w4, hr, hrow', hgr, hat⟩ := (hI.out.row.below bR).push (n := i) hI.out.len.symm (D, pa', pc') (hd'.below bD) (fun hp0 a ha => ⟨by have := hfr hp0 a ha; omega, fun e => by have := hfr hp0 a ha; have := (hown _ e).2; omega⟩) (by have := hI.out.len; omega) (by show w.heap.size + 3 ≤ V2.heap.size; omega)
        have hfin := hI.out.step HY.out HB.out.2.2 HB.out.1 HB.out.2.1 hb' b3 sV2 hx' hk' ht' hf' hp' (by rw [← hD]; exact hd') (by rw [← hD]; exact hrow') hgr hat
        have e4 : w4.heap[w.heap.size]? = some (Obj.cells #[.string x, .slice ka (flen kk) cap] 24) := by
          rw [grown_off hgr (c := w.heap.size) (show w.heap.size < V2.heap.size by omega) (fun e => by have := (hown _ e).1; omega), bR.block _ (by omega)]
          exact hI.out.box
        have u0 : w4.cell? ⟨w.heap.size, 0, none⟩ = some (.string x) := by rw [cell_of_row _ _ 0 _ _ _ e4]; rfl
        have u1 : w4.cell? ⟨w.heap.size, 1, none⟩ = some (.slice ka (flen kk) cap) := by rw [cell_of_row _ _ 1 _ _ _ e4]; rfl
        have uf : ∀ o, w4.frozen? ⟨w.heap.size, o, none⟩ = false := fun o => by simp [World.frozen?, e4]
        have t0 : V2.cell? ⟨w2.heap.size, 0, none⟩ = some (.string x') := by rw [cell_of_row _ _ 0 _ _ _ n11]; rfl
        have t1 : V2.cell? ⟨w2.heap.size, 1, none⟩ = some (.slice ka' (flen k') cap') := by rw [cell_of_row _ _ 1 _ _ _ n11]; rfl
        have d0 : V2.cell? ⟨w2.heap.size + 1, 0, none⟩ = some (.int .i64 D.kind) := by rw [cell_of_row _ _ 0 _ _ _ n12]; rfl
        have d1 : V2.cell? ⟨w2.heap.size + 1, 1, none⟩ = some (.slice pa' D.path.length pc') := by rw [cell_of_row _ _ 1 _ _ _ n12]; rfl
        have d2 : V2.cell? ⟨w2.heap.size + 1, 2, none⟩ = some (.int .i64 D.pos) := by rw [cell_of_row _ _ 2 _ _ _ n12]; rfl
        have d3 : V2.cell? ⟨w2.heap.size + 1, 3, none⟩ = some (.int .i64 D.many) := by rw [cell_of_row _ _ 3 _ _ _ n12]; rfl
        have d4 : V2.cell? ⟨w2.heap.size + 1, 4, none⟩ = some (.string D.lab) := by rw [cell_of_row _ _ 4 _ _ _ n12]; rfl
        have K0 : Kp [w2.heap.size, w2.heap.size + 1] V2 V2 := Kp.refl (by simp; omega)
        have K4 : Kp [w2.heap.size, w2.heap.size + 1] V2 w4 := ⟨hgr.size, K0.lt, fun q hq => by
          have hlt := K0.lt q hq
          have : w2.heap.size ≤ q := by simp at hq; omega
          exact grown_off hgr (c := q) hlt (fun e => by have := (hown _ e).2; omega)⟩
        have gn : ¬ w.heap.size ∈ [w2.heap.size, w2.heap.size + 1] := by simp; omega
        have HK0 := hide K0
        have HK4 := hide K4
        have HR := hide hr
        have HFIN := hide hfin
        have hz2 : w2.heap.size + 1 < V2.heap.size := by omega
        clear hD hx' hk' ht' hf' hp' hd' hb' hfr n11 n12 b3 bD bR hown hr hrow' hgr hat hfin e4 K0 K4 p0 p1 HDO z1 z1' z2 z3 sV2
        go_wp2_with fail
        rw [← hV2]
        clear hV2
        refine wp_region_held_drew (S := fun V => Kp [w2.heap.size, w2.heap.size + 1] V2 V) (by kernel_rfl) HK0.out.drew ?_
        intro hS0
        refine wpAnyH_take (i := 0) (v := .agg #[.string x', .slice ka' (flen k') cap']) rfl (by kernel_rfl) (by kernel_rfl) (by kernel_rfl) (fun _ _ _ h => h) (Or.inl ⟨by rfl, by intro V hSw; have g0 := hSw.cell (by simp) t0; have g1 := hSw.cell (by simp) t1; go_simp⟩) (by assumption) ?_
        refine wpAnyH_take (i := 1) (v := .slice va i vc) rfl (by kernel_rfl) (by kernel_rfl) (by kernel_rfl) (fun _ _ _ h => h) (Or.inl ⟨by rfl, by intro V hSw; go_simp⟩) (by assumption) ?_
        refine wpAnyH_take (i := 2) (v := .agg #[.int .i64 D.kind, .slice pa' D.path.length pc', .int .i64 D.pos, .int .i64 D.many, .string D.lab]) rfl (by kernel_rfl) (by kernel_rfl) (by kernel_rfl) (fun _ _ _ h => h) (Or.inl ⟨by rfl, by intro V hSw; have g0 := hSw.cell (by simp) d0; have g1 := hSw.cell (by simp) d1; have g2 := hSw.cell (by simp) d2; have g3 := hSw.cell (by simp) d3; have g4 := hSw.cell (by simp) d4; go_simp⟩) (by assumption) ?_
        try simp only [Act.put, List.setIfInBounds_toArray]
        refine wpAnyH_ready (rs := [3]) (by kernel_rfl) (by simp) ?_
        refine AllReadyH.cons rfl (fun KK hK => ?_) AllReadyH.nil
        go_simp
        refine hK.out _ _ HK0.out.alloc.drew (fun hHeld => ?_)
        clear hK KK
        try simp only [Act.put, List.setIfInBounds_toArray]
        refine wpAnyH_ready (rs := [4]) (by kernel_rfl) (by simp) ?_
        refine AllReadyH.cons rfl (fun KK hK => ?_) AllReadyH.nil
        refine step_append_run rfl _ _ _ rfl rfl HR.out rfl rfl ?_
        refine hK.out _ _ HK4.out (fun hHeld => ?_)
        clear hK KK
        try simp only [Act.put]
        refine wpAnyH_ready (rs := [5]) (by kernel_rfl) (by simp) ?_
        refine AllReadyH.cons rfl (fun KK hK => ?_) AllReadyH.nil
        go_simp
        refine hK.out _ _ ((HK4.out.set gn).set gn) (fun hHeld => ?_)
        clear hK KK
        try simp only [Act.put, List.setIfInBounds_toArray]
        refine wpAnyH_ready (rs := [6]) (by kernel_rfl) (by simp) ?_
        refine AllReadyH.cons rfl (fun KK hK => ?_) AllReadyH.nil
        go_simp
        refine hK.out _ _ ((HK4.out.set gn).set gn) (fun hHeld => ?_)
        clear hK KK
        refine wpAnyH_done (by kernel_rfl) ?_ _
        go_wp2_with fail
        go_roundg (L.length - (i + 1))
        case measure => omega
        case rel => exact ⟨i + 1, x', ka', cap', k', _, va', vc', rfl, by omega, by go_num, rfl, HFIN⟩
      · have hdo := pdo_any d x ka cap kk pa pc V1 (hI.out.tin.below b1) (hI.out.plain.below b1) hn1 hn2 hn3 (hyd.below b1) hyp hyl
        unfold ddV at hdo
        obtain ⟨c, hc⟩ : ∃ c, c = (doP d x kk).1 := ⟨_, rfl⟩
        have hcb : (c == 0) = false := beq_eq_false_iff_ne.2 (by rw [hc]; exact hc0)
        have hcb2 : (c != 0) = true := by simp [bne, hcb]
        have HE := hide (show runP (dds L) s k = ((c, (i : Int)), noT, []) by
          obtain ⟨bs, f1, _⟩ := hI.out.fw
          have := runP_stop HFT.out (by rw [dds_len]; exact hl) f1 (dds_at hy) (by simp only; rw [doP_strip]; exact hc0)
          simp only [doP_strip] at this
          rw [this, hc])
        have HDO := hide hdo
        have HB := hide (And.intro b1 (And.intro s1 hc.symm))
        clear hdo hy b1 s1 hyd hft hn1 hn2 hn3 hc0 hc
        rw [hV1] at p0 p1
        go_wp2_with fail
        rw [← hV1]
        clear hV1 x0 x1 x2 x3 x4 p0 p1 q00 q01
        refine Calls.mono HDO.out ?_
        rintro e w2 ⟨x', ka', cap', k', pa', pc', rfl, hx', hk', ht', hf', hp', hd', hb'⟩
        rw [HB.out.2.2]
        obtain ⟨D, hD⟩ : ∃ D, D = (doP d x kk).2.2 := ⟨_, rfl⟩
        rw [← hD]
        unfold ddV
        obtain ⟨V2, hV2⟩ : ∃ V2, V2 = (w2.alloc (Obj.cells #[Value.string x', Value.slice ka' (flen k') cap'] 24)).alloc (Obj.cells #[.int .i64 D.kind, .slice pa' D.path.length pc', .int .i64 D.pos, .int .i64 D.many, .string D.lab] 44) := ⟨_, rfl⟩
        obtain ⟨sV2, b3, n11, n12⟩ := boxes2 w2 (Obj.cells #[Value.string x', Value.slice ka' (flen k') cap'] 24) (Obj.cells #[.int .i64 D.kind, .slice pa' D.path.length pc', .int .i64 D.pos, .int .i64 D.many, .string D.lab] 44)
        rw [← hV2] at sV2 b3
        have z1 := HB.out.1.size
        have z1' := HB.out.2.1
        have z2 := hb'.size
        have bR : Below wA.heap.size wA V2 := HB.out.1.trans ((hb'.trans (b3.mono z2)).mono z1)
        have e1 : V2.heap[w.heap.size + 1]? = _ := (bR.block _ (by omega)).trans hI.out.b1
        have e2 : V2.heap[w.heap.size + 1 + 1]? = _ := (bR.block _ (by omega)).trans hI.out.b2
        have q10 : V2.cell? ⟨w.heap.size + 1, 0, none⟩ = some (.string ⟨#[]⟩) := by rw [cell_of_row _ _ 0 _ _ _ e1]; rfl
        have q11 : V2.cell? ⟨w.heap.size + 1, 1, none⟩ = some (.slice none 0 0) := by rw [cell_of_row _ _ 1 _ _ _ e1]; rfl
        have f1 : ∀ o, V2.frozen? ⟨w.heap.size + 1, o, none⟩ = false := fun o => by simp [World.frozen?, e1]
        have f2 : ∀ o, V2.frozen? ⟨w.heap.size + 1 + 1, o, none⟩ = false := fun o => by simp [World.frozen?, e2]
        have q20 : V2.cell? ⟨w.heap.size + 1 + 1, 0, none⟩ = some (.int .i64 0) := by rw [cell_of_row _ _ 0 _ _ _ e2]; rfl
        have q21 : V2.cell? ⟨w.heap.size + 1 + 1, 1, none⟩ = some (.int .i64 0) := by rw [cell_of_row _ _ 1 _ _ _ e2]; rfl
        have HV := hide (hI.out.below.trans (bR.mono (by omega)))
        clear hD hx' hk' ht' hf' hp' hd' hb' n11 n12 b3 bR HDO z1 z1' z2 e1 e2 sV2
        rw [hV2] at q10 q11 q20 q21 f1 f2
        go_wp2_with fail
        rw [← hV2]
        rw [← hV2] at q10 q11 q20 q21 f1 f2
        clear hV2
        rw [HE.out]
        refine bodyPost_ret (v := .tuple #[.agg #[.string ⟨#[]⟩, .slice none 0 0], .slice none 0 0, .agg #[.int .i64 c, .int .i64 (i : Int)]]) (by simp [results, Try.results37, go_sem, *]) rfl (RunEnd.bad ?_)
        exact (((HV.out.setCell (by simp only; omega) _).setCell (by simp only; omega) _).setCell (by simp only; omega) _).setCell (by simp only; omega) _
    · have hie : i = L.length := by omega
      have HE := hide (show runP (dds L) s k = ((0, 0), (x, strip kk), dds A.reverse) by
        obtain ⟨bs, f1, f2⟩ := hI.out.fw
        rw [hie, ← dds_len, List.take_length] at f1
        rw [runP_end HFT.out (by rw [dds_len]; exact hl) f1, dds_rev, f2, List.reverse_reverse])
      have hrv := revD_any (w.heap.size + 3) (.slice va i vc) A wA hI.out.row.own (by have := hI.out.len; omega)
      have HRV := hide hrv
      clear hrv hie
      go_wp2_with fail
      refine Calls.mono HRV.out ?_
      rintro e w2 ⟨rfl, ho, hgr⟩
      have hown : ∀ g, (Value.slice va i vc).ownBlock = some g → w.heap.size + 3 ≤ g ∧ g < wA.heap.size := fun g hg' => ownBlockN_lt hI.out.row.own hg'
      have hrow := hI.out.row.turned hgr ho
      obtain ⟨t2, p2⟩ := TIn.grown hgr (k := kk) hI.out.off hI.out.tin hI.out.plain
      have keep : ∀ q, q < w.heap.size + 3 → w2.heap[q]? = wA.heap[q]? := fun q hq => grown_off hgr (c := q) (by omega) (fun e => by have := (hown _ e).1; omega)
      have bW : Below w.heap.size w w2 := hI.out.below.grown hgr (by omega) (fun g hg' => by have := (hown g hg').1; omega)
      have e0 : w2.heap[w.heap.size]? = _ := (keep _ (by omega)).trans hI.out.box
      have e1 : w2.heap[w.heap.size + 1]? = _ := (keep _ (by omega)).trans hI.out.b1
      have e2 : w2.heap[w.heap.size + 1 + 1]? = _ := (keep _ (by omega)).trans hI.out.b2
      have q00 : w2.cell? ⟨w.heap.size, 0, none⟩ = some (.string x) := by rw [cell_of_row _ _ 0 _ _ _ e0]; rfl
      have q01 : w2.cell? ⟨w.heap.size, 1, none⟩ = some (.slice ka (flen kk) cap) := by rw [cell_of_row _ _ 1 _ _ _ e0]; rfl
      have q10 : w2.cell? ⟨w.heap.size + 1, 0, none⟩ = some (.string ⟨#[]⟩) := by rw [cell_of_row _ _ 0 _ _ _ e1]; rfl
      have q11 : w2.cell? ⟨w.heap.size + 1, 1, none⟩ = some (.slice none 0 0) := by rw [cell_of_row _ _ 1 _ _ _ e1]; rfl
      have f1 : ∀ o, w2.frozen? ⟨w.heap.size + 1, o, none⟩ = false := fun o => by simp [World.frozen?, e1]
      have f2 : ∀ o, w2.frozen? ⟨w.heap.size + 1 + 1, o, none⟩ = false := fun o => by simp [World.frozen?, e2]
      have q20 : w2.cell? ⟨w.heap.size + 1 + 1, 0, none⟩ = some (.int .i64 0) := by rw [cell_of_row _ _ 0 _ _ _ e2]; rfl
      have q21 : w2.cell? ⟨w.heap.size + 1 + 1, 1, none⟩ = some (.int .i64 0) := by rw [cell_of_row _ _ 1 _ _ _ e2]; rfl
      have hlen := hI.out.len
      have hfm := hI.out.frm
      have o1 : FOff (w.heap.size + 1) kk := hfm.off (by omega)
      have o2 : FOff (w.heap.size + 1 + 1) kk := hfm.off (by omega)
      have HT := hide (And.intro t2 (And.intro p2 (And.intro hrow (And.intro bW (And.intro hfm (And.intro o1 (And.intro o2 hlen)))))))
      clear t2 p2 hrow bW hfm o1 o2 ho hgr hown keep e0 e1 e2 HRV hlen hI
      go_wp2_with fail
      rw [HE.out]
      refine bodyPost_ret (v := .tuple #[.agg #[.string x, .slice ka (flen kk) cap], .slice va i vc, .agg #[.int .i64 0, .int .i64 0]]) (by simp [results, Try.results37, go_sem, *]) rfl ?_
      obtain ⟨t2, p2, hrow, bW, hfm, o1, o2, hlen⟩ := HT.out
      have hk : ∀ q, w.heap.size + 3 ≤ q → ((((w2.setCell ⟨w.heap.size + 1, 0, none⟩ (.string x)).setCell ⟨w.heap.size + 1, 1, none⟩ (.slice ka (flen kk) cap)).setCell ⟨w.heap.size + 1 + 1, 0, none⟩ (.int .i64 0)).setCell ⟨w.heap.size + 1 + 1, 1, none⟩ (.int .i64 0)).heap[q]? = w2.heap[q]? := fun q hq => by rw [box2_off (by omega), box2_off (by omega)]
      have hr2 := hrow.keep (fun q hq _ => hk q hq)
      subst hlen
      refine ⟨x, ka, cap, kk, va, vc, A.reverse, by simp, rfl, rfl, rfl, TIn.set (TIn.set (TIn.set (TIn.set t2 o1) o1) o2) o2, hfm.mono (by omega), FPlain.set (FPlain.set (FPlain.set (FPlain.set p2 o1) o1) o2) o2, hr2.ds (by simp), by simp; omega, by unfold maxLen; omega, ?_, fun _ => ?_⟩
      · exact (((bW.setCell (by simp only; omega) _).setCell (by simp only; omega) _).setCell (by simp only; omega) _).setCell (by simp only; omega) _
      · rw [List.length_reverse]
        exact hr2.lower (by omega)

/-- Run, whatever the tree and the deeds. -/
theorem prun_any (L : List Pd) (la : Option Addr) (lc : Nat) (s : ByteArray) (ka : Option Addr) (cap : Nat) (k : Fo) (w : World) (ht : TIn w s ka cap k) (hp : FPlain w k) (hn : 1 + fnodes k ≤ 200) (hlc : L.length ≤ lc) (hlm : lc ≤ maxLen) (hL : DsIn w la L) (hg : ∀ x, x ∈ L → x.1.path.length ≤ 60 ∧ x.1.lab.size ≤ 100) :
    Calls Try.prog 37 #[.agg #[.string s, .slice ka (flen k) cap], .slice la L.length lc] w (RunEnd True (runP (dds L) s k) w) := by
  by_cases h : faultT s k = 0
  · by_cases hl : L.length ≤ 80
    · exact prun_good L la lc s ka cap k w ht hp h hl hlc hlm hL hg
    · exact prun_many L la lc s ka cap k w ht hp hn h (by omega) hlc hlm
  · exact prun_bad L la lc s ka cap k w ht hp hn h
end Go.Proofs.Ytcknganggcbkjab.Deed
namespace Go.Proofs.Ytcknganggcbkjab
open Go.Deep Go.RowKit
set_option linter.unusedVariables false
set_option maxRecDepth 20000

def sameF : Fo → Fo → Bool
  | .nil, .nil => true
  | .node _ _ x k r, .node _ _ y l q => (x.1.toList == y.1.toList && sameF k l) && sameF r q
  | _, _ => false
def sameT (s : ByteArray) (k : Fo) (s' : ByteArray) (k' : Fo) : Bool := s.toList == s'.toList && sameF k k'

/-- What is asked of SameTrees at a list of trees, in whatever world. -/
def SameAt (k : Fo) : Prop := ∀ (ka : Option Addr) (cap : Nat) (ka' : Option Addr) (cap' : Nat) (k' : Fo) (w : World), flen k ≤ maxLen → flen k' ≤ maxLen → KIn w ka k → KIn w ka' k' →
    Calls Try.prog 64 #[.slice ka (flen k) cap, .slice ka' (flen k') cap'] w fun e w' => e = .returned (.bool (sameF k k')) ∧ Below w.heap.size w w'

set_option maxHeartbeats 400000 in
theorem sameTree_of (k : Fo) (h : SameAt k) (s : ByteArray) (ka : Option Addr) (cap : Nat) (s' : ByteArray) (ka' : Option Addr) (cap' : Nat) (k' : Fo) (w : World) (ht : TIn w s ka cap k) (ht' : TIn w s' ka' cap' k') :
    Calls Try.prog 31 #[.agg #[.string s, .slice ka (flen k) cap], .agg #[.string s', .slice ka' (flen k') cap']] w fun e w' => e = .returned (.bool (sameT s k s' k')) ∧ Below w.heap.size w w' := by
  have hbox : Below w.heap.size w ((w.alloc (Obj.cells #[Value.string s, Value.slice ka (flen k) cap] 24)).alloc (Obj.cells #[Value.string s', Value.slice ka' (flen k') cap'] 24)) :=
    ((Below.refl _ _).alloc (Nat.le_refl _) _).alloc (by simp) _
  have hl := Nat.le_trans ht.len ht.cap
  have hl' := Nat.le_trans ht'.len ht'.cap
  have hk := ht.kids.below hbox
  have hk' := ht'.kids.below hbox
  by_cases hs : s.toList = s'.toList
  · have hs1 : (s.toList == s'.toList) = true := beq_iff_eq.2 hs
    clear hs
    go_enter Try.func31, Try.ntmps31
    go_wp2_with fail
    refine (h _ _ _ _ _ _ hl hl' hk hk').mono ?_
    rintro e w1 ⟨rfl, hb1⟩
    go_wp2_with fail
    go_ret
    exact ⟨ret_bool (by simp [sameT, hs1]), hbox.trans (hb1.mono hbox.size)⟩
  · have hs1 : (s.toList == s'.toList) = false := beq_eq_false_iff_ne.2 hs
    clear hs
    go_enter Try.func31, Try.ntmps31
    go_wp2_with fail
    go_ret
    exact ⟨ret_bool (by simp [sameT, hs1]), hbox⟩

theorem sameF_len : ∀ (k l : Fo), sameF k l = true → flen k = flen l
  | .nil, .nil, _ => rfl
  | .nil, .node _ _ _ _ _, h => by simp [sameF] at h
  | .node _ _ _ _ _, .nil, h => by simp [sameF] at h
  | .node _ _ _ _ r, .node _ _ _ _ q, h => by
    simp only [sameF, Bool.and_eq_true] at h
    simp [flen, sameF_len r q h.2]

theorem sameF_step {k l : Fo} {j b o b' o' : Nat} {x y : ByteArray × Option Addr × Nat} {kk ll : Fo} (h : fdrop j k = .node b o x kk (fdrop (j + 1) k)) (h' : fdrop j l = .node b' o' y ll (fdrop (j + 1) l)) :
    sameF (fdrop j k) (fdrop j l) = (sameT x.1 kk y.1 ll && sameF (fdrop (j + 1) k) (fdrop (j + 1) l)) := by
  rw [h, h']; rfl

set_option maxHeartbeats 800000 in
theorem sameTrees_N : ∀ (N : Nat) (k : Fo), fnodes k < N → SameAt k := by
  intro N
  induction N with
  | zero => intro k hN; exact absurd hN (Nat.not_lt_zero _)
  | succ N ih =>
    intro k hN ka cap ka' cap' k' w hl hl' hk hk'
    have HI := hide ih; clear ih
    unfold maxLen at hl hl'
    by_cases hlen : flen k = flen k'
    · have hle : ((flen k : Int) != (flen k' : Int)) = false := by rw [hlen]; simp
      have HL := hide hlen
      clear hlen
      go_enter Try.func64, Try.ntmps64
      go_wp2_with fail
      go_loopw [5] (fun i wr => ∃ j : Nat, j ≤ flen k ∧ i = .int .i64 j ∧ Hid (sameF k k' = sameF (fdrop j k) (fdrop j k')) ∧ Below w.heap.size w wr) (fun i _ => flen k - (intOf i).toNat)
      case atStart => exact ⟨0, Nat.zero_le _, rfl, rfl, Below.refl _ _⟩
      case round =>
        obtain ⟨j, hj, rfl, hF, hb⟩ := hrel
        obtain ⟨hcell, hfr⟩ := bcell hb
        by_cases hlt : j < flen k
        · rcases hk with rfl | ⟨kb, ko, rfl, hk⟩
          · exact absurd hlt (Nat.not_lt_zero _)
          have hlt' : j < flen k' := by have := HL.out; omega
          rcases hk' with rfl | ⟨kb', ko', rfl, hk'⟩
          · exact absurd hlt' (Nat.not_lt_zero _)
          obtain ⟨b1, o1, x, kk, he, hc0, hc1, htin, hbb⟩ := hk.at hlt
          obtain ⟨b2, o2, y, ll, he', hd0, hd1, htin', hbb'⟩ := hk'.at hlt'
          have HE := hide he
          have HF := hide (sameF_step he he')
          clear he he'
          have hn : fnodes kk < N := by have := fnodes_of_drop HE.out; omega
          have hS : ∀ w', Below w.heap.size w w' → (w'.cell? ⟨kb, ko + j * 2, none⟩ = some (.string x.1) ∧ w'.cell? ⟨kb, ko + j * 2 + 1, none⟩ = some (.slice x.2.1 (flen kk) x.2.2) ∧
              w'.cell? ⟨kb', ko' + j * 2, none⟩ = some (.string y.1) ∧ w'.cell? ⟨kb', ko' + j * 2 + 1, none⟩ = some (.slice y.2.1 (flen ll) y.2.2)) := fun w' h =>
            ⟨(h.cell hbb).trans hc0, (h.cell hbb).trans hc1, (h.cell hbb').trans hd0, (h.cell hbb').trans hd1⟩
          have HS := hide hS
          clear hS
          cases hq : sameT x.1 kk y.1 ll
          · have HQ := hide hq
            clear hq
            go_wp2_with fail
            go_region_held3 (fun w' => w'.cell? ⟨kb, ko + j * 2, none⟩ = some (.string x.1) ∧ w'.cell? ⟨kb, ko + j * 2 + 1, none⟩ = some (.slice x.2.1 (flen kk) x.2.2) ∧
                w'.cell? ⟨kb', ko' + j * 2, none⟩ = some (.string y.1) ∧ w'.cell? ⟨kb', ko' + j * 2 + 1, none⟩ = some (.slice y.2.1 (flen ll) y.2.2))
              (first | exact HS.out _ hb.drew | exact HS.out _ (hb.drew.trans (hb1.mono hb.drew.size)))
              ((go_at_call 31; refine (sameTree_of _ (HI.out _ hn) _ _ _ _ _ _ _ _ (htin.below hb.drew) (htin'.below hb.drew)).mono ?_; rintro e w1 ⟨rfl, hb1⟩; rw [HQ.out]))
            go_wp2_with fail
            go_ret
            exact ⟨ret_bool (by have h1 := hF.out; have h2 := HF.out; rw [h1, h2, show sameT x.1 kk y.1 ll = false from HQ.out]; rfl), hb.drew.trans (hb1.mono hb.drew.size)⟩
          · have HQ := hide hq
            clear hq
            go_wp2_with fail
            go_region_held3 (fun w' => w'.cell? ⟨kb, ko + j * 2, none⟩ = some (.string x.1) ∧ w'.cell? ⟨kb, ko + j * 2 + 1, none⟩ = some (.slice x.2.1 (flen kk) x.2.2) ∧
                w'.cell? ⟨kb', ko' + j * 2, none⟩ = some (.string y.1) ∧ w'.cell? ⟨kb', ko' + j * 2 + 1, none⟩ = some (.slice y.2.1 (flen ll) y.2.2))
              (first | exact HS.out _ hb.drew | exact HS.out _ (hb.drew.trans (hb1.mono hb.drew.size)))
              ((go_at_call 31; refine (sameTree_of _ (HI.out _ hn) _ _ _ _ _ _ _ _ (htin.below hb.drew) (htin'.below hb.drew)).mono ?_; rintro e w1 ⟨rfl, hb1⟩; rw [HQ.out]))
            have hb2 : Below w.heap.size w w1 := hb.drew.trans (hb1.mono hb.drew.size)
            go_wp2_with fail
            go_roundw
            case rel => exact ⟨j + 1, by omega, by go_num, by have h1 := hF.out; have h2 := HF.out; rw [h1, h2, show sameT x.1 kk y.1 ll = true from HQ.out]; rfl, hb2⟩
            case measure => simp [intOf]; omega
        · go_wp2_with fail
          go_ret
          exact ⟨ret_bool (by have h1 := hF.out; have h2 := HL.out; rw [fdrop_end j k (by omega), fdrop_end j k' (by omega)] at h1; rw [h1]; rfl), hb⟩
    · have hle : ((flen k : Int) != (flen k' : Int)) = true := by simp; omega
      have HL := hide hlen
      clear hlen
      go_enter Try.func64, Try.ntmps64
      go_wp2_with fail
      go_ret
      exact ⟨ret_bool (by have h := HL.out; cases hq : sameF k k' with | false => rfl | true => exact absurd (sameF_len _ _ hq) h), Below.refl _ _⟩

theorem sameTrees_any (k : Fo) : SameAt k := sameTrees_N _ k (Nat.lt_succ_self _)

theorem sameTree_any (s : ByteArray) (ka : Option Addr) (cap : Nat) (k : Fo) (s' : ByteArray) (ka' : Option Addr) (cap' : Nat) (k' : Fo) (w : World) (ht : TIn w s ka cap k) (ht' : TIn w s' ka' cap' k') :
    Calls Try.prog 31 #[.agg #[.string s, .slice ka (flen k) cap], .agg #[.string s', .slice ka' (flen k') cap']] w fun e w' => e = .returned (.bool (sameT s k s' k')) ∧ Below w.heap.size w w' :=
  sameTree_of k (sameTrees_any k) s ka cap s' ka' cap' k' w ht ht'

end Go.Proofs.Ytcknganggcbkjab
