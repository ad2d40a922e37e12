/- The reader of package text: a tree. Of the program's text. -/
import Derived.Test.YtafojlockiekfaaProg
import Derived.Test.YtafojlockiekfaaRdL
import Derived.Test.YtafojlockiekfaaKInv
import Derived.Test.YtafojlockiekfaaOwnRef
import Derived.Deep.RegionHeld3
namespace Go.Proofs.Ytafojlockiekfaa
open Go.Deep Go.RowKit
set_option linter.unusedVariables false
set_option maxRecDepth 20000

/-- What a tree's reading comes to. -/
def TreeEnd (b : Nat) (s : ByteArray) (N a p : Nat) (w : World) (e : Ending) (w' : World) : Prop :=
  (∃ c q, rdT N a (rst s p) = .bad c (rst s q) ∧ 0 < c ∧ p ≤ q ∧ q ≤ s.size ∧ e = .panicked [{ v := stopV c q, recovered := false }]) ∨
  (∃ x k ka cap k' q, rdT N a (rst s p) = .ok (x, k) (rst s q) ∧ x.size ≤ s.size ∧ p < q ∧ q ≤ s.size ∧ e = .returned (.agg #[.string x, .slice ka (flen k') cap]) ∧ strip k' = k ∧ TIn w' x ka cap k' ∧ FFrom w.heap.size k' ∧ FPlain w' k' ∧ RAt b s q w')

def ReadsAt (N : Nat) : Prop := ∀ (b : Nat) (s : ByteArray) (a p : Nat) (w : World), RAt b s p w → p ≤ s.size → s.size ≤ 4000 → a ≤ 100 → 2 * (s.size - p) + 1 ≤ N →
    Calls Try.prog 67 #[.pointer (some ⟨b, 0, none⟩), .int .i64 a] w fun e w' => TreeEnd b s N a p w e w' ∧ Keeps [b] w w'

theorem rdT_deep {N a : Nat} {l : List UInt8} (h : 10 < a) : rdT (N + 1) a l = .bad 3 l := by
  unfold rdT
  rw [if_pos h]
theorem rdT_bad {N a c : Nat} {l r : List UInt8} (h : ¬ 10 < a) (hl : rdL l = .bad c r) : rdT (N + 1) a l = .bad c r := by
  unfold rdT
  rw [if_neg h, hl]
theorem rdT_leaf {N a : Nat} {l r : List UInt8} {x : ByteArray} (h : ¬ 10 < a) (hl : rdL l = .ok x r) (he : eat 40 r = none) : rdT (N + 1) a l = .ok (x, .nil) (skip r) := by
  unfold rdT
  rw [if_neg h, hl]
  simp only
  rw [he]
theorem rdT_kids {N a : Nat} {l r q : List UInt8} {x : ByteArray} (h : ¬ 10 < a) (hl : rdL l = .ok x r) (he : eat 40 r = some q) : rdT (N + 1) a l = (rdK N (a + 1) q).map fun k => (x, k) := by
  unfold rdT
  rw [if_neg h, hl]
  simp only
  rw [he]
theorem rdK_bad {N a c : Nat} {l r : List UInt8} (h : rdT N a l = .bad c r) : rdK (N + 1) a l = .bad c r := by
  unfold rdK
  rw [h]
theorem rdK_end {N a : Nat} {l r q : List UInt8} {x : ByteArray × Fo} (h : rdT N a l = .ok x r) (he : eat 41 r = some q) : rdK (N + 1) a l = .ok (.node 0 0 (x.1, none, 0) x.2 .nil) q := by
  unfold rdK
  rw [h]
  simp only
  rw [he]
theorem rdK_more {N a : Nat} {l r : List UInt8} {x : ByteArray × Fo} (h : rdT N a l = .ok x r) (he : eat 41 r = none) : rdK (N + 1) a l = (rdK N a (skip r)).map fun f => .node 0 0 (x.1, none, 0) x.2 f := by
  rw [rdK, h]
  simp only
  rw [he]

theorem reads_bad {N : Nat} (h : ReadsAt N) {b : Nat} {s : ByteArray} {a p c : Nat} {r : List UInt8} {w : World} (hr : RAt b s p w) (hp : p ≤ s.size) (hs : s.size ≤ 4000) (ha : a ≤ 100) (hN : 2 * (s.size - p) + 1 ≤ N) (hT : rdT N a (rst s p) = .bad c r) :
    Calls Try.prog 67 #[.pointer (some ⟨b, 0, none⟩), .int .i64 a] w fun e w' => ∃ q, r = rst s q ∧ 0 < c ∧ p ≤ q ∧ q ≤ s.size ∧ e = .panicked [{ v := stopV c q, recovered := false }] ∧ Keeps [b] w w' := by
  refine (h b s a p w hr hp hs ha hN).mono ?_
  rintro e w' ⟨he, hk⟩
  rcases he with ⟨c', q, h1, h2, h3, h4, h5⟩ | ⟨x, k, ka, cap, k', q, h1, _⟩
  · rw [hT] at h1
    cases h1
    exact ⟨q, rfl, h2, h3, h4, h5, hk⟩
  · rw [hT] at h1
    cases h1
theorem reads_ok {N : Nat} (h : ReadsAt N) {b : Nat} {s : ByteArray} {a p : Nat} {x : ByteArray} {k : Fo} {r : List UInt8} {w : World} (hr : RAt b s p w) (hp : p ≤ s.size) (hs : s.size ≤ 4000) (ha : a ≤ 100) (hN : 2 * (s.size - p) + 1 ≤ N) (hT : rdT N a (rst s p) = .ok (x, k) r) :
    Calls Try.prog 67 #[.pointer (some ⟨b, 0, none⟩), .int .i64 a] w fun e w' => ∃ ka cap k' q, r = rst s q ∧ p < q ∧ q ≤ s.size ∧ e = .returned (.agg #[.string x, .slice ka (flen k') cap]) ∧ strip k' = k ∧ TIn w' x ka cap k' ∧ FFrom w.heap.size k' ∧ FPlain w' k' ∧ RAt b s q w' ∧ Keeps [b] w w' := by
  refine (h b s a p w hr hp hs ha hN).mono ?_
  rintro e w' ⟨he, hk⟩
  rcases he with ⟨c', q, h1, h2, h3, h4, h5⟩ | ⟨x', k2, ka, cap, k', q, h1, h2, h3, h4, h5, h6, h7, h8, h9, h10⟩
  · rw [hT] at h1
    cases h1
  · rw [hT] at h1
    cases h1
    exact ⟨ka, cap, k', q, rfl, h3, h4, h5, h6, h7, h8, h9, h10, hk⟩

theorem RAt.but {b g : Nat} {s : ByteArray} {p : Nat} {w w' : World} (h : RAt b s p w) (hg : b ≠ g) (hb : ∀ i, i < w.heap.size → i ≠ g → w'.heap[i]? = w.heap[i]?) : RAt b s p w' := by
  have := hb b h.lt hg
  unfold RAt at *
  rw [this]; exact h

theorem lt_of_heap {w : World} {i : Nat} {o : Obj} (h : w.heap[i]? = some o) : i < w.heap.size := by
  rcases Nat.lt_or_ge i w.heap.size with h' | h'
  · exact h'
  · rw [Array.getElem?_eq_none h'] at h; cases h

/-- The tree is told. -/
theorem tree_told {b : Nat} {s : ByteArray} {N a p q B rb : Nat} {w wr : World} {x : ByteArray} {v : Value} {L : List It} {k : Fo} (hw : w.heap.size = rb) (hB : rb < B) (hbl : b < rb) (hs : s.size ≤ 4000) (hx : x.size ≤ s.size) (hpq : p < q) (hq : q ≤ s.size)
    (hK : KInv 24 B wr v L) (hr : RAt b s q wr) (hk : Keeps [b] w wr) (hR : rdT N a (rst s p) = .ok (x, k) (rst s q)) (hj : strip (joinF L .nil) = k) :
    ∃ ka cap k', v = .slice ka (flen k') cap ∧ TreeEnd b s N a p w (.returned (.agg #[.string x, .slice ka (flen k') cap])) ((wr.setCell ⟨rb, 0, none⟩ (.string x)).setCell ⟨rb, 1, none⟩ v) ∧ Keeps [b] w ((wr.setCell ⟨rb, 0, none⟩ (.string x)).setCell ⟨rb, 1, none⟩ v) := by
  obtain ⟨ka, cap, k', hv, h1, h2, h3, h4, h5, h6⟩ := hK.done
  refine ⟨ka, cap, k', hv, Or.inr ⟨x, k, ka, cap, k', q, hR, hx, hpq, hq, rfl, h1.trans hj, ?_, h5.mono (by omega), ?_, ?_⟩, ?_⟩
  · exact TIn.but (g := rb) (set2_but _ _ _ _ _ _) (h5.off hB) ⟨by unfold maxLen; omega, h2, h3, h4⟩
  · exact FPlain.but (g := rb) (set2_but _ _ _ _ _ _) (h5.off hB) h6
  · exact hr.but (by omega) (set2_but _ rb 0 1 _ _)
  · exact hk.below (((Below.refl _ _).setCell (p := ⟨rb, 0, none⟩) (by simp; omega) _).setCell (p := ⟨rb, 1, none⟩) (by simp; omega) _)

set_option maxHeartbeats 4000000 in
theorem reads_upto : ∀ N n : Nat, n < N → ReadsAt n := by
  intro N
  induction N with
  | zero => intro n hn; omega
  | succ N ih =>
    intro n hn b s a p w hr hp hs ha hN
    have HI := hide ih; clear ih
    have hlb := hr.lt
    obtain ⟨m, rfl⟩ : ∃ m, n = m + 1 := ⟨n - 1, by omega⟩
    by_cases h10 : 10 < a
    · have hd : (10 : Int) < (a : Int) := by omega
      go_enter Try.func67, Try.ntmps67
      go_wp2_with fail
      refine (giveUp_any b s p (3 : Nat) _ (hr.below ((Below.refl _ _).alloc (Nat.le_refl _) _))).mono ?_
      rintro e w2 ⟨rfl, hk2⟩
      go_wp2_with fail
      exact ⟨rfl, Or.inl ⟨3, p, rdT_deep h10, by omega, Nat.le_refl _, hp, rfl⟩, (Keeps.of_below ((Below.refl _ _).alloc (Nat.le_refl _) _)).trans hk2⟩
    have hd : ¬ (10 : Int) < (a : Int) := by omega
    have hwr : IntKind.i64.wrap ((a : Int) + 1) = (a : Int) + 1 := by rw [IntKind.wrap_i64]; omega
    have hbx : Below w.heap.size w (w.alloc (Obj.cells #[Value.string ⟨#[]⟩, Value.slice none 0 0] 24)) := (Below.refl _ _).alloc (Nat.le_refl _) _
    go_enter Try.func67, Try.ntmps67
    go_wp2_with fail
    refine (label_reads b s p _ (hr.below hbx) hp hs).mono ?_
    rintro e w1 ⟨hlab, hk1⟩
    rcases hlab with ⟨c, q, hL, hc, hpq, hq, rfl⟩ | ⟨x, q, hL, hxs, hpq, hq, rfl, hr1⟩
    · go_wp2_with fail
      exact ⟨rfl, Or.inl ⟨c, q, rdT_bad h10 hL, by omega, hpq, hq, rfl⟩, (Keeps.of_below hbx).trans hk1⟩
    have HL := hide hL
    clear hL
    have hne : w.heap.size ≠ b := by omega
    have hz1 := hk1.size
    simp at hz1
    have hb0 : w1.heap[w.heap.size]? = some (Obj.cells #[Value.string ⟨#[]⟩, Value.slice none 0 0] 24) := by
      rw [hk1.block _ (by simp) (by simpa using hne)]
      exact heap_alloc_new _ _
    have hbx1 : Below w1.heap.size w1 (w1.alloc (Obj.cells #[Value.string x, Value.slice none 0 0] 24)) := (Below.refl _ _).alloc (Nat.le_refl _) _
    have hKW : Keeps [b] w (w1.alloc (Obj.cells #[Value.string x, Value.slice none 0 0] 24)) := ((Keeps.of_below hbx).trans hk1).trans (Keeps.of_below hbx1)
    go_wp2_with fail
    refine (comes_any b s q 40 _ (hr1.below hbx1) hq (by unfold maxLen; omega)).mono ?_
    rintro e w2 ⟨y, q2, rfl, hq1, hq2, he, hy0, hy1, hr2, hk2⟩
    have hT2 : w2.heap[w1.heap.size]? = some (Obj.cells #[Value.string x, Value.slice none 0 0] 24) := by
      rw [hk2.block _ (by simp) (by simp; omega)]
      exact heap_alloc_new _ _
    have hR2 : w2.heap[w.heap.size]? = some (Obj.cells #[Value.string ⟨#[]⟩, Value.slice none 0 0] 24) := by
      rw [hk2.block _ (by simp; omega) (by simp; omega), Below.heap_alloc _ _ _ (by omega)]
      exact hb0
    have hKW2 := hKW.trans hk2
    clear hk2 hbx1 hKW hb0 hk1 hr1 hr hbx
    cases y with
    | false =>
      have t0 : w2.cell? ⟨w1.heap.size, 0, none⟩ = some (.string x) := by rw [cell_of_row _ _ 0 _ _ _ hT2]; rfl
      have t1 : w2.cell? ⟨w1.heap.size, 1, none⟩ = some (.slice none 0 0) := by rw [cell_of_row _ _ 1 _ _ _ hT2]; rfl
      have r0 : w2.cell? ⟨w.heap.size, 0, none⟩ = some (.string ⟨#[]⟩) := by rw [cell_of_row _ _ 0 _ _ _ hR2]; rfl
      have r1 : w2.cell? ⟨w.heap.size, 1, none⟩ = some (.slice none 0 0) := by rw [cell_of_row _ _ 1 _ _ _ hR2]; rfl
      have f0 : ∀ o, w2.frozen? ⟨w.heap.size, o, none⟩ = false := fun o => by simp [World.frozen?, hR2]
      have HE := hide (rdT_leaf (N := m) h10 HL.out (by simpa using he))
      have HS := hide (hy0 rfl)
      obtain ⟨ka, cap, k', hv, hend, hkeep⟩ := tree_told (B := w.heap.size + 1) (w := w) (wr := w2) (N := m + 1) (a := a) (p := p) (x := x) (L := []) (k := .nil) rfl (by omega) hlb hs hxs (by omega) hq2 (KInv.start _ _ _) hr2 hKW2 (by rw [HE.out, HS.out]) rfl
      have HEND := hide hend
      have HKEEP := hide hkeep
      have HV := hide hv
      clear he hy0 hy1 hend hkeep hr2 hKW2 hv
      go_wp2_with fail
      refine bodyPost_ret (v := .agg #[.string x, .slice none 0 0]) (by simp [results, Try.results67, go_sem, *]) rfl ⟨?_, HKEEP.out⟩
      have hend := HEND.out
      rw [← HV.out] at hend
      exact hend
    | true =>
      have HE := hide (rdT_kids (N := m) h10 HL.out (by simpa using he))
      have hlt2 := hy1 rfl
      clear he hy0 hy1 HL
      generalize hrb : w.heap.size = rb at *
      generalize htb : w1.heap.size = tb at *
      have HRB := hide hrb
      clear hrb htb
      go_wp2_with fail
      go_loopg [] (s.size - q2) (fun gk wr => ∃ (L : List It) (v : Value) (p' M : Nat), gk = s.size - p' ∧ q2 ≤ p' ∧ p' ≤ s.size ∧ KInv 24 (tb + 1) wr v L ∧ wr.heap[tb]? = some (Obj.cells #[Value.string x, v] 24) ∧ wr.heap[rb]? = some (Obj.cells #[Value.string ⟨#[]⟩, Value.slice none 0 0] 24) ∧ RAt b s p' wr ∧ Keeps [b] w wr ∧
        Hid (rdK m (a + 1) (rst s q2) = (rdK M (a + 1) (rst s p')).map (joinS L)) ∧ 2 * (s.size - p') + 2 ≤ M ∧ M ≤ m ∧ L.length ≤ p')
      case atStart =>
        refine ⟨[], .slice none 0 0, q2, m, rfl, Nat.le_refl _, hq2, KInv.start _ _ _, hT2, hR2, hr2, hKW2, ?_, by omega, Nat.le_refl _, Nat.zero_le _⟩
        show _ = _
        have hbare := (bare_all m).2 (a + 1) (rst s q2)
        cases hq : rdK m (a + 1) (rst s q2) with
        | bad c r => rfl
        | ok f r =>
          rw [hq] at hbare
          have hf : strip f = f := hbare
          simp [Rd.map, joinS, joinF, hf]
      case round =>
        obtain ⟨L, v, p', M, hgk, hp1, hp2, hK, hT, hR, hra, hkk, hrun, hM, hMm, hLl⟩ := hrel
        clear hT2 hR2 hr2 hKW2
        obtain ⟨M', rfl⟩ : ∃ M', M = M' + 1 := ⟨M - 1, by omega⟩
        have t0 : wr.cell? ⟨tb, 0, none⟩ = some (.string x) := by rw [cell_of_row _ _ 0 _ _ _ hT]; rfl
        have t1 : wr.cell? ⟨tb, 1, none⟩ = some v := by rw [cell_of_row _ _ 1 _ _ _ hT]; rfl
        have hrl := lt_of_heap hR
        have htl := lt_of_heap hT
        have hoffs : ∀ g0, v.ownBlock = some g0 → g0 < wr.heap.size := fun g0 hg0 => (ownBlock_lt hK.row hg0).2
        obtain ⟨i24, hi24, hz0, hz1', hz2⟩ := info_parts Try.infoTree
        have hKI := hK
        clear hK
        cases hq : rdT M' (a + 1) (rst s p') with
        | bad c r =>
          have HQ := hide hq
          clear hq
          go_wp2_with fail
          refine wp_region_any (by kernel_rfl) ?_
          change wpAny _ _ _ _ _ _ _ (World.drew _)
          refine wpAny_take (i := 0) (v := .pointer (some ⟨tb, 1, none⟩)) rfl (by kernel_rfl) (by kernel_rfl) (by kernel_rfl) (fun _ _ _ h => h) (Or.inl ⟨by rfl, by intro w; go_simp⟩) ?_
          refine wpAny_take (i := 2) (v := .pointer (some ⟨b, 0, none⟩)) rfl (by kernel_rfl) (by kernel_rfl) (by kernel_rfl) (fun _ _ _ h => h) (Or.inl ⟨by rfl, by intro w; go_simp⟩) ?_
          refine wpAny_take (i := 3) (v := .int .i64 a) rfl (by kernel_rfl) (by kernel_rfl) (by kernel_rfl) (fun _ _ _ h => h) (Or.inl ⟨by rfl, by intro w; go_simp⟩) ?_
          refine wpAny_take (i := 4) (v := .int .i64 (a + 1)) rfl (by kernel_rfl) (by kernel_rfl) (by kernel_rfl) (fun _ _ _ h => h) (Or.inl ⟨by rfl, by intro w; go_simp⟩) ?_
          simp only [Act.put, List.setIfInBounds_toArray]
          refine wpAny_ready (rs := [1, 5]) (by kernel_rfl) (by simp) ?_
          refine AllReady.cons rfl (fun K hK => ?_) (AllReady.cons rfl (fun K hK => ?_) AllReady.nil)
          · go_simp
            refine hK _ _ ?_
            clear hK K
            refine wpAny_ready (rs := [5]) (by kernel_rfl) (by simp) ?_
            refine AllReady.cons rfl (fun K hK => ?_) AllReady.nil
            go_simp
            refine (reads_bad (HI.out M' (by omega)) (hra.below (Below.refl _ _).drew) hp2 hs (by omega) (by omega) HQ.out).mono ?_
            rintro e w3 ⟨q3, hr3, hc3, hlt3, hq3, rfl, hk3⟩
            refine ⟨rfl, Or.inl ⟨c, q3, ?_, hc3, by omega, hq3, rfl⟩, (hkk.trans (Keeps.of_below (Below.refl _ _).drew)).trans hk3⟩
            have h1 := HQ.out
            rw [hr3] at h1
            rw [HE.out, hrun.out, rdK_bad h1]
            rfl
          · go_simp
            refine (reads_bad (HI.out M' (by omega)) (hra.below (Below.refl _ _).drew) hp2 hs (by omega) (by omega) HQ.out).mono ?_
            rintro e w3 ⟨q3, hr3, hc3, hlt3, hq3, rfl, hk3⟩
            refine ⟨rfl, Or.inl ⟨c, q3, ?_, hc3, by omega, hq3, rfl⟩, (hkk.trans (Keeps.of_below (Below.refl _ _).drew)).trans hk3⟩
            have h1 := HQ.out
            rw [hr3] at h1
            rw [HE.out, hrun.out, rdK_bad h1]
            rfl
        | ok y r =>
          have HQ := hide hq
          clear hq
          go_wp2_with fail
          refine wp_region_any (by kernel_rfl) ?_
          change wpAny _ _ _ _ _ _ _ (World.drew _)
          refine wpAny_take (i := 0) (v := .pointer (some ⟨tb, 1, none⟩)) rfl (by kernel_rfl) (by kernel_rfl) (by kernel_rfl) (fun _ _ _ h => h) (Or.inl ⟨by rfl, by intro w; go_simp⟩) ?_
          refine wpAny_take (i := 2) (v := .pointer (some ⟨b, 0, none⟩)) rfl (by kernel_rfl) (by kernel_rfl) (by kernel_rfl) (fun _ _ _ h => h) (Or.inl ⟨by rfl, by intro w; go_simp⟩) ?_
          refine wpAny_take (i := 3) (v := .int .i64 a) rfl (by kernel_rfl) (by kernel_rfl) (by kernel_rfl) (fun _ _ _ h => h) (Or.inl ⟨by rfl, by intro w; go_simp⟩) ?_
          refine wpAny_take (i := 4) (v := .int .i64 (a + 1)) rfl (by kernel_rfl) (by kernel_rfl) (by kernel_rfl) (fun _ _ _ h => h) (Or.inl ⟨by rfl, by intro w; go_simp⟩) ?_
          simp only [Act.put, List.setIfInBounds_toArray]
          refine wpAny_ready (rs := [1, 5]) (by kernel_rfl) (by simp) ?_
          refine AllReady.cons rfl (fun K hK => ?_) (AllReady.cons rfl (fun K hK => ?_) AllReady.nil)
          · go_simp
            refine hK _ _ ?_
            clear hK K
            refine wpAny_ready (rs := [5]) (by kernel_rfl) (by simp) ?_
            refine AllReady.cons rfl (fun K hK => ?_) AllReady.nil
            go_simp
            refine (reads_ok (HI.out M' (by omega)) (hra.below (Below.refl _ _).drew) hp2 hs (by omega) (by omega) HQ.out).mono ?_
            rintro e w3 ⟨ka', cap', k', q3, hr3, hlt3, hq3, rfl, hst3, ht3, hfr3, hpl3, hra3, hk3⟩
            have hT3 : w3.heap[tb]? = some (Obj.cells #[Value.string x, v] 24) := by rw [hk3.block _ htl (by simp; omega)]; exact hT
            have hR3 : w3.heap[rb]? = some (Obj.cells #[Value.string ⟨#[]⟩, Value.slice none 0 0] 24) := by rw [hk3.block _ hrl (by simp; omega)]; exact hR
            have hK3 := (hKI.but (g0 := b) (by omega) (fun i _ _ => rfl) : KInv 24 (tb + 1) wr.drew v L).keeps (by omega) hk3
            have hkw3 := (hkk.trans (Keeps.of_below (Below.refl _ _).drew)).trans hk3
            have hz3 : wr.heap.size ≤ w3.heap.size := hk3.size
            have t13 : w3.cell? ⟨tb, 1, none⟩ = some v := by rw [cell_of_row _ _ 1 _ _ _ hT3]; rfl
            have t14 : ∀ o, (w3.alloc o).cell? ⟨tb, 1, none⟩ = some v := fun o => by rw [World.cell?_alloc_some _ _ _ (by rw [t13]; rfl)]; exact t13
            have HST := hide hst3
            have HR3 := hide hr3
            have HK3 := hide hK3
            clear hst3 hr3 hK3
            refine hK _ _ ?_
            clear hK K
            refine wpAny_ready (rs := [6]) (by kernel_rfl) (by simp) ?_
            refine AllReady.cons rfl (fun K hK => ?_) AllReady.nil
            go_simp
            refine hK _ _ ?_
            clear hK K
            refine wpAny_ready (rs := [7]) (by kernel_rfl) (by simp) ?_
            refine AllReady.cons rfl (fun K hK => ?_) AllReady.nil
            refine step_append_lies _ rfl (.tmp 18) (.tmp 23) 22 rfl (tb + 1) 24 i24 _ 2 40 Try.underlying22 hi24 hz0 hz1' hz2 rfl (by decide) _ L.length (rowCells L) rfl (ownsRow_below HK3.out.row ((Below.refl _ _).alloc (Nat.le_refl _) _)) ⟨w3.heap.size, 0, none⟩ 1 1 (itCells (y.1, ka', cap', k')) rfl rfl (own_news w3 24 (y.1, ka', cap', k')) (own_one _) (by decide) (by unfold maxLen; omega) (by omega) (by simp; omega) (w3.heap.size + 1) (by simp) ?_
            intro g cap2 w4 hown hgrow hat hlt4
            obtain ⟨k0, f0, hK5, hT5, hR5, hO5, hk5⟩ := kids_step (q0 := wr.heap.size) HRB.out (by omega) hlb htl HK3.out hoffs hT3 hR3 hra3 hkw3 ht3 hpl3 hfr3 hown hgrow hat
            have hra5 : RAt b s q3 _ := hO5
            have HK5 := hide hK5
            have HT5 := hide hT5
            have HR5 := hide hR5
            have HA5 := hide hra5
            have HKW5 := hide hk5
            clear hK5 hT5 hR5 hO5 hra5 hk5 hown hgrow hat ht3 hpl3 hfr3 hra3 hk3 HK3 hT3 hR3 hkw3 t13 t14
            refine hK _ _ ?_
            clear hK K
            simp only [Act.put, List.setIfInBounds_toArray]
            refine wpAny_ready (rs := [8]) (by kernel_rfl) (by simp) ?_
            refine AllReady.cons rfl (fun K hK => ?_) AllReady.nil
            go_simp
            refine hK _ _ ?_
            clear hK K
            refine wpAny_ready (rs := [9]) (by kernel_rfl) (by simp) ?_
            refine AllReady.cons rfl (fun K hK => ?_) AllReady.nil
            go_simp
            refine hK _ _ ?_
            clear hK K
            refine wpAny_done (by kernel_rfl) ?_ _
            go_wp2_with fail
            refine (comes_any b s q3 41 _ HA5.out hq3 (by unfold maxLen; omega)).mono ?_
            rintro e w6 ⟨y2, q4, rfl, h41, h42, he4, hy40, hy41, hr6, hk6⟩
            have hT6 := (hk6.block tb (lt_of_heap HT5.out) (by simp; omega)).trans HT5.out
            have hR6 := (hk6.block rb (lt_of_heap HR5.out) (by simp; omega)).trans HR5.out
            have hK6 := HK5.out.keeps (by omega) hk6
            have hkw6 := HKW5.out.trans hk6
            have hq := HQ.out
            rw [HR3.out] at hq
            have hbare := (bare_all M').1 (a + 1) (rst s p')
            rw [hq] at hbare
            have hb2 : strip y.2 = y.2 := hbare
            cases y2 with
            | false =>
              have HRUN := hide (show rdK m (a + 1) (rst s q2) = (rdK M' (a + 1) (rst s q4)).map (joinS (L ++ [(y.1, ka', cap', k')])) by
                rw [hrun.out, rdK_more hq (by simpa using he4), hy40 rfl, Rd.map_map]
                congr 1
                funext f
                exact joinS_snoc L y.1 ka' cap' y.2 k' f HST.out hb2)
              clear hq hbare
              go_wp2_with fail
              go_roundg (s.size - q4)
              case measure => omega
              case rel => exact ⟨_, _, q4, M', rfl, by omega, h42, hK6, hT6, hR6, hr6, hkw6, HRUN, by omega, by omega, by simp; omega⟩
            | true =>
              have t0 : w6.cell? ⟨tb, 0, none⟩ = some (.string x) := by rw [cell_of_row _ _ 0 _ _ _ hT6]; rfl
              have t1 : w6.cell? ⟨tb, 1, none⟩ = some (.slice (some ⟨g, 0, none⟩) (L.length + 1) cap2) := by rw [cell_of_row _ _ 1 _ _ _ hT6]; rfl
              have r0 : w6.cell? ⟨rb, 0, none⟩ = some (.string ⟨#[]⟩) := by rw [cell_of_row _ _ 0 _ _ _ hR6]; rfl
              have r1 : w6.cell? ⟨rb, 1, none⟩ = some (.slice none 0 0) := by rw [cell_of_row _ _ 1 _ _ _ hR6]; rfl
              have fr : ∀ o, w6.frozen? ⟨rb, o, none⟩ = false := fun o => by simp [World.frozen?, hR6]
              obtain ⟨ka, cap, k2, hv, hend, hkeep⟩ := tree_told (B := tb + 1) (w := w) (wr := w6) (N := m + 1) (a := a) (p := p) (x := x) (L := L ++ [(y.1, ka', cap', k')]) (k := joinS L (.node 0 0 (y.1, none, 0) y.2 .nil)) HRB.out (by omega) hlb hs hxs (by omega) h42 hK6 hr6 hkw6
                (by rw [HE.out, hrun.out, rdK_end hq (by simpa using he4)]; rfl) (joinS_snoc L y.1 ka' cap' y.2 k' .nil HST.out hb2).symm
              have HV := hide hv
              have HEND := hide hend
              have HKEEP := hide hkeep
              clear hq hbare he4 hy40 hy41 hend hkeep hr6 hkw6 hK6 hk6 hT6 hR6 hv
              go_wp2_with fail
              refine bodyPost_ret (v := .agg #[.string x, .slice (some ⟨g, 0, none⟩) (L.length + 1) cap2]) (by simp [results, Try.results67, go_sem, *]) rfl ⟨?_, HKEEP.out⟩
              have hend := HEND.out
              rw [← HV.out] at hend
              exact hend
          · go_simp
            refine (reads_ok (HI.out M' (by omega)) (hra.below (Below.refl _ _).drew) hp2 hs (by omega) (by omega) HQ.out).mono ?_
            rintro e w3 ⟨ka', cap', k', q3, hr3, hlt3, hq3, rfl, hst3, ht3, hfr3, hpl3, hra3, hk3⟩
            have hT3 : w3.heap[tb]? = some (Obj.cells #[Value.string x, v] 24) := by rw [hk3.block _ htl (by simp; omega)]; exact hT
            have hR3 : w3.heap[rb]? = some (Obj.cells #[Value.string ⟨#[]⟩, Value.slice none 0 0] 24) := by rw [hk3.block _ hrl (by simp; omega)]; exact hR
            have hK3 := (hKI.but (g0 := b) (by omega) (fun i _ _ => rfl) : KInv 24 (tb + 1) wr.drew v L).keeps (by omega) hk3
            have hkw3 := (hkk.trans (Keeps.of_below (Below.refl _ _).drew)).trans hk3
            have hz3 : wr.heap.size ≤ w3.heap.size := hk3.size
            have t13 : w3.cell? ⟨tb, 1, none⟩ = some v := by rw [cell_of_row _ _ 1 _ _ _ hT3]; rfl
            have t14 : ∀ o, (w3.alloc o).cell? ⟨tb, 1, none⟩ = some v := fun o => by rw [World.cell?_alloc_some _ _ _ (by rw [t13]; rfl)]; exact t13
            have HST := hide hst3
            have HR3 := hide hr3
            have HK3 := hide hK3
            clear hst3 hr3 hK3
            refine hK _ _ ?_
            clear hK K
            refine wpAny_ready (rs := [1, 6]) (by kernel_rfl) (by simp) ?_
            refine AllReady.cons rfl (fun K hK => ?_) (AllReady.cons rfl (fun K hK => ?_) AllReady.nil)
            · go_simp
              refine hK _ _ ?_
              clear hK K
              refine wpAny_ready (rs := [6]) (by kernel_rfl) (by simp) ?_
              refine AllReady.cons rfl (fun K hK => ?_) AllReady.nil
              go_simp
              refine hK _ _ ?_
              clear hK K
              refine wpAny_ready (rs := [7]) (by kernel_rfl) (by simp) ?_
              refine AllReady.cons rfl (fun K hK => ?_) AllReady.nil
              refine step_append_lies _ rfl (.tmp 18) (.tmp 23) 22 rfl (tb + 1) 24 i24 _ 2 40 Try.underlying22 hi24 hz0 hz1' hz2 rfl (by decide) _ L.length (rowCells L) rfl (ownsRow_below HK3.out.row ((Below.refl _ _).alloc (Nat.le_refl _) _)) ⟨w3.heap.size, 0, none⟩ 1 1 (itCells (y.1, ka', cap', k')) rfl rfl (own_news w3 24 (y.1, ka', cap', k')) (own_one _) (by decide) (by unfold maxLen; omega) (by omega) (by simp; omega) (w3.heap.size + 1) (by simp) ?_
              intro g cap2 w4 hown hgrow hat hlt4
              obtain ⟨k0, f0, hK5, hT5, hR5, hO5, hk5⟩ := kids_step (q0 := wr.heap.size) HRB.out (by omega) hlb htl HK3.out hoffs hT3 hR3 hra3 hkw3 ht3 hpl3 hfr3 hown hgrow hat
              have hra5 : RAt b s q3 _ := hO5
              have HK5 := hide hK5
              have HT5 := hide hT5
              have HR5 := hide hR5
              have HA5 := hide hra5
              have HKW5 := hide hk5
              clear hK5 hT5 hR5 hO5 hra5 hk5 hown hgrow hat ht3 hpl3 hfr3 hra3 hk3 HK3 hT3 hR3 hkw3 t13 t14
              refine hK _ _ ?_
              clear hK K
              simp only [Act.put, List.setIfInBounds_toArray]
              refine wpAny_ready (rs := [8]) (by kernel_rfl) (by simp) ?_
              refine AllReady.cons rfl (fun K hK => ?_) AllReady.nil
              go_simp
              refine hK _ _ ?_
              clear hK K
              refine wpAny_ready (rs := [9]) (by kernel_rfl) (by simp) ?_
              refine AllReady.cons rfl (fun K hK => ?_) AllReady.nil
              go_simp
              refine hK _ _ ?_
              clear hK K
              refine wpAny_done (by kernel_rfl) ?_ _
              go_wp2_with fail
              refine (comes_any b s q3 41 _ HA5.out hq3 (by unfold maxLen; omega)).mono ?_
              rintro e w6 ⟨y2, q4, rfl, h41, h42, he4, hy40, hy41, hr6, hk6⟩
              have hT6 := (hk6.block tb (lt_of_heap HT5.out) (by simp; omega)).trans HT5.out
              have hR6 := (hk6.block rb (lt_of_heap HR5.out) (by simp; omega)).trans HR5.out
              have hK6 := HK5.out.keeps (by omega) hk6
              have hkw6 := HKW5.out.trans hk6
              have hq := HQ.out
              rw [HR3.out] at hq
              have hbare := (bare_all M').1 (a + 1) (rst s p')
              rw [hq] at hbare
              have hb2 : strip y.2 = y.2 := hbare
              cases y2 with
              | false =>
                have HRUN := hide (show rdK m (a + 1) (rst s q2) = (rdK M' (a + 1) (rst s q4)).map (joinS (L ++ [(y.1, ka', cap', k')])) by
                  rw [hrun.out, rdK_more hq (by simpa using he4), hy40 rfl, Rd.map_map]
                  congr 1
                  funext f
                  exact joinS_snoc L y.1 ka' cap' y.2 k' f HST.out hb2)
                clear hq hbare
                go_wp2_with fail
                go_roundg (s.size - q4)
                case measure => omega
                case rel => exact ⟨_, _, q4, M', rfl, by omega, h42, hK6, hT6, hR6, hr6, hkw6, HRUN, by omega, by omega, by simp; omega⟩
              | true =>
                have t0 : w6.cell? ⟨tb, 0, none⟩ = some (.string x) := by rw [cell_of_row _ _ 0 _ _ _ hT6]; rfl
                have t1 : w6.cell? ⟨tb, 1, none⟩ = some (.slice (some ⟨g, 0, none⟩) (L.length + 1) cap2) := by rw [cell_of_row _ _ 1 _ _ _ hT6]; rfl
                have r0 : w6.cell? ⟨rb, 0, none⟩ = some (.string ⟨#[]⟩) := by rw [cell_of_row _ _ 0 _ _ _ hR6]; rfl
                have r1 : w6.cell? ⟨rb, 1, none⟩ = some (.slice none 0 0) := by rw [cell_of_row _ _ 1 _ _ _ hR6]; rfl
                have fr : ∀ o, w6.frozen? ⟨rb, o, none⟩ = false := fun o => by simp [World.frozen?, hR6]
                obtain ⟨ka, cap, k2, hv, hend, hkeep⟩ := tree_told (B := tb + 1) (w := w) (wr := w6) (N := m + 1) (a := a) (p := p) (x := x) (L := L ++ [(y.1, ka', cap', k')]) (k := joinS L (.node 0 0 (y.1, none, 0) y.2 .nil)) HRB.out (by omega) hlb hs hxs (by omega) h42 hK6 hr6 hkw6
                  (by rw [HE.out, hrun.out, rdK_end hq (by simpa using he4)]; rfl) (joinS_snoc L y.1 ka' cap' y.2 k' .nil HST.out hb2).symm
                have HV := hide hv
                have HEND := hide hend
                have HKEEP := hide hkeep
                clear hq hbare he4 hy40 hy41 hend hkeep hr6 hkw6 hK6 hk6 hT6 hR6 hv
                go_wp2_with fail
                refine bodyPost_ret (v := .agg #[.string x, .slice (some ⟨g, 0, none⟩) (L.length + 1) cap2]) (by simp [results, Try.results67, go_sem, *]) rfl ⟨?_, HKEEP.out⟩
                have hend := HEND.out
                rw [← HV.out] at hend
                exact hend
            · go_simp
              refine hK _ _ ?_
              clear hK K
              refine wpAny_ready (rs := [1]) (by kernel_rfl) (by simp) ?_
              refine AllReady.cons rfl (fun K hK => ?_) AllReady.nil
              go_simp
              refine hK _ _ ?_
              clear hK K
              refine wpAny_ready (rs := [7]) (by kernel_rfl) (by simp) ?_
              refine AllReady.cons rfl (fun K hK => ?_) AllReady.nil
              refine step_append_lies _ rfl (.tmp 18) (.tmp 23) 22 rfl (tb + 1) 24 i24 _ 2 40 Try.underlying22 hi24 hz0 hz1' hz2 rfl (by decide) _ L.length (rowCells L) rfl (ownsRow_below HK3.out.row ((Below.refl _ _).alloc (Nat.le_refl _) _)) ⟨w3.heap.size, 0, none⟩ 1 1 (itCells (y.1, ka', cap', k')) rfl rfl (own_news w3 24 (y.1, ka', cap', k')) (own_one _) (by decide) (by unfold maxLen; omega) (by omega) (by simp; omega) (w3.heap.size + 1) (by simp) ?_
              intro g cap2 w4 hown hgrow hat hlt4
              obtain ⟨k0, f0, hK5, hT5, hR5, hO5, hk5⟩ := kids_step (q0 := wr.heap.size) HRB.out (by omega) hlb htl HK3.out hoffs hT3 hR3 hra3 hkw3 ht3 hpl3 hfr3 hown hgrow hat
              have hra5 : RAt b s q3 _ := hO5
              have HK5 := hide hK5
              have HT5 := hide hT5
              have HR5 := hide hR5
              have HA5 := hide hra5
              have HKW5 := hide hk5
              clear hK5 hT5 hR5 hO5 hra5 hk5 hown hgrow hat ht3 hpl3 hfr3 hra3 hk3 HK3 hT3 hR3 hkw3 t13 t14
              refine hK _ _ ?_
              clear hK K
              simp only [Act.put, List.setIfInBounds_toArray]
              refine wpAny_ready (rs := [8]) (by kernel_rfl) (by simp) ?_
              refine AllReady.cons rfl (fun K hK => ?_) AllReady.nil
              go_simp
              refine hK _ _ ?_
              clear hK K
              refine wpAny_ready (rs := [9]) (by kernel_rfl) (by simp) ?_
              refine AllReady.cons rfl (fun K hK => ?_) AllReady.nil
              go_simp
              refine hK _ _ ?_
              clear hK K
              refine wpAny_done (by kernel_rfl) ?_ _
              go_wp2_with fail
              refine (comes_any b s q3 41 _ HA5.out hq3 (by unfold maxLen; omega)).mono ?_
              rintro e w6 ⟨y2, q4, rfl, h41, h42, he4, hy40, hy41, hr6, hk6⟩
              have hT6 := (hk6.block tb (lt_of_heap HT5.out) (by simp; omega)).trans HT5.out
              have hR6 := (hk6.block rb (lt_of_heap HR5.out) (by simp; omega)).trans HR5.out
              have hK6 := HK5.out.keeps (by omega) hk6
              have hkw6 := HKW5.out.trans hk6
              have hq := HQ.out
              rw [HR3.out] at hq
              have hbare := (bare_all M').1 (a + 1) (rst s p')
              rw [hq] at hbare
              have hb2 : strip y.2 = y.2 := hbare
              cases y2 with
              | false =>
                have HRUN := hide (show rdK m (a + 1) (rst s q2) = (rdK M' (a + 1) (rst s q4)).map (joinS (L ++ [(y.1, ka', cap', k')])) by
                  rw [hrun.out, rdK_more hq (by simpa using he4), hy40 rfl, Rd.map_map]
                  congr 1
                  funext f
                  exact joinS_snoc L y.1 ka' cap' y.2 k' f HST.out hb2)
                clear hq hbare
                go_wp2_with fail
                go_roundg (s.size - q4)
                case measure => omega
                case rel => exact ⟨_, _, q4, M', rfl, by omega, h42, hK6, hT6, hR6, hr6, hkw6, HRUN, by omega, by omega, by simp; omega⟩
              | true =>
                have t0 : w6.cell? ⟨tb, 0, none⟩ = some (.string x) := by rw [cell_of_row _ _ 0 _ _ _ hT6]; rfl
                have t1 : w6.cell? ⟨tb, 1, none⟩ = some (.slice (some ⟨g, 0, none⟩) (L.length + 1) cap2) := by rw [cell_of_row _ _ 1 _ _ _ hT6]; rfl
                have r0 : w6.cell? ⟨rb, 0, none⟩ = some (.string ⟨#[]⟩) := by rw [cell_of_row _ _ 0 _ _ _ hR6]; rfl
                have r1 : w6.cell? ⟨rb, 1, none⟩ = some (.slice none 0 0) := by rw [cell_of_row _ _ 1 _ _ _ hR6]; rfl
                have fr : ∀ o, w6.frozen? ⟨rb, o, none⟩ = false := fun o => by simp [World.frozen?, hR6]
                obtain ⟨ka, cap, k2, hv, hend, hkeep⟩ := tree_told (B := tb + 1) (w := w) (wr := w6) (N := m + 1) (a := a) (p := p) (x := x) (L := L ++ [(y.1, ka', cap', k')]) (k := joinS L (.node 0 0 (y.1, none, 0) y.2 .nil)) HRB.out (by omega) hlb hs hxs (by omega) h42 hK6 hr6 hkw6
                  (by rw [HE.out, hrun.out, rdK_end hq (by simpa using he4)]; rfl) (joinS_snoc L y.1 ka' cap' y.2 k' .nil HST.out hb2).symm
                have HV := hide hv
                have HEND := hide hend
                have HKEEP := hide hkeep
                clear hq hbare he4 hy40 hy41 hend hkeep hr6 hkw6 hK6 hk6 hT6 hR6 hv
                go_wp2_with fail
                refine bodyPost_ret (v := .agg #[.string x, .slice (some ⟨g, 0, none⟩) (L.length + 1) cap2]) (by simp [results, Try.results67, go_sem, *]) rfl ⟨?_, HKEEP.out⟩
                have hend := HEND.out
                rw [← HV.out] at hend
                exact hend
end Go.Proofs.Ytafojlockiekfaa
