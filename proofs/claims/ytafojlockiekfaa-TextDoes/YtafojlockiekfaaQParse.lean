/- Parse of package pleachingref. Of the program's text. -/
import Derived.Test.YtafojlockiekfaaProg
import Derived.Test.YtafojlockiekfaaQdT
import Derived.Test.YtafojlockiekfaaParse
import Derived.Test.YtafojlockiekfaaFault
namespace Go.Proofs.Ytafojlockiekfaa
open Go.Deep Go.RowKit
set_option linter.unusedVariables false
set_option maxRecDepth 20000

/-- The world in which the reference reads. -/
def qW (w : World) (s : ByteArray) : World := ((w.alloc (Obj.cells #[Value.string ⟨#[]⟩, Value.slice none 0 0] 24)).alloc (Obj.cells #[Value.int .i64 0, Value.int .i64 0] 42)).alloc (Obj.cells #[Value.string s, Value.int .i64 0, Value.int .i64 0, Value.int .i64 0] 86)
theorem qW_below (w : World) (s : ByteArray) : Below w.heap.size w (qW w s) := (((Below.refl _ _).alloc (Nat.le_refl _) _).alloc (by simp) _).alloc (by simp; omega) _
theorem qW_size (w : World) (s : ByteArray) : (qW w s).heap.size = w.heap.size + 3 := by simp [qW]
theorem qW_heap (w : World) (s : ByteArray) : (qW w s).heap[w.heap.size]? = some (Obj.cells #[Value.string ⟨#[]⟩, Value.slice none 0 0] 24) ∧ (qW w s).heap[w.heap.size + 1]? = some (Obj.cells #[Value.int .i64 0, Value.int .i64 0] 42) ∧ QAt (w.heap.size + 1 + 1) s 0 0 0 (qW w s) := by
  unfold qW QAt
  generalize Obj.cells #[Value.string ⟨#[]⟩, Value.slice none 0 0] 24 = a
  generalize Obj.cells #[Value.int .i64 0, Value.int .i64 0] 42 = b
  have e1 : (w.alloc a).heap.size = w.heap.size + 1 := by simp
  have e2 : ((w.alloc a).alloc b).heap.size = w.heap.size + 1 + 1 := by simp
  have h1 := heap_alloc_new (w.alloc a) b
  have h2 := heap_alloc_new ((w.alloc a).alloc b) (Obj.cells #[Value.string s, Value.int .i64 0, Value.int .i64 0, Value.int .i64 0] 86)
  rw [e1] at h1
  rw [e2] at h2
  refine ⟨?_, ?_, h2⟩
  · rw [Below.heap_alloc _ _ _ (by omega), Below.heap_alloc _ _ _ (by omega)]
    exact heap_alloc_new _ _
  · rw [Below.heap_alloc _ _ _ (by omega)]
    exact h1

/-- What is kept of the results. -/
structure PP (w wr : World) : Prop where
  r : wr.heap[w.heap.size]? = some (Obj.cells #[Value.string ⟨#[]⟩, Value.slice none 0 0] 24)
  u : wr.heap[w.heap.size + 1]? = some (Obj.cells #[Value.int .i64 0, Value.int .i64 0] 42)
  b : Below w.heap.size w wr
section
variable {w wr w' : World}
theorem PP.keeps (h : PP w wr) (hk : Keeps [w.heap.size + 1 + 1] wr w') : PP w w' :=
  ⟨(hk.block _ (lt_of_heap h.r) (by simp; omega)).trans h.r, (hk.block _ (lt_of_heap h.u) (by simp)).trans h.u, hk.to_below h.b (by simp; omega)⟩
theorem PP.r0 (h : PP w wr) : wr.cell? ⟨w.heap.size, 0, none⟩ = some (.string ⟨#[]⟩) := by rw [cell_of_row _ _ 0 _ _ _ h.r]; rfl
theorem PP.r1 (h : PP w wr) : wr.cell? ⟨w.heap.size, 1, none⟩ = some (.slice none 0 0) := by rw [cell_of_row _ _ 1 _ _ _ h.r]; rfl
theorem PP.u0 (h : PP w wr) : wr.cell? ⟨w.heap.size + 1, 0, none⟩ = some (.int .i64 0) := by rw [cell_of_row _ _ 0 _ _ _ h.u]; rfl
theorem PP.u1 (h : PP w wr) : wr.cell? ⟨w.heap.size + 1, 1, none⟩ = some (.int .i64 0) := by rw [cell_of_row _ _ 1 _ _ _ h.u]; rfl
theorem PP.fr (h : PP w wr) (o : Nat) : wr.frozen? ⟨w.heap.size, o, none⟩ = false := by simp [World.frozen?, h.r]
theorem PP.fu (h : PP w wr) (o : Nat) : wr.frozen? ⟨w.heap.size + 1, o, none⟩ = false := by simp [World.frozen?, h.u]
theorem PP.lt (h : PP w wr) : w.heap.size + 1 < wr.heap.size := lt_of_heap h.u
theorem PP.told (h : PP w wr) (v0 v1 v2 v3 : Value) : Below w.heap.size w ((((wr.setCell ⟨w.heap.size, 0, none⟩ v0).setCell ⟨w.heap.size, 1, none⟩ v1).setCell ⟨w.heap.size + 1, 0, none⟩ v2).setCell ⟨w.heap.size + 1, 1, none⟩ v3) :=
  (((h.b.setCell (p := ⟨w.heap.size, 0, none⟩) (by simp) _).setCell (p := ⟨w.heap.size, 1, none⟩) (by simp) _).setCell (p := ⟨w.heap.size + 1, 0, none⟩) (by simp) _).setCell (p := ⟨w.heap.size + 1, 1, none⟩) (by simp) _
end

set_option maxHeartbeats 2000000 in
set_option maxRecDepth 100000 in
theorem qparse_any (s : ByteArray) (w : World) (hs : s.size ≤ maxLen) :
    Calls Try.prog 30 #[.string s] w fun e w' => ParseEnd s w e w' ∧ Below w.heap.size w w' := by
  unfold maxLen at hs
  have m1 : ¬ w.heap.size = w.heap.size + 1 + 1 := by omega
  have m2 : ¬ w.heap.size + 1 = w.heap.size + 1 + 1 := by omega
  have m3 : ¬ w.heap.size + 1 + 1 = w.heap.size := by omega
  by_cases hlong : 2000 < s.size
  · have hP0 : PP w ((w.alloc (Obj.cells #[Value.string ⟨#[]⟩, Value.slice none 0 0] 24)).alloc (Obj.cells #[Value.int .i64 0, Value.int .i64 0] 42)) := by
      refine ⟨?_, ?_, ((Below.refl _ _).alloc (Nat.le_refl _) _).alloc (by simp) _⟩
      · rw [Below.heap_alloc _ _ _ (by simp)]; exact heap_alloc_new _ _
      · have := heap_alloc_new (w.alloc (Obj.cells #[Value.string ⟨#[]⟩, Value.slice none 0 0] 24)) (Obj.cells #[Value.int .i64 0, Value.int .i64 0] 42)
        simpa using this
    go_enter Try.func30, Try.ntmps30
    go_wp2_with fail
    refine (faultF_any _ _ _).mono ?_
    rintro e w1 ⟨rfl, hb⟩
    have hP1 := hP0.keeps (Keeps.of_below hb)
    have r0 := hP1.r0
    have r1 := hP1.r1
    have u0 := hP1.u0
    have u1 := hP1.u1
    have fr := hP1.fr
    have fu := hP1.fu
    go_wp2_with fail
    refine bodyPost_ret (v := .tuple #[.agg #[.string ⟨#[]⟩, .slice none 0 0], .agg #[.int .i64 2, .int .i64 (-1)]]) (by simp [results, Try.results30, go_sem, *]) rfl ⟨Or.inl ⟨2, -1, prs_long hlong, by decide, rfl⟩, ?_⟩
    exact hP1.told _ _ _ _
  · have hl : (rst s 0).length = s.size := by rw [rst_length]; rfl
    obtain ⟨g0, g1, g2⟩ := qW_heap w s
    have hz := qW_size w s
    have hP0 : PP w (qW w s) := ⟨g0, g1, qW_below w s⟩
    have hRA := qreads_upto (2 * (rst s 0).length + 2) (2 * (rst s 0).length + 1) (by omega)
    clear g0 g1
    cases hq : rdT (2 * (rst s 0).length + 1) 0 (rst s 0) with
    | bad c r =>
      have hcall := qreads_bad hRA (a := 0) g2 (Nat.zero_le _) (by omega) (by omega) (by omega) hq
      have HQ := hide hq
      have HC := hide hcall
      clear hq hcall hRA g2
      go_enter Try.func30, Try.ntmps30
      go_wp2_with fail
      refine Calls.mono HC.out ?_
      rintro e w3 ⟨q, p', x0, a0, c0, k0, hr, hc, hq1, rfl, hra, hk⟩
      have hP3 := hP0.keeps hk
      have hbx : Below w3.heap.size w3 (w3.alloc (Obj.cells #[Value.string x0, Value.slice a0 (flen k0) c0] 24)) := (Below.refl _ _).alloc (Nat.le_refl _) _
      have hP4 := hP3.keeps (Keeps.of_below hbx)
      have HR := hide hr
      clear HC hP0 hP3 hr
      go_wp2_with fail
      refine (qblanks_idle _ s p' c q _ hc (hra.below hbx)).mono ?_
      rintro e w5 ⟨rfl, hra5, hk5⟩
      have hP5 := hP4.keeps hk5
      have c1 := hra5.c1
      clear hP4 hra hk5 hk hbx
      by_cases hend : p' < s.size
      · go_wp2_with fail
        refine (qwrong_idle _ s p' c q (6 : Nat) _ hc hra5).mono ?_
        rintro e w6 ⟨rfl, hra6, hk6⟩
        have hP6 := hP5.keeps hk6
        clear hra5 hP5 hk6 c1
        have c2 := hra6.c2
        have c3 := hra6.c3
        have hcb : (((c : Nat) : Int) == 0) = false := beq_eq_false_iff_ne.2 (by omega)
        have r0 := hP6.r0
        have r1 := hP6.r1
        have u0 := hP6.u0
        have u1 := hP6.u1
        have fr := hP6.fr
        have fu := hP6.fu
        have HP := hide (prs_bad hlong (by rw [rdAll_bad HQ.out, HR.out]) hq1)
        go_wp2_with fail
        go_region_held3 (fun w' => w'.cell? ⟨w.heap.size + 1 + 1, 2, none⟩ = some (.int .i64 ((c : Nat) : Int)) ∧ w'.cell? ⟨w.heap.size + 1 + 1, 3, none⟩ = some (.int .i64 q))
          (first | go_keep | (refine ⟨?_, ?_⟩ <;> go_simp))
          (fail)
        go_wp2_with fail
        refine bodyPost_ret (v := .tuple #[.agg #[.string ⟨#[]⟩, .slice none 0 0], .agg #[.int .i64 ((c : Nat) : Int), .int .i64 q]]) (by simp [results, Try.results30, go_sem, *]) rfl ⟨Or.inl ⟨_, _, HP.out, by omega, rfl⟩, ?_⟩
        exact ((hP6.told _ _ _ _).drew)
      · have c2 := hra5.c2
        have c3 := hra5.c3
        have hcb : (((c : Nat) : Int) == 0) = false := beq_eq_false_iff_ne.2 (by omega)
        have r0 := hP5.r0
        have r1 := hP5.r1
        have u0 := hP5.u0
        have u1 := hP5.u1
        have fr := hP5.fr
        have fu := hP5.fu
        have HP := hide (prs_bad hlong (by rw [rdAll_bad HQ.out, HR.out]) hq1)
        go_wp2_with fail
        go_region_held3 (fun w' => w'.cell? ⟨w.heap.size + 1 + 1, 2, none⟩ = some (.int .i64 ((c : Nat) : Int)) ∧ w'.cell? ⟨w.heap.size + 1 + 1, 3, none⟩ = some (.int .i64 q))
          (first | go_keep | (refine ⟨?_, ?_⟩ <;> go_simp))
          (fail)
        go_wp2_with fail
        refine bodyPost_ret (v := .tuple #[.agg #[.string ⟨#[]⟩, .slice none 0 0], .agg #[.int .i64 ((c : Nat) : Int), .int .i64 q]]) (by simp [results, Try.results30, go_sem, *]) rfl ⟨Or.inl ⟨_, _, HP.out, by omega, rfl⟩, ?_⟩
        exact ((hP5.told _ _ _ _).drew)
    | ok y r =>
      have hcall := qreads_ok hRA (a := 0) g2 (Nat.zero_le _) (by omega) (by omega) (by omega) hq
      have hsz : y.1.size ≤ s.size := reads_size hq
      have HQ := hide hq
      have HC := hide hcall
      clear hq hcall hRA g2
      go_enter Try.func30, Try.ntmps30
      go_wp2_with fail
      refine Calls.mono HC.out ?_
      rintro e w3 ⟨ka, cap, k', q, hr, hlt, hq1, rfl, hst, ht, hfr, hpl, hra, hk⟩
      have hP3 := hP0.keeps hk
      have hbx : Below w3.heap.size w3 (w3.alloc (Obj.cells #[Value.string y.1, Value.slice ka (flen k') cap] 24)) := (Below.refl _ _).alloc (Nat.le_refl _) _
      have hP4 := hP3.keeps (Keeps.of_below hbx)
      have HR := hide hr
      have HST := hide hst
      have hlt3 := hP3.lt
      have hlb3 : w.heap.size + 1 + 1 < w3.heap.size := hra.lt
      have ht4 := ht.below hbx
      have hpl4 := hpl.below hbx
      have htb4 : (w3.alloc (Obj.cells #[Value.string y.1, Value.slice ka (flen k') cap] 24)).heap[w3.heap.size]? = some (Obj.cells #[Value.string y.1, Value.slice ka (flen k') cap] 24) := heap_alloc_new _ _
      clear HC hP0 hP3 hr hst ht hpl
      go_wp2_with fail
      refine (qblanks_any _ s q 0 _ (hra.below hbx) hq1 (by unfold maxLen; omega)).mono ?_
      rintro e w5 ⟨q5, rfl, h51, h52, h53, hra5, hk5⟩
      have hP5 := hP4.keeps hk5
      have hoff5 : ∀ c, c ∈ [w.heap.size + 1 + 1] → FOff c k' := fun c hc => by
        have : c = w.heap.size + 1 + 1 := by simpa using hc
        subst this
        exact hfr.off (by omega)
      have ht5 := TIn.keepsT hk5 hoff5 ht4
      have hpl5 := FPlain.but (g := w.heap.size + 1 + 1) (fun i hi hne => hk5.block i hi (by simpa using hne)) (hoff5 _ (by simp)) hpl4
      have htb5 := (hk5.block _ (lt_of_heap htb4) (by simp; omega)).trans htb4
      have t0 : w5.cell? ⟨w3.heap.size, 0, none⟩ = some (.string y.1) := by rw [cell_of_row _ _ 0 _ _ _ htb5]; rfl
      have t1 : w5.cell? ⟨w3.heap.size, 1, none⟩ = some (.slice ka (flen k') cap) := by rw [cell_of_row _ _ 1 _ _ _ htb5]; rfl
      have c1 := hra5.c1
      have c2 := hra5.c2
      have H53 := hide h53
      clear hP4 hra hk5 hk hbx ht4 hpl4 htb4 h53
      by_cases hend : q5 < s.size
      · go_wp2_with fail
        refine (qwrong_new _ s q5 0 (6 : Nat) _ hra5).mono ?_
        rintro e w6 ⟨rfl, hra6, hk6⟩
        have hP6 := hP5.keeps hk6
        have HP0 : prs s = .bad ((6 : Nat) : Int) (q5 : Int) := by
          refine prs_bad hlong ?_ h52
          have h1 := H53.out
          rw [← HR.out, rst_cons hend] at h1
          rw [rdAll_form HQ.out h1.symm, rst_cons hend]
        clear hra5 hP5 hk6 c1 c2 t0 t1 ht5 hpl5 htb5
        have c2 := hra6.c2
        have c3 := hra6.c3
        have hcb : (((6 : Nat) : Int) == 0) = false := beq_eq_false_iff_ne.2 (by omega)
        have r0 := hP6.r0
        have r1 := hP6.r1
        have u0 := hP6.u0
        have u1 := hP6.u1
        have fr := hP6.fr
        have fu := hP6.fu
        have HP := hide (HP0)
        go_wp2_with fail
        go_region_held3 (fun w' => w'.cell? ⟨w.heap.size + 1 + 1, 2, none⟩ = some (.int .i64 ((6 : Nat) : Int)) ∧ w'.cell? ⟨w.heap.size + 1 + 1, 3, none⟩ = some (.int .i64 q5))
          (first | go_keep | (refine ⟨?_, ?_⟩ <;> go_simp))
          (fail)
        go_wp2_with fail
        refine bodyPost_ret (v := .tuple #[.agg #[.string ⟨#[]⟩, .slice none 0 0], .agg #[.int .i64 ((6 : Nat) : Int), .int .i64 q5]]) (by simp [results, Try.results30, go_sem, *]) rfl ⟨Or.inl ⟨_, _, HP.out, by omega, rfl⟩, ?_⟩
        exact ((hP6.told _ _ _ _).drew)
      · have hall : rdAll (rst s 0) = .ok (y.1, y.2) [] := by
          have h1 := H53.out
          rw [← HR.out, rst_end (by omega)] at h1
          exact rdAll_ok HQ.out h1.symm
        obtain ⟨hbd1, hbd2, hbd3⟩ := rdAll_bounds hall
        have hfl : faultT y.1 k' = faultT y.1 y.2 := by rw [← faultT_strip, HST.out]
        have hck := treeFault_any y.1 ka cap k' w5 ht5
        rw [hfl] at hck
        have HCK := hide hck
        have HALL := hide hall
        clear hck hall hfl hbd1 hbd2 hbd3 HQ HR H53
        go_wp2_with fail
        refine Calls.mono HCK.out ?_
        rintro e w6 ⟨rfl, hb6⟩
        have hP6 := hP5.keeps (Keeps.of_below hb6)
        have ht6 := ht5.below hb6
        have hpl6 := hpl5.below hb6
        have htb6 := (hb6.block _ (lt_of_heap htb5)).trans htb5
        clear t0 t1 c1 c2 hra5 hP5 ht5 hpl5 htb5 HCK
        have t0 : w6.cell? ⟨w3.heap.size, 0, none⟩ = some (.string y.1) := by rw [cell_of_row _ _ 0 _ _ _ htb6]; rfl
        have t1 : w6.cell? ⟨w3.heap.size, 1, none⟩ = some (.slice ka (flen k') cap) := by rw [cell_of_row _ _ 1 _ _ _ htb6]; rfl
        by_cases hf0 : faultT y.1 y.2 = 0
        · have HF0 := hide hf0
          rw [hf0]
          clear hf0
          obtain ⟨W3, hW3⟩ : ∃ W3, W3 = (w6.setCell ⟨w.heap.size, 0, none⟩ (.string y.1)).setCell ⟨w.heap.size, 1, none⟩ (.slice ka (flen k') cap) := ⟨_, rfl⟩
          have hbut3 : ∀ i, i < w6.heap.size → i ≠ w.heap.size → W3.heap[i]? = w6.heap[i]? := by rw [hW3]; exact set2_but _ _ _ _ _ _
          have hbut4 : ∀ i, i < W3.heap.size → i ≠ w.heap.size + 1 → ((W3.setCell ⟨w.heap.size + 1, 0, none⟩ (.int .i64 0)).setCell ⟨w.heap.size + 1, 1, none⟩ (.int .i64 0)).heap[i]? = W3.heap[i]? := set2_but _ _ _ _ _ _
          have hT := TIn.but hbut4 (hfr.off (by omega)) (TIn.but hbut3 (hfr.off (by omega)) ht6)
          have hPl := FPlain.but hbut4 (hfr.off (by omega)) (FPlain.but hbut3 (hfr.off (by omega)) hpl6)
          rw [hW3] at hT hPl
          have h40 : 1 + fnodes k' ≤ 40 := by
            have h3 := HF0.out
            have := fnodes_strip k'
            rw [HST.out] at this
            unfold faultT at h3
            split at h3
            · cases h3
            · omega
          have hE : ParseEnd s w (.returned (.tuple #[.agg #[.string y.1, .slice ka (flen k') cap], .agg #[.int .i64 0, .int .i64 0]])) _ := Or.inr ⟨y.1, y.2, ka, cap, k', prs_ok hlong HALL.out HF0.out, rfl, HST.out, hT, hPl, h40, hfr.mono (by omega)⟩
          have HE := hide hE
          clear hT hPl hE hbut3 hbut4 hW3
          have r0 := hP6.r0
          have r1 := hP6.r1
          have u0 := hP6.u0
          have u1 := hP6.u1
          have fr := hP6.fr
          have fu := hP6.fu
          go_wp2_with fail
          refine bodyPost_ret (v := .tuple #[.agg #[.string y.1, .slice ka (flen k') cap], .agg #[.int .i64 0, .int .i64 0]]) (by simp [results, Try.results30, go_sem, *]) rfl ⟨HE.out, hP6.told _ _ _ _⟩
        · have hfb : (faultT y.1 y.2 == 0) = false := beq_eq_false_iff_ne.2 hf0
          have HP := hide (prs_fault hlong HALL.out hf0)
          have HF0 := hide hf0
          clear hf0
          simp only at HP HF0 hfb ⊢
          generalize faultT y.1 y.2 = fc at *
          go_wp2_with fail
          refine (faultF_any _ _ _).mono ?_
          rintro e w7 ⟨rfl, hb7⟩
          have hP7 := hP6.keeps (Keeps.of_below hb7)
          have r0 := hP7.r0
          have r1 := hP7.r1
          have u0 := hP7.u0
          have u1 := hP7.u1
          have fr := hP7.fr
          have fu := hP7.fu
          go_wp2_with fail
          refine bodyPost_ret (v := .tuple #[.agg #[.string ⟨#[]⟩, .slice none 0 0], .agg #[.int .i64 fc, .int .i64 (-1)]]) (by simp [results, Try.results30, go_sem, *]) rfl ⟨Or.inl ⟨fc, -1, HP.out, HF0.out, rfl⟩, hP7.told _ _ _ _⟩
end Go.Proofs.Ytafojlockiekfaa
