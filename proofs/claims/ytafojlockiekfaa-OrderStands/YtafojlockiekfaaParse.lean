/- Parse of package text. Of the program's text. -/
import Derived.Test.YtafojlockiekfaaProg
import Derived.Test.YtafojlockiekfaaRead
import Derived.Test.YtafojlockiekfaaCheck
namespace Go.Proofs.Ytafojlockiekfaa
open Go.Deep Go.RowKit
set_option linter.unusedVariables false
set_option maxRecDepth 20000

theorem eat_length {m : Int} {l q : List UInt8} (h : eat m l = some q) : q.length + 1 ≤ l.length := by
  unfold eat at h
  split at h
  · cases h
  · rename_i c r hs
    split at h
    · cases h
      have := skip_length l
      rw [hs] at this
      simpa using this
    · cases h
theorem rdL_length {l r : List UInt8} {x : ByteArray} (h : rdL l = .ok x r) : r.length + 1 ≤ l.length := by
  unfold rdL at h
  split at h
  · cases h
  · rename_i c q hs
    split at h
    · cases h
    · rename_i hc
      cases h
      have h1 := skip_length l
      rw [hs] at h1
      have h2 : (unlet (c :: q)).length ≤ q.length := by
        have hc' : okByte c = true := by simpa using hc
        simp only [unlet, List.dropWhile_cons, hc', if_true]
        exact (List.dropWhile_suffix _).sublist.length_le
      simp at h1
      omega

theorem rd_bounds : ∀ n : Nat, (∀ a l y r, rdT n a l = .ok y r → a ≤ 10 ∧ fhigh y.2 + a ≤ 10 ∧ 1 + fnodes y.2 + r.length ≤ l.length) ∧ (∀ a l f r, rdK n a l = .ok f r → fhigh f + a ≤ 11 ∧ fnodes f + r.length ≤ l.length)
  | 0 => ⟨fun a l y r h => (by rw [rdT] at h; cases h), fun a l y r h => (by rw [rdK] at h; cases h)⟩
  | n + 1 => by
    obtain ⟨h1, h2⟩ := rd_bounds n
    constructor
    · intro a l y r h
      rw [rdT] at h
      split at h
      · cases h
      · rename_i ha
        split at h
        · cases h
        · rename_i s r1 hL
          have hl := rdL_length hL
          split at h
          · cases h
            have := skip_length r1
            exact ⟨by omega, by simp [fhigh]; omega, by simp [fnodes]; omega⟩
          · rename_i q he
            have := eat_length he
            cases hk : rdK n (a + 1) q with
            | bad c r => rw [hk] at h; cases h
            | ok f r' =>
              rw [hk] at h
              cases h
              obtain ⟨g1, g2⟩ := h2 _ _ _ _ hk
              exact ⟨by omega, by simp only; omega, by simp only; omega⟩
    · intro a l f r h
      rw [rdK] at h
      split at h
      · cases h
      · rename_i x r1 hT
        obtain ⟨g1, g2, g3⟩ := h1 _ _ _ _ hT
        split at h
        · rename_i q he
          cases h
          have := eat_length he
          refine ⟨by simp [fhigh]; omega, by simp [fnodes]; omega⟩
        · rename_i he
          have := skip_length r1
          cases hk : rdK n a (skip r1) with
          | bad c r => rw [hk] at h; cases h
          | ok f' r' =>
            rw [hk] at h
            cases h
            obtain ⟨k1, k2⟩ := h2 _ _ _ _ hk
            refine ⟨?_, by simp [fnodes]; omega⟩
            simp only [fhigh]
            omega

theorem rdAll_bounds {l r : List UInt8} {y : ByteArray × Fo} (h : rdAll l = .ok y r) : fhigh y.2 ≤ 10 ∧ 1 + fnodes y.2 ≤ l.length ∧ strip y.2 = y.2 := by
  unfold rdAll at h
  split at h
  · cases h
  · rename_i x r1 hT
    obtain ⟨g1, g2, g3⟩ := (rd_bounds _).1 _ _ _ _ hT
    have hb := (bare_all (2 * l.length + 1)).1 0 l
    rw [hT] at hb
    have hb' : strip x.2 = x.2 := hb
    split at h
    · cases h
      exact ⟨by omega, by omega, hb'⟩
    · cases h

theorem fhigh_strip : ∀ f : Fo, fhigh (strip f) = fhigh f
  | .nil => rfl
  | .node _ _ _ k r => by simp [strip, fhigh, fhigh_strip k, fhigh_strip r]

theorem badF_strip' : ∀ f : Fo, badF (strip f) = badF f
  | .nil => rfl
  | .node _ _ x k r => by simp [badF, strip, badF_strip' k, badF_strip' r]
theorem deepF_strip' : ∀ (f : Fo) (a : Int), deepF (strip f) a = deepF f a
  | .nil, _ => rfl
  | .node _ _ x k r, a => by simp [deepF, strip, deepF_strip' k, deepF_strip' r]
theorem faultT_strip (x : ByteArray) (f : Fo) : faultT x (strip f) = faultT x f := by
  unfold faultT deepT badT
  rw [fnodes_strip, deepF_strip', badF_strip']

/-- What Parse tells. -/
inductive Pr where
  | bad (code at' : Int)
  | ok (x : ByteArray) (k : Fo)
def prs (s : ByteArray) : Pr :=
  if 2000 < s.size then .bad 2 (-1)
  else match rdAll (rst s 0) with
    | .bad c r => .bad c ((s.size - r.length : Nat) : Int)
    | .ok y _ => if faultT y.1 y.2 = 0 then .ok y.1 y.2 else .bad (faultT y.1 y.2) (-1)

def ParseEnd (s : ByteArray) (w : World) (e : Ending) (w' : World) : Prop :=
  (∃ c p, prs s = .bad c p ∧ c ≠ 0 ∧ e = .returned (.tuple #[.agg #[.string ⟨#[]⟩, .slice none 0 0], .agg #[.int .i64 c, .int .i64 p]])) ∨
  (∃ x k ka cap k', prs s = .ok x k ∧ e = .returned (.tuple #[.agg #[.string x, .slice ka (flen k') cap], .agg #[.int .i64 0, .int .i64 0]]) ∧ strip k' = k ∧ TIn w' x ka cap k' ∧ FPlain w' k' ∧ 1 + fnodes k' ≤ 40 ∧ FFrom w.heap.size k')

theorem prs_bad {s : ByteArray} {c q : Nat} (h : ¬ 2000 < s.size) (hr : rdAll (rst s 0) = .bad c (rst s q)) (hq : q ≤ s.size) : prs s = .bad c (q : Int) := by
  unfold prs
  rw [if_neg h, hr]
  simp only
  rw [rst_length, show s.size - (s.size - q) = q by omega]
theorem prs_ok {s : ByteArray} {y : ByteArray × Fo} {r : List UInt8} (h : ¬ 2000 < s.size) (hr : rdAll (rst s 0) = .ok y r) (hf : faultT y.1 y.2 = 0) : prs s = .ok y.1 y.2 := by
  unfold prs
  rw [if_neg h, hr]
  simp only
  rw [if_pos hf]
theorem prs_fault {s : ByteArray} {y : ByteArray × Fo} {r : List UInt8} (h : ¬ 2000 < s.size) (hr : rdAll (rst s 0) = .ok y r) (hf : ¬ faultT y.1 y.2 = 0) : prs s = .bad (faultT y.1 y.2) (-1) := by
  unfold prs
  rw [if_neg h, hr]
  simp only
  rw [if_neg hf]
theorem prs_long {s : ByteArray} (h : 2000 < s.size) : prs s = .bad 2 (-1) := by
  unfold prs
  rw [if_pos h]

set_option maxHeartbeats 1000000 in
theorem parse_any (s : ByteArray) (w : World) (hs : s.size ≤ maxLen) :
    Calls Try.prog 29 #[.string s] w fun e w' => ParseEnd s w e w' ∧ Below w.heap.size w w' := by
  unfold maxLen at hs
  by_cases hlong : 2000 < s.size
  · go_enter Try.func29, Try.ntmps29
    go_wp2_with fail
    refine bodyPost_ret (v := .tuple #[.agg #[.string ⟨#[]⟩, .slice none 0 0], .agg #[.int .i64 2, .int .i64 (-1)]]) (by simp [results, Try.results29, go_sem]) rfl ⟨Or.inl ⟨2, -1, prs_long hlong, by decide, rfl⟩, ?_⟩
    exact ((Below.refl _ _).alloc (Nat.le_refl _) _).alloc (by simp) _
  · have hbx : Below w.heap.size w ((w.alloc (Obj.cells #[Value.string ⟨#[]⟩, Value.slice none 0 0] 24)).alloc (Obj.cells #[Value.int .i64 0, Value.int .i64 0] 42)) := ((Below.refl _ _).alloc (Nat.le_refl _) _).alloc (by simp) _
    have g0 : ((w.alloc (Obj.cells #[Value.string ⟨#[]⟩, Value.slice none 0 0] 24)).alloc (Obj.cells #[Value.int .i64 0, Value.int .i64 0] 42)).heap[w.heap.size]? = some (Obj.cells #[Value.string ⟨#[]⟩, Value.slice none 0 0] 24) := by
      rw [Below.heap_alloc _ _ _ (by simp)]; exact heap_alloc_new _ _
    have g1 : ((w.alloc (Obj.cells #[Value.string ⟨#[]⟩, Value.slice none 0 0] 24)).alloc (Obj.cells #[Value.int .i64 0, Value.int .i64 0] 42)).heap[w.heap.size + 1]? = some (Obj.cells #[Value.int .i64 0, Value.int .i64 0] 42) := by
      have := heap_alloc_new (w.alloc (Obj.cells #[Value.string ⟨#[]⟩, Value.slice none 0 0] 24)) (Obj.cells #[Value.int .i64 0, Value.int .i64 0] 42)
      simpa using this
    go_enter Try.func29, Try.ntmps29
    go_wp2_with fail
    refine (read_any s _ (by omega)).mono ?_
    rintro e w1 ⟨hr, hb⟩
    have g0' := (hb.block w.heap.size (by simp; omega)).trans g0
    have g1' := (hb.block (w.heap.size + 1) (by simp)).trans g1
    have hb1 := hbx.trans (hb.mono (by simp; omega))
    have hlt1 := lt_of_heap g1'
    have r0 : w1.cell? ⟨w.heap.size, 0, none⟩ = some (.string ⟨#[]⟩) := by rw [cell_of_row _ _ 0 _ _ _ g0']; rfl
    have r1 : w1.cell? ⟨w.heap.size, 1, none⟩ = some (.slice none 0 0) := by rw [cell_of_row _ _ 1 _ _ _ g0']; rfl
    have u0 : w1.cell? ⟨w.heap.size + 1, 0, none⟩ = some (.int .i64 0) := by rw [cell_of_row _ _ 0 _ _ _ g1']; rfl
    have u1 : w1.cell? ⟨w.heap.size + 1, 1, none⟩ = some (.int .i64 0) := by rw [cell_of_row _ _ 1 _ _ _ g1']; rfl
    have fr : ∀ o, w1.frozen? ⟨w.heap.size, o, none⟩ = false := fun o => by simp [World.frozen?, g0']
    have fu : ∀ o, w1.frozen? ⟨w.heap.size + 1, o, none⟩ = false := fun o => by simp [World.frozen?, g1']
    have n1 : w1.heap.size ≠ w.heap.size ∧ w1.heap.size ≠ w.heap.size + 1 ∧ w1.heap.size + 1 ≠ w.heap.size ∧ w1.heap.size + 1 ≠ w.heap.size + 1 := by omega
    have m1 : ¬ w.heap.size = w1.heap.size + 1 := by omega
    have m2 : ¬ w.heap.size = w1.heap.size := by omega
    have m3 : ¬ w.heap.size + 1 = w1.heap.size := by omega
    have m4 : ¬ w1.heap.size + 1 = w.heap.size := by omega
    have m5 : ¬ w1.heap.size = w.heap.size := by omega
    have m6 : ¬ w1.heap.size = w.heap.size + 1 := by omega
    clear n1
    rcases hr with ⟨c, q, x0, a0, l0, c0, h1, h2, h3, rfl⟩ | ⟨x, k, ka, cap, k', h1, h2, rfl, hst, ht, hfr, hpl⟩
    · have hc : ((c : Int) == 0) = false := beq_eq_false_iff_ne.2 (by omega)
      have HP := hide (prs_bad hlong h1 h3)
      clear h1 g0 g1 g0' g1' hbx hb
      obtain ⟨W2, hW2⟩ : ∃ W2, W2 = ((w1.alloc (Obj.cells #[Value.string x0, Value.slice a0 l0 c0] 24)).alloc (Obj.cells #[Value.int .i64 c, Value.int .i64 q] 42)) := ⟨_, rfl⟩
      have hbx2 : Below w1.heap.size w1 W2 := by rw [hW2]; exact ((Below.refl _ _).alloc (Nat.le_refl _) _).alloc (by simp) _
      have v0 : W2.cell? ⟨w1.heap.size + 1, 0, none⟩ = some (.int .i64 c) := by rw [hW2]; go_simp
      have v1 : W2.cell? ⟨w1.heap.size + 1, 1, none⟩ = some (.int .i64 q) := by rw [hW2]; go_simp
      rw [← hbx2.cell (p := ⟨w.heap.size, 0, none⟩) (by simp only; omega)] at r0
      rw [← hbx2.cell (p := ⟨w.heap.size, 1, none⟩) (by simp only; omega)] at r1
      rw [← hbx2.cell (p := ⟨w.heap.size + 1, 0, none⟩) (by simp only; omega)] at u0
      rw [← hbx2.cell (p := ⟨w.heap.size + 1, 1, none⟩) (by simp only; omega)] at u1
      have fr2 : ∀ o, W2.frozen? ⟨w.heap.size, o, none⟩ = false := fun o => by rw [hbx2.frozen (p := ⟨w.heap.size, o, none⟩) (by simp only; omega)]; exact fr o
      have fu2 : ∀ o, W2.frozen? ⟨w.heap.size + 1, o, none⟩ = false := fun o => by rw [hbx2.frozen (p := ⟨w.heap.size + 1, o, none⟩) (by simp only; omega)]; exact fu o
      have hB2 := hb1.trans (hbx2.mono hb1.size)
      clear fr fu hbx2
      go_wp2_with fail
      rw [← hW2]
      clear hW2
      go_region_held3 (fun w' => w'.cell? ⟨w1.heap.size + 1, 0, none⟩ = some (.int .i64 c) ∧ w'.cell? ⟨w1.heap.size + 1, 1, none⟩ = some (.int .i64 q))
        (first | go_keep | (refine ⟨?_, ?_⟩ <;> go_simp))
        (fail)
      go_wp2_with fail
      refine bodyPost_ret (v := .tuple #[.agg #[.string ⟨#[]⟩, .slice none 0 0], .agg #[.int .i64 c, .int .i64 q]]) (by simp [results, Try.results29, go_sem, *]) rfl ⟨Or.inl ⟨c, q, HP.out, by omega, rfl⟩, ?_⟩
      exact ((((hB2.drew).setCell (p := ⟨w.heap.size, 0, none⟩) (by simp) _).setCell (p := ⟨w.heap.size, 1, none⟩) (by simp) _).setCell (p := ⟨w.heap.size + 1, 0, none⟩) (by simp) _).setCell (p := ⟨w.heap.size + 1, 1, none⟩) (by simp) _
    · obtain ⟨hbd1, hbd2, hbd3⟩ := rdAll_bounds h1
      rw [rst_length] at hbd2
      simp only at hbd1 hbd2 hbd3
      have hbx1 : Below w1.heap.size w1 ((w1.alloc (Obj.cells #[Value.string x, Value.slice ka (flen k') cap] 24)).alloc (Obj.cells #[Value.int .i64 0, Value.int .i64 0] 42)) := ((Below.refl _ _).alloc (Nat.le_refl _) _).alloc (by simp) _
      have hck := check_gen x ka cap k' _ (ht.below hbx1) (hpl.below hbx1) (by have := fnodes_strip k'; rw [hst] at this; omega) (by have := fhigh_strip k'; rw [hst] at this; omega)
      have HCK := hide hck
      clear hck g0 g1 g0' g1' hbx hb
      go_wp2_with fail
      refine Calls.mono HCK.out ?_
      rintro e w2 ⟨rfl, hb2⟩
      have hbb := hbx1.trans (hb2.mono (by simp; omega))
      have hfl : faultT x k' = faultT x k := by rw [← hst, faultT_strip]
      have v0 : w2.cell? ⟨w1.heap.size, 0, none⟩ = some (.string x) := by rw [hb2.cell (by simp; omega)]; go_simp
      have v1 : w2.cell? ⟨w1.heap.size, 1, none⟩ = some (.slice ka (flen k') cap) := by rw [hb2.cell (by simp; omega)]; go_simp
      rw [← hbb.cell (p := ⟨w.heap.size, 0, none⟩) (by simp only; omega)] at r0
      rw [← hbb.cell (p := ⟨w.heap.size, 1, none⟩) (by simp only; omega)] at r1
      rw [← hbb.cell (p := ⟨w.heap.size + 1, 0, none⟩) (by simp only; omega)] at u0
      rw [← hbb.cell (p := ⟨w.heap.size + 1, 1, none⟩) (by simp only; omega)] at u1
      have fr2 : ∀ o, w2.frozen? ⟨w.heap.size, o, none⟩ = false := fun o => by rw [hbb.frozen (p := ⟨w.heap.size, o, none⟩) (by simp only; omega)]; exact fr o
      have fu2 : ∀ o, w2.frozen? ⟨w.heap.size + 1, o, none⟩ = false := fun o => by rw [hbb.frozen (p := ⟨w.heap.size + 1, o, none⟩) (by simp only; omega)]; exact fu o
      have hB2 := hb1.trans (hbb.mono hb1.size)
      have ht2 := ht.below hbb
      have hpl2 := hpl.below hbb
      rw [hfl]
      have H1 := hide h1
      have HST := hide hst
      clear hbb hbx1 fr fu ht hpl h1 hst HCK hb2
      by_cases hf0 : faultT x k = 0
      · have HF0 := hide hf0
        rw [hf0]
        clear hf0 hfl
        obtain ⟨W3, hW3⟩ : ∃ W3, W3 = (w2.setCell ⟨w.heap.size, 0, none⟩ (.string x)).setCell ⟨w.heap.size, 1, none⟩ (.slice ka (flen k') cap) := ⟨_, rfl⟩
        have hbut3 : ∀ i, i < w2.heap.size → i ≠ w.heap.size → W3.heap[i]? = w2.heap[i]? := by rw [hW3]; exact set2_but _ _ _ _ _ _
        have hbut4 : ∀ i, i < W3.heap.size → i ≠ w.heap.size + 1 → ((W3.setCell ⟨w.heap.size + 1, 0, none⟩ (.int .i64 0)).setCell ⟨w.heap.size + 1, 1, none⟩ (.int .i64 0)).heap[i]? = W3.heap[i]? := set2_but _ _ _ _ _ _
        simp only [World.size_alloc] at hfr
        have hT := TIn.but hbut4 (hfr.off (by omega)) (TIn.but hbut3 (hfr.off (by omega)) ht2)
        have hP := FPlain.but hbut4 (hfr.off (by omega)) (FPlain.but hbut3 (hfr.off (by omega)) hpl2)
        rw [hW3] at hT hP
        have h40 : 1 + fnodes k' ≤ 40 := by
          have h3 := HF0.out
          have := fnodes_strip k'
          rw [HST.out] at this
          unfold faultT at h3
          split at h3
          · cases h3
          · omega
        have hE : ParseEnd s w (.returned (.tuple #[.agg #[.string x, .slice ka (flen k') cap], .agg #[.int .i64 0, .int .i64 0]])) _ := Or.inr ⟨x, k, ka, cap, k', prs_ok hlong H1.out HF0.out, rfl, HST.out, hT, hP, h40, hfr.mono (by omega)⟩
        have HE := hide hE
        clear hT hP hE hbut3 hbut4 hW3
        go_wp2_with fail
        refine bodyPost_ret (v := .tuple #[.agg #[.string x, .slice ka (flen k') cap], .agg #[.int .i64 0, .int .i64 0]]) (by simp [results, Try.results29, go_sem, *]) rfl ⟨HE.out, ?_⟩
        exact ((((hB2).setCell (p := ⟨w.heap.size, 0, none⟩) (by simp) _).setCell (p := ⟨w.heap.size, 1, none⟩) (by simp) _).setCell (p := ⟨w.heap.size + 1, 0, none⟩) (by simp) _).setCell (p := ⟨w.heap.size + 1, 1, none⟩) (by simp) _
      · have hfb : (faultT x k == 0) = false := beq_eq_false_iff_ne.2 hf0
        have HP := hide (prs_fault hlong H1.out hf0)
        have HF0 := hide hf0
        clear hf0 hfl
        generalize faultT x k = fc at *
        go_wp2_with fail
        refine bodyPost_ret (v := .tuple #[.agg #[.string ⟨#[]⟩, .slice none 0 0], .agg #[.int .i64 fc, .int .i64 (-1)]]) (by simp [results, Try.results29, go_sem, *]) rfl ⟨Or.inl ⟨fc, -1, HP.out, HF0.out, rfl⟩, ?_⟩
        exact ((((hB2).setCell (p := ⟨w.heap.size, 0, none⟩) (by simp) _).setCell (p := ⟨w.heap.size, 1, none⟩) (by simp) _).setCell (p := ⟨w.heap.size + 1, 0, none⟩) (by simp) _).setCell (p := ⟨w.heap.size + 1, 1, none⟩) (by simp) _
end Go.Proofs.Ytafojlockiekfaa
