/- What least tells, cell by cell, is the least cost of forests. Of no program. -/
/- What note and fill of package dist put into the table, step by step. Of no program. -/
/- note of package dist puts what trees cost into the table. Of the program's text. -/
import Derived.Test.YtcknganggcbkjabGS29
import Derived.Test.YtcknganggcbkjabProg
import Derived.Deep.LoopGhost
import Derived.Deep.RegionHeld3
namespace Go.Proofs.Ytcknganggcbkjab.Dist
open Go.Deep Go.RowKit
set_option linter.unusedVariables false
set_option maxRecDepth 20000

/-- Forests of m and n nodes that begin where the trees that i and j head do. -/
def DV (A B : List Nd) (i j : Nat) (m n : Nat) : Nat := D (lefts A) (lefts B) (other A B) (lefts A i) (lefts A i + m) (lefts B j) (lefts B j + n)
def filled (g : Nat → Nat → Nat) (m n : Nat) : Nat → Nat → Nat := fun a b => if a < m ∨ (a = m ∧ b < n) then g a b else 0
theorem filled_in {g : Nat → Nat → Nat} {m n a b : Nat} (h : a < m ∨ (a = m ∧ b < n)) : filled g m n a b = g a b := if_pos h
theorem filled_zero (g : Nat → Nat → Nat) (a b : Nat) : filled g 0 0 a b = 0 := if_neg (by omega)
theorem filled_put (g : Nat → Nat → Nat) (m n a b : Nat) : upd (filled g m n) m n (g m n) a b = filled g m (n + 1) a b := by
  unfold upd
  by_cases e : a = m ∧ b = n
  · rw [if_pos e, e.1, e.2, filled_in (Or.inr ⟨rfl, by omega⟩)]
  · rw [if_neg e]
    unfold filled
    by_cases e2 : a < m ∨ (a = m ∧ b < n)
    · rw [if_pos e2, if_pos (by omega)]
    · rw [if_neg e2, if_neg (by omega)]
theorem filled_line (g : Nat → Nat → Nat) (m N a b : Nat) (hb : b < N) : filled g m N a b = filled g (m + 1) 0 a b := by
  unfold filled
  by_cases e : a < m ∨ (a = m ∧ b < N)
  · rw [if_pos e, if_pos (by omega)]
  · rw [if_neg e, if_neg (by omega)]
theorem filled_all (g : Nat → Nat → Nat) (M a b : Nat) (ha : a < M) : filled g M 0 a b = g a b := filled_in (Or.inl ha)

/-- The forests that end with the trees that i and j head. -/
def Fst.of (A B : List Nd) (i j p : Nat) : Fst := ⟨p, lefts A i, lefts B j, p + 1, i - lefts A i + 2, j - lefts B j + 2⟩

section
variable {A B : List Nd} {i j : Nat}
theorem DV_le (hA : NOk A) (hB : NOk B) (hi : i < A.length) (hj : j < B.length) {m n : Nat} (hm : m < i - lefts A i + 2) (hn : n < j - lefts B j + 2) : DV A B i j m n ≤ m + n := by
  have h1 := hA.post.le i hi
  have h2 := hB.post.le j hj
  have fa : Frst (lefts A) (lefts A i) (i + 1) := by simpa using Frst.tree hA.post (i := i + 1) (by omega) (by omega)
  have fb : Frst (lefts B) (lefts B j) (j + 1) := by simpa using Frst.tree hB.post (i := j + 1) (by omega) (by omega)
  have := (D_bounds hA.post hB.post (other_le A B) _ (lefts A i) (lefts A i + m) (lefts B j) (lefts B j + n) (Nat.lt_succ_self _) (by omega) (by omega) (fa.less (by omega)) (fb.less (by omega))).2.2
  unfold DV
  omega
theorem filled_le (hA : NOk A) (hB : NOk B) (hi : i < A.length) (hj : j < B.length) {m n a b : Nat} (ha : a < i - lefts A i + 2) (hb : b < j - lefts B j + 2) : filled (DV A B i j) m n a b ≤ 1000 := by
  have hA4 := hA.many
  have hB4 := hB.many
  unfold filled
  split
  · have := DV_le hA hB hi hj ha hb
    omega
  · omega
theorem forOk (T : Tab) (f : Nat → Nat → Nat) {i j p m n : Nat} (hA : NOk T.A) (hB : NOk T.B) (hi : i < T.A.length) (hj : j < T.B.length) (hs : ∀ a b, a < T.A.length → b < T.B.length → f a b ≤ 1000) : ForOk T (Fst.of T.A T.B i j p) f (filled (DV T.A T.B i j) m n) := by
  have h1 := hA.post.le i hi
  have h2 := hB.post.le j hj
  have fa : Frst (lefts T.A) (lefts T.A i) (i + 1) := by simpa using Frst.tree hA.post (i := i + 1) (by omega) (by omega)
  have fb : Frst (lefts T.B) (lefts T.B j) (j + 1) := by simpa using Frst.tree hB.post (i := j + 1) (by omega) (by omega)
  refine ⟨fa.less ?_, fb.less ?_, hs, fun a b ha hb => filled_le hA hB hi hj ha hb⟩
  · simp only [Fst.of]; omega
  · simp only [Fst.of]; omega
theorem lst_is (T : Tab) (f : Nat → Nat → Nat) {i j p m n : Nat} (hA : NOk T.A) (hB : NOk T.B) (hi : i < T.A.length) (hj : j < T.B.length) (hN : Needs T.A T.B f i j) (hm : m < i - lefts T.A i + 2) (hn : n < j - lefts T.B j + 2) :
    lst T (Fst.of T.A T.B i j p) f (filled (DV T.A T.B i j) m n) m n = DV T.A T.B i j m n := by
  have h1 := hA.post.le i hi
  have h2 := hB.post.le j hj
  have fa : Frst (lefts T.A) (lefts T.A i) (i + 1) := by simpa using Frst.tree hA.post (i := i + 1) (by omega) (by omega)
  have fb : Frst (lefts T.B) (lefts T.B j) (j + 1) := by simpa using Frst.tree hB.post (i := j + 1) (by omega) (by omega)
  unfold lst
  by_cases e0 : m = 0 ∨ n = 0
  · rw [if_pos e0]
    unfold DV
    rcases e0 with rfl | rfl
    · rw [D_left (by omega)]
      omega
    · rw [D_right (by omega)]
      omega
  · rw [if_neg e0]
    have hd := D_together (c := other T.A T.B) hA.post hB.post (i0 := lefts T.A i) (i := lefts T.A i + m) (j0 := lefts T.B j) (j := lefts T.B j + n) (by omega) (by omega) (fa.less (by omega)) (fb.less (by omega)) (by omega) (by omega)
    have la := fa (lefts T.A i + m - 1) (by omega) (by omega)
    have lb := fb (lefts T.B j + n - 1) (by omega) (by omega)
    have la2 := hA.post.le (lefts T.A i + m - 1) (by omega)
    have lb2 := hB.post.le (lefts T.B j + n - 1) (by omega)
    rw [filled_in (a := m - 1) (b := n) (Or.inl (by omega)), filled_in (a := m) (b := n - 1) (Or.inr ⟨rfl, by omega⟩)]
    have ht : tog T (Fst.of T.A T.B i j p) f (filled (DV T.A T.B i j) m n) m n = (if lefts T.A (lefts T.A i + m - 1) = lefts T.A i ∧ lefts T.B (lefts T.B j + n - 1) = lefts T.B j then D (lefts T.A) (lefts T.B) (other T.A T.B) (lefts T.A i) (lefts T.A i + m - 1) (lefts T.B j) (lefts T.B j + n - 1) + other T.A T.B (lefts T.A i + m - 1) (lefts T.B j + n - 1) else D (lefts T.A) (lefts T.B) (other T.A T.B) (lefts T.A i) (lefts T.A (lefts T.A i + m - 1)) (lefts T.B j) (lefts T.B (lefts T.B j + n - 1)) + D (lefts T.A) (lefts T.B) (other T.A T.B) (lefts T.A (lefts T.A i + m - 1)) (lefts T.A i + m) (lefts T.B (lefts T.B j + n - 1)) (lefts T.B j + n)) := by
      unfold tog
      by_cases e : lefts T.A (lefts T.A i + m - 1) = lefts T.A i ∧ lefts T.B (lefts T.B j + n - 1) = lefts T.B j
      · refine (if_pos e).trans ?_
        rw [if_pos e]
        show filled (DV T.A T.B i j) m n (m - 1) (n - 1) + other T.A T.B (lefts T.A i + m - 1) (lefts T.B j + n - 1) = _
        rw [filled_in (Or.inl (by omega))]
        unfold DV
        rw [show lefts T.A i + (m - 1) = lefts T.A i + m - 1 by omega, show lefts T.B j + (n - 1) = lefts T.B j + n - 1 by omega]
      · refine (if_neg e).trans ?_
        rw [if_neg e]
        show filled (DV T.A T.B i j) m n (lefts T.A (lefts T.A i + m - 1) - lefts T.A i) (lefts T.B (lefts T.B j + n - 1) - lefts T.B j) + f (lefts T.A i + m - 1) (lefts T.B j + n - 1) = _
        rw [filled_in (Or.inl (by omega)), hN _ _ (by omega) (by omega) (by omega) (by omega) e]
        unfold DV TD
        rw [show lefts T.A i + (lefts T.A (lefts T.A i + m - 1) - lefts T.A i) = lefts T.A (lefts T.A i + m - 1) by omega, show lefts T.B j + (lefts T.B (lefts T.B j + n - 1) - lefts T.B j) = lefts T.B (lefts T.B j + n - 1) by omega, show lefts T.A i + m - 1 + 1 = lefts T.A i + m by omega, show lefts T.B j + n - 1 + 1 = lefts T.B j + n by omega]
    rw [ht]
    unfold DV
    rw [hd, show lefts T.A i + (m - 1) = lefts T.A i + m - 1 by omega, show lefts T.B j + (n - 1) = lefts T.B j + n - 1 by omega]
end
end Go.Proofs.Ytcknganggcbkjab.Dist
namespace Go.Proofs.Ytcknganggcbkjab.Dist
open Go.Deep Go.RowKit
set_option linter.unusedVariables false
set_option maxRecDepth 20000

/-- Has note come by this pair, ahead of m and n? -/
def ntDone (A B : List Nd) (i j m n a b : Nat) : Prop := lefts A a = lefts A i ∧ lefts B b = lefts B j ∧ b ≤ j ∧ (a + 1 - lefts A i < m ∨ (a + 1 - lefts A i = m ∧ b + 1 - lefts B j < n))
instance (A B : List Nd) (i j m n a b : Nat) : Decidable (ntDone A B i j m n a b) := by unfold ntDone; infer_instance
def nt (A B : List Nd) (f : Nat → Nat → Nat) (i j m n : Nat) : Nat → Nat → Nat := fun a b => if ntDone A B i j m n a b then TD A B a b else f a b
section
variable {A B : List Nd} {f : Nat → Nat → Nat} {i j m n a b : Nat}
theorem nt_start (hA : NOk A) (hB : NOk B) (ha : a < A.length) (hb : b < B.length) : nt A B f i j 1 1 a b = f a b := by
  have h1 := hA.post.le a ha
  have h2 := hB.post.le b hb
  unfold nt
  rw [if_neg]
  rintro ⟨e1, e2, _, e3⟩
  omega
theorem nt_put (hA : NOk A) (hB : NOk B) (hi : i < A.length) (hj : j < B.length) (hm : 0 < m) (hn : 0 < n) (hM : m < i - lefts A i + 2) (hN : n < j - lefts B j + 2)
    (e1 : lefts A (lefts A i + m - 1) = lefts A i) (e2 : lefts B (lefts B j + n - 1) = lefts B j) (ha : a < A.length) (hb : b < B.length) : upd (nt A B f i j m n) (lefts A i + m - 1) (lefts B j + n - 1) (DV A B i j m n) a b = nt A B f i j m (n + 1) a b := by
  have h1 := hA.post.le a ha
  have h2 := hB.post.le b hb
  have h3 := hA.post.le i hi
  have h4 := hB.post.le j hj
  unfold upd
  by_cases e : a = lefts A i + m - 1 ∧ b = lefts B j + n - 1
  · rw [if_pos e]
    obtain ⟨rfl, rfl⟩ := e
    unfold nt
    rw [if_pos ⟨e1, e2, by omega, Or.inr ⟨by omega, by omega⟩⟩]
    unfold DV TD
    rw [e1, e2, show lefts A i + m - 1 + 1 = lefts A i + m by omega, show lefts B j + n - 1 + 1 = lefts B j + n by omega]
  · rw [if_neg e]
    unfold nt
    by_cases d : ntDone A B i j m n a b
    · rw [if_pos d, if_pos ⟨d.1, d.2.1, d.2.2.1, by have := d.2.2.2; omega⟩]
    · rw [if_neg d, if_neg]
      rintro ⟨d1, d2, d3, d4⟩
      refine d ⟨d1, d2, d3, ?_⟩
      omega
theorem nt_pass (hA : NOk A) (hB : NOk B) (hi : i < A.length) (hj : j < B.length) (hm : 0 < m) (hn : 0 < n)
    (e : ¬ (lefts A (lefts A i + m - 1) = lefts A i ∧ lefts B (lefts B j + n - 1) = lefts B j)) (ha : a < A.length) (hb : b < B.length) : nt A B f i j m n a b = nt A B f i j m (n + 1) a b := by
  have h1 := hA.post.le a ha
  have h2 := hB.post.le b hb
  unfold nt
  by_cases d : ntDone A B i j m n a b
  · rw [if_pos d, if_pos ⟨d.1, d.2.1, d.2.2.1, by have := d.2.2.2; omega⟩]
  · rw [if_neg d, if_neg]
    rintro ⟨d1, d2, d3, d4⟩
    by_cases g : a + 1 - lefts A i = m ∧ b + 1 - lefts B j = n
    · refine e ?_
      rw [show lefts A i + m - 1 = a by omega, show lefts B j + n - 1 = b by omega]
      exact ⟨d1, d2⟩
    · refine d ⟨d1, d2, d3, ?_⟩
      omega
theorem nt_line (hA : NOk A) (hB : NOk B) (hj : j < B.length) (ha : a < A.length) (hb : b < B.length) : nt A B f i j m (j - lefts B j + 2) a b = nt A B f i j (m + 1) 1 a b := by
  have h1 := hA.post.le a ha
  have h2 := hB.post.le b hb
  have h4 := hB.post.le j hj
  unfold nt
  by_cases d : ntDone A B i j m (j - lefts B j + 2) a b
  · rw [if_pos d, if_pos ⟨d.1, d.2.1, d.2.2.1, by have := d.2.2.2; omega⟩]
  · rw [if_neg d, if_neg]
    rintro ⟨d1, d2, d3, d4⟩
    refine d ⟨d1, d2, d3, ?_⟩
    omega
theorem nt_end (hA : NOk A) (hB : NOk B) (hi : i < A.length) (ha : a < A.length) (hb : b < B.length) : nt A B f i j (i - lefts A i + 2) 1 a b = noted A B f i j a b := by
  have h1 := hA.post.le a ha
  have h2 := hB.post.le b hb
  have h4 := hA.post.le i hi
  unfold nt noted
  by_cases d : ntDone A B i j (i - lefts A i + 2) 1 a b
  · rw [if_pos d, if_pos]
    obtain ⟨d1, d2, d3, d4⟩ := d
    exact ⟨by omega, d3, d1, d2⟩
  · rw [if_neg d, if_neg]
    rintro ⟨d1, d2, d3, d4⟩
    refine d ⟨d3, d4, d2, ?_⟩
    omega
end
/-- All but the table's rows is as it was. -/
structure KeptT (T : Tab) (w w' : World) : Prop where
  os : w'.os = w.os
  tape : w'.tape = w.tape
  output : w'.output = w.output
  size : w.heap.size ≤ w'.heap.size
  block : ∀ b, b < w.heap.size → (b ≤ T.g ∨ T.g + T.A.length < b) → w'.heap[b]? = w.heap[b]?
theorem KeptT.refl (T : Tab) (w : World) : KeptT T w w := ⟨rfl, rfl, rfl, Nat.le_refl _, fun _ _ _ => rfl⟩
theorem KeptT.trans {T : Tab} {a b c : World} (h : KeptT T a b) (k : KeptT T b c) : KeptT T a c :=
  ⟨k.os.trans h.os, k.tape.trans h.tape, k.output.trans h.output, Nat.le_trans h.size k.size, fun x hx hn => (k.block x (Nat.lt_of_lt_of_le hx h.size) hn).trans (h.block x hx hn)⟩
theorem KeptT.of_below {T : Tab} {a b : World} (h : Below a.heap.size a b) : KeptT T a b := ⟨h.os, h.tape, h.output, h.size, fun x hx _ => h.block x hx⟩
theorem KeptT.set {T : Tab} {w : World} {i j : Nat} (hi : i < T.A.length) (v : Value) : KeptT T w (w.setCell ⟨T.g + 1 + i, j, none⟩ v) :=
  ⟨rfl, rfl, rfl, by simp [World.setCell], fun b _ hn => blk_setCell_other _ _ _ _ (by simp; omega)⟩
theorem KeptT.drewN (T : Tab) (w : World) (n : Nat) : KeptT T w (w.drewN n) := of_below (below_drewN (Below.refl _ _) n)
theorem KeptT.below {T : Tab} {w w' : World} {B : Nat} (h : KeptT T w w') (hB : B ≤ T.g + 1) (hw : B ≤ w.heap.size) : Below B w w' := ⟨h.os, h.tape, h.output, h.size, fun k hk => h.block k (by omega) (Or.inl (by omega))⟩
theorem KeptT.forIn {T : Tab} {F : Fst} {w w' : World} {h : Nat → Nat → Nat} (k : KeptT T w w') (hT : T.g + T.A.length < T.t) (hf : ForIn w T F h) : ForIn w' T F h := hf.of_blocks fun b h1 h2 => k.block b h2 (Or.inr (by omega))
end Go.Proofs.Ytcknganggcbkjab.Dist
namespace Go.Proofs.Ytcknganggcbkjab.Dist
open Go.Deep Go.RowKit
set_option linter.unusedVariables false
set_option maxRecDepth 20000

structure NtInv (w : World) (T : Tab) (f : Nat → Nat → Nat) (i j m n : Nat) (wr : World) : Prop where
  tab : TabIn wr T (nt T.A T.B f i j m n)
  kept : KeptT T w wr

set_option maxHeartbeats 2000000 in
theorem note_any (T : Tab) (f : Nat → Nat → Nat) (i j p : Nat) (w : World) (hT : TabIn w T f) (hF : ForIn w T (Fst.of T.A T.B i j p) (DV T.A T.B i j)) (hi : i < T.A.length) (hj : j < T.B.length) :
    Calls Try.prog 81 #[.pointer (some ⟨p, 0, none⟩)] w fun e w' => e = .returned (.tuple #[]) ∧ TabIn w' T (noted T.A T.B f i j) ∧ KeptT T w w' := by
  have hA := hT.okA.many
  have hB := hT.okB.many
  have okA := hide hT.okA
  have okB := hide hT.okB
  have hlx := hT.okA.post.le i hi
  have hly := hT.okB.post.le j hj
  have HF := hide (fun wr (h : KeptT T w wr) => h.forIn hT.ltT hF)
  have hst : NtInv w T f i j 1 1 w := ⟨hT.congr fun a b ha hb => (nt_start hT.okA hT.okB ha hb).symm, KeptT.refl _ _⟩
  have HST := hide hst
  obtain ⟨x, hx⟩ : ∃ x, x = lefts T.A i := ⟨_, rfl⟩
  obtain ⟨y, hy⟩ : ∃ y, y = lefts T.B j := ⟨_, rfl⟩
  obtain ⟨M, hM⟩ : ∃ M, M = i - x + 2 := ⟨_, rfl⟩
  obtain ⟨N, hNn⟩ : ∃ N, N = j - y + 2 := ⟨_, rfl⟩
  rw [← hx] at hlx
  rw [← hy] at hly
  have hM40 : M ≤ 41 := by omega
  have hN40 : N ≤ 41 := by omega
  have hM1 : x + M = i + 2 := by omega
  have hN1 : y + N = j + 2 := by omega
  have HX := hide hx
  have HY := hide hy
  have HM := hide (show M = i - lefts T.A i + 2 by rw [hM, hx])
  have HN := hide (show N = j - lefts T.B j + 2 by rw [hNn, hy])
  clear hT hF hst hx hy hM hNn
  go_enter Try.func81, Try.ntmps81
  go_wp2_with fail
  go_loopg [2] (M - 1) (fun gk v2 wr => ∃ m : Nat, gk = M - m ∧ 0 < m ∧ m ≤ M ∧ v2 = .int .i64 (m : Nat) ∧ NtInv w T f i j m 1 wr)
  case atStart => exact ⟨1, rfl, by omega, by omega, rfl, HST.out⟩
  case round =>
    obtain ⟨m, hgk, hm0, hm, rfl, hI⟩ := hrel
    obtain ⟨wA, hwA⟩ : ∃ wA, wA = wr := ⟨_, rfl⟩
    subst hwA
    have hF1 := HF.out wA hI.kept
    have p3 : wA.cell? ⟨p, 3, none⟩ = some (.slice (some ⟨p + 1, 0, none⟩) M M) := by rw [HM.out]; exact hF1.c3
    by_cases hin : m < M
    · have HI := hide hI
      clear hI hF1
      go_wp2_with fail
      go_loopg [3] (N - 1) (fun gk v3 wr => ∃ n : Nat, gk = N - n ∧ 0 < n ∧ n ≤ N ∧ v3 = .int .i64 (n : Nat) ∧ NtInv w T f i j m n wr)
      case atStart => exact ⟨1, rfl, by omega, by omega, rfl, HI.out⟩
      case round =>
        clear HI p3
        obtain ⟨n, hgk2, hn0, hn, rfl, hI2⟩ := hrel
        have hF2 := HF.out wr hI2.kept
        have hm2 : m < i - lefts T.A i + 2 := by rw [HM.out] at hin; exact hin
        have r3 : wr.cell? ⟨p, 3, none⟩ = some (.slice (some ⟨p + 1, 0, none⟩) M M) := by rw [HM.out]; exact hF2.c3
        have r0 : wr.cell? ⟨p + 1, m, none⟩ = some (.slice (some ⟨p + 1 + 1 + m, 0, none⟩) N N) := by rw [HN.out]; exact hF2.grid.cell hm2
        by_cases hin2 : n < N
        · have hn2 : n < j - lefts T.B j + 2 := by rw [HN.out] at hin2; exact hin2
          have hl := last_any T (Fst.of T.A T.B i j p) _ _ m n wr hI2.tab hF2 hm0 hn0 hm2 hn2
          have HL : Hid (Calls Try.prog 96 #[.pointer (some ⟨p, 0, none⟩), .int .i64 (m : Int), .int .i64 (n : Int)] wr fun e w' => e = .returned (.tuple #[.int .i64 ((lefts T.A i + m - 1 : Nat) : Int), .int .i64 ((lefts T.B j + n - 1 : Nat) : Int), .bool (decide (lefts T.A (lefts T.A i + m - 1) = lefts T.A i ∧ lefts T.B (lefts T.B j + n - 1) = lefts T.B j))]) ∧ ∃ n, w' = wr.drewN n) := hide hl
          rw [← HX.out, ← HY.out] at HL
          obtain ⟨i', hi'⟩ : ∃ i', i' = x + m - 1 := ⟨_, rfl⟩
          obtain ⟨j', hj'⟩ : ∃ j', j' = y + n - 1 := ⟨_, rfl⟩
          rw [← hi', ← hj'] at HL
          have hil : i' < T.A.length := by omega
          have hjl : j' < T.B.length := by omega
          have HI2 := hide hI2
          have HF2 := hide hF2
          clear hl hI2 hF2
          have HI' := hide hi'
          have HJ' := hide hj'
          clear hi' hj'
          go_wp2_with fail
          refine Calls.mono HL.out ?_
          rintro e w2 ⟨rfl, k, hw2⟩
          have hI3 : TabIn w2 T (nt T.A T.B f i j m n) := by rw [hw2]; exact HI2.out.tab.drewN k
          have hF3 : ForIn w2 T (Fst.of T.A T.B i j p) (DV T.A T.B i j) := by rw [hw2]; exact HF2.out.drewN k
          have hK3 : KeptT T w w2 := by rw [hw2]; exact HI2.out.kept.trans (KeptT.drewN T wr k)
          have HW2 := hide hw2
          clear hw2 HL HI2 HF2 r3 r0
          by_cases hone : lefts T.A i' = x ∧ lefts T.B j' = y
          · rw [decide_eq_true hone]
            have f0 : w2.cell? ⟨p, 0, none⟩ = some (.pointer (some ⟨T.t, 0, none⟩)) := hF3.c0
            have f3 : w2.cell? ⟨p, 3, none⟩ = some (.slice (some ⟨p + 1, 0, none⟩) M M) := by rw [HM.out]; exact hF3.c3
            have g1 : w2.cell? ⟨p + 1, m, none⟩ = some (.slice (some ⟨p + 1 + 1 + m, 0, none⟩) N N) := by rw [HN.out]; exact hF3.grid.cell hm2
            have g2 : w2.cell? ⟨p + 1 + 1 + m, n, none⟩ = some (.int .i64 (DV T.A T.B i j m n : Int)) := hF3.grid.num hm2 hn2
            have c2 := hI3.c2
            have t1 := hI3.grid.cell hil
            have t2 := hI3.grid.num hil hjl
            have t3 := hI3.grid.frozen hil j'
            have H3 := hide hI3
            have HK := hide hK3
            have H1 := hide hone
            clear hI3 hF3 hK3 hone
            go_wp2_with fail
            go_region
            go_wp2_with fail
            go_roundg (N - (n + 1))
            case measure => omega
            case rel =>
              refine ⟨n + 1, rfl, by omega, by omega, by go_num, ?_⟩
              have hs := (H3.out.set (i := i') (j := j') hil (DV T.A T.B i j m n)).congr (f' := nt T.A T.B f i j m (n + 1)) fun a b ha hb => by
                rw [HI'.out, HJ'.out, HX.out, HY.out]
                have h1 := H1.out
                rw [HI'.out, HJ'.out, HX.out, HY.out] at h1
                exact nt_put okA.out okB.out hi hj hm0 hn0 hm2 hn2 h1.1 h1.2 ha hb
              exact ⟨hs.below ((Below.refl _ _).drew), (HK.out.trans (KeptT.set hil _)).trans (KeptT.of_below (Below.refl _ _).drew)⟩
          · rw [decide_eq_false hone]
            have H3 := hide hI3
            have HK := hide hK3
            have H1 := hide hone
            clear hI3 hF3 hK3 hone
            go_wp2_with fail
            go_roundg (N - (n + 1))
            case measure => omega
            case rel =>
              refine ⟨n + 1, rfl, by omega, by omega, by go_num, H3.out.congr fun a b ha hb => ?_, HK.out⟩
              have h1 := H1.out
              rw [HI'.out, HJ'.out, HX.out, HY.out] at h1
              exact nt_pass okA.out okB.out hi hj hm0 hn0 h1 ha hb
        · have hne : n = N := by omega
          subst hne
          have HI2 := hide hI2
          clear hI2 hF2
          go_wp2_with fail
          go_roundg (M - (m + 1))
          case measure => omega
          case rel =>
            refine ⟨m + 1, rfl, by omega, by omega, by go_num, ?_, HI2.out.kept⟩
            have := HI2.out.tab
            rw [HN.out] at this
            exact this.congr fun a b ha hb => nt_line okA.out okB.out hj ha hb
    · have hme : m = M := by omega
      subst hme
      have HI := hide hI
      clear hI hF1
      go_wp2_with fail
      go_end0
      refine ⟨rfl, ?_, HI.out.kept⟩
      have := HI.out.tab
      rw [HM.out] at this
      exact this.congr fun a b ha hb => nt_end okA.out okB.out hi ha hb
end Go.Proofs.Ytcknganggcbkjab.Dist
