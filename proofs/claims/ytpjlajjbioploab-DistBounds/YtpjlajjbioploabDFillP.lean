/- What note and fill of package dist put into the table, step by step. Of no program. -/
import Derived.Test.YtpjlajjbioploabDForP
namespace Go.Proofs.Ytpjlajjbioploab.Dist
open Go.Deep Go.RowKit
set_option linter.unusedVariables false
set_option maxRecDepth 20000

/-- Has note come by this pair, ahead of m and n? -/
def ntDone (A B : List Nd) (i j m n a b : Nat) : Prop := lefts A a = lefts A i ∧ lefts B b = lefts B j ∧ b ≤ j ∧ (a + 1 - lefts A i < m ∨ (a + 1 - lefts A i = m ∧ b + 1 - lefts B j < n))
instance (A B : List Nd) (i j m n a b : Nat) : Decidable (ntDone A B i j m n a b) := by unfold ntDone; infer_instance
def nt (A B : List Nd) (f : Nat → Nat → Nat) (i j m n : Nat) : Nat → Nat → Nat := fun a b => if ntDone A B i j m n a b then TD A B a b else f a b
section
variable {A B : List Nd} {f : Nat → Nat → Nat} {i j m n a b : Nat}
theorem nt_start (hA : NOk A) (hB : NOk B) (ha : a < A.length) (hb : b < B.length) : nt A B f i j 1 1 a b = f a b := by
  have h1 := hA.post.le a ha
  have h2 := hB.post.le b hb
  unfold nt
  rw [if_neg]
  rintro ⟨e1, e2, _, e3⟩
  omega
theorem nt_put (hA : NOk A) (hB : NOk B) (hi : i < A.length) (hj : j < B.length) (hm : 0 < m) (hn : 0 < n) (hM : m < i - lefts A i + 2) (hN : n < j - lefts B j + 2)
    (e1 : lefts A (lefts A i + m - 1) = lefts A i) (e2 : lefts B (lefts B j + n - 1) = lefts B j) (ha : a < A.length) (hb : b < B.length) : upd (nt A B f i j m n) (lefts A i + m - 1) (lefts B j + n - 1) (DV A B i j m n) a b = nt A B f i j m (n + 1) a b := by
  have h1 := hA.post.le a ha
  have h2 := hB.post.le b hb
  have h3 := hA.post.le i hi
  have h4 := hB.post.le j hj
  unfold upd
  by_cases e : a = lefts A i + m - 1 ∧ b = lefts B j + n - 1
  · rw [if_pos e]
    obtain ⟨rfl, rfl⟩ := e
    unfold nt
    rw [if_pos ⟨e1, e2, by omega, Or.inr ⟨by omega, by omega⟩⟩]
    unfold DV TD
    rw [e1, e2, show lefts A i + m - 1 + 1 = lefts A i + m by omega, show lefts B j + n - 1 + 1 = lefts B j + n by omega]
  · rw [if_neg e]
    unfold nt
    by_cases d : ntDone A B i j m n a b
    · rw [if_pos d, if_pos ⟨d.1, d.2.1, d.2.2.1, by have := d.2.2.2; omega⟩]
    · rw [if_neg d, if_neg]
      rintro ⟨d1, d2, d3, d4⟩
      refine d ⟨d1, d2, d3, ?_⟩
      omega
theorem nt_pass (hA : NOk A) (hB : NOk B) (hi : i < A.length) (hj : j < B.length) (hm : 0 < m) (hn : 0 < n)
    (e : ¬ (lefts A (lefts A i + m - 1) = lefts A i ∧ lefts B (lefts B j + n - 1) = lefts B j)) (ha : a < A.length) (hb : b < B.length) : nt A B f i j m n a b = nt A B f i j m (n + 1) a b := by
  have h1 := hA.post.le a ha
  have h2 := hB.post.le b hb
  unfold nt
  by_cases d : ntDone A B i j m n a b
  · rw [if_pos d, if_pos ⟨d.1, d.2.1, d.2.2.1, by have := d.2.2.2; omega⟩]
  · rw [if_neg d, if_neg]
    rintro ⟨d1, d2, d3, d4⟩
    by_cases g : a + 1 - lefts A i = m ∧ b + 1 - lefts B j = n
    · refine e ?_
      rw [show lefts A i + m - 1 = a by omega, show lefts B j + n - 1 = b by omega]
      exact ⟨d1, d2⟩
    · refine d ⟨d1, d2, d3, ?_⟩
      omega
theorem nt_line (hA : NOk A) (hB : NOk B) (hj : j < B.length) (ha : a < A.length) (hb : b < B.length) : nt A B f i j m (j - lefts B j + 2) a b = nt A B f i j (m + 1) 1 a b := by
  have h1 := hA.post.le a ha
  have h2 := hB.post.le b hb
  have h4 := hB.post.le j hj
  unfold nt
  by_cases d : ntDone A B i j m (j - lefts B j + 2) a b
  · rw [if_pos d, if_pos ⟨d.1, d.2.1, d.2.2.1, by have := d.2.2.2; omega⟩]
  · rw [if_neg d, if_neg]
    rintro ⟨d1, d2, d3, d4⟩
    refine d ⟨d1, d2, d3, ?_⟩
    omega
theorem nt_end (hA : NOk A) (hB : NOk B) (hi : i < A.length) (ha : a < A.length) (hb : b < B.length) : nt A B f i j (i - lefts A i + 2) 1 a b = noted A B f i j a b := by
  have h1 := hA.post.le a ha
  have h2 := hB.post.le b hb
  have h4 := hA.post.le i hi
  unfold nt noted
  by_cases d : ntDone A B i j (i - lefts A i + 2) 1 a b
  · rw [if_pos d, if_pos]
    obtain ⟨d1, d2, d3, d4⟩ := d
    exact ⟨by omega, d3, d1, d2⟩
  · rw [if_neg d, if_neg]
    rintro ⟨d1, d2, d3, d4⟩
    refine d ⟨d3, d4, d2, ?_⟩
    omega
end
/-- All but the table's rows is as it was. -/
structure KeptT (T : Tab) (w w' : World) : Prop where
  os : w'.os = w.os
  tape : w'.tape = w.tape
  output : w'.output = w.output
  size : w.heap.size ≤ w'.heap.size
  block : ∀ b, b < w.heap.size → (b ≤ T.g ∨ T.g + T.A.length < b) → w'.heap[b]? = w.heap[b]?
theorem KeptT.refl (T : Tab) (w : World) : KeptT T w w := ⟨rfl, rfl, rfl, Nat.le_refl _, fun _ _ _ => rfl⟩
theorem KeptT.trans {T : Tab} {a b c : World} (h : KeptT T a b) (k : KeptT T b c) : KeptT T a c :=
  ⟨k.os.trans h.os, k.tape.trans h.tape, k.output.trans h.output, Nat.le_trans h.size k.size, fun x hx hn => (k.block x (Nat.lt_of_lt_of_le hx h.size) hn).trans (h.block x hx hn)⟩
theorem KeptT.of_below {T : Tab} {a b : World} (h : Below a.heap.size a b) : KeptT T a b := ⟨h.os, h.tape, h.output, h.size, fun x hx _ => h.block x hx⟩
theorem KeptT.set {T : Tab} {w : World} {i j : Nat} (hi : i < T.A.length) (v : Value) : KeptT T w (w.setCell ⟨T.g + 1 + i, j, none⟩ v) :=
  ⟨rfl, rfl, rfl, by simp [World.setCell], fun b _ hn => blk_setCell_other _ _ _ _ (by simp; omega)⟩
theorem KeptT.drewN (T : Tab) (w : World) (n : Nat) : KeptT T w (w.drewN n) := of_below (below_drewN (Below.refl _ _) n)
theorem KeptT.below {T : Tab} {w w' : World} {B : Nat} (h : KeptT T w w') (hB : B ≤ T.g + 1) (hw : B ≤ w.heap.size) : Below B w w' := ⟨h.os, h.tape, h.output, h.size, fun k hk => h.block k (by omega) (Or.inl (by omega))⟩
theorem KeptT.forIn {T : Tab} {F : Fst} {w w' : World} {h : Nat → Nat → Nat} (k : KeptT T w w') (hT : T.g + T.A.length < T.t) (hf : ForIn w T F h) : ForIn w' T F h := hf.of_blocks fun b h1 h2 => k.block b h2 (Or.inr (by omega))
end Go.Proofs.Ytpjlajjbioploab.Dist
