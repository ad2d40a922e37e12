/- What the tables of package dist hold, step by step; nodes of a tree and their parents. Of no program. -/
import Derived.Test.YtpjlajjbioploabDistM
namespace Go.Proofs.Ytpjlajjbioploab.Dist
open Go.Deep Go.RowKit
set_option linter.unusedVariables false
set_option maxRecDepth 20000

theorem ndF_up : ∀ (k : Fo) (b : Nat) (p : Int) (i : Nat) (x : Nd), (ndF b k p)[i]? = some x → x.par = p ∨ ∃ q y, x.par = ((b + q : Nat) : Int) ∧ i < q ∧ (ndF b k p)[q]? = some y ∧ y.left ≤ x.left
  | .nil, _, _, i, x, h => by simp [ndF] at h
  | .node _ _ z k r, b, p, i, x, h => by
    unfold ndF at h ⊢
    by_cases e1 : i < fnodes k
    · rw [List.getElem?_append_left (by rw [ndF_length]; omega)] at h
      have hl := (ndF_left k b _ i x h).1
      rcases ndF_up k b _ i x h with e | ⟨q, y, h1, h2, h3, h4⟩
      · refine Or.inr ⟨fnodes k, ⟨z.1, p, (b : Int)⟩, e, e1, ?_, hl⟩
        rw [List.getElem?_append_right (by rw [ndF_length]; omega), ndF_length, Nat.sub_self]
        rfl
      · refine Or.inr ⟨q, y, h1, h2, ?_, h4⟩
        rw [List.getElem?_append_left (List.getElem?_eq_some_iff.1 h3).1]
        exact h3
    · rw [List.getElem?_append_right (by rw [ndF_length]; omega), ndF_length] at h
      by_cases e2 : i = fnodes k
      · subst e2
        rw [Nat.sub_self] at h
        simp at h
        subst h
        exact Or.inl rfl
      · obtain ⟨i', rfl⟩ : ∃ i', i = fnodes k + (i' + 1) := ⟨i - fnodes k - 1, by omega⟩
        rw [Nat.add_sub_cancel_left, List.getElem?_cons_succ] at h
        rcases ndF_up r _ p i' x h with e | ⟨q, y, h1, h2, h3, h4⟩
        · exact Or.inl e
        · refine Or.inr ⟨fnodes k + (q + 1), y, by rw [h1]; congr 1; omega, by omega, ?_, h4⟩
          rw [List.getElem?_append_right (by rw [ndF_length]; omega), ndF_length, Nat.add_sub_cancel_left, List.getElem?_cons_succ]
          exact h3
theorem ndF_next : ∀ (k : Fo) (b : Nat) (p : Int) (i j : Nat) (x y : Nd), (ndF b k p)[i]? = some x → (ndF b k p)[j]? = some y → i < j → y.left ≤ ((b + i : Nat) : Int) → ∃ q, x.par = ((b + q : Nat) : Int) ∧ q ≤ j
  | .nil, _, _, i, _, x, _, h, _, _, _ => by simp [ndF] at h
  | .node _ _ z k r, b, p, i, j, x, y, hx, hy, hij, hl => by
    unfold ndF at hx hy
    by_cases e1 : j < fnodes k
    · rw [List.getElem?_append_left (by rw [ndF_length]; omega)] at hx hy
      exact ndF_next k b _ i j x y hx hy hij hl
    · rw [List.getElem?_append_right (by rw [ndF_length]; omega), ndF_length] at hy
      by_cases e2 : i < fnodes k
      · rw [List.getElem?_append_left (by rw [ndF_length]; omega)] at hx
        rcases ndF_up k b _ i x hx with e | ⟨q, y', h1, h2, h3, h4⟩
        · exact ⟨fnodes k, e, by omega⟩
        · have := (List.getElem?_eq_some_iff.1 h3).1
          rw [ndF_length] at this
          exact ⟨q, h1, by omega⟩
      · obtain ⟨j', rfl⟩ : ∃ j', j = fnodes k + (j' + 1) := ⟨j - fnodes k - 1, by omega⟩
        rw [Nat.add_sub_cancel_left, List.getElem?_cons_succ] at hy
        have hyl := (ndF_left r _ _ j' y hy).1
        obtain ⟨i', rfl⟩ : ∃ i', i = fnodes k + (i' + 1) := ⟨i - fnodes k - 1, by omega⟩
        rw [List.getElem?_append_right (by rw [ndF_length]; omega), ndF_length, Nat.add_sub_cancel_left, List.getElem?_cons_succ] at hx
        obtain ⟨q, h1, h2⟩ := ndF_next r _ p i' j' x y hx hy (by omega) (by omega)
        exact ⟨fnodes k + (q + 1), by rw [h1]; congr 1; omega, by omega⟩
theorem ndT_root (s : ByteArray) (k : Fo) : (ndT 0 s k (-1))[fnodes k]? = some ⟨s, -1, ((0 : Nat) : Int)⟩ := by
  unfold ndT
  rw [List.getElem?_append_right (by rw [ndF_length]; omega), ndF_length, Nat.sub_self]
  rfl
theorem nok_ndT (s : ByteArray) (k : Fo) (h40 : fnodes k + 1 ≤ 40) (hl : ∀ x, x ∈ ndT 0 s k (-1) → x.lab.size ≤ 6) : NOk (ndT 0 s k (-1)) := by
  have hn := ndT_length 0 s k (-1)
  have hlen : ∀ i x, (ndT 0 s k (-1))[i]? = some x → i < fnodes k + 1 := fun i x hx => by
    have := (List.getElem?_eq_some_iff.1 hx).1
    omega
  have hK : ∀ i x, i < fnodes k → (ndT 0 s k (-1))[i]? = some x → (ndF 0 k ((0 + fnodes k : Nat) : Int))[i]? = some x := fun i x hi hx => by
    unfold ndT at hx
    rwa [List.getElem?_append_left (by rw [ndF_length]; omega)] at hx
  have hK' : ∀ i x, (ndF 0 k ((0 + fnodes k : Nat) : Int))[i]? = some x → (ndT 0 s k (-1))[i]? = some x := fun i x hx => by
    unfold ndT
    rw [List.getElem?_append_left (List.getElem?_eq_some_iff.1 hx).1]
    exact hx
  have hroot := ndT_root s k
  refine ⟨by omega, by omega, by rw [hn]; exact post_ndT s k, fun i x hx => nd_left hx, ?_, ?_, hl, by rw [hn, Nat.add_sub_cancel, lefts_at hroot]; rfl⟩
  · intro i x hx
    by_cases e : i = fnodes k
    · subst e
      rw [hroot] at hx
      injection hx with hx
      subst hx
      exact Or.inl (show (-1 : Int) < 0 by decide)
    · have hi := hlen i x hx
      have h0 := (nd_left hx).1
      rcases ndF_up k 0 _ i x (hK i x (by omega) hx) with h | ⟨q, y, h1, h2, h3, h4⟩
      · exact Or.inr ⟨fnodes k, _, by rw [h, Nat.zero_add], by omega, hroot, h0⟩
      · exact Or.inr ⟨q, y, by rw [h1, Nat.zero_add], h2, hK' q y h3, h4⟩
  · intro i j x y hx hy hij hle
    have hj := hlen j y hy
    by_cases e : j = fnodes k
    · rcases ndF_up k 0 _ i x (hK i x (by omega) hx) with h | ⟨q, y, h1, h2, h3, h4⟩
      · exact ⟨fnodes k, by rw [h, Nat.zero_add], by omega⟩
      · have := hlen q y (hK' q y h3)
        exact ⟨q, by rw [h1, Nat.zero_add], by omega⟩
    · obtain ⟨q, h1, h2⟩ := ndF_next k 0 _ i j x y (hK i x (by omega) hx) (hK j y (by omega) hy) hij (by rw [Nat.zero_add]; exact hle)
      exact ⟨q, by rw [h1, Nat.zero_add], h2⟩

/-- No node above this one begins where it does. -/
def Grt (L : List Nd) (i : Nat) : Prop := ∀ j, j < L.length → lefts L j = lefts L i → j ≤ i
theorem grt_root {L : List Nd} (h : NOk L) {i : Nat} {x : Nd} (hx : L[i]? = some x) (hp : x.par < 0) : Grt L i := fun j hj e => by
  obtain ⟨y, hy, hly, hyj, _⟩ := left_at h hj
  obtain ⟨x', hx', hlx, hxi, _⟩ := left_at h (List.getElem?_eq_some_iff.1 hx).1
  rcases Nat.lt_or_ge i j with hij | hij
  · obtain ⟨p, hpp, _⟩ := h.next i j x y hx hy hij (by rw [hly, e]; exact Int.ofNat_le.2 hxi)
    omega
  · exact hij
theorem grt_iff {L : List Nd} (h : NOk L) {i p : Nat} {x y : Nd} (hx : L[i]? = some x) (hp : x.par = (p : Int)) (hy : L[p]? = some y) : Grt L i ↔ y.left ≠ x.left := by
  have hil := (List.getElem?_eq_some_iff.1 hx).1
  have hpl := (List.getElem?_eq_some_iff.1 hy).1
  obtain ⟨x', hx', hlx, hxi, _⟩ := left_at h hil
  obtain ⟨y', hy', hly, hyp, _⟩ := left_at h hpl
  rw [hx] at hx'
  rw [hy] at hy'
  injection hx' with hx'
  injection hy' with hy'
  subst hx' hy'
  have hip : i < p ∧ y.left ≤ x.left := by
    rcases h.up i x hx with hn | ⟨q, z, h1, h2, h3, h4⟩
    · omega
    · have : q = p := by omega
      subst this
      rw [hy] at h3
      injection h3 with h3
      subst h3
      exact ⟨h2, h4⟩
  constructor
  · intro hg e
    have := hg p hpl (by omega)
    omega
  · intro hne j hj e
    rcases Nat.lt_or_ge i j with hij | hij
    · exfalso
      obtain ⟨z, hz, hlz, hzj, _⟩ := left_at h hj
      obtain ⟨q, hq, hqj⟩ := h.next i j x z hx hz hij (by rw [hlz, e]; exact Int.ofNat_le.2 hxi)
      have : q = p := by omega
      subst this
      rcases Nat.lt_or_ge q j with h5 | h5
      · have := h.post.lam q j h5 hj (by omega)
        omega
      · have : q = j := by omega
        subst this
        rw [hy] at hz
        injection hz with hz
        subst hz
        omega
    · exact hij

section
variable {la lb : Nat → Nat} {c : Nat → Nat → Nat} {n m : Nat}
/-- The step of the program's table. -/
theorem D_together (ha : Post la n) (hb : Post lb m) {i0 i j0 j : Nat} (hi : i ≤ n) (hj : j ≤ m) (h1 : Frst la i0 i) (h2 : Frst lb j0 j) (e1 : i0 < i) (e2 : j0 < j) :
    D la lb c i0 i j0 j = min (min (if la (i - 1) = i0 ∧ lb (j - 1) = j0 then D la lb c i0 (i - 1) j0 (j - 1) + c (i - 1) (j - 1) else D la lb c i0 (la (i - 1)) j0 (lb (j - 1)) + D la lb c (la (i - 1)) i (lb (j - 1)) j) (D la lb c i0 (i - 1) j0 j + 1)) (D la lb c i0 i j0 (j - 1) + 1) := by
  have l1 := h1 (i - 1) (by omega) (by omega)
  have l2 := h2 (j - 1) (by omega) (by omega)
  have l3 := ha.le (i - 1) (by omega)
  have l4 := hb.le (j - 1) (by omega)
  have d := D_step (c := c) ha hb hi hj h1 h2 e1 e2
  by_cases e : la (i - 1) = i0 ∧ lb (j - 1) = j0
  · rw [if_pos e]
    rw [e.1, e.2, D_left (Nat.le_refl _)] at d
    omega
  · rw [if_neg e]
    have fa := Frst.tree ha (i := i) (by omega) hi
    have fb := Frst.tree hb (i := j) (by omega) hj
    have sp := D_split (c := c) ha hb _ i0 (la (i - 1)) i j0 (lb (j - 1)) j (Nat.lt_succ_self _) l1 (by omega) l2 (by omega) hi hj h1 h2 fa fb
    have d2 := D_step (c := c) ha hb hi hj fa fb (by omega) (by omega)
    rw [D_left (i := la (i - 1)) (Nat.le_refl _)] at d2
    omega
end

/-- What the trees that two nodes head cost. -/
def TD (A B : List Nd) (i j : Nat) : Nat := D (lefts A) (lefts B) (other A B) (lefts A i) (i + 1) (lefts B j) (j + 1)
/-- All that begin where i' does have a number below i. -/
def Top (L : List Nd) (i' i : Nat) : Prop := ∀ j, j < L.length → lefts L j = lefts L i' → j < i
/-- What the table holds when i, j come next. -/
def Known (A B : List Nd) (f : Nat → Nat → Nat) (i j : Nat) : Prop := ∀ i' j', i' < A.length → j' < B.length → (Top A i' i ∨ (Top A i' (i + 1) ∧ Top B j' j)) → f i' j' = TD A B i' j'
theorem Known.start (A B : List Nd) (f : Nat → Nat → Nat) : Known A B f 0 0 := fun i' j' hi hj h => by
  rcases h with h | ⟨_, h⟩
  · have := h i' hi rfl
    omega
  · have := h j' hj rfl
    omega
theorem Known.line {A B : List Nd} {f : Nat → Nat → Nat} {i : Nat} (h : Known A B f i B.length) : Known A B f (i + 1) 0 := fun i' j' hi hj hh => by
  rcases hh with hh | ⟨_, hh⟩
  · exact h i' j' hi hj (Or.inr ⟨hh, fun j hj _ => hj⟩)
  · have := hh j' hj rfl
    omega
theorem Known.skip {A B : List Nd} {f : Nat → Nat → Nat} {i : Nat} (h : Known A B f i 0) (hi : i < A.length) (hg : ¬ Grt A i) : Known A B f (i + 1) 0 := fun i' j' hi' hj' hh => by
  rcases hh with hh | ⟨_, hh⟩
  · refine h i' j' hi' hj' (Or.inl fun j hj e => ?_)
    have h1 := hh j hj e
    rcases Nat.lt_or_ge j i with h2 | h2
    · exact h2
    · exfalso
      obtain rfl : j = i := by omega
      refine hg fun a ha ea => ?_
      have := hh a ha (ea.trans e)
      omega
  · have := hh j' hj' rfl
    omega
theorem Known.skipB {A B : List Nd} {f : Nat → Nat → Nat} {i j : Nat} (h : Known A B f i j) (hj : j < B.length) (hg : ¬ Grt B j) : Known A B f i (j + 1) := fun i' j' hi' hj' hh => by
  rcases hh with hh | ⟨h0, hh⟩
  · exact h i' j' hi' hj' (Or.inl hh)
  · refine h i' j' hi' hj' (Or.inr ⟨h0, fun a ha e => ?_⟩)
    have h1 := hh a ha e
    rcases Nat.lt_or_ge a j with h2 | h2
    · exact h2
    · exfalso
      obtain rfl : a = j := by omega
      refine hg fun a ha ea => ?_
      have := hh a ha (ea.trans e)
      omega
/-- Those that one note puts in. -/
def noted (A B : List Nd) (f : Nat → Nat → Nat) (i j : Nat) : Nat → Nat → Nat := fun a b => if a ≤ i ∧ b ≤ j ∧ lefts A a = lefts A i ∧ lefts B b = lefts B j then TD A B a b else f a b
theorem Known.note {A B : List Nd} {f : Nat → Nat → Nat} {i j : Nat} (h : Known A B f i j) (hi : i < A.length) (hj : j < B.length) : Known A B (noted A B f i j) i (j + 1) := fun i' j' hi' hj' hh => by
  unfold noted
  by_cases e : i' ≤ i ∧ j' ≤ j ∧ lefts A i' = lefts A i ∧ lefts B j' = lefts B j
  · rw [if_pos e]
  · rw [if_neg e]
    refine h i' j' hi' hj' ?_
    rcases hh with hh | ⟨h0, hh⟩
    · exact Or.inl hh
    · have a1 := h0 i' hi' rfl
      have a2 := hh j' hj' rfl
      by_cases e1 : lefts A i' = lefts A i
      · refine Or.inr ⟨h0, fun a ha ea => ?_⟩
        have h1 := hh a ha ea
        rcases Nat.lt_or_ge a j with h2 | h2
        · exact h2
        · exfalso
          obtain rfl : a = j := by omega
          exact e ⟨by omega, by omega, e1, ea.symm⟩
      · refine Or.inl fun a ha ea => ?_
        have h1 := h0 a ha ea
        rcases Nat.lt_or_ge a i with h2 | h2
        · exact h2
        · exfalso
          obtain rfl : a = i := by omega
          exact e1 ea.symm
theorem top_of {L : List Nd} (h : NOk L) {i i' : Nat} (hi : i < L.length) (hg : Grt L i) (h1 : lefts L i ≤ i') (h2 : i' ≤ i) : Top L i' (i + 1) ∧ (lefts L i' ≠ lefts L i → Top L i' i) := by
  have hle := h.post.le i' (by omega)
  have hlo : lefts L i ≤ lefts L i' := by
    rcases Nat.lt_or_ge i' i with h3 | h3
    · exact h.post.lam i' i h3 hi h1
    · obtain rfl : i' = i := by omega
      exact Nat.le_refl _
  have key : ∀ j, j < L.length → lefts L j = lefts L i' → i < j → lefts L i' = lefts L i := fun j hj e hij => by
    have := h.post.lam i j hij hj (by omega)
    omega
  refine ⟨fun j hj e => ?_, fun hne j hj e => ?_⟩
  · rcases Nat.lt_or_ge i j with h3 | h3
    · have := hg j hj (e.trans (key j hj e h3))
      omega
    · omega
  · rcases Nat.lt_or_ge j i with h3 | h3
    · exact h3
    · exfalso
      rcases Nat.lt_or_ge i j with h4 | h4
      · exact hne (key j hj e h4)
      · obtain rfl : j = i := by omega
        exact hne e.symm
/-- What forests of i and j need to know. -/
def Needs (A B : List Nd) (f : Nat → Nat → Nat) (i j : Nat) : Prop := ∀ i' j', lefts A i ≤ i' → i' ≤ i → lefts B j ≤ j' → j' ≤ j → ¬ (lefts A i' = lefts A i ∧ lefts B j' = lefts B j) → f i' j' = TD A B i' j'
theorem Known.needs {A B : List Nd} {f : Nat → Nat → Nat} {i j : Nat} (h : Known A B f i j) (hA : NOk A) (hB : NOk B) (hi : i < A.length) (hj : j < B.length) (gA : Grt A i) (gB : Grt B j) : Needs A B f i j := fun i' j' h1 h2 h3 h4 hne => by
  have ta := top_of hA hi gA h1 h2
  have tb := top_of hB hj gB h3 h4
  refine h i' j' (by omega) (by omega) ?_
  by_cases e : lefts A i' = lefts A i
  · exact Or.inr ⟨ta.1, tb.2 fun e2 => hne ⟨e, e2⟩⟩
  · exact Or.inl (ta.2 e)
theorem Known.all {A B : List Nd} {f : Nat → Nat → Nat} (h : Known A B f A.length 0) : ∀ i j, i < A.length → j < B.length → f i j = TD A B i j := fun i j hi hj => h i j hi hj (Or.inl fun a ha _ => ha)
end Go.Proofs.Ytpjlajjbioploab.Dist
