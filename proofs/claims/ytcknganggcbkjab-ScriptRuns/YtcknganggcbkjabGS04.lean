/- What a tree without a fault is. Of the document's words alone. -/
/- Deeds done to trees, and undone: trees and numbers alone. Of no program. -/
/- Numbers that lie in memory. Of no program. -/
import Derived.Test.YtcknganggcbkjabGS03
import Derived.Test.YtcknganggcbkjabGS00
import Derived.Test.YtcknganggcbkjabGS02
namespace Go.Proofs.Ytcknganggcbkjab
open Go.Deep Go.RowKit
set_option linter.unusedVariables false

theorem labelB_size {s : ByteArray} (h : labelB s = true) : 1 ≤ s.size ∧ s.size ≤ 6 := by
  unfold labelB at h
  simp only [Bool.and_eq_true, decide_eq_true_eq] at h
  exact h.1
theorem fault_zero {s : ByteArray} {k : Fo} (h : faultT s k = 0) : 1 + fnodes k ≤ 40 ∧ deepT k 0 = false ∧ badT s k = false := by
  unfold faultT at h
  split at h
  · cases h
  · split at h
    · cases h
    · split at h
      · cases h
      · rename_i h1 h2 h3
        exact ⟨by omega, by simpa using h2, by simpa using h3⟩

theorem badF_strip' : ∀ f : Fo, badF (strip f) = badF f
  | .nil => rfl
  | .node _ _ x k r => by simp [badF, strip, badF_strip' k, badF_strip' r]
theorem deepF_strip' : ∀ (f : Fo) (a : Int), deepF (strip f) a = deepF f a
  | .nil, _ => rfl
  | .node _ _ x k r, a => by simp [deepF, strip, deepF_strip' k, deepF_strip' r]
theorem faultT_strip (x : ByteArray) (f : Fo) : faultT x (strip f) = faultT x f := by
  unfold faultT deepT badT
  rw [fnodes_strip, deepF_strip', badF_strip']

end Go.Proofs.Ytcknganggcbkjab
namespace Go.Proofs.Ytcknganggcbkjab.Deed
open Go.Deep Go.RowKit
set_option linter.unusedVariables false
set_option maxRecDepth 20000

/-- Forests that lie nowhere. -/
def Bare (k : Fo) : Prop := strip k = k
theorem bare_toFo : ∀ (l : Gs), (∀ x, x ∈ l → Bare x.2) → Bare (toFo l)
  | [], _ => rfl
  | x :: l, h => by
    have h1 := h x (by simp)
    have h2 := bare_toFo l (fun y hy => h y (by simp [hy]))
    unfold Bare at *
    simp [toFo, strip, h1, h2]
theorem gs_bare : ∀ (k : Fo) (x : ByteArray × Fo), x ∈ gsF k → Bare x.2
  | .nil, x, h => by simp [gsF] at h
  | .node _ _ y k r, x, h => by
    simp only [gsF, List.mem_cons] at h
    rcases h with rfl | h
    · exact strip_strip k
    · exact gs_bare r x h
theorem gs_toFo : ∀ (l : Gs), (∀ x, x ∈ l → Bare x.2) → gsF (toFo l) = l
  | [], _ => rfl
  | x :: l, h => by
    have h1 := h x (by simp)
    have h2 := gs_toFo l (fun y hy => h y (by simp [hy]))
    simp only [toFo, gsF, h2]
    rw [h1]
theorem gs_len : ∀ k : Fo, (gsF k).length = flen k
  | .nil => rfl
  | .node _ _ x k r => by simp [gsF, flen, gs_len r]
theorem gs_strip : ∀ k : Fo, gsF (strip k) = gsF k
  | .nil => rfl
  | .node _ _ x k r => by simp [gsF, strip, gs_strip r, strip_strip]
theorem set_bare {l : Gs} (h : ∀ x, x ∈ l → Bare x.2) {i : Nat} {y : ByteArray × Fo} (hy : Bare y.2) : ∀ x, x ∈ l.set i y → Bare x.2 := fun x hx => by
  rcases List.mem_or_eq_of_mem_set hx with hx | rfl
  · exact h x hx
  · exact hy

/-- What is done to a node: a code, and what comes of it. -/
abbrev Op := ByteArray → Fo → Int × ByteArray × Fo
/-- Done at the node at a path. -/
def modP (op : Op) : List Nat → Op
  | [], s, k => op s k
  | p :: ps, s, k => match (gsF k)[p]? with
    | none => (7, s, k)
    | some x => ((modP op ps x.1 x.2).1, s, toFo ((gsF k).set p (modP op ps x.1 x.2).2))
/-- The node at a path. -/
def atM : List Nat → ByteArray → Fo → Option (ByteArray × Fo)
  | [], s, k => some (s, k)
  | p :: ps, s, k => match (gsF k)[p]? with
    | none => none
    | some x => atM ps x.1 x.2
def namOp (lab : ByteArray) : Op := fun _ k => (0, lab, strip k)
def delOp (i : Nat) : Op := fun s k => match (gsF k)[i]? with
  | none => (7, s, k)
  | some x => (0, s, toFo ((gsF k).take i ++ (gsF x.2 ++ (gsF k).drop (i + 1))))
def insOp (i n : Nat) (lab : ByteArray) : Op := fun s k => if i + n ≤ flen k then (0, s, toFo ((gsF k).take i ++ ((lab, toFo (((gsF k).drop i).take n)) :: (gsF k).drop (i + n)))) else (9, s, k)

/-- What comes lies nowhere. -/
def Op.Ok (op : Op) : Prop := ∀ s k s' k', op s k = (0, s', k') → Bare k'
theorem namOp_ok (lab : ByteArray) : Op.Ok (namOp lab) := fun s k s' k' h => by
  simp only [namOp, Prod.mk.injEq] at h
  rw [← h.2.2]
  exact strip_strip k
theorem delOp_ok (i : Nat) : Op.Ok (delOp i) := fun s k s' k' h => by
  unfold delOp at h
  cases hx : (gsF k)[i]? with
  | none => simp [hx] at h
  | some x =>
    simp only [hx, Prod.mk.injEq] at h
    rw [← h.2.2]
    refine bare_toFo _ fun y hy => ?_
    rcases List.mem_append.1 hy with hy | hy
    · exact gs_bare k y (List.mem_of_mem_take hy)
    · rcases List.mem_append.1 hy with hy | hy
      · exact gs_bare _ y hy
      · exact gs_bare k y (List.mem_of_mem_drop hy)
theorem insOp_ok (i n : Nat) (lab : ByteArray) : Op.Ok (insOp i n lab) := fun s k s' k' h => by
  unfold insOp at h
  split at h
  · simp only [Prod.mk.injEq] at h
    rw [← h.2.2]
    refine bare_toFo _ fun y hy => ?_
    rcases List.mem_append.1 hy with hy | hy
    · exact gs_bare k y (List.mem_of_mem_take hy)
    · rcases List.mem_cons.1 hy with rfl | hy
      · exact bare_toFo _ fun z hz => gs_bare k z (List.mem_of_mem_drop (List.mem_of_mem_take hz))
      · exact gs_bare k y (List.mem_of_mem_drop hy)
  · simp at h

/-- What was done at a path, and how it is undone there. -/
theorem modP_back {op : Op} (hop : Op.Ok op) : ∀ (p : List Nat) (s : ByteArray) (k : Fo) (s' : ByteArray) (k' : Fo), modP op p s k = (0, s', k') →
    ∃ l kk l' kk', atM p s k = some (l, kk) ∧ op l kk = (0, l', kk') ∧ atM p s' k' = some (l', kk') ∧ Bare k' ∧ ∀ op' : Op, op' l' kk' = (0, l, strip kk) → modP op' p s' k' = (0, s, strip k)
  | [], s, k, s', k', h => ⟨s, k, s', k', rfl, h, rfl, hop s k s' k' h, fun op' h' => h'⟩
  | p :: ps, s, k, s', k', h => by
    unfold modP at h
    cases hx : (gsF k)[p]? with
    | none => simp [hx] at h
    | some x =>
      simp only [hx, Prod.mk.injEq] at h
      obtain ⟨h0, rfl, rfl⟩ := h
      obtain ⟨l, kk, l', kk', e1, e2, e3, e4, e5⟩ := modP_back hop ps x.1 x.2 (modP op ps x.1 x.2).2.1 (modP op ps x.1 x.2).2.2 (by rw [← h0])
      have hbx := gs_bare k x (List.mem_of_getElem? hx)
      have hb := set_bare (gs_bare k) (i := p) (y := (modP op ps x.1 x.2).2) e4
      have hlt := (List.getElem?_eq_some_iff.1 hx).1
      have hget : ((gsF k).set p (modP op ps x.1 x.2).2)[p]? = some (modP op ps x.1 x.2).2 := by rw [List.getElem?_set_self hlt]
      refine ⟨l, kk, l', kk', ?_, e2, ?_, bare_toFo _ hb, fun op' h' => ?_⟩
      · unfold atM
        rw [hx]
        exact e1
      · unfold atM
        rw [gs_toFo _ hb, hget]
        exact e3
      · unfold modP
        rw [gs_toFo _ hb]
        simp only [hget]
        rw [e5 op' h', hbx, List.set_set]
        have : (gsF k).set p x = gsF k := by
          obtain ⟨_, rfl⟩ := List.getElem?_eq_some_iff.1 hx
          exact List.set_getElem_self hlt
        rw [this, toFo_gs]

theorem del_ins {i : Nat} {s : ByteArray} {k : Fo} {s' : ByteArray} {k' : Fo} (h : delOp i s k = (0, s', k')) : ∃ x, (gsF k)[i]? = some x ∧ insOp i (flen x.2) x.1 s' k' = (0, s, strip k) ∧ i + flen x.2 ≤ flen k' := by
  unfold delOp at h
  cases hx : (gsF k)[i]? with
  | none => simp [hx] at h
  | some x =>
    simp only [hx, Prod.mk.injEq] at h
    obtain ⟨_, rfl, rfl⟩ := h
    have hlt := (List.getElem?_eq_some_iff.1 hx).1
    have hbx := gs_bare k x (List.mem_of_getElem? hx)
    have hbare : ∀ y, y ∈ (gsF k).take i ++ (gsF x.2 ++ (gsF k).drop (i + 1)) → Bare y.2 := fun y hy => by
      rcases List.mem_append.1 hy with hy | hy
      · exact gs_bare k y (List.mem_of_mem_take hy)
      · rcases List.mem_append.1 hy with hy | hy
        · exact gs_bare _ y hy
        · exact gs_bare k y (List.mem_of_mem_drop hy)
    have hg := gs_toFo _ hbare
    have htl : ((gsF k).take i).length = i := by rw [List.length_take]; omega
    have hxl := gs_len x.2
    have hle : i + flen x.2 ≤ flen (toFo ((gsF k).take i ++ (gsF x.2 ++ (gsF k).drop (i + 1)))) := by
      have := gs_len (toFo ((gsF k).take i ++ (gsF x.2 ++ (gsF k).drop (i + 1))))
      rw [hg, List.length_append, List.length_append, htl, hxl] at this
      omega
    refine ⟨x, rfl, ?_, hle⟩
    unfold insOp
    rw [if_pos hle, hg]
    have t1 : ((gsF k).take i ++ (gsF x.2 ++ (gsF k).drop (i + 1))).take i = (gsF k).take i := by rw [List.take_append_of_le_length (by omega), List.take_take, Nat.min_self]
    have t2 : ((gsF k).take i ++ (gsF x.2 ++ (gsF k).drop (i + 1))).drop i = gsF x.2 ++ (gsF k).drop (i + 1) := by
      have := List.drop_left (l₁ := (gsF k).take i) (l₂ := gsF x.2 ++ (gsF k).drop (i + 1))
      rwa [htl] at this
    have t3 : ((gsF k).take i ++ (gsF x.2 ++ (gsF k).drop (i + 1))).drop (i + flen x.2) = (gsF k).drop (i + 1) := by
      rw [← List.drop_drop, t2, ← hxl, List.drop_left]
    rw [t1, t2, t3, ← hxl, List.take_left, toFo_gs, hbx]
    have : (gsF k).take i ++ (x.1, x.2) :: (gsF k).drop (i + 1) = gsF k := by
      obtain ⟨_, rfl⟩ := List.getElem?_eq_some_iff.1 hx
      rw [← List.drop_eq_getElem_cons hlt]
      exact List.take_append_drop i _
    rw [this, toFo_gs]
theorem ins_del {i n : Nat} {lab s : ByteArray} {k : Fo} {s' : ByteArray} {k' : Fo} (h : insOp i n lab s k = (0, s', k')) : ∃ kk, (gsF k')[i]? = some (lab, kk) ∧ flen kk = n ∧ delOp i s' k' = (0, s, strip k) := by
  unfold insOp at h
  split at h
  case isFalse => simp at h
  case isTrue hle =>
    simp only [Prod.mk.injEq] at h
    obtain ⟨_, rfl, rfl⟩ := h
    have hl := gs_len k
    have hkb : ∀ z, z ∈ ((gsF k).drop i).take n → Bare z.2 := fun z hz => gs_bare k z (List.mem_of_mem_drop (List.mem_of_mem_take hz))
    have hbare : ∀ y, y ∈ (gsF k).take i ++ ((lab, toFo (((gsF k).drop i).take n)) :: (gsF k).drop (i + n)) → Bare y.2 := fun y hy => by
      rcases List.mem_append.1 hy with hy | hy
      · exact gs_bare k y (List.mem_of_mem_take hy)
      · rcases List.mem_cons.1 hy with rfl | hy
        · exact bare_toFo _ hkb
        · exact gs_bare k y (List.mem_of_mem_drop hy)
    have hg := gs_toFo _ hbare
    have htl : ((gsF k).take i).length = i := by rw [List.length_take]; omega
    have hget : ((gsF k).take i ++ ((lab, toFo (((gsF k).drop i).take n)) :: (gsF k).drop (i + n)))[i]? = some (lab, toFo (((gsF k).drop i).take n)) := by
      rw [List.getElem?_append_right (by omega), htl, Nat.sub_self]
      rfl
    refine ⟨toFo (((gsF k).drop i).take n), by rw [hg]; exact hget, ?_, ?_⟩
    · rw [← gs_len, gs_toFo _ hkb, List.length_take, List.length_drop]
      omega
    · unfold delOp
      rw [hg]
      simp only [hget]
      have t1 : ((gsF k).take i ++ ((lab, toFo (((gsF k).drop i).take n)) :: (gsF k).drop (i + n))).take i = (gsF k).take i := by rw [List.take_append_of_le_length (by omega), List.take_take, Nat.min_self]
      have t2 : ((gsF k).take i ++ ((lab, toFo (((gsF k).drop i).take n)) :: (gsF k).drop (i + n))).drop (i + 1) = (gsF k).drop (i + n) := by
        have := List.drop_left (l₁ := (gsF k).take i) (l₂ := (lab, toFo (((gsF k).drop i).take n)) :: (gsF k).drop (i + n))
        rw [htl] at this
        rw [← List.drop_drop, this]
        rfl
      rw [t1, t2, gs_toFo _ hkb]
      have : ((gsF k).drop i).take n ++ (gsF k).drop (i + n) = (gsF k).drop i := by rw [← List.drop_drop, List.take_append_drop]
      rw [this, List.take_append_drop, toFo_gs]

/-- A deed: its kind, where, at which place and how many, its label. -/
structure Dd where
  kind : Int
  path : List Int
  pos : Int
  many : Int
  lab : ByteArray
/-- The code of a deed. -/
def deedFault (d : Dd) : Int :=
  if d.kind ≠ 1 ∧ d.kind ≠ 2 ∧ d.kind ≠ 3 then 10
  else if (d.kind ≠ 3 ∧ (d.pos ≠ 0 ∨ d.many ≠ 0)) ∨ (d.kind = 2 ∧ d.lab ≠ ⟨#[]⟩) then 6
  else if d.pos < 0 ∨ d.many < 0 ∨ d.path.any (fun p => decide (p < 0)) = true then 9
  else if d.kind ≠ 2 ∧ labelB d.lab = false then 1
  else if d.kind = 2 ∧ d.path = [] then 8
  else 0
def nats (l : List Int) : List Nat := l.map Int.toNat
/-- What a deed does, whatever comes of it. -/
def doneP (d : Dd) : Op := if d.kind = 1 then modP (namOp d.lab) (nats d.path) else if d.kind = 2 then modP (delOp (nats d.path).getLast!) (nats d.path).dropLast else modP (insOp d.pos.toNat d.many.toNat d.lab) (nats d.path)
/-- What undoes it. -/
def backP (d : Dd) (s : ByteArray) (k : Fo) : Dd :=
  if d.kind = 1 then ⟨1, d.path, 0, 0, ((atM (nats d.path) s k).getD (⟨#[]⟩, .nil)).1⟩
  else if d.kind = 2 then ⟨3, d.path.dropLast, d.path.getLastD 0, flen ((atM (nats d.path) s k).getD (⟨#[]⟩, .nil)).2, ((atM (nats d.path) s k).getD (⟨#[]⟩, .nil)).1⟩
  else ⟨2, d.path ++ [d.pos], 0, 0, ⟨#[]⟩⟩
/-- A deed done to a tree: a code, what comes of it, what undoes it. -/
def doP (d : Dd) (s : ByteArray) (k : Fo) : Int × (ByteArray × Fo) × Dd :=
  if faultT s k ≠ 0 then (faultT s k, (⟨#[]⟩, .nil), ⟨0, [], 0, 0, ⟨#[]⟩⟩)
  else if deedFault d ≠ 0 then (deedFault d, (⟨#[]⟩, .nil), ⟨0, [], 0, 0, ⟨#[]⟩⟩)
  else if (doneP d s k).1 ≠ 0 then ((doneP d s k).1, (⟨#[]⟩, .nil), ⟨0, [], 0, 0, ⟨#[]⟩⟩)
  else if faultT (doneP d s k).2.1 (doneP d s k).2.2 ≠ 0 then (faultT (doneP d s k).2.1 (doneP d s k).2.2, (⟨#[]⟩, .nil), ⟨0, [], 0, 0, ⟨#[]⟩⟩)
  else (0, (doneP d s k).2, backP d s k)

theorem ints_nats : ∀ {l : List Int}, l.any (fun p => decide (p < 0)) = false → (nats l).map (fun n => ((n : Nat) : Int)) = l
  | [], _ => rfl
  | p :: l, h => by
    simp only [List.any_cons, Bool.or_eq_false_iff, decide_eq_false_iff_not] at h
    have := ints_nats h.2
    simp only [nats, List.map_cons] at this ⊢
    rw [this, show ((p.toNat : Nat) : Int) = p by omega]
/-- The labels of a good tree are good. -/
theorem good_at : ∀ (p : List Nat) (s : ByteArray) (k : Fo) (x : ByteArray × Fo), badT s k = false → atM p s k = some x → labelB x.1 = true
  | [], s, k, x, h, hx => by
    simp only [atM, Option.some.injEq] at hx
    subst hx
    unfold badT at h
    simpa using (Bool.or_eq_false_iff.1 h).1
  | p :: ps, s, k, x, h, hx => by
    unfold atM at hx
    cases hy : (gsF k)[p]? with
    | none => simp [hy] at hx
    | some y =>
      simp only [hy] at hx
      refine good_at ps y.1 y.2 x ?_ hx
      have key : ∀ (k : Fo), badF k = false → ∀ y, y ∈ gsF k → badT y.1 y.2 = false := fun k => by
        induction k with
        | nil => intro _ y hy; simp [gsF] at hy
        | node _ _ z kk r ih1 ih2 =>
          intro hb y hy
          simp only [badF, Bool.or_eq_false_iff] at hb
          simp only [gsF, List.mem_cons] at hy
          rcases hy with rfl | hy
          · unfold badT
            rw [badF_strip']
            simp [hb.1.1, hb.1.2]
          · exact ih2 hb.2 y hy
      exact key k (Bool.or_eq_false_iff.1 h).2 y (List.mem_of_getElem? hy)
theorem deedFault_zero {d : Dd} (h : deedFault d = 0) : (d.kind = 1 ∨ d.kind = 2 ∨ d.kind = 3) ∧ (d.kind ≠ 3 → d.pos = 0 ∧ d.many = 0) ∧ (d.kind = 2 → d.lab = ⟨#[]⟩) ∧ 0 ≤ d.pos ∧ 0 ≤ d.many ∧ d.path.any (fun p => decide (p < 0)) = false ∧ (d.kind ≠ 2 → labelB d.lab = true) ∧ (d.kind = 2 → d.path ≠ []) := by
  unfold deedFault at h
  by_cases h1 : d.kind ≠ 1 ∧ d.kind ≠ 2 ∧ d.kind ≠ 3
  · rw [if_pos h1] at h; cases h
  · rw [if_neg h1] at h
    by_cases h2 : (d.kind ≠ 3 ∧ (d.pos ≠ 0 ∨ d.many ≠ 0)) ∨ (d.kind = 2 ∧ d.lab ≠ ⟨#[]⟩)
    · rw [if_pos h2] at h; cases h
    · rw [if_neg h2] at h
      by_cases h3 : d.pos < 0 ∨ d.many < 0 ∨ d.path.any (fun p => decide (p < 0)) = true
      · rw [if_pos h3] at h; cases h
      · rw [if_neg h3] at h
        by_cases h4 : d.kind ≠ 2 ∧ labelB d.lab = false
        · rw [if_pos h4] at h; cases h
        · rw [if_neg h4] at h
          by_cases h5 : d.kind = 2 ∧ d.path = []
          · rw [if_pos h5] at h; cases h
          · refine ⟨by omega, fun hk => ?_, fun hk => ?_, by omega, by omega, ?_, fun hk => ?_, fun hk e => h5 ⟨hk, e⟩⟩
            · have : ¬ (d.pos ≠ 0 ∨ d.many ≠ 0) := fun e => h2 (Or.inl ⟨hk, e⟩)
              omega
            · exact Classical.byContradiction fun e => h2 (Or.inr ⟨hk, e⟩)
            · cases e : d.path.any (fun p => decide (p < 0))
              · rfl
              · exact absurd (Or.inr (Or.inr e)) h3
            · cases e : labelB d.lab
              · exact absurd ⟨hk, e⟩ h4
              · rfl
theorem deedFault_of {d : Dd} (h1 : d.kind = 1 ∨ d.kind = 2 ∨ d.kind = 3) (h2 : d.kind ≠ 3 → d.pos = 0 ∧ d.many = 0) (h3 : d.kind = 2 → d.lab = ⟨#[]⟩) (h4 : 0 ≤ d.pos) (h5 : 0 ≤ d.many) (h6 : d.path.any (fun p => decide (p < 0)) = false) (h7 : d.kind ≠ 2 → labelB d.lab = true) (h8 : d.kind = 2 → d.path ≠ []) : deedFault d = 0 := by
  unfold deedFault
  rw [if_neg (by omega), if_neg, if_neg, if_neg, if_neg]
  · rintro ⟨a, b⟩
    exact h8 a b
  · rintro ⟨a, b⟩
    rw [h7 a] at b
    cases b
  · rintro (a | a | a)
    · omega
    · omega
    · rw [h6] at a
      cases a
  · rintro (⟨a, b⟩ | ⟨a, b⟩)
    · have := h2 a
      omega
    · exact b (h3 a)

theorem atM_snoc : ∀ (p : List Nat) (i : Nat) (s : ByteArray) (k : Fo) (l : ByteArray) (kk : Fo), atM p s k = some (l, kk) → atM (p ++ [i]) s k = (gsF kk)[i]?
  | [], i, s, k, l, kk, h => by
    simp only [atM, Option.some.injEq, Prod.mk.injEq] at h
    obtain ⟨rfl, rfl⟩ := h
    show atM [i] s k = _
    unfold atM
    cases hx : (gsF k)[i]? with
    | none => rfl
    | some x => rfl
  | p :: ps, i, s, k, l, kk, h => by
    rw [List.cons_append]
    unfold atM at h ⊢
    cases hx : (gsF k)[p]? with
    | none => simp [hx] at h
    | some x =>
      simp only [hx] at h ⊢
      exact atM_snoc ps i x.1 x.2 l kk h
theorem nats_append (a b : List Int) : nats (a ++ b) = nats a ++ nats b := by simp [nats]
theorem any_append {a b : List Int} {f : Int → Bool} (h : (a ++ b).any f = false) : a.any f = false ∧ b.any f = false := by
  rw [List.any_append, Bool.or_eq_false_iff] at h
  exact h
theorem last_split : ∀ {l : List Int}, l ≠ [] → l = l.dropLast ++ [l.getLastD 0]
  | [], h => absurd rfl h
  | [a], _ => rfl
  | a :: b :: l, _ => by
    have := last_split (l := b :: l) (by simp)
    rw [List.dropLast_cons_of_ne_nil (by simp), List.cons_append, show (a :: b :: l).getLastD 0 = (b :: l).getLastD 0 by simp [List.getLastD], ← this]
theorem doneP_del {d : Dd} (h : d.kind = 2) {q : List Int} {i : Int} (hp : d.path = q ++ [i]) : doneP d = modP (delOp i.toNat) (nats q) := by
  unfold doneP
  rw [if_neg (by omega), if_pos h, hp, nats_append]
  have e1 : (nats q ++ nats [i]).getLast! = i.toNat := by simp [nats]
  have e2 : (nats q ++ nats [i]).dropLast = nats q := by simp [nats]
  rw [e1, e2]
theorem doP_ok {d : Dd} {s : ByteArray} {k : Fo} {x : ByteArray × Fo} {back : Dd} (h : doP d s k = (0, x, back)) : faultT s k = 0 ∧ deedFault d = 0 ∧ doneP d s k = (0, x) ∧ faultT x.1 x.2 = 0 ∧ back = backP d s k := by
  unfold doP at h
  by_cases h1 : faultT s k ≠ 0
  · rw [if_pos h1] at h
    exact absurd (congrArg Prod.fst h) h1
  · rw [if_neg h1] at h
    by_cases h2 : deedFault d ≠ 0
    · rw [if_pos h2] at h
      exact absurd (congrArg Prod.fst h) h2
    · rw [if_neg h2] at h
      by_cases h3 : (doneP d s k).1 ≠ 0
      · rw [if_pos h3] at h
        exact absurd (congrArg Prod.fst h) h3
      · rw [if_neg h3] at h
        by_cases h4 : faultT (doneP d s k).2.1 (doneP d s k).2.2 ≠ 0
        · rw [if_pos h4] at h
          exact absurd (congrArg Prod.fst h) h4
        · rw [if_neg h4] at h
          simp only [Prod.mk.injEq] at h
          obtain ⟨_, rfl, rfl⟩ := h
          simp only [ne_eq, Decidable.not_not] at h1 h2 h3 h4
          exact ⟨h1, h2, by rw [← h3], h4, rfl⟩
theorem doP_of {d : Dd} {s : ByteArray} {k : Fo} {x : ByteArray × Fo} (h1 : faultT s k = 0) (h2 : deedFault d = 0) (h3 : doneP d s k = (0, x)) (h4 : faultT x.1 x.2 = 0) : doP d s k = (0, x, backP d s k) := by
  unfold doP
  rw [if_neg (by simp [h1]), if_neg (by simp [h2]), if_neg (by simp [h3]), if_neg (by simp [h3, h4]), h3]
/-- Undone, it is as it was; and what undoes it is undone by the deed itself. -/
theorem doP_back {d : Dd} {s : ByteArray} {k : Fo} {x : ByteArray × Fo} {back : Dd} (h : doP d s k = (0, x, back)) : Bare x.2 ∧ deedFault back = 0 ∧ doP back x.1 x.2 = (0, (s, strip k), d) := by
  obtain ⟨h1, h2, h3, h4, rfl⟩ := doP_ok h
  obtain ⟨f1, f2, f3, f4, f5, f6, f7, f8⟩ := deedFault_zero h2
  have hbad := (fault_zero h1).2.2
  obtain ⟨s', k'⟩ := x
  have hs : faultT s (strip k) = 0 := by rw [faultT_strip]; exact h1
  rcases f1 with hk | hk | hk
  · have e : doneP d = modP (namOp d.lab) (nats d.path) := by unfold doneP; rw [if_pos hk]
    rw [e] at h3
    obtain ⟨l, kk, l', kk', a1, a2, a3, a4, a5⟩ := modP_back (namOp_ok _) _ _ _ _ _ h3
    simp only [namOp, Prod.mk.injEq, true_and] at a2
    obtain ⟨rfl, rfl⟩ := a2
    have hb : backP d s k = ⟨1, d.path, 0, 0, l⟩ := by unfold backP; rw [if_pos hk, a1]; rfl
    rw [hb]
    have hf : deedFault ⟨1, d.path, 0, 0, l⟩ = 0 := deedFault_of (Or.inl rfl) (fun _ => ⟨rfl, rfl⟩) (fun h => by cases h) (Int.le_refl _) (Int.le_refl _) f6 (fun _ => good_at _ _ _ _ hbad a1) (fun h => by cases h)
    refine ⟨a4, hf, ?_⟩
    have hd : doneP ⟨1, d.path, 0, 0, l⟩ s' k' = (0, (s, strip k)) := a5 (namOp l) (by simp [namOp, strip_strip])
    rw [doP_of h4 hf hd hs]
    have : backP ⟨1, d.path, 0, 0, l⟩ s' k' = d := by
      unfold backP
      rw [if_pos rfl]
      simp only [a3, Option.getD_some]
      obtain ⟨g1, g2⟩ := f2 (by omega)
      obtain ⟨dk, dp, dq, dm, dl⟩ := d
      simp only at hk g1 g2 ⊢
      rw [hk, g1, g2]
    rw [this]
  · have hne := f8 hk
    obtain ⟨q, i, hp⟩ : ∃ q i, d.path = q ++ [i] := ⟨_, _, last_split hne⟩
    rw [doneP_del hk hp] at h3
    obtain ⟨l, kk, l', kk', a1, a2, a3, a4, a5⟩ := modP_back (delOp_ok _) _ _ _ _ _ h3
    obtain ⟨x, b1, b2, b3⟩ := del_ins a2
    have hat : atM (nats d.path) s k = some x := by
      rw [hp, nats_append]
      exact (atM_snoc _ _ _ _ _ _ a1).trans b1
    rw [hp] at f6
    obtain ⟨f61, f62⟩ := any_append f6
    have hi0 : 0 ≤ i := by simpa using f62
    have hb : backP d s k = ⟨3, q, i, (flen x.2 : Int), x.1⟩ := by
      unfold backP
      rw [if_neg (by omega), if_pos hk, hat, hp]
      simp
    rw [hb]
    have hf : deedFault ⟨3, q, i, (flen x.2 : Int), x.1⟩ = 0 := deedFault_of (Or.inr (Or.inr rfl)) (fun h => absurd rfl h) (fun h => by cases h) hi0 (Int.natCast_nonneg _) f61 (fun _ => good_at _ _ _ _ hbad hat) (fun h => by cases h)
    refine ⟨a4, hf, ?_⟩
    have hd : doneP ⟨3, q, i, (flen x.2 : Int), x.1⟩ s' k' = (0, (s, strip k)) := by
      unfold doneP
      rw [if_neg (show ¬ ((3 : Int) = 1) by decide), if_neg (show ¬ ((3 : Int) = 2) by decide)]
      exact a5 _ (by rw [Int.toNat_natCast]; exact b2)
    rw [doP_of h4 hf hd hs]
    have : backP ⟨3, q, i, (flen x.2 : Int), x.1⟩ s' k' = d := by
      unfold backP
      rw [if_neg (show ¬ ((3 : Int) = 1) by decide), if_neg (show ¬ ((3 : Int) = 2) by decide)]
      simp only
      obtain ⟨g1, g2⟩ := f2 (by omega)
      have g3 := f3 hk
      obtain ⟨dk, dp, dq, dm, dl⟩ := d
      simp only at hk g1 g2 g3 hp ⊢
      rw [hk, g1, g2, g3, hp]
    rw [this]
  · have e : doneP d = modP (insOp d.pos.toNat d.many.toNat d.lab) (nats d.path) := by unfold doneP; rw [if_neg (by omega), if_neg (by omega)]
    rw [e] at h3
    obtain ⟨l, kk, l', kk', a1, a2, a3, a4, a5⟩ := modP_back (insOp_ok _ _ _) _ _ _ _ _ h3
    obtain ⟨kx, b1, b2, b3⟩ := ins_del a2
    have hb : backP d s k = ⟨2, d.path ++ [d.pos], 0, 0, ⟨#[]⟩⟩ := by unfold backP; rw [if_neg (by omega), if_neg (by omega)]
    rw [hb]
    have hf : deedFault ⟨2, d.path ++ [d.pos], 0, 0, ⟨#[]⟩⟩ = 0 := deedFault_of (Or.inr (Or.inl rfl)) (fun _ => ⟨rfl, rfl⟩) (fun _ => rfl) (Int.le_refl _) (Int.le_refl _) (by
      rw [List.any_append, f6]
      simpa using f4) (fun h => absurd rfl h) (fun _ => by simp)
    refine ⟨a4, hf, ?_⟩
    have hd : doneP ⟨2, d.path ++ [d.pos], 0, 0, ⟨#[]⟩⟩ s' k' = (0, (s, strip k)) := by
      rw [doneP_del (d := ⟨2, d.path ++ [d.pos], 0, 0, ⟨#[]⟩⟩) rfl rfl]
      exact a5 _ b3
    rw [doP_of h4 hf hd hs]
    have hat : atM (nats (d.path ++ [d.pos])) s' k' = some (d.lab, kx) := by
      rw [nats_append]
      exact (atM_snoc _ _ _ _ _ _ a3).trans b1
    have : backP ⟨2, d.path ++ [d.pos], 0, 0, ⟨#[]⟩⟩ s' k' = d := by
      unfold backP
      rw [if_neg (show ¬ ((2 : Int) = 1) by decide), if_pos rfl]
      simp only [hat, Option.getD_some, List.dropLast_concat]
      have hl : (d.path ++ [d.pos]).getLastD 0 = d.pos := by simp
      rw [hl, b2]
      obtain ⟨dk, dp, dq, dm, dl⟩ := d
      simp only at hk f5 ⊢
      rw [hk, show ((dm.toNat : Nat) : Int) = dm by omega]
    rw [this]
/-- The code, by its parts. -/
theorem deedFault_mid {K P M : Int} {path : List Int} {lab : ByteArray} (h1 : K = 1 ∨ K = 2 ∨ K = 3) (h2 : ¬ ((K ≠ 3 ∧ (P ≠ 0 ∨ M ≠ 0)) ∨ (K = 2 ∧ lab ≠ ⟨#[]⟩))) {B : Bool} (hB : B = (decide (P < 0) || decide (M < 0))) :
    ((B || path.any (fun p => decide (p < 0))) = true → deedFault ⟨K, path, P, M, lab⟩ = 9) ∧
    ((B || path.any (fun p => decide (p < 0))) = false → deedFault ⟨K, path, P, M, lab⟩ = if K ≠ 2 ∧ labelB lab = false then 1 else if K = 2 ∧ path = [] then 8 else 0) := by
  have key : (B || path.any (fun p => decide (p < 0))) = true ↔ (P < 0 ∨ M < 0 ∨ path.any (fun p => decide (p < 0)) = true) := by
    rw [hB, Bool.or_eq_true, Bool.or_eq_true, decide_eq_true_eq, decide_eq_true_eq, or_assoc]
  constructor
  · intro h
    unfold deedFault
    rw [if_neg (by simp only; omega), if_neg h2, if_pos (key.1 h)]
  · intro h
    unfold deedFault
    rw [if_neg (by simp only; omega), if_neg h2, if_neg (fun e => by rw [key.2 e] at h; cases h)]
theorem deedFault_form {K P M : Int} {path : List Int} {lab : ByteArray} (h1 : K = 1 ∨ K = 2 ∨ K = 3) (h2 : (K ≠ 3 ∧ (P ≠ 0 ∨ M ≠ 0)) ∨ (K = 2 ∧ lab ≠ ⟨#[]⟩)) : deedFault ⟨K, path, P, M, lab⟩ = 6 := by
  unfold deedFault
  rw [if_neg (by simp only; omega), if_pos h2]
theorem deedFault_kind {K P M : Int} {path : List Int} {lab : ByteArray} (h1 : K ≠ 1) (h2 : K ≠ 2) (h3 : K ≠ 3) : deedFault ⟨K, path, P, M, lab⟩ = 10 := by
  unfold deedFault
  rw [if_pos ⟨h1, h2, h3⟩]
end Go.Proofs.Ytcknganggcbkjab.Deed
namespace Go.Proofs.Ytcknganggcbkjab
open Go.Deep Go.RowKit
set_option linter.unusedVariables false
set_option maxRecDepth 20000

/-- The numbers of a path lie in w, behind the address pa. -/
def PIn (w : World) (pa : Option Addr) (ps : List Int) : Prop := ps = [] ∨ ∃ b o, pa = some ⟨b, o, none⟩ ∧ ∀ i p, ps[i]? = some p → w.cell? ⟨b, o + i, none⟩ = some (.int .i64 p)

theorem PIn.below {w w' : World} (h : Below w.heap.size w w') {pa : Option Addr} {ps : List Int} (hk : PIn w pa ps) : PIn w' pa ps := by
  rcases hk with hk | ⟨b, o, e, hk⟩
  · exact Or.inl hk
  · refine Or.inr ⟨b, o, e, fun i p hp => ?_⟩
    have h1 := hk i p hp
    rw [h.cell (World.block_lt_of_cell? _ _ h1)]
    exact h1
end Go.Proofs.Ytcknganggcbkjab
