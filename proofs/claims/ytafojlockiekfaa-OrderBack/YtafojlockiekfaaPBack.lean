/- A tree's text, with whatever blanks where they may stand, is read as that tree. Of no program. -/
import Derived.Test.YtafojlockiekfaaParse
import Derived.Test.YtafojlockiekfaaPrint
namespace Go.Proofs.Ytafojlockiekfaa
open Go.Deep Go.RowKit
set_option linter.unusedVariables false
set_option maxRecDepth 20000

theorem skip_blanks : ∀ (b l : List UInt8), b.all blB = true → skip (b ++ l) = skip l
  | [], _, _ => rfl
  | c :: b, l, h => by
    simp only [List.all_cons, Bool.and_eq_true] at h
    have := skip_blanks b l h.2
    unfold skip at this ⊢
    simp [h.1, this]
theorem skip_other {c : UInt8} {l : List UInt8} (h : blB c = false) : skip (c :: l) = c :: l := by
  unfold skip
  simp [h]
theorem okByte_bl {c : UInt8} (h : okByte c = true) : blB c = false := by
  unfold okByte at h
  simp only [Bool.and_eq_true, decide_eq_true_eq] at h
  exact blB_no (by omega) (by omega)
theorem okByte_ne {c : UInt8} (h : okByte c = true) {m : Int} (hm : m < 97) : ¬ (c.toNat : Int) = m := by
  unfold okByte at h
  simp only [Bool.and_eq_true, decide_eq_true_eq] at h
  omega
theorem bl_okByte {c : UInt8} (h : blB c = true) : okByte c = false := by
  cases ho : okByte c with
  | false => rfl
  | true => rw [okByte_bl ho] at h; cases h

/-- No letter stands at the head. -/
def NoL (l : List UInt8) : Prop := ∀ c q, l = c :: q → okByte c = false
theorem lets_app {l r : List UInt8} (h : l.all okByte = true) (hr : NoL r) : lets (l ++ r) = l ∧ unlet (l ++ r) = r := by
  have e1 : lets r = [] ∧ unlet r = r := by
    cases r with
    | nil => exact ⟨rfl, rfl⟩
    | cons c q =>
      have := hr c q rfl
      simp [lets, unlet, this]
  induction l with
  | nil => exact e1
  | cons c l ih =>
    simp only [List.all_cons, Bool.and_eq_true] at h
    obtain ⟨h1, h2⟩ := ih h.2
    have a1 : lets (c :: l ++ r) = c :: lets (l ++ r) := by simp [lets, h.1]
    have a2 : unlet (c :: l ++ r) = unlet (l ++ r) := by simp [unlet, h.1]
    rw [a1, a2, h1, h2]
    exact ⟨rfl, rfl⟩

theorem labelB_parts {s : ByteArray} (h : labelB s = true) : s.data.toList.all okByte = true ∧ ∃ c q, s.data.toList = c :: q ∧ okByte c = true := by
  unfold labelB at h
  simp only [Bool.and_eq_true, decide_eq_true_eq] at h
  refine ⟨h.2, ?_⟩
  cases hs : s.data.toList with
  | nil =>
    have h3 : s.data.toList.length = s.size := by simp
    rw [hs] at h3
    simp at h3
    omega
  | cons c q =>
    have h2 := h.2
    rw [hs] at h2
    simp only [List.all_cons, Bool.and_eq_true] at h2
    exact ⟨c, q, rfl, h2.1⟩

theorem rdL_label {s : ByteArray} {pre rest : List UInt8} (h : labelB s = true) (hp : pre.all blB = true) (hr : NoL rest) : rdL (pre ++ (s.data.toList ++ rest)) = .ok s rest := by
  obtain ⟨h1, c, q, hs, hc⟩ := labelB_parts h
  unfold rdL
  rw [skip_blanks _ _ hp]
  obtain ⟨e1, e2⟩ := lets_app h1 hr
  rw [hs] at e1 e2 ⊢
  rw [List.cons_append] at e1 e2 ⊢
  rw [skip_other (okByte_bl hc)]
  simp only [hc]
  rw [e1, e2]
  have : (⟨(c :: q).toArray⟩ : ByteArray) = s := by rw [← hs]
  rw [this]
  rfl

section
variable (O S C : List UInt8)
def gC : Fo → List UInt8
  | .nil => []
  | .node _ _ _ _ _ => C
/-- The texts of kids, with these as brackets and between two. -/
def gK : Fo → List UInt8 → List UInt8
  | .nil, _ => []
  | .node _ _ x k r, c => c ++ ((x.1.data.toList ++ (gK k O ++ gC C k)) ++ gK r S)
def gT (s : ByteArray) (k : Fo) : List UInt8 := s.data.toList ++ (gK O S C k O ++ gC C k)
/-- Blanks about brackets, and between two. -/
structure GOk : Prop where
  o : ∃ p q, O = p ++ 40 :: q ∧ p.all blB = true ∧ q.all blB = true
  c : ∃ p q, C = p ++ 41 :: q ∧ p.all blB = true ∧ q.all blB = true
  s : S.all blB = true
  s0 : S ≠ []
end
variable {O S C : List UInt8}

theorem NoL_app {b l : List UInt8} (h : b ≠ []) (hb : NoL b) : NoL (b ++ l) := by
  cases b with
  | nil => exact absurd rfl h
  | cons c b =>
    intro c' q' h'
    rw [List.cons_append] at h'
    injection h' with h1 h2
    subst h1
    exact hb c b rfl
theorem NoL_blanks {b : List UInt8} (h : b.all blB = true) : NoL b := by
  intro c q hc
  subst hc
  simp only [List.all_cons, Bool.and_eq_true] at h
  exact bl_okByte h.1
theorem NoL_mark {p q : List UInt8} {m : UInt8} (hp : p.all blB = true) (hm : okByte m = false) : NoL (p ++ m :: q) := by
  cases p with
  | nil =>
    intro c q' h'
    injection h' with h1 h2
    subst h1
    exact hm
  | cons c p => exact NoL_app (by simp) (NoL_blanks hp)
theorem eat_skip {m : Int} {l l' : List UInt8} (h : skip l = skip l') : eat m l = eat m l' := by
  unfold eat
  rw [h]
theorem eat_mark {p q : List UInt8} {m : UInt8} (hp : p.all blB = true) (hm : blB m = false) : eat (m.toNat : Int) (p ++ m :: q) = some q := by
  unfold eat
  rw [skip_blanks _ _ hp, skip_other hm]
  simp
theorem eat_else {p q : List UInt8} {m : UInt8} {n : Int} (hp : p.all blB = true) (hm : blB m = false) (hn : ¬ (m.toNat : Int) = n) : eat n (p ++ m :: q) = none := by
  unfold eat
  rw [skip_blanks _ _ hp, skip_other hm]
  simp [hn]

/-- What reading the kids of a node comes to. -/
def ReadsK (O S C : List UInt8) : Fo → Prop
  | .nil => True
  | .node b o x k r => ∀ (pre rest : List UInt8) (n a : Nat), badF (.node b o x k r) = false → deepF (.node b o x k r) (a : Int) = false → 2 * fnodes (.node b o x k r) ≤ n → pre.all blB = true →
      ∃ r', rdK n a (pre ++ (gT O S C x.1 k ++ (gK O S C r S ++ (C ++ rest)))) = .ok (strip (.node b o x k r)) r' ∧ skip r' = skip rest

theorem readsT (g : GOk O S C) (k : Fo) (hK : ReadsK O S C k) (s : ByteArray) (pre rest : List UInt8) (n a : Nat) (hs : labelB s = true) (hb : badF k = false) (ha : a ≤ 10) (hd : deepF k ((a + 1 : Nat) : Int) = false) (hn : 2 * fnodes k + 1 ≤ n)
    (hp : pre.all blB = true) (hr : NoL rest) (he : eat 40 rest = none) : ∃ r', rdT n a (pre ++ (gT O S C s k ++ rest)) = .ok (s, strip k) r' ∧ skip r' = skip rest := by
  obtain ⟨n, rfl⟩ : ∃ m, n = m + 1 := ⟨n - 1, by omega⟩
  unfold gT
  rw [rdT, if_neg (by omega), List.append_assoc]
  cases k with
  | nil =>
    simp only [gK, gC, List.nil_append]
    rw [rdL_label hs hp hr]
    simp only [he]
    exact ⟨_, rfl, skip_skip _⟩
  | node b o x k1 r1 =>
    obtain ⟨p, q, hO, hp1, hq1⟩ := g.o
    have e : gK O S C (.node b o x k1 r1) O ++ gC C (.node b o x k1 r1) ++ rest = p ++ 40 :: (q ++ (gT O S C x.1 k1 ++ (gK O S C r1 S ++ (C ++ rest)))) := by
      show O ++ ((x.1.data.toList ++ (gK O S C k1 O ++ gC C k1)) ++ gK O S C r1 S) ++ C ++ rest = _
      have e2 : (x.1.data.toList ++ (gK O S C k1 O ++ gC C k1)) = gT O S C x.1 k1 := rfl
      rw [e2]
      have e3 : O ++ (gT O S C x.1 k1 ++ gK O S C r1 S) ++ C ++ rest = (p ++ 40 :: q) ++ (gT O S C x.1 k1 ++ gK O S C r1 S) ++ C ++ rest := by rw [← hO]
      rw [e3]
      simp
    rw [e]
    rw [rdL_label hs hp (NoL_mark hp1 (by decide))]
    have e40 : eat 40 (p ++ 40 :: (q ++ (gT O S C x.1 k1 ++ (gK O S C r1 S ++ (C ++ rest))))) = some (q ++ (gT O S C x.1 k1 ++ (gK O S C r1 S ++ (C ++ rest)))) := eat_mark (m := 40) hp1 (by decide)
    simp only [e40]
    obtain ⟨r', hr1, hr2⟩ := hK q rest n (a + 1) hb hd (by omega) hq1
    rw [hr1]
    exact ⟨r', rfl, hr2⟩

theorem readsK (g : GOk O S C) : ∀ k : Fo, ReadsK O S C k
  | .nil => trivial
  | .node b o x k r => by
    intro pre rest n a hb hd hn hp
    have hbK := hb
    have hdK := hd
    simp only [badF, Bool.or_eq_false_iff, Bool.not_eq_false'] at hb
    simp only [deepF, Bool.or_eq_false_iff, decide_eq_false_iff_not] at hd
    simp only [fnodes] at hn
    obtain ⟨n, rfl⟩ : ∃ m, n = m + 1 := ⟨n - 1, by omega⟩
    obtain ⟨pc, qc, hC, hpc, hqc⟩ := g.c
    have hd1 : deepF k ((a + 1 : Nat) : Int) = false := by
      rw [show ((a + 1 : Nat) : Int) = (a : Int) + 1 by omega]
      exact hd.1.2
    cases r with
    | nil =>
      have e : gK O S C .nil S ++ (C ++ rest) = pc ++ 41 :: (qc ++ rest) := by
        show [] ++ (C ++ rest) = _
        rw [hC]
        simp
      rw [e]
      obtain ⟨r1, h1, h2⟩ := readsT g k (readsK g k) x.1 pre (pc ++ 41 :: (qc ++ rest)) n a hb.1.1 hb.1.2 (by omega) hd1 (by omega) hp (NoL_mark hpc (by decide)) (eat_else hpc (by decide) (by decide))
      rw [rdK, h1]
      have e41 : eat 41 r1 = some (qc ++ rest) := by
        rw [eat_skip h2]
        exact eat_mark (m := 41) hpc (by decide)
      simp only [e41]
      exact ⟨_, rfl, skip_blanks _ _ hqc⟩
    | node b2 o2 y k2 r2 =>
      have e : gK O S C (.node b2 o2 y k2 r2) S ++ (C ++ rest) = S ++ (gT O S C y.1 k2 ++ (gK O S C r2 S ++ (C ++ rest))) := by
        show (S ++ ((y.1.data.toList ++ (gK O S C k2 O ++ gC C k2)) ++ gK O S C r2 S)) ++ (C ++ rest) = _
        have e2 : (y.1.data.toList ++ (gK O S C k2 O ++ gC C k2)) = gT O S C y.1 k2 := rfl
        rw [e2]
        simp
      rw [e]
      have hy : labelB y.1 = true := by
        have := hb.2
        simp only [badF, Bool.or_eq_false_iff, Bool.not_eq_false'] at this
        exact this.1.1
      obtain ⟨_, c, q, hyc, hc⟩ := labelB_parts hy
      have eg : ∃ q', gT O S C y.1 k2 ++ (gK O S C r2 S ++ (C ++ rest)) = c :: q' := by
        unfold gT
        rw [hyc]
        exact ⟨_, rfl⟩
      obtain ⟨q', hq'⟩ := eg
      obtain ⟨r1, h1, h2⟩ := readsT g k (readsK g k) x.1 pre (S ++ (gT O S C y.1 k2 ++ (gK O S C r2 S ++ (C ++ rest)))) n a hb.1.1 hb.1.2 (by omega) hd1 (by omega) hp (NoL_app g.s0 (NoL_blanks g.s)) (by
        rw [hq']
        exact eat_else g.s (okByte_bl hc) (okByte_ne hc (by decide)))
      rw [rdK, h1]
      have hsk : skip r1 = gT O S C y.1 k2 ++ (gK O S C r2 S ++ (C ++ rest)) := by
        rw [h2, skip_blanks _ _ g.s, hq', skip_other (okByte_bl hc)]
      have e41 : eat 41 r1 = none := by
        rw [eat_skip h2, hq']
        exact eat_else g.s (okByte_bl hc) (okByte_ne hc (by decide))
      simp only [e41]
      rw [hsk]
      obtain ⟨r', g1, g2⟩ := readsK g (.node b2 o2 y k2 r2) [] rest n a hb.2 hd.2 (by simp only [fnodes] at hn ⊢; omega) rfl
      rw [List.nil_append] at g1
      rw [g1]
      exact ⟨r', rfl, g2⟩

theorem gK_len : ∀ (k : Fo) (c : List UInt8), badF k = false → fnodes k ≤ (gK O S C k c).length
  | .nil, _, _ => Nat.zero_le _
  | .node _ _ x k r, c, h => by
    simp only [badF, Bool.or_eq_false_iff, Bool.not_eq_false'] at h
    have h1 := gK_len k O h.1.2
    have h2 := gK_len r S h.2
    have h3 := (labelB_size h.1.1).1
    have h5 : x.1.data.size = x.1.size := rfl
    simp only [gK, fnodes, List.length_append, Array.length_toList]
    omega

/-- A tree's text is read as that tree. -/
theorem prs_g (g : GOk O S C) {s : ByteArray} {k : Fo} (h : faultT s k = 0) {pre post : List UInt8} (hp : pre.all blB = true) (hq : post.all blB = true) (hl : (pre ++ (gT O S C s k ++ post)).length ≤ 2000) :
    prs ⟨(pre ++ (gT O S C s k ++ post)).toArray⟩ = .ok s (strip k) := by
  obtain ⟨h1, h2, h3⟩ := fault_zero h
  unfold badT at h3
  simp only [Bool.or_eq_false_iff, Bool.not_eq_false'] at h3
  unfold deepT at h2
  simp only [Bool.or_eq_false_iff] at h2
  have hn : 2 * fnodes k + 1 ≤ 2 * (pre ++ (gT O S C s k ++ post)).length + 1 := by
    have := gK_len (O := O) (S := S) (C := C) k O h3.2
    simp only [gT, List.length_append]
    omega
  have he : eat 40 post = none := by
    unfold eat
    have : skip post = [] := by
      have := skip_blanks post [] hq
      rw [List.append_nil] at this
      rw [this]
      rfl
    rw [this]
  obtain ⟨r', hr1, hr2⟩ := readsT g k (readsK g k) s pre post _ 0 h3.1 h3.2 (by omega) (by simpa using h2.2) hn hp (NoL_blanks hq) he
  have hsk : skip r' = [] := by
    rw [hr2]
    have := skip_blanks post [] hq
    rw [List.append_nil] at this
    rw [this]
    rfl
  have hsz : (⟨(pre ++ (gT O S C s k ++ post)).toArray⟩ : ByteArray).size = (pre ++ (gT O S C s k ++ post)).length := by
    show (pre ++ (gT O S C s k ++ post)).toArray.size = _
    simp
  have hrs : rst (⟨(pre ++ (gT O S C s k ++ post)).toArray⟩ : ByteArray) 0 = pre ++ (gT O S C s k ++ post) := by
    rw [rst_zero]
  unfold prs
  rw [if_neg (by rw [hsz]; omega), hrs]
  unfold rdAll
  rw [hr1]
  simp only [hsk]
  rw [faultT_strip, if_pos h]

theorem g_plain : GOk [40] [32] [41] := ⟨⟨[], [], rfl, rfl, rfl⟩, ⟨[], [], rfl, rfl, rfl⟩, by decide, by simp⟩
theorem gC_clo (k : Fo) : gC [41] k = clo k := by cases k <;> rfl
theorem gK_txt : ∀ (k : Fo) (c : UInt8), gK [40] [32] [41] k [c] = txtK k c
  | .nil, _ => rfl
  | .node _ _ x k r, c => by
    simp only [gK, txtK, gK_txt k, gK_txt r, gC_clo]
    simp
theorem gT_txt (s : ByteArray) (k : Fo) : gT [40] [32] [41] s k = txtT s k := by
  unfold gT txtT
  rw [gK_txt, gC_clo]
/-- What was printed is read as the tree that it was. -/
theorem prs_txt {s : ByteArray} {k : Fo} (h : faultT s k = 0) : prs ⟨(txtT s k).toArray⟩ = .ok s (strip k) := by
  have hl := (txtT_le h).1
  have := prs_g g_plain h (pre := []) (post := []) rfl rfl (by rw [gT_txt]; simp; omega)
  rw [gT_txt] at this
  simpa using this

end Go.Proofs.Ytafojlockiekfaa
