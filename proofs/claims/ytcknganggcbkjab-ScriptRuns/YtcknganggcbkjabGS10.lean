/- Lists of deeds that a call owns, and what becomes of them where another deed is put behind. Of no program. -/
/- slices.Reverse of a list of deeds that is owned turns it round. Of the program's text. -/
/- done of package pleachingref does a deed at what is left of its path. Of the program's text. -/
import Derived.Test.YtcknganggcbkjabGS06
import Derived.Test.YtcknganggcbkjabGS09
import Derived.Test.YtcknganggcbkjabProg
import Derived.Deep.LoopGhost
import Derived.Deep.RegionHeld3
import Derived.Deep.QuietTactic
import Derived.BigQuiet
import Derived.WalkSmall
import Derived.Test.YtcknganggcbkjabGS08
import Derived.Test.YtcknganggcbkjabGS05
namespace Go.Proofs.Ytcknganggcbkjab.Deed
open Go.Deep Go.RowKit
set_option linter.unusedVariables false
set_option maxRecDepth 20000

/-- A list that lies, with all its paths, in blocks from B on; and no path in the list's own. -/
structure Row (B : Nat) (w : World) (v : Value) (A : List Pd) : Prop where
  own : w.ownsRow B 44 5 v A.length (pdCells A)
  each : PdsIn w A
  off : ∀ x, x ∈ A → x.1.path ≠ [] → ∀ a, x.2.1 = some a → v.ownBlock ≠ some a.block
  fresh : ∀ x, x ∈ A → x.1.path ≠ [] → ∀ a, x.2.1 = some a → B ≤ a.block
theorem Row.nil (B : Nat) (w : World) : Row B w (.slice none 0 0) [] := ⟨World.ownsRow_nil _ _ _ _, PdsIn.nil _, fun x hx => by simp at hx, fun x hx => by simp at hx⟩
theorem DIn.block {w w' : World} {d : Dd} {pa : Option Addr} {pc : Nat} (h : DIn w d pa pc) (hb : d.path ≠ [] → ∀ a, pa = some a → w'.heap[a.block]? = w.heap[a.block]?) : DIn w' d pa pc := by
  by_cases hp : d.path = []
  · exact ⟨Or.inl hp, h.len, h.cap, h.lab⟩
  · exact ⟨PIn.block h.path (hb hp), h.len, h.cap, h.lab⟩
theorem DIn.lt {w : World} {d : Dd} {pa : Option Addr} {pc : Nat} (h : DIn w d pa pc) (hp : d.path ≠ []) (a : Addr) (ha : pa = some a) : a.block < w.heap.size := by
  rcases h.path with h0 | ⟨b, o, e, hc⟩
  · exact absurd h0 hp
  · rw [e] at ha
    injection ha with ha
    subst ha
    obtain ⟨p, ps, hps⟩ := List.exists_cons_of_ne_nil hp
    exact World.block_lt_of_cell? _ _ (hc 0 p (by rw [hps]; rfl))
/-- Its blocks are as they were. -/
theorem Row.keep {B : Nat} {w w' : World} {v : Value} {A : List Pd} (h : Row B w v A) (hs : ∀ q, B ≤ q → q < w.heap.size → w'.heap[q]? = w.heap[q]?) : Row B w' v A :=
  ⟨ownsN_block h.own fun g hg => hs g (ownBlockN_lt h.own hg).1 (ownBlockN_lt h.own hg).2, fun x hx => (h.each x hx).block fun hp a ha => hs _ (h.fresh x hx hp a ha) ((h.each x hx).lt hp a ha), h.off, h.fresh⟩
theorem Row.below {B : Nat} {w w' : World} {v : Value} {A : List Pd} (h : Row B w v A) (hb : Below w.heap.size w w') : Row B w' v A := h.keep fun q _ hq => hb.block q hq
theorem Row.lower {B B' : Nat} {w : World} {v : Value} {A : List Pd} (h : Row B w v A) (hB : B' ≤ B) : Row B' w v A := by
  refine ⟨⟨h.own.1, ?_⟩, h.each, h.off, fun x hx hp a ha => Nat.le_trans hB (h.fresh x hx hp a ha)⟩
  rcases h.own.2 with h2 | ⟨g, cap, cur, h1, h2, h3⟩
  · exact Or.inl h2
  · exact Or.inr ⟨g, cap, cur, h1, by omega, h3⟩
theorem Row.form {B : Nat} {w : World} {v : Value} {A : List Pd} (h : Row B w v A) : ∃ va vc, v = .slice va A.length vc ∧ A.length ≤ vc ∧ vc ≤ maxLen := ownsN_form h.own
theorem Row.ds {B : Nat} {w : World} {va : Option Addr} {vc n : Nat} {A : List Pd} (h : Row B w (.slice va n vc) A) (hn : n = A.length) : DsIn w va A := by
  subst hn
  exact DsIn_of_owns h.own h.each
/-- A block has turned that is none of its. -/
theorem Row.grown {B : Nat} {w w' : World} {v : Value} {A : List Pd} {r : Option Nat} (h : Row B w v A) (hg : w.grownBy w' r) (hr : ∀ g, v.ownBlock = some g → r ≠ some g) (hp : ∀ x, x ∈ A → x.1.path ≠ [] → ∀ a, x.2.1 = some a → r ≠ some a.block) : Row B w' v A :=
  ⟨ownsN_grown h.own hg hr, fun x hx => (h.each x hx).block fun hp0 a ha => hg.block _ ((h.each x hx).lt hp0 a ha) fun e2 => hp x hx hp0 a ha e2.symm, h.off, h.fresh⟩

theorem pd_news (w : World) (T : TypeId) (x : Pd) (j : Nat) (u : Value) (h : (pdCell x)[j]? = some u) : (w.alloc (Obj.cells #[.int .i64 x.1.kind, .slice x.2.1 x.1.path.length x.2.2, .int .i64 x.1.pos, .int .i64 x.1.many, .string x.1.lab] T)).cell? ((⟨w.heap.size, 0, none⟩ : Addr).add j) = some u := by
  refine World.news_of_block (cs := #[.int .i64 x.1.kind, .slice x.2.1 x.1.path.length x.2.2, .int .i64 x.1.pos, .int .i64 x.1.many, .string x.1.lab]) (t := T) (fr := (0, 0)) ?_ j u h
  show (w.heap.push _)[w.heap.size]? = _
  simp
/-- A deed is put behind: what append comes to. -/
theorem Row.push {B : Nat} {w : World} {va : Option Addr} {vc n : Nat} {A : List Pd} (h : Row B w (.slice va n vc) A) (hn : n = A.length) (x : Pd) (hx : DIn w x.1 x.2.1 x.2.2) (hf : x.1.path ≠ [] → ∀ a, x.2.1 = some a → B ≤ a.block ∧ (Value.slice va n vc).ownBlock ≠ some a.block) (hl : A.length ≤ 1000) (hB : B ≤ w.heap.size) :
    ∃ va' vc' w', (Builtin.append_ #[54, 54] 54 #[.slice va n vc, .slice (some ⟨w.heap.size, 0, none⟩) 1 1]).run Try.prog (w.alloc (Obj.cells #[.int .i64 x.1.kind, .slice x.2.1 x.1.path.length x.2.2, .int .i64 x.1.pos, .int .i64 x.1.many, .string x.1.lab] 44)) = .ok (.slice va' (n + 1) vc') w' ∧ Row B w' (.slice va' (n + 1) vc') (A ++ [x]) ∧ w.grownBy w' (Value.slice va n vc).ownBlock ∧ ((Value.slice va' (n + 1) vc').ownBlock = (Value.slice va n vc).ownBlock ∨ (Value.slice va' (n + 1) vc').ownBlock = some (w.heap.size + 1)) := by
  subst hn
  obtain ⟨i0, hi0, hz0, hz1, hz2⟩ := info_parts Try.infoDeed
  obtain ⟨W, hW⟩ : ∃ W, W = w.alloc (Obj.cells #[.int .i64 x.1.kind, .slice x.2.1 x.1.path.length x.2.2, .int .i64 x.1.pos, .int .i64 x.1.many, .string x.1.lab] 44) := ⟨_, rfl⟩
  have bW : Below w.heap.size w W := by rw [hW]; exact (Below.refl _ _).alloc (Nat.le_refl _) _
  have sW : W.heap.size = w.heap.size + 1 := by rw [hW]; simp
  have hW1 := h.below bW
  obtain ⟨v', w', hr, hown', hgrow, _, hat⟩ := run_append_own_at (P := Try.prog) W B 54 54 44 i0 _ 5 64 Try.underlying54 hi0 hz0 hz1 hz2 rfl (by decide) _ A.length _ hW1.own ⟨w.heap.size, 0, none⟩ 1 1 (pdCell x) rfl (fun j u hu => by rw [hW]; exact pd_news w _ x j u hu) (pdCell_one x) (by unfold maxLen; omega) (by omega) (by omega)
  have e5 : pdCells A ++ pdCell x = pdCells (A ++ [x]) := by rw [pdCells_append]; simp [pdCells]
  rw [e5] at hown'
  obtain ⟨va', vc', rfl, h1, h2⟩ := ownsN_form hown'
  have hgw : w.grownBy w' (Value.slice va A.length vc).ownBlock := grownBy_trans (grownBy_of_below bW _) hgrow (Or.inl rfl)
  rw [sW] at hat
  have hall : ∀ y, y ∈ A ++ [x] → DIn w y.1 y.2.1 y.2.2 ∧ (y.1.path ≠ [] → ∀ a, y.2.1 = some a → B ≤ a.block ∧ (Value.slice va A.length vc).ownBlock ≠ some a.block) := fun y hy => by
    rcases List.mem_append.1 hy with hy | hy
    · exact ⟨h.each y hy, fun hp a ha => ⟨h.fresh y hy hp a ha, h.off y hy hp a ha⟩⟩
    · simp only [List.mem_cons, List.not_mem_nil, or_false] at hy
      subst hy
      exact ⟨hx, hf⟩
  refine ⟨va', vc', w', by rw [← hW]; exact hr, ⟨by simpa using hown', fun y hy => ?_, fun y hy hp a ha => ?_, fun y hy hp a ha => ((hall y hy).2 hp a ha).1⟩, hgw, hat⟩
  · exact (hall y hy).1.block fun hp a ha => hgw.block _ ((hall y hy).1.lt hp a ha) fun e => ((hall y hy).2 hp a ha).2 e.symm
  · rcases hat with e | e
    · rw [e]
      exact ((hall y hy).2 hp a ha).2
    · rw [e]
      have := (hall y hy).1.lt hp a ha
      intro e2
      injection e2 with e2
      omega
theorem grown_off {w w' : World} {r : Option Nat} (h : w.grownBy w' r) {c : Nat} (hc : c < w.heap.size) (hr : r ≠ some c) : w'.heap[c]? = w.heap[c]? := h.block c hc (fun e => hr e.symm)
/-- A tree none of whose blocks has turned. -/
theorem TIn.grown {w w' : World} {r : Option Nat} (h : w.grownBy w' r) {s : ByteArray} {ka : Option Addr} {cap : Nat} {k : Fo} (ho : ∀ g, r = some g → FOff g k) (ht : TIn w s ka cap k) (hp : FPlain w k) : TIn w' s ka cap k ∧ FPlain w' k := by
  cases r with
  | none =>
    have hb : Below w.heap.size w w' := ⟨h.os, h.tape, h.output, h.size, fun q hq => h.block q hq (by simp)⟩
    exact ⟨ht.below hb, hp.below hb⟩
  | some g =>
    have hs : ∀ b, b < w.heap.size → b ≠ g → w'.heap[b]? = w.heap[b]? := fun b hb hne => h.block b hb (by simpa using hne)
    exact ⟨TIn.but hs (ho g rfl) ht, FPlain.but hs (ho g rfl) hp⟩
end Go.Proofs.Ytcknganggcbkjab.Deed
namespace Go.Proofs.Ytcknganggcbkjab.Deed
open Go.Deep Go.RowKit
set_option linter.unusedVariables false
set_option maxRecDepth 20000

/-- A list that is turned round as far as i from both ends. -/
def RevAt {α : Type} (l : List α) (i : Nat) (M : List α) : Prop := M.length = l.length ∧ ∀ m, m < l.length → M[m]? = if m < i ∨ l.length ≤ m + i then l[l.length - 1 - m]? else l[m]?
theorem RevAt.start {α : Type} (l : List α) : RevAt l 0 l := ⟨rfl, fun m hm => by rw [if_neg (by omega)]⟩
theorem RevAt.step {α : Type} {l M : List α} {i : Nat} {a b : α} (h : RevAt l i M) (hi : i + 1 < l.length - i) (ha : M[i]? = some a) (hb : M[l.length - 1 - i]? = some b) : RevAt l (i + 1) ((M.set i b).set (l.length - 1 - i) a) := by
  refine ⟨by simp [h.1], fun m hm => ?_⟩
  have hai := h.2 i (by omega)
  rw [if_neg (by omega), ha] at hai
  have hbi := h.2 (l.length - 1 - i) (by omega)
  rw [if_neg (by omega), hb] at hbi
  rw [List.getElem?_set, List.getElem?_set]
  simp only [List.length_set, h.1]
  by_cases h1 : l.length - 1 - i = m
  · rw [if_pos h1, if_pos (by omega), if_pos (by omega), hai]
    congr 1
    omega
  · rw [if_neg h1]
    by_cases h2 : i = m
    · rw [if_pos h2, if_pos (by omega), if_pos (by omega), hbi, h2]
    · rw [if_neg h2, h.2 m hm]
      by_cases h3 : m < i ∨ l.length ≤ m + i
      · rw [if_pos h3, if_pos (by omega)]
      · rw [if_neg h3, if_neg (by omega)]
theorem RevAt.done {α : Type} {l M : List α} {i : Nat} (h : RevAt l i M) (hi : ¬ i + 1 < l.length - i) : M = l.reverse := by
  apply List.ext_getElem?
  intro m
  by_cases hm : m < l.length
  · rw [h.2 m hm, List.getElem?_reverse hm]
    split
    · rfl
    · rename_i hc
      simp only [not_or] at hc
      congr 1
      omega
  · rw [List.getElem?_eq_none (by rw [h.1]; omega), List.getElem?_eq_none (by simp; omega)]


/-- A deed is written over another one. -/
def setD (w : World) (g o : Nat) (x : Pd) : World := ((((w.setCell ⟨g, o, none⟩ (.int .i64 x.1.kind)).setCell ⟨g, o + 1, none⟩ (.slice x.2.1 x.1.path.length x.2.2)).setCell ⟨g, o + 2, none⟩ (.int .i64 x.1.pos)).setCell ⟨g, o + 3, none⟩ (.int .i64 x.1.many)).setCell ⟨g, o + 4, none⟩ (.string x.1.lab)
theorem own_setD {w : World} {B T n g cap i : Nat} {M : List Pd} (x : Pd) (h : w.ownsRow B T 5 (.slice (some ⟨g, 0, none⟩) n cap) n (pdCells M)) (hM : M.length = n) (hi : i < n) : (setD w g (i * 5) x).ownsRow B T 5 (.slice (some ⟨g, 0, none⟩) n cap) n (pdCells (M.set i x)) := by
  rw [pdCells_set M i x (by omega)]
  exact own_setN _ (own_setN _ (own_setN _ (own_setN _ (own_setN _ h (by omega)) (by omega)) (by omega)) (by omega)) (by omega)
theorem grown_setD (w : World) (g o : Nat) (x : Pd) : w.grownBy (setD w g o x) (some g) :=
  grownBy_trans (grownBy_trans (grownBy_trans (grownBy_trans (grownBy_setCell w g _ _) (grownBy_setCell _ g _ _) (Or.inl rfl)) (grownBy_setCell _ g _ _) (Or.inl rfl)) (grownBy_setCell _ g _ _) (Or.inl rfl)) (grownBy_setCell _ g _ _) (Or.inl rfl)
theorem own_pd {w : World} {B T n g cap i : Nat} {M : List Pd} {x : Pd} (h : w.ownsRow B T 5 (.slice (some ⟨g, 0, none⟩) n cap) n (pdCells M)) (hx : M[i]? = some x) : w.cell? ⟨g, i * 5, none⟩ = some (.int .i64 x.1.kind) ∧ w.cell? ⟨g, i * 5 + 1, none⟩ = some (.slice x.2.1 x.1.path.length x.2.2) ∧ w.cell? ⟨g, i * 5 + 2, none⟩ = some (.int .i64 x.1.pos) ∧ w.cell? ⟨g, i * 5 + 3, none⟩ = some (.int .i64 x.1.many) ∧ w.cell? ⟨g, i * 5 + 4, none⟩ = some (.string x.1.lab) := by
  have hj := pdCells_at M i x hx
  have c : ∀ j u, j < 5 → (pdCell x)[j]? = some u → w.cell? ⟨g, i * 5 + j, none⟩ = some u := fun j u hj5 hu => by simpa [Addr.add] using ownsRow_cell h (i * 5 + j) u (by rw [hj j hj5]; exact hu)
  exact ⟨c 0 _ (by omega) rfl, c 1 _ (by omega) rfl, c 2 _ (by omega) rfl, c 3 _ (by omega) rfl, c 4 _ (by omega) rfl⟩

set_option maxHeartbeats 4000000 in
theorem revD_any (B : Nat) (v : Value) (l : List Pd) (w : World) (hv : w.ownsRow B 44 5 v l.length (pdCells l)) (hl : l.length ≤ 100000) :
    Calls Try.prog 68 #[v] w fun e w' => e = .returned (.tuple #[]) ∧ w'.ownsRow B 44 5 v l.length (pdCells l.reverse) ∧ w.grownBy w' v.ownBlock := by
  obtain ⟨va, vc, rfl, hvc, hvm⟩ := ownsN_form hv
  unfold maxLen at hvm
  have HV := hide hv
  clear hv
  go_enter Try.func68, Try.ntmps68
  go_wp2_with fail
  go_loopg [2, 3] l.length (fun gk v2 v3 wr => ∃ (i : Nat) (M : List Pd), gk = l.length - i ∧ i ≤ l.length ∧ v2 = .int .i64 (i : Nat) ∧ v3 = .int .i64 ((l.length : Int) - 1 - (i : Int)) ∧ Hid (RevAt l i M) ∧ Hid (wr.ownsRow B 44 5 (Value.slice va l.length vc) l.length (pdCells M)) ∧ Hid (w.grownBy wr (Value.slice va l.length vc).ownBlock))
  case atStart => exact ⟨0, l, rfl, Nat.zero_le _, rfl, by simp, RevAt.start l, HV.out, grownBy_refl _ _⟩
  case round =>
    obtain ⟨i, M, hgk, hi, rfl, rfl, hR, hown, hgr⟩ := hrel
    by_cases hlt : i + 1 < l.length - i
    · obtain ⟨j, hj⟩ : ∃ j, j = l.length - 1 - i := ⟨_, rfl⟩
      have hji : ((l.length : Int) - 1 - (i : Int)) = (j : Int) := by omega
      obtain ⟨g, c, hve, hgB, hgl, _, _⟩ := ownsN_some hown.out (by omega)
      injection hve with hve _ hvce
      subst hve hvce
      have hMl := hR.out.1
      obtain ⟨a, ha⟩ : ∃ a, M[i]? = some a := ⟨_, List.getElem?_eq_getElem (by omega)⟩
      obtain ⟨b, hb⟩ : ∃ b, M[j]? = some b := ⟨_, List.getElem?_eq_getElem (by omega)⟩
      obtain ⟨ca0, ca1, ca2, ca3, ca4⟩ := own_pd hown.out ha
      obtain ⟨cb0, cb1, cb2, cb3, cb4⟩ := own_pd hown.out hb
      have cf : ∀ o, wr.frozen? ⟨g, o, none⟩ = false := fun o => own_frozen hown.out o
      have hij : i < j := by omega
      have hjl : j < l.length := by omega
      have HJ := hide hj
      have HA := hide ha
      have HBb := hide hb
      have hne : ¬ i = j := by omega
      have hne2 : ¬ j = i := by omega
      have HFIN := hide (show RevAt l (i + 1) ((M.set i b).set (l.length - 1 - i) a) ∧ (setD (setD wr g (i * 5) b) g (j * 5) a).ownsRow B 44 5 (Value.slice (some ⟨g, 0, none⟩) l.length vc) l.length (pdCells ((M.set i b).set (l.length - 1 - i) a)) ∧ w.grownBy (setD (setD wr g (i * 5) b) g (j * 5) a) (Value.slice (some ⟨g, 0, none⟩) l.length vc).ownBlock from
        ⟨hR.out.step hlt ha (by rw [← hj]; exact hb), by
          rw [← hj]
          exact own_setD a (own_setD b hown.out hMl (by omega)) (by simp [hMl]) (by omega), grownBy_trans (grownBy_trans hgr.out (grown_setD wr g _ _) (Or.inl rfl)) (grown_setD _ g _ _) (Or.inl rfl)⟩)
      have hown1 := own_setD b hown.out hMl (show i < l.length by omega)
      obtain ⟨W1, hW1⟩ : ∃ W1, W1 = setD wr g (i * 5) b := ⟨_, rfl⟩
      rw [← hW1] at HFIN hown1
      obtain ⟨cc0, cc1, cc2, cc3, cc4⟩ := own_pd hown1 (show (M.set i b)[j]? = some b by rw [List.getElem?_set_ne (by omega)]; exact hb)
      have cg : ∀ o, W1.frozen? ⟨g, o, none⟩ = false := fun o => own_frozen hown1 o
      unfold setD at HFIN hW1
      clear hown1
      rw [hji]
      clear hj ha hb hMl
      go_wp2_with fail
      refine wp_region_any (by kernel_rfl) ?_
      change wpAny _ _ _ _ _ _ _ (World.drew _)
      refine wpAny_take (i := 0) (v := .slice (some ⟨g, 0, none⟩) l.length vc) rfl (by kernel_rfl) (by kernel_rfl) (by kernel_rfl) (fun _ _ _ h => h) (Or.inl ⟨by simp [Region.wanted], by intro W; go_simp⟩) ?_
      refine wpAny_take (i := 1) (v := .int .i64 (i : Int)) rfl (by kernel_rfl) (by kernel_rfl) (by kernel_rfl) (fun _ _ _ h => h) (Or.inl ⟨by simp [Region.wanted], by intro W; go_simp⟩) ?_
      refine wpAny_take (i := 2) (v := .slice (some ⟨g, 0, none⟩) l.length vc) rfl (by kernel_rfl) (by kernel_rfl) (by kernel_rfl) (fun _ _ _ h => h) (Or.inl ⟨by simp [Region.wanted], by intro W; go_simp⟩) ?_
      refine wpAny_take (i := 3) (v := .int .i64 (j : Int)) rfl (by kernel_rfl) (by kernel_rfl) (by kernel_rfl) (fun _ _ _ h => h) (Or.inl ⟨by simp [Region.wanted], by intro W; go_simp⟩) ?_
      refine wpAny_take (i := 4) (v := .slice (some ⟨g, 0, none⟩) l.length vc) rfl (by kernel_rfl) (by kernel_rfl) (by kernel_rfl) (fun _ _ _ h => h) (Or.inl ⟨by simp [Region.wanted], by intro W; go_simp⟩) ?_
      refine wpAny_take (i := 5) (v := .int .i64 (j : Int)) rfl (by kernel_rfl) (by kernel_rfl) (by kernel_rfl) (fun _ _ _ h => h) (Or.inl ⟨by simp [Region.wanted], by intro W; go_simp⟩) ?_
      refine wpAny_take (i := 6) (v := .pointer (some ⟨g, j * 5, none⟩)) rfl (by kernel_rfl) (by kernel_rfl) (by kernel_rfl) (fun _ _ _ h => h) (Or.inl ⟨by simp [Region.wanted], by intro W; go_simp; try (intro h; exfalso; omega)⟩) ?_
      refine wpAny_take (i := 8) (v := .slice (some ⟨g, 0, none⟩) l.length vc) rfl (by kernel_rfl) (by kernel_rfl) (by kernel_rfl) (fun _ _ _ h => h) (Or.inl ⟨by simp [Region.wanted], by intro W; go_simp⟩) ?_
      refine wpAny_take (i := 9) (v := .int .i64 (i : Int)) rfl (by kernel_rfl) (by kernel_rfl) (by kernel_rfl) (fun _ _ _ h => h) (Or.inl ⟨by simp [Region.wanted], by intro W; go_simp⟩) ?_
      refine wpAny_take (i := 10) (v := .pointer (some ⟨g, i * 5, none⟩)) rfl (by kernel_rfl) (by kernel_rfl) (by kernel_rfl) (fun _ _ _ h => h) (Or.inl ⟨by simp [Region.wanted], by intro W; go_simp; try (intro h; exfalso; omega)⟩) ?_
      simp only [Act.put, List.setIfInBounds_toArray]
      refine wpAny_ready (rs := [7, 11]) (by kernel_rfl) (by simp) ?_
      refine AllReady.cons rfl (fun K hK => ?_) (AllReady.cons rfl (fun K hK => ?_) AllReady.nil)
      · go_simp
        refine hK _ _ ?_
        clear hK K
        refine wpAny_ready (rs := [11]) (by kernel_rfl) (by simp) ?_
        refine AllReady.cons rfl (fun K hK => ?_) AllReady.nil
        go_simp
        refine hK _ _ ?_
        clear hK K
        refine wpAny_take (i := 12) (v := .pointer (some ⟨g, i * 5, none⟩)) rfl (by kernel_rfl) (by kernel_rfl) (by kernel_rfl) (fun _ _ _ h => h) (Or.inl ⟨by simp [Region.wanted], by intro W; go_simp; try (intro h; exfalso; omega)⟩) ?_
        refine wpAny_ready (rs := [13]) (by kernel_rfl) (by simp) ?_
        refine AllReady.cons rfl (fun K hK => ?_) AllReady.nil
        go_simp
        refine hK _ _ ?_
        clear hK K
        rw [← hW1]
        clear hW1
        refine wpAny_take (i := 14) (v := .pointer (some ⟨g, j * 5, none⟩)) rfl (by kernel_rfl) (by kernel_rfl) (by kernel_rfl) (fun _ _ _ h => h) (Or.inl ⟨by simp [Region.wanted], by intro W; go_simp; try (intro h; exfalso; omega)⟩) ?_
        refine wpAny_ready (rs := [15]) (by kernel_rfl) (by simp) ?_
        refine AllReady.cons rfl (fun K hK => ?_) AllReady.nil
        go_simp
        refine hK _ _ ?_
        clear hK K
        refine wpAny_done (by kernel_rfl) ?_ _
        go_wp2_with fail
        go_roundg (l.length - (i + 1))
        case measure => omega
        case rel => exact ⟨i + 1, _, rfl, by omega, by go_num, by go_num, HFIN.out.1, HFIN.out.2.1, (show World.grownBy _ _ _ from ⟨HFIN.out.2.2.os, HFIN.out.2.2.tape, HFIN.out.2.2.output, HFIN.out.2.2.size, HFIN.out.2.2.block⟩)⟩
      · go_simp
        refine hK _ _ ?_
        clear hK K
        refine wpAny_ready (rs := [7]) (by kernel_rfl) (by simp) ?_
        refine AllReady.cons rfl (fun K hK => ?_) AllReady.nil
        go_simp
        refine hK _ _ ?_
        clear hK K
        refine wpAny_take (i := 12) (v := .pointer (some ⟨g, i * 5, none⟩)) rfl (by kernel_rfl) (by kernel_rfl) (by kernel_rfl) (fun _ _ _ h => h) (Or.inl ⟨by simp [Region.wanted], by intro W; go_simp; try (intro h; exfalso; omega)⟩) ?_
        refine wpAny_ready (rs := [13]) (by kernel_rfl) (by simp) ?_
        refine AllReady.cons rfl (fun K hK => ?_) AllReady.nil
        go_simp
        refine hK _ _ ?_
        clear hK K
        rw [← hW1]
        clear hW1
        refine wpAny_take (i := 14) (v := .pointer (some ⟨g, j * 5, none⟩)) rfl (by kernel_rfl) (by kernel_rfl) (by kernel_rfl) (fun _ _ _ h => h) (Or.inl ⟨by simp [Region.wanted], by intro W; go_simp; try (intro h; exfalso; omega)⟩) ?_
        refine wpAny_ready (rs := [15]) (by kernel_rfl) (by simp) ?_
        refine AllReady.cons rfl (fun K hK => ?_) AllReady.nil
        go_simp
        refine hK _ _ ?_
        clear hK K
        refine wpAny_done (by kernel_rfl) ?_ _
        go_wp2_with fail
        go_roundg (l.length - (i + 1))
        case measure => omega
        case rel => exact ⟨i + 1, _, rfl, by omega, by go_num, by go_num, HFIN.out.1, HFIN.out.2.1, (show World.grownBy _ _ _ from ⟨HFIN.out.2.2.os, HFIN.out.2.2.tape, HFIN.out.2.2.output, HFIN.out.2.2.size, HFIN.out.2.2.block⟩)⟩
    · have HD := hide (hR.out.done hlt)
      go_wp2_with fail
      go_end0
      refine ⟨rfl, ?_, hgr.out⟩
      rw [← HD.out]
      exact hown.out
end Go.Proofs.Ytcknganggcbkjab.Deed
namespace Go.Proofs.Ytcknganggcbkjab.Deed
open Go.Deep Go.RowKit
set_option linter.unusedVariables false
set_option maxRecDepth 20000

/-- What done comes to: a code, and where it is 0 the tree, in new memory. -/
def DoneEnd (r : Int × ByteArray × Fo) (w : World) (e : Ending) (w' : World) : Prop := ∃ s' ka' cap' k', e = .returned (.tuple #[.agg #[.string s', .slice ka' (flen k') cap'], .int .i64 r.1]) ∧ (r.1 = 0 → s' = r.2.1 ∧ strip k' = r.2.2 ∧ TIn w' s' ka' cap' k' ∧ FFrom w.heap.size k' ∧ FPlain w' k') ∧ Below w.heap.size w w'

theorem TIn.set {w : World} {g o : Nat} {v : Value} {s : ByteArray} {ka : Option Addr} {cap : Nat} {k : Fo} (h : TIn w s ka cap k) (ho : FOff g k) : TIn (w.setCell ⟨g, o, none⟩ v) s ka cap k :=
  TIn.but (g := g) (fun b _ hb => Below.heap_setCell _ _ _ _ hb) ho h
theorem FPlain.set {w : World} {g o : Nat} {v : Value} {k : Fo} (h : FPlain w k) (ho : FOff g k) : FPlain (w.setCell ⟨g, o, none⟩ v) k :=
  FPlain.but (g := g) (fun b _ hb => Below.heap_setCell _ _ _ _ hb) ho h

set_option maxHeartbeats 1000000 in
theorem done_name (d : Dd) (hk1 : d.kind = 1) (s : ByteArray) (ka : Option Addr) (cap : Nat) (k : Fo) (pa pb : Option Addr) (pc qc : Nat) (w : World) (ht : TIn w s ka cap k) (hn : fnodes k < 99999) (hl : d.lab.size ≤ maxLen) :
    Calls Try.prog 56 #[.agg #[.string s, .slice ka (flen k) cap], ddV d pa pc, .slice pb 0 qc] w (DoneEnd (doneR d [] s k) w) := by
  rw [doneR_name hk1]
  unfold ddV
  rw [hk1]
  obtain ⟨W, hW⟩ : ∃ W, W = (((w.alloc (Obj.cells #[Value.string s, Value.slice ka (flen k) cap] 24)).alloc (Obj.cells #[.int .i64 1, .slice pa d.path.length pc, .int .i64 d.pos, .int .i64 d.many, .string d.lab] 44)).alloc (Obj.cells #[Value.string ⟨#[]⟩, Value.slice none 0 0] 24)).alloc (Obj.cells #[Value.string d.lab, Value.slice none 0 0] 24) := ⟨_, rfl⟩
  have hB : Below w.heap.size w W := by
    rw [hW]
    exact (((Below.refl _ _).alloc (Nat.le_refl _) _).alloc (by simp) _).alloc (by simp <;> omega) _ |>.alloc (by simp <;> omega) _
  have hWs : W.heap.size = w.heap.size + 1 + 1 + 1 + 1 := by rw [hW]; simp
  have b2 : W.heap[w.heap.size + 1 + 1]? = some (Obj.cells #[Value.string ⟨#[]⟩, Value.slice none 0 0] 24) := by
    rw [hW, Below.heap_alloc _ _ _ (by simp), show w.heap.size + 1 + 1 = ((w.alloc (Obj.cells #[Value.string s, Value.slice ka (flen k) cap] 24)).alloc (Obj.cells #[.int .i64 1, .slice pa d.path.length pc, .int .i64 d.pos, .int .i64 d.many, .string d.lab] 44)).heap.size by simp]
    exact heap_alloc_new _ _
  have b3 : W.heap[w.heap.size + 1 + 1 + 1]? = some (Obj.cells #[Value.string d.lab, Value.slice none 0 0] 24) := by
    rw [hW, show w.heap.size + 1 + 1 + 1 = (((w.alloc (Obj.cells #[Value.string s, Value.slice ka (flen k) cap] 24)).alloc (Obj.cells #[.int .i64 1, .slice pa d.path.length pc, .int .i64 d.pos, .int .i64 d.many, .string d.lab] 44)).alloc (Obj.cells #[Value.string ⟨#[]⟩, Value.slice none 0 0] 24)).heap.size by simp]
    exact heap_alloc_new _ _
  have HO := hide (ownListK_any k ka cap W hn (ht.kids.below hB))
  have HB := hide hB
  have HB2 := hide b2
  have HB3 := hide b3
  have HWS := hide hWs
  clear hB b2 b3 hWs ht
  go_enter Try.func56, Try.ntmps56
  go_wp2_with fail
  rw [← hW]
  clear hW
  refine Calls.mono HO.out ?_
  rintro e w5 ⟨va, vc, L, rfl, hK, hLk, hb5⟩
  have hws := HWS.out
  have c20 : w5.heap[w.heap.size + 1 + 1]? = some (Obj.cells #[Value.string ⟨#[]⟩, Value.slice none 0 0] 24) := by rw [hb5.block _ (by omega)]; exact HB2.out
  have c30 : w5.heap[w.heap.size + 1 + 1 + 1]? = some (Obj.cells #[Value.string d.lab, Value.slice none 0 0] 24) := by rw [hb5.block _ (by omega)]; exact HB3.out
  have q20 : w5.cell? ⟨w.heap.size + 1 + 1, 0, none⟩ = some (.string ⟨#[]⟩) := by rw [cell_of_row _ _ 0 _ _ _ c20]; rfl
  have q21 : w5.cell? ⟨w.heap.size + 1 + 1, 1, none⟩ = some (.slice none 0 0) := by rw [cell_of_row _ _ 1 _ _ _ c20]; rfl
  have q30 : w5.cell? ⟨w.heap.size + 1 + 1 + 1, 0, none⟩ = some (.string d.lab) := by rw [cell_of_row _ _ 0 _ _ _ c30]; rfl
  have q31 : w5.cell? ⟨w.heap.size + 1 + 1 + 1, 1, none⟩ = some (.slice none 0 0) := by rw [cell_of_row _ _ 1 _ _ _ c30]; rfl
  have f20 : w5.frozen? ⟨w.heap.size + 1 + 1, 0, none⟩ = false := by simp [World.frozen?, c20]
  have f21 : w5.frozen? ⟨w.heap.size + 1 + 1, 1, none⟩ = false := by simp [World.frozen?, c20]
  have f31 : w5.frozen? ⟨w.heap.size + 1 + 1 + 1, 1, none⟩ = false := by simp [World.frozen?, c30]
  have hz5 : w.heap.size + 1 + 1 + 1 + 1 ≤ w5.heap.size := by have := hb5.size; omega
  obtain ⟨ka', cap', k', hv, hst, hlc, hcm, hkin, hfr, hpl, _⟩ := hK.done2
  rw [hws] at hfr
  have HE := hide (show TIn w5 d.lab ka' cap' k' from ⟨hl, hlc, hcm, hkin⟩)
  have HS := hide (show strip k' = strip k by rw [hst, hLk, toFo_gs])
  have HFR := hide hfr
  have HPL := hide hpl
  have HB5 := hide (HB.out.trans (hb5.mono (by omega)))
  rw [hv]
  clear hK hLk hb5 hws c20 c30 hst hlc hcm hkin hfr hpl hv HO HB2 HB3 HWS
  go_wp2_with fail
  have o2 : FOff (w.heap.size + 1 + 1) k' := HFR.out.off (by omega)
  have o3 : FOff (w.heap.size + 1 + 1 + 1) k' := HFR.out.off (by omega)
  refine bodyPost_ret (v := .tuple #[.agg #[.string d.lab, .slice ka' (flen k') cap'], .int .i64 0]) (by simp [results, Try.results56, go_sem, *]) rfl ⟨d.lab, ka', cap', k', rfl, fun _ => ⟨rfl, HS.out, TIn.set (TIn.set (TIn.set HE.out o3) o2) o2, HFR.out.mono (by omega), FPlain.set (FPlain.set (FPlain.set HPL.out o3) o2) o2⟩, ?_⟩
  exact ((HB5.out.setCell (by simp <;> omega) _).setCell (by simp <;> omega) _).setCell (by simp <;> omega) _

theorem boxes4 (w : World) (o0 o1 o2 o3 : Obj) : ((((w.alloc o0).alloc o1).alloc o2).alloc o3).heap.size = w.heap.size + 1 + 1 + 1 + 1 ∧ Below w.heap.size w ((((w.alloc o0).alloc o1).alloc o2).alloc o3) ∧ ((((w.alloc o0).alloc o1).alloc o2).alloc o3).heap[w.heap.size]? = some o0 ∧ ((((w.alloc o0).alloc o1).alloc o2).alloc o3).heap[w.heap.size + 1]? = some o1 ∧ ((((w.alloc o0).alloc o1).alloc o2).alloc o3).heap[w.heap.size + 1 + 1]? = some o2 ∧ ((((w.alloc o0).alloc o1).alloc o2).alloc o3).heap[w.heap.size + 1 + 1 + 1]? = some o3 := by
  refine ⟨by simp, (((Below.refl _ _).alloc (Nat.le_refl _) _).alloc (by simp) _).alloc (by simp <;> omega) _ |>.alloc (by simp <;> omega) _, ?_, ?_, ?_, ?_⟩
  · rw [Below.heap_alloc _ _ _ (by simp <;> omega), Below.heap_alloc _ _ _ (by simp <;> omega), Below.heap_alloc _ _ _ (by simp)]
    exact heap_alloc_new _ _
  · rw [Below.heap_alloc _ _ _ (by simp <;> omega), Below.heap_alloc _ _ _ (by simp), show w.heap.size + 1 = (w.alloc o0).heap.size by simp]
    exact heap_alloc_new _ _
  · rw [Below.heap_alloc _ _ _ (by simp), show w.heap.size + 1 + 1 = ((w.alloc o0).alloc o1).heap.size by simp]
    exact heap_alloc_new _ _
  · rw [show w.heap.size + 1 + 1 + 1 = (((w.alloc o0).alloc o1).alloc o2).heap.size by simp]
    exact heap_alloc_new _ _
/-- A list of one's own and the trees of another one behind: append. -/
theorem append_K {B B2 : Nat} {w : World} {va va2 : Option Addr} {vc vc2 : Nat} {L L2 : List It} (h : KInv 24 B w (.slice va L.length vc) L) (h2 : KInv 24 B2 w (.slice va2 L2.length vc2) L2) (hB : B ≤ B2) (hlt : ∀ g, (Value.slice va L.length vc).ownBlock = some g → g < B2) (hBw : B ≤ w.heap.size) (hlen : L.length + L2.length ≤ 1000000) :
    ∃ va' vc' w', (Builtin.append_ #[22, 22] 22 #[.slice va L.length vc, .slice va2 L2.length vc2]).run Try.prog w = .ok (.slice va' (L ++ L2).length vc') w' ∧ KInv 24 B w' (.slice va' (L ++ L2).length vc') (L ++ L2) ∧ w.grownBy w' (Value.slice va L.length vc).ownBlock ∧ ((Value.slice va' (L ++ L2).length vc').ownBlock = (Value.slice va L.length vc).ownBlock ∨ ∀ g, (Value.slice va' (L ++ L2).length vc').ownBlock = some g → g = w.heap.size) := by
  obtain ⟨i24, hi24, hz0, hz1, hz2⟩ := info_parts Try.infoTree
  rcases Nat.eq_zero_or_pos L2.length with h0 | h0
  · have : L2 = [] := List.eq_nil_of_length_eq_zero h0
    subst this
    cases va2 with
    | none =>
      have hc : vc2 = 0 := by
        rcases h2.row.2 with ⟨e, _⟩ | ⟨g, c, cur, e, _⟩
        · injection e
        · injection e with e1; cases e1
      subst hc
      refine ⟨va, vc, w, ?_, by simpa using h, grownBy_refl _ _, Or.inl (by simp)⟩
      have := run_append_owned_none (P := Try.prog) (w := w) B 22 22 24 i24 2 Try.underlying22 hi24 (.slice va L.length vc) L.length (rowCells L) h.row
      simpa using this
    | some ad =>
      obtain ⟨v', w', hr, hown, hgrow, _, hat⟩ := run_append_own_at (P := Try.prog) w B 22 22 24 i24 _ 2 40 Try.underlying22 hi24 hz0 hz1 hz2 rfl (by decide) (.slice va L.length vc) L.length (rowCells L) h.row ad 0 vc2 [] rfl (fun j u hu => by simp at hu) (fun u hu => by simp at hu) (by unfold maxLen; omega) (by omega) hBw
      obtain ⟨va', vc', rfl, _, _⟩ := ownsN_form hown
      have hk : KInv 24 B w' (.slice va' (L ++ []).length vc') (L ++ []) := by
        simp only [List.append_nil]
        refine ⟨fun it hi => ?_, by simpa using hown⟩
        obtain ⟨e1, e2, e3, e4⟩ := h.each it hi
        refine ⟨?_, e2, ?_, fun g hg => ?_⟩
        · cases hv : (Value.slice va L.length vc).ownBlock with
          | none => exact TIn.but (g := w.heap.size) (fun b hlt _ => hgrow.block b hlt (by rw [hv]; simp)) (e1.kids.off (Nat.le_refl _)) e1
          | some g0 => exact TIn.but (g := g0) (fun b hlt hne => hgrow.block b hlt (by rw [hv]; simpa using hne)) (e4 g0 hv) e1
        · cases hv : (Value.slice va L.length vc).ownBlock with
          | none => exact FPlain.but (g := w.heap.size) (fun b hlt _ => hgrow.block b hlt (by rw [hv]; simp)) (e1.kids.off (Nat.le_refl _)) e3
          | some g0 => exact FPlain.but (g := g0) (fun b hlt hne => hgrow.block b hlt (by rw [hv]; simpa using hne)) (e4 g0 hv) e3
        · rcases hat with hat | hat
          · exact e4 g (hat.symm.trans hg)
          · have : some w.heap.size = some g := hat.symm.trans hg
            injection this with this
            exact e1.kids.off (by omega)
      refine ⟨va', vc', w', by simpa using hr, hk, hgrow, ?_⟩
      rcases hat with hat | hat
      · exact Or.inl (by simpa [Value.ownBlock] using hat)
      · exact Or.inr fun g hg => by
          have : some w.heap.size = some g := hat.symm.trans (by simpa [Value.ownBlock] using hg)
          injection this with this
          exact this.symm
  · obtain ⟨g2, c2, hv2, hg2, hg2l, _, _⟩ := ownsN_some h2.row h0
    rw [hv2]
    have hr2 := h2.row
    rw [hv2] at hr2
    obtain ⟨g, cap, w', hr, hown, hgrow, hat, _⟩ := run_append_lies (P := Try.prog) w 22 22 B 24 i24 _ 2 40 Try.underlying22 hi24 hz0 hz1 hz2 rfl (by decide) (.slice va L.length vc) L.length (rowCells L) h.row ⟨g2, 0, none⟩ L2.length c2 (rowCells L2) (rowCells_length L2) (fun j u hu => by
      have := ownsRow_cell hr2 j u hu
      by_cases e : j = 0
      · subst e
        simpa [Addr.add] using this
      · simpa [Addr.add, e] using this) (rowCells_one L2) h0 (by unfold maxLen; omega) (by omega) hBw w.heap.size rfl
    have hk := KInv.join h (fun it hi => ⟨(h2.each it hi).1, (h2.each it hi).2.1.mono hB, (h2.each it hi).2.2.1, fun g hg => (h2.each it hi).2.1.off (hlt g hg)⟩) hown hgrow hat
    refine ⟨some ⟨g, 0, none⟩, cap, w', by rw [List.length_append]; exact hr, by rw [List.length_append]; exact hk, hgrow, ?_⟩
    rcases hat with hat | hat
    · exact Or.inl hat.symm
    · refine Or.inr fun g' hg' => ?_
      simp only [Value.ownBlock, Option.some.injEq] at hg'
      omega

/-- Where a part of a list of kids begins. -/
def subA (ka : Option Addr) (cap i : Nat) : Option Addr := if cap = i then ka else ka.map (·.add (i * 2))
theorem KIn.part {w : World} {ka : Option Addr} {k : Fo} (h : KIn w ka k) (cap i n : Nat) (hl : flen k ≤ cap) : KIn w (subA ka cap i) (ftake n (fdrop i k)) := by
  rcases h with rfl | ⟨b, o, rfl, h⟩
  · left
    cases i <;> cases n <;> rfl
  · by_cases e : cap = i
    · left
      rw [fdrop_end i k (by omega)]
      cases n <;> rfl
    · right
      refine ⟨b, o + i * 2, ?_, FIn.take n (FIn.drop i h)⟩
      unfold subA
      rw [if_neg e]
      by_cases e2 : i = 0
      · subst e2
        simp [Addr.add]
      · have : ¬ i * 2 = 0 := by omega
        simp [Addr.add, this]
theorem slice_lh (ka : Option Addr) (len cap i j : Nat) (h1 : i ≤ j) (h2 : j ≤ cap) (w : World) : (Instr.slice 22 (.slice ka len cap) (some (.int .i64 (i : Int))) (some (.int .i64 (j : Int))) none).run Try.prog w = .ok (.slice (subA ka cap i) (j - i) (cap - i)) w := by
  rw [run_slice_lh w 22 _ _ _ Try.underlying22 .i64 .i64 (i : Int) (j : Int) (by omega) (by omega) (by omega)]
  simp only [sliced, Int.toNat_natCast]
  rfl
theorem slice_h (ka : Option Addr) (len cap j : Nat) (h2 : j ≤ cap) (w : World) : (Instr.slice 22 (.slice ka len cap) none (some (.int .i64 (j : Int))) none).run Try.prog w = .ok (.slice (subA ka cap 0) j cap) w := by
  rw [run_slice_h w 22 _ _ _ Try.underlying22 .i64 (j : Int) (by omega) (by omega)]
  simp only [sliced, Int.toNat_natCast]
  rfl
theorem slice_l (ka : Option Addr) (len cap i : Nat) (h2 : i ≤ len) (w : World) : (Instr.slice 22 (.slice ka len cap) (some (.int .i64 (i : Int))) none none).run Try.prog w = .ok (.slice (subA ka cap i) (len - i) (cap - i)) w := by
  rw [run_slice_l w 22 _ _ _ Try.underlying22 .i64 (i : Int) (by omega) (by omega)]
  simp only [sliced, Int.toNat_natCast]
  rfl

theorem cellA {w : World} {a : Addr} {v : Value} (h : w.cell? a = some v) (o : Obj) : (w.alloc o).cell? a = some v := by rw [World.cell?_alloc_some _ _ _ (by rw [h]; rfl)]; exact h
theorem cellS {w : World} {a b : Addr} {v u : Value} (h : w.cell? a = some v) (hb : a.block ≠ b.block) : (w.setCell b u).cell? a = some v := by
  rw [World.cell?_of_block (w := w) (blk_setCell_other _ _ _ _ hb)]
  exact h

end Go.Proofs.Ytcknganggcbkjab.Deed
