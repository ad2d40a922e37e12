/- What change of package deed comes to: a deed done in place, and the deed that undoes it. Of no program. -/
/- at of package deed: the node at a path is found, and looked at; or there is none. Of the program's text. -/
/- slices.Grow and slices.Concat at lists of trees. Of the program's text. -/
import Derived.Test.YtcknganggcbkjabGS09
import Derived.Test.YtcknganggcbkjabProg
import Derived.Test.YtcknganggcbkjabGS08
import Derived.Test.YtcknganggcbkjabGS04
import Derived.Deep.LoopGhost
import Derived.WalkSmall
import Derived.Test.YtcknganggcbkjabGS02
import Derived.Test.YtcknganggcbkjabGS06
namespace Go.Proofs.Ytcknganggcbkjab.Deed
open Go.Deep Go.RowKit
set_option linter.unusedVariables false
set_option maxRecDepth 20000

theorem plain_turn {w w' : World} {c : Nat} (h : ∀ q, BPlain w q → q ≠ c → BPlain w' q) : ∀ {f : Fo}, FPlain w f → FOff c f → FPlain w' f
  | .nil, _, _ => trivial
  | .node _ _ _ _ _, ⟨h1, h2, h3⟩, ⟨g1, g2, g3⟩ => ⟨h _ h1 g1, plain_turn h h2 g2, plain_turn h h3 g3⟩
theorem off_put {c : Nat} {m : Nd} (hm : FOff c m.k) : ∀ (p : Nat) {k : Fo}, FOff c k → FOff c (fput m p k)
  | 0, .nil, _ => trivial
  | _ + 1, .nil, _ => trivial
  | 0, .node _ _ _ _ _, ⟨h1, _, h3⟩ => ⟨h1, hm, h3⟩
  | p + 1, .node _ _ _ _ r, ⟨h1, h2, h3⟩ => ⟨h1, h2, off_put hm p h3⟩
theorem off_set {c : Nat} {x : It} : ∀ (ps : List Nat) {n m : Nd}, nAt ps n = some m → (FOff c m.k → FOff c x.2.2.2) → FOff c n.k → FOff c (nSet x ps n).k
  | [], n, m, ha, hx, h => by
    simp only [nAt, Option.some.injEq] at ha
    subst ha
    exact hx h
  | p :: ps, n, m, ha, hx, h => by
    unfold nAt at ha
    cases hk : kidN p n.k with
    | none => rw [hk] at ha; cases ha
    | some m' =>
      rw [hk] at ha
      rw [nSet_cons hk]
      exact off_put (off_set ps ha hx (kid_off h hk)) p h
theorem turn_root {w w' : World} {n m : Nd} {c : Nat} {x : It} {bk : Dd} {ps : List Nat} (h : NodIn w n) (h1 : NodOne n) (hp : BPlain w n.b) (hk : FPlain w n.k) (ha : nAt ps n = some m) (hc : c ≠ n.b) (ho : FOff c n.k) (hcl : c < w.heap.size) (t : Turn w w' m c x bk) :
    NodIn w' (nSet x ps n) ∧ FPlain w' (nSet x ps n).k ∧ (∀ B, B ≤ w.heap.size → B ≤ n.b → B ≤ c → FFrom B n.k → FFrom B (nSet x ps n).k ∧ Below B w w') ∧ (∀ q, q < w.heap.size → FOff q n.k → FOff q (nSet x ps n).k) ∧ (∀ q, q < w.heap.size → q ≠ n.b → q ≠ c → FOff q n.k → w'.heap[q]? = w.heap[q]?) := by
  obtain ⟨pa, pc, hbk, _, _⟩ := t.back
  have hpl : ∀ q, BPlain w q → q ≠ c → BPlain w' q := fun q hq hn => by
    by_cases e : q = m.b
    · rw [e]
      exact t.plain
    · obtain ⟨cs, T, hb⟩ := hq
      refine ⟨cs, T, ?_⟩
      rw [t.same q (BPlain.lt ⟨cs, T, hb⟩) e hn]
      exact hb
  refine ⟨upd2 h h1 ha hc ho hcl hbk.lt t.same t.cell t.new, plain_set t.kplain ps (plain_turn hpl hk ho), fun B hB hb hBc hf => ?_, fun q hq hf => off_set ps ha (t.koff q hq) hf, fun q hq hb hc' hf => t.same q hq (fun e => ?_) hc'⟩
  · obtain ⟨f1, f2⟩ := nAt_from ps hb hf ha
    exact ⟨from_set (t.kids B hB f2) ps hf, t.keep B f1 hBc hB⟩
  · rcases (nAt_in ps h h1 ha).2.2 with ⟨e', _⟩ | e'
    · omega
    · rw [← e] at e'
      exact ab_off hf e'

/-- What change comes to. -/
def ChEnd (w : World) (n : Nd) (d : Dd) (e : Ending) (w' : World) : Prop :=
  ((doneP d n.s (strip n.k)).1 ≠ 0 ∧ e = .returned (.tuple #[ddV noDd none 0, .int .i64 (doneP d n.s (strip n.k)).1]) ∧ Below w.heap.size w w') ∨
  (∃ n' pa pc, doneP d n.s (strip n.k) = (0, n'.s, strip n'.k) ∧ e = .returned (.tuple #[ddV (backP d n.s (strip n.k)) pa pc, .int .i64 0]) ∧ n'.b = n.b ∧ n'.o = n.o ∧ NodIn w' n' ∧ FPlain w' n'.k ∧ (∀ B, B ≤ w.heap.size → B ≤ n.b → FFrom B n.k → FFrom B n'.k ∧ Below B w w') ∧ DIn w' (backP d n.s (strip n.k)) pa pc ∧ (∀ a, pa = some a → w.heap.size ≤ a.block) ∧ (∀ q, q < w.heap.size → FOff q n.k → FOff q n'.k) ∧ (∀ q, q < w.heap.size → q ≠ n.b → FOff q n.k → w'.heap[q]? = w.heap[q]?) ∧ (d.kind = 3 → d.path = [] → (ab n.k).Nodup → (ab n'.k).Nodup))

/-- Two boxes. -/
theorem boxes2 (w : World) (o0 o1 : Obj) : ((w.alloc o0).alloc o1).heap.size = w.heap.size + 1 + 1 ∧ Below w.heap.size w ((w.alloc o0).alloc o1) ∧ ((w.alloc o0).alloc o1).heap[w.heap.size]? = some o0 ∧ ((w.alloc o0).alloc o1).heap[w.heap.size + 1]? = some o1 := by
  refine ⟨by simp, ((Below.refl _ _).alloc (Nat.le_refl _) _).alloc (by simp) _, ?_, ?_⟩
  · rw [Below.heap_alloc _ _ _ (by simp)]
    exact heap_alloc_new _ _
  · rw [show w.heap.size + 1 = (w.alloc o0).heap.size by simp]
    exact heap_alloc_new _ _
theorem NodIn.below {w w' : World} {n : Nd} (h : NodIn w n) (hb : Below w.heap.size w w') : NodIn w' n :=
  ⟨by rw [hb.cell (World.block_lt_of_cell? _ _ h.c0)]; exact h.c0, by rw [hb.cell (World.block_lt_of_cell? _ _ h.c1)]; exact h.c1, h.tin.below hb⟩
theorem one_off {w : World} {m : Nd} (h : NodIn w m) (h1 : NodOne m) : FOff m.b m.k := by
  rcases h.tin.kids with h0 | ⟨kb, ko, _, hf⟩
  · rw [h0]
    trivial
  · cases hk : m.k with
    | nil => trivial
    | node b o x k r =>
      rw [← hk]
      refine off_of hf (fun e => h1.out ?_) (fun e => h1.out (List.mem_append.2 (Or.inr e)))
      rw [hk] at hf
      have : b = kb := hf.1
      rw [hk]
      simp [ab, hb]
      omega
theorem nat_path {l : List Int} (h : l.any (fun p => decide (p < 0)) = false) : ∀ p, p ∈ l → 0 ≤ p := fun p hp => by
  have := List.any_eq_false.1 h p hp
  simpa using this
theorem nAt_nodes : ∀ (ps : List Nat) {n m : Nd}, nAt ps n = some m → fnodes m.k ≤ fnodes n.k
  | [], n, m, ha => by
    simp only [nAt, Option.some.injEq] at ha
    subst ha
    exact Nat.le_refl _
  | p :: ps, n, m, ha => by
    unfold nAt at ha
    cases hk : kidN p n.k with
    | none => rw [hk] at ha; cases ha
    | some m' =>
      rw [hk] at ha
      have h1 := nAt_nodes ps ha
      have h2 := fnodes_drop p n.k
      rw [(kidN_some hk).2] at h2
      simp only [fnodes] at h2
      omega

/-- The deed that undoes it is laid into a box of the caller's. -/
theorem ch_set {w W w1 : World} {n : Nd} {d : Dd} {e : Ending} {c : Nat} {v0 v1 v2 v3 v4 : Value} (bW : Below w.heap.size w W) (hc : w.heap.size ≤ c) (hcW : c < W.heap.size) (hn : n.b < w.heap.size) (hoff : FOff c n.k) (h : ChEnd W n d e w1) :
    ChEnd w n d e (((((w1.setCell ⟨c, 0, none⟩ v0).setCell ⟨c, 1, none⟩ v1).setCell ⟨c, 2, none⟩ v2).setCell ⟨c, 3, none⟩ v3).setCell ⟨c, 4, none⟩ v4) := by
  have hs : ∀ q, q ≠ c → (((((w1.setCell ⟨c, 0, none⟩ v0).setCell ⟨c, 1, none⟩ v1).setCell ⟨c, 2, none⟩ v2).setCell ⟨c, 3, none⟩ v3).setCell ⟨c, 4, none⟩ v4).heap[q]? = w1.heap[q]? := fun q hq => by
    rw [Below.heap_setCell _ _ _ _ hq, Below.heap_setCell _ _ _ _ hq, Below.heap_setCell _ _ _ _ hq, Below.heap_setCell _ _ _ _ hq, Below.heap_setCell _ _ _ _ hq]
  have hB : ∀ B, B ≤ c → Below B w w1 → Below B w (((((w1.setCell ⟨c, 0, none⟩ v0).setCell ⟨c, 1, none⟩ v1).setCell ⟨c, 2, none⟩ v2).setCell ⟨c, 3, none⟩ v3).setCell ⟨c, 4, none⟩ v4) := fun B h1 h2 => ((((h2.setCell h1 _).setCell h1 _).setCell h1 _).setCell h1 _).setCell h1 _
  have sW := bW.size
  rcases h with ⟨h1, h2, h3⟩ | ⟨n', pa, pc, h1, h2, h3, h4, h5, h6, h7, h8, h9, h10, h11, h12⟩
  · exact Or.inl ⟨h1, h2, hB _ hc (bW.trans (h3.mono sW))⟩
  · have ho := h10 c hcW hoff
    refine Or.inr ⟨n', pa, pc, h1, h2, h3, h4, ⟨?_, ?_, TIn.but (g := c) (fun b _ hb => hs b hb) ho h5.tin⟩, FPlain.but (g := c) (fun b _ hb => hs b hb) ho h6, fun B b1 b2 b3 => ?_, ⟨PIn.block h8.path fun a ha => hs _ (by have := h9 a ha; omega), h8.len, h8.cap, h8.lab⟩, fun a ha => Nat.le_trans sW (h9 a ha), fun q hq hf => h10 q (by omega) hf, fun q hq hb hf => ?_, h12⟩
    · exact cellN (hs n'.b (by omega)) h5.c0
    · exact cellN (hs n'.b (by omega)) h5.c1
    · obtain ⟨f1, f2⟩ := h7 B (by omega) b2 b3
      exact ⟨f1, hB B (by omega) ((bW.mono b1).trans f2)⟩
    · rw [hs q (by omega), h11 q (by omega) hb hf, bW.block q hq]

end Go.Proofs.Ytcknganggcbkjab.Deed
namespace Go.Proofs.Ytcknganggcbkjab.Deed
open Go.Deep Go.RowKit
set_option linter.unusedVariables false
set_option maxRecDepth 20000

set_option maxHeartbeats 2000000 in
theorem atN_any (c1 c2 : Nat) (n : Nd) (path : List Int) (pa : Option Addr) (pc : Nat) (w : World) (hn : NodIn w n) (h1 : NodOne n) (hpi : PIn w pa path) (hpl : path.length ≤ 10000) (h0 : ∀ p, p ∈ path → 0 ≤ p) (Q : Ending → World → Prop)
    (hf : ∀ m, nAt (nats path) n = some m → Calls Try.prog 98 #[.pointer (some ⟨m.b, m.o, none⟩), .pointer (some ⟨c1, 0, none⟩), .pointer (some ⟨c2, 0, none⟩)] w Q) (hz : nAt (nats path) n = none → Q (.returned (.int .i64 7)) w) (hr : ∀ e w', Q e w' → ∃ c, e = .returned (.int .i64 c)) :
    Calls Try.prog 97 #[.pointer (some ⟨n.b, n.o, none⟩), .slice pa path.length pc, .func (.func 98) #[] #[.pointer (some ⟨c1, 0, none⟩), .pointer (some ⟨c2, 0, none⟩)]] w Q := by
  have HF := hide hf
  have HZ := hide hz
  have HR := hide hr
  have HN := hide hn
  have H1 := hide h1
  have H0 := hide h0
  clear hf hz hr hn h1 h0
  go_enter Try.func97, Try.ntmps97
  go_wp2_with fail
  go_loopg [0, 11] path.length (fun gk v0 v11 wr => ∃ (i : Nat) (q : Nd), gk = path.length - i ∧ i ≤ path.length ∧ v0 = .pointer (some ⟨q.b, q.o, none⟩) ∧ v11 = .int .i64 (i : Nat) ∧ wr = w ∧ Hid (nAt (nats (path.take i)) n = some q))
  case atStart => exact ⟨0, n, rfl, Nat.zero_le _, rfl, rfl, rfl, hide (by simp [nats, nAt])⟩
  case round =>
    obtain ⟨i, q, hgk, hi, rfl, rfl, hwr, hq⟩ := hrel
    obtain ⟨wA, hwA⟩ : ∃ wA, wA = wr := ⟨_, rfl⟩
    rw [← hwA]
    have hwB : wA = w := hwA.trans hwr
    clear hwA hwr
    subst hwB
    by_cases hin : i < path.length
    · obtain ⟨P, hP⟩ : ∃ P : Nat, path[i]? = some ((P : Nat) : Int) := by
        obtain ⟨P, hP⟩ := Int.eq_ofNat_of_zero_le (H0.out path[i] (List.getElem_mem hin))
        exact ⟨P, by rw [List.getElem?_eq_getElem hin, hP]⟩
      have htk : nats (path.take (i + 1)) = nats (path.take i) ++ [P] := by
        have : path[i] = (P : Int) := by simpa [List.getElem?_eq_getElem hin] using hP
        rw [List.take_succ_eq_append_getElem hin, nats_append, this]
        simp [nats]
      have hst : nAt (nats (path.take (i + 1))) n = kidN P q.k := by rw [htk, nAt_snoc, hq.out]
      obtain ⟨b, o, rfl, hc⟩ : ∃ b o, pa = some ⟨b, o, none⟩ ∧ wA.cell? ⟨b, o + i, none⟩ = some (.int .i64 (P : Int)) := by
        rcases hpi with rfl | ⟨b, o, rfl, h⟩
        · simp at hin
        · exact ⟨b, o, rfl, h i _ hP⟩
      have hqi := (nAt_in _ HN.out H1.out hq.out).1
      have hc1 := hqi.c1
      have hlen := hqi.tin.len
      have hcap := hqi.tin.cap
      unfold maxLen at hcap
      cases hk : kidN P q.k with
      | none =>
        have hge := kidN_none hk
        have HE := hide (show nAt (nats path) n = none by
          have e : nats path = nats (path.take (i + 1)) ++ nats (path.drop (i + 1)) := by rw [← nats_append, List.take_append_drop]
          rw [e]
          exact nAt_none _ _ (hst.trans hk))
        clear hst hk htk hqi hP
        have hd : decide (((flen q.k : Nat) : Int) ≤ (P : Int)) = true := decide_eq_true (by omega)
        go_wp2_with fail
        exact HZ.out HE.out
      | some m =>
        have hlt := (kidN_some hk).1
        obtain ⟨_, kb, ko, e1, _, e2, e3⟩ := kid_in hqi hk
        rw [e1] at hc1
        have HE := hide (hst.trans hk)
        have HM := hide (And.intro e2 e3)
        clear hst hk htk hqi hP e1 e2 e3
        have hd : decide (((flen q.k : Nat) : Int) ≤ (P : Int)) = false := decide_eq_false (by omega)
        go_wp2_with fail
        go_roundg (path.length - (i + 1))
        case measure => omega
        case rel => exact ⟨i + 1, m, rfl, by omega, by rw [HM.out.1, HM.out.2, Nat.mul_comm 2 P], by go_num, rfl, HE⟩
    · have hie : i = path.length := by omega
      subst hie
      rw [List.take_length] at hq
      clear hgk
      go_wp2_with fail
      refine (HF.out q hq.out).mono ?_
      rintro e w1 hQ
      obtain ⟨c, rfl⟩ := HR.out _ _ hQ
      have HQ := hide hQ
      clear hQ
      go_wp2_with fail
      exact HQ.out

set_option maxHeartbeats 2000000 in
theorem atR_any (c1 c2 c3 : Nat) (n : Nd) (path : List Int) (pa : Option Addr) (pc : Nat) (w : World) (hn : NodIn w n) (h1 : NodOne n) (hpi : PIn w pa path) (hpl : path.length ≤ 10000) (h0 : ∀ p, p ∈ path → 0 ≤ p) (Q : Ending → World → Prop)
    (hf : ∀ m, nAt (nats path) n = some m → Calls Try.prog 100 #[.pointer (some ⟨m.b, m.o, none⟩), .pointer (some ⟨c1, 0, none⟩), .pointer (some ⟨c2, 0, none⟩), .pointer (some ⟨c3, 0, none⟩)] w Q) (hz : nAt (nats path) n = none → Q (.returned (.int .i64 7)) w) (hr : ∀ e w', Q e w' → ∃ c, e = .returned (.int .i64 c)) :
    Calls Try.prog 97 #[.pointer (some ⟨n.b, n.o, none⟩), .slice pa path.length pc, .func (.func 100) #[] #[.pointer (some ⟨c1, 0, none⟩), .pointer (some ⟨c2, 0, none⟩), .pointer (some ⟨c3, 0, none⟩)]] w Q := by
  have HF := hide hf
  have HZ := hide hz
  have HR := hide hr
  have HN := hide hn
  have H1 := hide h1
  have H0 := hide h0
  clear hf hz hr hn h1 h0
  go_enter Try.func97, Try.ntmps97
  go_wp2_with fail
  go_loopg [0, 11] path.length (fun gk v0 v11 wr => ∃ (i : Nat) (q : Nd), gk = path.length - i ∧ i ≤ path.length ∧ v0 = .pointer (some ⟨q.b, q.o, none⟩) ∧ v11 = .int .i64 (i : Nat) ∧ wr = w ∧ Hid (nAt (nats (path.take i)) n = some q))
  case atStart => exact ⟨0, n, rfl, Nat.zero_le _, rfl, rfl, rfl, hide (by simp [nats, nAt])⟩
  case round =>
    obtain ⟨i, q, hgk, hi, rfl, rfl, hwr, hq⟩ := hrel
    obtain ⟨wA, hwA⟩ : ∃ wA, wA = wr := ⟨_, rfl⟩
    rw [← hwA]
    have hwB : wA = w := hwA.trans hwr
    clear hwA hwr
    subst hwB
    by_cases hin : i < path.length
    · obtain ⟨P, hP⟩ : ∃ P : Nat, path[i]? = some ((P : Nat) : Int) := by
        obtain ⟨P, hP⟩ := Int.eq_ofNat_of_zero_le (H0.out path[i] (List.getElem_mem hin))
        exact ⟨P, by rw [List.getElem?_eq_getElem hin, hP]⟩
      have htk : nats (path.take (i + 1)) = nats (path.take i) ++ [P] := by
        have : path[i] = (P : Int) := by simpa [List.getElem?_eq_getElem hin] using hP
        rw [List.take_succ_eq_append_getElem hin, nats_append, this]
        simp [nats]
      have hst : nAt (nats (path.take (i + 1))) n = kidN P q.k := by rw [htk, nAt_snoc, hq.out]
      obtain ⟨b, o, rfl, hc⟩ : ∃ b o, pa = some ⟨b, o, none⟩ ∧ wA.cell? ⟨b, o + i, none⟩ = some (.int .i64 (P : Int)) := by
        rcases hpi with rfl | ⟨b, o, rfl, h⟩
        · simp at hin
        · exact ⟨b, o, rfl, h i _ hP⟩
      have hqi := (nAt_in _ HN.out H1.out hq.out).1
      have hc1 := hqi.c1
      have hlen := hqi.tin.len
      have hcap := hqi.tin.cap
      unfold maxLen at hcap
      cases hk : kidN P q.k with
      | none =>
        have hge := kidN_none hk
        have HE := hide (show nAt (nats path) n = none by
          have e : nats path = nats (path.take (i + 1)) ++ nats (path.drop (i + 1)) := by rw [← nats_append, List.take_append_drop]
          rw [e]
          exact nAt_none _ _ (hst.trans hk))
        clear hst hk htk hqi hP
        have hd : decide (((flen q.k : Nat) : Int) ≤ (P : Int)) = true := decide_eq_true (by omega)
        go_wp2_with fail
        exact HZ.out HE.out
      | some m =>
        have hlt := (kidN_some hk).1
        obtain ⟨_, kb, ko, e1, _, e2, e3⟩ := kid_in hqi hk
        rw [e1] at hc1
        have HE := hide (hst.trans hk)
        have HM := hide (And.intro e2 e3)
        clear hst hk htk hqi hP e1 e2 e3
        have hd : decide (((flen q.k : Nat) : Int) ≤ (P : Int)) = false := decide_eq_false (by omega)
        go_wp2_with fail
        go_roundg (path.length - (i + 1))
        case measure => omega
        case rel => exact ⟨i + 1, m, rfl, by omega, by rw [HM.out.1, HM.out.2, Nat.mul_comm 2 P], by go_num, rfl, HE⟩
    · have hie : i = path.length := by omega
      subst hie
      rw [List.take_length] at hq
      clear hgk
      go_wp2_with fail
      refine (HF.out q hq.out).mono ?_
      rintro e w1 hQ
      obtain ⟨c, rfl⟩ := HR.out _ _ hQ
      have HQ := hide hQ
      clear hQ
      go_wp2_with fail
      exact HQ.out

set_option maxHeartbeats 2000000 in
theorem atI_any (c1 c2 : Nat) (n : Nd) (path : List Int) (pa : Option Addr) (pc : Nat) (w : World) (hn : NodIn w n) (h1 : NodOne n) (hpi : PIn w pa path) (hpl : path.length ≤ 10000) (h0 : ∀ p, p ∈ path → 0 ≤ p) (Q : Ending → World → Prop)
    (hf : ∀ m, nAt (nats path) n = some m → Calls Try.prog 102 #[.pointer (some ⟨m.b, m.o, none⟩), .pointer (some ⟨c1, 0, none⟩), .pointer (some ⟨c2, 0, none⟩)] w Q) (hz : nAt (nats path) n = none → Q (.returned (.int .i64 7)) w) (hr : ∀ e w', Q e w' → ∃ c, e = .returned (.int .i64 c)) :
    Calls Try.prog 97 #[.pointer (some ⟨n.b, n.o, none⟩), .slice pa path.length pc, .func (.func 102) #[] #[.pointer (some ⟨c1, 0, none⟩), .pointer (some ⟨c2, 0, none⟩)]] w Q := by
  have HF := hide hf
  have HZ := hide hz
  have HR := hide hr
  have HN := hide hn
  have H1 := hide h1
  have H0 := hide h0
  clear hf hz hr hn h1 h0
  go_enter Try.func97, Try.ntmps97
  go_wp2_with fail
  go_loopg [0, 11] path.length (fun gk v0 v11 wr => ∃ (i : Nat) (q : Nd), gk = path.length - i ∧ i ≤ path.length ∧ v0 = .pointer (some ⟨q.b, q.o, none⟩) ∧ v11 = .int .i64 (i : Nat) ∧ wr = w ∧ Hid (nAt (nats (path.take i)) n = some q))
  case atStart => exact ⟨0, n, rfl, Nat.zero_le _, rfl, rfl, rfl, hide (by simp [nats, nAt])⟩
  case round =>
    obtain ⟨i, q, hgk, hi, rfl, rfl, hwr, hq⟩ := hrel
    obtain ⟨wA, hwA⟩ : ∃ wA, wA = wr := ⟨_, rfl⟩
    rw [← hwA]
    have hwB : wA = w := hwA.trans hwr
    clear hwA hwr
    subst hwB
    by_cases hin : i < path.length
    · obtain ⟨P, hP⟩ : ∃ P : Nat, path[i]? = some ((P : Nat) : Int) := by
        obtain ⟨P, hP⟩ := Int.eq_ofNat_of_zero_le (H0.out path[i] (List.getElem_mem hin))
        exact ⟨P, by rw [List.getElem?_eq_getElem hin, hP]⟩
      have htk : nats (path.take (i + 1)) = nats (path.take i) ++ [P] := by
        have : path[i] = (P : Int) := by simpa [List.getElem?_eq_getElem hin] using hP
        rw [List.take_succ_eq_append_getElem hin, nats_append, this]
        simp [nats]
      have hst : nAt (nats (path.take (i + 1))) n = kidN P q.k := by rw [htk, nAt_snoc, hq.out]
      obtain ⟨b, o, rfl, hc⟩ : ∃ b o, pa = some ⟨b, o, none⟩ ∧ wA.cell? ⟨b, o + i, none⟩ = some (.int .i64 (P : Int)) := by
        rcases hpi with rfl | ⟨b, o, rfl, h⟩
        · simp at hin
        · exact ⟨b, o, rfl, h i _ hP⟩
      have hqi := (nAt_in _ HN.out H1.out hq.out).1
      have hc1 := hqi.c1
      have hlen := hqi.tin.len
      have hcap := hqi.tin.cap
      unfold maxLen at hcap
      cases hk : kidN P q.k with
      | none =>
        have hge := kidN_none hk
        have HE := hide (show nAt (nats path) n = none by
          have e : nats path = nats (path.take (i + 1)) ++ nats (path.drop (i + 1)) := by rw [← nats_append, List.take_append_drop]
          rw [e]
          exact nAt_none _ _ (hst.trans hk))
        clear hst hk htk hqi hP
        have hd : decide (((flen q.k : Nat) : Int) ≤ (P : Int)) = true := decide_eq_true (by omega)
        go_wp2_with fail
        exact HZ.out HE.out
      | some m =>
        have hlt := (kidN_some hk).1
        obtain ⟨_, kb, ko, e1, _, e2, e3⟩ := kid_in hqi hk
        rw [e1] at hc1
        have HE := hide (hst.trans hk)
        have HM := hide (And.intro e2 e3)
        clear hst hk htk hqi hP e1 e2 e3
        have hd : decide (((flen q.k : Nat) : Int) ≤ (P : Int)) = false := decide_eq_false (by omega)
        go_wp2_with fail
        go_roundg (path.length - (i + 1))
        case measure => omega
        case rel => exact ⟨i + 1, m, rfl, by omega, by rw [HM.out.1, HM.out.2, Nat.mul_comm 2 P], by go_num, rfl, HE⟩
    · have hie : i = path.length := by omega
      subst hie
      rw [List.take_length] at hq
      clear hgk
      go_wp2_with fail
      refine (HF.out q hq.out).mono ?_
      rintro e w1 hQ
      obtain ⟨c, rfl⟩ := HR.out _ _ hQ
      have HQ := hide hQ
      clear hQ
      go_wp2_with fail
      exact HQ.out

end Go.Proofs.Ytcknganggcbkjab.Deed
namespace Go.Proofs.Ytcknganggcbkjab.Deed
open Go.Deep Go.RowKit
set_option linter.unusedVariables false
set_option maxRecDepth 20000


set_option maxHeartbeats 2000000 in
theorem growT_any (n : Nat) (hn : n ≤ 100000) (w : World) :
    Calls Try.prog 112 #[.slice none 0 0, .int .i64 (n : Int)] w fun e w' => ∃ va vc, e = .returned (.slice va 0 vc) ∧ w'.ownsRow w.heap.size 24 2 (.slice va 0 vc) 0 [] ∧ Below w.heap.size w w' := by
  obtain ⟨i0, hi0, hz0, hz1, hz2⟩ := info_parts Try.infoTree
  rcases Nat.eq_zero_or_pos n with h0 | h0
  · subst h0
    go_enter Try.func112, Try.ntmps112
    go_wp2_with fail
    go_ret
    exact ⟨none, 0, rfl, World.ownsRow_nil _ _ _ _, Below.refl _ _⟩
  · have hr := Go.Lib.run_append_nil_zeros (P := Try.prog) w 22 3 22 24 i0 _ .i64 .i64 Try.underlying22 Try.underlying3 hi0 hz0 n h0 (by rw [hz1]; decide) (by omega) (by rw [hz2]; omega)
    have hG := grownCap_le_maxLen w n 0 24 (by unfold maxLen; omega)
    have hGe := grownCap_ge w n 0 24
    obtain ⟨G, hGG⟩ : ∃ G, G = grownCap w n 0 24 := ⟨_, rfl⟩
    rw [← hGG] at hr hG hGe
    obtain ⟨cur, hcur⟩ : ∃ cur, cur = Builtin.zeroCells (.agg #[.string ⟨#[]⟩, .slice none 0 0] : Value).cells n ++ Builtin.zeroCells (.agg #[.string ⟨#[]⟩, .slice none 0 0] : Value).cells (G - n) := ⟨_, rfl⟩
    rw [← hcur] at hr
    have hcs : cur.size = G * 2 := by
      rw [hcur]
      simp [Builtin.zeroCells, Value.cells]
      omega
    clear hcur hGG
    have hp : (0 : Int) < (n : Int) := by omega
    have hG' := hG
    unfold maxLen at hG'
    go_enter Try.func112, Try.ntmps112
    go_wp2_with (at_builtin; refine Go.Lib.wpList_append_run _ rfl _ _ _ _ rfl _ _ rfl rfl _ _ hr ?_)
    go_ret
    refine ⟨_, G, rfl, owns_fresh (cur := cur) (Nat.le_refl _) (by show (w.alloc _).heap[w.heap.size]? = _; exact heap_alloc_new _ _) hG hcs, ?_⟩
    exact (Below.refl _ w).drew.alloc (by simp) _

set_option maxHeartbeats 4000000 in
theorem concatT_any (g cm : Nat) (srcs : List Src) (w : World) (fr : Nat × Nat) (hg : w.heap[g]? = some (.cells (srcs.map Src.val).toArray 22 fr)) (hs : ∀ s, s ∈ srcs → SrcIn w 2 s) (hm : srcs.length ≤ 10) (hn : tot srcs ≤ 100000) :
    Calls Try.prog 103 #[.slice (some ⟨g, 0, none⟩) srcs.length cm] w fun e w' => ∃ va vc, e = .returned (.slice va (tot srcs) vc) ∧ w'.ownsRow w.heap.size 24 2 (.slice va (tot srcs) vc) (tot srcs) (srcs.flatMap (·.xs)) ∧ Below w.heap.size w w' := by
  obtain ⟨i0, hi0, hz0, hz1, hz2⟩ := info_parts Try.infoTree
  have hcell : ∀ i s, srcs[i]? = some s → w.cell? ⟨g, i, none⟩ = some (.slice s.a s.n s.c) := fun i s hi => by
    rw [cell_of_row _ _ i _ _ _ hg]
    simp [hi, Src.val]
  have hgw : g < w.heap.size := by
    rcases Nat.lt_or_ge g w.heap.size with h | h
    · exact h
    · rw [Array.getElem?_eq_none h] at hg
      cases hg
  clear hg
  have HS := hide hs
  have HC := hide hcell
  clear hs hcell
  go_enter Try.func103, Try.ntmps103
  go_wp2_with fail
  go_loopg [3, 11] srcs.length (fun gk v3 v11 wr => ∃ i : Nat, gk = srcs.length - i ∧ i ≤ srcs.length ∧ v3 = .int .i64 (tot (srcs.take i) : Nat) ∧ v11 = .int .i64 (i : Nat) ∧ wr = w)
  case atStart => exact ⟨0, rfl, Nat.zero_le _, by simp [tot], rfl, rfl⟩
  case round =>
    obtain ⟨i, hgk, hi, rfl, rfl, hwr⟩ := hrel
    obtain ⟨wA, hwA⟩ : ∃ wA, wA = wr := ⟨_, rfl⟩
    rw [← hwA]
    have hwB : wA = w := hwA.trans hwr
    clear hwA hwr
    subst hwB
    by_cases hin : i < srcs.length
    · obtain ⟨sa, sn, sc, hc, B, hw, hneg, HT⟩ : ∃ sa sn sc, wA.cell? ⟨g, i, none⟩ = some (.slice sa sn sc) ∧ ∃ B : Nat, wrap64 ((tot (srcs.take i) : Int) + (sn : Int)) = (B : Int) ∧ decide ((B : Int) < 0) = false ∧ Hid (tot (srcs.take (i + 1)) = B) := by
        obtain ⟨s, hsi⟩ : ∃ s, srcs[i]? = some s := ⟨_, List.getElem?_eq_getElem hin⟩
        have ht : tot (srcs.take (i + 1)) = tot (srcs.take i) + s.n := by
          rw [List.take_succ_eq_append_getElem hin, tot_append, show srcs[i] = s by simpa [List.getElem?_eq_getElem hin] using hsi]
          simp [tot]
        have hle := tot_take srcs (i + 1)
        exact ⟨s.a, s.n, s.c, HC.out i s hsi, _, wrap_sum _ _ (by omega), by simp <;> omega, ht⟩
      obtain ⟨A, hA⟩ : ∃ A, A = tot (srcs.take i) := ⟨_, rfl⟩
      rw [← hA] at hw ⊢
      clear hA
      go_wp2_with fail
      go_roundg (srcs.length - (i + 1))
      case measure => omega
      case rel => exact ⟨i + 1, rfl, by omega, by rw [HT.out, hw], by go_num, rfl⟩
    · have hie : i = srcs.length := by omega
      subst hie
      rw [List.take_length]
      clear hgk
      go_wp2_with fail
      refine (growT_any (tot srcs) hn _).mono ?_
      rintro e w1 ⟨va0, vc0, rfl, hown0, hb0⟩
      have HO := hide hown0
      clear hown0
      go_wp2_with fail
      go_loopg [6, 27] srcs.length (fun gk v6 v27 wx => ∃ (i : Nat) (va : Option Addr) (vc : Nat), gk = srcs.length - i ∧ i ≤ srcs.length ∧ v6 = .slice va (tot (srcs.take i)) vc ∧ v27 = .int .i64 (i : Nat) ∧ wx.ownsRow wA.heap.size 24 2 (.slice va (tot (srcs.take i)) vc) (tot (srcs.take i)) ((srcs.take i).flatMap (·.xs)) ∧ Below wA.heap.size wA wx)
      case atStart => exact ⟨0, va0, vc0, rfl, Nat.zero_le _, by simp [tot], rfl, by simpa [tot] using HO.out, hb0⟩
      case round =>
        obtain ⟨wx, hwx⟩ : ∃ wx, wx = wr := ⟨_, rfl⟩
        subst hwx
        obtain ⟨i, va, vc, hgk, hi, rfl, rfl, hown, hb⟩ := hrel
        by_cases hin2 : i < srcs.length
        · obtain ⟨s, hsi⟩ : ∃ s, srcs[i]? = some s := ⟨_, List.getElem?_eq_getElem hin2⟩
          have hc : wx.cell? ⟨g, i, none⟩ = some (.slice s.a s.n s.c) := by rw [hb.cell hgw]; exact HC.out i s hsi
          have htk : srcs.take (i + 1) = srcs.take i ++ [s] := by rw [List.take_succ_eq_append_getElem hin2, show srcs[i] = s by simpa [List.getElem?_eq_getElem hin2] using hsi]
          have hle := tot_take srcs (i + 1)
          rw [htk, tot_append] at hle
          simp only [tot] at hle
          obtain ⟨va', vc', w', hr, hown', hb'⟩ := append_src (P := Try.prog) wx 22 24 i0 _ 2 40 Try.underlying22 hi0 hz0 hz1 hz2 rfl (by decide) hown ((HS.out s (List.mem_of_getElem? hsi)).below hb) (by unfold maxLen; omega) (by omega) hb.size
          have HK := hide (And.intro hown' (hb.trans hb'))
          have HT := hide htk
          unfold Src.val at hr
          clear hown' hb' htk hsi hown
          go_wp2_with (at_builtin; refine Go.Lib.wpList_append_run _ rfl _ _ _ _ rfl _ _ rfl rfl _ _ hr ?_)
          go_roundg (srcs.length - (i + 1))
          case measure => omega
          case rel =>
            refine ⟨i + 1, va', vc', rfl, by omega, ?_, by go_num, ?_, HK.out.2⟩
            · rw [HT.out, tot_append]
              simp [tot]
            · rw [HT.out, tot_append, List.flatMap_append]
              simpa [tot] using HK.out.1
        · have hie : i = srcs.length := by omega
          subst hie
          rw [List.take_length] at hown ⊢
          have HK := hide hown
          clear hown hgk
          go_wp2_with fail
          go_ret
          exact ⟨va, vc, rfl, HK.out, hb⟩
end Go.Proofs.Ytcknganggcbkjab.Deed
