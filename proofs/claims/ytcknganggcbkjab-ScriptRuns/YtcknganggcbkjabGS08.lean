/- OwnList of package pleachingref makes a list of trees anew, in memory of its own. Of the program's text. -/
/- Deeds done along a path, step by step; and lists of trees in memory of one's own, in which one is put in another one's place, or others behind. Of no program. -/
/- A node of a tree in memory, by its path, and what the tree is when that node alone has turned in its place. Of no program. -/
import Derived.Test.YtcknganggcbkjabProg
import Derived.Test.YtcknganggcbkjabGS06
import Derived.Test.YtcknganggcbkjabGS07
import Derived.Test.YtcknganggcbkjabGS04
import Derived.Test.YtcknganggcbkjabGS01
namespace Go.Proofs.Ytcknganggcbkjab.Deed
open Go.Deep Go.RowKit
set_option linter.unusedVariables false
set_option maxRecDepth 20000

theorem bares (L : List It) : ∀ x, x ∈ L.map bareIt → Bare x.2 := fun x hx => by
  obtain ⟨it, _, rfl⟩ := List.mem_map.1 hx
  exact strip_strip _
theorem bares_of {L : List It} {k : Fo} (h : strip (joinF L .nil) = strip k) : L.map bareIt = gsF k := by
  rw [strip_join] at h
  rw [← gs_toFo _ (bares L), h, gs_strip]

/-- What OwnList comes to. -/
def OwnLEnd (l : Gs) (w : World) (e : Ending) (w' : World) : Prop := ∃ va vc L, e = .returned (.slice va (List.length (α := It) L) vc) ∧ KInv 24 w.heap.size w' (.slice va L.length vc) L ∧ L.map bareIt = l ∧ Below w.heap.size w w'

set_option maxHeartbeats 800000 in
theorem ownListK_any (k : Fo) (ka : Option Addr) (cap : Nat) (w : World) (hn : fnodes k < 99999) (hk : KIn w ka k) :
    Calls Try.prog 53 #[.slice ka (flen k) cap] w (OwnLEnd (gsF k) w) := by
  have hlk := flen_le_nodes k
  obtain ⟨i24, hi24, hz0, hz1, hz2⟩ := info_parts Try.infoTree
  go_enter Try.func53, Try.ntmps53
  go_wp2_with fail
  go_loopw [3, 4] (fun v i wr => ∃ (j : Nat) (L : List It), j ≤ flen k ∧ i = .int .i64 j ∧ OwnInv 24 w.heap.size wr k v j L ∧ Below w.heap.size w wr) (fun _ i _ => flen k - (intOf i).toNat)
  case atStart => exact ⟨0, [], Nat.zero_le _, rfl, ⟨rfl, rfl, fun _ h => (by simp at h), List.nodup_nil, rfl, Or.inl ⟨rfl, rfl⟩⟩, Below.refl _ _⟩
  case round =>
    obtain ⟨j, L, hj, rfl, hF, hb⟩ := hrel
    obtain ⟨hcell, hfr⟩ := bcell hb
    by_cases hlt : j < flen k
    · rcases hk with rfl | ⟨kb, ko, rfl, hk⟩
      · exact absurd hlt (Nat.not_lt_zero _)
      obtain ⟨b', o', x, kk, he, hc0, hc1, htin, hbb⟩ := hk.at hlt
      have HE := hide he
      clear he
      have hn2 : fnodes kk < 99999 := by have := fnodes_of_drop HE.out; omega
      go_wp2_with fail
      refine (refOwn_any _ _ _ _ _ hn2 (htin.below hb)).mono ?_
      rintro e w1 ⟨ka', cap', k', rfl, hst, ht1, hfr1, hpl1, hnd1, hb1⟩
      have HST := hide hst
      clear hst
      have hz := Nat.le_trans hb.size hb1.size
      go_wp2_with (at_builtin; refine wpList_append_lies _ rfl (.tmp 11) (.tmp 17) 22 rfl w.heap.size 24 i24 _ 2 40 Try.underlying22 hi24 hz0 hz1 hz2 rfl (by decide) _ j (rowCells L) rfl (ownsRow_below (hF.below hb1).row ((Below.refl _ _).alloc (Nat.le_refl _) _)) ⟨w1.heap.size, 0, none⟩ 1 1 (itCells (x.1, ka', cap', k')) rfl rfl (own_news w1 24 (x.1, ka', cap', k')) (own_one _) (by decide) (by unfold maxLen; omega) (by omega) (by simp; omega) (w1.heap.size + 1) (by simp) ?_)
      intro g cap2 w3 hown hgrow hat hlt3
      have hF3 := hF.step hb1 HE.out HST.out ht1 hpl1 hnd1 hfr1 hb.size hown hgrow hat
      have hb3 : Below w.heap.size w w3 := ((hb.trans (hb1.mono hb.size)).alloc hz _).grown hgrow (by simp; omega) fun q hq => (ownBlock_lt hF.row hq).1
      clear hgrow hown
      go_wp2_with fail
      go_roundw
      case rel => exact ⟨j + 1, _, by omega, by go_num, hF3, hb3⟩
      case measure => simp [intOf]; omega
    · have hje : j = flen k := by omega
      have hL := hF.long
      obtain ⟨va, vc, hv⟩ : ∃ va vc, u3 = .slice va L.length vc := by
        rcases hF.row.2 with ⟨hv, h0⟩ | ⟨g, c, cur, hv, _⟩
        · exact ⟨none, 0, by rw [hv, hL, h0]⟩
        · exact ⟨_, c, by rw [hv, hL]⟩
      subst hv
      have HK := hide (show KInv 24 w.heap.size wr (.slice va L.length vc) L from ⟨hF.each, by have := hF.row; rw [← hL] at this; exact this⟩)
      have ht := hF.told
      rw [fdrop_end j k (by omega)] at ht
      have HS := hide (bares_of ht)
      clear hF hcell hfr ht hje hL
      go_wp2_with fail
      go_ret
      exact ⟨va, vc, L, rfl, HK.out, HS.out, hb⟩
end Go.Proofs.Ytcknganggcbkjab.Deed
namespace Go.Proofs.Ytcknganggcbkjab.Deed
open Go.Deep Go.RowKit
set_option linter.unusedVariables false
set_option maxRecDepth 20000

def ftake : Nat → Fo → Fo
  | 0, _ => .nil
  | _ + 1, .nil => .nil
  | n + 1, .node b o x k r => .node b o x k (ftake n r)
theorem FIn.take {w : World} : ∀ (n : Nat) {f : Fo} {b o : Nat}, FIn w f b o → FIn w (ftake n f) b o
  | 0, _, _, _, _ => trivial
  | _ + 1, .nil, _, _, _ => trivial
  | n + 1, .node _ _ _ _ r, b, o, ⟨h1, h2, h3, h4, h5, h6, h7, h8, h9⟩ => ⟨h1, h2, h3, h4, h5, h6, h7, h8, FIn.take n h9⟩
theorem flen_take : ∀ (n : Nat) (f : Fo), n ≤ flen f → flen (ftake n f) = n
  | 0, _, _ => rfl
  | _ + 1, .nil, h => by simp [flen] at h
  | n + 1, .node _ _ _ _ r, h => by simp [ftake, flen, flen_take n r (by simpa [flen] using h)]
theorem gs_take : ∀ (n : Nat) (f : Fo), gsF (ftake n f) = (gsF f).take n
  | 0, _ => by simp [ftake, gsF]
  | _ + 1, .nil => by simp [ftake, gsF]
  | n + 1, .node _ _ _ _ r => by simp [ftake, gsF, gs_take n r]
theorem gs_drop : ∀ (n : Nat) (f : Fo), gsF (fdrop n f) = (gsF f).drop n
  | 0, _ => by simp [fdrop]
  | _ + 1, .nil => by simp [fdrop, gsF]
  | n + 1, .node _ _ _ _ r => by simp [fdrop, gsF, gs_drop n r]
theorem fnodes_take : ∀ (n : Nat) (f : Fo), fnodes (ftake n f) ≤ fnodes f
  | 0, _ => Nat.zero_le _
  | _ + 1, .nil => Nat.le_refl _
  | n + 1, .node _ _ _ _ r => by
    have := fnodes_take n r
    simp only [ftake, fnodes]
    omega
theorem fnodes_drop : ∀ (n : Nat) (f : Fo), fnodes (fdrop n f) ≤ fnodes f
  | 0, _ => Nat.le_refl _
  | _ + 1, .nil => Nat.le_refl _
  | n + 1, .node _ _ _ _ r => by
    have := fnodes_drop n r
    simp only [fdrop, fnodes]
    omega
theorem gs_node {k : Fo} {j b o : Nat} {x : ByteArray × Option Addr × Nat} {kk r : Fo} (h : fdrop j k = .node b o x kk r) : (gsF k)[j]? = some (x.1, strip kk) := by
  have h1 := gs_drop j k
  rw [h] at h1
  have : ((gsF k).drop j)[0]? = some (x.1, strip kk) := by rw [← h1]; rfl
  simpa using this

/-- What is done at the end of a rest of the path. -/
def doneR (d : Dd) (rest : List Int) : Op := if d.kind = 1 then modP (namOp d.lab) (nats rest) else if d.kind = 2 then modP (delOp (nats rest).getLast!) (nats rest).dropLast else modP (insOp d.pos.toNat d.many.toNat d.lab) (nats rest)
theorem doneR_all (d : Dd) : doneR d d.path = doneP d := rfl
/-- Is the node at hand the one? -/
def isLast (d : Dd) (rest : List Int) : Prop := if d.kind = 2 then rest.length = 1 else rest = []
theorem modP_cons (op : Op) (p : Nat) (ps : List Nat) (s : ByteArray) (k : Fo) : modP op (p :: ps) s k = match (gsF k)[p]? with
    | none => (7, s, k)
    | some x => ((modP op ps x.1 x.2).1, s, toFo ((gsF k).set p (modP op ps x.1 x.2).2)) := rfl
theorem doneR_step {d : Dd} {p : Int} {ps : List Int} (h : ¬ isLast d (p :: ps)) (s : ByteArray) (k : Fo) : doneR d (p :: ps) s k = match (gsF k)[p.toNat]? with
    | none => (7, s, k)
    | some x => ((doneR d ps x.1 x.2).1, s, toFo ((gsF k).set p.toNat (doneR d ps x.1 x.2).2)) := by
  unfold doneR
  by_cases h1 : d.kind = 1
  · simp only [if_pos h1]
    exact modP_cons _ _ _ _ _
  · simp only [if_neg h1]
    by_cases h2 : d.kind = 2
    · simp only [if_pos h2]
      have hne : ps ≠ [] := fun e => h (by unfold isLast; rw [if_pos h2, e]; rfl)
      obtain ⟨q, qs, rfl⟩ : ∃ q qs, ps = q :: qs := by
        cases ps with
        | nil => exact absurd rfl hne
        | cons q qs => exact ⟨q, qs, rfl⟩
      have e1 : (nats (p :: q :: qs)).getLast! = (nats (q :: qs)).getLast! := by simp [nats, List.getLast!, List.getLast_cons]
      have e2 : (nats (p :: q :: qs)).dropLast = p.toNat :: (nats (q :: qs)).dropLast := rfl
      rw [e1, e2]
      exact modP_cons _ _ _ _ _
    · simp only [if_neg h2]
      exact modP_cons _ _ _ _ _
theorem doneR_name {d : Dd} (h : d.kind = 1) (s : ByteArray) (k : Fo) : doneR d [] s k = (0, d.lab, strip k) := by
  unfold doneR
  rw [if_pos h]
  rfl
theorem doneR_del {d : Dd} (h : d.kind = 2) (p : Int) (s : ByteArray) (k : Fo) : doneR d [p] s k = delOp p.toNat s k := by
  unfold doneR
  rw [if_neg (by omega), if_pos h]
  rfl
theorem doneR_ins {d : Dd} (h : d.kind = 3) (s : ByteArray) (k : Fo) : doneR d [] s k = insOp d.pos.toNat d.many.toNat d.lab s k := by
  unfold doneR
  rw [if_neg (by omega), if_neg (by omega)]
  rfl

/-- One tree of a list of one's own gives its place to another one. -/
theorem KInv.put {T B : Nat} {w : World} {g n cap p : Nat} {L : List It} {x : It} (h : KInv T B w (.slice (some ⟨g, 0, none⟩) n cap) L) (hn : L.length = n) (hp : p < n) (hx : ItIn w x) (hf : FFrom B x.2.2.2) (hq : FPlain w x.2.2.2) (ho : FOff g x.2.2.2) :
    KInv T B ((w.setCell ⟨g, p * 2, none⟩ (.string x.1)).setCell ⟨g, p * 2 + 1, none⟩ (.slice x.2.1 (flen x.2.2.2) x.2.2.1)) (.slice (some ⟨g, 0, none⟩) n cap) (L.set p x) := by
  subst hn
  have hbut := set2_but w g (p * 2) (p * 2 + 1) (.string x.1) (.slice x.2.1 (flen x.2.2.2) x.2.2.1)
  refine ⟨fun it hi => ?_, ?_⟩
  · rcases List.mem_or_eq_of_mem_set hi with hi | rfl
    · obtain ⟨h1, h2, h3, h4⟩ := h.each it hi
      have h5 := h4 g rfl
      exact ⟨TIn.but hbut h5 h1, h2, FPlain.but hbut h5 h3, h4⟩
    · refine ⟨TIn.but hbut ho hx, hf, FPlain.but hbut ho hq, fun g' hg' => ?_⟩
      simp only [Value.ownBlock, Option.some.injEq] at hg'
      subst hg'
      exact ho
  · have hr := own_setN (Value.slice x.2.1 (flen x.2.2.2) x.2.2.1) (own_setN (Value.string x.1) h.row (j := p * 2) (by omega)) (j := p * 2 + 1) (by omega)
    have e : ((rowCells L).set (p * 2) (.string x.1)).set (p * 2 + 1) (.slice x.2.1 (flen x.2.2.2) x.2.2.1) = rowCells (L.set p x) := by
      clear hr hbut h hx hf hq ho
      induction L generalizing p with
      | nil => simp at hp
      | cons a L ih =>
        cases p with
        | zero => simp [rowCells, itCells]
        | succ p =>
          have := ih (p := p) (by simpa using hp)
          rw [show (p + 1) * 2 = p * 2 + 2 by omega]
          simpa [rowCells, itCells] using this
    rw [e] at hr
    rw [List.length_set]
    exact hr
theorem map_set (L : List It) (p : Nat) (x : It) : (L.set p x).map bareIt = (L.map bareIt).set p (bareIt x) := List.map_set
/-- A list of one's own, and another one behind. -/
theorem KInv.join {T B : Nat} {w1 w3 : World} {v : Value} {L L2 : List It} {g cap : Nat} (h : KInv T B w1 v L) (h2 : ∀ it, it ∈ L2 → ItIn w1 it ∧ FFrom B it.2.2.2 ∧ FPlain w1 it.2.2.2 ∧ ∀ g, v.ownBlock = some g → FOff g it.2.2.2)
    (hown : w3.ownsRow B T 2 (.slice (some ⟨g, 0, none⟩) (L.length + L2.length) cap) (L.length + L2.length) (rowCells L ++ rowCells L2)) (hgrow : w1.grownBy w3 v.ownBlock) (hat : v.ownBlock = some g ∨ g = w1.heap.size) :
    KInv T B w3 (.slice (some ⟨g, 0, none⟩) (L.length + L2.length) cap) (L ++ L2) := by
  have hsame : ∀ b, b < w1.heap.size → some b ≠ v.ownBlock → w3.heap[b]? = w1.heap[b]? := fun b hlt hne => hgrow.block b hlt hne
  have keep : ∀ it : It, (ItIn w1 it ∧ FFrom B it.2.2.2 ∧ FPlain w1 it.2.2.2 ∧ ∀ g, v.ownBlock = some g → FOff g it.2.2.2) → ItIn w3 it ∧ FFrom B it.2.2.2 ∧ FPlain w3 it.2.2.2 ∧ ∀ g', (Value.slice (some ⟨g, 0, none⟩) (L.length + L2.length) cap).ownBlock = some g' → FOff g' it.2.2.2 := fun it ⟨hi, hf, hq, hoff⟩ => by
    refine ⟨?_, hf, ?_, fun g' hg' => ?_⟩
    · cases hv : v.ownBlock with
      | none => exact TIn.but (g := w1.heap.size) (fun b hlt _ => hsame b hlt (by rw [hv]; simp)) (hi.kids.off (Nat.le_refl _)) hi
      | some g0 => exact TIn.but (g := g0) (fun b hlt hne => hsame b hlt (by rw [hv]; simpa using hne)) (hoff g0 hv) hi
    · cases hv : v.ownBlock with
      | none => exact FPlain.but (g := w1.heap.size) (fun b hlt _ => hsame b hlt (by rw [hv]; simp)) (hi.kids.off (Nat.le_refl _)) hq
      | some g0 => exact FPlain.but (g := g0) (fun b hlt hne => hsame b hlt (by rw [hv]; simpa using hne)) (hoff g0 hv) hq
    · simp only [Value.ownBlock, Option.some.injEq] at hg'
      subst hg'
      rcases hat with hat | hat
      · exact hoff _ hat
      · exact hi.kids.off (by omega)
  have rc : ∀ a b : List It, rowCells (a ++ b) = rowCells a ++ rowCells b := fun a b => by
    induction a with
    | nil => rfl
    | cons x a ih => simp [rowCells, ih]
  refine ⟨fun it hi => ?_, by rw [rc, List.length_append]; exact hown⟩
  rcases List.mem_append.1 hi with hi | hi
  · exact keep it (h.each it hi)
  · exact keep it (h2 it hi)
theorem KInv.below {T B : Nat} {w w' : World} {v : Value} {L : List It} (h : KInv T B w v L) (hb : Below w.heap.size w w') : KInv T B w' v L :=
  ⟨fun it hi => ⟨TIn.below hb (h.each it hi).1, (h.each it hi).2.1, (h.each it hi).2.2.1.below hb, (h.each it hi).2.2.2⟩, ownsRow_below h.row hb⟩
theorem KInv.lower {T B B' : Nat} {w : World} {v : Value} {L : List It} (h : KInv T B w v L) (hB : B' ≤ B) : KInv T B' w v L :=
  ⟨fun it hi => ⟨(h.each it hi).1, (h.each it hi).2.1.mono hB, (h.each it hi).2.2⟩, h.row.1, by
    rcases h.row.2 with h2 | ⟨g, cap, cur, hv, hg, r⟩
    · exact Or.inl h2
    · exact Or.inr ⟨g, cap, cur, hv, by omega, r⟩⟩
end Go.Proofs.Ytcknganggcbkjab.Deed
namespace Go.Proofs.Ytcknganggcbkjab.Deed
open Go.Deep Go.RowKit
set_option linter.unusedVariables false
set_option maxRecDepth 20000

/-- A node in memory: where it lies, its label, its kids' address and capacity, its kids. -/
structure Nd where
  b : Nat
  o : Nat
  s : ByteArray
  ka : Option Addr
  cap : Nat
  k : Fo
structure NodIn (w : World) (n : Nd) : Prop where
  c0 : w.cell? ⟨n.b, n.o, none⟩ = some (.string n.s)
  c1 : w.cell? ⟨n.b, n.o + 1, none⟩ = some (.slice n.ka (flen n.k) n.cap)
  tin : TIn w n.s n.ka n.cap n.k
/-- No two of its lists share memory. -/
structure NodOne (n : Nd) : Prop where
  out : ¬ n.b ∈ ab n.k
  nd : (ab n.k).Nodup

def kidN (p : Nat) (k : Fo) : Option Nd := match fdrop p k with
  | .nil => none
  | .node b o x kk _ => some ⟨b, o, x.1, x.2.1, x.2.2, kk⟩
def nAt : List Nat → Nd → Option Nd
  | [], n => some n
  | p :: ps, n => match kidN p n.k with
    | none => none
    | some m => nAt ps m
/-- The label and the kids of the tree at a place are other ones. -/
def fput (m : Nd) : Nat → Fo → Fo
  | _, .nil => .nil
  | 0, .node b o _ _ r => .node b o (m.s, m.ka, m.cap) m.k r
  | p + 1, .node b o x k r => .node b o x k (fput m p r)
def nSet (x : It) : List Nat → Nd → Nd
  | [], n => ⟨n.b, n.o, x.1, x.2.1, x.2.2.1, x.2.2.2⟩
  | p :: ps, n => match kidN p n.k with
    | none => n
    | some m => ⟨n.b, n.o, n.s, n.ka, n.cap, fput (nSet x ps m) p n.k⟩

theorem nSet_b (x : It) (ps : List Nat) (n : Nd) : (nSet x ps n).b = n.b ∧ (nSet x ps n).o = n.o := by
  cases ps with
  | nil => exact ⟨rfl, rfl⟩
  | cons p ps =>
    unfold nSet
    cases kidN p n.k with
    | none => exact ⟨rfl, rfl⟩
    | some m => exact ⟨rfl, rfl⟩
theorem flen_fput (m : Nd) : ∀ (p : Nat) (k : Fo), flen (fput m p k) = flen k
  | 0, .nil => rfl
  | _ + 1, .nil => rfl
  | 0, .node _ _ _ _ _ => rfl
  | p + 1, .node _ _ _ _ r => by simp [fput, flen, flen_fput m p r]
theorem gs_fput (m : Nd) : ∀ (p : Nat) (k : Fo), gsF (fput m p k) = (gsF k).set p (m.s, strip m.k)
  | 0, .nil => rfl
  | _ + 1, .nil => rfl
  | 0, .node _ _ _ _ _ => rfl
  | p + 1, .node _ _ _ _ r => by simp [fput, gsF, gs_fput m p r]
theorem kidN_some {p : Nat} {k : Fo} {m : Nd} (h : kidN p k = some m) : p < flen k ∧ fdrop p k = .node m.b m.o (m.s, m.ka, m.cap) m.k (fdrop (p + 1) k) := by
  unfold kidN at h
  have hp : p < flen k := by
    rcases Nat.lt_or_ge p (flen k) with hp | hp
    · exact hp
    · rw [fdrop_end p k hp] at h
      cases h
  obtain ⟨b, o, x, kk, e⟩ := fdrop_node p k hp
  rw [e] at h
  simp only [Option.some.injEq] at h
  subst h
  exact ⟨hp, e⟩
theorem kidN_none {p : Nat} {k : Fo} (h : kidN p k = none) : flen k ≤ p := by
  rcases Nat.lt_or_ge p (flen k) with hp | hp
  · obtain ⟨b, o, x, kk, e⟩ := fdrop_node p k hp
    unfold kidN at h
    rw [e] at h
    cases h
  · exact hp
theorem kidN_of {p : Nat} {k : Fo} (h : p < flen k) : ∃ m, kidN p k = some m := by
  cases e : kidN p k with
  | none => have := kidN_none e; omega
  | some m => exact ⟨m, rfl⟩
theorem kid_gs {p : Nat} {k : Fo} {m : Nd} (h : kidN p k = some m) : (gsF k)[p]? = some (m.s, strip m.k) := gs_node (kidN_some h).2
theorem FIn.at' {w : World} : ∀ (p : Nat) {f : Fo} {b o : Nat}, FIn w f b o → FIn w (fdrop p f) b (o + 2 * p)
  | 0, _, _, _, h => h
  | _ + 1, .nil, _, _, _ => trivial
  | p + 1, .node _ _ _ _ r, b, o, h => by
    have := FIn.at' p h.head.2.2.2
    rwa [show o + 2 + 2 * p = o + 2 * (p + 1) by omega] at this
theorem kid_in {w : World} {n m : Nd} {p : Nat} (h : NodIn w n) (hk : kidN p n.k = some m) : NodIn w m ∧ ∃ kb ko, n.ka = some ⟨kb, ko, none⟩ ∧ FIn w n.k kb ko ∧ m.b = kb ∧ m.o = ko + 2 * p := by
  obtain ⟨hp, he⟩ := kidN_some hk
  rcases h.tin.kids with h0 | ⟨kb, ko, e, hf⟩
  · rw [h0] at hp
    simp [flen] at hp
  · have hd := FIn.at' p hf
    rw [he] at hd
    have e1 : m.b = kb := hd.1
    have e2 : m.o = ko + 2 * p := hd.2.1
    obtain ⟨h1, h2, h3, _⟩ := hd.head
    refine ⟨⟨by rw [e1, e2]; exact h1, by rw [e1, e2]; exact h2, h3⟩, kb, ko, e, hf, e1, e2⟩

/-- The blocks beneath the other trees of a list. -/
def lbBut : Nat → Fo → List Nat
  | _, .nil => []
  | 0, .node _ _ _ _ r => lb r
  | p + 1, .node _ _ _ k r => ab k ++ lbBut p r
theorem lb_split {m : Nd} : ∀ {p : Nat} {k : Fo}, kidN p k = some m → (lb k).Perm (ab m.k ++ lbBut p k)
  | 0, .nil, h => by simp [kidN, fdrop] at h
  | _ + 1, .nil, h => by simp [kidN, fdrop] at h
  | 0, .node _ _ _ _ r, h => by
    simp only [kidN, fdrop, Option.some.injEq] at h
    subst h
    simp only [lb, lbBut, ab]
    exact List.Perm.refl _
  | p + 1, .node _ _ _ k r, h => by
    have ih := lb_split (p := p) (k := r) (by simpa [kidN, fdrop] using h)
    simp only [lb, lbBut]
    refine (ih.append_left _).trans ?_
    show List.Perm (ab k ++ (ab m.k ++ lbBut p r)) _
    rw [← List.append_assoc, ← List.append_assoc]
    exact List.perm_append_comm.append_right _
theorem off_of {w : World} {g : Nat} : ∀ {f : Fo} {b o : Nat}, FIn w f b o → g ≠ b → ¬ g ∈ lb f → FOff g f
  | .nil, _, _, _, _, _ => trivial
  | .node b' _ x k r, b, o, hf, hg, hn => by
    simp only [lb, List.mem_append, not_or] at hn
    have hb' : b' = b := hf.1
    refine ⟨by omega, ?_, off_of hf.head.2.2.2 hg hn.2⟩
    cases k with
    | nil => trivial
    | node b2 o2 y k2 r2 =>
      rcases hf.head.2.2.1.kids with h0 | ⟨kb, ko, e, hk⟩
      · cases h0
      · have : b2 = kb := hk.1
        exact off_of hk (fun e => hn.1.1 (by simp [hb]; omega)) hn.1.2

/-- One node alone has turned in its place; all else that there was is as it was. -/
structure Chg (w w' : World) (c oo : Nat) : Prop where
  same : ∀ q, q < w.heap.size → q ≠ c → w'.heap[q]? = w.heap[q]?
  cell : ∀ o', o' ≠ oo → o' ≠ oo + 1 → w'.cell? ⟨c, o', none⟩ = w.cell? ⟨c, o', none⟩
theorem Chg.at {w w' : World} {c oo b o : Nat} {u : Value} (h : Chg w w' c oo) (hc : w.cell? ⟨b, o, none⟩ = some u) (hn : b = c → o ≠ oo ∧ o ≠ oo + 1) : w'.cell? ⟨b, o, none⟩ = some u := by
  by_cases e : b = c
  · obtain ⟨h1, h2⟩ := hn e
    subst e
    rw [h.cell o h1 h2]
    exact hc
  · have := h.same b (World.block_lt_of_cell? _ _ hc) e
    rw [World.cell?_of_block (w := w) this]
    exact hc
theorem Chg.kids {w w' : World} {c oo : Nat} {ka : Option Addr} {k : Fo} (h : Chg w w' c oo) (hk : KIn w ka k) (hn : ¬ c ∈ ab k) : KIn w' ka k := by
  rcases hk with h0 | ⟨kb, ko, e, hf⟩
  · exact Or.inl h0
  · refine Or.inr ⟨kb, ko, e, ?_⟩
    cases k with
    | nil => trivial
    | node b2 o2 x kk r =>
      have : b2 = kb := hf.1
      simp only [ab, List.mem_append, not_or] at hn
      exact FIn.but h.same (off_of hf (fun e => hn.1 (by simp [hb]; omega)) hn.2) hf
/-- A list whose own cells are as they were. -/
theorem Chg.list {w w' : World} {c oo : Nat} (h : Chg w w' c oo) : ∀ {f : Fo} {b o : Nat}, FIn w f b o → (b = c → oo + 1 < o ∨ o + 2 * flen f ≤ oo) → ¬ c ∈ lb f → FIn w' f b o
  | .nil, _, _, _, _, _ => trivial
  | .node b' o' x k r, b, o, ⟨h1, h2, h3, h4, h5, h6, h7, h8, h9⟩, hn, hl => by
    simp only [lb, List.mem_append, not_or] at hl
    simp only [flen] at hn
    refine ⟨h1, h2, h.at h3 (fun e => ?_), h.at h4 (fun e => ?_), h5, h6, h7, h.kids h8 (by simp only [ab, List.mem_append, not_or]; exact hl.1), Chg.list h h9 (fun e => ?_) hl.2⟩
    · have := hn e
      omega
    · have := hn e
      omega
    · have := hn e
      omega
theorem fin_put {w w' : World} {c oo : Nat} (h : Chg w w' c oo) {m : Nd} (hm : NodIn w' m) : ∀ (p : Nat) {f : Fo} {b o : Nat}, FIn w f b o → p < flen f → m.b = b → m.o = o + 2 * p → (b = c → oo = o + 2 * p) → ¬ c ∈ lbBut p f → FIn w' (fput m p f) b o
  | _, .nil, _, _, _, hp, _, _, _, _ => absurd hp (Nat.not_lt_zero _)
  | 0, .node b' o' x k r, b, o, ⟨h1, h2, h3, h4, h5, h6, h7, h8, h9⟩, hp, e1, e2, hc, hl => by
    have e3 : m.o = o := by simpa using e2
    refine ⟨h1, h2, ?_, ?_, hm.tin.size, hm.tin.len, hm.tin.cap, hm.tin.kids, h.list h9 (fun e => ?_) hl⟩
    · rw [← e1, ← e3]; exact hm.c0
    · rw [← e1, ← e3]; exact hm.c1
    · have := hc e
      omega
  | p + 1, .node b' o' x k r, b, o, ⟨h1, h2, h3, h4, h5, h6, h7, h8, h9⟩, hp, e1, e2, hc, hl => by
    simp only [lbBut, List.mem_append, not_or] at hl
    refine ⟨h1, h2, h.at h3 (fun e => ?_), h.at h4 (fun e => ?_), h5, h6, h7, h.kids h8 hl.1, fin_put h hm p h9 (by simpa [flen] using hp) e1 (by omega) (fun e => ?_) hl.2⟩
    · have := hc e
      omega
    · have := hc e
      omega
    · have := hc e
      omega

theorem kid_one {w : World} {n m : Nd} {p : Nat} (h : NodIn w n) (h1 : NodOne n) (hk : kidN p n.k = some m) : NodOne m ∧ (∀ q, q = m.b ∨ q ∈ ab m.k → q ∈ ab n.k ∧ ¬ q ∈ lbBut p n.k) := by
  obtain ⟨hm, kb, ko, e, hf, e1, e2⟩ := kid_in h hk
  obtain ⟨hp, he⟩ := kidN_some hk
  have hs := lb_split hk
  have hab : ab n.k = kb :: lb n.k := by
    cases hk' : n.k with
    | nil => rw [hk'] at hp; simp [flen] at hp
    | node b2 _ _ _ _ =>
      rw [hk'] at hf
      have : b2 = kb := hf.1
      subst this
      rfl
  have hnd := h1.nd
  rw [hab, List.nodup_cons] at hnd
  have hnd2 := hs.nodup_iff.1 hnd.2
  rw [List.nodup_append] at hnd2
  have hout : ¬ kb ∈ ab m.k := fun h => hnd.1 (hs.mem_iff.2 (List.mem_append.2 (Or.inl h)))
  refine ⟨⟨by rw [e1]; exact hout, hnd2.1⟩, fun q hq => ?_⟩
  rw [hab]
  rcases hq with rfl | hq
  · rw [e1]
    exact ⟨List.mem_cons_self .., fun h => hnd.1 (hs.mem_iff.2 (List.mem_append.2 (Or.inr h)))⟩
  · exact ⟨List.mem_cons_of_mem _ (hs.mem_iff.2 (List.mem_append.2 (Or.inl hq))), fun h => hnd2.2.2 q hq q h rfl⟩
theorem nAt_in {w : World} : ∀ (ps : List Nat) {n m : Nd}, NodIn w n → NodOne n → nAt ps n = some m → NodIn w m ∧ NodOne m ∧ (m.b = n.b ∧ ps = [] ∨ m.b ∈ ab n.k)
  | [], n, m, h, h1, ha => by
    simp only [nAt, Option.some.injEq] at ha
    subst ha
    exact ⟨h, h1, Or.inl ⟨rfl, rfl⟩⟩
  | p :: ps, n, m, h, h1, ha => by
    unfold nAt at ha
    cases hk : kidN p n.k with
    | none => rw [hk] at ha; cases ha
    | some m' =>
      rw [hk] at ha
      obtain ⟨a1, a2⟩ := kid_one h h1 hk
      obtain ⟨b1, b2, b3⟩ := nAt_in ps (kid_in h hk).1 a1 ha
      refine ⟨b1, b2, Or.inr ?_⟩
      rcases b3 with ⟨b3, _⟩ | b3
      · exact (a2 m.b (Or.inl b3)).1
      · exact (a2 m.b (Or.inr b3)).1
/-- The node at a path has turned in its place: so has the tree. -/
theorem upd {w w' : World} {x : It} : ∀ (ps : List Nat) {n m : Nd}, NodIn w n → NodOne n → nAt ps n = some m → Chg w w' m.b m.o → NodIn w' (nSet x [] m) → NodIn w' (nSet x ps n)
  | [], n, m, h, h1, ha, hc, hm => by
    simp only [nAt, Option.some.injEq] at ha
    subst ha
    exact hm
  | p :: ps, n, m, h, h1, ha, hc, hm => by
    have hin := nAt_in (p :: ps) h h1 ha
    unfold nAt at ha
    unfold nSet
    cases hk : kidN p n.k with
    | none => rw [hk] at ha; cases ha
    | some m' =>
      rw [hk] at ha
      simp only
      obtain ⟨a1, a2⟩ := kid_one h h1 hk
      obtain ⟨hm', kb, ko, e, hf, e1, e2⟩ := kid_in h hk
      have ih := upd ps hm' a1 ha hc hm
      obtain ⟨b1, b2, b3⟩ := nAt_in ps hm' a1 ha
      have hne : n.b ≠ m.b := fun e => by
        rcases hin.2.2 with ⟨_, h0⟩ | h0
        · cases h0
        · exact h1.out (e ▸ h0)
      have hnb := nSet_b x ps m'
      have hlen := flen_fput (nSet x ps m') p n.k
      refine ⟨hc.at h.c0 (fun e => absurd e hne), ?_, ⟨h.tin.size, by rw [hlen]; exact h.tin.len, h.tin.cap, Or.inr ⟨kb, ko, e, ?_⟩⟩⟩
      · simp only
        rw [hlen]
        exact hc.at h.c1 (fun e => absurd e hne)
      · refine fin_put hc ih p hf (kidN_some hk).1 (by rw [hnb.1]; exact e1) (by rw [hnb.2]; exact e2) (fun e => ?_) ?_
        · rcases b3 with ⟨b3, h0⟩ | b3
          · subst h0
            simp only [nAt, Option.some.injEq] at ha
            subst ha
            exact e2
          · rw [← e, ← e1] at b3
            exact absurd b3 a1.out
        · refine (a2 m.b ?_).2
          rcases b3 with ⟨b3, _⟩ | b3
          · exact Or.inl b3
          · exact Or.inr b3

theorem from_put {B : Nat} {m : Nd} (hm : FFrom B m.k) : ∀ (p : Nat) {k : Fo}, FFrom B k → FFrom B (fput m p k)
  | 0, .nil, _ => trivial
  | _ + 1, .nil, _ => trivial
  | 0, .node _ _ _ _ _, ⟨h1, _, h3⟩ => ⟨h1, hm, h3⟩
  | p + 1, .node _ _ _ _ r, ⟨h1, h2, h3⟩ => ⟨h1, h2, from_put hm p h3⟩
theorem plain_put {w : World} {m : Nd} (hm : FPlain w m.k) : ∀ (p : Nat) {k : Fo}, FPlain w k → FPlain w (fput m p k)
  | 0, .nil, _ => trivial
  | _ + 1, .nil, _ => trivial
  | 0, .node _ _ _ _ _, ⟨h1, _, h3⟩ => ⟨h1, hm, h3⟩
  | p + 1, .node _ _ _ _ r, ⟨h1, h2, h3⟩ => ⟨h1, h2, plain_put hm p h3⟩
theorem from_drop {B : Nat} : ∀ (p : Nat) {k : Fo}, FFrom B k → FFrom B (fdrop p k)
  | 0, _, h => h
  | _ + 1, .nil, _ => trivial
  | p + 1, .node _ _ _ _ r, ⟨_, _, h3⟩ => from_drop p h3
theorem kid_from {B p : Nat} {k : Fo} {m : Nd} (h : FFrom B k) (hk : kidN p k = some m) : B ≤ m.b ∧ FFrom B m.k := by
  have := from_drop p h
  rw [(kidN_some hk).2] at this
  exact ⟨this.1, this.2.1⟩
theorem kid_plain {w : World} {p : Nat} {k : Fo} {m : Nd} (h : FPlain w k) (hk : kidN p k = some m) : BPlain w m.b ∧ FPlain w m.k := by
  have := FPlain.drop p h
  rw [(kidN_some hk).2] at this
  exact ⟨this.1, this.2.1⟩
theorem from_set {B : Nat} {x : It} (hx : FFrom B x.2.2.2) : ∀ (ps : List Nat) {n : Nd}, FFrom B n.k → FFrom B (nSet x ps n).k
  | [], n, h => hx
  | p :: ps, n, h => by
    unfold nSet
    cases hk : kidN p n.k with
    | none => exact h
    | some m => exact from_put (from_set hx ps (kid_from h hk).2) p h
theorem plain_set {w : World} {x : It} (hx : FPlain w x.2.2.2) : ∀ (ps : List Nat) {n : Nd}, FPlain w n.k → FPlain w (nSet x ps n).k
  | [], n, h => hx
  | p :: ps, n, h => by
    unfold nSet
    cases hk : kidN p n.k with
    | none => exact h
    | some m => exact plain_put (plain_set hx ps (kid_plain h hk).2) p h
theorem nAt_from {B : Nat} : ∀ (ps : List Nat) {n m : Nd}, B ≤ n.b → FFrom B n.k → nAt ps n = some m → B ≤ m.b ∧ FFrom B m.k
  | [], n, m, hb, h, ha => by
    simp only [nAt, Option.some.injEq] at ha
    subst ha
    exact ⟨hb, h⟩
  | p :: ps, n, m, hb, h, ha => by
    unfold nAt at ha
    cases hk : kidN p n.k with
    | none => rw [hk] at ha; cases ha
    | some m' =>
      rw [hk] at ha
      exact nAt_from ps (kid_from h hk).1 (kid_from h hk).2 ha
theorem nAt_plain {w : World} : ∀ (ps : List Nat) {n m : Nd}, BPlain w n.b → FPlain w n.k → nAt ps n = some m → BPlain w m.b ∧ FPlain w m.k
  | [], n, m, hb, h, ha => by
    simp only [nAt, Option.some.injEq] at ha
    subst ha
    exact ⟨hb, h⟩
  | p :: ps, n, m, hb, h, ha => by
    unfold nAt at ha
    cases hk : kidN p n.k with
    | none => rw [hk] at ha; cases ha
    | some m' =>
      rw [hk] at ha
      exact nAt_plain ps (kid_plain h hk).1 (kid_plain h hk).2 ha
theorem nAt_snoc : ∀ (ps : List Nat) (p : Nat) {n : Nd}, nAt (ps ++ [p]) n = match nAt ps n with
    | none => none
    | some m => kidN p m.k
  | [], p, n => by
    show nAt [p] n = kidN p n.k
    unfold nAt
    cases kidN p n.k with
    | none => rfl
    | some m => rfl
  | q :: ps, p, n => by
    rw [List.cons_append]
    unfold nAt
    cases kidN q n.k with
    | none => rfl
    | some m => exact nAt_snoc ps p
theorem nAt_none : ∀ (ps qs : List Nat) {n : Nd}, nAt ps n = none → nAt (ps ++ qs) n = none
  | [], qs, n, h => by cases h
  | p :: ps, qs, n, h => by
    rw [List.cons_append]
    unfold nAt at h ⊢
    cases hk : kidN p n.k with
    | none => rfl
    | some m =>
      rw [hk] at h
      exact nAt_none ps qs h

theorem nSet_cons {x : It} {p : Nat} {ps : List Nat} {n m : Nd} (h : kidN p n.k = some m) : nSet x (p :: ps) n = ⟨n.b, n.o, n.s, n.ka, n.cap, fput (nSet x ps m) p n.k⟩ := by
  show (match kidN p n.k with
    | none => n
    | some m => ⟨n.b, n.o, n.s, n.ka, n.cap, fput (nSet x ps m) p n.k⟩) = _
  rw [h]
/-- What a deed does by the path, and what is done in memory. -/
theorem mod_set {op : Op} {x : It} : ∀ (ps : List Nat) {n m : Nd}, nAt ps n = some m → op m.s (strip m.k) = (0, x.1, strip x.2.2.2) → modP op ps n.s (strip n.k) = (0, (nSet x ps n).s, strip (nSet x ps n).k)
  | [], n, m, ha, ho => by
    simp only [nAt, Option.some.injEq] at ha
    subst ha
    exact ho
  | p :: ps, n, m, ha, ho => by
    unfold nAt at ha
    cases hk : kidN p n.k with
    | none => rw [hk] at ha; cases ha
    | some m' =>
      rw [hk] at ha
      have ih := mod_set ps ha ho
      rw [modP_cons, gs_strip, kid_gs hk]
      rw [nSet_cons hk]
      simp only [ih]
      rw [← toFo_gs (fput _ _ _), gs_fput]
theorem mod_none {op : Op} : ∀ (ps : List Nat) {n : Nd}, nAt ps n = none → (modP op ps n.s (strip n.k)).1 = 7
  | [], n, ha => by cases ha
  | p :: ps, n, ha => by
    unfold nAt at ha
    cases hk : kidN p n.k with
    | none =>
      have : (gsF n.k)[p]? = none := List.getElem?_eq_none (by rw [gs_len]; exact kidN_none hk)
      rw [modP_cons, gs_strip, this]
    | some m' =>
      rw [hk] at ha
      rw [modP_cons, gs_strip, kid_gs hk]
      exact mod_none ps ha
theorem mod_code {op : Op} : ∀ (ps : List Nat) {n m : Nd}, nAt ps n = some m → (modP op ps n.s (strip n.k)).1 = (op m.s (strip m.k)).1
  | [], n, m, ha => by
    simp only [nAt, Option.some.injEq] at ha
    subst ha
    rfl
  | p :: ps, n, m, ha => by
    unfold nAt at ha
    cases hk : kidN p n.k with
    | none => rw [hk] at ha; cases ha
    | some m' =>
      rw [hk] at ha
      rw [modP_cons, gs_strip, kid_gs hk]
      exact mod_code ps ha
theorem at_nAt : ∀ (ps : List Nat) {n m : Nd}, nAt ps n = some m → atM ps n.s (strip n.k) = some (m.s, strip m.k)
  | [], n, m, ha => by
    simp only [nAt, Option.some.injEq] at ha
    subst ha
    rfl
  | p :: ps, n, m, ha => by
    unfold nAt at ha
    cases hk : kidN p n.k with
    | none => rw [hk] at ha; cases ha
    | some m' =>
      rw [hk] at ha
      unfold atM
      rw [gs_strip, kid_gs hk]
      exact at_nAt ps ha

/-- Where the tree lies does not matter. -/
def Op.Str (op : Op) : Prop := ∀ s k, (op s (strip k)).1 = (op s k).1 ∧ ((op s k).1 = 0 → op s (strip k) = op s k)
theorem namOp_str (l : ByteArray) : Op.Str (namOp l) := fun s k => by simp [namOp, strip_strip]
theorem delOp_str (i : Nat) : Op.Str (delOp i) := fun s k => by
  unfold delOp
  rw [gs_strip]
  cases (gsF k)[i]? with
  | none => simp
  | some x => simp
theorem insOp_str (i n : Nat) (l : ByteArray) : Op.Str (insOp i n l) := fun s k => by
  unfold insOp
  rw [gs_strip, flen_strip]
  by_cases h : i + n ≤ flen k
  · simp [h]
  · simp [h]
theorem modP_str {op : Op} (h : Op.Str op) : ∀ ps, Op.Str (modP op ps)
  | [] => h
  | p :: ps => fun s k => by
    rw [modP_cons, modP_cons, gs_strip]
    cases (gsF k)[p]? with
    | none => simp
    | some x => simp
theorem doneP_str (d : Dd) : Op.Str (doneP d) := by
  unfold doneP
  by_cases h1 : d.kind = 1
  · rw [if_pos h1]; exact modP_str (namOp_str _) _
  · rw [if_neg h1]
    by_cases h2 : d.kind = 2
    · rw [if_pos h2]; exact modP_str (delOp_str _) _
    · rw [if_neg h2]; exact modP_str (insOp_str _ _ _) _
theorem atM_strip (ps : List Nat) (s : ByteArray) (k : Fo) : ((atM ps s (strip k)).getD (⟨#[]⟩, .nil)).1 = ((atM ps s k).getD (⟨#[]⟩, .nil)).1 ∧ flen ((atM ps s (strip k)).getD (⟨#[]⟩, .nil)).2 = flen ((atM ps s k).getD (⟨#[]⟩, .nil)).2 := by
  cases ps with
  | nil => simp [atM, flen_strip]
  | cons p ps =>
    unfold atM
    rw [gs_strip]
    exact ⟨rfl, rfl⟩
theorem backP_strip (d : Dd) (s : ByteArray) (k : Fo) : backP d s (strip k) = backP d s k := by
  unfold backP
  rw [(atM_strip _ _ _).1, (atM_strip _ _ _).2]
theorem doP_strip (d : Dd) (s : ByteArray) (k : Fo) : doP d s (strip k) = doP d s k := by
  unfold doP
  rw [faultT_strip, backP_strip, (doneP_str d s k).1]
  by_cases h : (doneP d s k).1 = 0
  · rw [(doneP_str d s k).2 h]
  · by_cases h1 : faultT s k = 0
    · by_cases h2 : deedFault d = 0
      · simp [h, h1, h2]
      · simp [h1, h2]
    · simp [h1]
theorem doP_congr (d : Dd) (s : ByteArray) {k k' : Fo} (h : strip k = strip k') : doP d s k = doP d s k' := by rw [← doP_strip, h, doP_strip]

/-- Another block, in which nothing of the tree lies, has turned as well. -/
theorem upd2 {w w' : World} {x : It} {ps : List Nat} {n m : Nd} {c2 : Nat} (h : NodIn w n) (h1 : NodOne n) (ha : nAt ps n = some m) (hc2 : c2 ≠ n.b) (hk2 : FOff c2 n.k) (hlt : c2 < w.heap.size) (hlt' : c2 < w'.heap.size)
    (same : ∀ q, q < w.heap.size → q ≠ m.b → q ≠ c2 → w'.heap[q]? = w.heap[q]?) (cell : ∀ o', o' ≠ m.o → o' ≠ m.o + 1 → w'.cell? ⟨m.b, o', none⟩ = w.cell? ⟨m.b, o', none⟩) (hm : NodIn w' (nSet x [] m)) : NodIn w' (nSet x ps n) := by
  obtain ⟨ob, hob⟩ : ∃ ob, w'.heap[c2]? = some ob := ⟨_, Array.getElem?_eq_getElem hlt'⟩
  obtain ⟨w1, hw1⟩ : ∃ w1 : World, w1 = { w with heap := w.heap.setIfInBounds c2 ob } := ⟨_, rfl⟩
  have hs1 : w1.heap.size = w.heap.size := by rw [hw1]; simp
  have ho : ∀ q, q ≠ c2 → w1.heap[q]? = w.heap[q]? := fun q hq => by
    rw [hw1]
    show (w.heap.setIfInBounds c2 ob)[q]? = _
    rw [Array.getElem?_setIfInBounds_ne (by omega)]
  have hc : w1.heap[c2]? = some ob := by
    rw [hw1]
    show (w.heap.setIfInBounds c2 ob)[c2]? = _
    rw [Array.getElem?_setIfInBounds_self_of_lt hlt]
  have hmb : m.b ≠ c2 := by
    rcases (nAt_in ps h h1 ha).2.2 with ⟨e, _⟩ | e
    · omega
    · intro e'
      rw [e'] at e
      exact ab_off hk2 e
  have h' : NodIn w1 n := by
    refine ⟨?_, ?_, TIn.but (g := c2) (fun b _ hb => ho b hb) hk2 h.tin⟩
    · rw [World.cell?_of_block (w := w) (ho n.b (by omega))]
      exact h.c0
    · rw [World.cell?_of_block (w := w) (ho n.b (by omega))]
      exact h.c1
  refine upd ps h' h1 ha ⟨fun q hq hn => ?_, fun o' e1 e2 => ?_⟩ hm
  · by_cases e : q = c2
    · subst e
      rw [hc, hob]
    · rw [same q (by omega) hn e, ho q e]
  · exact (cell o' e1 e2).trans (World.cell?_of_block (w := w) (w' := w1) (a := ⟨m.b, o', none⟩) (ho m.b hmb)).symm

end Go.Proofs.Ytcknganggcbkjab.Deed
