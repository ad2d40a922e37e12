/- Deeds done along a path, step by step; and lists of trees in memory of one's own, in which one is put in another one's place, or others behind. Of no program. -/
import Derived.Test.YtpgiagkbfnbgkabOwnListK
import Derived.Test.YtpgiagkbfnbgkabOrdM
namespace Go.Proofs.Ytpgiagkbfnbgkab.Deed
open Go.Deep Go.RowKit
set_option linter.unusedVariables false
set_option maxRecDepth 20000

def ftake : Nat → Fo → Fo
  | 0, _ => .nil
  | _ + 1, .nil => .nil
  | n + 1, .node b o x k r => .node b o x k (ftake n r)
theorem FIn.take {w : World} : ∀ (n : Nat) {f : Fo} {b o : Nat}, FIn w f b o → FIn w (ftake n f) b o
  | 0, _, _, _, _ => trivial
  | _ + 1, .nil, _, _, _ => trivial
  | n + 1, .node _ _ _ _ r, b, o, ⟨h1, h2, h3, h4, h5, h6, h7, h8, h9⟩ => ⟨h1, h2, h3, h4, h5, h6, h7, h8, FIn.take n h9⟩
theorem flen_take : ∀ (n : Nat) (f : Fo), n ≤ flen f → flen (ftake n f) = n
  | 0, _, _ => rfl
  | _ + 1, .nil, h => by simp [flen] at h
  | n + 1, .node _ _ _ _ r, h => by simp [ftake, flen, flen_take n r (by simpa [flen] using h)]
theorem gs_take : ∀ (n : Nat) (f : Fo), gsF (ftake n f) = (gsF f).take n
  | 0, _ => by simp [ftake, gsF]
  | _ + 1, .nil => by simp [ftake, gsF]
  | n + 1, .node _ _ _ _ r => by simp [ftake, gsF, gs_take n r]
theorem gs_drop : ∀ (n : Nat) (f : Fo), gsF (fdrop n f) = (gsF f).drop n
  | 0, _ => by simp [fdrop]
  | _ + 1, .nil => by simp [fdrop, gsF]
  | n + 1, .node _ _ _ _ r => by simp [fdrop, gsF, gs_drop n r]
theorem fnodes_take : ∀ (n : Nat) (f : Fo), fnodes (ftake n f) ≤ fnodes f
  | 0, _ => Nat.zero_le _
  | _ + 1, .nil => Nat.le_refl _
  | n + 1, .node _ _ _ _ r => by
    have := fnodes_take n r
    simp only [ftake, fnodes]
    omega
theorem fnodes_drop : ∀ (n : Nat) (f : Fo), fnodes (fdrop n f) ≤ fnodes f
  | 0, _ => Nat.le_refl _
  | _ + 1, .nil => Nat.le_refl _
  | n + 1, .node _ _ _ _ r => by
    have := fnodes_drop n r
    simp only [fdrop, fnodes]
    omega
theorem gs_node {k : Fo} {j b o : Nat} {x : ByteArray × Option Addr × Nat} {kk r : Fo} (h : fdrop j k = .node b o x kk r) : (gsF k)[j]? = some (x.1, strip kk) := by
  have h1 := gs_drop j k
  rw [h] at h1
  have : ((gsF k).drop j)[0]? = some (x.1, strip kk) := by rw [← h1]; rfl
  simpa using this

/-- What is done at the end of a rest of the path. -/
def doneR (d : Dd) (rest : List Int) : Op := if d.kind = 1 then modP (namOp d.lab) (nats rest) else if d.kind = 2 then modP (delOp (nats rest).getLast!) (nats rest).dropLast else modP (insOp d.pos.toNat d.many.toNat d.lab) (nats rest)
theorem doneR_all (d : Dd) : doneR d d.path = doneP d := rfl
/-- Is the node at hand the one? -/
def isLast (d : Dd) (rest : List Int) : Prop := if d.kind = 2 then rest.length = 1 else rest = []
theorem modP_cons (op : Op) (p : Nat) (ps : List Nat) (s : ByteArray) (k : Fo) : modP op (p :: ps) s k = match (gsF k)[p]? with
    | none => (7, s, k)
    | some x => ((modP op ps x.1 x.2).1, s, toFo ((gsF k).set p (modP op ps x.1 x.2).2)) := rfl
theorem doneR_step {d : Dd} {p : Int} {ps : List Int} (h : ¬ isLast d (p :: ps)) (s : ByteArray) (k : Fo) : doneR d (p :: ps) s k = match (gsF k)[p.toNat]? with
    | none => (7, s, k)
    | some x => ((doneR d ps x.1 x.2).1, s, toFo ((gsF k).set p.toNat (doneR d ps x.1 x.2).2)) := by
  unfold doneR
  by_cases h1 : d.kind = 1
  · simp only [if_pos h1]
    exact modP_cons _ _ _ _ _
  · simp only [if_neg h1]
    by_cases h2 : d.kind = 2
    · simp only [if_pos h2]
      have hne : ps ≠ [] := fun e => h (by unfold isLast; rw [if_pos h2, e]; rfl)
      obtain ⟨q, qs, rfl⟩ : ∃ q qs, ps = q :: qs := by
        cases ps with
        | nil => exact absurd rfl hne
        | cons q qs => exact ⟨q, qs, rfl⟩
      have e1 : (nats (p :: q :: qs)).getLast! = (nats (q :: qs)).getLast! := by simp [nats, List.getLast!, List.getLast_cons]
      have e2 : (nats (p :: q :: qs)).dropLast = p.toNat :: (nats (q :: qs)).dropLast := rfl
      rw [e1, e2]
      exact modP_cons _ _ _ _ _
    · simp only [if_neg h2]
      exact modP_cons _ _ _ _ _
theorem doneR_name {d : Dd} (h : d.kind = 1) (s : ByteArray) (k : Fo) : doneR d [] s k = (0, d.lab, strip k) := by
  unfold doneR
  rw [if_pos h]
  rfl
theorem doneR_del {d : Dd} (h : d.kind = 2) (p : Int) (s : ByteArray) (k : Fo) : doneR d [p] s k = delOp p.toNat s k := by
  unfold doneR
  rw [if_neg (by omega), if_pos h]
  rfl
theorem doneR_ins {d : Dd} (h : d.kind = 3) (s : ByteArray) (k : Fo) : doneR d [] s k = insOp d.pos.toNat d.many.toNat d.lab s k := by
  unfold doneR
  rw [if_neg (by omega), if_neg (by omega)]
  rfl

/-- One tree of a list of one's own gives its place to another one. -/
theorem KInv.put {T B : Nat} {w : World} {g n cap p : Nat} {L : List It} {x : It} (h : KInv T B w (.slice (some ⟨g, 0, none⟩) n cap) L) (hn : L.length = n) (hp : p < n) (hx : ItIn w x) (hf : FFrom B x.2.2.2) (hq : FPlain w x.2.2.2) (ho : FOff g x.2.2.2) :
    KInv T B ((w.setCell ⟨g, p * 2, none⟩ (.string x.1)).setCell ⟨g, p * 2 + 1, none⟩ (.slice x.2.1 (flen x.2.2.2) x.2.2.1)) (.slice (some ⟨g, 0, none⟩) n cap) (L.set p x) := by
  subst hn
  have hbut := set2_but w g (p * 2) (p * 2 + 1) (.string x.1) (.slice x.2.1 (flen x.2.2.2) x.2.2.1)
  refine ⟨fun it hi => ?_, ?_⟩
  · rcases List.mem_or_eq_of_mem_set hi with hi | rfl
    · obtain ⟨h1, h2, h3, h4⟩ := h.each it hi
      have h5 := h4 g rfl
      exact ⟨TIn.but hbut h5 h1, h2, FPlain.but hbut h5 h3, h4⟩
    · refine ⟨TIn.but hbut ho hx, hf, FPlain.but hbut ho hq, fun g' hg' => ?_⟩
      simp only [Value.ownBlock, Option.some.injEq] at hg'
      subst hg'
      exact ho
  · have hr := own_setN (Value.slice x.2.1 (flen x.2.2.2) x.2.2.1) (own_setN (Value.string x.1) h.row (j := p * 2) (by omega)) (j := p * 2 + 1) (by omega)
    have e : ((rowCells L).set (p * 2) (.string x.1)).set (p * 2 + 1) (.slice x.2.1 (flen x.2.2.2) x.2.2.1) = rowCells (L.set p x) := by
      clear hr hbut h hx hf hq ho
      induction L generalizing p with
      | nil => simp at hp
      | cons a L ih =>
        cases p with
        | zero => simp [rowCells, itCells]
        | succ p =>
          have := ih (p := p) (by simpa using hp)
          rw [show (p + 1) * 2 = p * 2 + 2 by omega]
          simpa [rowCells, itCells] using this
    rw [e] at hr
    rw [List.length_set]
    exact hr
theorem map_set (L : List It) (p : Nat) (x : It) : (L.set p x).map bareIt = (L.map bareIt).set p (bareIt x) := List.map_set
/-- A list of one's own, and another one behind. -/
theorem KInv.join {T B : Nat} {w1 w3 : World} {v : Value} {L L2 : List It} {g cap : Nat} (h : KInv T B w1 v L) (h2 : ∀ it, it ∈ L2 → ItIn w1 it ∧ FFrom B it.2.2.2 ∧ FPlain w1 it.2.2.2 ∧ ∀ g, v.ownBlock = some g → FOff g it.2.2.2)
    (hown : w3.ownsRow B T 2 (.slice (some ⟨g, 0, none⟩) (L.length + L2.length) cap) (L.length + L2.length) (rowCells L ++ rowCells L2)) (hgrow : w1.grownBy w3 v.ownBlock) (hat : v.ownBlock = some g ∨ g = w1.heap.size) :
    KInv T B w3 (.slice (some ⟨g, 0, none⟩) (L.length + L2.length) cap) (L ++ L2) := by
  have hsame : ∀ b, b < w1.heap.size → some b ≠ v.ownBlock → w3.heap[b]? = w1.heap[b]? := fun b hlt hne => hgrow.block b hlt hne
  have keep : ∀ it : It, (ItIn w1 it ∧ FFrom B it.2.2.2 ∧ FPlain w1 it.2.2.2 ∧ ∀ g, v.ownBlock = some g → FOff g it.2.2.2) → ItIn w3 it ∧ FFrom B it.2.2.2 ∧ FPlain w3 it.2.2.2 ∧ ∀ g', (Value.slice (some ⟨g, 0, none⟩) (L.length + L2.length) cap).ownBlock = some g' → FOff g' it.2.2.2 := fun it ⟨hi, hf, hq, hoff⟩ => by
    refine ⟨?_, hf, ?_, fun g' hg' => ?_⟩
    · cases hv : v.ownBlock with
      | none => exact TIn.but (g := w1.heap.size) (fun b hlt _ => hsame b hlt (by rw [hv]; simp)) (hi.kids.off (Nat.le_refl _)) hi
      | some g0 => exact TIn.but (g := g0) (fun b hlt hne => hsame b hlt (by rw [hv]; simpa using hne)) (hoff g0 hv) hi
    · cases hv : v.ownBlock with
      | none => exact FPlain.but (g := w1.heap.size) (fun b hlt _ => hsame b hlt (by rw [hv]; simp)) (hi.kids.off (Nat.le_refl _)) hq
      | some g0 => exact FPlain.but (g := g0) (fun b hlt hne => hsame b hlt (by rw [hv]; simpa using hne)) (hoff g0 hv) hq
    · simp only [Value.ownBlock, Option.some.injEq] at hg'
      subst hg'
      rcases hat with hat | hat
      · exact hoff _ hat
      · exact hi.kids.off (by omega)
  have rc : ∀ a b : List It, rowCells (a ++ b) = rowCells a ++ rowCells b := fun a b => by
    induction a with
    | nil => rfl
    | cons x a ih => simp [rowCells, ih]
  refine ⟨fun it hi => ?_, by rw [rc, List.length_append]; exact hown⟩
  rcases List.mem_append.1 hi with hi | hi
  · exact keep it (h.each it hi)
  · exact keep it (h2 it hi)
theorem KInv.below {T B : Nat} {w w' : World} {v : Value} {L : List It} (h : KInv T B w v L) (hb : Below w.heap.size w w') : KInv T B w' v L :=
  ⟨fun it hi => ⟨TIn.below hb (h.each it hi).1, (h.each it hi).2.1, (h.each it hi).2.2.1.below hb, (h.each it hi).2.2.2⟩, ownsRow_below h.row hb⟩
theorem KInv.lower {T B B' : Nat} {w : World} {v : Value} {L : List It} (h : KInv T B w v L) (hB : B' ≤ B) : KInv T B' w v L :=
  ⟨fun it hi => ⟨(h.each it hi).1, (h.each it hi).2.1.mono hB, (h.each it hi).2.2⟩, h.row.1, by
    rcases h.row.2 with h2 | ⟨g, cap, cur, hv, hg, r⟩
    · exact Or.inl h2
    · exact Or.inr ⟨g, cap, cur, hv, by omega, r⟩⟩
end Go.Proofs.Ytpgiagkbfnbgkab.Deed
