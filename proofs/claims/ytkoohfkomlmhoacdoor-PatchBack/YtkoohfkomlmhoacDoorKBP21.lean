/- Deeds done along a path, step by step; and lists of trees in memory of one's own, in which one is put in another one's place, or others behind. Of no program. -/
/- A node of a tree in memory, by its path, and what the tree is when that node alone has turned in its place. Of no program. -/
import Derived.Test.YtkoohfkomlmhoacDoorProg
import Derived.Test.YtkoohfkomlmhoacDoorKBP19
import Derived.Test.YtkoohfkomlmhoacDoorKBP20
import Derived.Test.YtkoohfkomlmhoacDoorKBP03
import Derived.Test.YtkoohfkomlmhoacDoorKBP06
namespace Go.Proofs.YtkoohfkomlmhoacDoor.Deed
open Go.Deep Go.RowKit
set_option linter.unusedVariables false
set_option maxRecDepth 20000

def ftake : Nat → Fo → Fo
  | 0, _ => .nil
  | _ + 1, .nil => .nil
  | n + 1, .node b o x k r => .node b o x k (ftake n r)
theorem FIn.take {w : World} : ∀ (n : Nat) {f : Fo} {b o : Nat}, FIn w f b o → FIn w (ftake n f) b o
  | 0, _, _, _, _ => trivial
  | _ + 1, .nil, _, _, _ => trivial
  | n + 1, .node _ _ _ _ r, b, o, ⟨h1, h2, h3, h4, h5, h6, h7, h8, h9⟩ => ⟨h1, h2, h3, h4, h5, h6, h7, h8, FIn.take n h9⟩
/-- What is done at the end of a rest of the path. -/
def doneR (d : Dd) (rest : List Int) : Op := if d.kind = 1 then modP (namOp d.lab) (nats rest) else if d.kind = 2 then modP (delOp (nats rest).getLast!) (nats rest).dropLast else modP (insOp d.pos.toNat d.many.toNat d.lab) (nats rest)
/-- One tree of a list of one's own gives its place to another one. -/
theorem KInv.put {T B : Nat} {w : World} {g n cap p : Nat} {L : List It} {x : It} (h : KInv T B w (.slice (some ⟨g, 0, none⟩) n cap) L) (hn : L.length = n) (hp : p < n) (hx : ItIn w x) (hf : FFrom B x.2.2.2) (hq : FPlain w x.2.2.2) (ho : FOff g x.2.2.2) :
    KInv T B ((w.setCell ⟨g, p * 2, none⟩ (.string x.1)).setCell ⟨g, p * 2 + 1, none⟩ (.slice x.2.1 (flen x.2.2.2) x.2.2.1)) (.slice (some ⟨g, 0, none⟩) n cap) (L.set p x) := by
  subst hn
  have hbut := set2_but w g (p * 2) (p * 2 + 1) (.string x.1) (.slice x.2.1 (flen x.2.2.2) x.2.2.1)
  refine ⟨fun it hi => ?_, ?_⟩
  · rcases List.mem_or_eq_of_mem_set hi with hi | rfl
    · obtain ⟨h1, h2, h3, h4⟩ := h.each it hi
      have h5 := h4 g rfl
      exact ⟨TIn.but hbut h5 h1, h2, FPlain.but hbut h5 h3, h4⟩
    · refine ⟨TIn.but hbut ho hx, hf, FPlain.but hbut ho hq, fun g' hg' => ?_⟩
      simp only [Value.ownBlock, Option.some.injEq] at hg'
      subst hg'
      exact ho
  · have hr := own_setN (Value.slice x.2.1 (flen x.2.2.2) x.2.2.1) (own_setN (Value.string x.1) h.row (j := p * 2) (by omega)) (j := p * 2 + 1) (by omega)
    have e : ((rowCells L).set (p * 2) (.string x.1)).set (p * 2 + 1) (.slice x.2.1 (flen x.2.2.2) x.2.2.1) = rowCells (L.set p x) := by
      clear hr hbut h hx hf hq ho
      induction L generalizing p with
      | nil => simp at hp
      | cons a L ih =>
        cases p with
        | zero => simp [rowCells, itCells]
        | succ p =>
          have := ih (p := p) (by simpa using hp)
          rw [show (p + 1) * 2 = p * 2 + 2 by omega]
          simpa [rowCells, itCells] using this
    rw [e] at hr
    rw [List.length_set]
    exact hr
/-- A list of one's own, and another one behind. -/
theorem KInv.join {T B : Nat} {w1 w3 : World} {v : Value} {L L2 : List It} {g cap : Nat} (h : KInv T B w1 v L) (h2 : ∀ it, it ∈ L2 → ItIn w1 it ∧ FFrom B it.2.2.2 ∧ FPlain w1 it.2.2.2 ∧ ∀ g, v.ownBlock = some g → FOff g it.2.2.2)
    (hown : w3.ownsRow B T 2 (.slice (some ⟨g, 0, none⟩) (L.length + L2.length) cap) (L.length + L2.length) (rowCells L ++ rowCells L2)) (hgrow : w1.grownBy w3 v.ownBlock) (hat : v.ownBlock = some g ∨ g = w1.heap.size) :
    KInv T B w3 (.slice (some ⟨g, 0, none⟩) (L.length + L2.length) cap) (L ++ L2) := by
  have hsame : ∀ b, b < w1.heap.size → some b ≠ v.ownBlock → w3.heap[b]? = w1.heap[b]? := fun b hlt hne => hgrow.block b hlt hne
  have keep : ∀ it : It, (ItIn w1 it ∧ FFrom B it.2.2.2 ∧ FPlain w1 it.2.2.2 ∧ ∀ g, v.ownBlock = some g → FOff g it.2.2.2) → ItIn w3 it ∧ FFrom B it.2.2.2 ∧ FPlain w3 it.2.2.2 ∧ ∀ g', (Value.slice (some ⟨g, 0, none⟩) (L.length + L2.length) cap).ownBlock = some g' → FOff g' it.2.2.2 := fun it ⟨hi, hf, hq, hoff⟩ => by
    refine ⟨?_, hf, ?_, fun g' hg' => ?_⟩
    · cases hv : v.ownBlock with
      | none => exact TIn.but (g := w1.heap.size) (fun b hlt _ => hsame b hlt (by rw [hv]; simp)) (hi.kids.off (Nat.le_refl _)) hi
      | some g0 => exact TIn.but (g := g0) (fun b hlt hne => hsame b hlt (by rw [hv]; simpa using hne)) (hoff g0 hv) hi
    · cases hv : v.ownBlock with
      | none => exact FPlain.but (g := w1.heap.size) (fun b hlt _ => hsame b hlt (by rw [hv]; simp)) (hi.kids.off (Nat.le_refl _)) hq
      | some g0 => exact FPlain.but (g := g0) (fun b hlt hne => hsame b hlt (by rw [hv]; simpa using hne)) (hoff g0 hv) hq
    · simp only [Value.ownBlock, Option.some.injEq] at hg'
      subst hg'
      rcases hat with hat | hat
      · exact hoff _ hat
      · exact hi.kids.off (by omega)
  have rc : ∀ a b : List It, rowCells (a ++ b) = rowCells a ++ rowCells b := fun a b => by
    induction a with
    | nil => rfl
    | cons x a ih => simp [rowCells, ih]
  refine ⟨fun it hi => ?_, by rw [rc, List.length_append]; exact hown⟩
  rcases List.mem_append.1 hi with hi | hi
  · exact keep it (h.each it hi)
  · exact keep it (h2 it hi)
theorem KInv.below {T B : Nat} {w w' : World} {v : Value} {L : List It} (h : KInv T B w v L) (hb : Below w.heap.size w w') : KInv T B w' v L :=
  ⟨fun it hi => ⟨TIn.below hb (h.each it hi).1, (h.each it hi).2.1, (h.each it hi).2.2.1.below hb, (h.each it hi).2.2.2⟩, ownsRow_below h.row hb⟩
end Go.Proofs.YtkoohfkomlmhoacDoor.Deed
namespace Go.Proofs.YtkoohfkomlmhoacDoor.Deed
open Go.Deep Go.RowKit
set_option linter.unusedVariables false
set_option maxRecDepth 20000

/-- A node in memory: where it lies, its label, its kids' address and capacity, its kids. -/
structure Nd where
  b : Nat
  o : Nat
  s : ByteArray
  ka : Option Addr
  cap : Nat
  k : Fo
structure NodIn (w : World) (n : Nd) : Prop where
  c0 : w.cell? ⟨n.b, n.o, none⟩ = some (.string n.s)
  c1 : w.cell? ⟨n.b, n.o + 1, none⟩ = some (.slice n.ka (flen n.k) n.cap)
  tin : TIn w n.s n.ka n.cap n.k
theorem off_of {w : World} {g : Nat} : ∀ {f : Fo} {b o : Nat}, FIn w f b o → g ≠ b → ¬ g ∈ lb f → FOff g f
  | .nil, _, _, _, _, _ => trivial
  | .node b' _ x k r, b, o, hf, hg, hn => by
    simp only [lb, List.mem_append, not_or] at hn
    have hb' : b' = b := hf.1
    refine ⟨by omega, ?_, off_of hf.head.2.2.2 hg hn.2⟩
    cases k with
    | nil => trivial
    | node b2 o2 y k2 r2 =>
      rcases hf.head.2.2.1.kids with h0 | ⟨kb, ko, e, hk⟩
      · cases h0
      · have : b2 = kb := hk.1
        exact off_of hk (fun e => hn.1.1 (by simp [hb]; omega)) hn.1.2

/-- One node alone has turned in its place; all else that there was is as it was. -/
structure Chg (w w' : World) (c oo : Nat) : Prop where
  same : ∀ q, q < w.heap.size → q ≠ c → w'.heap[q]? = w.heap[q]?
  cell : ∀ o', o' ≠ oo → o' ≠ oo + 1 → w'.cell? ⟨c, o', none⟩ = w.cell? ⟨c, o', none⟩
theorem Chg.at {w w' : World} {c oo b o : Nat} {u : Value} (h : Chg w w' c oo) (hc : w.cell? ⟨b, o, none⟩ = some u) (hn : b = c → o ≠ oo ∧ o ≠ oo + 1) : w'.cell? ⟨b, o, none⟩ = some u := by
  by_cases e : b = c
  · obtain ⟨h1, h2⟩ := hn e
    subst e
    rw [h.cell o h1 h2]
    exact hc
  · have := h.same b (World.block_lt_of_cell? _ _ hc) e
    rw [World.cell?_of_block (w := w) this]
    exact hc
theorem Chg.kids {w w' : World} {c oo : Nat} {ka : Option Addr} {k : Fo} (h : Chg w w' c oo) (hk : KIn w ka k) (hn : ¬ c ∈ ab k) : KIn w' ka k := by
  rcases hk with h0 | ⟨kb, ko, e, hf⟩
  · exact Or.inl h0
  · refine Or.inr ⟨kb, ko, e, ?_⟩
    cases k with
    | nil => trivial
    | node b2 o2 x kk r =>
      have : b2 = kb := hf.1
      simp only [ab, List.mem_append, not_or] at hn
      exact FIn.but h.same (off_of hf (fun e => hn.1 (by simp [hb]; omega)) hn.2) hf
/-- A list whose own cells are as they were. -/
theorem Chg.list {w w' : World} {c oo : Nat} (h : Chg w w' c oo) : ∀ {f : Fo} {b o : Nat}, FIn w f b o → (b = c → oo + 1 < o ∨ o + 2 * flen f ≤ oo) → ¬ c ∈ lb f → FIn w' f b o
  | .nil, _, _, _, _, _ => trivial
  | .node b' o' x k r, b, o, ⟨h1, h2, h3, h4, h5, h6, h7, h8, h9⟩, hn, hl => by
    simp only [lb, List.mem_append, not_or] at hl
    simp only [flen] at hn
    refine ⟨h1, h2, h.at h3 (fun e => ?_), h.at h4 (fun e => ?_), h5, h6, h7, h.kids h8 (by simp only [ab, List.mem_append, not_or]; exact hl.1), Chg.list h h9 (fun e => ?_) hl.2⟩
    · have := hn e
      omega
    · have := hn e
      omega
    · have := hn e
      omega
end Go.Proofs.YtkoohfkomlmhoacDoor.Deed
