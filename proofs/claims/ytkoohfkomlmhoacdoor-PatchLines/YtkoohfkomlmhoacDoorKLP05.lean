/- What the loop of a walk through a tree, with its way down kept in a list, keeps. Of no program. -/
/- Rows of memory of whatever width that a call owns: what grows, what stays. Of no program. -/
import Derived.Test.YtkoohfkomlmhoacDoorKLP00
import Derived.Test.YtkoohfkomlmhoacDoorKLP04
import Derived.WalkSmall
import Derived.Test.YtkoohfkomlmhoacDoorKLP01
namespace Go.Proofs.YtkoohfkomlmhoacDoor
open Go.Deep Go.RowKit
set_option linter.unusedVariables false
set_option maxRecDepth 20000

/-- All blocks that were there are as they were, but those of C. -/
structure Keeps (C : List Nat) (w w' : World) : Prop where
  os : w'.os = w.os
  tape : w'.tape = w.tape
  output : w'.output = w.output
  size : w.heap.size ≤ w'.heap.size
  block : ∀ b, b < w.heap.size → ¬ b ∈ C → w'.heap[b]? = w.heap[b]?

theorem Keeps.refl (C : List Nat) (w : World) : Keeps C w w := ⟨rfl, rfl, rfl, Nat.le_refl _, fun _ _ _ => rfl⟩
theorem Keeps.trans {C : List Nat} {a b c : World} (h : Keeps C a b) (k : Keeps C b c) : Keeps C a c :=
  ⟨k.os.trans h.os, k.tape.trans h.tape, k.output.trans h.output, Nat.le_trans h.size k.size, fun i hi hn => (k.block i (Nat.lt_of_lt_of_le hi h.size) hn).trans (h.block i hi hn)⟩
/-- What comes behind w and turns nothing of w's blocks is kept. -/
theorem Keeps.below {C : List Nat} {w a b : World} (h : Keeps C w a) (k : Below w.heap.size a b) : Keeps C w b :=
  ⟨k.os.trans h.os, k.tape.trans h.tape, k.output.trans h.output, Nat.le_trans h.size k.size, fun i hi hn => (k.block i hi).trans (h.block i hi hn)⟩
theorem Keeps.cell {C : List Nat} {w w' : World} (h : Keeps C w w') {p : Addr} (hp : p.block < w.heap.size) (hn : ¬ p.block ∈ C) : w'.cell? p = w.cell? p := World.cell?_of_block (w := w) (h.block p.block hp hn)

theorem FIn.keeps {C : List Nat} {w w' : World} (h : Keeps C w w') : ∀ {f : Fo} {b o : Nat}, (∀ c, c ∈ C → FOff c f) → FIn w f b o → FIn w' f b o
  | .nil, _, _, _, _ => trivial
  | .node b' _ x k r, b, o, hc, ⟨h1, h2, h3, h4, h5, h6, h7, h8, h9⟩ => by
    have hb : b < w.heap.size := World.block_lt_of_cell? _ _ h3
    have hn : ¬ b ∈ C := fun hm => (hc b hm).1 h1
    refine ⟨h1, h2, ?_, ?_, h5, h6, h7, ?_, FIn.keeps h (fun c hm => (hc c hm).2.2) h9⟩
    · rw [h.cell hb hn]; exact h3
    · rw [h.cell hb hn]; exact h4
    · rcases h8 with h8 | ⟨kb, ko, e, h8⟩
      · exact Or.inl h8
      · exact Or.inr ⟨kb, ko, e, FIn.keeps h (fun c hm => (hc c hm).2.1) h8⟩

/-- Labels and how many stand above, each ahead of all beneath it, from the left. -/
def pre : Fo → Nat → List (ByteArray × Nat)
  | .nil, _ => []
  | .node _ _ x k r, d => (x.1, d) :: (pre k (d + 1) ++ pre r d)
theorem fhigh_pos : ∀ f : Fo, 0 < flen f → 0 < fhigh f
  | .nil, h => by simp [flen] at h
  | .node _ _ _ k r, _ => by simp [fhigh]; omega
/-- A step of the way: where its list begins, its capacity, which comes next, the list. -/
abbrev Fr := Addr × Nat × Nat × Fo
def frSt (f : Fr) : St := (f.1, flen f.2.2.2, f.2.1, f.2.2.1)

structure FrOk (C : List Nat) (w : World) (f : Fr) : Prop where
  spot : f.1.spot = none
  pos : 0 < flen f.2.2.2
  len : flen f.2.2.2 ≤ f.2.1
  cap : f.2.1 ≤ maxLen
  next : f.2.2.1 ≤ flen f.2.2.2
  lies : FIn w f.2.2.2 f.1.block f.1.off
  plain : FPlain w f.2.2.2
  off : ∀ c, c ∈ C → FOff c f.2.2.2

structure WInv (C : List Nat) (T H : Nat) (w1 wr : World) (v : Value) (fs : List Fr) : Prop where
  each : ∀ f, f ∈ fs → FrOk C w1 f ∧ fhigh f.2.2.2 ≤ H
  high : ∀ (i j : Nat) (f g : Fr), i < j → fs[i]? = some f → fs[j]? = some g → fhigh g.2.2.2 < fhigh f.2.2.2
  row : wr.ownsRow w1.heap.size T 2 v fs.length (wayCells (fs.map frSt))
  keeps : Keeps C w1 wr

theorem high_len {fs : List Fr} (hp : ∀ f, f ∈ fs → 0 < flen f.2.2.2) (high : ∀ (i j : Nat) (f g : Fr), i < j → fs[i]? = some f → fs[j]? = some g → fhigh g.2.2.2 < fhigh f.2.2.2) :
    ∀ (n i : Nat) (f : Fr), fs.length - i = n → fs[i]? = some f → fs.length - i ≤ fhigh f.2.2.2
  | 0, i, f, hn, hf => by omega
  | n + 1, i, f, hn, hf => by
    by_cases h : i + 1 < fs.length
    · have hg := List.getElem?_eq_getElem h
      have := high_len hp high n (i + 1) _ (by omega) hg
      have := high i (i + 1) f _ (by omega) hf hg
      omega
    · have := fhigh_pos _ (hp f (List.mem_of_getElem? hf))
      omega

theorem WInv.len {C : List Nat} {T H : Nat} {w1 wr : World} {v : Value} {fs : List Fr} (h : WInv C T H w1 wr v fs) : fs.length ≤ H := by
  cases hfs : fs with
  | nil => simp
  | cons f l =>
    have h0 : fs[0]? = some f := by rw [hfs]; rfl
    have := high_len (fun f hf => (h.each f hf).1.pos) h.high _ 0 f rfl h0
    have := (h.each f (by rw [hfs]; simp)).2
    rw [← hfs]
    omega

end Go.Proofs.YtkoohfkomlmhoacDoor
namespace Go.Proofs.YtkoohfkomlmhoacDoor
open Go.Deep Go.RowKit
set_option linter.unusedVariables false
set_option maxRecDepth 20000

theorem grownBy_of_below {a b : World} (h : Below a.heap.size a b) (r : Option Nat) : a.grownBy b r := ⟨h.os, h.tape, h.output, h.size, fun k hk _ => h.block k hk⟩
theorem grownBy_trans {a b c : World} {r r' : Option Nat} (h : a.grownBy b r) (h' : b.grownBy c r') (hr : r' = r ∨ ∀ g, r' = some g → a.heap.size ≤ g) : a.grownBy c r :=
  ⟨h'.os.trans h.os, h'.tape.trans h.tape, h'.output.trans h.output, Nat.le_trans h.size h'.size, fun k hk hn => by
    rw [h'.block k (Nat.lt_of_lt_of_le hk h.size) (fun e => by
      rcases hr with hr | hr
      · exact hn (e.trans hr)
      · have := hr k e.symm
        omega)]
    exact h.block k hk hn⟩
theorem ownsN_block {w w' : World} {B T sz n : Nat} {v : Value} {xs : List Value} (h : w.ownsRow B T sz v n xs) (hb : ∀ g, v.ownBlock = some g → w'.heap[g]? = w.heap[g]?) : w'.ownsRow B T sz v n xs := by
  obtain ⟨h1, h2⟩ := h
  refine ⟨h1, ?_⟩
  rcases h2 with h2 | ⟨g, cap, cur, hv, hg, hh, r⟩
  · exact Or.inl h2
  · exact Or.inr ⟨g, cap, cur, hv, hg, by rw [hb g (by rw [hv]; rfl)]; exact hh, r⟩
theorem ownBlockN_lt {w : World} {B T sz n g : Nat} {v : Value} {xs : List Value} (h : w.ownsRow B T sz v n xs) (hg : v.ownBlock = some g) : B ≤ g ∧ g < w.heap.size := by
  rcases h.2 with ⟨h2, _⟩ | ⟨g', cap, cur, hv, hb, hh, r⟩
  · subst h2; cases hg
  · subst hv
    simp only [Value.ownBlock, Option.some.injEq] at hg
    subst hg
    refine ⟨hb, ?_⟩
    rcases Nat.lt_or_ge g' w.heap.size with h | h
    · exact h
    · rw [Array.getElem?_eq_none h] at hh; cases hh
theorem ownsN_below {w w' : World} {B T sz n : Nat} {v : Value} {xs : List Value} (h : w.ownsRow B T sz v n xs) (hb : Below w.heap.size w w') : w'.ownsRow B T sz v n xs :=
  ownsN_block h fun g hg => hb.block g (ownBlockN_lt h hg).2
/-- Another row has grown; this one is none of it. -/
theorem ownsN_grown {w w' : World} {B T sz n : Nat} {v : Value} {xs : List Value} {r : Option Nat} (h : w.ownsRow B T sz v n xs) (hg : w.grownBy w' r) (hr : ∀ g, v.ownBlock = some g → r ≠ some g) : w'.ownsRow B T sz v n xs :=
  ownsN_block h fun g hg' => hg.block g (ownBlockN_lt h hg').2 (fun e => hr g hg' e.symm)
theorem ownsN_form {w : World} {B T sz n : Nat} {v : Value} {xs : List Value} (h : w.ownsRow B T sz v n xs) : ∃ va vc, v = .slice va n vc ∧ n ≤ vc ∧ vc ≤ maxLen := by
  rcases h.2 with ⟨h2, h0⟩ | ⟨g', cap, cur, hv, hb, hh, h1, h2, _⟩
  · exact ⟨none, 0, by rw [h2, h0], by omega, by unfold maxLen; omega⟩
  · exact ⟨_, cap, hv, h1, h2⟩
/-- One cell of the row is written. -/
theorem own_setN {w : World} {B T sz n g cap j : Nat} {xs : List Value} (u : Value) (h : w.ownsRow B T sz (.slice (some ⟨g, 0, none⟩) n cap) n xs) (hj : j < n * sz) :
    (w.setCell ⟨g, j, none⟩ u).ownsRow B T sz (.slice (some ⟨g, 0, none⟩) n cap) n (xs.set j u) := by
  refine ⟨by simp [h.1], Or.inr ?_⟩
  rcases h.2 with ⟨h0, _⟩ | ⟨g', cap', cur, hv, hb, hh, h1, h2, h3, h4⟩
  · cases h0
  · simp only [Value.slice.injEq, Option.some.injEq, Addr.mk.injEq] at hv
    obtain ⟨⟨rfl, _, _⟩, _, rfl⟩ := hv
    refine ⟨g, cap, cur.setIfInBounds j u, rfl, hb, ?_, h1, h2, by simp [h3], ?_⟩
    · simp [World.setCell, Array.getElem?_modify, hh]
    · rw [← h4]
      simp [List.take_set]
def intCells (l : List Nat) : List Value := l.map fun (n : Nat) => Value.int .i64 (n : Int)
theorem intCells_at {l : List Nat} {i n : Nat} (h : l[i]? = some n) : (intCells l)[i]? = some (.int .i64 (n : Int)) := by simp [intCells, h]

end Go.Proofs.YtkoohfkomlmhoacDoor
