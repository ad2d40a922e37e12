/- tree.comesBack of a way whose lists are all others answers false. Of the program's text. -/
/- What the loop of a walk through a tree, with its way down kept in a list, keeps. Of no program. -/
import Derived.Test.YtkoohfkomlmhoacGreatDoorProg
import Derived.Lib.Strings
import Derived.Lib.Slices
import Derived.Lib.Small
import Derived.Lib.Walk
import Derived.Lib.BitFns
import Derived.WalkSpells
import Derived.Deep.QuietTactic
import Derived.BigQuiet
import Derived.WalkSmall
import Derived.LaidEqlPtr
import Derived.Test.YtkoohfkomlmhoacGreatDoorKDP00
import Derived.Test.YtkoohfkomlmhoacGreatDoorKDP04
namespace Go.Proofs.YtkoohfkomlmhoacGreatDoor
open Go.Deep Go.RowKit
set_option linter.unusedVariables false
set_option maxRecDepth 20000

/-- A step of a way: the list's first place, length and capacity, the number that comes next. -/
abbrev St := Addr × Nat × Nat × Nat
def stCells (s : St) : List Value := [.slice (some s.1) s.2.1 s.2.2.1, .int .i64 s.2.2.2]
def wayCells : List St → List Value
  | [] => []
  | s :: l => stCells s ++ wayCells l

end Go.Proofs.YtkoohfkomlmhoacGreatDoor
namespace Go.Proofs.YtkoohfkomlmhoacGreatDoor
open Go.Deep Go.RowKit
set_option linter.unusedVariables false
set_option maxRecDepth 20000

/-- All blocks that were there are as they were, but those of C. -/
structure Keeps (C : List Nat) (w w' : World) : Prop where
  os : w'.os = w.os
  tape : w'.tape = w.tape
  output : w'.output = w.output
  size : w.heap.size ≤ w'.heap.size
  block : ∀ b, b < w.heap.size → ¬ b ∈ C → w'.heap[b]? = w.heap[b]?

theorem Keeps.refl (C : List Nat) (w : World) : Keeps C w w := ⟨rfl, rfl, rfl, Nat.le_refl _, fun _ _ _ => rfl⟩
theorem Keeps.trans {C : List Nat} {a b c : World} (h : Keeps C a b) (k : Keeps C b c) : Keeps C a c :=
  ⟨k.os.trans h.os, k.tape.trans h.tape, k.output.trans h.output, Nat.le_trans h.size k.size, fun i hi hn => (k.block i (Nat.lt_of_lt_of_le hi h.size) hn).trans (h.block i hi hn)⟩
/-- What comes behind w and turns nothing of w's blocks is kept. -/
theorem Keeps.below {C : List Nat} {w a b : World} (h : Keeps C w a) (k : Below w.heap.size a b) : Keeps C w b :=
  ⟨k.os.trans h.os, k.tape.trans h.tape, k.output.trans h.output, Nat.le_trans h.size k.size, fun i hi hn => (k.block i hi).trans (h.block i hi hn)⟩
theorem Keeps.cell {C : List Nat} {w w' : World} (h : Keeps C w w') {p : Addr} (hp : p.block < w.heap.size) (hn : ¬ p.block ∈ C) : w'.cell? p = w.cell? p := World.cell?_of_block (w := w) (h.block p.block hp hn)

theorem FIn.keeps {C : List Nat} {w w' : World} (h : Keeps C w w') : ∀ {f : Fo} {b o : Nat}, (∀ c, c ∈ C → FOff c f) → FIn w f b o → FIn w' f b o
  | .nil, _, _, _, _ => trivial
  | .node b' _ x k r, b, o, hc, ⟨h1, h2, h3, h4, h5, h6, h7, h8, h9⟩ => by
    have hb : b < w.heap.size := World.block_lt_of_cell? _ _ h3
    have hn : ¬ b ∈ C := fun hm => (hc b hm).1 h1
    refine ⟨h1, h2, ?_, ?_, h5, h6, h7, ?_, FIn.keeps h (fun c hm => (hc c hm).2.2) h9⟩
    · rw [h.cell hb hn]; exact h3
    · rw [h.cell hb hn]; exact h4
    · rcases h8 with h8 | ⟨kb, ko, e, h8⟩
      · exact Or.inl h8
      · exact Or.inr ⟨kb, ko, e, FIn.keeps h (fun c hm => (hc c hm).2.1) h8⟩

/-- Labels and how many stand above, each ahead of all beneath it, from the left. -/
def pre : Fo → Nat → List (ByteArray × Nat)
  | .nil, _ => []
  | .node _ _ x k r, d => (x.1, d) :: (pre k (d + 1) ++ pre r d)
theorem fhigh_pos : ∀ f : Fo, 0 < flen f → 0 < fhigh f
  | .nil, h => by simp [flen] at h
  | .node _ _ _ k r, _ => by simp [fhigh]; omega
/-- A step of the way: where its list begins, its capacity, which comes next, the list. -/
abbrev Fr := Addr × Nat × Nat × Fo
def frSt (f : Fr) : St := (f.1, flen f.2.2.2, f.2.1, f.2.2.1)

structure FrOk (C : List Nat) (w : World) (f : Fr) : Prop where
  spot : f.1.spot = none
  pos : 0 < flen f.2.2.2
  len : flen f.2.2.2 ≤ f.2.1
  cap : f.2.1 ≤ maxLen
  next : f.2.2.1 ≤ flen f.2.2.2
  lies : FIn w f.2.2.2 f.1.block f.1.off
  plain : FPlain w f.2.2.2
  off : ∀ c, c ∈ C → FOff c f.2.2.2

structure WInv (C : List Nat) (T H : Nat) (w1 wr : World) (v : Value) (fs : List Fr) : Prop where
  each : ∀ f, f ∈ fs → FrOk C w1 f ∧ fhigh f.2.2.2 ≤ H
  high : ∀ (i j : Nat) (f g : Fr), i < j → fs[i]? = some f → fs[j]? = some g → fhigh g.2.2.2 < fhigh f.2.2.2
  row : wr.ownsRow w1.heap.size T 2 v fs.length (wayCells (fs.map frSt))
  keeps : Keeps C w1 wr

theorem high_len {fs : List Fr} (hp : ∀ f, f ∈ fs → 0 < flen f.2.2.2) (high : ∀ (i j : Nat) (f g : Fr), i < j → fs[i]? = some f → fs[j]? = some g → fhigh g.2.2.2 < fhigh f.2.2.2) :
    ∀ (n i : Nat) (f : Fr), fs.length - i = n → fs[i]? = some f → fs.length - i ≤ fhigh f.2.2.2
  | 0, i, f, hn, hf => by omega
  | n + 1, i, f, hn, hf => by
    by_cases h : i + 1 < fs.length
    · have hg := List.getElem?_eq_getElem h
      have := high_len hp high n (i + 1) _ (by omega) hg
      have := high i (i + 1) f _ (by omega) hf hg
      omega
    · have := fhigh_pos _ (hp f (List.mem_of_getElem? hf))
      omega

theorem WInv.len {C : List Nat} {T H : Nat} {w1 wr : World} {v : Value} {fs : List Fr} (h : WInv C T H w1 wr v fs) : fs.length ≤ H := by
  cases hfs : fs with
  | nil => simp
  | cons f l =>
    have h0 : fs[0]? = some f := by rw [hfs]; rfl
    have := high_len (fun f hf => (h.each f hf).1.pos) h.high _ 0 f rfl h0
    have := (h.each f (by rw [hfs]; simp)).2
    rw [← hfs]
    omega

end Go.Proofs.YtkoohfkomlmhoacGreatDoor
