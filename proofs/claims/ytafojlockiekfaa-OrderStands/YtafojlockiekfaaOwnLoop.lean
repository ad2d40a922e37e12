/- What the loops of tree.Own keep: lists that are new but whose kids are still the old ones, and what comes of the whole when all of them are done. Of no program. -/
import Derived.Test.YtafojlockiekfaaFo2
import Derived.Test.YtafojlockiekfaaOwnInv
namespace Go.Proofs.Ytafojlockiekfaa
open Go.Deep Go.RowKit
set_option linter.unusedVariables false
set_option maxRecDepth 20000

/-- All labels of a forest are of 1000 bytes at most. -/
def SmallF : Fo → Prop
  | .nil => True
  | .node _ _ x k r => x.1.size ≤ 1000 ∧ SmallF k ∧ SmallF r

/-- In w, from block g on, a forest lies that is S but for where it lies; all of it from block B on, in blocks without a mark. -/
def Reads (B : Nat) (w : World) (g : Nat) (S : Fo) : Prop := ∃ F, FIn w F g 0 ∧ strip F = S ∧ FFrom B F ∧ FPlain w F

/-- A list that is new, in block g, whose items still have the old kids. -/
abbrev Pd := Nat × List It
def pdCell (p : Pd) : Value := .slice (some ⟨p.1, 0, none⟩) p.2.length p.2.length
def itNodes : List It → Nat
  | [] => 0
  | i :: l => 1 + fnodes i.2.2.2 + itNodes l
def pTot : List Pd → Nat
  | [] => 0
  | p :: l => itNodes p.2 + pTot l

theorem itNodes_len : ∀ l : List It, l.length ≤ itNodes l
  | [] => Nat.le_refl _
  | i :: l => by have := itNodes_len l; simp [itNodes]; omega
theorem itNodes_items : ∀ f : Fo, itNodes (itemsF f) = fnodes f
  | .nil => rfl
  | .node _ _ x k r => by simp [itemsF, itNodes, fnodes, itNodes_items r]; omega
theorem pTot_append : ∀ (a b : List Pd), pTot (a ++ b) = pTot a + pTot b
  | [], b => by simp [pTot]
  | p :: a, b => by simp [pTot, pTot_append a b]; omega
theorem pTot_len : ∀ l : List Pd, (∀ p, p ∈ l → 0 < p.2.length) → l.length ≤ pTot l
  | [], _ => Nat.le_refl _
  | p :: l, h => by
    have h1 := pTot_len l (fun q hq => h q (by simp [hq]))
    have h2 := h p (by simp)
    have h3 := itNodes_len p.2
    simp [pTot]
    omega

/-- An item that has been made new: its label, and its new list if it has kids. -/
abbrev Ni := ByteArray × Option Pd
def niKids : Option Pd → Value
  | none => .slice none 0 0
  | some p => pdCell p
def niCells (n : Ni) : List Value := [.string n.1, niKids n.2]
def rowNew : List Ni → List Value
  | [] => []
  | n :: l => niCells n ++ rowNew l
def newPd : List Ni → List Pd
  | [] => []
  | n :: l => n.2.toList ++ newPd l

theorem rowNew_append : ∀ (l : List Ni) (n : Ni), rowNew (l ++ [n]) = rowNew l ++ niCells n
  | [], n => by simp [rowNew]
  | a :: l, n => by simp [rowNew, rowNew_append l n]
theorem rowNew_length : ∀ l : List Ni, (rowNew l).length = l.length * 2
  | [] => rfl
  | a :: l => by simp [rowNew, niCells, rowNew_length l]; omega
theorem newPd_append : ∀ (l : List Ni) (n : Ni), newPd (l ++ [n]) = newPd l ++ n.2.toList
  | [], n => by simp [newPd]
  | a :: l, n => by simp [newPd, newPd_append l n]

/-- The new ones are of the old ones. -/
def Match : List It → List Ni → Prop
  | [], [] => True
  | i :: l, n :: m => (n.1 = i.1 ∧ ((flen i.2.2.2 = 0 ∧ n.2 = none) ∨ (0 < flen i.2.2.2 ∧ ∃ g, n.2 = some (g, itemsF i.2.2.2)))) ∧ Match l m
  | _, _ => False

theorem Match.length : ∀ {l : List It} {m : List Ni}, Match l m → l.length = m.length
  | [], [], _ => rfl
  | _ :: l, _ :: m, h => by simp [Match.length h.2]
  | [], _ :: _, h => h.elim
  | _ :: _, [], h => h.elim
theorem Match.snoc : ∀ {l : List It} {m : List Ni} {i : It} {n : Ni}, Match l m → (n.1 = i.1 ∧ ((flen i.2.2.2 = 0 ∧ n.2 = none) ∨ (0 < flen i.2.2.2 ∧ ∃ g, n.2 = some (g, itemsF i.2.2.2)))) → Match (l ++ [i]) (m ++ [n])
  | [], [], _, _, _, h => ⟨h, trivial⟩
  | _ :: l, _ :: m, _, _, h, h' => ⟨h.1, Match.snoc h.2 h'⟩
  | [], _ :: _, _, _, h, _ => h.elim
  | _ :: _, [], _, _, h, _ => h.elim
theorem Match.tot : ∀ {l : List It} {m : List Ni}, Match l m → pTot (newPd m) + l.length ≤ itNodes l
  | [], [], _ => Nat.le_refl _
  | i :: l, n :: m, ⟨⟨h1, h2⟩, h⟩ => by
    have := Match.tot h
    rcases h2 with ⟨_, e⟩ | ⟨_, g, e⟩
    · simp [newPd, e, itNodes]; omega
    · simp [newPd, e, itNodes, pTot, itNodes_items]; omega
  | [], _ :: _, h => h.elim
  | _ :: _, [], h => h.elim

/-- What becomes of a row when all its new lists are done. -/
theorem match_items {B : Nat} {w : World} : ∀ {l : List It} {m : List Ni}, Match l m → (∀ i, i ∈ l → i.1.size ≤ maxLen ∧ fnodes i.2.2.2 ≤ maxLen) → (∀ p, p ∈ newPd m → Reads B w p.1 (strip (joinF p.2 .nil))) →
    ∃ L : List It, rowCells L = rowNew m ∧ (∀ i, i ∈ L → ItIn w i ∧ FFrom B i.2.2.2 ∧ FPlain w i.2.2.2) ∧ strip (joinF L .nil) = strip (joinF l .nil)
  | [], [], _, _, _ => ⟨[], rfl, fun _ h => by simp at h, rfl⟩
  | i :: l, n :: m, ⟨⟨h1, h2⟩, h⟩, hs, hr => by
    obtain ⟨L, e1, e2, e3⟩ := match_items h (fun q hq => hs q (by simp [hq])) (fun p hp => hr p (by simp [newPd, hp]))
    rcases h2 with ⟨h0, e⟩ | ⟨h0, g, e⟩
    · refine ⟨(i.1, none, 0, .nil) :: L, by simp [rowCells, rowNew, e1, itCells, niCells, h1, e, niKids, flen], fun q hq => ?_, ?_⟩
      · rcases List.mem_cons.1 hq with rfl | hq
        · exact ⟨⟨(hs i (by simp)).1, Nat.le_refl _, Nat.zero_le _, Or.inl rfl⟩, trivial, trivial⟩
        · exact e2 q hq
      · have hk : i.2.2.2 = .nil := by
          cases hi : i.2.2.2 with
          | nil => rfl
          | node _ _ _ _ _ => rw [hi] at h0; simp [flen] at h0
        simp [joinF, strip, e3, hk]
    · obtain ⟨F, f1, f2, f3, f4⟩ := hr (g, itemsF i.2.2.2) (by simp [newPd, e])
      simp only at f1 f2
      rw [joinF_items] at f2
      have fl := flen_of_strip f2
      refine ⟨(i.1, some ⟨g, 0, none⟩, flen i.2.2.2, F) :: L, by simp [rowCells, rowNew, e1, itCells, niCells, h1, e, niKids, pdCell, itemsF_length, fl], fun q hq => ?_, ?_⟩
      · rcases List.mem_cons.1 hq with rfl | hq
        · exact ⟨⟨(hs i (by simp)).1, by simp only; omega, Nat.le_trans (flen_le_nodes _) (hs i (by simp)).2, Or.inr ⟨g, 0, rfl, f1⟩⟩, f3, f4⟩
        · exact e2 q hq
      · simp [joinF, strip, e3, f2]
  | [], _ :: _, h, _, _ => h.elim
  | _ :: _, [], h, _, _ => h.elim

/-- The row, read. -/
theorem reads_row {B : Nat} {w : World} {g T : Nat} {l : List It} {m : List Ni} (hB : B ≤ g) (hm : Match l m) (hs : ∀ i, i ∈ l → i.1.size ≤ maxLen ∧ fnodes i.2.2.2 ≤ maxLen) (hr : ∀ p, p ∈ newPd m → Reads B w p.1 (strip (joinF p.2 .nil)))
    (hg : w.heap[g]? = some (.cells (rowNew m).toArray T (0, 0))) : Reads B w g (strip (joinF l .nil)) := by
  obtain ⟨L, e1, e2, e3⟩ := match_items hm hs hr
  refine ⟨place g 0 L, place_in L 0 (fun i hi => (e2 i hi).1) (fun j u hu => ?_), by rw [strip_place, e3], place_from hB L 0 fun i hi => (e2 i hi).2.1, place_plain ⟨_, _, hg⟩ L 0 fun i hi => (e2 i hi).2.2⟩
  rw [Nat.zero_add, cell_of_row w g j _ T (0, 0) hg]
  rw [e1] at hu
  simpa using hu

/-- What is asked of a list that is new. -/
structure PdOk (w0 wr : World) (T : Nat) (p : Pd) : Prop where
  from' : w0.heap.size ≤ p.1
  row : wr.heap[p.1]? = some (.cells (rowCells p.2).toArray T (0, 0))
  pos : 0 < p.2.length
  each : ∀ i, i ∈ p.2 → ItIn w0 i ∧ i.1.size ≤ 1000 ∧ SmallF i.2.2.2

/-- What the outer loop keeps: w0 is the world in which the call began; rb: the root's list, of which T is to be read. -/
structure OInv (T T' : Nat) (w0 wr : World) (v : Value) (pend : List Pd) (done : List Nat) (rb : Nat) (S : Fo) : Prop where
  row : wr.ownsRow w0.heap.size T' 1 v pend.length (pend.map pdCell)
  each : ∀ p, p ∈ pend → PdOk w0 wr T p
  apart : (pend.map (·.1) ++ done).Nodup
  vout : ∀ g, v.ownBlock = some g → ¬ g ∈ pend.map (·.1) ++ done
  lt : ∀ b, b ∈ done → b < wr.heap.size
  below : Below w0.heap.size w0 wr
  wand : ∀ w', Below w0.heap.size w0 w' → (∀ b, b ∈ done → w'.heap[b]? = wr.heap[b]?) → (∀ p, p ∈ pend → Reads w0.heap.size w' p.1 (strip (joinF p.2 .nil))) → Reads w0.heap.size w' rb S

end Go.Proofs.Ytafojlockiekfaa
