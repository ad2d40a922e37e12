/- Lists of deeds that lie in memory. Of no program. -/
/- Printed of package pleachingref: the lines of deeds. Of the program's text. -/
import Derived.Test.YtkoohfkomlmhoacDoorKLP12
import Derived.Test.YtkoohfkomlmhoacDoorKLP09
import Derived.Test.YtkoohfkomlmhoacDoorProg
import Derived.Deep.RegionHeld3
import Derived.Test.YtkoohfkomlmhoacDoorKLP16
namespace Go.Proofs.YtkoohfkomlmhoacDoor.Deed
open Go.Deep Go.RowKit
set_option linter.unusedVariables false
set_option maxRecDepth 20000

/-- A deed, and where its path lies. -/
abbrev Pd := Dd × Option Addr × Nat
def pdCell (x : Pd) : List Value := [.int .i64 x.1.kind, .slice x.2.1 x.1.path.length x.2.2, .int .i64 x.1.pos, .int .i64 x.1.many, .string x.1.lab]
def pdCells : List Pd → List Value
  | [] => []
  | x :: l => pdCell x ++ pdCells l
def dds (L : List Pd) : List Dd := L.map (·.1)
theorem dds_len (L : List Pd) : (dds L).length = L.length := by simp [dds]
theorem dds_at {L : List Pd} {i : Nat} {x : Pd} (h : L[i]? = some x) : (dds L)[i]? = some x.1 := by simp [dds, h]
theorem dds_append (a b : List Pd) : dds (a ++ b) = dds a ++ dds b := by simp [dds]
theorem pdCells_length : ∀ l, (pdCells l).length = l.length * 5
  | [] => rfl
  | x :: l => by simp [pdCells, pdCell, pdCells_length l]; omega
theorem pdCells_append : ∀ a b, pdCells (a ++ b) = pdCells a ++ pdCells b
  | [], b => rfl
  | x :: a, b => by simp [pdCells, pdCells_append a b]
theorem pdCells_at : ∀ (l : List Pd) (i : Nat) (x : Pd), l[i]? = some x → ∀ (j : Nat), j < 5 → (pdCells l)[i * 5 + j]? = (pdCell x)[j]?
  | [], i, x, h, j, hj => by simp at h
  | a :: l, 0, x, h, j, hj => by
    simp at h
    subst h
    simp only [pdCells]
    rw [List.getElem?_append_left (by simp [pdCell]; omega)]
    congr 1
    omega
  | a :: l, i + 1, x, h, j, hj => by
    have := pdCells_at l i x (by simpa using h) j hj
    simp only [pdCells]
    rw [List.getElem?_append_right (by simp [pdCell]; omega), ← this]
    congr 1
    simp [pdCell]
    omega
theorem pdCell_one (x : Pd) (u : Value) (h : u ∈ pdCell x) : u.oneCell' = true := by
  simp only [pdCell, List.mem_cons, List.not_mem_nil, or_false] at h
  rcases h with rfl | rfl | rfl | rfl | rfl <;> rfl
/-- Each deed's path lies in memory. -/
def PdsIn (w : World) (L : List Pd) : Prop := ∀ x, x ∈ L → DIn w x.1 x.2.1 x.2.2
theorem PdsIn.below {w w' : World} {L : List Pd} (h : PdsIn w L) (hb : Below w.heap.size w w') : PdsIn w' L := fun x hx => (h x hx).below hb
theorem PdsIn.nil (w : World) : PdsIn w [] := fun x hx => by simp at hx
theorem PdsIn.append {w : World} {L M : List Pd} (h : PdsIn w L) (h' : PdsIn w M) : PdsIn w (L ++ M) := fun x hx => by
  rcases List.mem_append.1 hx with hx | hx
  · exact h x hx
  · exact h' x hx
theorem PdsIn.one {w : World} {x : Pd} (h : DIn w x.1 x.2.1 x.2.2) : PdsIn w [x] := fun y hy => by
  simp at hy
  subst hy
  exact h
/-- The list lies behind the address a. -/
structure DsIn (w : World) (a : Option Addr) (L : List Pd) : Prop where
  lie : L = [] ∨ ∃ b o, a = some ⟨b, o, none⟩ ∧ ∀ j u, (pdCells L)[j]? = some u → w.cell? ⟨b, o + j, none⟩ = some u
  each : PdsIn w L
theorem DsIn.below {w w' : World} {a : Option Addr} {L : List Pd} (h : DsIn w a L) (hb : Below w.heap.size w w') : DsIn w' a L := by
  refine ⟨?_, h.each.below hb⟩
  rcases h.lie with h0 | ⟨b, o, e, h0⟩
  · exact Or.inl h0
  · refine Or.inr ⟨b, o, e, fun j u hu => ?_⟩
    have h1 := h0 j u hu
    rw [hb.cell (World.block_lt_of_cell? _ _ h1)]
    exact h1
theorem DsIn.at {w : World} {a : Option Addr} {L : List Pd} (h : DsIn w a L) {i : Nat} {x : Pd} (hx : L[i]? = some x) : ∃ b o, a = some ⟨b, o, none⟩ ∧ w.cell? ⟨b, o + i * 5, none⟩ = some (.int .i64 x.1.kind) ∧ w.cell? ⟨b, o + i * 5 + 1, none⟩ = some (.slice x.2.1 x.1.path.length x.2.2) ∧ w.cell? ⟨b, o + i * 5 + 2, none⟩ = some (.int .i64 x.1.pos) ∧ w.cell? ⟨b, o + i * 5 + 3, none⟩ = some (.int .i64 x.1.many) ∧ w.cell? ⟨b, o + i * 5 + 4, none⟩ = some (.string x.1.lab) ∧ DIn w x.1 x.2.1 x.2.2 := by
  rcases h.lie with rfl | ⟨b, o, e, h0⟩
  · simp at hx
  · have hj := pdCells_at L i x hx
    have c0 := h0 (i * 5 + 0) (.int .i64 x.1.kind) (by rw [hj 0 (by omega)]; rfl)
    have c1 := h0 (i * 5 + 1) (.slice x.2.1 x.1.path.length x.2.2) (by rw [hj 1 (by omega)]; rfl)
    have c2 := h0 (i * 5 + 2) (.int .i64 x.1.pos) (by rw [hj 2 (by omega)]; rfl)
    have c3 := h0 (i * 5 + 3) (.int .i64 x.1.many) (by rw [hj 3 (by omega)]; rfl)
    have c4 := h0 (i * 5 + 4) (.string x.1.lab) (by rw [hj 4 (by omega)]; rfl)
    exact ⟨b, o, e, c0, by rw [Nat.add_assoc]; exact c1, by rw [Nat.add_assoc]; exact c2, by rw [Nat.add_assoc]; exact c3, by rw [Nat.add_assoc]; exact c4, h.each x (List.mem_of_getElem? hx)⟩
/-- A row that a call owns is such a list. -/
theorem DsIn_of_owns {w : World} {B T n vc : Nat} {va : Option Addr} {L : List Pd} (h : w.ownsRow B T 5 (.slice va n vc) n (pdCells L)) (hd : PdsIn w L) : DsIn w va L := by
  refine ⟨?_, hd⟩
  rcases h.2 with ⟨h2, h0⟩ | ⟨g, cap, cur, hv, hb, hh, r⟩
  · left
    have hl := h.1
    rw [pdCells_length, h0] at hl
    exact List.length_eq_zero_iff.1 (by omega)
  · injection hv with e1 e2 e3
    subst e1 e3
    refine Or.inr ⟨g, 0, rfl, fun j u hu => ?_⟩
    have := ownsRow_cell h j u hu
    simpa [Addr.add] using this
end Go.Proofs.YtkoohfkomlmhoacDoor.Deed
namespace Go.Proofs.YtkoohfkomlmhoacDoor.Pat
open Go.Deep Go.RowKit Deed
set_option linter.unusedVariables false
set_option maxRecDepth 20000

theorem line_len {d : Dd} (h : lineC d = 0) (hp : d.path.length ≤ 10000) (hl : d.lab.size ≤ 100000) : (lineP d).length ≤ 330000 := by
  obtain ⟨h1, h2, h3⟩ := lineC_zero h
  obtain ⟨p, x, y, e1, e2, e3, e4, e5, e6⟩ := above_not h1 h2
  have hin : ∀ n, n ∈ d.path → In64 n := fun n hn => by
    rw [e1] at hn
    unfold ints at hn
    obtain ⟨m, hm, rfl⟩ := List.mem_map.1 hn
    have := e2 m hm
    exact ⟨by omega, by omega⟩
  have q1 := path_len hin
  have q2 := Lib.itoa_length_le d.pos (by omega) (by omega)
  have q3 := Lib.itoa_length_le d.many (by omega) (by omega)
  have q4 : d.lab.data.size = d.lab.size := rfl
  rw [h3]
  unfold wordsP
  split
  · simp only [joinP, nameW, List.length_append, List.length_cons, List.length_nil, Array.length_toList]
    omega
  · split
    · simp only [joinP, delW, List.length_append, List.length_cons, List.length_nil]
      omega
    · simp only [joinP, insW, List.length_append, List.length_cons, List.length_nil, Array.length_toList]
      omega
theorem text_len : ∀ (L : List Dd), (∀ d, d ∈ L → lineC d = 0 ∧ d.path.length ≤ 10000 ∧ d.lab.size ≤ 100000) → (textL L).length ≤ L.length * 330001
  | [], _ => by simp [textL]
  | d :: L, h => by
    have h1 := h d (by simp)
    have h2 := line_len h1.1 h1.2.1 h1.2.2
    have h3 := text_len L (fun x hx => h x (by simp [hx]))
    have e : textL (d :: L) = (lineP d ++ [10]) ++ textL L := by simp [textL]
    rw [e]
    simp only [List.length_append, List.length_cons, List.length_nil]
    omega
theorem text_snoc (L : List Dd) (d : Dd) : textL (L ++ [d]) = textL L ++ (lineP d ++ [10]) := by simp [textL]
theorem printP_many {L : List Dd} (h : 80 < L.length) : printP L = ([], 2, -1) := by unfold printP; rw [if_pos h]
theorem printP_bad {L : List Dd} (h : ¬ 80 < L.length) {i : Nat} {d : Dd} (h0 : ∀ x, x ∈ L.take i → lineC x = 0) (hd : L[i]? = some d) (hc : lineC d ≠ 0) : printP L = ([], lineC d, (i : Int)) := by
  unfold printP
  rw [if_neg h, bad_at h0 hd hc]
  simp
theorem printP_all {L : List Dd} (h : ¬ 80 < L.length) (h0 : ∀ x, x ∈ L → lineC x = 0) : printP L = (textL L, 0, 0) := by
  unfold printP
  rw [if_neg h, none_bad h0]

end Go.Proofs.YtkoohfkomlmhoacDoor.Pat
