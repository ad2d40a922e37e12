/- Many deeds as many lines, there and back: bytes and numbers alone. Of no program. -/
/- Lists of deeds that lie in memory. Of no program. -/
import Derived.Test.YtkoohfkomlmhoacGreatDoorKDP07
import Derived.Test.YtkoohfkomlmhoacGreatDoorKDP13
import Derived.Test.YtkoohfkomlmhoacGreatDoorKDP10
namespace Go.Proofs.YtkoohfkomlmhoacGreatDoor.Pat
open Go.Deep Go.RowKit Deed
set_option linter.unusedVariables false
set_option maxRecDepth 20000

/-- The code of the first that has one, and its number. -/
def firstBad {α : Type} (f : α → Int) : List α → Nat → Option (Int × Nat)
  | [], _ => none
  | x :: l, i => if f x ≠ 0 then some (f x, i) else firstBad f l (i + 1)
theorem bad_none {α : Type} {f : α → Int} : ∀ {l : List α} {i : Nat}, firstBad f l i = none → ∀ x, x ∈ l → f x = 0
  | [], _, _, x, h => by simp at h
  | y :: l, i, h, x, hx => by
    unfold firstBad at h
    split at h
    · cases h
    · rename_i h0
      rcases List.mem_cons.1 hx with rfl | hx
      · simpa using h0
      · exact bad_none h x hx
theorem none_bad {α : Type} {f : α → Int} : ∀ {l : List α} {i : Nat}, (∀ x, x ∈ l → f x = 0) → firstBad f l i = none
  | [], _, _ => rfl
  | y :: l, i, h => by
    unfold firstBad
    rw [if_neg (by rw [h y (by simp)]; simp), none_bad (fun x hx => h x (by simp [hx]))]
theorem bad_at {α : Type} {f : α → Int} : ∀ {l : List α} {k i : Nat} {x : α}, (∀ y, y ∈ l.take k → f y = 0) → l[k]? = some x → f x ≠ 0 → firstBad f l i = some (f x, i + k)
  | [], k, i, x, _, h, _ => by simp at h
  | y :: l, 0, i, x, _, h, hf => by
    simp only [List.getElem?_cons_zero, Option.some.injEq] at h
    subst h
    unfold firstBad
    rw [if_pos hf]
    rfl
  | y :: l, k + 1, i, x, h0, h, hf => by
    unfold firstBad
    rw [if_neg (by rw [h0 y (by simp)]; simp), bad_at (k := k) (fun z hz => h0 z (by simp [hz])) (by simpa using h) hf]
    congr 2
    omega
def textL (L : List Dd) : List UInt8 := L.flatMap fun d => lineP d ++ [10]
/-- What Print tells: the text, a code, where. -/
def printP (L : List Dd) : List UInt8 × Int × Int :=
  if 80 < L.length then ([], 2, -1) else match firstBad lineC L 0 with
    | some (c, i) => ([], c, (i : Int))
    | none => (textL L, 0, 0)
/-- What Parse tells. -/
def parseP (s : List UInt8) : List Dd × Int × Int :=
  if s = [] then ([], 0, 0)
  else if (cutP 10 s).getLastD [] ≠ [] then ([], 5, (((cutP 10 s).length - 1 : Nat) : Int))
  else if 80 < (cutP 10 s).length - 1 then ([], 2, -1)
  else match firstBad deedC (cutP 10 s).dropLast 0 with
    | some (c, i) => ([], c, (i : Int))
    | none => ((cutP 10 s).dropLast.map deedP, 0, 0)
theorem cut_text : ∀ (L : List Dd), (∀ d, d ∈ L → lineC d = 0) → cutP 10 (textL L) = L.map lineP ++ [[]]
  | [], _ => rfl
  | d :: L, h => by
    have : textL (d :: L) = lineP d ++ 10 :: textL L := by simp [textL]
    rw [this, cut_append 10 _ _ (deed_line (h d (by simp))).2.2, cut_text L (fun x hx => h x (by simp [hx]))]
    rfl
theorem print_zero {L : List Dd} (h : (printP L).2 = (0, 0)) : L.length ≤ 80 ∧ (∀ d, d ∈ L → lineC d = 0) ∧ (printP L).1 = textL L := by
  unfold printP at h ⊢
  split at h
  · cases h
  · rename_i hl
    split at h
    · rename_i c i hb
      exfalso
      simp only [Prod.mk.injEq] at h
      have key : ∀ (l : List Dd) (k : Nat), firstBad lineC l k = some (c, i) → c ≠ 0 := fun l => by
        induction l with
        | nil => intro k hk; simp [firstBad] at hk
        | cons y l ih =>
          intro k hk
          unfold firstBad at hk
          split at hk
          · rename_i h0
            simp only [Option.some.injEq, Prod.mk.injEq] at hk
            rw [← hk.1]
            exact h0
          · exact ih _ hk
      exact key L 0 hb h.1
    · rename_i hb
      rw [if_neg hl]
      simp only
      exact ⟨by omega, bad_none hb, trivial⟩
/-- What was printed is read as it was. -/
theorem parse_print {L : List Dd} (h : (printP L).2 = (0, 0)) : parseP (printP L).1 = (L, 0, 0) := by
  obtain ⟨h1, h2, h3⟩ := print_zero h
  rw [h3]
  have hc := cut_text L h2
  unfold parseP
  cases L with
  | nil => rfl
  | cons d L =>
    have hne : textL (d :: L) ≠ [] := by simp [textL]
    rw [if_neg hne, hc]
    have hlen : ((d :: L).map lineP ++ [[]]).length - 1 = (d :: L).length := by simp
    rw [if_neg (by rw [List.getLastD_eq_getLast?, List.getLast?_concat]; simp), hlen, if_neg (by omega)]
    rw [List.dropLast_concat, none_bad (fun x hx => by
      obtain ⟨y, hy, rfl⟩ := List.mem_map.1 hx
      exact (deed_line (h2 y hy)).1)]
    simp only [List.map_map]
    have : (d :: L).map (deedP ∘ lineP) = (d :: L).map id := List.map_congr_left fun y hy => (deed_line (h2 y hy)).2.1
    rw [this, List.map_id]
theorem parse_zero {s : List UInt8} (h : (parseP s).2 = (0, 0)) : (s = [] ∧ (parseP s).1 = []) ∨ (s ≠ [] ∧ (cutP 10 s).getLastD [] = [] ∧ (cutP 10 s).length - 1 ≤ 80 ∧ (∀ p, p ∈ (cutP 10 s).dropLast → deedC p = 0) ∧ (parseP s).1 = (cutP 10 s).dropLast.map deedP) := by
  unfold parseP at h ⊢
  split at h
  · rename_i hs
    rw [if_pos hs]
    exact Or.inl ⟨hs, rfl⟩
  · rename_i hs
    rw [if_neg hs]
    split at h
    · simp only [Prod.mk.injEq] at h
      omega
    · rename_i hl
      rw [if_neg hl]
      split at h
      · simp only [Prod.mk.injEq] at h
        omega
      · rename_i hm
        rw [if_neg hm]
        split at h
        · rename_i c i hb
          exfalso
          simp only [Prod.mk.injEq] at h
          have key : ∀ (l : List (List UInt8)) (k : Nat), firstBad deedC l k = some (c, i) → c ≠ 0 := fun l => by
            induction l with
            | nil => intro k hk; simp [firstBad] at hk
            | cons y l ih =>
              intro k hk
              unfold firstBad at hk
              split at hk
              · rename_i h0
                simp only [Option.some.injEq, Prod.mk.injEq] at hk
                rw [← hk.1]
                exact h0
              · exact ih _ hk
          exact key _ 0 hb h.1
        · rename_i hb
          simp only
          exact Or.inr ⟨hs, by simpa using hl, by omega, bad_none hb, trivial⟩
end Go.Proofs.YtkoohfkomlmhoacGreatDoor.Pat
namespace Go.Proofs.YtkoohfkomlmhoacGreatDoor.Deed
open Go.Deep Go.RowKit
set_option linter.unusedVariables false
set_option maxRecDepth 20000

/-- A deed, and where its path lies. -/
abbrev Pd := Dd × Option Addr × Nat
def pdCell (x : Pd) : List Value := [.int .i64 x.1.kind, .slice x.2.1 x.1.path.length x.2.2, .int .i64 x.1.pos, .int .i64 x.1.many, .string x.1.lab]
def pdCells : List Pd → List Value
  | [] => []
  | x :: l => pdCell x ++ pdCells l
def dds (L : List Pd) : List Dd := L.map (·.1)
theorem dds_len (L : List Pd) : (dds L).length = L.length := by simp [dds]
theorem dds_at {L : List Pd} {i : Nat} {x : Pd} (h : L[i]? = some x) : (dds L)[i]? = some x.1 := by simp [dds, h]
theorem dds_append (a b : List Pd) : dds (a ++ b) = dds a ++ dds b := by simp [dds]
theorem pdCells_length : ∀ l, (pdCells l).length = l.length * 5
  | [] => rfl
  | x :: l => by simp [pdCells, pdCell, pdCells_length l]; omega
theorem pdCells_append : ∀ a b, pdCells (a ++ b) = pdCells a ++ pdCells b
  | [], b => rfl
  | x :: a, b => by simp [pdCells, pdCells_append a b]
theorem pdCells_at : ∀ (l : List Pd) (i : Nat) (x : Pd), l[i]? = some x → ∀ (j : Nat), j < 5 → (pdCells l)[i * 5 + j]? = (pdCell x)[j]?
  | [], i, x, h, j, hj => by simp at h
  | a :: l, 0, x, h, j, hj => by
    simp at h
    subst h
    simp only [pdCells]
    rw [List.getElem?_append_left (by simp [pdCell]; omega)]
    congr 1
    omega
  | a :: l, i + 1, x, h, j, hj => by
    have := pdCells_at l i x (by simpa using h) j hj
    simp only [pdCells]
    rw [List.getElem?_append_right (by simp [pdCell]; omega), ← this]
    congr 1
    simp [pdCell]
    omega
theorem pdCell_one (x : Pd) (u : Value) (h : u ∈ pdCell x) : u.oneCell' = true := by
  simp only [pdCell, List.mem_cons, List.not_mem_nil, or_false] at h
  rcases h with rfl | rfl | rfl | rfl | rfl <;> rfl
/-- Each deed's path lies in memory. -/
def PdsIn (w : World) (L : List Pd) : Prop := ∀ x, x ∈ L → DIn w x.1 x.2.1 x.2.2
theorem PdsIn.below {w w' : World} {L : List Pd} (h : PdsIn w L) (hb : Below w.heap.size w w') : PdsIn w' L := fun x hx => (h x hx).below hb
theorem PdsIn.nil (w : World) : PdsIn w [] := fun x hx => by simp at hx
theorem PdsIn.append {w : World} {L M : List Pd} (h : PdsIn w L) (h' : PdsIn w M) : PdsIn w (L ++ M) := fun x hx => by
  rcases List.mem_append.1 hx with hx | hx
  · exact h x hx
  · exact h' x hx
theorem PdsIn.one {w : World} {x : Pd} (h : DIn w x.1 x.2.1 x.2.2) : PdsIn w [x] := fun y hy => by
  simp at hy
  subst hy
  exact h
/-- The list lies behind the address a. -/
structure DsIn (w : World) (a : Option Addr) (L : List Pd) : Prop where
  lie : L = [] ∨ ∃ b o, a = some ⟨b, o, none⟩ ∧ ∀ j u, (pdCells L)[j]? = some u → w.cell? ⟨b, o + j, none⟩ = some u
  each : PdsIn w L
theorem DsIn.below {w w' : World} {a : Option Addr} {L : List Pd} (h : DsIn w a L) (hb : Below w.heap.size w w') : DsIn w' a L := by
  refine ⟨?_, h.each.below hb⟩
  rcases h.lie with h0 | ⟨b, o, e, h0⟩
  · exact Or.inl h0
  · refine Or.inr ⟨b, o, e, fun j u hu => ?_⟩
    have h1 := h0 j u hu
    rw [hb.cell (World.block_lt_of_cell? _ _ h1)]
    exact h1
theorem DsIn.at {w : World} {a : Option Addr} {L : List Pd} (h : DsIn w a L) {i : Nat} {x : Pd} (hx : L[i]? = some x) : ∃ b o, a = some ⟨b, o, none⟩ ∧ w.cell? ⟨b, o + i * 5, none⟩ = some (.int .i64 x.1.kind) ∧ w.cell? ⟨b, o + i * 5 + 1, none⟩ = some (.slice x.2.1 x.1.path.length x.2.2) ∧ w.cell? ⟨b, o + i * 5 + 2, none⟩ = some (.int .i64 x.1.pos) ∧ w.cell? ⟨b, o + i * 5 + 3, none⟩ = some (.int .i64 x.1.many) ∧ w.cell? ⟨b, o + i * 5 + 4, none⟩ = some (.string x.1.lab) ∧ DIn w x.1 x.2.1 x.2.2 := by
  rcases h.lie with rfl | ⟨b, o, e, h0⟩
  · simp at hx
  · have hj := pdCells_at L i x hx
    have c0 := h0 (i * 5 + 0) (.int .i64 x.1.kind) (by rw [hj 0 (by omega)]; rfl)
    have c1 := h0 (i * 5 + 1) (.slice x.2.1 x.1.path.length x.2.2) (by rw [hj 1 (by omega)]; rfl)
    have c2 := h0 (i * 5 + 2) (.int .i64 x.1.pos) (by rw [hj 2 (by omega)]; rfl)
    have c3 := h0 (i * 5 + 3) (.int .i64 x.1.many) (by rw [hj 3 (by omega)]; rfl)
    have c4 := h0 (i * 5 + 4) (.string x.1.lab) (by rw [hj 4 (by omega)]; rfl)
    exact ⟨b, o, e, c0, by rw [Nat.add_assoc]; exact c1, by rw [Nat.add_assoc]; exact c2, by rw [Nat.add_assoc]; exact c3, by rw [Nat.add_assoc]; exact c4, h.each x (List.mem_of_getElem? hx)⟩
/-- A row that a call owns is such a list. -/
theorem DsIn_of_owns {w : World} {B T n vc : Nat} {va : Option Addr} {L : List Pd} (h : w.ownsRow B T 5 (.slice va n vc) n (pdCells L)) (hd : PdsIn w L) : DsIn w va L := by
  refine ⟨?_, hd⟩
  rcases h.2 with ⟨h2, h0⟩ | ⟨g, cap, cur, hv, hb, hh, r⟩
  · left
    have hl := h.1
    rw [pdCells_length, h0] at hl
    exact List.length_eq_zero_iff.1 (by omega)
  · injection hv with e1 e2 e3
    subst e1 e3
    refine Or.inr ⟨g, 0, rfl, fun j u hu => ?_⟩
    have := ownsRow_cell h j u hu
    simpa [Addr.add] using this
end Go.Proofs.YtkoohfkomlmhoacGreatDoor.Deed
