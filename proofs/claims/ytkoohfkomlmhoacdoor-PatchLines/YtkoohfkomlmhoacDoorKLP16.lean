/- The line of a deed by cases; what is kept of a deed's box. -/
/- Many deeds as many lines, there and back: bytes and numbers alone. Of no program. -/
import Derived.Test.YtkoohfkomlmhoacDoorProg
import Derived.Test.YtkoohfkomlmhoacDoorKLP07
import Derived.Test.YtkoohfkomlmhoacDoorKLP12
import Derived.Test.YtkoohfkomlmhoacDoorKLP06
namespace Go.Proofs.YtkoohfkomlmhoacDoor.Pat
open Go.Deep Go.RowKit Deed
set_option linter.unusedVariables false
set_option maxRecDepth 20000

theorem lineC_fault {d : Dd} (h : deedFault d ≠ 0) : lineC d = deedFault d ∧ lineP d = [] := by
  have h1 : lineC d = deedFault d := by unfold lineC; rw [if_pos h]
  exact ⟨h1, by unfold lineP; rw [h1, if_neg h]⟩
theorem lineC_above {d : Dd} (h : deedFault d = 0) (h2 : above d = true) : lineC d = 9 ∧ lineP d = [] := by
  have h1 : lineC d = 9 := by unfold lineC; rw [if_neg (by rw [h]; simp), if_pos h2]
  exact ⟨h1, by unfold lineP; rw [h1, if_neg (by decide)]⟩
theorem lineC_good {d : Dd} (h : deedFault d = 0) (h2 : above d = false) : lineC d = 0 ∧ lineP d = joinP 32 (wordsP d) := by
  have h1 : lineC d = 0 := by unfold lineC; rw [if_neg (by rw [h]; simp), if_neg (by rw [h2]; simp)]
  exact ⟨h1, by unfold lineP; rw [h1, if_pos rfl]⟩
/-- What is kept of a deed's box. -/
abbrev BoxD (b : Nat) (d : Dd) (pa : Option Addr) (pc : Nat) (W w' : World) : Prop :=
  Below W.heap.size W w' ∧ w'.cell? ⟨b, 1, none⟩ = some (.slice pa d.path.length pc) ∧ w'.cell? ⟨b, 2, none⟩ = some (.int .i64 d.pos) ∧ w'.cell? ⟨b, 3, none⟩ = some (.int .i64 d.many) ∧ w'.cell? ⟨b, 4, none⟩ = some (.string d.lab)
theorem BoxD.on {b : Nat} {d : Dd} {pa : Option Addr} {pc : Nat} {W w1 w2 : World} (h : BoxD b d pa pc W w1) (hb : Below w1.heap.size w1 w2) : BoxD b d pa pc W w2 := by
  obtain ⟨h1, h2, h3, h4, h5⟩ := h
  have hl := World.block_lt_of_cell? _ _ h2
  exact ⟨h1.trans (hb.mono h1.size), by rw [hb.cell (p := ⟨b, 1, none⟩) hl]; exact h2, by rw [hb.cell (p := ⟨b, 2, none⟩) hl]; exact h3, by rw [hb.cell (p := ⟨b, 3, none⟩) hl]; exact h4, by rw [hb.cell (p := ⟨b, 4, none⟩) hl]; exact h5⟩
theorem path_len {L : List Int} (h : ∀ n, n ∈ L → In64 n) : (pathTxt L).length ≤ L.length * 22 + 1 := by
  unfold pathTxt
  split
  · simp
  · have := dotted_len L h
    unfold dotted at this
    omega
end Go.Proofs.YtkoohfkomlmhoacDoor.Pat
namespace Go.Proofs.YtkoohfkomlmhoacDoor.Pat
open Go.Deep Go.RowKit Deed
set_option linter.unusedVariables false
set_option maxRecDepth 20000

/-- The code of the first that has one, and its number. -/
def firstBad {α : Type} (f : α → Int) : List α → Nat → Option (Int × Nat)
  | [], _ => none
  | x :: l, i => if f x ≠ 0 then some (f x, i) else firstBad f l (i + 1)
theorem bad_none {α : Type} {f : α → Int} : ∀ {l : List α} {i : Nat}, firstBad f l i = none → ∀ x, x ∈ l → f x = 0
  | [], _, _, x, h => by simp at h
  | y :: l, i, h, x, hx => by
    unfold firstBad at h
    split at h
    · cases h
    · rename_i h0
      rcases List.mem_cons.1 hx with rfl | hx
      · simpa using h0
      · exact bad_none h x hx
theorem none_bad {α : Type} {f : α → Int} : ∀ {l : List α} {i : Nat}, (∀ x, x ∈ l → f x = 0) → firstBad f l i = none
  | [], _, _ => rfl
  | y :: l, i, h => by
    unfold firstBad
    rw [if_neg (by rw [h y (by simp)]; simp), none_bad (fun x hx => h x (by simp [hx]))]
theorem bad_at {α : Type} {f : α → Int} : ∀ {l : List α} {k i : Nat} {x : α}, (∀ y, y ∈ l.take k → f y = 0) → l[k]? = some x → f x ≠ 0 → firstBad f l i = some (f x, i + k)
  | [], k, i, x, _, h, _ => by simp at h
  | y :: l, 0, i, x, _, h, hf => by
    simp only [List.getElem?_cons_zero, Option.some.injEq] at h
    subst h
    unfold firstBad
    rw [if_pos hf]
    rfl
  | y :: l, k + 1, i, x, h0, h, hf => by
    unfold firstBad
    rw [if_neg (by rw [h0 y (by simp)]; simp), bad_at (k := k) (fun z hz => h0 z (by simp [hz])) (by simpa using h) hf]
    congr 2
    omega
def textL (L : List Dd) : List UInt8 := L.flatMap fun d => lineP d ++ [10]
/-- What Print tells: the text, a code, where. -/
def printP (L : List Dd) : List UInt8 × Int × Int :=
  if 80 < L.length then ([], 2, -1) else match firstBad lineC L 0 with
    | some (c, i) => ([], c, (i : Int))
    | none => (textL L, 0, 0)
/-- What Parse tells. -/
def parseP (s : List UInt8) : List Dd × Int × Int :=
  if s = [] then ([], 0, 0)
  else if (cutP 10 s).getLastD [] ≠ [] then ([], 5, (((cutP 10 s).length - 1 : Nat) : Int))
  else if 80 < (cutP 10 s).length - 1 then ([], 2, -1)
  else match firstBad deedC (cutP 10 s).dropLast 0 with
    | some (c, i) => ([], c, (i : Int))
    | none => ((cutP 10 s).dropLast.map deedP, 0, 0)
theorem cut_text : ∀ (L : List Dd), (∀ d, d ∈ L → lineC d = 0) → cutP 10 (textL L) = L.map lineP ++ [[]]
  | [], _ => rfl
  | d :: L, h => by
    have : textL (d :: L) = lineP d ++ 10 :: textL L := by simp [textL]
    rw [this, cut_append 10 _ _ (deed_line (h d (by simp))).2.2, cut_text L (fun x hx => h x (by simp [hx]))]
    rfl
theorem print_zero {L : List Dd} (h : (printP L).2 = (0, 0)) : L.length ≤ 80 ∧ (∀ d, d ∈ L → lineC d = 0) ∧ (printP L).1 = textL L := by
  unfold printP at h ⊢
  split at h
  · cases h
  · rename_i hl
    split at h
    · rename_i c i hb
      exfalso
      simp only [Prod.mk.injEq] at h
      have key : ∀ (l : List Dd) (k : Nat), firstBad lineC l k = some (c, i) → c ≠ 0 := fun l => by
        induction l with
        | nil => intro k hk; simp [firstBad] at hk
        | cons y l ih =>
          intro k hk
          unfold firstBad at hk
          split at hk
          · rename_i h0
            simp only [Option.some.injEq, Prod.mk.injEq] at hk
            rw [← hk.1]
            exact h0
          · exact ih _ hk
      exact key L 0 hb h.1
    · rename_i hb
      rw [if_neg hl]
      simp only
      exact ⟨by omega, bad_none hb, trivial⟩
/-- What was printed is read as it was. -/
theorem parse_print {L : List Dd} (h : (printP L).2 = (0, 0)) : parseP (printP L).1 = (L, 0, 0) := by
  obtain ⟨h1, h2, h3⟩ := print_zero h
  rw [h3]
  have hc := cut_text L h2
  unfold parseP
  cases L with
  | nil => rfl
  | cons d L =>
    have hne : textL (d :: L) ≠ [] := by simp [textL]
    rw [if_neg hne, hc]
    have hlen : ((d :: L).map lineP ++ [[]]).length - 1 = (d :: L).length := by simp
    rw [if_neg (by rw [List.getLastD_eq_getLast?, List.getLast?_concat]; simp), hlen, if_neg (by omega)]
    rw [List.dropLast_concat, none_bad (fun x hx => by
      obtain ⟨y, hy, rfl⟩ := List.mem_map.1 hx
      exact (deed_line (h2 y hy)).1)]
    simp only [List.map_map]
    have : (d :: L).map (deedP ∘ lineP) = (d :: L).map id := List.map_congr_left fun y hy => (deed_line (h2 y hy)).2.1
    rw [this, List.map_id]
end Go.Proofs.YtkoohfkomlmhoacDoor.Pat
