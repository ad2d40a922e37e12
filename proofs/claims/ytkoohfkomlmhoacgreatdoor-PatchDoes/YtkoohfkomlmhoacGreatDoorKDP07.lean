/- Paths, lines and deeds, there and back: bytes and numbers alone. Of no program. -/
/- Bytes as a string. Of no program. -/
import Derived.Test.YtkoohfkomlmhoacGreatDoorKDP03
import Derived.Test.YtkoohfkomlmhoacGreatDoorKDP06
import Derived.WalkKit
namespace Go.Proofs.YtkoohfkomlmhoacGreatDoor.Pat
open Go.Deep Go.RowKit Deed
set_option linter.unusedVariables false
set_option maxRecDepth 20000

def pathTxt (l : List Int) : List UInt8 := if l = [] then [45] else joinP 46 (l.map Lib.itoa)
def allFew : List (List UInt8) → Option (List Nat)
  | [] => some []
  | s :: l => match fewP s with
    | none => none
    | some n => match allFew l with
      | none => none
      | some r => some (n :: r)
def pathIn (s : List UInt8) : Option (List Nat) := if s = [45] then some [] else allFew (cutP 46 s)
theorem allFew_num : ∀ p : List Nat, (∀ n, n ∈ p → n ≤ 999) → allFew (p.map Lib.decDigits) = some p
  | [], _ => rfl
  | n :: p, h => by
    rw [List.map_cons, allFew, few_num (h n (by simp)), allFew_num p (fun m hm => h m (by simp [hm]))]
theorem allFew_is : ∀ (l : List (List UInt8)) (p : List Nat), allFew l = some p → (∀ n, n ∈ p → n ≤ 999) ∧ p.map Lib.decDigits = l
  | [], p, h => by
    simp only [allFew, Option.some.injEq] at h
    subst h
    exact ⟨fun n hn => by simp at hn, rfl⟩
  | s :: l, p, h => by
    unfold allFew at h
    cases hs : fewP s with
    | none => rw [hs] at h; cases h
    | some n =>
      rw [hs] at h
      cases hl : allFew l with
      | none => rw [hl] at h; cases h
      | some r =>
        rw [hl] at h
        simp only [Option.some.injEq] at h
        subst h
        obtain ⟨h1, h2⟩ := few_is hs
        obtain ⟨h3, h4⟩ := allFew_is l r hl
        refine ⟨fun m hm => ?_, by rw [List.map_cons, h2, h4]⟩
        rcases List.mem_cons.1 hm with rfl | hm
        · exact h1
        · exact h3 m hm
theorem itoa_ints (p : List Nat) : (ints p).map Lib.itoa = p.map Lib.decDigits := by
  unfold ints
  rw [List.map_map]
  exact List.map_congr_left fun n _ => Lib.itoa_nonneg n
theorem digit_not {c : UInt8} {l : List UInt8} (h : ∀ x, x ∈ l → digitB x = true) (hc : digitB c = false) : c ∉ l := fun hm => by
  rw [h c hm] at hc
  cases hc
theorem join_mem (c : UInt8) : ∀ (ps : List (List UInt8)) (x : UInt8), x ∈ joinP c ps → x = c ∨ ∃ p, p ∈ ps ∧ x ∈ p
  | [], x, h => by simp [joinP] at h
  | [p], x, h => Or.inr ⟨p, by simp, h⟩
  | p :: q :: ps, x, h => by
    rw [joinP] at h
    rcases List.mem_append.1 h with h | h
    · exact Or.inr ⟨p, by simp, h⟩
    · rcases List.mem_cons.1 h with h | h
      · exact Or.inl h
      · rcases join_mem c (q :: ps) x h with h | ⟨r, h1, h2⟩
        · exact Or.inl h
        · exact Or.inr ⟨r, by simp [h1], h2⟩
theorem path_bytes (p : List Nat) : ∀ x, x ∈ pathTxt (ints p) → digitB x = true ∨ x = 46 ∨ x = 45 := fun x hx => by
  unfold pathTxt at hx
  split at hx
  · exact Or.inr (Or.inr (by simpa using hx))
  · rw [itoa_ints] at hx
    rcases join_mem 46 _ x hx with h | ⟨q, h1, h2⟩
    · exact Or.inr (Or.inl h)
    · obtain ⟨n, _, rfl⟩ := List.mem_map.1 h1
      exact Or.inl (dec_digits n x h2)
theorem path_back {p : List Nat} (h : ∀ n, n ∈ p → n ≤ 999) : pathIn (pathTxt (ints p)) = some p := by
  cases p with
  | nil => rfl
  | cons n p =>
    unfold pathTxt
    rw [if_neg (by simp [ints]), itoa_ints]
    unfold pathIn
    rw [if_neg, cut_join 46 _ (by simp) (fun q hq => ?_), allFew_num _ h]
    · obtain ⟨m, _, rfl⟩ := List.mem_map.1 hq
      exact digit_not (dec_digits m) (by decide)
    · intro e
      have hd := dec_digits n
      have hne := dec_ne n
      cases hn : Lib.decDigits n with
      | nil => exact hne hn
      | cons a r =>
        rw [hn] at hd
        have ha := hd a (by simp)
        rw [List.map_cons, hn] at e
        cases p with
        | nil =>
          rw [List.map_nil, joinP] at e
          injection e with e1 e2
          rw [e1] at ha
          cases ha
        | cons m p =>
          rw [List.map_cons, joinP, List.cons_append] at e
          injection e with e1 e2
          rw [e1] at ha
          cases ha
theorem path_is' {s : List UInt8} {p : List Nat} (h : pathIn s = some p) : (∀ n, n ∈ p → n ≤ 999) ∧ pathTxt (ints p) = s := by
  unfold pathIn at h
  split at h
  · rename_i hs
    simp only [Option.some.injEq] at h
    subst h
    exact ⟨fun n hn => by simp at hn, hs.symm⟩
  · obtain ⟨h1, h2⟩ := allFew_is _ _ h
    refine ⟨h1, ?_⟩
    have hne : p ≠ [] := fun e => by
      rw [e] at h2
      exact cutP_ne 46 s h2.symm
    unfold pathTxt
    rw [if_neg (by cases p with | nil => exact absurd rfl hne | cons a b => simp [ints]), itoa_ints, h2, join_cut]

def nameW : List UInt8 := [110, 97, 109, 101]
def delW : List UInt8 := [100, 101, 108, 101, 116, 101]
def insW : List UInt8 := [105, 110, 115, 101, 114, 116]
def noD : Dd := ⟨0, [], 0, 0, ⟨#[]⟩⟩
def wordsP (d : Dd) : List (List UInt8) :=
  if d.kind = 1 then [nameW, pathTxt d.path, d.lab.data.toList]
  else if d.kind = 2 then [delW, pathTxt d.path]
  else [insW, pathTxt d.path, Lib.itoa d.pos, Lib.itoa d.many, d.lab.data.toList]
def above (d : Dd) : Bool := d.path.any (fun p => decide (999 < p)) || decide (999 < d.pos) || decide (999 < d.many)
/-- The line of a deed; a code. -/
def lineC (d : Dd) : Int := if deedFault d ≠ 0 then deedFault d else if above d = true then 9 else 0
def lineP (d : Dd) : List UInt8 := if lineC d = 0 then joinP 32 (wordsP d) else []
def map3P (w : List UInt8) : Nat := if w = nameW then 3 else if w = delW then 2 else if w = insW then 5 else 0
/-- What words tell, whatever its code. -/
def wordsD (w : List (List UInt8)) : Option Dd :=
  match w with
  | [a, p] => if a = delW then (pathIn p).map fun p => ⟨2, ints p, 0, 0, ⟨#[]⟩⟩ else none
  | [a, p, l] => if a = nameW then (pathIn p).map fun p => ⟨1, ints p, 0, 0, ⟨l.toArray⟩⟩ else none
  | [a, p, x, y, l] => if a = insW then (match pathIn p, fewP x, fewP y with
    | some p, some x, some y => some ⟨3, ints p, (x : Int), (y : Int), ⟨l.toArray⟩⟩
    | _, _, _ => none) else none
  | _ => none
/-- The deed that has that line; a code. -/
def deedC (s : List UInt8) : Int := match wordsD (cutP 32 s) with
  | none => 6
  | some d => deedFault d
def deedP (s : List UInt8) : Dd := match wordsD (cutP 32 s) with
  | none => noD
  | some d => if deedFault d = 0 then d else noD
theorem lineC_zero {d : Dd} (h : lineC d = 0) : deedFault d = 0 ∧ above d = false ∧ lineP d = joinP 32 (wordsP d) := by
  have hl : lineP d = joinP 32 (wordsP d) := by unfold lineP; rw [if_pos h]
  unfold lineC at h
  split at h
  · rename_i h1
    exact absurd h h1
  · rename_i h1
    split at h
    · cases h
    · rename_i h2
      exact ⟨by simpa using h1, by simpa using h2, hl⟩
theorem above_not {d : Dd} (h0 : deedFault d = 0) (h : above d = false) : ∃ p : List Nat, ∃ x y : Nat, d.path = ints p ∧ (∀ n, n ∈ p → n ≤ 999) ∧ d.pos = (x : Int) ∧ x ≤ 999 ∧ d.many = (y : Int) ∧ y ≤ 999 := by
  obtain ⟨_, _, _, g4, g5, g6, _, _⟩ := deedFault_zero h0
  unfold above at h
  simp only [Bool.or_eq_false_iff, decide_eq_false_iff_not] at h
  refine ⟨nats d.path, d.pos.toNat, d.many.toNat, (ints_nats g6).symm, fun n hn => ?_, by omega, by omega, by omega, by omega⟩
  unfold nats at hn
  obtain ⟨q, hq, rfl⟩ := List.mem_map.1 hn
  have := List.any_eq_false.1 h.1.1 q hq
  simp only [decide_eq_true_eq] at this
  omega
theorem letter_bytes {s : ByteArray} (h : labelB s = true) : ∀ x, x ∈ s.data.toList → okByte x = true := fun x hx => by
  unfold labelB at h
  simp only [Bool.and_eq_true, List.all_eq_true] at h
  exact h.2 x hx
theorem path_not {p : List Nat} {c : UInt8} (h1 : digitB c = false) (h2 : c ≠ 46) (h3 : c ≠ 45) : c ∉ pathTxt (ints p) := fun hm => by
  rcases path_bytes p c hm with h | h | h
  · rw [h] at h1; cases h1
  · exact h2 h
  · exact h3 h
theorem okByte_not {s : ByteArray} {c : UInt8} (h : labelB s = true) (hc : okByte c = false) : c ∉ s.data.toList := fun hm => by
  rw [letter_bytes h c hm] at hc; cases hc
/-- No blank, no newline stands in a word. -/
theorem words_free {d : Dd} (h0 : deedFault d = 0) (h : above d = false) {c : UInt8} (hc : c = 32 ∨ c = 10) : ∀ w, w ∈ wordsP d → c ∉ w := fun w hw => by
  obtain ⟨p, x, y, e1, e2, e3, e4, e5, e6⟩ := above_not h0 h
  obtain ⟨g1, _, _, _, _, _, g7, _⟩ := deedFault_zero h0
  have c1 : digitB c = false := by rcases hc with rfl | rfl <;> decide
  have c2 : c ≠ 46 := by rcases hc with rfl | rfl <;> decide
  have c3 : c ≠ 45 := by rcases hc with rfl | rfl <;> decide
  have c4 : okByte c = false := by rcases hc with rfl | rfl <;> decide
  have c5 : c ∉ nameW ∧ c ∉ delW ∧ c ∉ insW := by rcases hc with rfl | rfl <;> decide
  have hp : c ∉ pathTxt d.path := by rw [e1]; exact path_not c1 c2 c3
  have hx : c ∉ Lib.itoa d.pos := by rw [e3, Lib.itoa_nonneg]; exact digit_not (dec_digits x) c1
  have hy : c ∉ Lib.itoa d.many := by rw [e5, Lib.itoa_nonneg]; exact digit_not (dec_digits y) c1
  unfold wordsP at hw
  split at hw
  · rename_i hk
    have hl := okByte_not (g7 (by omega)) c4
    simp only [List.mem_cons, List.not_mem_nil, or_false] at hw
    rcases hw with rfl | rfl | rfl
    · exact c5.1
    · exact hp
    · exact hl
  · split at hw
    · simp only [List.mem_cons, List.not_mem_nil, or_false] at hw
      rcases hw with rfl | rfl
      · exact c5.2.1
      · exact hp
    · rename_i hk1 hk2
      have hl := okByte_not (g7 hk2) c4
      simp only [List.mem_cons, List.not_mem_nil, or_false] at hw
      rcases hw with rfl | rfl | rfl | rfl | rfl
      · exact c5.2.2
      · exact hp
      · exact hx
      · exact hy
      · exact hl
theorem words_ne (d : Dd) : wordsP d ≠ [] := by
  unfold wordsP
  split
  · simp
  · split <;> simp
/-- What was written is read as it was. -/
theorem words_back {d : Dd} (h0 : deedFault d = 0) (h : above d = false) : wordsD (wordsP d) = some d := by
  obtain ⟨p, x, y, e1, e2, e3, e4, e5, e6⟩ := above_not h0 h
  obtain ⟨g1, g2, g3, _, _, _, _, _⟩ := deedFault_zero h0
  have hp := path_back e2
  rw [← e1] at hp
  have hl : (⟨d.lab.data.toList.toArray⟩ : ByteArray) = d.lab := by simp
  unfold wordsP
  split
  · rename_i hk
    obtain ⟨q1, q2⟩ := g2 (by omega)
    simp only [wordsD, if_true, hp, Option.map_some]
    rw [← e1, hl]
    conv => rhs; rw [show d = ⟨d.kind, d.path, d.pos, d.many, d.lab⟩ from rfl, hk, q1, q2]
  · split
    · rename_i hk
      obtain ⟨q1, q2⟩ := g2 (by omega)
      simp only [wordsD, if_true, hp, Option.map_some]
      rw [← e1]
      conv => rhs; rw [show d = ⟨d.kind, d.path, d.pos, d.many, d.lab⟩ from rfl, hk, q1, q2, g3 hk]
    · rename_i hk1 hk2
      have hk : d.kind = 3 := by omega
      have hx : fewP (Lib.itoa d.pos) = some x := by rw [e3, Lib.itoa_nonneg]; exact few_num e4
      have hy : fewP (Lib.itoa d.many) = some y := by rw [e5, Lib.itoa_nonneg]; exact few_num e6
      simp only [wordsD, if_true, hp, hx, hy]
      rw [← e1, hl, ← e3, ← e5]
      conv => rhs; rw [show d = ⟨d.kind, d.path, d.pos, d.many, d.lab⟩ from rfl, hk]
theorem deed_line {d : Dd} (h : lineC d = 0) : deedC (lineP d) = 0 ∧ deedP (lineP d) = d ∧ 10 ∉ lineP d := by
  obtain ⟨h1, h2, h3⟩ := lineC_zero h
  have hc : cutP 32 (lineP d) = wordsP d := by rw [h3]; exact cut_join 32 _ (words_ne d) (words_free h1 h2 (Or.inl rfl))
  refine ⟨?_, ?_, ?_⟩
  · unfold deedC
    rw [hc, words_back h1 h2]
    exact h1
  · unfold deedP
    rw [hc, words_back h1 h2]
    simp only [h1, if_true]
  · rw [h3]
    intro hm
    rcases join_mem 32 _ _ hm with h | ⟨w, hw, hm⟩
    · cases h
    · exact words_free h1 h2 (Or.inr rfl) w hw hm
theorem above_of {p : List Nat} {k x y : Nat} {l : ByteArray} (hp : ∀ n, n ∈ p → n ≤ 999) (hx : x ≤ 999) (hy : y ≤ 999) : above ⟨(k : Int), ints p, (x : Int), (y : Int), l⟩ = false := by
  unfold above
  simp only [Bool.or_eq_false_iff, decide_eq_false_iff_not]
  refine ⟨⟨?_, by omega⟩, by omega⟩
  rw [List.any_eq_false]
  intro q hq
  unfold ints at hq
  obtain ⟨n, hn, rfl⟩ := List.mem_map.1 hq
  have := hp n hn
  simp only [decide_eq_true_eq]
  omega
/-- What is read is written so. -/
theorem words_is {w : List (List UInt8)} {d : Dd} (h : wordsD w = some d) : wordsP d = w ∧ above d = false := by
  unfold wordsD at h
  split at h
  · rename_i a p
    split at h
    · rename_i ha
      cases hp : pathIn p with
      | none => rw [hp] at h; cases h
      | some q =>
        rw [hp] at h
        simp only [Option.map_some, Option.some.injEq] at h
        obtain ⟨h1, h2⟩ := path_is' hp
        subst h
        refine ⟨?_, above_of (k := 2) (x := 0) (y := 0) h1 (by omega) (by omega)⟩
        unfold wordsP
        rw [if_neg (by show ¬ ((2 : Int) = 1); decide), if_pos rfl, ha, h2]
    · cases h
  · rename_i a p l
    split at h
    · rename_i ha
      cases hp : pathIn p with
      | none => rw [hp] at h; cases h
      | some q =>
        rw [hp] at h
        simp only [Option.map_some, Option.some.injEq] at h
        obtain ⟨h1, h2⟩ := path_is' hp
        subst h
        refine ⟨?_, above_of (k := 1) (x := 0) (y := 0) h1 (by omega) (by omega)⟩
        unfold wordsP
        rw [if_pos rfl, ha, h2]
    · cases h
  · rename_i a p x y l
    split at h
    · rename_i ha
      split at h
      · rename_i q m n hq hm hn
        simp only [Option.some.injEq] at h
        obtain ⟨h1, h2⟩ := path_is' hq
        obtain ⟨h3, h4⟩ := few_is hm
        obtain ⟨h5, h6⟩ := few_is hn
        subst h
        refine ⟨?_, above_of (k := 3) h1 h3 h5⟩
        unfold wordsP
        rw [if_neg (by show ¬ ((3 : Int) = 1); decide), if_neg (by show ¬ ((3 : Int) = 2); decide), ha, h2]
        simp only [Lib.itoa_nonneg, h4, h6]
      · cases h
    · cases h
  · cases h
theorem line_deed {s : List UInt8} (h : deedC s = 0) : lineC (deedP s) = 0 ∧ lineP (deedP s) = s := by
  unfold deedC at h
  unfold deedP
  cases hw : wordsD (cutP 32 s) with
  | none => rw [hw] at h; cases h
  | some d =>
    rw [hw] at h
    simp only at h
    simp only [h, if_true]
    obtain ⟨h1, h2⟩ := words_is hw
    have hc : lineC d = 0 := by
      unfold lineC
      rw [if_neg (by rw [h]; simp), if_neg (by rw [h2]; simp)]
    refine ⟨hc, ?_⟩
    rw [(lineC_zero hc).2.2, h1, join_cut]
end Go.Proofs.YtkoohfkomlmhoacGreatDoor.Pat
namespace Go.Proofs.YtkoohfkomlmhoacGreatDoor
set_option linter.unusedVariables false

/-- Bytes as a string. -/
abbrev str (l : List UInt8) : ByteArray := ⟨l.toArray⟩
theorem str_append (a b : List UInt8) : str a ++ str b = str (a ++ b) := by
  apply ByteArray.ext
  simp
theorem str_size (l : List UInt8) : (str l).size = l.length := by
  show l.toArray.size = _
  simp
end Go.Proofs.YtkoohfkomlmhoacGreatDoor
