/- SameInts of package pleachingref: are two lists of numbers the same? Of the program's text. -/
/- Paths, lines and deeds, there and back: bytes and numbers alone. Of no program. -/
import Derived.Test.YtkoohfkomlmhoacDoorProg
import Derived.WalkSpells
import Derived.Deep.LoopGhost
import Derived.Deep.RegionHeld3
import Derived.Deep.QuietTactic
import Derived.BigQuiet
import Derived.WalkSmall
import Derived.Test.YtkoohfkomlmhoacDoorKLP00
import Derived.Test.YtkoohfkomlmhoacDoorKLP02
import Derived.Test.YtkoohfkomlmhoacDoorKLP03
import Derived.Test.YtkoohfkomlmhoacDoorKLP05
namespace Go.Proofs.YtkoohfkomlmhoacDoor
open Go.Deep Go.RowKit
set_option linter.unusedVariables false
set_option maxRecDepth 20000

def ints (l : List Nat) : List Int := l.map fun (n : Nat) => (n : Int)
theorem PIn_of_owns {w : World} {B T : Nat} {va : Option Addr} {n vc : Nat} {l : List Nat} (h : w.ownsRow B T 1 (.slice va n vc) n (intCells l)) : PIn w va (ints l) := by
  rcases h.2 with ⟨hv, h0⟩ | ⟨g, cap, cur, hv, _⟩
  · left
    have := h.1
    simp only [intCells, List.length_map] at this
    have : l = [] := List.eq_nil_of_length_eq_zero (by omega)
    rw [this]; rfl
  · right
    injection hv with h1 h2 h3
    subst h1
    refine ⟨g, 0, rfl, fun i q hq => ?_⟩
    have hc : w.ownsRow B T 1 (.slice (some ⟨g, 0, none⟩) n vc) n (intCells l) := h
    refine ownsRow_cell hc i _ ?_
    simp only [ints, List.getElem?_map, Option.map_eq_some_iff] at hq
    obtain ⟨a, ha, rfl⟩ := hq
    exact intCells_at ha

set_option maxHeartbeats 1000000 in
theorem sameI_any (la lb : Option Addr) (lc mc : Nat) (L M : List Int) (w : World) (hL : PIn w la L) (hM : PIn w lb M) (hl : L.length ≤ 100000) (hm : M.length ≤ maxLen) :
    Calls Tryd.prog 25 #[.slice la L.length lc, .slice lb M.length mc] w fun e w' => e = .returned (.bool (decide (L = M))) ∧ Below w.heap.size w w' := by
  unfold maxLen at hm
  by_cases hlen : L.length = M.length
  · have hb : ((L.length : Int) == (M.length : Int)) = true := beq_iff_eq.2 (by omega)
    rw [← hlen]
    have HLE := hide hlen
    have hle1 : M.length ≤ L.length := by omega
    clear hlen
    go_enter Tryd.func25, Tryd.ntmps25
    go_wp2_with fail
    go_loopg [5] L.length (fun gk v wr => ∃ i : Nat, gk = L.length - i ∧ i ≤ L.length ∧ v = .int .i64 (i : Nat) ∧ Hid (L.take i = M.take i) ∧ Below w.heap.size w wr)
    case atStart => exact ⟨0, rfl, Nat.zero_le _, rfl, rfl, Below.refl _ _⟩
    case round =>
      obtain ⟨i, hgk, hi, rfl, hsame, hbr⟩ := hrel
      by_cases hlt : i < L.length
      · obtain ⟨x, hx⟩ : ∃ x, L[i]? = some x := ⟨_, List.getElem?_eq_getElem hlt⟩
        obtain ⟨y, hy⟩ : ∃ y, M[i]? = some y := ⟨_, List.getElem?_eq_getElem (by have := HLE.out; omega)⟩
        rcases hL with hL | ⟨b, o, rfl, hL⟩
        · rw [hL] at hlt; simp at hlt
        rcases hM with hM | ⟨c, q, rfl, hM⟩
        · rw [hM] at hy; simp at hy
        have x0 := hL i x hx
        have y0 := hM i y hy
        have hbl : b < w.heap.size := World.block_lt_of_cell? _ _ x0
        have hcl : c < w.heap.size := World.block_lt_of_cell? _ _ y0
        have x0' : wr.cell? ⟨b, o + i, none⟩ = some (.int .i64 x) := by rw [hbr.cell hbl]; exact x0
        have y0' : wr.cell? ⟨c, q + i, none⟩ = some (.int .i64 y) := by rw [hbr.cell hcl]; exact y0
        have HX := hide hx
        have HY := hide hy
        clear x0 y0 hL hM hx hy
        by_cases h1 : x = y
        · have h1b : (x == y) = true := beq_iff_eq.2 h1
          have HT := hide (show L.take (i + 1) = M.take (i + 1) by
            have h4 := HX.out
            have h5 := HY.out
            rw [List.getElem?_eq_getElem hlt] at h4
            have hlm : i < M.length := by have := HLE.out; omega
            rw [List.getElem?_eq_getElem hlm] at h5
            rw [List.take_succ_eq_append_getElem hlt, List.take_succ_eq_append_getElem hlm, hsame.out]
            have e1 : L[i] = x := by simpa using h4
            have e2 : M[i] = y := by simpa using h5
            rw [e1, e2, h1])
          clear h1
          go_wp2_with fail
          go_quiet (fail)
          go_wp2_with fail
          go_roundg (L.length - (i + 1))
          case measure => omega
          case rel => exact ⟨i + 1, rfl, by omega, by go_num, HT.out, below_drewN hbr _⟩
        · have h1b : (x == y) = false := beq_eq_false_iff_ne.2 h1
          have HV := hide (show decide (L = M) = false from decide_eq_false (fun e => h1 (by
            have h2 := HX.out
            rw [e, HY.out] at h2
            simpa using h2.symm)))
          clear h1
          go_wp2_with fail
          go_quiet (fail)
          go_wp2_with fail
          go_ret
          exact ⟨by rw [HV.out]; rfl, below_drewN hbr _⟩
      · have HV := hide (show decide (L = M) = true from decide_eq_true (by
          have h1 := hsame.out
          rw [List.take_of_length_le (by omega), List.take_of_length_le (by have := HLE.out; omega)] at h1
          exact h1))
        go_wp2_with fail
        go_ret
        exact ⟨by rw [HV.out]; rfl, hbr⟩
  · have hb : ((L.length : Int) == (M.length : Int)) = false := beq_eq_false_iff_ne.2 (by omega)
    have HNE := hide (show decide (L = M) = false from decide_eq_false (fun e => hlen (by rw [e])))
    clear hlen
    go_enter Tryd.func25, Tryd.ntmps25
    go_wp2_with fail
    go_ret
    exact ⟨by rw [HNE.out]; rfl, Below.refl _ _⟩

end Go.Proofs.YtkoohfkomlmhoacDoor
namespace Go.Proofs.YtkoohfkomlmhoacDoor.Pat
open Go.Deep Go.RowKit Deed
set_option linter.unusedVariables false
set_option maxRecDepth 20000

def pathTxt (l : List Int) : List UInt8 := if l = [] then [45] else joinP 46 (l.map Lib.itoa)
def allFew : List (List UInt8) → Option (List Nat)
  | [] => some []
  | s :: l => match fewP s with
    | none => none
    | some n => match allFew l with
      | none => none
      | some r => some (n :: r)
def pathIn (s : List UInt8) : Option (List Nat) := if s = [45] then some [] else allFew (cutP 46 s)
theorem allFew_num : ∀ p : List Nat, (∀ n, n ∈ p → n ≤ 999) → allFew (p.map Lib.decDigits) = some p
  | [], _ => rfl
  | n :: p, h => by
    rw [List.map_cons, allFew, few_num (h n (by simp)), allFew_num p (fun m hm => h m (by simp [hm]))]
theorem itoa_ints (p : List Nat) : (ints p).map Lib.itoa = p.map Lib.decDigits := by
  unfold ints
  rw [List.map_map]
  exact List.map_congr_left fun n _ => Lib.itoa_nonneg n
theorem digit_not {c : UInt8} {l : List UInt8} (h : ∀ x, x ∈ l → digitB x = true) (hc : digitB c = false) : c ∉ l := fun hm => by
  rw [h c hm] at hc
  cases hc
theorem join_mem (c : UInt8) : ∀ (ps : List (List UInt8)) (x : UInt8), x ∈ joinP c ps → x = c ∨ ∃ p, p ∈ ps ∧ x ∈ p
  | [], x, h => by simp [joinP] at h
  | [p], x, h => Or.inr ⟨p, by simp, h⟩
  | p :: q :: ps, x, h => by
    rw [joinP] at h
    rcases List.mem_append.1 h with h | h
    · exact Or.inr ⟨p, by simp, h⟩
    · rcases List.mem_cons.1 h with h | h
      · exact Or.inl h
      · rcases join_mem c (q :: ps) x h with h | ⟨r, h1, h2⟩
        · exact Or.inl h
        · exact Or.inr ⟨r, by simp [h1], h2⟩
theorem path_bytes (p : List Nat) : ∀ x, x ∈ pathTxt (ints p) → digitB x = true ∨ x = 46 ∨ x = 45 := fun x hx => by
  unfold pathTxt at hx
  split at hx
  · exact Or.inr (Or.inr (by simpa using hx))
  · rw [itoa_ints] at hx
    rcases join_mem 46 _ x hx with h | ⟨q, h1, h2⟩
    · exact Or.inr (Or.inl h)
    · obtain ⟨n, _, rfl⟩ := List.mem_map.1 h1
      exact Or.inl (dec_digits n x h2)
theorem path_back {p : List Nat} (h : ∀ n, n ∈ p → n ≤ 999) : pathIn (pathTxt (ints p)) = some p := by
  cases p with
  | nil => rfl
  | cons n p =>
    unfold pathTxt
    rw [if_neg (by simp [ints]), itoa_ints]
    unfold pathIn
    rw [if_neg, cut_join 46 _ (by simp) (fun q hq => ?_), allFew_num _ h]
    · obtain ⟨m, _, rfl⟩ := List.mem_map.1 hq
      exact digit_not (dec_digits m) (by decide)
    · intro e
      have hd := dec_digits n
      have hne := dec_ne n
      cases hn : Lib.decDigits n with
      | nil => exact hne hn
      | cons a r =>
        rw [hn] at hd
        have ha := hd a (by simp)
        rw [List.map_cons, hn] at e
        cases p with
        | nil =>
          rw [List.map_nil, joinP] at e
          injection e with e1 e2
          rw [e1] at ha
          cases ha
        | cons m p =>
          rw [List.map_cons, joinP, List.cons_append] at e
          injection e with e1 e2
          rw [e1] at ha
          cases ha
def nameW : List UInt8 := [110, 97, 109, 101]
def delW : List UInt8 := [100, 101, 108, 101, 116, 101]
def insW : List UInt8 := [105, 110, 115, 101, 114, 116]
def noD : Dd := ⟨0, [], 0, 0, ⟨#[]⟩⟩
def wordsP (d : Dd) : List (List UInt8) :=
  if d.kind = 1 then [nameW, pathTxt d.path, d.lab.data.toList]
  else if d.kind = 2 then [delW, pathTxt d.path]
  else [insW, pathTxt d.path, Lib.itoa d.pos, Lib.itoa d.many, d.lab.data.toList]
def above (d : Dd) : Bool := d.path.any (fun p => decide (999 < p)) || decide (999 < d.pos) || decide (999 < d.many)
/-- The line of a deed; a code. -/
def lineC (d : Dd) : Int := if deedFault d ≠ 0 then deedFault d else if above d = true then 9 else 0
def lineP (d : Dd) : List UInt8 := if lineC d = 0 then joinP 32 (wordsP d) else []
def map3P (w : List UInt8) : Nat := if w = nameW then 3 else if w = delW then 2 else if w = insW then 5 else 0
/-- What words tell, whatever its code. -/
def wordsD (w : List (List UInt8)) : Option Dd :=
  match w with
  | [a, p] => if a = delW then (pathIn p).map fun p => ⟨2, ints p, 0, 0, ⟨#[]⟩⟩ else none
  | [a, p, l] => if a = nameW then (pathIn p).map fun p => ⟨1, ints p, 0, 0, ⟨l.toArray⟩⟩ else none
  | [a, p, x, y, l] => if a = insW then (match pathIn p, fewP x, fewP y with
    | some p, some x, some y => some ⟨3, ints p, (x : Int), (y : Int), ⟨l.toArray⟩⟩
    | _, _, _ => none) else none
  | _ => none
/-- The deed that has that line; a code. -/
def deedC (s : List UInt8) : Int := match wordsD (cutP 32 s) with
  | none => 6
  | some d => deedFault d
def deedP (s : List UInt8) : Dd := match wordsD (cutP 32 s) with
  | none => noD
  | some d => if deedFault d = 0 then d else noD
theorem lineC_zero {d : Dd} (h : lineC d = 0) : deedFault d = 0 ∧ above d = false ∧ lineP d = joinP 32 (wordsP d) := by
  have hl : lineP d = joinP 32 (wordsP d) := by unfold lineP; rw [if_pos h]
  unfold lineC at h
  split at h
  · rename_i h1
    exact absurd h h1
  · rename_i h1
    split at h
    · cases h
    · rename_i h2
      exact ⟨by simpa using h1, by simpa using h2, hl⟩
theorem above_not {d : Dd} (h0 : deedFault d = 0) (h : above d = false) : ∃ p : List Nat, ∃ x y : Nat, d.path = ints p ∧ (∀ n, n ∈ p → n ≤ 999) ∧ d.pos = (x : Int) ∧ x ≤ 999 ∧ d.many = (y : Int) ∧ y ≤ 999 := by
  obtain ⟨_, _, _, g4, g5, g6, _, _⟩ := deedFault_zero h0
  unfold above at h
  simp only [Bool.or_eq_false_iff, decide_eq_false_iff_not] at h
  refine ⟨nats d.path, d.pos.toNat, d.many.toNat, (ints_nats g6).symm, fun n hn => ?_, by omega, by omega, by omega, by omega⟩
  unfold nats at hn
  obtain ⟨q, hq, rfl⟩ := List.mem_map.1 hn
  have := List.any_eq_false.1 h.1.1 q hq
  simp only [decide_eq_true_eq] at this
  omega
theorem letter_bytes {s : ByteArray} (h : labelB s = true) : ∀ x, x ∈ s.data.toList → okByte x = true := fun x hx => by
  unfold labelB at h
  simp only [Bool.and_eq_true, List.all_eq_true] at h
  exact h.2 x hx
theorem path_not {p : List Nat} {c : UInt8} (h1 : digitB c = false) (h2 : c ≠ 46) (h3 : c ≠ 45) : c ∉ pathTxt (ints p) := fun hm => by
  rcases path_bytes p c hm with h | h | h
  · rw [h] at h1; cases h1
  · exact h2 h
  · exact h3 h
theorem okByte_not {s : ByteArray} {c : UInt8} (h : labelB s = true) (hc : okByte c = false) : c ∉ s.data.toList := fun hm => by
  rw [letter_bytes h c hm] at hc; cases hc
/-- No blank, no newline stands in a word. -/
theorem words_free {d : Dd} (h0 : deedFault d = 0) (h : above d = false) {c : UInt8} (hc : c = 32 ∨ c = 10) : ∀ w, w ∈ wordsP d → c ∉ w := fun w hw => by
  obtain ⟨p, x, y, e1, e2, e3, e4, e5, e6⟩ := above_not h0 h
  obtain ⟨g1, _, _, _, _, _, g7, _⟩ := deedFault_zero h0
  have c1 : digitB c = false := by rcases hc with rfl | rfl <;> decide
  have c2 : c ≠ 46 := by rcases hc with rfl | rfl <;> decide
  have c3 : c ≠ 45 := by rcases hc with rfl | rfl <;> decide
  have c4 : okByte c = false := by rcases hc with rfl | rfl <;> decide
  have c5 : c ∉ nameW ∧ c ∉ delW ∧ c ∉ insW := by rcases hc with rfl | rfl <;> decide
  have hp : c ∉ pathTxt d.path := by rw [e1]; exact path_not c1 c2 c3
  have hx : c ∉ Lib.itoa d.pos := by rw [e3, Lib.itoa_nonneg]; exact digit_not (dec_digits x) c1
  have hy : c ∉ Lib.itoa d.many := by rw [e5, Lib.itoa_nonneg]; exact digit_not (dec_digits y) c1
  unfold wordsP at hw
  split at hw
  · rename_i hk
    have hl := okByte_not (g7 (by omega)) c4
    simp only [List.mem_cons, List.not_mem_nil, or_false] at hw
    rcases hw with rfl | rfl | rfl
    · exact c5.1
    · exact hp
    · exact hl
  · split at hw
    · simp only [List.mem_cons, List.not_mem_nil, or_false] at hw
      rcases hw with rfl | rfl
      · exact c5.2.1
      · exact hp
    · rename_i hk1 hk2
      have hl := okByte_not (g7 hk2) c4
      simp only [List.mem_cons, List.not_mem_nil, or_false] at hw
      rcases hw with rfl | rfl | rfl | rfl | rfl
      · exact c5.2.2
      · exact hp
      · exact hx
      · exact hy
      · exact hl
theorem words_ne (d : Dd) : wordsP d ≠ [] := by
  unfold wordsP
  split
  · simp
  · split <;> simp
/-- What was written is read as it was. -/
theorem words_back {d : Dd} (h0 : deedFault d = 0) (h : above d = false) : wordsD (wordsP d) = some d := by
  obtain ⟨p, x, y, e1, e2, e3, e4, e5, e6⟩ := above_not h0 h
  obtain ⟨g1, g2, g3, _, _, _, _, _⟩ := deedFault_zero h0
  have hp := path_back e2
  rw [← e1] at hp
  have hl : (⟨d.lab.data.toList.toArray⟩ : ByteArray) = d.lab := by simp
  unfold wordsP
  split
  · rename_i hk
    obtain ⟨q1, q2⟩ := g2 (by omega)
    simp only [wordsD, if_true, hp, Option.map_some]
    rw [← e1, hl]
    conv => rhs; rw [show d = ⟨d.kind, d.path, d.pos, d.many, d.lab⟩ from rfl, hk, q1, q2]
  · split
    · rename_i hk
      obtain ⟨q1, q2⟩ := g2 (by omega)
      simp only [wordsD, if_true, hp, Option.map_some]
      rw [← e1]
      conv => rhs; rw [show d = ⟨d.kind, d.path, d.pos, d.many, d.lab⟩ from rfl, hk, q1, q2, g3 hk]
    · rename_i hk1 hk2
      have hk : d.kind = 3 := by omega
      have hx : fewP (Lib.itoa d.pos) = some x := by rw [e3, Lib.itoa_nonneg]; exact few_num e4
      have hy : fewP (Lib.itoa d.many) = some y := by rw [e5, Lib.itoa_nonneg]; exact few_num e6
      simp only [wordsD, if_true, hp, hx, hy]
      rw [← e1, hl, ← e3, ← e5]
      conv => rhs; rw [show d = ⟨d.kind, d.path, d.pos, d.many, d.lab⟩ from rfl, hk]
theorem deed_line {d : Dd} (h : lineC d = 0) : deedC (lineP d) = 0 ∧ deedP (lineP d) = d ∧ 10 ∉ lineP d := by
  obtain ⟨h1, h2, h3⟩ := lineC_zero h
  have hc : cutP 32 (lineP d) = wordsP d := by rw [h3]; exact cut_join 32 _ (words_ne d) (words_free h1 h2 (Or.inl rfl))
  refine ⟨?_, ?_, ?_⟩
  · unfold deedC
    rw [hc, words_back h1 h2]
    exact h1
  · unfold deedP
    rw [hc, words_back h1 h2]
    simp only [h1, if_true]
  · rw [h3]
    intro hm
    rcases join_mem 32 _ _ hm with h | ⟨w, hw, hm⟩
    · cases h
    · exact words_free h1 h2 (Or.inr rfl) w hw hm
/-- Two deeds have the same line just if they are the same. -/
theorem line_inj {d e : Dd} (h1 : lineC d = 0) (h2 : lineC e = 0) (h : lineP d = lineP e) : d = e := by
  rw [← (deed_line h1).2.1, ← (deed_line h2).2.1, h]
end Go.Proofs.YtkoohfkomlmhoacDoor.Pat
