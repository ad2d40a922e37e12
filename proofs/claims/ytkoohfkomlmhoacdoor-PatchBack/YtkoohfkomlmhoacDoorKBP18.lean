/- Printed of package pleachingref: the lines of deeds. Of the program's text. -/
/- slices.Grow and slices.Concat at lists of deeds. Of the program's text. -/
import Derived.Test.YtkoohfkomlmhoacDoorProg
import Derived.Deep.RegionHeld3
import Derived.Test.YtkoohfkomlmhoacDoorKBP16
import Derived.Test.YtkoohfkomlmhoacDoorKBP17
import Derived.Deep.LoopGhost
import Derived.WalkSmall
import Derived.Test.YtkoohfkomlmhoacDoorKBP10
namespace Go.Proofs.YtkoohfkomlmhoacDoor.Pat
open Go.Deep Go.RowKit Deed
set_option linter.unusedVariables false
set_option maxRecDepth 20000

theorem line_len {d : Dd} (h : lineC d = 0) (hp : d.path.length ≤ 10000) (hl : d.lab.size ≤ 100000) : (lineP d).length ≤ 330000 := by
  obtain ⟨h1, h2, h3⟩ := lineC_zero h
  obtain ⟨p, x, y, e1, e2, e3, e4, e5, e6⟩ := above_not h1 h2
  have hin : ∀ n, n ∈ d.path → In64 n := fun n hn => by
    rw [e1] at hn
    unfold ints at hn
    obtain ⟨m, hm, rfl⟩ := List.mem_map.1 hn
    have := e2 m hm
    exact ⟨by omega, by omega⟩
  have q1 := path_len hin
  have q2 := Lib.itoa_length_le d.pos (by omega) (by omega)
  have q3 := Lib.itoa_length_le d.many (by omega) (by omega)
  have q4 : d.lab.data.size = d.lab.size := rfl
  rw [h3]
  unfold wordsP
  split
  · simp only [joinP, nameW, List.length_append, List.length_cons, List.length_nil, Array.length_toList]
    omega
  · split
    · simp only [joinP, delW, List.length_append, List.length_cons, List.length_nil]
      omega
    · simp only [joinP, insW, List.length_append, List.length_cons, List.length_nil, Array.length_toList]
      omega
theorem text_len : ∀ (L : List Dd), (∀ d, d ∈ L → lineC d = 0 ∧ d.path.length ≤ 10000 ∧ d.lab.size ≤ 100000) → (textL L).length ≤ L.length * 330001
  | [], _ => by simp [textL]
  | d :: L, h => by
    have h1 := h d (by simp)
    have h2 := line_len h1.1 h1.2.1 h1.2.2
    have h3 := text_len L (fun x hx => h x (by simp [hx]))
    have e : textL (d :: L) = (lineP d ++ [10]) ++ textL L := by simp [textL]
    rw [e]
    simp only [List.length_append, List.length_cons, List.length_nil]
    omega
theorem text_snoc (L : List Dd) (d : Dd) : textL (L ++ [d]) = textL L ++ (lineP d ++ [10]) := by simp [textL]
theorem printP_many {L : List Dd} (h : 80 < L.length) : printP L = ([], 2, -1) := by unfold printP; rw [if_pos h]
theorem printP_bad {L : List Dd} (h : ¬ 80 < L.length) {i : Nat} {d : Dd} (h0 : ∀ x, x ∈ L.take i → lineC x = 0) (hd : L[i]? = some d) (hc : lineC d ≠ 0) : printP L = ([], lineC d, (i : Int)) := by
  unfold printP
  rw [if_neg h, bad_at h0 hd hc]
  simp
theorem printP_all {L : List Dd} (h : ¬ 80 < L.length) (h0 : ∀ x, x ∈ L → lineC x = 0) : printP L = (textL L, 0, 0) := by
  unfold printP
  rw [if_neg h, none_bad h0]

end Go.Proofs.YtkoohfkomlmhoacDoor.Pat
namespace Go.Proofs.YtkoohfkomlmhoacDoor.Deed
open Go.Deep Go.RowKit
set_option linter.unusedVariables false
set_option maxRecDepth 20000

theorem Tryd.infoDeed : (Tryd.prog.info? 35).map (fun i => (i.zero, i.size, i.bytes)) = some (some (.agg #[.int .i64 0, .slice none 0 0, .int .i64 0, .int .i64 0, .string ⟨#[]⟩]), 5, 64) := by kernel_rfl

end Go.Proofs.YtkoohfkomlmhoacDoor.Deed
