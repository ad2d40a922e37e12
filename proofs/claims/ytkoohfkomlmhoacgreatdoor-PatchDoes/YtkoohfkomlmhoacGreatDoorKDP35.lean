/- PatchLines of the statements. Of the program's text, by its contracts. -/
/- PatchBack of the statements. Of the program's text, by its contracts. -/
import Derived.Test.YtkoohfkomlmhoacGreatDoorProg
import Derived.Test.YtkoohfkomlmhoacGreatDoorKDP28
import Derived.Test.YtkoohfkomlmhoacGreatDoorKDP34
namespace Go.Proofs.YtkoohfkomlmhoacGreatDoor.Pat
open Go.Deep Go.RowKit Deed
set_option linter.unusedVariables false
set_option maxRecDepth 20000

theorem great_not {d : Dd} (h : greatD d = false) : d.path.length ≤ 60 ∧ d.lab.size ≤ 100 := by
  unfold greatD at h
  simp only [Bool.or_eq_false_iff, decide_eq_false_iff_not] at h
  omega
theorem greats_not {L : List Dd} (h : greatDs L = false) : L.length ≤ 100 ∧ ∀ d, d ∈ L → d.path.length ≤ 60 ∧ d.lab.size ≤ 100 := by
  unfold greatDs at h
  simp only [Bool.or_eq_false_iff, decide_eq_false_iff_not] at h
  have hl : L.length ≤ 100 := by omega
  refine ⟨hl, fun d hd => ?_⟩
  rw [List.take_of_length_le hl] at h
  have := List.any_eq_false.1 h.1 d hd
  exact great_not (by simpa using this)
theorem same_self (d : Dd) : sameDd d d = true := by
  unfold sameDd
  simp
end Go.Proofs.YtkoohfkomlmhoacGreatDoor.Pat
namespace Go.Proofs.YtkoohfkomlmhoacGreatDoor.Pat
open Go.Deep Go.RowKit Deed
set_option linter.unusedVariables false
set_option maxRecDepth 20000

theorem join_len (c : UInt8) : ∀ (ps : List (List UInt8)), (∀ p, p ∈ ps → 0 < p.length) → ps.length ≤ (joinP c ps).length
  | [], _ => Nat.zero_le _
  | [p], h => h p (by simp)
  | p :: q :: ps, h => by
    have h1 := h p (by simp)
    have h2 := join_len c (q :: ps) (fun r hr => h r (by simp [hr]))
    simp only [joinP, List.length_append, List.length_cons] at h2 ⊢
    omega
theorem join_part (c : UInt8) : ∀ (ps : List (List UInt8)) (p : List UInt8), p ∈ ps → p.length ≤ (joinP c ps).length
  | [], p, h => by simp at h
  | [q], p, h => by simp at h; rw [h]; exact Nat.le_refl _
  | q :: r :: ps, p, h => by
    rw [joinP, List.length_append, List.length_cons]
    rcases List.mem_cons.1 h with rfl | h
    · omega
    · have := join_part c (r :: ps) p h
      omega
theorem path_long (L : List Int) : L.length ≤ (pathTxt L).length := by
  unfold pathTxt
  split
  · rename_i h; rw [h]; simp
  · have := join_len 46 (L.map Lib.itoa) (fun p hp => by
      obtain ⟨n, _, rfl⟩ := List.mem_map.1 hp
      exact itoa_pos n)
    rwa [List.length_map] at this
theorem line_path {d : Dd} (h : lineC d = 0) : d.path.length ≤ (lineP d).length ∧ d.lab.size ≤ 6 := by
  obtain ⟨h1, h2, h3⟩ := lineC_zero h
  obtain ⟨g1, _, g3, _, _, _, g7, _⟩ := deedFault_zero h1
  refine ⟨?_, ?_⟩
  · have hp := path_long d.path
    have hm : pathTxt d.path ∈ wordsP d := by
      unfold wordsP
      split
      · simp
      · split <;> simp
    have := join_part 32 (wordsP d) _ hm
    rw [h3]
    omega
  · by_cases hk : d.kind = 2
    · rw [g3 hk]
      show (0 : Nat) ≤ 6
      omega
    · exact (labelB_size (g7 hk)).2
/-- What Parse tells is short. -/
theorem parse_small {s : List UInt8} {d : Dd} (h : d ∈ (parseP s).1) : d.path.length ≤ s.length ∧ d.lab.size ≤ 6 := by
  by_cases hz : (parseP s).2 = (0, 0)
  · rcases parse_zero hz with ⟨_, h1⟩ | ⟨h1, h2, h3, h4, h5⟩
    · rw [h1] at h; simp at h
    · rw [h5] at h
      obtain ⟨p, hp, rfl⟩ := List.mem_map.1 h
      obtain ⟨l1, l2⟩ := line_deed (h4 p hp)
      obtain ⟨q1, q2⟩ := line_path l1
      rw [l2] at q1
      have := cut_size 10 s p (List.dropLast_subset _ hp)
      exact ⟨by omega, q2⟩
  · exfalso
    unfold parseP at h hz
    split at h
    · simp at h
    · rename_i h1
      rw [if_neg h1] at hz
      split at h
      · simp at h
      · rename_i h2
        rw [if_neg h2] at hz
        split at h
        · simp at h
        · rename_i h3
          rw [if_neg h3] at hz
          split at h
          · simp at h
          · rename_i h4
            rw [h4] at hz
            exact hz rfl
end Go.Proofs.YtkoohfkomlmhoacGreatDoor.Pat
