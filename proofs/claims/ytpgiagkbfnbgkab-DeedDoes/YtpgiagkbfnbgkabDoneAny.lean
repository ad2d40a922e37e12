/- done of package pleachingref, whatever the good deed. Of the program's text. -/
import Derived.Test.YtpgiagkbfnbgkabDoneStep
namespace Go.Proofs.Ytpgiagkbfnbgkab.Deed
open Go.Deep Go.RowKit
set_option linter.unusedVariables false
set_option maxRecDepth 20000

theorem done_any (d : Dd) (hk : d.kind = 1 ∨ d.kind = 2 ∨ d.kind = 3) (hp0 : 0 ≤ d.pos) (hm0 : 0 ≤ d.many) (hm1 : d.many ≤ 9223372036854775807) (hl : d.lab.size ≤ maxLen) :
    ∀ rest : List Int, (∀ q, q ∈ rest → 0 ≤ q) → (d.kind = 2 → rest ≠ []) → DoneAt d rest
  | [], _, h2 => by
    intro s ka cap k pa pb pc qc w ht hn hpi hq1 hq2
    rcases hk with h1 | h1 | h1
    · exact done_name d h1 s ka cap k pa pb pc qc w ht hn hl
    · exact absurd rfl (h2 h1)
    · by_cases hok : d.pos.toNat + d.many.toNat ≤ flen k
      · exact done_ins d h1 hp0 hm0 s ka cap k pa pb pc qc w ht hn hl hok
      · exact done_far d h1 hp0 hm0 hm1 s ka cap k pa pb pc qc w ht hn hok
  | p :: ps, hq, h2 => by
    obtain ⟨p, rfl⟩ := Int.eq_ofNat_of_zero_le (hq p (List.mem_cons_self ..))
    by_cases hL : isLast d ((p : Int) :: ps)
    · have h1 : d.kind = 2 := by
        rcases Decidable.em (d.kind = 2) with h | h
        · exact h
        · unfold isLast at hL
          rw [if_neg h] at hL
          cases hL
      have h0 : ps = [] := by
        unfold isLast at hL
        rw [if_pos h1] at hL
        exact List.eq_nil_of_length_eq_zero (by simpa using hL)
      subst h0
      intro s ka cap k pa pb pc qc w ht hn hpi hq1 hq2
      rcases hpi with hpi | ⟨gb, go', rfl, hpi⟩
      · cases hpi
      exact done_del d h1 p s ka cap k pa gb go' pc qc w ht hn (by have := hpi 0 (p : Int) rfl; simpa using this)
    · refine done_step d p ps hL ?_
      refine done_any d hk hp0 hm0 hm1 hl ps (fun q h => hq q (List.mem_cons_of_mem _ h)) (fun h e => ?_)
      subst e
      exact hL (by unfold isLast; rw [if_pos h]; rfl)

end Go.Proofs.Ytpgiagkbfnbgkab.Deed
