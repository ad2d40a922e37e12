/- tree.Check of a tree of whatever size in memory of whatever marks tells its code, or ErrMany; order.Of of it. Of the program's text. -/
import Derived.Test.YtpjlajjbioploabProg
import Derived.Test.YtpjlajjbioploabCheck
import Derived.Test.YtpjlajjbioploabRCheck
import Derived.Test.YtpjlajjbioploabRWalkD
import Derived.Test.YtpjlajjbioploabOf
namespace Go.Proofs.Ytpjlajjbioploab
open Go.Deep Go.RowKit
set_option linter.unusedVariables false
set_option maxRecDepth 20000

set_option maxHeartbeats 400000 in
theorem check_wild (s : ByteArray) (ka : Option Addr) (cap : Nat) (k : Fo) (w : World) (ht : TIn w s ka cap k) (hp : FCold w k) :
    Calls Try.prog 26 #[.agg #[.string s, .slice ka (flen k) cap]] w fun e w' => (∃ c, (c = faultT s k ∨ c = 2) ∧ e = .returned (.int .i64 c)) ∧ Below w.heap.size w w' := by
  have hbox : Below w.heap.size w ((((w.alloc (Obj.cells #[Value.string s, Value.slice ka (flen k) cap] 24)).alloc (Obj.cells #[Value.int .i64 0] 3)).alloc (Obj.cells #[Value.int .i64 0] 3)).alloc (Obj.cells #[Value.bool true] 4)) :=
    ((((Below.refl _ _).alloc (Nat.le_refl _) _).alloc (by simp) _).alloc (by simp; omega) _).alloc (by simp; omega) _
  go_enter Try.func26, Try.ntmps26
  go_wp2_with fail
  have hC : ∀ x, x ∈ [w.heap.size + 1, w.heap.size + 1 + 1, w.heap.size + 1 + 1 + 1] → w.heap.size ≤ x := fun x hx => by
    simp at hx
    omega
  refine (Raw.walkD_any (w.heap.size + 1) (w.heap.size + 1 + 1) (w.heap.size + 1 + 1 + 1) s ka cap k _ (ht.below hbox) (hp.below hbox) (fun x hx => ht.kids.off (hC x hx)) ⟨by go_simp, by go_simp, by go_simp, by go_simp, by go_simp, by go_simp, by simp only [ne_eq]; omega, by simp only [ne_eq]; omega, by simp only [ne_eq]; omega, by decide, by decide⟩).mono ?_
  rintro e w1 ⟨σ, r, rfl, hrun, hs1, hk1⟩
  have hb := hk1.to_below hbox hC
  have hc2 := hs1.c2
  have hc3 := hs1.c3
  rcases hrun with rfl | hrun
  · go_wp2_with fail
    go_ret
    exact ⟨⟨2, Or.inr rfl, rfl⟩, hb⟩
  obtain ⟨hr1, hr2⟩ := run_end s k σ r hrun
  by_cases h40 : 1 + fnodes k ≤ 40
  · rw [decide_eq_true h40] at hr1
    subst hr1
    obtain ⟨hd, hg⟩ := hr2 rfl
    have HD := hide hd
    have HG := hide hg
    clear hd hg hr2 hrun
    by_cases h10 : 10 < σ.2.1
    · go_wp2_with fail
      go_ret
      refine ⟨⟨_, Or.inl ?_, rfl⟩, hb⟩
      have h1 := HD.out
      rw [decide_eq_true h10] at h1
      unfold faultT
      rw [if_neg (by omega), if_pos h1.symm]
    · have h1 := HD.out
      rw [decide_eq_false h10] at h1
      have H1 := hide h1
      clear h1
      cases hg2 : σ.2.2
      · rw [hg2] at hc3
        have HG2 := hide hg2
        clear hg2
        go_wp2_with fail
        go_ret
        refine ⟨⟨_, Or.inl ?_, rfl⟩, hb⟩
        have h2 := HG.out
        rw [HG2.out] at h2
        unfold faultT
        rw [if_neg (by omega), if_neg (by rw [← H1.out]; decide), if_pos (by simpa using h2)]
      · rw [hg2] at hc3
        have HG2 := hide hg2
        clear hg2
        go_wp2_with fail
        go_ret
        refine ⟨⟨_, Or.inl ?_, rfl⟩, hb⟩
        have h2 := HG.out
        rw [HG2.out] at h2
        unfold faultT
        rw [if_neg (by omega), if_neg (by rw [← H1.out]; decide), if_neg (by simpa using h2)]
  · rw [decide_eq_false h40] at hr1
    subst hr1
    clear hr2 hrun
    go_wp2_with fail
    go_ret
    exact ⟨⟨2, Or.inr rfl, rfl⟩, hb⟩

/-- Of a tree of whatever size, in memory of whatever marks. -/
theorem of_wild (s : ByteArray) (ka : Option Addr) (cap : Nat) (k : Fo) (w : World) (ht : TIn w s ka cap k) (hp : FCold w k) :
    Calls Try.prog 16 #[.agg #[.string s, .slice ka (flen k) cap]] w fun e w' => OfEnd (MayTell s k) s k w.heap.size e w' ∧ Below w.heap.size w w' :=
  of_of (MayTell s k) s ka cap k w ht MayTell.good fun W hW => check_wild s ka cap k W (ht.below hW) (hp.below hW)

end Go.Proofs.Ytpjlajjbioploab
