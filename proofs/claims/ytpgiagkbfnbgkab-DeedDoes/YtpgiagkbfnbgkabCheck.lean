/- tree.Size of a tree that lies in memory is the number of its nodes, and tree.Check its code. Of the program's text. -/
import Derived.Test.YtpgiagkbfnbgkabProg
import Derived.Test.YtpgiagkbfnbgkabFault
import Derived.Test.YtpgiagkbfnbgkabWalkC
namespace Go.Proofs.Ytpgiagkbfnbgkab
open Go.Deep Go.RowKit
set_option linter.unusedVariables false
set_option maxRecDepth 20000

theorem runN_all : ∀ (l : List (ByteArray × Nat)) (σ : Nt), σ.1 + l.length ≤ 40 → runN σ l = (l.foldl ntStep σ, true)
  | [], _, _ => rfl
  | x :: l, σ, h => by
    simp only [List.length_cons] at h
    rw [runN, if_pos (by simp only [ntStep]; omega), runN_all l (ntStep σ x) (by simp only [ntStep]; omega)]
    rfl
theorem runN_many : ∀ (l : List (ByteArray × Nat)) (σ : Nt), σ.1 ≤ 40 → 40 < σ.1 + l.length → (runN σ l).2 = false
  | [], σ, h, h' => by simp at h'; omega
  | x :: l, σ, h, h' => by
    simp only [List.length_cons] at h'
    rw [runN]
    split
    · rename_i hs
      exact runN_many l (ntStep σ x) hs (by simp only [ntStep]; omega)
    · rfl

theorem foldl_deep : ∀ (l : List (ByteArray × Nat)) (σ : Nt), (10 < (l.foldl ntStep σ).2.1) ↔ (10 < σ.2.1 ∨ (l.any fun x => decide (10 < (x.2 : Int))) = true)
  | [], σ => by simp
  | x :: l, σ => by
    rw [List.foldl_cons, foldl_deep l, List.any_cons, Bool.or_eq_true, decide_eq_true_eq]
    have : (10 < (ntStep σ x).2.1) ↔ (10 < σ.2.1 ∨ 10 < (x.2 : Int)) := by
      show 10 < max σ.2.1 (x.2 : Int) ↔ _
      rw [Int.max_def]
      split <;> omega
    rw [this, or_assoc]
theorem foldl_good : ∀ (l : List (ByteArray × Nat)) (σ : Nt), (l.foldl ntStep σ).2.2 = (σ.2.2 && l.all fun x => labelB x.1)
  | [], σ => by simp
  | x :: l, σ => by
    rw [List.foldl_cons, foldl_good l, List.all_cons, ← Bool.and_assoc]
    rfl
theorem pre_deep : ∀ (k : Fo) (d : Nat), ((pre k d).any fun x => decide (10 < (x.2 : Int))) = deepF k (d : Int)
  | .nil, _ => rfl
  | .node _ _ x k r, d => by
    have h1 := pre_deep k (d + 1)
    have h2 := pre_deep r d
    rw [show (((d + 1 : Nat) : Int)) = (d : Int) + 1 by omega] at h1
    simp only [pre, List.any_cons, List.any_append, deepF, h1, h2, Bool.or_assoc]
theorem pre_good : ∀ (k : Fo) (d : Nat), ((pre k d).all fun x => labelB x.1) = !badF k
  | .nil, _ => rfl
  | .node _ _ x k r, d => by
    simp [pre, badF, pre_good k, pre_good r, Bool.and_assoc]

theorem run_end (s : ByteArray) (k : Fo) (σ : Nt) (r : Bool) (h : runN (0, 0, true) ((s, 0) :: pre k 1) = (σ, r)) :
    r = decide (1 + fnodes k ≤ 40) ∧ (r = true → decide (10 < σ.2.1) = deepT k 0 ∧ σ.2.2 = !badT s k) := by
  have hl : ((s, 0) :: pre k 1).length = 1 + fnodes k := by simp [pre_length]; omega
  by_cases hn : 1 + fnodes k ≤ 40
  · rw [runN_all _ _ (by rw [hl]; simp; omega)] at h
    simp only [Prod.mk.injEq] at h
    obtain ⟨rfl, rfl⟩ := h
    refine ⟨by simp [hn], fun _ => ⟨?_, ?_⟩⟩
    · rw [Bool.eq_iff_iff, decide_eq_true_eq, foldl_deep, List.any_cons, pre_deep]
      simp [deepT]
    · rw [foldl_good, List.all_cons, pre_good]
      simp [badT]
  · have := runN_many ((s, 0) :: pre k 1) (0, 0, true) (by decide) (by rw [hl]; simp; omega)
    rw [h] at this
    simp only at this
    subst this
    exact ⟨by simp [hn], fun h => by cases h⟩

set_option maxHeartbeats 400000 in
theorem check_gen (s : ByteArray) (ka : Option Addr) (cap : Nat) (k : Fo) (w : World) (ht : TIn w s ka cap k) (hp : FPlain w k) (hn : 1 + fnodes k ≤ 5000) (hh : fhigh k ≤ 199) :
    Calls Try.prog 28 #[.agg #[.string s, .slice ka (flen k) cap]] w fun e w' => e = .returned (.int .i64 (faultT s k)) ∧ Below w.heap.size w w' := by
  have hbox : Below w.heap.size w ((((w.alloc (Obj.cells #[Value.string s, Value.slice ka (flen k) cap] 24)).alloc (Obj.cells #[Value.int .i64 0] 3)).alloc (Obj.cells #[Value.int .i64 0] 3)).alloc (Obj.cells #[Value.bool true] 4)) :=
    ((((Below.refl _ _).alloc (Nat.le_refl _) _).alloc (by simp) _).alloc (by simp; omega) _).alloc (by simp; omega) _
  go_enter Try.func28, Try.ntmps28
  go_wp2_with fail
  have hC : ∀ x, x ∈ [w.heap.size + 1, w.heap.size + 1 + 1, w.heap.size + 1 + 1 + 1] → w.heap.size ≤ x := fun x hx => by
    simp at hx
    omega
  refine (walkC_any (w.heap.size + 1) (w.heap.size + 1 + 1) (w.heap.size + 1 + 1 + 1) s ka cap k _ (ht.below hbox) (hp.below hbox) hn hh (fun x hx => ht.kids.off (hC x hx)) ⟨by go_simp, by go_simp, by go_simp, by go_simp, by go_simp, by go_simp, by simp only [ne_eq]; omega, by simp only [ne_eq]; omega, by simp only [ne_eq]; omega, by decide, by decide⟩).mono ?_
  rintro e w1 ⟨σ, r, rfl, hrun, hs1, hk1⟩
  obtain ⟨hr1, hr2⟩ := run_end s k σ r hrun
  have hb := hk1.to_below hbox hC
  have hc2 := hs1.c2
  have hc3 := hs1.c3
  by_cases h40 : 1 + fnodes k ≤ 40
  · rw [decide_eq_true h40] at hr1
    subst hr1
    obtain ⟨hd, hg⟩ := hr2 rfl
    have HD := hide hd
    have HG := hide hg
    clear hd hg hr2 hrun
    by_cases h10 : 10 < σ.2.1
    · go_wp2_with fail
      go_ret
      refine ⟨ret_int ?_, hb⟩
      have h1 := HD.out
      rw [decide_eq_true h10] at h1
      unfold faultT
      rw [if_neg (by omega), if_pos h1.symm]
    · have h1 := HD.out
      rw [decide_eq_false h10] at h1
      have H1 := hide h1
      clear h1
      cases hg2 : σ.2.2
      · rw [hg2] at hc3
        have HG2 := hide hg2
        clear hg2
        go_wp2_with fail
        go_ret
        refine ⟨ret_int ?_, hb⟩
        have h2 := HG.out
        rw [HG2.out] at h2
        unfold faultT
        rw [if_neg (by omega), if_neg (by rw [← H1.out]; decide), if_pos (by simpa using h2)]
      · rw [hg2] at hc3
        have HG2 := hide hg2
        clear hg2
        go_wp2_with fail
        go_ret
        refine ⟨ret_int ?_, hb⟩
        have h2 := HG.out
        rw [HG2.out] at h2
        unfold faultT
        rw [if_neg (by omega), if_neg (by rw [← H1.out]; decide), if_neg (by simpa using h2)]
  · rw [decide_eq_false h40] at hr1
    subst hr1
    clear hr2 hrun
    go_wp2_with fail
    go_ret
    exact ⟨ret_int (by unfold faultT; rw [if_pos (by omega)]), hb⟩

theorem check_any (s : ByteArray) (ka : Option Addr) (cap : Nat) (k : Fo) (w : World) (ht : TIn w s ka cap k) (hp : FPlain w k) (hn : 1 + fnodes k ≤ 200) :
    Calls Try.prog 28 #[.agg #[.string s, .slice ka (flen k) cap]] w fun e w' => e = .returned (.int .i64 (faultT s k)) ∧ Below w.heap.size w w' :=
  check_gen s ka cap k w ht hp (by omega) (by have := fhigh_le_nodes k; omega)

end Go.Proofs.Ytpgiagkbfnbgkab
