/- Check of package deed. Of the program's text. -/
/- Do of package deed, where the tree is none, or the deed is none. Of the program's text. -/
/- How many nodes a tree has when a deed is done. Of no program. -/
import Derived.Test.YtcknganggcbkjabGS21
import Derived.Test.YtcknganggcbkjabGS13
import Derived.Test.YtcknganggcbkjabGS08
namespace Go.Proofs.Ytcknganggcbkjab.Deed
open Go.Deep Go.RowKit
set_option linter.unusedVariables false
set_option maxRecDepth 20000

theorem lab_ne {lab : ByteArray} (he : lab ≠ ⟨#[]⟩) : (lab.toList == []) = false := by
  refine beq_eq_false_iff_ne.2 fun h1 => he ?_
  rw [ByteArray.toList_eq] at h1
  obtain ⟨⟨x⟩⟩ := lab
  have : x = [] := h1
  rw [this]

set_option maxHeartbeats 1000000 in
theorem formed1 (path : List Int) (P M : Int) (lab : ByteArray) (pa : Option Addr) (pc : Nat) (w : World) (h : P = 0 ∧ M = 0) :
    Calls Try.prog 58 #[ddV ⟨1, path, P, M, lab⟩ pa pc] w fun e w' => e = .returned (.bool true) ∧ Below w.heap.size w w' := by
  obtain ⟨rfl, rfl⟩ := h
  unfold ddV
  simp only
  go_enter Try.func58, Try.ntmps58
  go_wp2_with fail
  go_ret
  exact ⟨rfl, (Below.refl _ _).alloc (Nat.le_refl _) _⟩
set_option maxHeartbeats 1000000 in
theorem formed2 (path : List Int) (P M : Int) (lab : ByteArray) (pa : Option Addr) (pc : Nat) (w : World) (h : P = 0 ∧ M = 0) (hl : lab = ⟨#[]⟩) :
    Calls Try.prog 58 #[ddV ⟨2, path, P, M, lab⟩ pa pc] w fun e w' => e = .returned (.bool true) ∧ Below w.heap.size w w' := by
  obtain ⟨rfl, rfl⟩ := h
  subst hl
  unfold ddV
  simp only
  go_enter Try.func58, Try.ntmps58
  go_wp2_with fail
  go_ret
  exact ⟨rfl, (Below.refl _ _).alloc (Nat.le_refl _) _⟩
set_option maxHeartbeats 1000000 in
theorem formed3 (path : List Int) (P M : Int) (lab : ByteArray) (pa : Option Addr) (pc : Nat) (w : World) :
    Calls Try.prog 58 #[ddV ⟨3, path, P, M, lab⟩ pa pc] w fun e w' => e = .returned (.bool true) ∧ Below w.heap.size w w' := by
  unfold ddV
  simp only
  go_enter Try.func58, Try.ntmps58
  go_wp2_with fail
  go_ret
  exact ⟨rfl, (Below.refl _ _).alloc (Nat.le_refl _) _⟩
set_option maxHeartbeats 1000000 in
theorem unformed1 (path : List Int) (P M : Int) (lab : ByteArray) (pa : Option Addr) (pc : Nat) (w : World) (h : P ≠ 0 ∨ M ≠ 0) :
    Calls Try.prog 58 #[ddV ⟨1, path, P, M, lab⟩ pa pc] w fun e w' => e = .returned (.bool false) ∧ Below w.heap.size w w' := by
  unfold ddV
  simp only
  by_cases hp : P = 0
  · have hm : M ≠ 0 := by omega
    subst hp
    clear h
    go_enter Try.func58, Try.ntmps58
    go_wp2_with fail
    go_ret
    exact ⟨rfl, (Below.refl _ _).alloc (Nat.le_refl _) _⟩
  · clear h
    go_enter Try.func58, Try.ntmps58
    go_wp2_with fail
    go_ret
    exact ⟨rfl, (Below.refl _ _).alloc (Nat.le_refl _) _⟩
set_option maxHeartbeats 1000000 in
theorem unformed2 (path : List Int) (P M : Int) (lab : ByteArray) (pa : Option Addr) (pc : Nat) (w : World) (h : P ≠ 0 ∨ M ≠ 0) :
    Calls Try.prog 58 #[ddV ⟨2, path, P, M, lab⟩ pa pc] w fun e w' => e = .returned (.bool false) ∧ Below w.heap.size w w' := by
  unfold ddV
  simp only
  by_cases hp : P = 0
  · have hm : M ≠ 0 := by omega
    subst hp
    clear h
    go_enter Try.func58, Try.ntmps58
    go_wp2_with fail
    go_ret
    exact ⟨rfl, (Below.refl _ _).alloc (Nat.le_refl _) _⟩
  · clear h
    go_enter Try.func58, Try.ntmps58
    go_wp2_with fail
    go_ret
    exact ⟨rfl, (Below.refl _ _).alloc (Nat.le_refl _) _⟩
set_option maxHeartbeats 1000000 in
theorem unformed2l (path : List Int) (lab : ByteArray) (pa : Option Addr) (pc : Nat) (w : World) (h : lab ≠ ⟨#[]⟩) :
    Calls Try.prog 58 #[ddV ⟨2, path, 0, 0, lab⟩ pa pc] w fun e w' => e = .returned (.bool false) ∧ Below w.heap.size w w' := by
  unfold ddV
  simp only
  have hb := lab_ne h
  clear h
  go_enter Try.func58, Try.ntmps58
  go_wp2_with fail
  go_ret
  exact ⟨rfl, (Below.refl _ _).alloc (Nat.le_refl _) _⟩

set_option maxHeartbeats 2000000 in
theorem dcheckF_1 (path : List Int) (P M : Int) (lab : ByteArray) (pa : Option Addr) (pc : Nat) (w : World) (h2 : ((1 : Int) ≠ 3 ∧ (P ≠ 0 ∨ M ≠ 0)) ∨ ((1 : Int) = 2 ∧ lab ≠ ⟨#[]⟩)) (hform : ∀ W, Calls Try.prog 58 #[ddV ⟨1, path, P, M, lab⟩ pa pc] W fun e w' => e = .returned (.bool false) ∧ Below W.heap.size W w') :
    Calls Try.prog 27 #[ddV ⟨1, path, P, M, lab⟩ pa pc] w fun e w' => e = .returned (.int .i64 (deedFault ⟨1, path, P, M, lab⟩)) ∧ Below w.heap.size w w' := by
  have HD := hide (deedFault_form (K := 1) (path := path) (by decide) h2)
  unfold ddV at hform ⊢
  simp only at hform ⊢
  have HF := hide hform
  clear hform h2
  go_enter Try.func27, Try.ntmps27
  go_wp2_with fail
  refine Calls.mono (HF.out _) ?_
  rintro e w1 ⟨rfl, hb1⟩
  have HB := hide (((Below.refl w.heap.size w).alloc (Nat.le_refl _) (Obj.cells #[.int .i64 1, .slice pa path.length pc, .int .i64 P, .int .i64 M, .string lab] 44)).trans (hb1.mono (by simp)))
  clear hb1
  go_wp2_with fail
  go_ret
  exact ⟨by rw [HD.out]; rfl, HB.out⟩

set_option maxHeartbeats 2000000 in
theorem dcheckF_2 (path : List Int) (P M : Int) (lab : ByteArray) (pa : Option Addr) (pc : Nat) (w : World) (h2 : ((2 : Int) ≠ 3 ∧ (P ≠ 0 ∨ M ≠ 0)) ∨ ((2 : Int) = 2 ∧ lab ≠ ⟨#[]⟩)) (hform : ∀ W, Calls Try.prog 58 #[ddV ⟨2, path, P, M, lab⟩ pa pc] W fun e w' => e = .returned (.bool false) ∧ Below W.heap.size W w') :
    Calls Try.prog 27 #[ddV ⟨2, path, P, M, lab⟩ pa pc] w fun e w' => e = .returned (.int .i64 (deedFault ⟨2, path, P, M, lab⟩)) ∧ Below w.heap.size w w' := by
  have HD := hide (deedFault_form (K := 2) (path := path) (by decide) h2)
  unfold ddV at hform ⊢
  simp only at hform ⊢
  have HF := hide hform
  clear hform h2
  go_enter Try.func27, Try.ntmps27
  go_wp2_with fail
  refine Calls.mono (HF.out _) ?_
  rintro e w1 ⟨rfl, hb1⟩
  have HB := hide (((Below.refl w.heap.size w).alloc (Nat.le_refl _) (Obj.cells #[.int .i64 2, .slice pa path.length pc, .int .i64 P, .int .i64 M, .string lab] 44)).trans (hb1.mono (by simp)))
  clear hb1
  go_wp2_with fail
  go_ret
  exact ⟨by rw [HD.out]; rfl, HB.out⟩

set_option maxHeartbeats 4000000 in
theorem dcheckO_1 (path : List Int) (P M : Int) (lab : ByteArray) (pa : Option Addr) (pc : Nat) (w : World) (hpi : PIn w pa path) (hpl : path.length ≤ pc) (hpc : pc ≤ maxLen) (hls : lab.size ≤ maxLen) (h2 : ¬ (((1 : Int) ≠ 3 ∧ (P ≠ 0 ∨ M ≠ 0)) ∨ ((1 : Int) = 2 ∧ lab ≠ ⟨#[]⟩))) (hform : ∀ W, Calls Try.prog 58 #[ddV ⟨1, path, P, M, lab⟩ pa pc] W fun e w' => e = .returned (.bool true) ∧ Below W.heap.size W w') :
    Calls Try.prog 27 #[ddV ⟨1, path, P, M, lab⟩ pa pc] w fun e w' => e = .returned (.int .i64 (deedFault ⟨1, path, P, M, lab⟩)) ∧ Below w.heap.size w w' := by
  have hm := deedFault_mid (K := 1) (path := path) (P := P) (M := M) (lab := lab) (by decide) h2 (B := decide (P < 0) || decide (M < 0)) rfl
  unfold ddV at hform ⊢
  simp only at hform ⊢
  have HF := hide hform
  have hbx : Below w.heap.size w (w.alloc (Obj.cells #[.int .i64 1, .slice pa path.length pc, .int .i64 P, .int .i64 M, .string lab] 44)) := (Below.refl w.heap.size w).alloc (Nat.le_refl _) _
  have hnb := heap_alloc_new w (Obj.cells #[.int .i64 1, .slice pa path.length pc, .int .i64 P, .int .i64 M, .string lab] 44)
  obtain ⟨W, hW⟩ : ∃ W, W = w.alloc (Obj.cells #[.int .i64 1, .slice pa path.length pc, .int .i64 P, .int .i64 M, .string lab] 44) := ⟨_, rfl⟩
  have sW : W.heap.size = w.heap.size + 1 := by rw [hW]; simp
  rw [← hW] at hbx hnb
  have HI := hide (And.intro hbx (And.intro hnb hpi))
  have HM := hide hm
  clear hform h2 hm hbx hnb hpi
  go_enter Try.func27, Try.ntmps27
  go_wp2_with fail
  rw [← hW]
  clear hW
  refine Calls.mono (HF.out _) ?_
  rintro e w1 ⟨rfl, hb1⟩
  have hnb1 : w1.heap[w.heap.size]? = _ := (hb1.block w.heap.size (by omega)).trans HI.out.2.1
  have q0 : w1.cell? ⟨w.heap.size, 0, none⟩ = some (.int .i64 1) := by rw [cell_of_row _ _ 0 _ _ _ hnb1]; rfl
  have q1 : w1.cell? ⟨w.heap.size, 1, none⟩ = some (.slice pa path.length pc) := by rw [cell_of_row _ _ 1 _ _ _ hnb1]; rfl
  have q2 : w1.cell? ⟨w.heap.size, 2, none⟩ = some (.int .i64 P) := by rw [cell_of_row _ _ 2 _ _ _ hnb1]; rfl
  have q3 : w1.cell? ⟨w.heap.size, 3, none⟩ = some (.int .i64 M) := by rw [cell_of_row _ _ 3 _ _ _ hnb1]; rfl
  have q4 : w1.cell? ⟨w.heap.size, 4, none⟩ = some (.string lab) := by rw [cell_of_row _ _ 4 _ _ _ hnb1]; rfl
  have s1 := hb1.size
  obtain ⟨V, hV⟩ : ∃ V, V = w1.alloc (Obj.cells #[.int .i64 P, .int .i64 M] 3) := ⟨_, rfl⟩
  have bV : Below w.heap.size w V := by rw [hV]; exact (HI.out.1.trans (hb1.mono (by omega))).alloc (by omega) _
  have nV : V.heap[w1.heap.size]? = some (Obj.cells #[.int .i64 P, .int .i64 M] 3) := by rw [hV]; exact heap_alloc_new _ _
  have kV : V.heap[w.heap.size]? = w1.heap[w.heap.size]? := by rw [hV]; exact Below.heap_alloc _ _ _ (by omega)
  have r0 : V.cell? ⟨w.heap.size, 0, none⟩ = some (.int .i64 1) := by rw [World.cell?_of_block (w := w1) kV]; exact q0
  have r1 : V.cell? ⟨w.heap.size, 1, none⟩ = some (.slice pa path.length pc) := by rw [World.cell?_of_block (w := w1) kV]; exact q1
  have r4 : V.cell? ⟨w.heap.size, 4, none⟩ = some (.string lab) := by rw [World.cell?_of_block (w := w1) kV]; exact q4
  have HA := hide (anyB_any (some ⟨w1.heap.size, 0, none⟩) 2 [P, M] V (Or.inr ⟨_, _, rfl, fun i p hp => by
    match i, hp with
    | 0, hp => simp at hp; subst hp; rw [cell_of_row _ _ (0 + 0) _ _ _ nV]; rfl
    | 1, hp => simp at hp; subst hp; rw [cell_of_row _ _ (0 + 1) _ _ _ nV]; rfl
    | _ + 2, hp => simp at hp⟩) (show 2 ≤ maxLen by decide))
  have HP := hide (anyB_any pa pc path V (HI.out.2.2.below bV) (Nat.le_trans hpl hpc))
  simp only [List.any_cons, List.any_nil, Bool.or_false, List.length_cons, List.length_nil, Nat.zero_add] at HA
  have HB := hide bV
  unfold maxLen at hpc
  clear hb1 hnb1 bV nV kV HI HF
  obtain ⟨B, hB⟩ : ∃ B, B = (decide (P < 0) || decide (M < 0)) := ⟨_, rfl⟩
  rw [← hB] at HA HM
  clear hB
  go_wp2_with fail
  rw [← hV]
  clear hV q0 q1 q2 q3 q4
  refine Calls.mono HA.out ?_
  rintro e w2 ⟨rfl, rfl⟩
  cases B
  · obtain ⟨bb, hbb⟩ : ∃ bb, bb = path.any (fun p => decide (p < 0)) := ⟨_, rfl⟩
    rw [← hbb] at HP HM
    clear hbb
    go_wp2_with fail
    refine Calls.mono HP.out ?_
    rintro e w3 ⟨rfl, rfl⟩
    cases bb
    · have HF := hide (HM.out.2 rfl)
      clear HM HA HP
      cases hl : labelB lab
      · go_wp2_with fail
        refine Calls.mono (label_any lab _ hls) ?_
        rintro e w2 ⟨rfl, rfl⟩
        rw [hl]
        go_wp2_with fail
        go_ret
        exact ⟨by rw [HF.out, hl]; rfl, HB.out⟩
      · go_wp2_with fail
        refine Calls.mono (label_any lab _ hls) ?_
        rintro e w2 ⟨rfl, rfl⟩
        rw [hl]
        go_wp2_with fail
        go_ret
        exact ⟨by rw [HF.out, hl]; rfl, HB.out⟩
    · have HF := hide (HM.out.1 rfl)
      clear HM HA HP
      go_wp2_with fail
      go_ret
      exact ⟨by rw [HF.out]; rfl, HB.out⟩
  · have HF := hide (HM.out.1 rfl)
    clear HM HA HP
    go_wp2_with fail
    go_ret
    exact ⟨by rw [HF.out]; rfl, HB.out⟩

set_option maxHeartbeats 4000000 in
theorem dcheckO_2 (path : List Int) (P M : Int) (lab : ByteArray) (pa : Option Addr) (pc : Nat) (w : World) (hpi : PIn w pa path) (hpl : path.length ≤ pc) (hpc : pc ≤ maxLen) (hls : lab.size ≤ maxLen) (h2 : ¬ (((2 : Int) ≠ 3 ∧ (P ≠ 0 ∨ M ≠ 0)) ∨ ((2 : Int) = 2 ∧ lab ≠ ⟨#[]⟩))) (hform : ∀ W, Calls Try.prog 58 #[ddV ⟨2, path, P, M, lab⟩ pa pc] W fun e w' => e = .returned (.bool true) ∧ Below W.heap.size W w') :
    Calls Try.prog 27 #[ddV ⟨2, path, P, M, lab⟩ pa pc] w fun e w' => e = .returned (.int .i64 (deedFault ⟨2, path, P, M, lab⟩)) ∧ Below w.heap.size w w' := by
  have hm := deedFault_mid (K := 2) (path := path) (P := P) (M := M) (lab := lab) (by decide) h2 (B := decide (P < 0) || decide (M < 0)) rfl
  unfold ddV at hform ⊢
  simp only at hform ⊢
  have HF := hide hform
  have hbx : Below w.heap.size w (w.alloc (Obj.cells #[.int .i64 2, .slice pa path.length pc, .int .i64 P, .int .i64 M, .string lab] 44)) := (Below.refl w.heap.size w).alloc (Nat.le_refl _) _
  have hnb := heap_alloc_new w (Obj.cells #[.int .i64 2, .slice pa path.length pc, .int .i64 P, .int .i64 M, .string lab] 44)
  obtain ⟨W, hW⟩ : ∃ W, W = w.alloc (Obj.cells #[.int .i64 2, .slice pa path.length pc, .int .i64 P, .int .i64 M, .string lab] 44) := ⟨_, rfl⟩
  have sW : W.heap.size = w.heap.size + 1 := by rw [hW]; simp
  rw [← hW] at hbx hnb
  have HI := hide (And.intro hbx (And.intro hnb hpi))
  have HM := hide hm
  clear hform h2 hm hbx hnb hpi
  go_enter Try.func27, Try.ntmps27
  go_wp2_with fail
  rw [← hW]
  clear hW
  refine Calls.mono (HF.out _) ?_
  rintro e w1 ⟨rfl, hb1⟩
  have hnb1 : w1.heap[w.heap.size]? = _ := (hb1.block w.heap.size (by omega)).trans HI.out.2.1
  have q0 : w1.cell? ⟨w.heap.size, 0, none⟩ = some (.int .i64 2) := by rw [cell_of_row _ _ 0 _ _ _ hnb1]; rfl
  have q1 : w1.cell? ⟨w.heap.size, 1, none⟩ = some (.slice pa path.length pc) := by rw [cell_of_row _ _ 1 _ _ _ hnb1]; rfl
  have q2 : w1.cell? ⟨w.heap.size, 2, none⟩ = some (.int .i64 P) := by rw [cell_of_row _ _ 2 _ _ _ hnb1]; rfl
  have q3 : w1.cell? ⟨w.heap.size, 3, none⟩ = some (.int .i64 M) := by rw [cell_of_row _ _ 3 _ _ _ hnb1]; rfl
  have q4 : w1.cell? ⟨w.heap.size, 4, none⟩ = some (.string lab) := by rw [cell_of_row _ _ 4 _ _ _ hnb1]; rfl
  have s1 := hb1.size
  obtain ⟨V, hV⟩ : ∃ V, V = w1.alloc (Obj.cells #[.int .i64 P, .int .i64 M] 3) := ⟨_, rfl⟩
  have bV : Below w.heap.size w V := by rw [hV]; exact (HI.out.1.trans (hb1.mono (by omega))).alloc (by omega) _
  have nV : V.heap[w1.heap.size]? = some (Obj.cells #[.int .i64 P, .int .i64 M] 3) := by rw [hV]; exact heap_alloc_new _ _
  have kV : V.heap[w.heap.size]? = w1.heap[w.heap.size]? := by rw [hV]; exact Below.heap_alloc _ _ _ (by omega)
  have r0 : V.cell? ⟨w.heap.size, 0, none⟩ = some (.int .i64 2) := by rw [World.cell?_of_block (w := w1) kV]; exact q0
  have r1 : V.cell? ⟨w.heap.size, 1, none⟩ = some (.slice pa path.length pc) := by rw [World.cell?_of_block (w := w1) kV]; exact q1
  have r4 : V.cell? ⟨w.heap.size, 4, none⟩ = some (.string lab) := by rw [World.cell?_of_block (w := w1) kV]; exact q4
  have HA := hide (anyB_any (some ⟨w1.heap.size, 0, none⟩) 2 [P, M] V (Or.inr ⟨_, _, rfl, fun i p hp => by
    match i, hp with
    | 0, hp => simp at hp; subst hp; rw [cell_of_row _ _ (0 + 0) _ _ _ nV]; rfl
    | 1, hp => simp at hp; subst hp; rw [cell_of_row _ _ (0 + 1) _ _ _ nV]; rfl
    | _ + 2, hp => simp at hp⟩) (show 2 ≤ maxLen by decide))
  have HP := hide (anyB_any pa pc path V (HI.out.2.2.below bV) (Nat.le_trans hpl hpc))
  simp only [List.any_cons, List.any_nil, Bool.or_false, List.length_cons, List.length_nil, Nat.zero_add] at HA
  have HB := hide bV
  unfold maxLen at hpc
  clear hb1 hnb1 bV nV kV HI HF
  obtain ⟨B, hB⟩ : ∃ B, B = (decide (P < 0) || decide (M < 0)) := ⟨_, rfl⟩
  rw [← hB] at HA HM
  clear hB
  go_wp2_with fail
  rw [← hV]
  clear hV q0 q1 q2 q3 q4
  refine Calls.mono HA.out ?_
  rintro e w2 ⟨rfl, rfl⟩
  cases B
  · obtain ⟨bb, hbb⟩ : ∃ bb, bb = path.any (fun p => decide (p < 0)) := ⟨_, rfl⟩
    rw [← hbb] at HP HM
    clear hbb
    go_wp2_with fail
    refine Calls.mono HP.out ?_
    rintro e w3 ⟨rfl, rfl⟩
    cases bb
    · have HF := hide (HM.out.2 rfl)
      clear HM HA HP
      by_cases hp0 : path = []
      · have HF2 := hide (show deedFault ⟨2, path, P, M, lab⟩ = 8 by rw [HF.out, if_neg (by simp), if_pos (by simp [hp0])])
        subst hp0
        clear HF
        go_wp2_with fail
        go_ret
        exact ⟨by rw [HF2.out]; rfl, HB.out⟩
      · have HF2 := hide (show deedFault ⟨2, path, P, M, lab⟩ = 0 by rw [HF.out, if_neg (by simp), if_neg (by simp [hp0])])
        have hpl : 0 < path.length := List.length_pos_iff.2 hp0
        clear HF hp0
        go_wp2_with fail
        go_ret
        exact ⟨by rw [HF2.out]; rfl, HB.out⟩
    · have HF := hide (HM.out.1 rfl)
      clear HM HA HP
      go_wp2_with fail
      go_ret
      exact ⟨by rw [HF.out]; rfl, HB.out⟩
  · have HF := hide (HM.out.1 rfl)
    clear HM HA HP
    go_wp2_with fail
    go_ret
    exact ⟨by rw [HF.out]; rfl, HB.out⟩

set_option maxHeartbeats 4000000 in
theorem dcheckO_3 (path : List Int) (P M : Int) (lab : ByteArray) (pa : Option Addr) (pc : Nat) (w : World) (hpi : PIn w pa path) (hpl : path.length ≤ pc) (hpc : pc ≤ maxLen) (hls : lab.size ≤ maxLen) (h2 : ¬ (((3 : Int) ≠ 3 ∧ (P ≠ 0 ∨ M ≠ 0)) ∨ ((3 : Int) = 2 ∧ lab ≠ ⟨#[]⟩))) (hform : ∀ W, Calls Try.prog 58 #[ddV ⟨3, path, P, M, lab⟩ pa pc] W fun e w' => e = .returned (.bool true) ∧ Below W.heap.size W w') :
    Calls Try.prog 27 #[ddV ⟨3, path, P, M, lab⟩ pa pc] w fun e w' => e = .returned (.int .i64 (deedFault ⟨3, path, P, M, lab⟩)) ∧ Below w.heap.size w w' := by
  have hm := deedFault_mid (K := 3) (path := path) (P := P) (M := M) (lab := lab) (by decide) h2 (B := decide (P < 0) || decide (M < 0)) rfl
  unfold ddV at hform ⊢
  simp only at hform ⊢
  have HF := hide hform
  have hbx : Below w.heap.size w (w.alloc (Obj.cells #[.int .i64 3, .slice pa path.length pc, .int .i64 P, .int .i64 M, .string lab] 44)) := (Below.refl w.heap.size w).alloc (Nat.le_refl _) _
  have hnb := heap_alloc_new w (Obj.cells #[.int .i64 3, .slice pa path.length pc, .int .i64 P, .int .i64 M, .string lab] 44)
  obtain ⟨W, hW⟩ : ∃ W, W = w.alloc (Obj.cells #[.int .i64 3, .slice pa path.length pc, .int .i64 P, .int .i64 M, .string lab] 44) := ⟨_, rfl⟩
  have sW : W.heap.size = w.heap.size + 1 := by rw [hW]; simp
  rw [← hW] at hbx hnb
  have HI := hide (And.intro hbx (And.intro hnb hpi))
  have HM := hide hm
  clear hform h2 hm hbx hnb hpi
  go_enter Try.func27, Try.ntmps27
  go_wp2_with fail
  rw [← hW]
  clear hW
  refine Calls.mono (HF.out _) ?_
  rintro e w1 ⟨rfl, hb1⟩
  have hnb1 : w1.heap[w.heap.size]? = _ := (hb1.block w.heap.size (by omega)).trans HI.out.2.1
  have q0 : w1.cell? ⟨w.heap.size, 0, none⟩ = some (.int .i64 3) := by rw [cell_of_row _ _ 0 _ _ _ hnb1]; rfl
  have q1 : w1.cell? ⟨w.heap.size, 1, none⟩ = some (.slice pa path.length pc) := by rw [cell_of_row _ _ 1 _ _ _ hnb1]; rfl
  have q2 : w1.cell? ⟨w.heap.size, 2, none⟩ = some (.int .i64 P) := by rw [cell_of_row _ _ 2 _ _ _ hnb1]; rfl
  have q3 : w1.cell? ⟨w.heap.size, 3, none⟩ = some (.int .i64 M) := by rw [cell_of_row _ _ 3 _ _ _ hnb1]; rfl
  have q4 : w1.cell? ⟨w.heap.size, 4, none⟩ = some (.string lab) := by rw [cell_of_row _ _ 4 _ _ _ hnb1]; rfl
  have s1 := hb1.size
  obtain ⟨V, hV⟩ : ∃ V, V = w1.alloc (Obj.cells #[.int .i64 P, .int .i64 M] 3) := ⟨_, rfl⟩
  have bV : Below w.heap.size w V := by rw [hV]; exact (HI.out.1.trans (hb1.mono (by omega))).alloc (by omega) _
  have nV : V.heap[w1.heap.size]? = some (Obj.cells #[.int .i64 P, .int .i64 M] 3) := by rw [hV]; exact heap_alloc_new _ _
  have kV : V.heap[w.heap.size]? = w1.heap[w.heap.size]? := by rw [hV]; exact Below.heap_alloc _ _ _ (by omega)
  have r0 : V.cell? ⟨w.heap.size, 0, none⟩ = some (.int .i64 3) := by rw [World.cell?_of_block (w := w1) kV]; exact q0
  have r1 : V.cell? ⟨w.heap.size, 1, none⟩ = some (.slice pa path.length pc) := by rw [World.cell?_of_block (w := w1) kV]; exact q1
  have r4 : V.cell? ⟨w.heap.size, 4, none⟩ = some (.string lab) := by rw [World.cell?_of_block (w := w1) kV]; exact q4
  have HA := hide (anyB_any (some ⟨w1.heap.size, 0, none⟩) 2 [P, M] V (Or.inr ⟨_, _, rfl, fun i p hp => by
    match i, hp with
    | 0, hp => simp at hp; subst hp; rw [cell_of_row _ _ (0 + 0) _ _ _ nV]; rfl
    | 1, hp => simp at hp; subst hp; rw [cell_of_row _ _ (0 + 1) _ _ _ nV]; rfl
    | _ + 2, hp => simp at hp⟩) (show 2 ≤ maxLen by decide))
  have HP := hide (anyB_any pa pc path V (HI.out.2.2.below bV) (Nat.le_trans hpl hpc))
  simp only [List.any_cons, List.any_nil, Bool.or_false, List.length_cons, List.length_nil, Nat.zero_add] at HA
  have HB := hide bV
  unfold maxLen at hpc
  clear hb1 hnb1 bV nV kV HI HF
  obtain ⟨B, hB⟩ : ∃ B, B = (decide (P < 0) || decide (M < 0)) := ⟨_, rfl⟩
  rw [← hB] at HA HM
  clear hB
  go_wp2_with fail
  rw [← hV]
  clear hV q0 q1 q2 q3 q4
  refine Calls.mono HA.out ?_
  rintro e w2 ⟨rfl, rfl⟩
  cases B
  · obtain ⟨bb, hbb⟩ : ∃ bb, bb = path.any (fun p => decide (p < 0)) := ⟨_, rfl⟩
    rw [← hbb] at HP HM
    clear hbb
    go_wp2_with fail
    refine Calls.mono HP.out ?_
    rintro e w3 ⟨rfl, rfl⟩
    cases bb
    · have HF := hide (HM.out.2 rfl)
      clear HM HA HP
      cases hl : labelB lab
      · go_wp2_with fail
        refine Calls.mono (label_any lab _ hls) ?_
        rintro e w2 ⟨rfl, rfl⟩
        rw [hl]
        go_wp2_with fail
        go_ret
        exact ⟨by rw [HF.out, hl]; rfl, HB.out⟩
      · go_wp2_with fail
        refine Calls.mono (label_any lab _ hls) ?_
        rintro e w2 ⟨rfl, rfl⟩
        rw [hl]
        go_wp2_with fail
        go_ret
        exact ⟨by rw [HF.out, hl]; rfl, HB.out⟩
    · have HF := hide (HM.out.1 rfl)
      clear HM HA HP
      go_wp2_with fail
      go_ret
      exact ⟨by rw [HF.out]; rfl, HB.out⟩
  · have HF := hide (HM.out.1 rfl)
    clear HM HA HP
    go_wp2_with fail
    go_ret
    exact ⟨by rw [HF.out]; rfl, HB.out⟩

set_option maxHeartbeats 1000000 in
theorem dcheck_any (d : Dd) (pa : Option Addr) (pc : Nat) (w : World) (h : DIn w d pa pc) :
    Calls Try.prog 27 #[ddV d pa pc] w fun e w' => e = .returned (.int .i64 (deedFault d)) ∧ Below w.heap.size w w' := by
  obtain ⟨K, path, P, M, lab⟩ := d
  obtain ⟨h1, h2, h3, h4⟩ := h
  by_cases k1 : K = 1
  · subst k1
    by_cases hz : P = 0 ∧ M = 0
    · exact dcheckO_1 path P M lab pa pc w h1 h2 h3 h4 (by rintro (⟨_, h⟩ | ⟨h, _⟩) <;> omega) fun W => formed1 path P M lab pa pc W hz
    · exact dcheckF_1 path P M lab pa pc w (Or.inl ⟨by decide, by omega⟩) fun W => unformed1 path P M lab pa pc W (by omega)
  · by_cases k2 : K = 2
    · subst k2
      by_cases hz : P = 0 ∧ M = 0
      · by_cases hlab : lab = ⟨#[]⟩
        · refine dcheckO_2 path P M lab pa pc w h1 h2 h3 h4 ?_ fun W => formed2 path P M lab pa pc W hz hlab
          rintro (⟨_, h⟩ | ⟨_, h⟩)
          · omega
          · exact h hlab
        · obtain ⟨rfl, rfl⟩ := hz
          exact dcheckF_2 path 0 0 lab pa pc w (Or.inr ⟨rfl, hlab⟩) fun W => unformed2l path lab pa pc W hlab
      · exact dcheckF_2 path P M lab pa pc w (Or.inl ⟨by decide, by omega⟩) fun W => unformed2 path P M lab pa pc W (by omega)
    · by_cases k3 : K = 3
      · subst k3
        exact dcheckO_3 path P M lab pa pc w h1 h2 h3 h4 (by rintro (⟨h, _⟩ | ⟨h, _⟩) <;> omega) fun W => formed3 path P M lab pa pc W
      · have HF := hide (deedFault_kind (K := K) (P := P) (M := M) (path := path) (lab := lab) k1 k2 k3)
        have n1 : (K != 1) = true := by simp [k1]
        have n2 : (K != 2) = true := by simp [k2]
        have n3 : (K != 3) = true := by simp [k3]
        unfold ddV
        simp only
        clear h1 h2 h3 h4 k1 k2 k3
        go_enter Try.func27, Try.ntmps27
        go_wp2_with fail
        go_ret
        exact ⟨by rw [HF.out]; rfl, (Below.refl _ _).alloc (Nat.le_refl _) _⟩
end Go.Proofs.Ytcknganggcbkjab.Deed
namespace Go.Proofs.Ytcknganggcbkjab.Deed
open Go.Deep Go.RowKit
set_option linter.unusedVariables false
set_option maxRecDepth 20000

set_option maxHeartbeats 2000000 in
theorem pdo_bad1 (d : Dd) (s : ByteArray) (ka : Option Addr) (cap : Nat) (k : Fo) (pa : Option Addr) (pc : Nat) (w : World) (ht : TIn w s ka cap k) (hp : FPlain w k) (hn : 1 + fnodes k ≤ 200) (h : faultT s k ≠ 0) :
    Calls Try.prog 25 #[.agg #[.string s, .slice ka (flen k) cap], ddV d pa pc] w (DoEnd (doP d s k) w) := by
  unfold doP
  rw [if_pos h]
  unfold ddV
  obtain ⟨c, hc⟩ : ∃ c, c = faultT s k := ⟨_, rfl⟩
  have hb : (c == 0) = false := beq_eq_false_iff_ne.2 (by rw [hc]; exact h)
  have hb2 : (c != 0) = true := by simp [bne, hb]
  rw [← hc]
  obtain ⟨W, hW⟩ : ∃ W, W = (((w.alloc (Obj.cells #[Value.string s, Value.slice ka (flen k) cap] 24)).alloc (Obj.cells #[.int .i64 d.kind, .slice pa d.path.length pc, .int .i64 d.pos, .int .i64 d.many, .string d.lab] 44)).alloc (Obj.cells #[Value.string ⟨#[]⟩, Value.slice none 0 0] 24)).alloc (Obj.cells #[.int .i64 0, .slice none 0 0, .int .i64 0, .int .i64 0, .string ⟨#[]⟩] 44) := ⟨_, rfl⟩
  obtain ⟨hWs, hB, c0, c1, c2, c3⟩ := boxes4 w (Obj.cells #[Value.string s, Value.slice ka (flen k) cap] 24) (Obj.cells #[.int .i64 d.kind, .slice pa d.path.length pc, .int .i64 d.pos, .int .i64 d.many, .string d.lab] 44) (Obj.cells #[Value.string ⟨#[]⟩, Value.slice none 0 0] 24) (Obj.cells #[.int .i64 0, .slice none 0 0, .int .i64 0, .int .i64 0, .string ⟨#[]⟩] 44)
  rw [← hW] at hWs hB c0 c1 c2 c3
  have HF := hide (check_any s ka cap k W (ht.below hB) (hp.below hB) hn)
  have HC := hide (And.intro hWs (And.intro hB (And.intro c2 c3)))
  rw [← hc] at HF
  clear hWs hB c0 c1 c2 c3 ht hp hn h hc
  go_enter Try.func25, Try.ntmps25
  go_wp2_with fail
  rw [← hW]
  clear hW
  refine Calls.mono HF.out ?_
  rintro e w1 ⟨rfl, hb1⟩
  have hws := HC.out.1
  have e2 : w1.heap[w.heap.size + 1 + 1]? = _ := (hb1.block _ (by omega)).trans HC.out.2.2.1
  have e3 : w1.heap[w.heap.size + 1 + 1 + 1]? = _ := (hb1.block _ (by omega)).trans HC.out.2.2.2
  have q20 : w1.cell? ⟨w.heap.size + 1 + 1, 0, none⟩ = some (.string ⟨#[]⟩) := by rw [cell_of_row _ _ 0 _ _ _ e2]; rfl
  have q21 : w1.cell? ⟨w.heap.size + 1 + 1, 1, none⟩ = some (.slice none 0 0) := by rw [cell_of_row _ _ 1 _ _ _ e2]; rfl
  have f2 : ∀ o, w1.frozen? ⟨w.heap.size + 1 + 1, o, none⟩ = false := fun o => by simp [World.frozen?, e2]
  have f3 : ∀ o, w1.frozen? ⟨w.heap.size + 1 + 1 + 1, o, none⟩ = false := fun o => by simp [World.frozen?, e3]
  have q30 : w1.cell? ⟨w.heap.size + 1 + 1 + 1, 0, none⟩ = some (.int .i64 0) := by rw [cell_of_row _ _ 0 _ _ _ e3]; rfl
  have q31 : w1.cell? ⟨w.heap.size + 1 + 1 + 1, 1, none⟩ = some (.slice none 0 0) := by rw [cell_of_row _ _ 1 _ _ _ e3]; rfl
  have q32 : w1.cell? ⟨w.heap.size + 1 + 1 + 1, 2, none⟩ = some (.int .i64 0) := by rw [cell_of_row _ _ 2 _ _ _ e3]; rfl
  have q33 : w1.cell? ⟨w.heap.size + 1 + 1 + 1, 3, none⟩ = some (.int .i64 0) := by rw [cell_of_row _ _ 3 _ _ _ e3]; rfl
  have q34 : w1.cell? ⟨w.heap.size + 1 + 1 + 1, 4, none⟩ = some (.string ⟨#[]⟩) := by rw [cell_of_row _ _ 4 _ _ _ e3]; rfl
  have HB := hide (HC.out.2.1.trans (hb1.mono (by omega)))
  clear e2 e3 hb1 hws HC HF
  go_wp2_with fail
  refine bodyPost_ret (v := .tuple #[.agg #[.string ⟨#[]⟩, .slice none 0 0], .agg #[.int .i64 0, .slice none 0 0, .int .i64 0, .int .i64 0, .string ⟨#[]⟩], .int .i64 c]) (by simp [results, Try.results25, go_sem, *]) rfl (DoEnd.bad ?_)
  exact ((((((HB.out.setCell (by simp only; omega) _).setCell (by simp only; omega) _).setCell (by simp only; omega) _).setCell (by simp only; omega) _).setCell (by simp only; omega) _).setCell (by simp only; omega) _).setCell (by simp only; omega) _

set_option maxHeartbeats 2000000 in
theorem pdo_bad2 (d : Dd) (s : ByteArray) (ka : Option Addr) (cap : Nat) (k : Fo) (pa : Option Addr) (pc : Nat) (w : World) (ht : TIn w s ka cap k) (hp : FPlain w k) (hn : 1 + fnodes k ≤ 200) (hd : DIn w d pa pc) (h1 : faultT s k = 0) (h : deedFault d ≠ 0) :
    Calls Try.prog 25 #[.agg #[.string s, .slice ka (flen k) cap], ddV d pa pc] w (DoEnd (doP d s k) w) := by
  unfold doP
  rw [if_neg (fun h' => h' h1), if_pos h]
  obtain ⟨c, hc⟩ : ∃ c, c = deedFault d := ⟨_, rfl⟩
  have hb : (c == 0) = false := beq_eq_false_iff_ne.2 (by rw [hc]; exact h)
  have hb2 : (c != 0) = true := by simp [bne, hb]
  rw [← hc]
  obtain ⟨W, hW⟩ : ∃ W, W = (((w.alloc (Obj.cells #[Value.string s, Value.slice ka (flen k) cap] 24)).alloc (Obj.cells #[.int .i64 d.kind, .slice pa d.path.length pc, .int .i64 d.pos, .int .i64 d.many, .string d.lab] 44)).alloc (Obj.cells #[Value.string ⟨#[]⟩, Value.slice none 0 0] 24)).alloc (Obj.cells #[.int .i64 0, .slice none 0 0, .int .i64 0, .int .i64 0, .string ⟨#[]⟩] 44) := ⟨_, rfl⟩
  obtain ⟨hWs, hB, c0, c1, c2, c3⟩ := boxes4 w (Obj.cells #[Value.string s, Value.slice ka (flen k) cap] 24) (Obj.cells #[.int .i64 d.kind, .slice pa d.path.length pc, .int .i64 d.pos, .int .i64 d.many, .string d.lab] 44) (Obj.cells #[Value.string ⟨#[]⟩, Value.slice none 0 0] 24) (Obj.cells #[.int .i64 0, .slice none 0 0, .int .i64 0, .int .i64 0, .string ⟨#[]⟩] 44)
  rw [← hW] at hWs hB c0 c1 c2 c3
  have hf := check_any s ka cap k W (ht.below hB) (hp.below hB) hn
  rw [h1] at hf
  have HF := hide hf
  have hD : ∀ W', Below W.heap.size W W' → Calls Try.prog 27 #[ddV d pa pc] W' fun e w' => e = .returned (.int .i64 c) ∧ Below W'.heap.size W' w' := fun W' h => by
    rw [hc]
    exact dcheck_any d pa pc W' (hd.below (hB.trans (h.mono (by omega))))
  unfold ddV at hD
  have HD := hide hD
  have HC := hide (And.intro hWs (And.intro hB (And.intro c1 (And.intro c2 c3))))
  clear hWs hB c0 c1 c2 c3 ht hp hn h hc hf hD hd h1
  unfold ddV
  go_enter Try.func25, Try.ntmps25
  go_wp2_with fail
  rw [← hW]
  clear hW
  refine Calls.mono HF.out ?_
  rintro e w1 ⟨rfl, hb1⟩
  have hws := HC.out.1
  have e1 : w1.heap[w.heap.size + 1]? = _ := (hb1.block _ (by omega)).trans HC.out.2.2.1
  have d0 : w1.cell? ⟨w.heap.size + 1, 0, none⟩ = some (.int .i64 d.kind) := by rw [cell_of_row _ _ 0 _ _ _ e1]; rfl
  have d1 : w1.cell? ⟨w.heap.size + 1, 1, none⟩ = some (.slice pa d.path.length pc) := by rw [cell_of_row _ _ 1 _ _ _ e1]; rfl
  have d2 : w1.cell? ⟨w.heap.size + 1, 2, none⟩ = some (.int .i64 d.pos) := by rw [cell_of_row _ _ 2 _ _ _ e1]; rfl
  have d3 : w1.cell? ⟨w.heap.size + 1, 3, none⟩ = some (.int .i64 d.many) := by rw [cell_of_row _ _ 3 _ _ _ e1]; rfl
  have d4 : w1.cell? ⟨w.heap.size + 1, 4, none⟩ = some (.string d.lab) := by rw [cell_of_row _ _ 4 _ _ _ e1]; rfl
  have HB1 := hide hb1
  clear e1 hb1 hws HF
  go_wp2_with fail
  refine Calls.mono (HD.out _ HB1.out) ?_
  rintro e w2 ⟨rfl, hb2'⟩
  have hb12 : Below W.heap.size W w2 := HB1.out.trans (hb2'.mono HB1.out.size)
  have hws := HC.out.1
  have e2 : w2.heap[w.heap.size + 1 + 1]? = _ := (hb12.block _ (by omega)).trans HC.out.2.2.2.1
  have e3 : w2.heap[w.heap.size + 1 + 1 + 1]? = _ := (hb12.block _ (by omega)).trans HC.out.2.2.2.2
  have q20 : w2.cell? ⟨w.heap.size + 1 + 1, 0, none⟩ = some (.string ⟨#[]⟩) := by rw [cell_of_row _ _ 0 _ _ _ e2]; rfl
  have q21 : w2.cell? ⟨w.heap.size + 1 + 1, 1, none⟩ = some (.slice none 0 0) := by rw [cell_of_row _ _ 1 _ _ _ e2]; rfl
  have f2 : ∀ o, w2.frozen? ⟨w.heap.size + 1 + 1, o, none⟩ = false := fun o => by simp [World.frozen?, e2]
  have f3 : ∀ o, w2.frozen? ⟨w.heap.size + 1 + 1 + 1, o, none⟩ = false := fun o => by simp [World.frozen?, e3]
  have q30 : w2.cell? ⟨w.heap.size + 1 + 1 + 1, 0, none⟩ = some (.int .i64 0) := by rw [cell_of_row _ _ 0 _ _ _ e3]; rfl
  have q31 : w2.cell? ⟨w.heap.size + 1 + 1 + 1, 1, none⟩ = some (.slice none 0 0) := by rw [cell_of_row _ _ 1 _ _ _ e3]; rfl
  have q32 : w2.cell? ⟨w.heap.size + 1 + 1 + 1, 2, none⟩ = some (.int .i64 0) := by rw [cell_of_row _ _ 2 _ _ _ e3]; rfl
  have q33 : w2.cell? ⟨w.heap.size + 1 + 1 + 1, 3, none⟩ = some (.int .i64 0) := by rw [cell_of_row _ _ 3 _ _ _ e3]; rfl
  have q34 : w2.cell? ⟨w.heap.size + 1 + 1 + 1, 4, none⟩ = some (.string ⟨#[]⟩) := by rw [cell_of_row _ _ 4 _ _ _ e3]; rfl
  have HB := hide (HC.out.2.1.trans (hb12.mono (by omega)))
  clear e2 e3 hb12 hb2' hws HC HD HB1 d0 d1 d2 d3 d4
  go_wp2_with fail
  refine bodyPost_ret (v := .tuple #[.agg #[.string ⟨#[]⟩, .slice none 0 0], .agg #[.int .i64 0, .slice none 0 0, .int .i64 0, .int .i64 0, .string ⟨#[]⟩], .int .i64 c]) (by simp [results, Try.results25, go_sem, *]) rfl (DoEnd.bad ?_)
  exact ((((((HB.out.setCell (by simp only; omega) _).setCell (by simp only; omega) _).setCell (by simp only; omega) _).setCell (by simp only; omega) _).setCell (by simp only; omega) _).setCell (by simp only; omega) _).setCell (by simp only; omega) _

end Go.Proofs.Ytcknganggcbkjab.Deed
namespace Go.Proofs.Ytcknganggcbkjab.Deed
open Go.Deep Go.RowKit
set_option linter.unusedVariables false
set_option maxRecDepth 20000

def gnn : Gs → Nat
  | [] => 0
  | x :: l => fnodes x.2 + gnn l + 1
theorem gnn_toFo : ∀ l : Gs, fnodes (toFo l) = gnn l
  | [] => rfl
  | x :: l => by simp [toFo, fnodes, gnn, gnn_toFo l]
theorem gnn_gs : ∀ k : Fo, gnn (gsF k) = fnodes k
  | .nil => rfl
  | .node _ _ x k r => by simp [gsF, gnn, fnodes, fnodes_strip, gnn_gs r]
theorem gnn_append : ∀ a b : Gs, gnn (a ++ b) = gnn a + gnn b
  | [], b => by simp [gnn]
  | x :: a, b => by simp [gnn, gnn_append a b]; omega
theorem gnn_take_drop (l : Gs) (i : Nat) : gnn (l.take i) + gnn (l.drop i) = gnn l := by rw [← gnn_append, List.take_append_drop]
theorem gnn_set : ∀ (l : Gs) (p : Nat) (x y : ByteArray × Fo), l[p]? = some x → gnn (l.set p y) + fnodes x.2 = gnn l + fnodes y.2
  | [], _, _, _, h => by simp at h
  | a :: l, 0, x, y, h => by
    simp only [List.getElem?_cons_zero, Option.some.injEq] at h
    subst h
    simp [gnn]
    omega
  | a :: l, p + 1, x, y, h => by
    have := gnn_set l p x y (by simpa using h)
    simp [gnn]
    omega
/-- One node more at most. -/
def Op.Few (op : Op) : Prop := ∀ s k s' k', op s k = (0, s', k') → fnodes k' ≤ fnodes k + 1
theorem namOp_few (l : ByteArray) : Op.Few (namOp l) := fun s k s' k' h => by
  simp only [namOp, Prod.mk.injEq] at h
  rw [← h.2.2, fnodes_strip]
  omega
theorem delOp_few (i : Nat) : Op.Few (delOp i) := fun s k s' k' h => by
  unfold delOp at h
  cases hx : (gsF k)[i]? with
  | none => simp [hx] at h
  | some x =>
    simp only [hx, Prod.mk.injEq] at h
    have hlt := (List.getElem?_eq_some_iff.1 hx).1
    have e := gnn_take_drop (gsF k) i
    have e2 : (gsF k).drop i = x :: (gsF k).drop (i + 1) := by
      obtain ⟨_, rfl⟩ := List.getElem?_eq_some_iff.1 hx
      exact List.drop_eq_getElem_cons hlt
    rw [e2, gnn_gs] at e
    simp only [gnn] at e
    rw [← h.2.2, gnn_toFo, gnn_append, gnn_append, gnn_gs]
    omega
theorem insOp_few (i n : Nat) (l : ByteArray) : Op.Few (insOp i n l) := fun s k s' k' h => by
  unfold insOp at h
  split at h
  · simp only [Prod.mk.injEq] at h
    have e := gnn_take_drop (gsF k) i
    have e2 := gnn_take_drop ((gsF k).drop i) n
    rw [List.drop_drop] at e2
    rw [gnn_gs] at e
    rw [← h.2.2, gnn_toFo, gnn_append]
    simp only [gnn, gnn_toFo]
    omega
  · simp at h
theorem modP_few {op : Op} (h : Op.Few op) : ∀ ps, Op.Few (modP op ps)
  | [] => h
  | p :: ps => fun s k s' k' e => by
    rw [modP_cons] at e
    cases hx : (gsF k)[p]? with
    | none => simp [hx] at e
    | some x =>
      simp only [hx, Prod.mk.injEq] at e
      have ih := modP_few h ps x.1 x.2 (modP op ps x.1 x.2).2.1 (modP op ps x.1 x.2).2.2 (by rw [← e.1])
      have := gnn_set (gsF k) p x (modP op ps x.1 x.2).2 hx
      rw [gnn_gs] at this
      rw [← e.2.2, gnn_toFo]
      omega
theorem doneP_few (d : Dd) : Op.Few (doneP d) := by
  unfold doneP
  by_cases h1 : d.kind = 1
  · rw [if_pos h1]; exact modP_few (namOp_few _) _
  · rw [if_neg h1]
    by_cases h2 : d.kind = 2
    · rw [if_pos h2]; exact modP_few (delOp_few _) _
    · rw [if_neg h2]; exact modP_few (insOp_few _ _ _) _
end Go.Proofs.Ytcknganggcbkjab.Deed
