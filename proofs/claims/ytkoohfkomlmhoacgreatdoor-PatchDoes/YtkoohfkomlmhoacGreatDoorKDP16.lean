/- Check of package deed. Of the program's text. -/
/- Deed of package patch: the deed that has that line. Of the program's text. -/
import Derived.Test.YtkoohfkomlmhoacGreatDoorKDP15
import Derived.Test.YtkoohfkomlmhoacGreatDoorProg
import Derived.Test.YtkoohfkomlmhoacGreatDoorKDP11
namespace Go.Proofs.YtkoohfkomlmhoacGreatDoor.Deed
open Go.Deep Go.RowKit
set_option linter.unusedVariables false
set_option maxRecDepth 20000

theorem lab_ne {lab : ByteArray} (he : lab ≠ ⟨#[]⟩) : (lab.toList == []) = false := by
  refine beq_eq_false_iff_ne.2 fun h1 => he ?_
  rw [ByteArray.toList_eq] at h1
  obtain ⟨⟨x⟩⟩ := lab
  have : x = [] := h1
  rw [this]

set_option maxHeartbeats 1000000 in
theorem formed1 (path : List Int) (P M : Int) (lab : ByteArray) (pa : Option Addr) (pc : Nat) (w : World) (h : P = 0 ∧ M = 0) :
    Calls Tryz.prog 74 #[ddV ⟨1, path, P, M, lab⟩ pa pc] w fun e w' => e = .returned (.bool true) ∧ Below w.heap.size w w' := by
  obtain ⟨rfl, rfl⟩ := h
  unfold ddV
  simp only
  go_enter Tryz.func74, Tryz.ntmps74
  go_wp2_with fail
  go_ret
  exact ⟨rfl, (Below.refl _ _).alloc (Nat.le_refl _) _⟩
set_option maxHeartbeats 1000000 in
theorem formed2 (path : List Int) (P M : Int) (lab : ByteArray) (pa : Option Addr) (pc : Nat) (w : World) (h : P = 0 ∧ M = 0) (hl : lab = ⟨#[]⟩) :
    Calls Tryz.prog 74 #[ddV ⟨2, path, P, M, lab⟩ pa pc] w fun e w' => e = .returned (.bool true) ∧ Below w.heap.size w w' := by
  obtain ⟨rfl, rfl⟩ := h
  subst hl
  unfold ddV
  simp only
  go_enter Tryz.func74, Tryz.ntmps74
  go_wp2_with fail
  go_ret
  exact ⟨rfl, (Below.refl _ _).alloc (Nat.le_refl _) _⟩
set_option maxHeartbeats 1000000 in
theorem formed3 (path : List Int) (P M : Int) (lab : ByteArray) (pa : Option Addr) (pc : Nat) (w : World) :
    Calls Tryz.prog 74 #[ddV ⟨3, path, P, M, lab⟩ pa pc] w fun e w' => e = .returned (.bool true) ∧ Below w.heap.size w w' := by
  unfold ddV
  simp only
  go_enter Tryz.func74, Tryz.ntmps74
  go_wp2_with fail
  go_ret
  exact ⟨rfl, (Below.refl _ _).alloc (Nat.le_refl _) _⟩
set_option maxHeartbeats 1000000 in
theorem unformed1 (path : List Int) (P M : Int) (lab : ByteArray) (pa : Option Addr) (pc : Nat) (w : World) (h : P ≠ 0 ∨ M ≠ 0) :
    Calls Tryz.prog 74 #[ddV ⟨1, path, P, M, lab⟩ pa pc] w fun e w' => e = .returned (.bool false) ∧ Below w.heap.size w w' := by
  unfold ddV
  simp only
  by_cases hp : P = 0
  · have hm : M ≠ 0 := by omega
    subst hp
    clear h
    go_enter Tryz.func74, Tryz.ntmps74
    go_wp2_with fail
    go_ret
    exact ⟨rfl, (Below.refl _ _).alloc (Nat.le_refl _) _⟩
  · clear h
    go_enter Tryz.func74, Tryz.ntmps74
    go_wp2_with fail
    go_ret
    exact ⟨rfl, (Below.refl _ _).alloc (Nat.le_refl _) _⟩
set_option maxHeartbeats 1000000 in
theorem unformed2 (path : List Int) (P M : Int) (lab : ByteArray) (pa : Option Addr) (pc : Nat) (w : World) (h : P ≠ 0 ∨ M ≠ 0) :
    Calls Tryz.prog 74 #[ddV ⟨2, path, P, M, lab⟩ pa pc] w fun e w' => e = .returned (.bool false) ∧ Below w.heap.size w w' := by
  unfold ddV
  simp only
  by_cases hp : P = 0
  · have hm : M ≠ 0 := by omega
    subst hp
    clear h
    go_enter Tryz.func74, Tryz.ntmps74
    go_wp2_with fail
    go_ret
    exact ⟨rfl, (Below.refl _ _).alloc (Nat.le_refl _) _⟩
  · clear h
    go_enter Tryz.func74, Tryz.ntmps74
    go_wp2_with fail
    go_ret
    exact ⟨rfl, (Below.refl _ _).alloc (Nat.le_refl _) _⟩
set_option maxHeartbeats 1000000 in
theorem unformed2l (path : List Int) (lab : ByteArray) (pa : Option Addr) (pc : Nat) (w : World) (h : lab ≠ ⟨#[]⟩) :
    Calls Tryz.prog 74 #[ddV ⟨2, path, 0, 0, lab⟩ pa pc] w fun e w' => e = .returned (.bool false) ∧ Below w.heap.size w w' := by
  unfold ddV
  simp only
  have hb := lab_ne h
  clear h
  go_enter Tryz.func74, Tryz.ntmps74
  go_wp2_with fail
  go_ret
  exact ⟨rfl, (Below.refl _ _).alloc (Nat.le_refl _) _⟩

set_option maxHeartbeats 2000000 in
theorem dcheckF_1 (path : List Int) (P M : Int) (lab : ByteArray) (pa : Option Addr) (pc : Nat) (w : World) (h2 : ((1 : Int) ≠ 3 ∧ (P ≠ 0 ∨ M ≠ 0)) ∨ ((1 : Int) = 2 ∧ lab ≠ ⟨#[]⟩)) (hform : ∀ W, Calls Tryz.prog 74 #[ddV ⟨1, path, P, M, lab⟩ pa pc] W fun e w' => e = .returned (.bool false) ∧ Below W.heap.size W w') :
    Calls Tryz.prog 39 #[ddV ⟨1, path, P, M, lab⟩ pa pc] w fun e w' => e = .returned (.int .i64 (deedFault ⟨1, path, P, M, lab⟩)) ∧ Below w.heap.size w w' := by
  have HD := hide (deedFault_form (K := 1) (path := path) (by decide) h2)
  unfold ddV at hform ⊢
  simp only at hform ⊢
  have HF := hide hform
  clear hform h2
  go_enter Tryz.func39, Tryz.ntmps39
  go_wp2_with fail
  refine Calls.mono (HF.out _) ?_
  rintro e w1 ⟨rfl, hb1⟩
  have HB := hide (((Below.refl w.heap.size w).alloc (Nat.le_refl _) (Obj.cells #[.int .i64 1, .slice pa path.length pc, .int .i64 P, .int .i64 M, .string lab] 38)).trans (hb1.mono (by simp)))
  clear hb1
  go_wp2_with fail
  go_ret
  exact ⟨by rw [HD.out]; rfl, HB.out⟩

set_option maxHeartbeats 2000000 in
theorem dcheckF_2 (path : List Int) (P M : Int) (lab : ByteArray) (pa : Option Addr) (pc : Nat) (w : World) (h2 : ((2 : Int) ≠ 3 ∧ (P ≠ 0 ∨ M ≠ 0)) ∨ ((2 : Int) = 2 ∧ lab ≠ ⟨#[]⟩)) (hform : ∀ W, Calls Tryz.prog 74 #[ddV ⟨2, path, P, M, lab⟩ pa pc] W fun e w' => e = .returned (.bool false) ∧ Below W.heap.size W w') :
    Calls Tryz.prog 39 #[ddV ⟨2, path, P, M, lab⟩ pa pc] w fun e w' => e = .returned (.int .i64 (deedFault ⟨2, path, P, M, lab⟩)) ∧ Below w.heap.size w w' := by
  have HD := hide (deedFault_form (K := 2) (path := path) (by decide) h2)
  unfold ddV at hform ⊢
  simp only at hform ⊢
  have HF := hide hform
  clear hform h2
  go_enter Tryz.func39, Tryz.ntmps39
  go_wp2_with fail
  refine Calls.mono (HF.out _) ?_
  rintro e w1 ⟨rfl, hb1⟩
  have HB := hide (((Below.refl w.heap.size w).alloc (Nat.le_refl _) (Obj.cells #[.int .i64 2, .slice pa path.length pc, .int .i64 P, .int .i64 M, .string lab] 38)).trans (hb1.mono (by simp)))
  clear hb1
  go_wp2_with fail
  go_ret
  exact ⟨by rw [HD.out]; rfl, HB.out⟩

set_option maxHeartbeats 4000000 in
theorem dcheckO_1 (path : List Int) (P M : Int) (lab : ByteArray) (pa : Option Addr) (pc : Nat) (w : World) (hpi : PIn w pa path) (hpl : path.length ≤ pc) (hpc : pc ≤ maxLen) (hls : lab.size ≤ maxLen) (h2 : ¬ (((1 : Int) ≠ 3 ∧ (P ≠ 0 ∨ M ≠ 0)) ∨ ((1 : Int) = 2 ∧ lab ≠ ⟨#[]⟩))) (hform : ∀ W, Calls Tryz.prog 74 #[ddV ⟨1, path, P, M, lab⟩ pa pc] W fun e w' => e = .returned (.bool true) ∧ Below W.heap.size W w') :
    Calls Tryz.prog 39 #[ddV ⟨1, path, P, M, lab⟩ pa pc] w fun e w' => e = .returned (.int .i64 (deedFault ⟨1, path, P, M, lab⟩)) ∧ Below w.heap.size w w' := by
  have hm := deedFault_mid (K := 1) (path := path) (P := P) (M := M) (lab := lab) (by decide) h2 (B := decide (P < 0) || decide (M < 0)) rfl
  unfold ddV at hform ⊢
  simp only at hform ⊢
  have HF := hide hform
  have hbx : Below w.heap.size w (w.alloc (Obj.cells #[.int .i64 1, .slice pa path.length pc, .int .i64 P, .int .i64 M, .string lab] 38)) := (Below.refl w.heap.size w).alloc (Nat.le_refl _) _
  have hnb := heap_alloc_new w (Obj.cells #[.int .i64 1, .slice pa path.length pc, .int .i64 P, .int .i64 M, .string lab] 38)
  obtain ⟨W, hW⟩ : ∃ W, W = w.alloc (Obj.cells #[.int .i64 1, .slice pa path.length pc, .int .i64 P, .int .i64 M, .string lab] 38) := ⟨_, rfl⟩
  have sW : W.heap.size = w.heap.size + 1 := by rw [hW]; simp
  rw [← hW] at hbx hnb
  have HI := hide (And.intro hbx (And.intro hnb hpi))
  have HM := hide hm
  clear hform h2 hm hbx hnb hpi
  go_enter Tryz.func39, Tryz.ntmps39
  go_wp2_with fail
  rw [← hW]
  clear hW
  refine Calls.mono (HF.out _) ?_
  rintro e w1 ⟨rfl, hb1⟩
  have hnb1 : w1.heap[w.heap.size]? = _ := (hb1.block w.heap.size (by omega)).trans HI.out.2.1
  have q0 : w1.cell? ⟨w.heap.size, 0, none⟩ = some (.int .i64 1) := by rw [cell_of_row _ _ 0 _ _ _ hnb1]; rfl
  have q1 : w1.cell? ⟨w.heap.size, 1, none⟩ = some (.slice pa path.length pc) := by rw [cell_of_row _ _ 1 _ _ _ hnb1]; rfl
  have q2 : w1.cell? ⟨w.heap.size, 2, none⟩ = some (.int .i64 P) := by rw [cell_of_row _ _ 2 _ _ _ hnb1]; rfl
  have q3 : w1.cell? ⟨w.heap.size, 3, none⟩ = some (.int .i64 M) := by rw [cell_of_row _ _ 3 _ _ _ hnb1]; rfl
  have q4 : w1.cell? ⟨w.heap.size, 4, none⟩ = some (.string lab) := by rw [cell_of_row _ _ 4 _ _ _ hnb1]; rfl
  have s1 := hb1.size
  obtain ⟨V, hV⟩ : ∃ V, V = w1.alloc (Obj.cells #[.int .i64 P, .int .i64 M] 3) := ⟨_, rfl⟩
  have bV : Below w.heap.size w V := by rw [hV]; exact (HI.out.1.trans (hb1.mono (by omega))).alloc (by omega) _
  have nV : V.heap[w1.heap.size]? = some (Obj.cells #[.int .i64 P, .int .i64 M] 3) := by rw [hV]; exact heap_alloc_new _ _
  have kV : V.heap[w.heap.size]? = w1.heap[w.heap.size]? := by rw [hV]; exact Below.heap_alloc _ _ _ (by omega)
  have r0 : V.cell? ⟨w.heap.size, 0, none⟩ = some (.int .i64 1) := by rw [World.cell?_of_block (w := w1) kV]; exact q0
  have r1 : V.cell? ⟨w.heap.size, 1, none⟩ = some (.slice pa path.length pc) := by rw [World.cell?_of_block (w := w1) kV]; exact q1
  have r4 : V.cell? ⟨w.heap.size, 4, none⟩ = some (.string lab) := by rw [World.cell?_of_block (w := w1) kV]; exact q4
  have HA := hide (anyB_any (some ⟨w1.heap.size, 0, none⟩) 2 [P, M] V (Or.inr ⟨_, _, rfl, fun i p hp => by
    match i, hp with
    | 0, hp => simp at hp; subst hp; rw [cell_of_row _ _ (0 + 0) _ _ _ nV]; rfl
    | 1, hp => simp at hp; subst hp; rw [cell_of_row _ _ (0 + 1) _ _ _ nV]; rfl
    | _ + 2, hp => simp at hp⟩) (show 2 ≤ maxLen by decide))
  have HP := hide (anyB_any pa pc path V (HI.out.2.2.below bV) (Nat.le_trans hpl hpc))
  simp only [List.any_cons, List.any_nil, Bool.or_false, List.length_cons, List.length_nil, Nat.zero_add] at HA
  have HB := hide bV
  unfold maxLen at hpc
  clear hb1 hnb1 bV nV kV HI HF
  obtain ⟨B, hB⟩ : ∃ B, B = (decide (P < 0) || decide (M < 0)) := ⟨_, rfl⟩
  rw [← hB] at HA HM
  clear hB
  go_wp2_with fail
  rw [← hV]
  clear hV q0 q1 q2 q3 q4
  refine Calls.mono HA.out ?_
  rintro e w2 ⟨rfl, rfl⟩
  cases B
  · obtain ⟨bb, hbb⟩ : ∃ bb, bb = path.any (fun p => decide (p < 0)) := ⟨_, rfl⟩
    rw [← hbb] at HP HM
    clear hbb
    go_wp2_with fail
    refine Calls.mono HP.out ?_
    rintro e w3 ⟨rfl, rfl⟩
    cases bb
    · have HF := hide (HM.out.2 rfl)
      clear HM HA HP
      cases hl : labelB lab
      · go_wp2_with fail
        refine Calls.mono (label_any lab _ hls) ?_
        rintro e w2 ⟨rfl, rfl⟩
        rw [hl]
        go_wp2_with fail
        go_ret
        exact ⟨by rw [HF.out, hl]; rfl, HB.out⟩
      · go_wp2_with fail
        refine Calls.mono (label_any lab _ hls) ?_
        rintro e w2 ⟨rfl, rfl⟩
        rw [hl]
        go_wp2_with fail
        go_ret
        exact ⟨by rw [HF.out, hl]; rfl, HB.out⟩
    · have HF := hide (HM.out.1 rfl)
      clear HM HA HP
      go_wp2_with fail
      go_ret
      exact ⟨by rw [HF.out]; rfl, HB.out⟩
  · have HF := hide (HM.out.1 rfl)
    clear HM HA HP
    go_wp2_with fail
    go_ret
    exact ⟨by rw [HF.out]; rfl, HB.out⟩

set_option maxHeartbeats 4000000 in
theorem dcheckO_2 (path : List Int) (P M : Int) (lab : ByteArray) (pa : Option Addr) (pc : Nat) (w : World) (hpi : PIn w pa path) (hpl : path.length ≤ pc) (hpc : pc ≤ maxLen) (hls : lab.size ≤ maxLen) (h2 : ¬ (((2 : Int) ≠ 3 ∧ (P ≠ 0 ∨ M ≠ 0)) ∨ ((2 : Int) = 2 ∧ lab ≠ ⟨#[]⟩))) (hform : ∀ W, Calls Tryz.prog 74 #[ddV ⟨2, path, P, M, lab⟩ pa pc] W fun e w' => e = .returned (.bool true) ∧ Below W.heap.size W w') :
    Calls Tryz.prog 39 #[ddV ⟨2, path, P, M, lab⟩ pa pc] w fun e w' => e = .returned (.int .i64 (deedFault ⟨2, path, P, M, lab⟩)) ∧ Below w.heap.size w w' := by
  have hm := deedFault_mid (K := 2) (path := path) (P := P) (M := M) (lab := lab) (by decide) h2 (B := decide (P < 0) || decide (M < 0)) rfl
  unfold ddV at hform ⊢
  simp only at hform ⊢
  have HF := hide hform
  have hbx : Below w.heap.size w (w.alloc (Obj.cells #[.int .i64 2, .slice pa path.length pc, .int .i64 P, .int .i64 M, .string lab] 38)) := (Below.refl w.heap.size w).alloc (Nat.le_refl _) _
  have hnb := heap_alloc_new w (Obj.cells #[.int .i64 2, .slice pa path.length pc, .int .i64 P, .int .i64 M, .string lab] 38)
  obtain ⟨W, hW⟩ : ∃ W, W = w.alloc (Obj.cells #[.int .i64 2, .slice pa path.length pc, .int .i64 P, .int .i64 M, .string lab] 38) := ⟨_, rfl⟩
  have sW : W.heap.size = w.heap.size + 1 := by rw [hW]; simp
  rw [← hW] at hbx hnb
  have HI := hide (And.intro hbx (And.intro hnb hpi))
  have HM := hide hm
  clear hform h2 hm hbx hnb hpi
  go_enter Tryz.func39, Tryz.ntmps39
  go_wp2_with fail
  rw [← hW]
  clear hW
  refine Calls.mono (HF.out _) ?_
  rintro e w1 ⟨rfl, hb1⟩
  have hnb1 : w1.heap[w.heap.size]? = _ := (hb1.block w.heap.size (by omega)).trans HI.out.2.1
  have q0 : w1.cell? ⟨w.heap.size, 0, none⟩ = some (.int .i64 2) := by rw [cell_of_row _ _ 0 _ _ _ hnb1]; rfl
  have q1 : w1.cell? ⟨w.heap.size, 1, none⟩ = some (.slice pa path.length pc) := by rw [cell_of_row _ _ 1 _ _ _ hnb1]; rfl
  have q2 : w1.cell? ⟨w.heap.size, 2, none⟩ = some (.int .i64 P) := by rw [cell_of_row _ _ 2 _ _ _ hnb1]; rfl
  have q3 : w1.cell? ⟨w.heap.size, 3, none⟩ = some (.int .i64 M) := by rw [cell_of_row _ _ 3 _ _ _ hnb1]; rfl
  have q4 : w1.cell? ⟨w.heap.size, 4, none⟩ = some (.string lab) := by rw [cell_of_row _ _ 4 _ _ _ hnb1]; rfl
  have s1 := hb1.size
  obtain ⟨V, hV⟩ : ∃ V, V = w1.alloc (Obj.cells #[.int .i64 P, .int .i64 M] 3) := ⟨_, rfl⟩
  have bV : Below w.heap.size w V := by rw [hV]; exact (HI.out.1.trans (hb1.mono (by omega))).alloc (by omega) _
  have nV : V.heap[w1.heap.size]? = some (Obj.cells #[.int .i64 P, .int .i64 M] 3) := by rw [hV]; exact heap_alloc_new _ _
  have kV : V.heap[w.heap.size]? = w1.heap[w.heap.size]? := by rw [hV]; exact Below.heap_alloc _ _ _ (by omega)
  have r0 : V.cell? ⟨w.heap.size, 0, none⟩ = some (.int .i64 2) := by rw [World.cell?_of_block (w := w1) kV]; exact q0
  have r1 : V.cell? ⟨w.heap.size, 1, none⟩ = some (.slice pa path.length pc) := by rw [World.cell?_of_block (w := w1) kV]; exact q1
  have r4 : V.cell? ⟨w.heap.size, 4, none⟩ = some (.string lab) := by rw [World.cell?_of_block (w := w1) kV]; exact q4
  have HA := hide (anyB_any (some ⟨w1.heap.size, 0, none⟩) 2 [P, M] V (Or.inr ⟨_, _, rfl, fun i p hp => by
    match i, hp with
    | 0, hp => simp at hp; subst hp; rw [cell_of_row _ _ (0 + 0) _ _ _ nV]; rfl
    | 1, hp => simp at hp; subst hp; rw [cell_of_row _ _ (0 + 1) _ _ _ nV]; rfl
    | _ + 2, hp => simp at hp⟩) (show 2 ≤ maxLen by decide))
  have HP := hide (anyB_any pa pc path V (HI.out.2.2.below bV) (Nat.le_trans hpl hpc))
  simp only [List.any_cons, List.any_nil, Bool.or_false, List.length_cons, List.length_nil, Nat.zero_add] at HA
  have HB := hide bV
  unfold maxLen at hpc
  clear hb1 hnb1 bV nV kV HI HF
  obtain ⟨B, hB⟩ : ∃ B, B = (decide (P < 0) || decide (M < 0)) := ⟨_, rfl⟩
  rw [← hB] at HA HM
  clear hB
  go_wp2_with fail
  rw [← hV]
  clear hV q0 q1 q2 q3 q4
  refine Calls.mono HA.out ?_
  rintro e w2 ⟨rfl, rfl⟩
  cases B
  · obtain ⟨bb, hbb⟩ : ∃ bb, bb = path.any (fun p => decide (p < 0)) := ⟨_, rfl⟩
    rw [← hbb] at HP HM
    clear hbb
    go_wp2_with fail
    refine Calls.mono HP.out ?_
    rintro e w3 ⟨rfl, rfl⟩
    cases bb
    · have HF := hide (HM.out.2 rfl)
      clear HM HA HP
      by_cases hp0 : path = []
      · have HF2 := hide (show deedFault ⟨2, path, P, M, lab⟩ = 8 by rw [HF.out, if_neg (by simp), if_pos (by simp [hp0])])
        subst hp0
        clear HF
        go_wp2_with fail
        go_ret
        exact ⟨by rw [HF2.out]; rfl, HB.out⟩
      · have HF2 := hide (show deedFault ⟨2, path, P, M, lab⟩ = 0 by rw [HF.out, if_neg (by simp), if_neg (by simp [hp0])])
        have hpl : 0 < path.length := List.length_pos_iff.2 hp0
        clear HF hp0
        go_wp2_with fail
        go_ret
        exact ⟨by rw [HF2.out]; rfl, HB.out⟩
    · have HF := hide (HM.out.1 rfl)
      clear HM HA HP
      go_wp2_with fail
      go_ret
      exact ⟨by rw [HF.out]; rfl, HB.out⟩
  · have HF := hide (HM.out.1 rfl)
    clear HM HA HP
    go_wp2_with fail
    go_ret
    exact ⟨by rw [HF.out]; rfl, HB.out⟩

set_option maxHeartbeats 4000000 in
theorem dcheckO_3 (path : List Int) (P M : Int) (lab : ByteArray) (pa : Option Addr) (pc : Nat) (w : World) (hpi : PIn w pa path) (hpl : path.length ≤ pc) (hpc : pc ≤ maxLen) (hls : lab.size ≤ maxLen) (h2 : ¬ (((3 : Int) ≠ 3 ∧ (P ≠ 0 ∨ M ≠ 0)) ∨ ((3 : Int) = 2 ∧ lab ≠ ⟨#[]⟩))) (hform : ∀ W, Calls Tryz.prog 74 #[ddV ⟨3, path, P, M, lab⟩ pa pc] W fun e w' => e = .returned (.bool true) ∧ Below W.heap.size W w') :
    Calls Tryz.prog 39 #[ddV ⟨3, path, P, M, lab⟩ pa pc] w fun e w' => e = .returned (.int .i64 (deedFault ⟨3, path, P, M, lab⟩)) ∧ Below w.heap.size w w' := by
  have hm := deedFault_mid (K := 3) (path := path) (P := P) (M := M) (lab := lab) (by decide) h2 (B := decide (P < 0) || decide (M < 0)) rfl
  unfold ddV at hform ⊢
  simp only at hform ⊢
  have HF := hide hform
  have hbx : Below w.heap.size w (w.alloc (Obj.cells #[.int .i64 3, .slice pa path.length pc, .int .i64 P, .int .i64 M, .string lab] 38)) := (Below.refl w.heap.size w).alloc (Nat.le_refl _) _
  have hnb := heap_alloc_new w (Obj.cells #[.int .i64 3, .slice pa path.length pc, .int .i64 P, .int .i64 M, .string lab] 38)
  obtain ⟨W, hW⟩ : ∃ W, W = w.alloc (Obj.cells #[.int .i64 3, .slice pa path.length pc, .int .i64 P, .int .i64 M, .string lab] 38) := ⟨_, rfl⟩
  have sW : W.heap.size = w.heap.size + 1 := by rw [hW]; simp
  rw [← hW] at hbx hnb
  have HI := hide (And.intro hbx (And.intro hnb hpi))
  have HM := hide hm
  clear hform h2 hm hbx hnb hpi
  go_enter Tryz.func39, Tryz.ntmps39
  go_wp2_with fail
  rw [← hW]
  clear hW
  refine Calls.mono (HF.out _) ?_
  rintro e w1 ⟨rfl, hb1⟩
  have hnb1 : w1.heap[w.heap.size]? = _ := (hb1.block w.heap.size (by omega)).trans HI.out.2.1
  have q0 : w1.cell? ⟨w.heap.size, 0, none⟩ = some (.int .i64 3) := by rw [cell_of_row _ _ 0 _ _ _ hnb1]; rfl
  have q1 : w1.cell? ⟨w.heap.size, 1, none⟩ = some (.slice pa path.length pc) := by rw [cell_of_row _ _ 1 _ _ _ hnb1]; rfl
  have q2 : w1.cell? ⟨w.heap.size, 2, none⟩ = some (.int .i64 P) := by rw [cell_of_row _ _ 2 _ _ _ hnb1]; rfl
  have q3 : w1.cell? ⟨w.heap.size, 3, none⟩ = some (.int .i64 M) := by rw [cell_of_row _ _ 3 _ _ _ hnb1]; rfl
  have q4 : w1.cell? ⟨w.heap.size, 4, none⟩ = some (.string lab) := by rw [cell_of_row _ _ 4 _ _ _ hnb1]; rfl
  have s1 := hb1.size
  obtain ⟨V, hV⟩ : ∃ V, V = w1.alloc (Obj.cells #[.int .i64 P, .int .i64 M] 3) := ⟨_, rfl⟩
  have bV : Below w.heap.size w V := by rw [hV]; exact (HI.out.1.trans (hb1.mono (by omega))).alloc (by omega) _
  have nV : V.heap[w1.heap.size]? = some (Obj.cells #[.int .i64 P, .int .i64 M] 3) := by rw [hV]; exact heap_alloc_new _ _
  have kV : V.heap[w.heap.size]? = w1.heap[w.heap.size]? := by rw [hV]; exact Below.heap_alloc _ _ _ (by omega)
  have r0 : V.cell? ⟨w.heap.size, 0, none⟩ = some (.int .i64 3) := by rw [World.cell?_of_block (w := w1) kV]; exact q0
  have r1 : V.cell? ⟨w.heap.size, 1, none⟩ = some (.slice pa path.length pc) := by rw [World.cell?_of_block (w := w1) kV]; exact q1
  have r4 : V.cell? ⟨w.heap.size, 4, none⟩ = some (.string lab) := by rw [World.cell?_of_block (w := w1) kV]; exact q4
  have HA := hide (anyB_any (some ⟨w1.heap.size, 0, none⟩) 2 [P, M] V (Or.inr ⟨_, _, rfl, fun i p hp => by
    match i, hp with
    | 0, hp => simp at hp; subst hp; rw [cell_of_row _ _ (0 + 0) _ _ _ nV]; rfl
    | 1, hp => simp at hp; subst hp; rw [cell_of_row _ _ (0 + 1) _ _ _ nV]; rfl
    | _ + 2, hp => simp at hp⟩) (show 2 ≤ maxLen by decide))
  have HP := hide (anyB_any pa pc path V (HI.out.2.2.below bV) (Nat.le_trans hpl hpc))
  simp only [List.any_cons, List.any_nil, Bool.or_false, List.length_cons, List.length_nil, Nat.zero_add] at HA
  have HB := hide bV
  unfold maxLen at hpc
  clear hb1 hnb1 bV nV kV HI HF
  obtain ⟨B, hB⟩ : ∃ B, B = (decide (P < 0) || decide (M < 0)) := ⟨_, rfl⟩
  rw [← hB] at HA HM
  clear hB
  go_wp2_with fail
  rw [← hV]
  clear hV q0 q1 q2 q3 q4
  refine Calls.mono HA.out ?_
  rintro e w2 ⟨rfl, rfl⟩
  cases B
  · obtain ⟨bb, hbb⟩ : ∃ bb, bb = path.any (fun p => decide (p < 0)) := ⟨_, rfl⟩
    rw [← hbb] at HP HM
    clear hbb
    go_wp2_with fail
    refine Calls.mono HP.out ?_
    rintro e w3 ⟨rfl, rfl⟩
    cases bb
    · have HF := hide (HM.out.2 rfl)
      clear HM HA HP
      cases hl : labelB lab
      · go_wp2_with fail
        refine Calls.mono (label_any lab _ hls) ?_
        rintro e w2 ⟨rfl, rfl⟩
        rw [hl]
        go_wp2_with fail
        go_ret
        exact ⟨by rw [HF.out, hl]; rfl, HB.out⟩
      · go_wp2_with fail
        refine Calls.mono (label_any lab _ hls) ?_
        rintro e w2 ⟨rfl, rfl⟩
        rw [hl]
        go_wp2_with fail
        go_ret
        exact ⟨by rw [HF.out, hl]; rfl, HB.out⟩
    · have HF := hide (HM.out.1 rfl)
      clear HM HA HP
      go_wp2_with fail
      go_ret
      exact ⟨by rw [HF.out]; rfl, HB.out⟩
  · have HF := hide (HM.out.1 rfl)
    clear HM HA HP
    go_wp2_with fail
    go_ret
    exact ⟨by rw [HF.out]; rfl, HB.out⟩

set_option maxHeartbeats 1000000 in
theorem dcheck_any (d : Dd) (pa : Option Addr) (pc : Nat) (w : World) (h : DIn w d pa pc) :
    Calls Tryz.prog 39 #[ddV d pa pc] w fun e w' => e = .returned (.int .i64 (deedFault d)) ∧ Below w.heap.size w w' := by
  obtain ⟨K, path, P, M, lab⟩ := d
  obtain ⟨h1, h2, h3, h4⟩ := h
  by_cases k1 : K = 1
  · subst k1
    by_cases hz : P = 0 ∧ M = 0
    · exact dcheckO_1 path P M lab pa pc w h1 h2 h3 h4 (by rintro (⟨_, h⟩ | ⟨h, _⟩) <;> omega) fun W => formed1 path P M lab pa pc W hz
    · exact dcheckF_1 path P M lab pa pc w (Or.inl ⟨by decide, by omega⟩) fun W => unformed1 path P M lab pa pc W (by omega)
  · by_cases k2 : K = 2
    · subst k2
      by_cases hz : P = 0 ∧ M = 0
      · by_cases hlab : lab = ⟨#[]⟩
        · refine dcheckO_2 path P M lab pa pc w h1 h2 h3 h4 ?_ fun W => formed2 path P M lab pa pc W hz hlab
          rintro (⟨_, h⟩ | ⟨_, h⟩)
          · omega
          · exact h hlab
        · obtain ⟨rfl, rfl⟩ := hz
          exact dcheckF_2 path 0 0 lab pa pc w (Or.inr ⟨rfl, hlab⟩) fun W => unformed2l path lab pa pc W hlab
      · exact dcheckF_2 path P M lab pa pc w (Or.inl ⟨by decide, by omega⟩) fun W => unformed2 path P M lab pa pc W (by omega)
    · by_cases k3 : K = 3
      · subst k3
        exact dcheckO_3 path P M lab pa pc w h1 h2 h3 h4 (by rintro (⟨h, _⟩ | ⟨h, _⟩) <;> omega) fun W => formed3 path P M lab pa pc W
      · have HF := hide (deedFault_kind (K := K) (P := P) (M := M) (path := path) (lab := lab) k1 k2 k3)
        have n1 : (K != 1) = true := by simp [k1]
        have n2 : (K != 2) = true := by simp [k2]
        have n3 : (K != 3) = true := by simp [k3]
        unfold ddV
        simp only
        clear h1 h2 h3 h4 k1 k2 k3
        go_enter Tryz.func39, Tryz.ntmps39
        go_wp2_with fail
        go_ret
        exact ⟨by rw [HF.out]; rfl, (Below.refl _ _).alloc (Nat.le_refl _) _⟩
end Go.Proofs.YtkoohfkomlmhoacGreatDoor.Deed
namespace Go.Proofs.YtkoohfkomlmhoacGreatDoor.Pat
open Go.Deep Go.RowKit Deed
set_option linter.unusedVariables false
set_option maxRecDepth 20000

/-- A cell that is written as it is. -/
theorem cell_self {w : World} {b o : Nat} {v : Value} (hp : BPlain w b) (h : w.cell? ⟨b, o, none⟩ = some v) : w.setCell ⟨b, o, none⟩ v = w := by
  obtain ⟨cs, e, hb⟩ := hp
  rw [cell_of_row _ _ o _ _ _ hb] at h
  have hh : (w.setCell ⟨b, o, none⟩ v).heap = w.heap := by
    apply Array.ext_getElem?
    intro j
    by_cases hj : j = b
    · subst hj
      simp only [World.setCell, Array.getElem?_modify, if_true, hb, Option.map_some, Option.isSome_none, Bool.false_eq_true, if_false]
      congr 2
      apply Array.ext_getElem?
      intro l
      by_cases hl : l = o
      · subst hl
        have hlt : l < cs.size := (Array.getElem?_eq_some_iff.1 h).1
        rw [Array.getElem?_setIfInBounds_self_of_lt hlt, h]
      · rw [Array.getElem?_setIfInBounds_ne (by omega)]
    · exact Below.heap_setCell _ _ _ _ hj
  show ({ w with heap := (w.setCell ⟨b, o, none⟩ v).heap } : World) = w
  rw [hh]
theorem deed_bad {s : List UInt8} {w w1 V : World} {d : Dd} (h : wordsD (cutP 32 s) = some d) (hf : deedFault d ≠ 0) (hb : Below w.heap.size w w1) (hV : V = put5 w1 w.heap.size (.int .i64 0) (.slice none 0 0) (.int .i64 0) (.int .i64 0) (.string ⟨#[]⟩)) :
    DeedEnd s w (.returned (.tuple #[.agg #[.int .i64 0, .slice none 0 0, .int .i64 0, .int .i64 0, .string ⟨#[]⟩], .int .i64 (deedFault d)])) V := by
  obtain ⟨h1, h2⟩ := deed_some h
  rw [if_neg hf] at h2
  refine ⟨none, 0, ?_, ?_, (fun g o h => by cases h), by rw [hV]; exact below_put5 hb _ _ _ _ _⟩
  · rw [h1, h2]; rfl
  · rw [h2]; exact DIn.noD V
theorem deed_good {s : List UInt8} {w w1 V : World} {d : Dd} {pa : Option Addr} {pc : Nat} (h : wordsD (cutP 32 s) = some d) (hf : deedFault d = 0) (hD : DIn w1 d pa pc) (hn : ∀ g o, pa = some ⟨g, o, none⟩ → w.heap.size < g) (hb : Below w.heap.size w w1) (hV : V = put5 w1 w.heap.size (.int .i64 d.kind) (.slice pa d.path.length pc) (.int .i64 d.pos) (.int .i64 d.many) (.string d.lab)) :
    DeedEnd s w (.returned (.tuple #[.agg #[.int .i64 d.kind, .slice pa d.path.length pc, .int .i64 d.pos, .int .i64 d.many, .string d.lab], .int .i64 0])) V := by
  obtain ⟨h1, h2⟩ := deed_some h
  rw [if_pos hf] at h2
  refine ⟨pa, pc, ?_, ?_, (fun g o h => by have := hn g o h; omega), by rw [hV]; exact below_put5 hb _ _ _ _ _⟩
  · rw [h1, h2, hf]; rfl
  · rw [h2]
    exact DIn_set5 hD (fun g o h => by have := hn g o h; omega) hV

set_option maxHeartbeats 4000000 in
theorem pdeed_any (s : ByteArray) (w : World) (hs : s.size ≤ 100000000) (ht : Tab w) : Calls Tryz.prog 17 #[.string s] w (DeedEnd s.data.toList w) := by
  obtain ⟨W, hW⟩ : ∃ W, W = w.alloc (Obj.cells zeroD 38) := ⟨_, rfl⟩
  obtain ⟨hB, hWs, hcl⟩ := zero_box hW
  have HCL := hide hcl
  have HRD := hide (read_any s W hs (ht.below hB))
  clear hcl hB ht
  go_enter Tryz.func17, Tryz.ntmps17
  go_wp2_with fail
  rw [← hW]
  clear hW
  refine Calls.mono HRD.out ?_
  rintro e w1 ⟨D, pa, pc, n, ok, rfl, hok, hb1⟩
  obtain ⟨U, hU⟩ : ∃ U, U = w1.alloc (Obj.cells #[.int .i64 D.kind, .slice pa n pc, .int .i64 D.pos, .int .i64 D.many, .string D.lab] 38) := ⟨_, rfl⟩
  have hz1 := hb1.size
  have hbU0 : Below w1.heap.size w1 U := by rw [hU]; exact (Below.refl _ _).alloc (Nat.le_refl _) _
  have hbU : Below W.heap.size W U := hb1.trans (hbU0.mono hz1)
  have hUs : U.heap.size = w1.heap.size + 1 := by rw [hU]; simp
  have hboxU : U.heap[w1.heap.size]? = some (Obj.cells #[.int .i64 D.kind, .slice pa n pc, .int .i64 D.pos, .int .i64 D.many, .string D.lab] 38) := by rw [hU]; exact heap_alloc_new _ _
  have hin : ∀ U', Below U.heap.size U U' → U'.cell? ⟨w1.heap.size, 0, none⟩ = some (.int .i64 D.kind) ∧ U'.cell? ⟨w1.heap.size, 1, none⟩ = some (.slice pa n pc) ∧ U'.cell? ⟨w1.heap.size, 2, none⟩ = some (.int .i64 D.pos) ∧ U'.cell? ⟨w1.heap.size, 3, none⟩ = some (.int .i64 D.many) ∧ U'.cell? ⟨w1.heap.size, 4, none⟩ = some (.string D.lab) ∧ (∀ o, U'.frozen? ⟨w1.heap.size, o, none⟩ = false) := fun U' h => by
    have hb := (h.block w1.heap.size (by omega)).trans hboxU
    exact ⟨by rw [cell_of_row _ _ 0 _ _ _ hb]; rfl, by rw [cell_of_row _ _ 1 _ _ _ hb]; rfl, by rw [cell_of_row _ _ 2 _ _ _ hb]; rfl, by rw [cell_of_row _ _ 3 _ _ _ hb]; rfl, by rw [cell_of_row _ _ 4 _ _ _ hb]; rfl, fun o => by simp [World.frozen?, hb]⟩
  have HIN := hide hin
  have HPL := hide (fun U' (h : Below U.heap.size U U') => (⟨_, _, (h.block w1.heap.size (by omega)).trans hboxU⟩ : BPlain U' w1.heap.size))
  have HBU := hide hbU
  have HBU0 := hide hbU0
  clear hin hboxU hbU hbU0 HRD hb1
  rcases hok with ⟨rfl, hx⟩ | ⟨rfl, hx, rfl, hD, hnew⟩
  · have HX := hide hx
    obtain ⟨k0, k1, k2, k3, k4, kf, hbw⟩ := HCL.out U HBU.out
    have HBW := hide hbw
    have HUE := hide hU
    clear hx hbw
    have kf0 := kf 0
    have kf1 := kf 1
    have kf2 := kf 2
    have kf3 := kf 3
    have kf4 := kf 4
    have z0 := k0
    have z1 := k1
    have z2 := k2
    have z3 := k3
    have z4 := k4
    rw [hU] at k0 k1 k2 k3 k4 kf0 kf1 kf2 kf3 kf4
    clear hU kf
    go_wp2_with fail
    rw [← HUE.out]
    obtain ⟨V, hV⟩ : ∃ V, V = put5 U w.heap.size (.int .i64 0) (.slice none 0 0) (.int .i64 0) (.int .i64 0) (.string ⟨#[]⟩) := ⟨_, rfl⟩
    obtain ⟨v0, v1, v2, v3, v4⟩ := put5_cells hV z0 z1 z2 z3 z4
    have HE := hide (end_none (w := w) (w' := V) HX.out rfl (by rw [hV]; exact below_put5 HBW.out _ _ _ _ _))
    unfold put5 at hV
    rw [← hV]
    exact bodyPost_ret (v := .tuple #[.agg #[.int .i64 0, .slice none 0 0, .int .i64 0, .int .i64 0, .string ⟨#[]⟩], .int .i64 6]) (by simp [results, Tryz.results17, go_sem, v0, v1, v2, v3, v4]) rfl HE.out
  · have HX := hide hx
    have HD := hide (hD.below HBU0.out)
    have HNEW := hide hnew
    have hdl := hD.len
    have hdc := hD.cap
    have hdb := hD.lab
    have hck := dcheck_any D pa pc U HD.out
    unfold ddV at hck
    have HCK := hide hck
    obtain ⟨u0, u1, u2, u3, u4, uf⟩ := HIN.out U (Below.refl _ _)
    unfold maxLen at hdc
    clear hx hD hnew hck
    go_wp2_with fail
    rw [← hU]
    clear hU
    go_wp2_with fail
    refine Calls.mono HCK.out ?_
    rintro e w2 ⟨rfl, hb2⟩
    have hb2' : Below W.heap.size W w2 := HBU.out.trans (hb2.mono HBU.out.size)
    have HB2 := hide hb2'
    have HB2U := hide hb2
    have hz2 := hb2.size
    clear HCK u0 u1 u2 u3 u4 uf
    by_cases hf : deedFault D = 0
    · have hfb : (deedFault D != 0) = false := by rw [hf]; rfl
      have HF := hide hf
      obtain ⟨m0, m1, m2, m3, m4, mf⟩ := HIN.out w2 hb2
      have HCN := hide (clone_any D.lab w2 (by
        obtain ⟨_, _, g3, _, _, _, g7, _⟩ := deedFault_zero hf
        by_cases h2 : D.kind = 2
        · rw [g3 h2]; decide
        · have h7 := g7 h2
          unfold labelB at h7
          simp only [Bool.and_eq_true, decide_eq_true_eq] at h7
          omega))
      clear hf hb2 hb2'
      go_wp2_with fail
      refine Calls.mono HCN.out ?_
      rintro e w3 ⟨rfl, hb3⟩
      have hb3U := HB2U.out.trans (hb3.mono hz2)
      have hb3' := HB2.out.trans (hb3.mono HB2.out.size)
      obtain ⟨n0, n1, n2, n3, n4, nf⟩ := HIN.out w3 hb3U
      obtain ⟨k0, k1, k2, k3, k4, kf, hbw⟩ := HCL.out w3 hb3'
      have HBW := hide hbw
      have HD3 := hide (HD.out.below hb3U)
      have hsame : w3.setCell ⟨w1.heap.size, 4, none⟩ (.string D.lab) = w3 := cell_self (HPL.out w3 hb3U) n4
      clear hb3 hb3U hb3' hbw m0 m1 m2 m3 m4 mf
      go_wp2_with fail
      obtain ⟨V, hV⟩ : ∃ V, V = put5 w3 w.heap.size (.int .i64 D.kind) (.slice pa D.path.length pc) (.int .i64 D.pos) (.int .i64 D.many) (.string D.lab) := ⟨_, rfl⟩
      obtain ⟨v0, v1, v2, v3, v4⟩ := put5_cells hV k0 k1 k2 k3 k4
      have HE := hide (deed_good HX.out HF.out HD3.out (fun g o h => by have := HNEW.out g o h; omega) HBW.out hV)
      unfold put5 at hV
      rw [← hV]
      exact bodyPost_ret (v := .tuple #[.agg #[.int .i64 D.kind, .slice pa D.path.length pc, .int .i64 D.pos, .int .i64 D.many, .string D.lab], .int .i64 0]) (by simp [results, Tryz.results17, go_sem, v0, v1, v2, v3, v4]) rfl HE.out
    · have hfb : (deedFault D != 0) = true := by simpa using hf
      obtain ⟨k0, k1, k2, k3, k4, kf, hbw⟩ := HCL.out w2 hb2'
      have HBW := hide hbw
      have HF := hide hf
      clear hf hb2 hb2' hbw
      go_wp2_with fail
      obtain ⟨V, hV⟩ : ∃ V, V = put5 w2 w.heap.size (.int .i64 0) (.slice none 0 0) (.int .i64 0) (.int .i64 0) (.string ⟨#[]⟩) := ⟨_, rfl⟩
      obtain ⟨v0, v1, v2, v3, v4⟩ := put5_cells hV k0 k1 k2 k3 k4
      have HE := hide (deed_bad HX.out HF.out HBW.out hV)
      unfold put5 at hV
      rw [← hV]
      exact bodyPost_ret (v := .tuple #[.agg #[.int .i64 0, .slice none 0 0, .int .i64 0, .int .i64 0, .string ⟨#[]⟩], .int .i64 (deedFault D)]) (by simp [results, Tryz.results17, go_sem, v0, v1, v2, v3, v4]) rfl HE.out
end Go.Proofs.YtkoohfkomlmhoacGreatDoor.Pat
