/- Check of package deed. Of the program's text. -/
/- Check of package deed. Of the program's text. -/
import Derived.Test.YtkoohfkomlmhoacDoorKBP13
namespace Go.Proofs.YtkoohfkomlmhoacDoor.Deed
open Go.Deep Go.RowKit
set_option linter.unusedVariables false
set_option maxRecDepth 20000

theorem below0 (p : Int) (w : World) : Calls Tryd.prog 47 #[.int .i64 p] w fun e w' => e = .returned (.bool (decide (p < 0))) ∧ w' = w := by
  go_enter Tryd.func47, Tryd.ntmps47
  go_wp2_with fail
  go_ret
  exact ⟨rfl, rfl⟩

set_option maxHeartbeats 1000000 in
theorem indexF_any (a : Option Addr) (c : Nat) (l : List Int) (w : World) (h : PIn w a l) (hl : l.length ≤ maxLen) :
    Calls Tryd.prog 48 #[.slice a l.length c, .func (.func 47) #[] #[]] w fun e w' => ∃ r : Int, e = .returned (.int .i64 r) ∧ decide (0 ≤ r) = l.any (fun p => decide (p < 0)) ∧ w' = w := by
  unfold maxLen at hl
  go_enter Tryd.func48, Tryd.ntmps48
  go_wp2_with fail
  go_loopg [8] l.length (fun gk v wr => ∃ i : Nat, gk = l.length - i ∧ i ≤ l.length ∧ v = .int .i64 (i : Nat) ∧ Hid ((l.take i).any (fun p => decide (p < 0)) = false) ∧ wr = w)
  case atStart => exact ⟨0, rfl, Nat.zero_le _, rfl, by show _ = _; simp, rfl⟩
  case round =>
    obtain ⟨i, hgk, hi, rfl, hsame, hwr⟩ := hrel
    obtain ⟨wA, hwA⟩ : ∃ wA, wA = wr := ⟨_, rfl⟩
    rw [← hwA]
    have hwB : wA = w := hwA.trans hwr
    clear hwA hwr
    subst hwB
    by_cases hlt : i < l.length
    · obtain ⟨x, hx⟩ : ∃ x, l[i]? = some x := ⟨_, List.getElem?_eq_getElem hlt⟩
      obtain ⟨b, o, rfl, hL⟩ : ∃ b o, a = some ⟨b, o, none⟩ ∧ wA.cell? ⟨b, o + i, none⟩ = some (.int .i64 x) := by
        rcases h with h | ⟨b, o, rfl, h⟩
        · rw [h] at hlt; simp at hlt
        · exact ⟨b, o, rfl, h i x hx⟩
      have e1 : l[i] = x := by simpa [List.getElem?_eq_getElem hlt] using hx
      have htk : (l.take (i + 1)).any (fun p => decide (p < 0)) = decide (x < 0) := by
        rw [List.take_succ_eq_append_getElem hlt, List.any_append, hsame.out, e1]
        simp
      cases hb : decide (x < 0)
      · have HT := hide (htk.trans hb)
        clear hx htk h e1
        go_wp2_with fail
        refine Calls.mono (below0 x _) ?_
        rintro e w1 ⟨rfl, rfl⟩
        rw [hb]
        go_wp2_with fail
        go_roundg (l.length - (i + 1))
        case measure => omega
        case rel => exact ⟨i + 1, rfl, by omega, by go_num, HT, rfl⟩
      · have HA := hide (show l.any (fun p => decide (p < 0)) = true by
          rw [← List.take_append_drop (i + 1) l, List.any_append, htk, hb]
          rfl)
        clear hx htk h e1
        go_wp2_with fail
        refine Calls.mono (below0 x _) ?_
        rintro e w1 ⟨rfl, rfl⟩
        rw [hb]
        go_wp2_with fail
        go_ret
        exact ⟨(i : Int), rfl, by rw [HA.out]; simp, rfl⟩
    · have HA := hide (show l.any (fun p => decide (p < 0)) = false by
        have := hsame.out
        rwa [List.take_of_length_le (by omega)] at this)
      clear h
      go_wp2_with fail
      go_ret
      exact ⟨-1, rfl, by rw [HA.out]; rfl, rfl⟩

set_option maxHeartbeats 1000000 in
theorem anyB_any (a : Option Addr) (c : Nat) (l : List Int) (w : World) (h : PIn w a l) (hl : l.length ≤ maxLen) :
    Calls Tryd.prog 33 #[.slice a l.length c] w fun e w' => e = .returned (.bool (l.any (fun p => decide (p < 0)))) ∧ w' = w := by
  have HI := hide (indexF_any a c l w h hl)
  have hc : Calls Tryd.prog 35 #[.slice a l.length c, .func (.func 47) #[] #[]] w fun e w' => e = .returned (.bool (l.any (fun p => decide (p < 0)))) ∧ w' = w := by
    clear h
    go_enter Tryd.func35, Tryd.ntmps35
    go_wp2_with fail
    refine Calls.mono HI.out ?_
    rintro e w1 ⟨r, rfl, hr, rfl⟩
    have HR := hide hr
    clear hr
    go_wp2_with fail
    go_ret
    exact ⟨by rw [← HR.out]; rfl, rfl⟩
  have HC := hide hc
  clear hc HI h
  go_enter Tryd.func33, Tryd.ntmps33
  go_wp2_with fail
  refine Calls.mono HC.out ?_
  rintro e w1 ⟨rfl, rfl⟩
  go_wp2_with fail
  go_ret
  exact ⟨rfl, rfl⟩
end Go.Proofs.YtkoohfkomlmhoacDoor.Deed
namespace Go.Proofs.YtkoohfkomlmhoacDoor.Deed
open Go.Deep Go.RowKit
set_option linter.unusedVariables false
set_option maxRecDepth 20000

theorem lab_ne {lab : ByteArray} (he : lab ≠ ⟨#[]⟩) : (lab.toList == []) = false := by
  refine beq_eq_false_iff_ne.2 fun h1 => he ?_
  rw [ByteArray.toList_eq] at h1
  obtain ⟨⟨x⟩⟩ := lab
  have : x = [] := h1
  rw [this]

set_option maxHeartbeats 1000000 in
theorem formed1 (path : List Int) (P M : Int) (lab : ByteArray) (pa : Option Addr) (pc : Nat) (w : World) (h : P = 0 ∧ M = 0) :
    Calls Tryd.prog 32 #[ddV ⟨1, path, P, M, lab⟩ pa pc] w fun e w' => e = .returned (.bool true) ∧ Below w.heap.size w w' := by
  obtain ⟨rfl, rfl⟩ := h
  unfold ddV
  simp only
  go_enter Tryd.func32, Tryd.ntmps32
  go_wp2_with fail
  go_ret
  exact ⟨rfl, (Below.refl _ _).alloc (Nat.le_refl _) _⟩
set_option maxHeartbeats 1000000 in
theorem formed2 (path : List Int) (P M : Int) (lab : ByteArray) (pa : Option Addr) (pc : Nat) (w : World) (h : P = 0 ∧ M = 0) (hl : lab = ⟨#[]⟩) :
    Calls Tryd.prog 32 #[ddV ⟨2, path, P, M, lab⟩ pa pc] w fun e w' => e = .returned (.bool true) ∧ Below w.heap.size w w' := by
  obtain ⟨rfl, rfl⟩ := h
  subst hl
  unfold ddV
  simp only
  go_enter Tryd.func32, Tryd.ntmps32
  go_wp2_with fail
  go_ret
  exact ⟨rfl, (Below.refl _ _).alloc (Nat.le_refl _) _⟩
set_option maxHeartbeats 1000000 in
theorem formed3 (path : List Int) (P M : Int) (lab : ByteArray) (pa : Option Addr) (pc : Nat) (w : World) :
    Calls Tryd.prog 32 #[ddV ⟨3, path, P, M, lab⟩ pa pc] w fun e w' => e = .returned (.bool true) ∧ Below w.heap.size w w' := by
  unfold ddV
  simp only
  go_enter Tryd.func32, Tryd.ntmps32
  go_wp2_with fail
  go_ret
  exact ⟨rfl, (Below.refl _ _).alloc (Nat.le_refl _) _⟩
set_option maxHeartbeats 1000000 in
theorem unformed1 (path : List Int) (P M : Int) (lab : ByteArray) (pa : Option Addr) (pc : Nat) (w : World) (h : P ≠ 0 ∨ M ≠ 0) :
    Calls Tryd.prog 32 #[ddV ⟨1, path, P, M, lab⟩ pa pc] w fun e w' => e = .returned (.bool false) ∧ Below w.heap.size w w' := by
  unfold ddV
  simp only
  by_cases hp : P = 0
  · have hm : M ≠ 0 := by omega
    subst hp
    clear h
    go_enter Tryd.func32, Tryd.ntmps32
    go_wp2_with fail
    go_ret
    exact ⟨rfl, (Below.refl _ _).alloc (Nat.le_refl _) _⟩
  · clear h
    go_enter Tryd.func32, Tryd.ntmps32
    go_wp2_with fail
    go_ret
    exact ⟨rfl, (Below.refl _ _).alloc (Nat.le_refl _) _⟩
set_option maxHeartbeats 1000000 in
theorem unformed2 (path : List Int) (P M : Int) (lab : ByteArray) (pa : Option Addr) (pc : Nat) (w : World) (h : P ≠ 0 ∨ M ≠ 0) :
    Calls Tryd.prog 32 #[ddV ⟨2, path, P, M, lab⟩ pa pc] w fun e w' => e = .returned (.bool false) ∧ Below w.heap.size w w' := by
  unfold ddV
  simp only
  by_cases hp : P = 0
  · have hm : M ≠ 0 := by omega
    subst hp
    clear h
    go_enter Tryd.func32, Tryd.ntmps32
    go_wp2_with fail
    go_ret
    exact ⟨rfl, (Below.refl _ _).alloc (Nat.le_refl _) _⟩
  · clear h
    go_enter Tryd.func32, Tryd.ntmps32
    go_wp2_with fail
    go_ret
    exact ⟨rfl, (Below.refl _ _).alloc (Nat.le_refl _) _⟩
set_option maxHeartbeats 1000000 in
theorem unformed2l (path : List Int) (lab : ByteArray) (pa : Option Addr) (pc : Nat) (w : World) (h : lab ≠ ⟨#[]⟩) :
    Calls Tryd.prog 32 #[ddV ⟨2, path, 0, 0, lab⟩ pa pc] w fun e w' => e = .returned (.bool false) ∧ Below w.heap.size w w' := by
  unfold ddV
  simp only
  have hb := lab_ne h
  clear h
  go_enter Tryd.func32, Tryd.ntmps32
  go_wp2_with fail
  go_ret
  exact ⟨rfl, (Below.refl _ _).alloc (Nat.le_refl _) _⟩

set_option maxHeartbeats 2000000 in
theorem dcheckF_1 (path : List Int) (P M : Int) (lab : ByteArray) (pa : Option Addr) (pc : Nat) (w : World) (h2 : ((1 : Int) ≠ 3 ∧ (P ≠ 0 ∨ M ≠ 0)) ∨ ((1 : Int) = 2 ∧ lab ≠ ⟨#[]⟩)) (hform : ∀ W, Calls Tryd.prog 32 #[ddV ⟨1, path, P, M, lab⟩ pa pc] W fun e w' => e = .returned (.bool false) ∧ Below W.heap.size W w') :
    Calls Tryd.prog 20 #[ddV ⟨1, path, P, M, lab⟩ pa pc] w fun e w' => e = .returned (.int .i64 (deedFault ⟨1, path, P, M, lab⟩)) ∧ Below w.heap.size w w' := by
  have HD := hide (deedFault_form (K := 1) (path := path) (by decide) h2)
  unfold ddV at hform ⊢
  simp only at hform ⊢
  have HF := hide hform
  clear hform h2
  go_enter Tryd.func20, Tryd.ntmps20
  go_wp2_with fail
  refine Calls.mono (HF.out _) ?_
  rintro e w1 ⟨rfl, hb1⟩
  have HB := hide (((Below.refl w.heap.size w).alloc (Nat.le_refl _) (Obj.cells #[.int .i64 1, .slice pa path.length pc, .int .i64 P, .int .i64 M, .string lab] 35)).trans (hb1.mono (by simp)))
  clear hb1
  go_wp2_with fail
  go_ret
  exact ⟨by rw [HD.out]; rfl, HB.out⟩

set_option maxHeartbeats 2000000 in
theorem dcheckF_2 (path : List Int) (P M : Int) (lab : ByteArray) (pa : Option Addr) (pc : Nat) (w : World) (h2 : ((2 : Int) ≠ 3 ∧ (P ≠ 0 ∨ M ≠ 0)) ∨ ((2 : Int) = 2 ∧ lab ≠ ⟨#[]⟩)) (hform : ∀ W, Calls Tryd.prog 32 #[ddV ⟨2, path, P, M, lab⟩ pa pc] W fun e w' => e = .returned (.bool false) ∧ Below W.heap.size W w') :
    Calls Tryd.prog 20 #[ddV ⟨2, path, P, M, lab⟩ pa pc] w fun e w' => e = .returned (.int .i64 (deedFault ⟨2, path, P, M, lab⟩)) ∧ Below w.heap.size w w' := by
  have HD := hide (deedFault_form (K := 2) (path := path) (by decide) h2)
  unfold ddV at hform ⊢
  simp only at hform ⊢
  have HF := hide hform
  clear hform h2
  go_enter Tryd.func20, Tryd.ntmps20
  go_wp2_with fail
  refine Calls.mono (HF.out _) ?_
  rintro e w1 ⟨rfl, hb1⟩
  have HB := hide (((Below.refl w.heap.size w).alloc (Nat.le_refl _) (Obj.cells #[.int .i64 2, .slice pa path.length pc, .int .i64 P, .int .i64 M, .string lab] 35)).trans (hb1.mono (by simp)))
  clear hb1
  go_wp2_with fail
  go_ret
  exact ⟨by rw [HD.out]; rfl, HB.out⟩

set_option maxHeartbeats 4000000 in
theorem dcheckO_1 (path : List Int) (P M : Int) (lab : ByteArray) (pa : Option Addr) (pc : Nat) (w : World) (hpi : PIn w pa path) (hpl : path.length ≤ pc) (hpc : pc ≤ maxLen) (hls : lab.size ≤ maxLen) (h2 : ¬ (((1 : Int) ≠ 3 ∧ (P ≠ 0 ∨ M ≠ 0)) ∨ ((1 : Int) = 2 ∧ lab ≠ ⟨#[]⟩))) (hform : ∀ W, Calls Tryd.prog 32 #[ddV ⟨1, path, P, M, lab⟩ pa pc] W fun e w' => e = .returned (.bool true) ∧ Below W.heap.size W w') :
    Calls Tryd.prog 20 #[ddV ⟨1, path, P, M, lab⟩ pa pc] w fun e w' => e = .returned (.int .i64 (deedFault ⟨1, path, P, M, lab⟩)) ∧ Below w.heap.size w w' := by
  have hm := deedFault_mid (K := 1) (path := path) (P := P) (M := M) (lab := lab) (by decide) h2 (B := decide (P < 0) || decide (M < 0)) rfl
  unfold ddV at hform ⊢
  simp only at hform ⊢
  have HF := hide hform
  have hbx : Below w.heap.size w (w.alloc (Obj.cells #[.int .i64 1, .slice pa path.length pc, .int .i64 P, .int .i64 M, .string lab] 35)) := (Below.refl w.heap.size w).alloc (Nat.le_refl _) _
  have hnb := heap_alloc_new w (Obj.cells #[.int .i64 1, .slice pa path.length pc, .int .i64 P, .int .i64 M, .string lab] 35)
  obtain ⟨W, hW⟩ : ∃ W, W = w.alloc (Obj.cells #[.int .i64 1, .slice pa path.length pc, .int .i64 P, .int .i64 M, .string lab] 35) := ⟨_, rfl⟩
  have sW : W.heap.size = w.heap.size + 1 := by rw [hW]; simp
  rw [← hW] at hbx hnb
  have HI := hide (And.intro hbx (And.intro hnb hpi))
  have HM := hide hm
  clear hform h2 hm hbx hnb hpi
  go_enter Tryd.func20, Tryd.ntmps20
  go_wp2_with fail
  rw [← hW]
  clear hW
  refine Calls.mono (HF.out _) ?_
  rintro e w1 ⟨rfl, hb1⟩
  have hnb1 : w1.heap[w.heap.size]? = _ := (hb1.block w.heap.size (by omega)).trans HI.out.2.1
  have q0 : w1.cell? ⟨w.heap.size, 0, none⟩ = some (.int .i64 1) := by rw [cell_of_row _ _ 0 _ _ _ hnb1]; rfl
  have q1 : w1.cell? ⟨w.heap.size, 1, none⟩ = some (.slice pa path.length pc) := by rw [cell_of_row _ _ 1 _ _ _ hnb1]; rfl
  have q2 : w1.cell? ⟨w.heap.size, 2, none⟩ = some (.int .i64 P) := by rw [cell_of_row _ _ 2 _ _ _ hnb1]; rfl
  have q3 : w1.cell? ⟨w.heap.size, 3, none⟩ = some (.int .i64 M) := by rw [cell_of_row _ _ 3 _ _ _ hnb1]; rfl
  have q4 : w1.cell? ⟨w.heap.size, 4, none⟩ = some (.string lab) := by rw [cell_of_row _ _ 4 _ _ _ hnb1]; rfl
  have s1 := hb1.size
  obtain ⟨V, hV⟩ : ∃ V, V = w1.alloc (Obj.cells #[.int .i64 P, .int .i64 M] 3) := ⟨_, rfl⟩
  have bV : Below w.heap.size w V := by rw [hV]; exact (HI.out.1.trans (hb1.mono (by omega))).alloc (by omega) _
  have nV : V.heap[w1.heap.size]? = some (Obj.cells #[.int .i64 P, .int .i64 M] 3) := by rw [hV]; exact heap_alloc_new _ _
  have kV : V.heap[w.heap.size]? = w1.heap[w.heap.size]? := by rw [hV]; exact Below.heap_alloc _ _ _ (by omega)
  have r0 : V.cell? ⟨w.heap.size, 0, none⟩ = some (.int .i64 1) := by rw [World.cell?_of_block (w := w1) kV]; exact q0
  have r1 : V.cell? ⟨w.heap.size, 1, none⟩ = some (.slice pa path.length pc) := by rw [World.cell?_of_block (w := w1) kV]; exact q1
  have r4 : V.cell? ⟨w.heap.size, 4, none⟩ = some (.string lab) := by rw [World.cell?_of_block (w := w1) kV]; exact q4
  have HA := hide (anyB_any (some ⟨w1.heap.size, 0, none⟩) 2 [P, M] V (Or.inr ⟨_, _, rfl, fun i p hp => by
    match i, hp with
    | 0, hp => simp at hp; subst hp; rw [cell_of_row _ _ (0 + 0) _ _ _ nV]; rfl
    | 1, hp => simp at hp; subst hp; rw [cell_of_row _ _ (0 + 1) _ _ _ nV]; rfl
    | _ + 2, hp => simp at hp⟩) (show 2 ≤ maxLen by decide))
  have HP := hide (anyB_any pa pc path V (HI.out.2.2.below bV) (Nat.le_trans hpl hpc))
  simp only [List.any_cons, List.any_nil, Bool.or_false, List.length_cons, List.length_nil, Nat.zero_add] at HA
  have HB := hide bV
  unfold maxLen at hpc
  clear hb1 hnb1 bV nV kV HI HF
  obtain ⟨B, hB⟩ : ∃ B, B = (decide (P < 0) || decide (M < 0)) := ⟨_, rfl⟩
  rw [← hB] at HA HM
  clear hB
  go_wp2_with fail
  rw [← hV]
  clear hV q0 q1 q2 q3 q4
  refine Calls.mono HA.out ?_
  rintro e w2 ⟨rfl, rfl⟩
  cases B
  · obtain ⟨bb, hbb⟩ : ∃ bb, bb = path.any (fun p => decide (p < 0)) := ⟨_, rfl⟩
    rw [← hbb] at HP HM
    clear hbb
    go_wp2_with fail
    refine Calls.mono HP.out ?_
    rintro e w3 ⟨rfl, rfl⟩
    cases bb
    · have HF := hide (HM.out.2 rfl)
      clear HM HA HP
      cases hl : labelB lab
      · go_wp2_with fail
        refine Calls.mono (label_any lab _ hls) ?_
        rintro e w2 ⟨rfl, rfl⟩
        rw [hl]
        go_wp2_with fail
        go_ret
        exact ⟨by rw [HF.out, hl]; rfl, HB.out⟩
      · go_wp2_with fail
        refine Calls.mono (label_any lab _ hls) ?_
        rintro e w2 ⟨rfl, rfl⟩
        rw [hl]
        go_wp2_with fail
        go_ret
        exact ⟨by rw [HF.out, hl]; rfl, HB.out⟩
    · have HF := hide (HM.out.1 rfl)
      clear HM HA HP
      go_wp2_with fail
      go_ret
      exact ⟨by rw [HF.out]; rfl, HB.out⟩
  · have HF := hide (HM.out.1 rfl)
    clear HM HA HP
    go_wp2_with fail
    go_ret
    exact ⟨by rw [HF.out]; rfl, HB.out⟩

set_option maxHeartbeats 4000000 in
theorem dcheckO_2 (path : List Int) (P M : Int) (lab : ByteArray) (pa : Option Addr) (pc : Nat) (w : World) (hpi : PIn w pa path) (hpl : path.length ≤ pc) (hpc : pc ≤ maxLen) (hls : lab.size ≤ maxLen) (h2 : ¬ (((2 : Int) ≠ 3 ∧ (P ≠ 0 ∨ M ≠ 0)) ∨ ((2 : Int) = 2 ∧ lab ≠ ⟨#[]⟩))) (hform : ∀ W, Calls Tryd.prog 32 #[ddV ⟨2, path, P, M, lab⟩ pa pc] W fun e w' => e = .returned (.bool true) ∧ Below W.heap.size W w') :
    Calls Tryd.prog 20 #[ddV ⟨2, path, P, M, lab⟩ pa pc] w fun e w' => e = .returned (.int .i64 (deedFault ⟨2, path, P, M, lab⟩)) ∧ Below w.heap.size w w' := by
  have hm := deedFault_mid (K := 2) (path := path) (P := P) (M := M) (lab := lab) (by decide) h2 (B := decide (P < 0) || decide (M < 0)) rfl
  unfold ddV at hform ⊢
  simp only at hform ⊢
  have HF := hide hform
  have hbx : Below w.heap.size w (w.alloc (Obj.cells #[.int .i64 2, .slice pa path.length pc, .int .i64 P, .int .i64 M, .string lab] 35)) := (Below.refl w.heap.size w).alloc (Nat.le_refl _) _
  have hnb := heap_alloc_new w (Obj.cells #[.int .i64 2, .slice pa path.length pc, .int .i64 P, .int .i64 M, .string lab] 35)
  obtain ⟨W, hW⟩ : ∃ W, W = w.alloc (Obj.cells #[.int .i64 2, .slice pa path.length pc, .int .i64 P, .int .i64 M, .string lab] 35) := ⟨_, rfl⟩
  have sW : W.heap.size = w.heap.size + 1 := by rw [hW]; simp
  rw [← hW] at hbx hnb
  have HI := hide (And.intro hbx (And.intro hnb hpi))
  have HM := hide hm
  clear hform h2 hm hbx hnb hpi
  go_enter Tryd.func20, Tryd.ntmps20
  go_wp2_with fail
  rw [← hW]
  clear hW
  refine Calls.mono (HF.out _) ?_
  rintro e w1 ⟨rfl, hb1⟩
  have hnb1 : w1.heap[w.heap.size]? = _ := (hb1.block w.heap.size (by omega)).trans HI.out.2.1
  have q0 : w1.cell? ⟨w.heap.size, 0, none⟩ = some (.int .i64 2) := by rw [cell_of_row _ _ 0 _ _ _ hnb1]; rfl
  have q1 : w1.cell? ⟨w.heap.size, 1, none⟩ = some (.slice pa path.length pc) := by rw [cell_of_row _ _ 1 _ _ _ hnb1]; rfl
  have q2 : w1.cell? ⟨w.heap.size, 2, none⟩ = some (.int .i64 P) := by rw [cell_of_row _ _ 2 _ _ _ hnb1]; rfl
  have q3 : w1.cell? ⟨w.heap.size, 3, none⟩ = some (.int .i64 M) := by rw [cell_of_row _ _ 3 _ _ _ hnb1]; rfl
  have q4 : w1.cell? ⟨w.heap.size, 4, none⟩ = some (.string lab) := by rw [cell_of_row _ _ 4 _ _ _ hnb1]; rfl
  have s1 := hb1.size
  obtain ⟨V, hV⟩ : ∃ V, V = w1.alloc (Obj.cells #[.int .i64 P, .int .i64 M] 3) := ⟨_, rfl⟩
  have bV : Below w.heap.size w V := by rw [hV]; exact (HI.out.1.trans (hb1.mono (by omega))).alloc (by omega) _
  have nV : V.heap[w1.heap.size]? = some (Obj.cells #[.int .i64 P, .int .i64 M] 3) := by rw [hV]; exact heap_alloc_new _ _
  have kV : V.heap[w.heap.size]? = w1.heap[w.heap.size]? := by rw [hV]; exact Below.heap_alloc _ _ _ (by omega)
  have r0 : V.cell? ⟨w.heap.size, 0, none⟩ = some (.int .i64 2) := by rw [World.cell?_of_block (w := w1) kV]; exact q0
  have r1 : V.cell? ⟨w.heap.size, 1, none⟩ = some (.slice pa path.length pc) := by rw [World.cell?_of_block (w := w1) kV]; exact q1
  have r4 : V.cell? ⟨w.heap.size, 4, none⟩ = some (.string lab) := by rw [World.cell?_of_block (w := w1) kV]; exact q4
  have HA := hide (anyB_any (some ⟨w1.heap.size, 0, none⟩) 2 [P, M] V (Or.inr ⟨_, _, rfl, fun i p hp => by
    match i, hp with
    | 0, hp => simp at hp; subst hp; rw [cell_of_row _ _ (0 + 0) _ _ _ nV]; rfl
    | 1, hp => simp at hp; subst hp; rw [cell_of_row _ _ (0 + 1) _ _ _ nV]; rfl
    | _ + 2, hp => simp at hp⟩) (show 2 ≤ maxLen by decide))
  have HP := hide (anyB_any pa pc path V (HI.out.2.2.below bV) (Nat.le_trans hpl hpc))
  simp only [List.any_cons, List.any_nil, Bool.or_false, List.length_cons, List.length_nil, Nat.zero_add] at HA
  have HB := hide bV
  unfold maxLen at hpc
  clear hb1 hnb1 bV nV kV HI HF
  obtain ⟨B, hB⟩ : ∃ B, B = (decide (P < 0) || decide (M < 0)) := ⟨_, rfl⟩
  rw [← hB] at HA HM
  clear hB
  go_wp2_with fail
  rw [← hV]
  clear hV q0 q1 q2 q3 q4
  refine Calls.mono HA.out ?_
  rintro e w2 ⟨rfl, rfl⟩
  cases B
  · obtain ⟨bb, hbb⟩ : ∃ bb, bb = path.any (fun p => decide (p < 0)) := ⟨_, rfl⟩
    rw [← hbb] at HP HM
    clear hbb
    go_wp2_with fail
    refine Calls.mono HP.out ?_
    rintro e w3 ⟨rfl, rfl⟩
    cases bb
    · have HF := hide (HM.out.2 rfl)
      clear HM HA HP
      by_cases hp0 : path = []
      · have HF2 := hide (show deedFault ⟨2, path, P, M, lab⟩ = 8 by rw [HF.out, if_neg (by simp), if_pos (by simp [hp0])])
        subst hp0
        clear HF
        go_wp2_with fail
        go_ret
        exact ⟨by rw [HF2.out]; rfl, HB.out⟩
      · have HF2 := hide (show deedFault ⟨2, path, P, M, lab⟩ = 0 by rw [HF.out, if_neg (by simp), if_neg (by simp [hp0])])
        have hpl : 0 < path.length := List.length_pos_iff.2 hp0
        clear HF hp0
        go_wp2_with fail
        go_ret
        exact ⟨by rw [HF2.out]; rfl, HB.out⟩
    · have HF := hide (HM.out.1 rfl)
      clear HM HA HP
      go_wp2_with fail
      go_ret
      exact ⟨by rw [HF.out]; rfl, HB.out⟩
  · have HF := hide (HM.out.1 rfl)
    clear HM HA HP
    go_wp2_with fail
    go_ret
    exact ⟨by rw [HF.out]; rfl, HB.out⟩

set_option maxHeartbeats 4000000 in
theorem dcheckO_3 (path : List Int) (P M : Int) (lab : ByteArray) (pa : Option Addr) (pc : Nat) (w : World) (hpi : PIn w pa path) (hpl : path.length ≤ pc) (hpc : pc ≤ maxLen) (hls : lab.size ≤ maxLen) (h2 : ¬ (((3 : Int) ≠ 3 ∧ (P ≠ 0 ∨ M ≠ 0)) ∨ ((3 : Int) = 2 ∧ lab ≠ ⟨#[]⟩))) (hform : ∀ W, Calls Tryd.prog 32 #[ddV ⟨3, path, P, M, lab⟩ pa pc] W fun e w' => e = .returned (.bool true) ∧ Below W.heap.size W w') :
    Calls Tryd.prog 20 #[ddV ⟨3, path, P, M, lab⟩ pa pc] w fun e w' => e = .returned (.int .i64 (deedFault ⟨3, path, P, M, lab⟩)) ∧ Below w.heap.size w w' := by
  have hm := deedFault_mid (K := 3) (path := path) (P := P) (M := M) (lab := lab) (by decide) h2 (B := decide (P < 0) || decide (M < 0)) rfl
  unfold ddV at hform ⊢
  simp only at hform ⊢
  have HF := hide hform
  have hbx : Below w.heap.size w (w.alloc (Obj.cells #[.int .i64 3, .slice pa path.length pc, .int .i64 P, .int .i64 M, .string lab] 35)) := (Below.refl w.heap.size w).alloc (Nat.le_refl _) _
  have hnb := heap_alloc_new w (Obj.cells #[.int .i64 3, .slice pa path.length pc, .int .i64 P, .int .i64 M, .string lab] 35)
  obtain ⟨W, hW⟩ : ∃ W, W = w.alloc (Obj.cells #[.int .i64 3, .slice pa path.length pc, .int .i64 P, .int .i64 M, .string lab] 35) := ⟨_, rfl⟩
  have sW : W.heap.size = w.heap.size + 1 := by rw [hW]; simp
  rw [← hW] at hbx hnb
  have HI := hide (And.intro hbx (And.intro hnb hpi))
  have HM := hide hm
  clear hform h2 hm hbx hnb hpi
  go_enter Tryd.func20, Tryd.ntmps20
  go_wp2_with fail
  rw [← hW]
  clear hW
  refine Calls.mono (HF.out _) ?_
  rintro e w1 ⟨rfl, hb1⟩
  have hnb1 : w1.heap[w.heap.size]? = _ := (hb1.block w.heap.size (by omega)).trans HI.out.2.1
  have q0 : w1.cell? ⟨w.heap.size, 0, none⟩ = some (.int .i64 3) := by rw [cell_of_row _ _ 0 _ _ _ hnb1]; rfl
  have q1 : w1.cell? ⟨w.heap.size, 1, none⟩ = some (.slice pa path.length pc) := by rw [cell_of_row _ _ 1 _ _ _ hnb1]; rfl
  have q2 : w1.cell? ⟨w.heap.size, 2, none⟩ = some (.int .i64 P) := by rw [cell_of_row _ _ 2 _ _ _ hnb1]; rfl
  have q3 : w1.cell? ⟨w.heap.size, 3, none⟩ = some (.int .i64 M) := by rw [cell_of_row _ _ 3 _ _ _ hnb1]; rfl
  have q4 : w1.cell? ⟨w.heap.size, 4, none⟩ = some (.string lab) := by rw [cell_of_row _ _ 4 _ _ _ hnb1]; rfl
  have s1 := hb1.size
  obtain ⟨V, hV⟩ : ∃ V, V = w1.alloc (Obj.cells #[.int .i64 P, .int .i64 M] 3) := ⟨_, rfl⟩
  have bV : Below w.heap.size w V := by rw [hV]; exact (HI.out.1.trans (hb1.mono (by omega))).alloc (by omega) _
  have nV : V.heap[w1.heap.size]? = some (Obj.cells #[.int .i64 P, .int .i64 M] 3) := by rw [hV]; exact heap_alloc_new _ _
  have kV : V.heap[w.heap.size]? = w1.heap[w.heap.size]? := by rw [hV]; exact Below.heap_alloc _ _ _ (by omega)
  have r0 : V.cell? ⟨w.heap.size, 0, none⟩ = some (.int .i64 3) := by rw [World.cell?_of_block (w := w1) kV]; exact q0
  have r1 : V.cell? ⟨w.heap.size, 1, none⟩ = some (.slice pa path.length pc) := by rw [World.cell?_of_block (w := w1) kV]; exact q1
  have r4 : V.cell? ⟨w.heap.size, 4, none⟩ = some (.string lab) := by rw [World.cell?_of_block (w := w1) kV]; exact q4
  have HA := hide (anyB_any (some ⟨w1.heap.size, 0, none⟩) 2 [P, M] V (Or.inr ⟨_, _, rfl, fun i p hp => by
    match i, hp with
    | 0, hp => simp at hp; subst hp; rw [cell_of_row _ _ (0 + 0) _ _ _ nV]; rfl
    | 1, hp => simp at hp; subst hp; rw [cell_of_row _ _ (0 + 1) _ _ _ nV]; rfl
    | _ + 2, hp => simp at hp⟩) (show 2 ≤ maxLen by decide))
  have HP := hide (anyB_any pa pc path V (HI.out.2.2.below bV) (Nat.le_trans hpl hpc))
  simp only [List.any_cons, List.any_nil, Bool.or_false, List.length_cons, List.length_nil, Nat.zero_add] at HA
  have HB := hide bV
  unfold maxLen at hpc
  clear hb1 hnb1 bV nV kV HI HF
  obtain ⟨B, hB⟩ : ∃ B, B = (decide (P < 0) || decide (M < 0)) := ⟨_, rfl⟩
  rw [← hB] at HA HM
  clear hB
  go_wp2_with fail
  rw [← hV]
  clear hV q0 q1 q2 q3 q4
  refine Calls.mono HA.out ?_
  rintro e w2 ⟨rfl, rfl⟩
  cases B
  · obtain ⟨bb, hbb⟩ : ∃ bb, bb = path.any (fun p => decide (p < 0)) := ⟨_, rfl⟩
    rw [← hbb] at HP HM
    clear hbb
    go_wp2_with fail
    refine Calls.mono HP.out ?_
    rintro e w3 ⟨rfl, rfl⟩
    cases bb
    · have HF := hide (HM.out.2 rfl)
      clear HM HA HP
      cases hl : labelB lab
      · go_wp2_with fail
        refine Calls.mono (label_any lab _ hls) ?_
        rintro e w2 ⟨rfl, rfl⟩
        rw [hl]
        go_wp2_with fail
        go_ret
        exact ⟨by rw [HF.out, hl]; rfl, HB.out⟩
      · go_wp2_with fail
        refine Calls.mono (label_any lab _ hls) ?_
        rintro e w2 ⟨rfl, rfl⟩
        rw [hl]
        go_wp2_with fail
        go_ret
        exact ⟨by rw [HF.out, hl]; rfl, HB.out⟩
    · have HF := hide (HM.out.1 rfl)
      clear HM HA HP
      go_wp2_with fail
      go_ret
      exact ⟨by rw [HF.out]; rfl, HB.out⟩
  · have HF := hide (HM.out.1 rfl)
    clear HM HA HP
    go_wp2_with fail
    go_ret
    exact ⟨by rw [HF.out]; rfl, HB.out⟩

set_option maxHeartbeats 1000000 in
theorem dcheck_any (d : Dd) (pa : Option Addr) (pc : Nat) (w : World) (h : DIn w d pa pc) :
    Calls Tryd.prog 20 #[ddV d pa pc] w fun e w' => e = .returned (.int .i64 (deedFault d)) ∧ Below w.heap.size w w' := by
  obtain ⟨K, path, P, M, lab⟩ := d
  obtain ⟨h1, h2, h3, h4⟩ := h
  by_cases k1 : K = 1
  · subst k1
    by_cases hz : P = 0 ∧ M = 0
    · exact dcheckO_1 path P M lab pa pc w h1 h2 h3 h4 (by rintro (⟨_, h⟩ | ⟨h, _⟩) <;> omega) fun W => formed1 path P M lab pa pc W hz
    · exact dcheckF_1 path P M lab pa pc w (Or.inl ⟨by decide, by omega⟩) fun W => unformed1 path P M lab pa pc W (by omega)
  · by_cases k2 : K = 2
    · subst k2
      by_cases hz : P = 0 ∧ M = 0
      · by_cases hlab : lab = ⟨#[]⟩
        · refine dcheckO_2 path P M lab pa pc w h1 h2 h3 h4 ?_ fun W => formed2 path P M lab pa pc W hz hlab
          rintro (⟨_, h⟩ | ⟨_, h⟩)
          · omega
          · exact h hlab
        · obtain ⟨rfl, rfl⟩ := hz
          exact dcheckF_2 path 0 0 lab pa pc w (Or.inr ⟨rfl, hlab⟩) fun W => unformed2l path lab pa pc W hlab
      · exact dcheckF_2 path P M lab pa pc w (Or.inl ⟨by decide, by omega⟩) fun W => unformed2 path P M lab pa pc W (by omega)
    · by_cases k3 : K = 3
      · subst k3
        exact dcheckO_3 path P M lab pa pc w h1 h2 h3 h4 (by rintro (⟨h, _⟩ | ⟨h, _⟩) <;> omega) fun W => formed3 path P M lab pa pc W
      · have HF := hide (deedFault_kind (K := K) (P := P) (M := M) (path := path) (lab := lab) k1 k2 k3)
        have n1 : (K != 1) = true := by simp [k1]
        have n2 : (K != 2) = true := by simp [k2]
        have n3 : (K != 3) = true := by simp [k3]
        unfold ddV
        simp only
        clear h1 h2 h3 h4 k1 k2 k3
        go_enter Tryd.func20, Tryd.ntmps20
        go_wp2_with fail
        go_ret
        exact ⟨by rw [HF.out]; rfl, (Below.refl _ _).alloc (Nat.le_refl _) _⟩
end Go.Proofs.YtkoohfkomlmhoacDoor.Deed
