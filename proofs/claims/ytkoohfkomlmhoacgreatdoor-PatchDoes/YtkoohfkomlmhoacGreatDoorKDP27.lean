/- write of package patch: the line of a deed that has one. Of the program's text. -/
/- Line of package patch: the line of a deed; a code. Of the program's text. -/
import Derived.Test.YtkoohfkomlmhoacGreatDoorProg
import Derived.Test.YtkoohfkomlmhoacGreatDoorKDP26
namespace Go.Proofs.YtkoohfkomlmhoacGreatDoor.Pat
open Go.Deep Go.RowKit Deed
set_option linter.unusedVariables false
set_option maxRecDepth 20000

theorem words3_at {a b c : ByteArray} (w : World) (T : TypeId) : ∀ (j : Nat) x, [a, b, c][j]? = some x → (w.alloc (Obj.cells #[.string a, .string b, .string c] T)).cell? ⟨w.heap.size, j, none⟩ = some (.string x) := fun j x h => by
  refine str_news_at ?_
  match j, h with
  | 0, h => simp at h; subst h; rfl
  | 1, h => simp at h; subst h; rfl
  | 2, h => simp at h; subst h; rfl
theorem words2_at {a b : ByteArray} (w : World) (T : TypeId) : ∀ (j : Nat) x, [a, b][j]? = some x → (w.alloc (Obj.cells #[.string a, .string b] T)).cell? ⟨w.heap.size, j, none⟩ = some (.string x) := fun j x h => by
  refine str_news_at ?_
  match j, h with
  | 0, h => simp at h; subst h; rfl
  | 1, h => simp at h; subst h; rfl
theorem words5_at {a b c d f : ByteArray} (w : World) (T : TypeId) : ∀ (j : Nat) x, [a, b, c, d, f][j]? = some x → (w.alloc (Obj.cells #[.string a, .string b, .string c, .string d, .string f] T)).cell? ⟨w.heap.size, j, none⟩ = some (.string x) := fun j x h => by
  refine str_news_at ?_
  match j, h with
  | 0, h => simp at h; subst h; rfl
  | 1, h => simp at h; subst h; rfl
  | 2, h => simp at h; subst h; rfl
  | 3, h => simp at h; subst h; rfl
  | 4, h => simp at h; subst h; rfl

set_option maxHeartbeats 4000000 in
theorem write_any (d : Dd) (pa : Option Addr) (pc : Nat) (w : World) (hd : DIn w d pa pc) (ht : Tab w) (hp : d.path.length ≤ 10000) (hlab : d.lab.size ≤ 100000) (hin : ∀ n, n ∈ d.path → In64 n) (hpi : In64 d.pos) (hmi : In64 d.many) :
    Calls Tryz.prog 44 #[ddV d pa pc] w fun e w' => e = .returned (.string (str (joinP 32 (wordsP d)))) ∧ Below w.heap.size w w' := by
  unfold ddV
  obtain ⟨W, hW⟩ : ∃ W, W = w.alloc (Obj.cells #[.int .i64 d.kind, .slice pa d.path.length pc, .int .i64 d.pos, .int .i64 d.many, .string d.lab] 38) := ⟨_, rfl⟩
  have hB : Below w.heap.size w W := by rw [hW]; exact (Below.refl _ _).alloc (Nat.le_refl _) _
  have hbox : W.heap[w.heap.size]? = some (Obj.cells #[.int .i64 d.kind, .slice pa d.path.length pc, .int .i64 d.pos, .int .i64 d.many, .string d.lab] 38) := by rw [hW]; exact heap_alloc_new _ _
  have k0 : W.cell? ⟨w.heap.size, 0, none⟩ = some (.int .i64 d.kind) := by rw [cell_of_row _ _ 0 _ _ _ hbox]; rfl
  have k1 : W.cell? ⟨w.heap.size, 1, none⟩ = some (.slice pa d.path.length pc) := by rw [cell_of_row _ _ 1 _ _ _ hbox]; rfl
  have k2 : W.cell? ⟨w.heap.size, 2, none⟩ = some (.int .i64 d.pos) := by rw [cell_of_row _ _ 2 _ _ _ hbox]; rfl
  have k3 : W.cell? ⟨w.heap.size, 3, none⟩ = some (.int .i64 d.many) := by rw [cell_of_row _ _ 3 _ _ _ hbox]; rfl
  have k4 : W.cell? ⟨w.heap.size, 4, none⟩ = some (.string d.lab) := by rw [cell_of_row _ _ 4 _ _ _ hbox]; rfl
  have hS0 : BoxD w.heap.size d pa pc W W := ⟨Below.refl _ _, k1, k2, k3, k4⟩
  have HS0 := hide hS0
  have HBB := hide hB
  have hT : Tab W := ht.below hB
  have hDp : PIn W pa d.path := hd.path.below hB
  have KP := hide (fun (W' : World) (h : BoxD w.heap.size d pa pc W W') => (ppath_any pa pc d.path W' (hDp.below h.1) hp hin (hT.below h.1)).mono fun e w2 (h2 : _ ∧ Below W'.heap.size W' w2) => (⟨h2.1, h.on h2.2⟩ : e = .returned (.string (str (pathTxt d.path))) ∧ BoxD w.heap.size d pa pc W w2))
  have KA := hide (fun (W' : World) (h : BoxD w.heap.size d pa pc W W') => (itoa_any d.pos hpi W' (hT.below h.1)).mono fun e w2 (h2 : _ ∧ Below W'.heap.size W' w2) => (⟨h2.1, h.on h2.2⟩ : e = .returned (.string (str (Lib.itoa d.pos))) ∧ BoxD w.heap.size d pa pc W w2))
  have KM := hide (fun (W' : World) (h : BoxD w.heap.size d pa pc W W') => (itoa_any d.many hmi W' (hT.below h.1)).mono fun e w2 (h2 : _ ∧ Below W'.heap.size W' w2) => (⟨h2.1, h.on h2.2⟩ : e = .returned (.string (str (Lib.itoa d.many))) ∧ BoxD w.heap.size d pa pc W w2))
  have hpl := path_len hin
  have hil := Lib.itoa_length_le d.pos hpi.1 hpi.2
  have hml := Lib.itoa_length_le d.many hmi.1 hmi.2
  have hls : d.lab.data.size = d.lab.size := rfl
  clear hbox hS0 hB hd ht hin hT hDp
  by_cases hk1 : d.kind = 1
  · have hkb : (d.kind == 1) = true := beq_iff_eq.2 hk1
    have HW := hide (show wordsP d = ([⟨#[110, 97, 109, 101]⟩, str (pathTxt d.path), d.lab] : List ByteArray).map (·.data.toList) by unfold wordsP; rw [if_pos hk1]; rfl)
    have hll : (joinP 32 (wordsP d)).length ≤ 140737488355328 := by
      unfold wordsP
      rw [if_pos hk1]
      simp only [joinP, nameW, List.length_append, List.length_cons, List.length_nil, Array.length_toList]
      omega
    have KJ := hide (fun (W' : World) (h : BoxD w.heap.size d pa pc W W') => by
      have b1 : Below W'.heap.size W' (W'.alloc (Obj.cells #[.string ⟨#[110, 97, 109, 101]⟩, .string (str (pathTxt d.path)), .string d.lab] 9)) := (Below.refl _ _).alloc (Nat.le_refl _) _
      have hj := joined_any W'.heap.size [⟨#[110, 97, 109, 101]⟩, str (pathTxt d.path), d.lab] (W'.alloc (Obj.cells #[.string ⟨#[110, 97, 109, 101]⟩, .string (str (pathTxt d.path)), .string d.lab] 9)) (words3_at W' _) (by simp) (by simp) (by rw [← HW.out]; exact hll)
      rw [← HW.out] at hj
      exact (show Calls Tryz.prog 81 #[.slice (some ⟨W'.heap.size, 0, none⟩) 3 3] _ _ from hj).mono fun e w2 (h2 : _ ∧ Below _ _ w2) => (⟨h2.1, (h.on b1).on h2.2⟩ : e = .returned (.string (str (joinP 32 (wordsP d)))) ∧ BoxD w.heap.size d pa pc W w2))
    clear hk1 hpl hil hml hp hlab hll
    go_enter Tryz.func44, Tryz.ntmps44
    go_wp2_with fail
    rw [← hW]
    clear hW
    go_wp2_with fail
    go_region_held3 (fun w' => Below W.heap.size W w' ∧ w'.cell? ⟨w.heap.size, 1, none⟩ = some (.slice pa d.path.length pc) ∧ w'.cell? ⟨w.heap.size, 2, none⟩ = some (.int .i64 d.pos) ∧ w'.cell? ⟨w.heap.size, 3, none⟩ = some (.int .i64 d.many) ∧ w'.cell? ⟨w.heap.size, 4, none⟩ = some (.string d.lab))
      (first | assumption | exact BoxD.on HS0.out (Below.refl _ _).drew | (refine BoxD.on ?_ ((Below.refl _ _).alloc (Nat.le_refl _) _); assumption))
      (first
        | (go_at_call 15; refine (KP.out _ (by assumption)).mono ?_; rintro e w2 ⟨rfl, hS2⟩)
        | (go_at_call 81; refine (KJ.out _ (by assumption)).mono ?_; rintro e w3 ⟨rfl, hS3⟩))
    go_wp2_with fail
    go_ret
    exact ⟨rfl, HBB.out.trans (hS3.1.mono HBB.out.size)⟩
  by_cases hk2 : d.kind = 2
  · have hkb : (d.kind == 1) = false := beq_eq_false_iff_ne.2 hk1
    have hkc : (d.kind == 2) = true := beq_iff_eq.2 hk2
    have HW := hide (show wordsP d = ([⟨#[100, 101, 108, 101, 116, 101]⟩, str (pathTxt d.path)] : List ByteArray).map (·.data.toList) by unfold wordsP; rw [if_neg hk1, if_pos hk2]; rfl)
    have hll : (joinP 32 (wordsP d)).length ≤ 140737488355328 := by
      unfold wordsP
      rw [if_neg hk1, if_pos hk2]
      simp only [joinP, delW, List.length_append, List.length_cons, List.length_nil]
      omega
    have KJ := hide (fun (W' : World) (h : BoxD w.heap.size d pa pc W W') => by
      have b1 : Below W'.heap.size W' (W'.alloc (Obj.cells #[.string ⟨#[100, 101, 108, 101, 116, 101]⟩, .string (str (pathTxt d.path))] 9)) := (Below.refl _ _).alloc (Nat.le_refl _) _
      have hj := joined_any W'.heap.size [⟨#[100, 101, 108, 101, 116, 101]⟩, str (pathTxt d.path)] (W'.alloc (Obj.cells #[.string ⟨#[100, 101, 108, 101, 116, 101]⟩, .string (str (pathTxt d.path))] 9)) (words2_at W' _) (by simp) (by simp) (by rw [← HW.out]; exact hll)
      rw [← HW.out] at hj
      exact (show Calls Tryz.prog 81 #[.slice (some ⟨W'.heap.size, 0, none⟩) 2 2] _ _ from hj).mono fun e w2 (h2 : _ ∧ Below _ _ w2) => (⟨h2.1, (h.on b1).on h2.2⟩ : e = .returned (.string (str (joinP 32 (wordsP d)))) ∧ BoxD w.heap.size d pa pc W w2))
    clear hk1 hk2 hpl hil hml hp hlab hll
    go_enter Tryz.func44, Tryz.ntmps44
    go_wp2_with fail
    rw [← hW]
    clear hW
    go_wp2_with fail
    refine (KP.out _ HS0.out).mono ?_
    rintro e w2 ⟨rfl, hS2⟩
    go_wp2_with fail
    refine (KJ.out w2 hS2).mono ?_
    rintro e w3 ⟨rfl, hS3⟩
    have HS3 := hide hS3
    clear hS3
    go_wp2_with fail
    go_ret
    exact ⟨rfl, HBB.out.trans (HS3.out.1.mono HBB.out.size)⟩
  · have hkb : (d.kind == 1) = false := beq_eq_false_iff_ne.2 hk1
    have hkc : (d.kind == 2) = false := beq_eq_false_iff_ne.2 hk2
    have HW := hide (show wordsP d = ([⟨#[105, 110, 115, 101, 114, 116]⟩, str (pathTxt d.path), str (Lib.itoa d.pos), str (Lib.itoa d.many), d.lab] : List ByteArray).map (·.data.toList) by unfold wordsP; rw [if_neg hk1, if_neg hk2]; rfl)
    have hll : (joinP 32 (wordsP d)).length ≤ 140737488355328 := by
      unfold wordsP
      rw [if_neg hk1, if_neg hk2]
      simp only [joinP, insW, List.length_append, List.length_cons, List.length_nil, Array.length_toList]
      omega
    have KJ := hide (fun (W' : World) (h : BoxD w.heap.size d pa pc W W') => by
      have b1 : Below W'.heap.size W' (W'.alloc (Obj.cells #[.string ⟨#[105, 110, 115, 101, 114, 116]⟩, .string (str (pathTxt d.path)), .string (str (Lib.itoa d.pos)), .string (str (Lib.itoa d.many)), .string d.lab] 9)) := (Below.refl _ _).alloc (Nat.le_refl _) _
      have hj := joined_any W'.heap.size [⟨#[105, 110, 115, 101, 114, 116]⟩, str (pathTxt d.path), str (Lib.itoa d.pos), str (Lib.itoa d.many), d.lab] (W'.alloc (Obj.cells #[.string ⟨#[105, 110, 115, 101, 114, 116]⟩, .string (str (pathTxt d.path)), .string (str (Lib.itoa d.pos)), .string (str (Lib.itoa d.many)), .string d.lab] 9)) (words5_at W' _) (by simp) (by simp) (by rw [← HW.out]; exact hll)
      rw [← HW.out] at hj
      exact (show Calls Tryz.prog 81 #[.slice (some ⟨W'.heap.size, 0, none⟩) 5 5] _ _ from hj).mono fun e w2 (h2 : _ ∧ Below _ _ w2) => (⟨h2.1, (h.on b1).on h2.2⟩ : e = .returned (.string (str (joinP 32 (wordsP d)))) ∧ BoxD w.heap.size d pa pc W w2))
    clear hk1 hk2 hpl hil hml hp hlab hll
    go_enter Tryz.func44, Tryz.ntmps44
    go_wp2_with fail
    rw [← hW]
    clear hW
    go_wp2_with fail
    go_region_held3 (fun w' => Below W.heap.size W w' ∧ w'.cell? ⟨w.heap.size, 1, none⟩ = some (.slice pa d.path.length pc) ∧ w'.cell? ⟨w.heap.size, 2, none⟩ = some (.int .i64 d.pos) ∧ w'.cell? ⟨w.heap.size, 3, none⟩ = some (.int .i64 d.many) ∧ w'.cell? ⟨w.heap.size, 4, none⟩ = some (.string d.lab))
      (first | assumption | exact BoxD.on HS0.out (Below.refl _ _).drew | (refine BoxD.on ?_ ((Below.refl _ _).alloc (Nat.le_refl _) _); assumption))
      (first
        | (go_at_call 15; refine (KP.out _ (by assumption)).mono ?_; rintro e w2 ⟨rfl, hS2⟩)
        | (go_at_call_of 37 d.pos; refine (KA.out _ (by assumption)).mono ?_; rintro e w4 ⟨rfl, hS4⟩)
        | (go_at_call_of 37 d.many; refine (KM.out _ (by assumption)).mono ?_; rintro e w5 ⟨rfl, hS5⟩)
        | (go_at_call 81; refine (KJ.out _ (by assumption)).mono ?_; rintro e w3 ⟨rfl, hS3⟩))
    go_wp2_with fail
    go_ret
    exact ⟨rfl, HBB.out.trans (hS3.1.mono HBB.out.size)⟩
end Go.Proofs.YtkoohfkomlmhoacGreatDoor.Pat
namespace Go.Proofs.YtkoohfkomlmhoacGreatDoor.Pat
open Go.Deep Go.RowKit Deed
set_option linter.unusedVariables false
set_option maxRecDepth 20000

theorem two_at (w : World) (T : TypeId) (a b : Int) : PIn (w.alloc (Obj.cells #[.int .i64 a, .int .i64 b] T)) (some ⟨w.heap.size, 0, none⟩) [a, b] := by
  refine Or.inr ⟨w.heap.size, 0, rfl, fun j x h => ?_⟩
  rw [Nat.zero_add]
  refine str_news_at ?_
  match j, h with
  | 0, h => simp at h; subst h; rfl
  | 1, h => simp at h; subst h; rfl
theorem above_is (d : Dd) : above d = (([d.pos, d.many].any fun p => decide (999 < p)) || d.path.any fun p => decide (999 < p)) := by
  unfold above
  simp only [List.any_cons, List.any_nil, Bool.or_false]
  cases d.path.any (fun p => decide (999 < p)) <;> cases decide (999 < d.pos) <;> cases decide (999 < d.many) <;> rfl

set_option maxHeartbeats 2000000 in
theorem pline_any (d : Dd) (pa : Option Addr) (pc : Nat) (w : World) (hd : DIn w d pa pc) (ht : Tab w) (hp : d.path.length ≤ 10000) (hlab : d.lab.size ≤ 100000) :
    Calls Tryz.prog 20 #[ddV d pa pc] w fun e w' => e = .returned (.tuple #[.string (str (lineP d)), .int .i64 (lineC d)]) ∧ Below w.heap.size w w' := by
  have hab := above_is d
  unfold ddV
  obtain ⟨W, hW⟩ : ∃ W, W = w.alloc (Obj.cells #[.int .i64 d.kind, .slice pa d.path.length pc, .int .i64 d.pos, .int .i64 d.many, .string d.lab] 38) := ⟨_, rfl⟩
  have hB : Below w.heap.size w W := by rw [hW]; exact (Below.refl _ _).alloc (Nat.le_refl _) _
  have hWs : W.heap.size = w.heap.size + 1 := by rw [hW]; simp
  have hbox : W.heap[w.heap.size]? = some (Obj.cells #[.int .i64 d.kind, .slice pa d.path.length pc, .int .i64 d.pos, .int .i64 d.many, .string d.lab] 38) := by rw [hW]; exact heap_alloc_new _ _
  have hcells : ∀ W', Below W.heap.size W W' → W'.cell? ⟨w.heap.size, 0, none⟩ = some (.int .i64 d.kind) ∧ W'.cell? ⟨w.heap.size, 1, none⟩ = some (.slice pa d.path.length pc) ∧ W'.cell? ⟨w.heap.size, 2, none⟩ = some (.int .i64 d.pos) ∧ W'.cell? ⟨w.heap.size, 3, none⟩ = some (.int .i64 d.many) ∧ W'.cell? ⟨w.heap.size, 4, none⟩ = some (.string d.lab) := fun W' h => by
    have hb := (h.block w.heap.size (by omega)).trans hbox
    exact ⟨by rw [cell_of_row _ _ 0 _ _ _ hb]; rfl, by rw [cell_of_row _ _ 1 _ _ _ hb]; rfl, by rw [cell_of_row _ _ 2 _ _ _ hb]; rfl, by rw [cell_of_row _ _ 3 _ _ _ hb]; rfl, by rw [cell_of_row _ _ 4 _ _ _ hb]; rfl⟩
  have HCL := hide hcells
  have HDF := hide (dcheck_any d pa pc W (hd.below hB))
  unfold ddV at HDF
  have HD := hide (hd.below hB)
  have HTB := hide (ht.below hB)
  have HBB := hide hB
  have hdl := hd.len
  have hdc := hd.cap
  unfold maxLen at hdc
  obtain ⟨c0, c1, c2, c3, c4⟩ := hcells W (Below.refl _ _)
  clear hbox hd ht hB hcells
  go_enter Tryz.func20, Tryz.ntmps20
  go_wp2_with fail
  rw [← hW]
  clear hW
  go_wp2_with fail
  refine Calls.mono HDF.out ?_
  rintro e w1 ⟨rfl, hb1⟩
  obtain ⟨k0, k1, k2, k3, k4⟩ := HCL.out w1 hb1
  have hz1 := hb1.size
  have HB1 := hide hb1
  clear c0 c1 c2 c3 c4 hb1 HDF
  by_cases hf : deedFault d = 0
  · have hfb : (deedFault d != 0) = false := by rw [hf]; rfl
    have HF := hide hf
    clear hf
    obtain ⟨W8, hW8⟩ : ∃ W8, W8 = w1.alloc (Obj.cells #[.int .i64 d.pos, .int .i64 d.many] 3) := ⟨_, rfl⟩
    have hb8 : Below W.heap.size W W8 := by rw [hW8]; exact HB1.out.alloc hz1 _
    have HG := hide (tooGreat_any (some ⟨w1.heap.size, 0, none⟩) 2 [d.pos, d.many] W8 (by rw [hW8]; exact two_at _ _ _ _) (by unfold maxLen; simp))
    obtain ⟨g, hg⟩ : ∃ g, g = ([d.pos, d.many].any fun p => decide (999 < p)) := ⟨_, rfl⟩
    rw [← hg] at HG hab
    have HG' := hide (show Calls Tryz.prog 43 #[.slice (some ⟨w1.heap.size, 0, none⟩) 2 2] W8 fun e w' => e = .returned (.bool g) ∧ Below W8.heap.size W8 w' from HG.out)
    have HB8 := hide hb8
    have hz8 := hb8.size
    clear hb8 HG hg
    go_wp2_with fail
    rw [← hW8]
    clear hW8
    refine Calls.mono HG'.out ?_
    rintro e w2 ⟨rfl, hb2⟩
    have hb2' := HB8.out.trans (hb2.mono hz8)
    obtain ⟨l0, l1, l2, l3, l4⟩ := HCL.out w2 hb2'
    have HB2 := hide hb2'
    have hz2 := hb2'.size
    clear hb2 hb2' k0 k1 k2 k3 k4
    cases g with
    | true =>
      have HL := hide (lineC_above HF.out (by rw [hab]; rfl))
      clear hab
      go_wp2_with fail
      refine bodyPost_ret (v := .tuple #[.string ⟨#[]⟩, .int .i64 9]) (by simp [results, Tryz.results20, go_sem]) rfl ⟨by rw [HL.out.1, HL.out.2], HBB.out.trans (HB2.out.mono (by omega))⟩
    | false =>
      rw [Bool.false_or] at hab
      have HG2 := hide (tooGreat_any pa pc d.path w2 (HD.out.path.below HB2.out) (by unfold maxLen; omega))
      rw [← hab] at HG2
      obtain ⟨g2, hg2⟩ : ∃ g2, g2 = above d := ⟨_, rfl⟩
      rw [← hg2] at HG2
      clear hab
      go_wp2_with fail
      refine Calls.mono HG2.out ?_
      rintro e w3 ⟨rfl, hb3⟩
      have hb3' := HB2.out.trans (hb3.mono hz2)
      obtain ⟨m0, m1, m2, m3, m4⟩ := HCL.out w3 hb3'
      have HB3 := hide hb3'
      have hz3 := hb3'.size
      clear hb3 hb3' l0 l1 l2 l3 l4
      cases g2 with
      | true =>
        have HL := hide (lineC_above HF.out hg2.symm)
        clear hg2
        go_wp2_with fail
        refine bodyPost_ret (v := .tuple #[.string ⟨#[]⟩, .int .i64 9]) (by simp [results, Tryz.results20, go_sem]) rfl ⟨by rw [HL.out.1, HL.out.2], HBB.out.trans (HB3.out.mono (by omega))⟩
      | false =>
        have HL := hide (lineC_good HF.out hg2.symm)
        obtain ⟨p, x, y, e1, e2, e3, e4, e5, e6⟩ := above_not HF.out hg2.symm
        have hin : ∀ n, n ∈ d.path → In64 n := fun n hn => by
          rw [e1] at hn
          unfold ints at hn
          obtain ⟨m, hm, rfl⟩ := List.mem_map.1 hn
          have := e2 m hm
          exact ⟨by omega, by omega⟩
        have hwr := write_any d pa pc w3 (HD.out.below HB3.out) (HTB.out.below HB3.out) hp hlab hin ⟨by omega, by omega⟩ ⟨by omega, by omega⟩
        unfold ddV at hwr
        have HWR := hide hwr
        clear hwr hg2 e1 e2 e3 e4 e5 e6 hin
        go_wp2_with fail
        refine Calls.mono HWR.out ?_
        rintro e w4 ⟨rfl, hb4⟩
        have HB4 := hide (HBB.out.trans ((HB3.out.trans (hb4.mono hz3)).mono (by omega)))
        clear hb4
        go_wp2_with fail
        refine bodyPost_ret (v := .tuple #[.string (str (joinP 32 (wordsP d))), .int .i64 0]) (by simp [results, Tryz.results20, go_sem]) rfl ⟨by rw [HL.out.1, HL.out.2], HB4.out⟩
  · have hfb : (deedFault d != 0) = true := by simpa using hf
    have HF := hide (lineC_fault hf)
    clear hf
    go_wp2_with fail
    refine bodyPost_ret (v := .tuple #[.string ⟨#[]⟩, .int .i64 (deedFault d)]) (by simp [results, Tryz.results20, go_sem]) rfl ⟨by rw [HF.out.1, HF.out.2], HBB.out.trans (HB1.out.mono (by omega))⟩
end Go.Proofs.YtkoohfkomlmhoacGreatDoor.Pat
