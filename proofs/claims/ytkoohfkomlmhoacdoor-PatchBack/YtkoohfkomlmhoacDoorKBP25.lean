/- Line of package patch: the line of a deed. Of the program's text. -/
/- write of package patch: the line of a deed that has one. Of the program's text. -/
import Derived.Test.YtkoohfkomlmhoacDoorProg
import Derived.Deep.RegionHeld3
import Derived.Laws.Entries
import Derived.Test.YtkoohfkomlmhoacDoorKBP24
import Derived.Test.YtkoohfkomlmhoacDoorKBP08
import Derived.Test.YtkoohfkomlmhoacDoorKBP16
import Derived.Test.YtkoohfkomlmhoacDoorKBP15
namespace Go.Proofs.YtkoohfkomlmhoacDoor.Pat
open Go.Deep Go.RowKit Deed
set_option linter.unusedVariables false
set_option maxRecDepth 20000

set_option maxHeartbeats 1000000 in
theorem tooGreat1_any (x : Int) (w : World) : Calls Tryd.prog 36 #[.int .i64 x] w fun e w' => e = .returned (.bool (decide (999 < x))) ∧ ∃ q, w' = w.drewN q := by
  go_enter Tryd.func36, Tryd.ntmps36
  go_wp2_with fail
  go_ret
  exact ⟨rfl, 0, rfl⟩
set_option maxHeartbeats 1000000 in
theorem tooGreat_any (la : Option Addr) (lc : Nat) (L : List Int) (w : World) (hL : PIn w la L) (hl : L.length ≤ maxLen) :
    Calls Tryd.prog 21 #[.slice la L.length lc] w fun e w' => e = .returned (.bool (L.any fun p => decide (999 < p))) ∧ Below w.heap.size w w' := by
  unfold maxLen at hl
  have key : Calls Tryd.prog 35 #[.slice la L.length lc, .func (.func 36) #[] #[]] w fun e w' => e = .returned (.bool (L.any fun p => decide (999 < p))) ∧ Below w.heap.size w w' := by
    rcases hL with h0 | ⟨b, o, rfl, hc⟩
    · subst h0
      refine (Tryd.slices_ContainsFunc_empty (α := Int) la lc _ w).mono ?_
      rintro e w' ⟨rfl, rfl⟩
      exact ⟨rfl, Below.refl _ _⟩
    · refine (Tryd.slices_ContainsFunc (α := Int) (fun z => Value.int .i64 z) (fun p => decide (999 < p)) 36 #[] (enters_of Tryd.func36 (by kernel_rfl) rfl) b o L.length lc L w (fun W x _ => tooGreat1_any x W) (Nat.le_refl _) (by omega) (fun j hj => hc j _ (by simp [hj]))).mono ?_
      rintro e w' ⟨rfl, q, rfl⟩
      exact ⟨by rw [List.take_length], below_drewN (Below.refl _ _) _⟩
  have HK := hide key
  clear key
  go_enter Tryd.func21, Tryd.ntmps21
  go_wp2_with fail
  refine Calls.mono HK.out ?_
  rintro e w1 ⟨rfl, hb1⟩
  have HB := hide hb1
  clear hb1
  go_wp2_with fail
  go_ret
  exact ⟨rfl, HB.out⟩
/-- Words in a row, with one blank between. -/
theorem joined_any (g : Nat) (xs : List ByteArray) (w : World) (hc : ∀ (j : Nat) x, xs[j]? = some x → w.cell? ⟨g, j, none⟩ = some (.string x)) (hg : g < w.heap.size) (hn : xs.length ≤ 100) (hl : (joinP 32 (xs.map (·.data.toList))).length ≤ 140737488355328) :
    Calls Tryd.prog 37 #[.slice (some ⟨g, 0, none⟩) xs.length xs.length] w fun e w' => e = .returned (.string (str (joinP 32 (xs.map (·.data.toList))))) ∧ Below w.heap.size w w' := by
  have HJ := hide ((Tryd.strings_Join g 0 xs.length xs ⟨#[32]⟩ w (fun j x h => by rw [Nat.zero_add]; exact hc j x h) hg (by omega) (Nat.le_refl _) (by rw [show (⟨#[32]⟩ : ByteArray).data.toList = [32] from rfl, join_is]; exact hl)).mono fun e w' (h : e = .returned (.string (str (Lib.join (xs.map (·.data.toList)) [32]))) ∧ Below w.heap.size w w') => (⟨by rw [h.1, join_is], h.2⟩ : e = .returned (.string (str (joinP 32 (xs.map (·.data.toList))))) ∧ Below w.heap.size w w'))
  obtain ⟨T, hT⟩ : ∃ T, T = joinP 32 (xs.map (·.data.toList)) := ⟨_, rfl⟩
  rw [← hT] at HJ ⊢
  clear hT hl hc
  go_enter Tryd.func37, Tryd.ntmps37
  go_wp2_with fail
  refine Calls.mono HJ.out ?_
  rintro e w1 ⟨rfl, hb1⟩
  have HB := hide hb1
  clear hb1
  go_wp2_with fail
  go_ret
  exact ⟨rfl, HB.out⟩
theorem str_news_at {w : World} {T : TypeId} {cs : Array Value} {j : Nat} {v : Value} (h : cs[j]? = some v) : (w.alloc (Obj.cells cs T)).cell? ⟨w.heap.size, j, none⟩ = some v := by
  rw [cell_of_row _ _ j _ _ _ (heap_alloc_new w _)]
  exact h
end Go.Proofs.YtkoohfkomlmhoacDoor.Pat
namespace Go.Proofs.YtkoohfkomlmhoacDoor.Pat
open Go.Deep Go.RowKit Deed
set_option linter.unusedVariables false
set_option maxRecDepth 20000

theorem words3_at {a b c : ByteArray} (w : World) (T : TypeId) : ∀ (j : Nat) x, [a, b, c][j]? = some x → (w.alloc (Obj.cells #[.string a, .string b, .string c] T)).cell? ⟨w.heap.size, j, none⟩ = some (.string x) := fun j x h => by
  refine str_news_at ?_
  match j, h with
  | 0, h => simp at h; subst h; rfl
  | 1, h => simp at h; subst h; rfl
  | 2, h => simp at h; subst h; rfl
theorem words2_at {a b : ByteArray} (w : World) (T : TypeId) : ∀ (j : Nat) x, [a, b][j]? = some x → (w.alloc (Obj.cells #[.string a, .string b] T)).cell? ⟨w.heap.size, j, none⟩ = some (.string x) := fun j x h => by
  refine str_news_at ?_
  match j, h with
  | 0, h => simp at h; subst h; rfl
  | 1, h => simp at h; subst h; rfl
theorem words5_at {a b c d f : ByteArray} (w : World) (T : TypeId) : ∀ (j : Nat) x, [a, b, c, d, f][j]? = some x → (w.alloc (Obj.cells #[.string a, .string b, .string c, .string d, .string f] T)).cell? ⟨w.heap.size, j, none⟩ = some (.string x) := fun j x h => by
  refine str_news_at ?_
  match j, h with
  | 0, h => simp at h; subst h; rfl
  | 1, h => simp at h; subst h; rfl
  | 2, h => simp at h; subst h; rfl
  | 3, h => simp at h; subst h; rfl
  | 4, h => simp at h; subst h; rfl

set_option maxHeartbeats 4000000 in
theorem write_any (d : Dd) (pa : Option Addr) (pc : Nat) (w : World) (hd : DIn w d pa pc) (ht : Tab w) (hp : d.path.length ≤ 10000) (hlab : d.lab.size ≤ 100000) (hin : ∀ n, n ∈ d.path → In64 n) (hpi : In64 d.pos) (hmi : In64 d.many) :
    Calls Tryd.prog 22 #[ddV d pa pc] w fun e w' => e = .returned (.string (str (joinP 32 (wordsP d)))) ∧ Below w.heap.size w w' := by
  unfold ddV
  obtain ⟨W, hW⟩ : ∃ W, W = w.alloc (Obj.cells #[.int .i64 d.kind, .slice pa d.path.length pc, .int .i64 d.pos, .int .i64 d.many, .string d.lab] 35) := ⟨_, rfl⟩
  have hB : Below w.heap.size w W := by rw [hW]; exact (Below.refl _ _).alloc (Nat.le_refl _) _
  have hbox : W.heap[w.heap.size]? = some (Obj.cells #[.int .i64 d.kind, .slice pa d.path.length pc, .int .i64 d.pos, .int .i64 d.many, .string d.lab] 35) := by rw [hW]; exact heap_alloc_new _ _
  have k0 : W.cell? ⟨w.heap.size, 0, none⟩ = some (.int .i64 d.kind) := by rw [cell_of_row _ _ 0 _ _ _ hbox]; rfl
  have k1 : W.cell? ⟨w.heap.size, 1, none⟩ = some (.slice pa d.path.length pc) := by rw [cell_of_row _ _ 1 _ _ _ hbox]; rfl
  have k2 : W.cell? ⟨w.heap.size, 2, none⟩ = some (.int .i64 d.pos) := by rw [cell_of_row _ _ 2 _ _ _ hbox]; rfl
  have k3 : W.cell? ⟨w.heap.size, 3, none⟩ = some (.int .i64 d.many) := by rw [cell_of_row _ _ 3 _ _ _ hbox]; rfl
  have k4 : W.cell? ⟨w.heap.size, 4, none⟩ = some (.string d.lab) := by rw [cell_of_row _ _ 4 _ _ _ hbox]; rfl
  have hS0 : BoxD w.heap.size d pa pc W W := ⟨Below.refl _ _, k1, k2, k3, k4⟩
  have HS0 := hide hS0
  have HBB := hide hB
  have hT : Tab W := ht.below hB
  have hDp : PIn W pa d.path := hd.path.below hB
  have KP := hide (fun (W' : World) (h : BoxD w.heap.size d pa pc W W') => (ppath_any pa pc d.path W' (hDp.below h.1) hp hin (hT.below h.1)).mono fun e w2 (h2 : _ ∧ Below W'.heap.size W' w2) => (⟨h2.1, h.on h2.2⟩ : e = .returned (.string (str (pathTxt d.path))) ∧ BoxD w.heap.size d pa pc W w2))
  have KA := hide (fun (W' : World) (h : BoxD w.heap.size d pa pc W W') => (itoa_any d.pos hpi W' (hT.below h.1)).mono fun e w2 (h2 : _ ∧ Below W'.heap.size W' w2) => (⟨h2.1, h.on h2.2⟩ : e = .returned (.string (str (Lib.itoa d.pos))) ∧ BoxD w.heap.size d pa pc W w2))
  have KM := hide (fun (W' : World) (h : BoxD w.heap.size d pa pc W W') => (itoa_any d.many hmi W' (hT.below h.1)).mono fun e w2 (h2 : _ ∧ Below W'.heap.size W' w2) => (⟨h2.1, h.on h2.2⟩ : e = .returned (.string (str (Lib.itoa d.many))) ∧ BoxD w.heap.size d pa pc W w2))
  have hpl := path_len hin
  have hil := Lib.itoa_length_le d.pos hpi.1 hpi.2
  have hml := Lib.itoa_length_le d.many hmi.1 hmi.2
  have hls : d.lab.data.size = d.lab.size := rfl
  clear hbox hS0 hB hd ht hin hT hDp
  by_cases hk1 : d.kind = 1
  · have hkb : (d.kind == 1) = true := beq_iff_eq.2 hk1
    have HW := hide (show wordsP d = ([⟨#[110, 97, 109, 101]⟩, str (pathTxt d.path), d.lab] : List ByteArray).map (·.data.toList) by unfold wordsP; rw [if_pos hk1]; rfl)
    have hll : (joinP 32 (wordsP d)).length ≤ 140737488355328 := by
      unfold wordsP
      rw [if_pos hk1]
      simp only [joinP, nameW, List.length_append, List.length_cons, List.length_nil, Array.length_toList]
      omega
    have KJ := hide (fun (W' : World) (h : BoxD w.heap.size d pa pc W W') => by
      have b1 : Below W'.heap.size W' (W'.alloc (Obj.cells #[.string ⟨#[110, 97, 109, 101]⟩, .string (str (pathTxt d.path)), .string d.lab] 9)) := (Below.refl _ _).alloc (Nat.le_refl _) _
      have hj := joined_any W'.heap.size [⟨#[110, 97, 109, 101]⟩, str (pathTxt d.path), d.lab] (W'.alloc (Obj.cells #[.string ⟨#[110, 97, 109, 101]⟩, .string (str (pathTxt d.path)), .string d.lab] 9)) (words3_at W' _) (by simp) (by simp) (by rw [← HW.out]; exact hll)
      rw [← HW.out] at hj
      exact (show Calls Tryd.prog 37 #[.slice (some ⟨W'.heap.size, 0, none⟩) 3 3] _ _ from hj).mono fun e w2 (h2 : _ ∧ Below _ _ w2) => (⟨h2.1, (h.on b1).on h2.2⟩ : e = .returned (.string (str (joinP 32 (wordsP d)))) ∧ BoxD w.heap.size d pa pc W w2))
    clear hk1 hpl hil hml hp hlab hll
    go_enter Tryd.func22, Tryd.ntmps22
    go_wp2_with fail
    rw [← hW]
    clear hW
    go_wp2_with fail
    go_region_held3 (fun w' => Below W.heap.size W w' ∧ w'.cell? ⟨w.heap.size, 1, none⟩ = some (.slice pa d.path.length pc) ∧ w'.cell? ⟨w.heap.size, 2, none⟩ = some (.int .i64 d.pos) ∧ w'.cell? ⟨w.heap.size, 3, none⟩ = some (.int .i64 d.many) ∧ w'.cell? ⟨w.heap.size, 4, none⟩ = some (.string d.lab))
      (first | assumption | exact BoxD.on HS0.out (Below.refl _ _).drew | (refine BoxD.on ?_ ((Below.refl _ _).alloc (Nat.le_refl _) _); assumption))
      (first
        | (go_at_call 38; refine (KP.out _ (by assumption)).mono ?_; rintro e w2 ⟨rfl, hS2⟩)
        | (go_at_call 37; refine (KJ.out _ (by assumption)).mono ?_; rintro e w3 ⟨rfl, hS3⟩))
    go_wp2_with fail
    go_ret
    exact ⟨rfl, HBB.out.trans (hS3.1.mono HBB.out.size)⟩
  by_cases hk2 : d.kind = 2
  · have hkb : (d.kind == 1) = false := beq_eq_false_iff_ne.2 hk1
    have hkc : (d.kind == 2) = true := beq_iff_eq.2 hk2
    have HW := hide (show wordsP d = ([⟨#[100, 101, 108, 101, 116, 101]⟩, str (pathTxt d.path)] : List ByteArray).map (·.data.toList) by unfold wordsP; rw [if_neg hk1, if_pos hk2]; rfl)
    have hll : (joinP 32 (wordsP d)).length ≤ 140737488355328 := by
      unfold wordsP
      rw [if_neg hk1, if_pos hk2]
      simp only [joinP, delW, List.length_append, List.length_cons, List.length_nil]
      omega
    have KJ := hide (fun (W' : World) (h : BoxD w.heap.size d pa pc W W') => by
      have b1 : Below W'.heap.size W' (W'.alloc (Obj.cells #[.string ⟨#[100, 101, 108, 101, 116, 101]⟩, .string (str (pathTxt d.path))] 9)) := (Below.refl _ _).alloc (Nat.le_refl _) _
      have hj := joined_any W'.heap.size [⟨#[100, 101, 108, 101, 116, 101]⟩, str (pathTxt d.path)] (W'.alloc (Obj.cells #[.string ⟨#[100, 101, 108, 101, 116, 101]⟩, .string (str (pathTxt d.path))] 9)) (words2_at W' _) (by simp) (by simp) (by rw [← HW.out]; exact hll)
      rw [← HW.out] at hj
      exact (show Calls Tryd.prog 37 #[.slice (some ⟨W'.heap.size, 0, none⟩) 2 2] _ _ from hj).mono fun e w2 (h2 : _ ∧ Below _ _ w2) => (⟨h2.1, (h.on b1).on h2.2⟩ : e = .returned (.string (str (joinP 32 (wordsP d)))) ∧ BoxD w.heap.size d pa pc W w2))
    clear hk1 hk2 hpl hil hml hp hlab hll
    go_enter Tryd.func22, Tryd.ntmps22
    go_wp2_with fail
    rw [← hW]
    clear hW
    go_wp2_with fail
    refine (KP.out _ HS0.out).mono ?_
    rintro e w2 ⟨rfl, hS2⟩
    go_wp2_with fail
    refine (KJ.out w2 hS2).mono ?_
    rintro e w3 ⟨rfl, hS3⟩
    have HS3 := hide hS3
    clear hS3
    go_wp2_with fail
    go_ret
    exact ⟨rfl, HBB.out.trans (HS3.out.1.mono HBB.out.size)⟩
  · have hkb : (d.kind == 1) = false := beq_eq_false_iff_ne.2 hk1
    have hkc : (d.kind == 2) = false := beq_eq_false_iff_ne.2 hk2
    have HW := hide (show wordsP d = ([⟨#[105, 110, 115, 101, 114, 116]⟩, str (pathTxt d.path), str (Lib.itoa d.pos), str (Lib.itoa d.many), d.lab] : List ByteArray).map (·.data.toList) by unfold wordsP; rw [if_neg hk1, if_neg hk2]; rfl)
    have hll : (joinP 32 (wordsP d)).length ≤ 140737488355328 := by
      unfold wordsP
      rw [if_neg hk1, if_neg hk2]
      simp only [joinP, insW, List.length_append, List.length_cons, List.length_nil, Array.length_toList]
      omega
    have KJ := hide (fun (W' : World) (h : BoxD w.heap.size d pa pc W W') => by
      have b1 : Below W'.heap.size W' (W'.alloc (Obj.cells #[.string ⟨#[105, 110, 115, 101, 114, 116]⟩, .string (str (pathTxt d.path)), .string (str (Lib.itoa d.pos)), .string (str (Lib.itoa d.many)), .string d.lab] 9)) := (Below.refl _ _).alloc (Nat.le_refl _) _
      have hj := joined_any W'.heap.size [⟨#[105, 110, 115, 101, 114, 116]⟩, str (pathTxt d.path), str (Lib.itoa d.pos), str (Lib.itoa d.many), d.lab] (W'.alloc (Obj.cells #[.string ⟨#[105, 110, 115, 101, 114, 116]⟩, .string (str (pathTxt d.path)), .string (str (Lib.itoa d.pos)), .string (str (Lib.itoa d.many)), .string d.lab] 9)) (words5_at W' _) (by simp) (by simp) (by rw [← HW.out]; exact hll)
      rw [← HW.out] at hj
      exact (show Calls Tryd.prog 37 #[.slice (some ⟨W'.heap.size, 0, none⟩) 5 5] _ _ from hj).mono fun e w2 (h2 : _ ∧ Below _ _ w2) => (⟨h2.1, (h.on b1).on h2.2⟩ : e = .returned (.string (str (joinP 32 (wordsP d)))) ∧ BoxD w.heap.size d pa pc W w2))
    clear hk1 hk2 hpl hil hml hp hlab hll
    go_enter Tryd.func22, Tryd.ntmps22
    go_wp2_with fail
    rw [← hW]
    clear hW
    go_wp2_with fail
    go_region_held3 (fun w' => Below W.heap.size W w' ∧ w'.cell? ⟨w.heap.size, 1, none⟩ = some (.slice pa d.path.length pc) ∧ w'.cell? ⟨w.heap.size, 2, none⟩ = some (.int .i64 d.pos) ∧ w'.cell? ⟨w.heap.size, 3, none⟩ = some (.int .i64 d.many) ∧ w'.cell? ⟨w.heap.size, 4, none⟩ = some (.string d.lab))
      (first | assumption | exact BoxD.on HS0.out (Below.refl _ _).drew | (refine BoxD.on ?_ ((Below.refl _ _).alloc (Nat.le_refl _) _); assumption))
      (first
        | (go_at_call 38; refine (KP.out _ (by assumption)).mono ?_; rintro e w2 ⟨rfl, hS2⟩)
        | (go_at_call_of 39 d.pos; refine (KA.out _ (by assumption)).mono ?_; rintro e w4 ⟨rfl, hS4⟩)
        | (go_at_call_of 39 d.many; refine (KM.out _ (by assumption)).mono ?_; rintro e w5 ⟨rfl, hS5⟩)
        | (go_at_call 37; refine (KJ.out _ (by assumption)).mono ?_; rintro e w3 ⟨rfl, hS3⟩))
    go_wp2_with fail
    go_ret
    exact ⟨rfl, HBB.out.trans (hS3.1.mono HBB.out.size)⟩
end Go.Proofs.YtkoohfkomlmhoacDoor.Pat
