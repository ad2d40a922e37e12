/- patchBegun of the statements: what it tells of two deeds. Of the program's text. -/
/- done of package pleachingref does a deed at what is left of its path. Of the program's text. -/
import Derived.Test.YtkoohfkomlmhoacDoorProg
import Derived.Test.YtkoohfkomlmhoacDoorKBP23
import Derived.Test.YtkoohfkomlmhoacDoorKBP26
import Derived.Deep.RegionHeld3
import Derived.Test.YtkoohfkomlmhoacDoorKBP21
import Derived.Test.YtkoohfkomlmhoacDoorKBP13
namespace Go.Proofs.YtkoohfkomlmhoacDoor.Pat
open Go.Deep Go.RowKit Deed
set_option linter.unusedVariables false
set_option maxRecDepth 20000

def bg1 : Dd := ⟨1, [], 0, 0, ⟨#[97]⟩⟩
def bg2 : Dd := ⟨3, [0, 2], 1, 3, ⟨#[98]⟩⟩
def bgT : List UInt8 := [110, 97, 109, 101, 32, 45, 32, 97, 10, 105, 110, 115, 101, 114, 116, 32, 48, 46, 50, 32, 49, 32, 51, 32, 98, 10]
theorem itoa_one {n : Nat} (h : n < 10) : Lib.itoa (n : Int) = [UInt8.ofNat (48 + n)] := by rw [Lib.itoa_nonneg, Lib.decDigits_one h]
theorem bg_line1 : lineC bg1 = 0 ∧ lineP bg1 = [110, 97, 109, 101, 32, 45, 32, 97] := by
  have h0 : deedFault bg1 = 0 := by decide +kernel
  have h1 : above bg1 = false := by decide +kernel
  obtain ⟨h2, h3⟩ := lineC_good h0 h1
  exact ⟨h2, by rw [h3]; rfl⟩
theorem bg_line2 : lineC bg2 = 0 ∧ lineP bg2 = [105, 110, 115, 101, 114, 116, 32, 48, 46, 50, 32, 49, 32, 51, 32, 98] := by
  have h0 : deedFault bg2 = 0 := by decide +kernel
  have h1 : above bg2 = false := by decide +kernel
  obtain ⟨h2, h3⟩ := lineC_good h0 h1
  refine ⟨h2, ?_⟩
  have e0 : Lib.itoa (0 : Int) = [48] := itoa_one (n := 0) (by omega)
  have e1 : Lib.itoa (1 : Int) = [49] := itoa_one (n := 1) (by omega)
  have e2 : Lib.itoa (2 : Int) = [50] := itoa_one (n := 2) (by omega)
  have e3 : Lib.itoa (3 : Int) = [51] := itoa_one (n := 3) (by omega)
  have hp : pathTxt [0, 2] = [48, 46, 50] := by
    unfold pathTxt
    rw [if_neg (by simp), List.map_cons, List.map_cons, List.map_nil, e0, e2]
    rfl
  rw [h3]
  show joinP 32 (wordsP ⟨3, [0, 2], 1, 3, ⟨#[98]⟩⟩) = _
  unfold wordsP
  rw [if_neg (by show ¬ ((3 : Int) = 1); decide), if_neg (by show ¬ ((3 : Int) = 2); decide)]
  simp only [hp, e1, e3]
  rfl
theorem bg_print : printP [bg1, bg2] = (bgT, 0, 0) := by
  rw [printP_all (by simp) (fun x hx => by
    simp only [List.mem_cons, List.not_mem_nil, or_false] at hx
    rcases hx with rfl | rfl
    · exact bg_line1.1
    · exact bg_line2.1)]
  simp only [textL, List.flatMap_cons, List.flatMap_nil, bg_line1.2, bg_line2.2]
  rfl
theorem bg_parse : parseP bgT = ([bg1, bg2], 0, 0) := by
  have := parse_print (L := [bg1, bg2]) (by rw [bg_print])
  rwa [bg_print] at this

set_option maxHeartbeats 4000000 in
theorem pbegun_any (w : World) (ht : Tab w) : Calls Tryd.prog 5 #[] w fun e w' => e = .returned (.bool true) ∧ Below w.heap.size w w' := by
  obtain ⟨W, hW⟩ : ∃ W, W = (w.alloc (Obj.cells #[.int .i64 0, .int .i64 2] 3)).alloc (Obj.cells #[.int .i64 1, .slice none 0 0, .int .i64 0, .int .i64 0, .string ⟨#[97]⟩, .int .i64 3, .slice (some ⟨w.heap.size, 0, none⟩) 2 2, .int .i64 1, .int .i64 3, .string ⟨#[98]⟩] 35) := ⟨_, rfl⟩
  have hWB : Below w.heap.size w W := by rw [hW]; exact ((Below.refl _ _).alloc (Nat.le_refl _) _).alloc (by simp) _
  have hL : DsIn W (some ⟨w.heap.size + 1, 0, none⟩) [(bg1, none, 0), (bg2, some ⟨w.heap.size, 0, none⟩, 2)] := by
    have hb1 : W.heap[w.heap.size + 1]? = some (Obj.cells #[.int .i64 1, .slice none 0 0, .int .i64 0, .int .i64 0, .string ⟨#[97]⟩, .int .i64 3, .slice (some ⟨w.heap.size, 0, none⟩) 2 2, .int .i64 1, .int .i64 3, .string ⟨#[98]⟩] 35) := by
      rw [hW]
      have := heap_alloc_new (w.alloc (Obj.cells #[.int .i64 0, .int .i64 2] 3)) (Obj.cells #[.int .i64 1, .slice none 0 0, .int .i64 0, .int .i64 0, .string ⟨#[97]⟩, .int .i64 3, .slice (some ⟨w.heap.size, 0, none⟩) 2 2, .int .i64 1, .int .i64 3, .string ⟨#[98]⟩] 35)
      simpa using this
    have hb0 : W.heap[w.heap.size]? = some (Obj.cells #[.int .i64 0, .int .i64 2] 3) := by
      rw [hW, Below.heap_alloc _ _ _ (by simp)]
      exact heap_alloc_new _ _
    refine ⟨Or.inr ⟨w.heap.size + 1, 0, rfl, fun j u hu => ?_⟩, fun x hx => ?_⟩
    · rw [Nat.zero_add, cell_of_row _ _ j _ _ _ hb1]
      rw [← hu, ← Array.getElem?_toList]
      rfl
    · simp only [List.mem_cons, List.not_mem_nil, or_false] at hx
      rcases hx with rfl | rfl
      · exact ⟨Or.inl rfl, Nat.le_refl _, by unfold maxLen; exact Nat.zero_le _, by unfold maxLen; decide⟩
      · refine ⟨Or.inr ⟨w.heap.size, 0, rfl, fun i p hp => ?_⟩, Nat.le_refl _, by unfold maxLen; simp, by unfold maxLen; show (⟨#[98]⟩ : ByteArray).size ≤ 2 ^ 63 - 1; decide⟩
        rw [Nat.zero_add, cell_of_row _ _ i _ _ _ hb0]
        have hp' : ([0, 2] : List Int)[i]? = some p := hp
        match i, hp' with
        | 0, hp' => cases hp'; rfl
        | 1, hp' => cases hp'; rfl
        | n + 2, hp' => simp at hp'
  have HPR := hide (pprint_any (some ⟨w.heap.size + 1, 0, none⟩) 2 [(bg1, none, 0), (bg2, some ⟨w.heap.size, 0, none⟩, 2)] W hL (by simp) (by unfold maxLen; simp) (ht.below hWB) (fun x hx => by
    simp only [List.mem_cons, List.not_mem_nil, or_false] at hx
    rcases hx with rfl | rfl
    · exact ⟨by show 0 ≤ 10000; omega, by show (⟨#[97]⟩ : ByteArray).size ≤ 100000; decide⟩
    · exact ⟨by show 2 ≤ 10000; omega, by show (⟨#[98]⟩ : ByteArray).size ≤ 100000; decide⟩))
  have hdd : dds [(bg1, none, 0), (bg2, some ⟨w.heap.size, 0, none⟩, 2)] = [bg1, bg2] := rfl
  rw [hdd, bg_print] at HPR
  have HWB := hide hWB
  have HTB := hide (ht.below hWB)
  clear hWB hL hdd ht
  go_enter Tryd.func5, Tryd.ntmps5
  go_wp2_with fail
  rw [← hW]
  clear hW
  refine Calls.mono HPR.out ?_
  rintro e w1 ⟨rfl, hb1⟩
  have HPA := hide (fun W' (h : Tab W') => pparse_any (str bgT) W' (by decide) h)
  rw [show (str bgT).data.toList = bgT by simp] at HPA
  obtain ⟨W2, hW2⟩ : ∃ W2, W2 = w1.alloc (Obj.cells #[.int .i64 0, .int .i64 0] 26) := ⟨_, rfl⟩
  have b2 : Below w1.heap.size w1 W2 := by rw [hW2]; exact (Below.refl _ _).alloc (Nat.le_refl _) _
  have hbox2 : W2.heap[w1.heap.size]? = some (Obj.cells #[.int .i64 0, .int .i64 0] 26) := by rw [hW2]; exact heap_alloc_new _ _
  have f0 : W2.cell? ⟨w1.heap.size, 0, none⟩ = some (.int .i64 0) := by rw [cell_of_row _ _ 0 _ _ _ hbox2]; rfl
  have hl2 : w1.heap.size < W2.heap.size := by rw [hW2]; simp
  have HB2 := hide ((HWB.out.trans (hb1.mono HWB.out.size)).trans (b2.mono (HWB.out.trans (hb1.mono HWB.out.size)).size))
  have HT2 := hide ((HTB.out.below hb1).below b2)
  clear hbox2 b2 hb1
  go_wp2_with fail
  rw [← hW2]
  clear hW2
  refine Calls.mono (HPA.out W2 HT2.out) ?_
  rintro e w3 ⟨va, vc, A, rfl, hA, hds, hlc, hlm, hb3⟩
  rw [bg_parse] at hA ⊢
  have hA2 : A.length = 2 := by rw [← dds_len, hA]; rfl
  obtain ⟨x, hx⟩ : ∃ x, A[1]? = some x := ⟨_, List.getElem?_eq_getElem (by omega)⟩
  have hx2 : x.1 = bg2 := by
    have h := dds_at hx
    rw [hA] at h
    have h' : some bg2 = some x.1 := h
    exact (Option.some.inj h').symm
  obtain ⟨b, o, rfl, x0, x1, x2, x3, x4, hxd⟩ := hds.at hx
  have k3 : w3.cell? ⟨b, o + 5 + 3, none⟩ = some (.int .i64 3) := by
    rw [hx2] at x3
    have h' : w3.cell? ⟨b, o + 1 * 5 + 3, none⟩ = some (.int .i64 3) := x3
    rw [show o + 5 + 3 = o + 1 * 5 + 3 by omega]
    exact h'
  have g0 : w3.cell? ⟨w1.heap.size, 0, none⟩ = some (.int .i64 0) := by rw [hb3.cell hl2]; exact f0
  have HB3 := hide (HB2.out.trans (hb3.mono HB2.out.size))
  rw [hA2]
  clear x0 x1 x2 x3 x4 hxd hx hx2 hds hA hlc hlm hA2 f0
  obtain ⟨W4, hW4⟩ : ∃ W4, W4 = w3.alloc (Obj.cells #[.int .i64 0, .int .i64 0] 26) := ⟨_, rfl⟩
  have b4 : Below w3.heap.size w3 W4 := by rw [hW4]; exact (Below.refl _ _).alloc (Nat.le_refl _) _
  have hbox4 : W4.heap[w3.heap.size]? = some (Obj.cells #[.int .i64 0, .int .i64 0] 26) := by rw [hW4]; exact heap_alloc_new _ _
  have p0 : W4.cell? ⟨w3.heap.size, 0, none⟩ = some (.int .i64 0) := by rw [cell_of_row _ _ 0 _ _ _ hbox4]; rfl
  have p1 : W4.cell? ⟨w1.heap.size, 0, none⟩ = some (.int .i64 0) := by rw [b4.cell (World.block_lt_of_cell? _ _ g0)]; exact g0
  have p3 : W4.cell? ⟨b, o + 5 + 3, none⟩ = some (.int .i64 3) := by rw [b4.cell (World.block_lt_of_cell? _ _ k3)]; exact k3
  have HB4 := hide (HB3.out.trans (b4.mono HB3.out.size))
  have hbb : (bgT == [110, 97, 109, 101, 32, 45, 32, 97, 10, 105, 110, 115, 101, 114, 116, 32, 48, 46, 50, 32, 49, 32, 51, 32, 98, 10]) = true := by decide
  rw [hW4] at p0 p1 p3
  have HW4 := hide hW4
  clear hbox4 b4 k3 g0 hW4
  go_wp2_with fail
  rw [← HW4.out]
  go_ret
  exact ⟨rfl, HB4.out⟩
end Go.Proofs.YtkoohfkomlmhoacDoor.Pat
namespace Go.Proofs.YtkoohfkomlmhoacDoor.Deed
open Go.Deep Go.RowKit
set_option linter.unusedVariables false
set_option maxRecDepth 20000

/-- What done comes to: a code, and where it is 0 the tree, in new memory. -/
def DoneEnd (r : Int × ByteArray × Fo) (w : World) (e : Ending) (w' : World) : Prop := ∃ s' ka' cap' k', e = .returned (.tuple #[.agg #[.string s', .slice ka' (flen k') cap'], .int .i64 r.1]) ∧ (r.1 = 0 → s' = r.2.1 ∧ strip k' = r.2.2 ∧ TIn w' s' ka' cap' k' ∧ FFrom w.heap.size k' ∧ FPlain w' k') ∧ Below w.heap.size w w'

theorem TIn.set {w : World} {g o : Nat} {v : Value} {s : ByteArray} {ka : Option Addr} {cap : Nat} {k : Fo} (h : TIn w s ka cap k) (ho : FOff g k) : TIn (w.setCell ⟨g, o, none⟩ v) s ka cap k :=
  TIn.but (g := g) (fun b _ hb => Below.heap_setCell _ _ _ _ hb) ho h
theorem FPlain.set {w : World} {g o : Nat} {v : Value} {k : Fo} (h : FPlain w k) (ho : FOff g k) : FPlain (w.setCell ⟨g, o, none⟩ v) k :=
  FPlain.but (g := g) (fun b _ hb => Below.heap_setCell _ _ _ _ hb) ho h

end Go.Proofs.YtkoohfkomlmhoacDoor.Deed
