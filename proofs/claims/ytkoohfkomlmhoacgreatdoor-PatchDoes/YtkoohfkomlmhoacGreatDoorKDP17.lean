/- The line of a deed by cases; what is kept of a deed's box. -/
/- LineOf of package pleachingref: the line of a deed. Of the program's text. -/
import Derived.Test.YtkoohfkomlmhoacGreatDoorProg
import Derived.Test.YtkoohfkomlmhoacGreatDoorKDP08
import Derived.Test.YtkoohfkomlmhoacGreatDoorKDP13
import Derived.Deep.RegionHeld3
namespace Go.Proofs.YtkoohfkomlmhoacGreatDoor.Pat
open Go.Deep Go.RowKit Deed
set_option linter.unusedVariables false
set_option maxRecDepth 20000

theorem lineC_fault {d : Dd} (h : deedFault d ≠ 0) : lineC d = deedFault d ∧ lineP d = [] := by
  have h1 : lineC d = deedFault d := by unfold lineC; rw [if_pos h]
  exact ⟨h1, by unfold lineP; rw [h1, if_neg h]⟩
theorem lineC_above {d : Dd} (h : deedFault d = 0) (h2 : above d = true) : lineC d = 9 ∧ lineP d = [] := by
  have h1 : lineC d = 9 := by unfold lineC; rw [if_neg (by rw [h]; simp), if_pos h2]
  exact ⟨h1, by unfold lineP; rw [h1, if_neg (by decide)]⟩
theorem lineC_good {d : Dd} (h : deedFault d = 0) (h2 : above d = false) : lineC d = 0 ∧ lineP d = joinP 32 (wordsP d) := by
  have h1 : lineC d = 0 := by unfold lineC; rw [if_neg (by rw [h]; simp), if_neg (by rw [h2]; simp)]
  exact ⟨h1, by unfold lineP; rw [h1, if_pos rfl]⟩
/-- What is kept of a deed's box. -/
abbrev BoxD (b : Nat) (d : Dd) (pa : Option Addr) (pc : Nat) (W w' : World) : Prop :=
  Below W.heap.size W w' ∧ w'.cell? ⟨b, 1, none⟩ = some (.slice pa d.path.length pc) ∧ w'.cell? ⟨b, 2, none⟩ = some (.int .i64 d.pos) ∧ w'.cell? ⟨b, 3, none⟩ = some (.int .i64 d.many) ∧ w'.cell? ⟨b, 4, none⟩ = some (.string d.lab)
theorem BoxD.on {b : Nat} {d : Dd} {pa : Option Addr} {pc : Nat} {W w1 w2 : World} (h : BoxD b d pa pc W w1) (hb : Below w1.heap.size w1 w2) : BoxD b d pa pc W w2 := by
  obtain ⟨h1, h2, h3, h4, h5⟩ := h
  have hl := World.block_lt_of_cell? _ _ h2
  exact ⟨h1.trans (hb.mono h1.size), by rw [hb.cell (p := ⟨b, 1, none⟩) hl]; exact h2, by rw [hb.cell (p := ⟨b, 2, none⟩) hl]; exact h3, by rw [hb.cell (p := ⟨b, 3, none⟩) hl]; exact h4, by rw [hb.cell (p := ⟨b, 4, none⟩) hl]; exact h5⟩
theorem path_len {L : List Int} (h : ∀ n, n ∈ L → In64 n) : (pathTxt L).length ≤ L.length * 22 + 1 := by
  unfold pathTxt
  split
  · simp
  · have := dotted_len L h
    unfold dotted at this
    omega
end Go.Proofs.YtkoohfkomlmhoacGreatDoor.Pat
namespace Go.Proofs.YtkoohfkomlmhoacGreatDoor.Pat
open Go.Deep Go.RowKit Deed
set_option linter.unusedVariables false
set_option maxRecDepth 20000

theorem name_str (p : List UInt8) (l : ByteArray) : (⟨#[110, 97, 109, 101, 32]⟩ : ByteArray) ++ str p ++ ⟨#[32]⟩ ++ l = str (nameW ++ 32 :: (p ++ 32 :: l.data.toList)) := by
  apply ByteArray.ext
  apply Array.ext'
  simp [nameW]
theorem del_str (p : List UInt8) : (⟨#[100, 101, 108, 101, 116, 101, 32]⟩ : ByteArray) ++ str p = str (delW ++ 32 :: p) := by
  apply ByteArray.ext
  apply Array.ext'
  simp [delW]
theorem ins_str (p x y : List UInt8) (l : ByteArray) : (⟨#[105, 110, 115, 101, 114, 116, 32]⟩ : ByteArray) ++ str p ++ ⟨#[32]⟩ ++ str x ++ ⟨#[32]⟩ ++ str y ++ ⟨#[32]⟩ ++ l = str (insW ++ 32 :: (p ++ 32 :: (x ++ 32 :: (y ++ 32 :: l.data.toList)))) := by
  apply ByteArray.ext
  apply Array.ext'
  simp [insW]

set_option maxHeartbeats 4000000 in
theorem lineOf_any (d : Dd) (pa : Option Addr) (pc : Nat) (w : World) (hd : DIn w d pa pc) (ht : Tab w) (hp : d.path.length ≤ 10000) (hlab : d.lab.size ≤ 100000) :
    Calls Tryz.prog 21 #[ddV d pa pc] w fun e w' => e = .returned (.tuple #[.string (str (lineP d)), .int .i64 (lineC d)]) ∧ Below w.heap.size w w' := by
  unfold ddV
  obtain ⟨W, hW⟩ : ∃ W, W = w.alloc (Obj.cells #[.int .i64 d.kind, .slice pa d.path.length pc, .int .i64 d.pos, .int .i64 d.many, .string d.lab] 38) := ⟨_, rfl⟩
  have hB : Below w.heap.size w W := by rw [hW]; exact (Below.refl _ _).alloc (Nat.le_refl _) _
  have hWs : W.heap.size = w.heap.size + 1 := by rw [hW]; simp
  have hbox : W.heap[w.heap.size]? = some (Obj.cells #[.int .i64 d.kind, .slice pa d.path.length pc, .int .i64 d.pos, .int .i64 d.many, .string d.lab] 38) := by rw [hW]; exact heap_alloc_new _ _
  have c0 : W.cell? ⟨w.heap.size, 0, none⟩ = some (.int .i64 d.kind) := by rw [cell_of_row _ _ 0 _ _ _ hbox]; rfl
  have c1 : W.cell? ⟨w.heap.size, 1, none⟩ = some (.slice pa d.path.length pc) := by rw [cell_of_row _ _ 1 _ _ _ hbox]; rfl
  have c2 : W.cell? ⟨w.heap.size, 2, none⟩ = some (.int .i64 d.pos) := by rw [cell_of_row _ _ 2 _ _ _ hbox]; rfl
  have c3 : W.cell? ⟨w.heap.size, 3, none⟩ = some (.int .i64 d.many) := by rw [cell_of_row _ _ 3 _ _ _ hbox]; rfl
  have c4 : W.cell? ⟨w.heap.size, 4, none⟩ = some (.string d.lab) := by rw [cell_of_row _ _ 4 _ _ _ hbox]; rfl
  have HDF := hide (refDF_any d pa pc W (hd.below hB))
  unfold ddV at HDF
  have HD := hide hd
  have HTB := hide ht
  have HBB := hide hB
  clear hbox hd ht hB
  go_enter Tryz.func21, Tryz.ntmps21
  go_wp2_with fail
  rw [← hW]
  clear hW
  go_wp2_with fail
  refine Calls.mono HDF.out ?_
  rintro e w1 ⟨rfl, hb1⟩
  have k0 : w1.cell? ⟨w.heap.size, 0, none⟩ = some (.int .i64 d.kind) := by rw [hb1.cell (by simp only; omega)]; exact c0
  have k1 : w1.cell? ⟨w.heap.size, 1, none⟩ = some (.slice pa d.path.length pc) := by rw [hb1.cell (by simp only; omega)]; exact c1
  have k2 : w1.cell? ⟨w.heap.size, 2, none⟩ = some (.int .i64 d.pos) := by rw [hb1.cell (by simp only; omega)]; exact c2
  have k3 : w1.cell? ⟨w.heap.size, 3, none⟩ = some (.int .i64 d.many) := by rw [hb1.cell (by simp only; omega)]; exact c3
  have k4 : w1.cell? ⟨w.heap.size, 4, none⟩ = some (.string d.lab) := by rw [hb1.cell (by simp only; omega)]; exact c4
  have hz1 := hb1.size
  have HB1 := hide (HBB.out.trans (hb1.mono (by omega)))
  clear c0 c1 c2 c3 c4 hb1 HDF HBB
  by_cases hf : deedFault d = 0
  · have hfb : (deedFault d != 0) = false := by rw [hf]; rfl
    have HF := hide hf
    clear hf
    go_wp2_with fail
    go_loopg [5] d.path.length (fun gk v5 wr => ∃ i : Nat, gk = d.path.length - i ∧ i ≤ d.path.length ∧ v5 = .int .i64 (i : Nat) ∧ wr = w1 ∧ Hid ((d.path.take i).any (fun p => decide (999 < p)) = false))
    case atStart => exact ⟨0, rfl, Nat.zero_le _, rfl, rfl, rfl⟩
    case round =>
      obtain ⟨i, hgk, hi, rfl, hwr, hany⟩ := hrel
      subst hwr
      by_cases hlt : i < d.path.length
      · obtain ⟨x, hx⟩ : ∃ x, d.path[i]? = some x := ⟨_, List.getElem?_eq_getElem hlt⟩
        obtain ⟨b, o, hpa, hcell⟩ : ∃ b o, pa = some ⟨b, o, none⟩ ∧ wr.cell? ⟨b, o + i, none⟩ = some (.int .i64 x) := by
          rcases HD.out.path with h0 | ⟨b, o, e, h0⟩
          · rw [h0] at hlt; simp at hlt
          · have x0 := h0 i x hx
            have hbl : b < w.heap.size := World.block_lt_of_cell? _ _ x0
            exact ⟨b, o, e, by rw [HB1.out.cell hbl]; exact x0⟩
        subst hpa
        have htk : d.path.take (i + 1) = d.path.take i ++ [x] := by
          rw [List.take_succ_eq_append_getElem hlt]
          congr 2
          have hx' := hx
          rw [List.getElem?_eq_getElem hlt] at hx'
          exact Option.some.inj hx'
        by_cases h9 : 999 < x
        · have HL := hide (lineC_above HF.out (show above d = true by
            unfold above
            rw [show d.path.any (fun p => decide (999 < p)) = true from List.any_eq_true.2 ⟨x, List.mem_of_getElem? hx, by simpa using h9⟩]
            rfl))
          clear hx htk
          go_wp2_with fail
          refine bodyPost_ret (v := .tuple #[.string ⟨#[]⟩, .int .i64 9]) (by simp [results, Tryz.results21, go_sem]) rfl ⟨by rw [HL.out.1, HL.out.2], HB1.out⟩
        · have HA := hide (show (d.path.take (i + 1)).any (fun p => decide (999 < p)) = false by
            rw [htk, List.any_append, hany.out]
            simp
            omega)
          clear hx htk
          go_wp2_with fail
          go_roundg (d.path.length - (i + 1))
          case measure => omega
          case rel => exact ⟨i + 1, rfl, by omega, by go_num, rfl, HA.out⟩
      · have hall : d.path.any (fun p => decide (999 < p)) = false := by
          have := hany.out
          rwa [List.take_of_length_le (by omega)] at this
        by_cases h8 : 999 < d.pos
        · have HL := hide (lineC_above HF.out (show above d = true by unfold above; rw [decide_eq_true h8]; simp))
          clear hall
          go_wp2_with fail
          refine bodyPost_ret (v := .tuple #[.string ⟨#[]⟩, .int .i64 9]) (by simp [results, Tryz.results21, go_sem]) rfl ⟨by rw [HL.out.1, HL.out.2], HB1.out⟩
        by_cases h7 : 999 < d.many
        · have HL := hide (lineC_above HF.out (show above d = true by unfold above; rw [decide_eq_true h7]; simp))
          clear hall
          go_wp2_with fail
          refine bodyPost_ret (v := .tuple #[.string ⟨#[]⟩, .int .i64 9]) (by simp [results, Tryz.results21, go_sem]) rfl ⟨by rw [HL.out.1, HL.out.2], HB1.out⟩
        have hab : above d = false := by unfold above; rw [hall, decide_eq_false h8, decide_eq_false h7]; rfl
        have HL := hide (lineC_good HF.out hab)
        obtain ⟨p, x, y, e1, e2, e3, e4, e5, e6⟩ := above_not HF.out hab
        have hin : ∀ n, n ∈ d.path → In64 n := fun n hn => by
          rw [e1] at hn
          unfold ints at hn
          obtain ⟨m, hm, rfl⟩ := List.mem_map.1 hn
          have := e2 m hm
          exact ⟨by omega, by omega⟩
        have hpl := path_len hin
        have hS0 : BoxD w.heap.size d pa pc wr wr := ⟨Below.refl _ _, k1, k2, k3, k4⟩
        have HS0 := hide hS0
        have KP := hide (fun (W' : World) (h : BoxD w.heap.size d pa pc wr W') => (pathText_any pa pc d.path W' (HD.out.path.below (HB1.out.trans (h.1.mono HB1.out.size))) hp hin (HTB.out.below (HB1.out.trans (h.1.mono HB1.out.size)))).mono fun e w2 (h2 : _ ∧ Below W'.heap.size W' w2) => (⟨h2.1, h.on h2.2⟩ : e = .returned (.string (str (pathTxt d.path))) ∧ BoxD w.heap.size d pa pc wr w2))
        have hpi : In64 d.pos := by rw [e3]; exact ⟨by omega, by omega⟩
        have hmi : In64 d.many := by rw [e5]; exact ⟨by omega, by omega⟩
        have KA := hide (fun (W' : World) (h : BoxD w.heap.size d pa pc wr W') => (itoa_any d.pos hpi W' (HTB.out.below (HB1.out.trans (h.1.mono HB1.out.size)))).mono fun e w2 (h2 : _ ∧ Below W'.heap.size W' w2) => (⟨h2.1, h.on h2.2⟩ : e = .returned (.string (str (Lib.itoa d.pos))) ∧ BoxD w.heap.size d pa pc wr w2))
        have KM := hide (fun (W' : World) (h : BoxD w.heap.size d pa pc wr W') => (itoa_any d.many hmi W' (HTB.out.below (HB1.out.trans (h.1.mono HB1.out.size)))).mono fun e w2 (h2 : _ ∧ Below W'.heap.size W' w2) => (⟨h2.1, h.on h2.2⟩ : e = .returned (.string (str (Lib.itoa d.many))) ∧ BoxD w.heap.size d pa pc wr w2))
        have hil := Lib.itoa_length_le d.pos hpi.1 hpi.2
        have hml := Lib.itoa_length_le d.many hmi.1 hmi.2
        clear hall hab e1 e2 e3 e4 e5 e6 hin hS0 hpi hmi hany
        by_cases hk1 : d.kind = 1
        · have hkb : (d.kind == 1) = true := beq_iff_eq.2 hk1
          have HW := hide (show joinP 32 (wordsP d) = nameW ++ 32 :: (pathTxt d.path ++ 32 :: d.lab.data.toList) by unfold wordsP; rw [if_pos hk1]; rfl)
          have HQS := hide (show ((9223372036854775807 < 5 + ((pathTxt d.path).length)) = False) ∧ ((9223372036854775807 < 5 + ((pathTxt d.path).length) + 1) = False) ∧ ((9223372036854775807 < 5 + ((pathTxt d.path).length) + 1 + (d.lab.size)) = False) from ⟨eq_false (by omega), eq_false (by omega), eq_false (by omega)⟩)
          clear hk1 hpl hil hml hp hlab
          go_wp2_with fail
          obtain ⟨q1, q2, q3⟩ := HQS.out
          go_region_held3 (fun w' => Below wr.heap.size wr w' ∧ w'.cell? ⟨w.heap.size, 1, none⟩ = some (.slice pa d.path.length pc) ∧ w'.cell? ⟨w.heap.size, 2, none⟩ = some (.int .i64 d.pos) ∧ w'.cell? ⟨w.heap.size, 3, none⟩ = some (.int .i64 d.many) ∧ w'.cell? ⟨w.heap.size, 4, none⟩ = some (.string d.lab))
            (first | assumption | exact BoxD.on HS0.out (Below.refl _ _).drew)
            ((go_at_call 16; refine (KP.out _ (by assumption)).mono ?_; rintro e w2 ⟨rfl, hS2⟩))
          go_wp2_with fail
          refine bodyPost_ret (v := .tuple #[.string (⟨#[110, 97, 109, 101, 32]⟩ ++ str (pathTxt d.path) ++ ⟨#[32]⟩ ++ d.lab), .int .i64 0]) (by simp [results, Tryz.results21, go_sem]) rfl ⟨by rw [HL.out.1, HL.out.2, HW.out, name_str], HB1.out.trans (hS2.1.mono HB1.out.size)⟩
        by_cases hk2 : d.kind = 2
        · have hkb : (d.kind == 1) = false := beq_eq_false_iff_ne.2 hk1
          have hkc : (d.kind == 2) = true := beq_iff_eq.2 hk2
          have HW := hide (show joinP 32 (wordsP d) = delW ++ 32 :: pathTxt d.path by unfold wordsP; rw [if_neg hk1, if_pos hk2]; rfl)
          have q1 : 7 + ((pathTxt d.path).length : Int) ≤ 9223372036854775807 := by omega
          clear hk1 hk2
          go_wp2_with fail
          refine (KP.out _ HS0.out).mono ?_
          rintro e w2 ⟨rfl, hS2⟩
          go_wp2_with fail
          refine bodyPost_ret (v := .tuple #[.string (⟨#[100, 101, 108, 101, 116, 101, 32]⟩ ++ str (pathTxt d.path)), .int .i64 0]) (by simp [results, Tryz.results21, go_sem]) rfl ⟨by rw [HL.out.1, HL.out.2, HW.out, del_str], HB1.out.trans (hS2.1.mono HB1.out.size)⟩
        · have hkb : (d.kind == 1) = false := beq_eq_false_iff_ne.2 hk1
          have hkc : (d.kind == 2) = false := beq_eq_false_iff_ne.2 hk2
          have HW := hide (show joinP 32 (wordsP d) = insW ++ 32 :: (pathTxt d.path ++ 32 :: (Lib.itoa d.pos ++ 32 :: (Lib.itoa d.many ++ 32 :: d.lab.data.toList))) by unfold wordsP; rw [if_neg hk1, if_neg hk2]; rfl)
          have HQS := hide (show ((9223372036854775807 < 7 + ((pathTxt d.path).length)) = False) ∧ ((9223372036854775807 < 7 + ((pathTxt d.path).length) + 1) = False) ∧ ((9223372036854775807 < 7 + ((pathTxt d.path).length) + 1 + ((Lib.itoa d.pos).length)) = False) ∧ ((9223372036854775807 < 7 + ((pathTxt d.path).length) + 1 + ((Lib.itoa d.pos).length) + 1) = False) ∧ ((9223372036854775807 < 7 + ((pathTxt d.path).length) + 1 + ((Lib.itoa d.pos).length) + 1 + ((Lib.itoa d.many).length)) = False) ∧ ((9223372036854775807 < 7 + ((pathTxt d.path).length) + 1 + ((Lib.itoa d.pos).length) + 1 + ((Lib.itoa d.many).length) + 1) = False) ∧ ((9223372036854775807 < 7 + ((pathTxt d.path).length) + 1 + ((Lib.itoa d.pos).length) + 1 + ((Lib.itoa d.many).length) + 1 + (d.lab.size)) = False) from ⟨eq_false (by omega), eq_false (by omega), eq_false (by omega), eq_false (by omega), eq_false (by omega), eq_false (by omega), eq_false (by omega)⟩)
          clear hk1 hk2 hpl hil hml hp hlab
          go_wp2_with fail
          obtain ⟨q1, q2, q3, q4, q5, q6, q7⟩ := HQS.out
          go_region_held3 (fun w' => Below wr.heap.size wr w' ∧ w'.cell? ⟨w.heap.size, 1, none⟩ = some (.slice pa d.path.length pc) ∧ w'.cell? ⟨w.heap.size, 2, none⟩ = some (.int .i64 d.pos) ∧ w'.cell? ⟨w.heap.size, 3, none⟩ = some (.int .i64 d.many) ∧ w'.cell? ⟨w.heap.size, 4, none⟩ = some (.string d.lab))
            (first | assumption | exact BoxD.on HS0.out (Below.refl _ _).drew)
            (first
              | (go_at_call 16; refine (KP.out _ (by assumption)).mono ?_; rintro e w2 ⟨rfl, hS2⟩)
              | (go_at_call_of 37 d.pos; refine (KA.out _ (by assumption)).mono ?_; rintro e w3 ⟨rfl, hS3⟩)
              | (go_at_call_of 37 d.many; refine (KM.out _ (by assumption)).mono ?_; rintro e w4 ⟨rfl, hS4⟩))
          go_wp2_with fail
          refine bodyPost_ret (v := .tuple #[.string (⟨#[105, 110, 115, 101, 114, 116, 32]⟩ ++ str (pathTxt d.path) ++ ⟨#[32]⟩ ++ str (Lib.itoa d.pos) ++ ⟨#[32]⟩ ++ str (Lib.itoa d.many) ++ ⟨#[32]⟩ ++ d.lab), .int .i64 0]) (by simp [results, Tryz.results21, go_sem]) rfl ⟨by rw [HL.out.1, HL.out.2, HW.out, ins_str], ?_⟩
          first | exact HB1.out.trans (hS4.1.mono HB1.out.size) | exact HB1.out.trans (hS3.1.mono HB1.out.size) | exact HB1.out.trans (hS2.1.mono HB1.out.size)
  · have hfb : (deedFault d != 0) = true := by simpa using hf
    have HF := hide (lineC_fault hf)
    clear hf
    go_wp2_with fail
    refine bodyPost_ret (v := .tuple #[.string ⟨#[]⟩, .int .i64 (deedFault d)]) (by simp [results, Tryz.results21, go_sem]) rfl ⟨by rw [HF.out.1, HF.out.2], HB1.out⟩
end Go.Proofs.YtkoohfkomlmhoacGreatDoor.Pat
