/- PatchLines of the statements. Of the program's text, by its contracts. -/
/- What a reading of an api.Tree, of a path and of a string says of memory. Of the program's types. -/
import Derived.Test.YtkoohfkomlmhoacDoorProg
import Derived.Test.YtkoohfkomlmhoacDoorKLP26
import Derived.Test.YtkoohfkomlmhoacDoorKLP31
import Derived.ProofKit
import Derived.Lib.SmallJoins
import Derived.Test.YtkoohfkomlmhoacDoorKLP00
import Derived.Test.YtkoohfkomlmhoacDoorKLP03
namespace Go.Proofs.YtkoohfkomlmhoacDoor.Pat
open Go.Deep Go.RowKit Deed
set_option linter.unusedVariables false
set_option maxRecDepth 20000

theorem great_not {d : Dd} (h : greatD d = false) : d.path.length ≤ 60 ∧ d.lab.size ≤ 100 := by
  unfold greatD at h
  simp only [Bool.or_eq_false_iff, decide_eq_false_iff_not] at h
  omega
theorem greats_not {L : List Dd} (h : greatDs L = false) : L.length ≤ 100 ∧ ∀ d, d ∈ L → d.path.length ≤ 60 ∧ d.lab.size ≤ 100 := by
  unfold greatDs at h
  simp only [Bool.or_eq_false_iff, decide_eq_false_iff_not] at h
  have hl : L.length ≤ 100 := by omega
  refine ⟨hl, fun d hd => ?_⟩
  rw [List.take_of_length_le hl] at h
  have := List.any_eq_false.1 h.1 d hd
  exact great_not (by simpa using this)
theorem same_self (d : Dd) : sameDd d d = true := by
  unfold sameDd
  simp
theorem same_iff {d e : Dd} : sameDd d e = true ↔ d = e := by
  constructor
  · intro h
    unfold sameDd at h
    simp only [Bool.and_eq_true, beq_iff_eq, decide_eq_true_eq] at h
    obtain ⟨⟨⟨⟨h1, h2⟩, h3⟩, h4⟩, h5⟩ := h
    obtain ⟨k1, p1, a1, m1, l1⟩ := d
    obtain ⟨k2, p2, a2, m2, l2⟩ := e
    simp only at h1 h2 h3 h4 h5
    subst h1 h2 h3 h4
    rw [ByteArray.toList_eq, ByteArray.toList_eq] at h5
    have : l1 = l2 := by
      apply ByteArray.ext
      exact Array.ext' h5
    rw [this]
  · rintro rfl
    exact same_self d
theorem line_same {d e : Dd} (h1 : lineC d = 0) (h2 : lineC e = 0) : (lineP d == lineP e) = sameDd d e := by
  cases h : sameDd d e
  · refine beq_eq_false_iff_ne.2 fun e' => ?_
    have := same_iff.2 (line_inj h1 h2 e')
    rw [h] at this
    cases this
  · rw [same_iff.1 h]
    exact beq_self_eq_true _
theorem print_code {L : List Dd} (h : (printP L).2.1 = 0) : (printP L).2 = (0, 0) := by
  unfold printP at h ⊢
  split
  · rename_i h1; rw [if_pos h1] at h; cases h
  · rename_i h1
    rw [if_neg h1] at h
    split
    · rename_i c i hb
      rw [hb] at h
      exfalso
      have key : ∀ (l : List Dd) (k : Nat), firstBad lineC l k = some (c, i) → c ≠ 0 := fun l => by
        induction l with
        | nil => intro k hk; simp [firstBad] at hk
        | cons y l ih =>
          intro k hk
          unfold firstBad at hk
          split at hk
          · rename_i h0
            simp only [Option.some.injEq, Prod.mk.injEq] at hk
            rw [← hk.1]
            exact h0
          · exact ih _ hk
      exact key L 0 hb h
    · rfl
theorem print_bad {L : List Dd} (h : (printP L).2.1 ≠ 0) : (printP L).1 = [] := by
  unfold printP at h ⊢
  split
  · rfl
  · rename_i h1
    rw [if_neg h1] at h
    split
    · rfl
    · rename_i hb
      rw [hb] at h
      exact absurd rfl h

set_option maxHeartbeats 8000000 in
theorem plines_any (la : Option Addr) (lc : Nat) (L : List Pd) (D E : Dd) (pa qa : Option Addr) (pc qc : Nat) (w : World) (hL : DsIn w la L) (hl : L.length ≤ lc) (hlm0 : lc ≤ maxLen) (hD : DIn w D pa pc) (hE : DIn w E qa qc) (ht : Tab w) :
    Calls Tryd.prog 4 #[.slice la L.length lc, ddV D pa pc, ddV E qa qc] w fun e w' => e = .returned (.bool true) ∧ Below w.heap.size w w' := by
  unfold ddV
  have hlm := hlm0
  unfold maxLen at hlm
  obtain ⟨W0, hW0⟩ : ∃ W0, W0 = (w.alloc (Obj.cells #[.int .i64 D.kind, .slice pa D.path.length pc, .int .i64 D.pos, .int .i64 D.many, .string D.lab] 35)).alloc (Obj.cells #[.int .i64 E.kind, .slice qa E.path.length qc, .int .i64 E.pos, .int .i64 E.many, .string E.lab] 35) := ⟨_, rfl⟩
  obtain ⟨hWs, hB, c0, c1⟩ := boxes2 w (Obj.cells #[.int .i64 D.kind, .slice pa D.path.length pc, .int .i64 D.pos, .int .i64 D.many, .string D.lab] 35) (Obj.cells #[.int .i64 E.kind, .slice qa E.path.length qc, .int .i64 E.pos, .int .i64 E.many, .string E.lab] 35)
  rw [← hW0] at hWs hB c0 c1
  have hcl : ∀ W', Below W0.heap.size W0 W' → (W'.cell? ⟨w.heap.size, 0, none⟩ = some (.int .i64 D.kind) ∧ W'.cell? ⟨w.heap.size, 1, none⟩ = some (.slice pa D.path.length pc) ∧ W'.cell? ⟨w.heap.size, 2, none⟩ = some (.int .i64 D.pos) ∧ W'.cell? ⟨w.heap.size, 3, none⟩ = some (.int .i64 D.many) ∧ W'.cell? ⟨w.heap.size, 4, none⟩ = some (.string D.lab) ∧ W'.cell? ⟨w.heap.size + 1, 0, none⟩ = some (.int .i64 E.kind) ∧ W'.cell? ⟨w.heap.size + 1, 1, none⟩ = some (.slice qa E.path.length qc) ∧ W'.cell? ⟨w.heap.size + 1, 2, none⟩ = some (.int .i64 E.pos) ∧ W'.cell? ⟨w.heap.size + 1, 3, none⟩ = some (.int .i64 E.many) ∧ W'.cell? ⟨w.heap.size + 1, 4, none⟩ = some (.string E.lab)) ∧ Below w.heap.size w W' := fun W' h => by
    have hb0 := (h.block w.heap.size (by omega)).trans c0
    have hb1 := (h.block (w.heap.size + 1) (by omega)).trans c1
    exact ⟨⟨by rw [cell_of_row _ _ 0 _ _ _ hb0]; rfl, by rw [cell_of_row _ _ 1 _ _ _ hb0]; rfl, by rw [cell_of_row _ _ 2 _ _ _ hb0]; rfl, by rw [cell_of_row _ _ 3 _ _ _ hb0]; rfl, by rw [cell_of_row _ _ 4 _ _ _ hb0]; rfl, by rw [cell_of_row _ _ 0 _ _ _ hb1]; rfl, by rw [cell_of_row _ _ 1 _ _ _ hb1]; rfl, by rw [cell_of_row _ _ 2 _ _ _ hb1]; rfl, by rw [cell_of_row _ _ 3 _ _ _ hb1]; rfl, by rw [cell_of_row _ _ 4 _ _ _ hb1]; rfl⟩, hB.trans (h.mono (by omega))⟩
  have HCL := hide hcl
  have HLL := hide (hL.below hB)
  have HDD := hide (hD.below hB)
  have HEE := hide (hE.below hB)
  have HT := hide (ht.below hB)
  have hd1 := hD.len
  have hd2 := hD.cap
  have he1 := hE.len
  have he2 := hE.cap
  unfold maxLen at hd2 he2
  have HBG := hide (pbegun_any W0 (ht.below hB))
  have HG := hide (fun W' (hb : Below W0.heap.size W0 W') => greatDs_any la lc L W' (HLL.out.below hb) hl hlm0)
  have HGD := hide (fun W' (hb : Below W0.heap.size W0 W') => greatD_any D pa pc W' (HDD.out.below hb))
  have HGE := hide (fun W' (hb : Below W0.heap.size W0 W') => greatD_any E qa qc W' (HEE.out.below hb))
  unfold ddV at HGD HGE
  clear hcl c0 c1 hL hD hE ht hB
  go_enter Tryd.func4, Tryd.ntmps4
  go_wp2_with fail
  rw [← hW0]
  clear hW0
  refine Calls.mono HBG.out ?_
  rintro e w1 ⟨rfl, hb1⟩
  have HB1 := hide hb1
  clear hb1 HBG
  go_wp2_with fail
  refine Calls.mono (HG.out w1 HB1.out) ?_
  rintro e w2 ⟨rfl, hb2⟩
  have hbW2 := HB1.out.trans (hb2.mono HB1.out.size)
  obtain ⟨⟨d0, d1, d2, d3, d4, e0, e1, e2, e3, e4⟩, hbw2⟩ := HCL.out w2 hbW2
  have HB2 := hide hbW2
  clear hb2 hbW2
  cases hg : greatDs (dds L)
  case true =>
    go_wp2_with fail
    go_ret
    exact ⟨rfl, hbw2⟩
  obtain ⟨hL100, hLs⟩ := greats_not hg
  have HBL := hide (fun x (hx : x ∈ L) => show x.1.path.length ≤ 10000 ∧ x.1.lab.size ≤ 100000 by
    have := hLs x.1 (List.mem_map.2 ⟨x, hx, rfl⟩)
    omega)
  clear hg hLs
  go_wp2_with fail
  refine Calls.mono (HGD.out w2 HB2.out) ?_
  rintro e w3 ⟨rfl, hb3⟩
  have hbW3 := HB2.out.trans (hb3.mono HB2.out.size)
  clear d0 d1 d2 d3 d4 e0 e1 e2 e3 e4
  obtain ⟨⟨d0, d1, d2, d3, d4, e0, e1, e2, e3, e4⟩, hbw3⟩ := HCL.out w3 hbW3
  have HB3 := hide hbW3
  clear hb3 hbW3
  cases hg : greatD D
  case true =>
    go_wp2_with fail
    go_ret
    exact ⟨rfl, hbw3⟩
  obtain ⟨hDp, hDl⟩ := great_not hg
  clear hg
  go_wp2_with fail
  refine Calls.mono (HGE.out w3 HB3.out) ?_
  rintro e w4 ⟨rfl, hb4⟩
  have hbW4 := HB3.out.trans (hb4.mono HB3.out.size)
  clear d0 d1 d2 d3 d4 e0 e1 e2 e3 e4
  obtain ⟨⟨d0, d1, d2, d3, d4, e0, e1, e2, e3, e4⟩, hbw4⟩ := HCL.out w4 hbW4
  have HB4 := hide hbW4
  clear hb4 hbW4
  cases hg : greatD E
  case true =>
    go_wp2_with fail
    go_ret
    exact ⟨rfl, hbw4⟩
  obtain ⟨hEp, hEl⟩ := great_not hg
  clear hg
  have HLD := hide (pline_any D pa pc w4 (HDD.out.below HB4.out) (HT.out.below HB4.out) (by omega) (by omega))
  have HLE := hide (fun W' (hb : Below W0.heap.size W0 W') => pline_any E qa qc W' (HEE.out.below hb) (HT.out.below hb) (by omega) (by omega))
  unfold ddV at HLD HLE
  go_wp2_with fail
  refine Calls.mono HLD.out ?_
  rintro e w5 ⟨rfl, hb5⟩
  have hbW5 := HB4.out.trans (hb5.mono HB4.out.size)
  clear d0 d1 d2 d3 d4 e0 e1 e2 e3 e4
  obtain ⟨⟨d0, d1, d2, d3, d4, e0, e1, e2, e3, e4⟩, hbw5⟩ := HCL.out w5 hbW5
  have HB5 := hide hbW5
  clear hb5 hbW5
  go_wp2_with fail
  refine Calls.mono (HLE.out w5 HB5.out) ?_
  rintro e w6 ⟨rfl, hb6⟩
  have hbW6 := HB5.out.trans (hb6.mono HB5.out.size)
  clear d0 d1 d2 d3 d4 e0 e1 e2 e3 e4
  have HB6 := hide hbW6
  clear hb6 hbW6
  by_cases hc : lineC D = 0
  · have hcb : (lineC D == 0) = true := beq_iff_eq.2 hc
    have HC := hide hc
    have hdl := line_len hc (show D.path.length ≤ 10000 by omega) (show D.lab.size ≤ 100000 by omega)
    obtain ⟨hdc, hdp, hd10⟩ := deed_line hc
    obtain ⟨S, hS⟩ : ∃ S, S = str (lineP D) := ⟨_, rfl⟩
    have hSl : S.data.toList = lineP D := by rw [hS]
    have hSz : S.size ≤ 330000 := by rw [hS, str_size]; exact hdl
    have H10 := hide (show ∀ i (h : i < S.size), ((S[i].toNat : Int) == 10) = false from fun i h => beq_eq_false_iff_ne.2 fun e => hd10 (by
      rw [← hSl]
      have h2 : S[i] = 10 := UInt8.toNat_inj.1 (by have : (10 : UInt8).toNat = 10 := rfl; omega)
      rw [← h2, ByteArray.getElem_eq_getElem_data]
      simp))
    have HPD := hide (pdeed_any S w6 (by omega) (HT.out.below HB6.out))
    unfold DeedEnd at HPD
    rw [hSl, hdc, hdp] at HPD
    have HSD := hide hSl
    have HSS := hide (fun (T : ByteArray) (hT : T = str (lineP E)) => show (S.toList == T.toList) = (lineP D == lineP E) by
      rw [ByteArray.toList_eq, ByteArray.toList_eq, hSl, hT])
    rw [← hS]
    clear hS hSl hdc hdp hd10 hdl hc
    go_wp2_with fail
    go_loopg [11] S.size (fun gk v11 wr => ∃ i : Nat, gk = S.size - i ∧ i ≤ S.size ∧ v11 = .int .i64 (i : Nat) ∧ wr = w6)
    case atStart => exact ⟨0, rfl, Nat.zero_le _, rfl, rfl⟩
    case round =>
      obtain ⟨i, hgk, hi, rfl, hwr⟩ := hrel
      subst hwr
      by_cases hlt : i < S.size
      · have h10 := H10.out i hlt
        go_wp2_with fail
        go_roundg (S.size - (i + 1))
        case measure => omega
        case rel => exact ⟨i + 1, rfl, by omega, by go_num, rfl⟩
      · go_wp2_with fail
        refine Calls.mono HPD.out ?_
        rintro e w7 ⟨xa, xc, rfl, hdx, hnx, hb7⟩
        unfold ddV
        have hx1 := hdx.len
        have hx2 := hdx.cap
        unfold maxLen at hx2
        have hbW7 := HB6.out.trans (hb7.mono HB6.out.size)
        obtain ⟨W8, hW8⟩ : ∃ W8, W8 = w7.alloc (Obj.cells #[.int .i64 D.kind, .slice xa D.path.length xc, .int .i64 D.pos, .int .i64 D.many, .string D.lab] 35) := ⟨_, rfl⟩
        have b8 : Below w7.heap.size w7 W8 := by rw [hW8]; exact (Below.refl _ _).alloc (Nat.le_refl _) _
        have hbox8 : W8.heap[w7.heap.size]? = some (Obj.cells #[.int .i64 D.kind, .slice xa D.path.length xc, .int .i64 D.pos, .int .i64 D.many, .string D.lab] 35) := by rw [hW8]; exact heap_alloc_new _ _
        have x0 : W8.cell? ⟨w7.heap.size, 0, none⟩ = some (.int .i64 D.kind) := by rw [cell_of_row _ _ 0 _ _ _ hbox8]; rfl
        have x1 : W8.cell? ⟨w7.heap.size, 1, none⟩ = some (.slice xa D.path.length xc) := by rw [cell_of_row _ _ 1 _ _ _ hbox8]; rfl
        have x2 : W8.cell? ⟨w7.heap.size, 2, none⟩ = some (.int .i64 D.pos) := by rw [cell_of_row _ _ 2 _ _ _ hbox8]; rfl
        have x3 : W8.cell? ⟨w7.heap.size, 3, none⟩ = some (.int .i64 D.many) := by rw [cell_of_row _ _ 3 _ _ _ hbox8]; rfl
        have x4 : W8.cell? ⟨w7.heap.size, 4, none⟩ = some (.string D.lab) := by rw [cell_of_row _ _ 4 _ _ _ hbox8]; rfl
        have hbW8 := hbW7.trans (b8.mono hbW7.size)
        have HB8' := hide hbW8
        obtain ⟨⟨d0, d1, d2, d3, d4, e0, e1, e2, e3, e4⟩, hbw8⟩ := HCL.out W8 hbW8
        have HS1 := hide (sameD_any D D xa pa xc pc W8 (hdx.below b8) (HDD.out.below hbW8) (by omega))
        have HS2 := hide (fun W' (hb : Below W0.heap.size W0 W') => sameD_any D E pa qa pc qc W' (HDD.out.below hb) (HEE.out.below hb) (by omega))
        unfold ddV at HS1 HS2
        rw [same_self] at HS1
        rw [hW8] at x0 x1 x2 x3 x4 d0 d1 d2 d3 d4
        have HW8 := hide hW8
        clear hbW8 hbW7 hbox8 b8 hb7 hdx hW8 e0 e1 e2 e3 e4
        go_wp2_with fail
        rw [← HW8.out]
        refine Calls.mono HS1.out ?_
        rintro e w9 ⟨rfl, hb9⟩
        have hbW9 := HB8'.out.trans (hb9.mono HB8'.out.size)
        rw [← HW8.out] at x0 x1 x2 x3 x4 d0 d1 d2 d3 d4
        clear d0 d1 d2 d3 d4 x0 x1 x2 x3 x4
        obtain ⟨⟨d0, d1, d2, d3, d4, e0, e1, e2, e3, e4⟩, hbw9⟩ := HCL.out w9 hbW9
        have HB9 := hide hbW9
        clear hbW9 hb9
        by_cases hk : lineC E = 0
        · have hkb : (lineC E == 0) = true := beq_iff_eq.2 hk
          obtain ⟨T, hT⟩ : ∃ T, T = str (lineP E) := ⟨_, rfl⟩
          have hst : (S.toList == T.toList) = sameDd D E := by rw [HSS.out T hT]; exact line_same HC.out hk
          rw [← hT]
          clear hT hk
          go_wp2_with fail
          refine Calls.mono (HS2.out w9 HB9.out) ?_
          rintro e w10 ⟨rfl, hb10⟩
          have hbW10 := HB9.out.trans (hb10.mono HB9.out.size)
          clear d0 d1 d2 d3 d4 e0 e1 e2 e3 e4
          have HB10 := hide hbW10
          clear hb10 hbW10 HW8 HS1 HS2
          have hxx : (sameDd D E != sameDd D E) = false := by simp
          have HPR := hide (fun W' (hb : Below W0.heap.size W0 W') => pprint_any la lc L W' (HLL.out.below hb) hl hlm0 (HT.out.below hb) HBL.out)
          go_wp2_with fail
          refine Calls.mono (HPR.out w10 HB10.out) ?_
          rintro e w7 ⟨rfl, hb7⟩
          have hbW7 := HB10.out.trans (hb7.mono HB10.out.size)
          clear hb7
          obtain ⟨W8, hW8⟩ : ∃ W8, W8 = w7.alloc (Obj.cells #[.int .i64 (printP (dds L)).2.1, .int .i64 (printP (dds L)).2.2] 26) := ⟨_, rfl⟩
          have b8 : Below w7.heap.size w7 W8 := by rw [hW8]; exact (Below.refl _ _).alloc (Nat.le_refl _) _
          have HB8 := hide (hbW7.trans (b8.mono hbW7.size))
          have HW8 := hide hW8
          clear b8 hW8
          by_cases hpc : (printP (dds L)).2.1 = 0
          · have hpb : ((printP (dds L)).2.1 != 0) = false := by rw [hpc]; rfl
            have HPZ := hide (print_code hpc)
            have HOK := hide (print_zero HPZ.out).2.1
            have hp80 := (print_zero HPZ.out).1
            rw [dds_len] at hp80
            have HTX := hide (print_zero HPZ.out).2.2
            clear hpc
            go_wp2_with fail
            rw [← HW8.out]
            go_loopg [16, 17] L.length (fun gk v16 v17 wr => ∃ i : Nat, gk = L.length - i ∧ i ≤ L.length ∧ v17 = .int .i64 (i : Nat) ∧ v16 = .string (str (textL ((dds L).take i))) ∧ Below W0.heap.size W0 wr)
            case atStart => exact ⟨0, rfl, Nat.zero_le _, rfl, rfl, HB8.out⟩
            case round =>
              obtain ⟨i, hgk, hi, rfl, rfl, hbr⟩ := hrel
              have hsz := text_len ((dds L).take i) (fun d hd => ⟨HOK.out d (List.mem_of_mem_take hd), by
                obtain ⟨x, hx, rfl⟩ := List.mem_map.1 (List.mem_of_mem_take hd)
                exact HBL.out x hx⟩)
              have hn80 : ((dds L).take i).length ≤ 80 := by rw [List.length_take, dds_len]; omega
              have hsz' : (textL ((dds L).take i)).length ≤ 26400080 := by
                generalize ((dds L).take i).length = n at hn80 hsz
                omega
              clear hsz hn80
              by_cases hlt : i < L.length
              · obtain ⟨x, hx⟩ : ∃ x, L[i]? = some x := ⟨_, List.getElem?_eq_getElem hlt⟩
                obtain ⟨b, o, rfl, x0, x1, x2, x3, x4, hxd⟩ := (HLL.out.below hbr).at hx
                have hxp := HBL.out x (List.mem_of_getElem? hx)
                have HX := hide (dds_at hx)
                have hxc := HOK.out x.1 (List.mem_of_getElem? (dds_at hx))
                clear hx
                obtain ⟨y, ypa, ypc⟩ := x
                simp only at x0 x1 x2 x3 x4 hxd HX hxp hxc
                have hln := pline_any y ypa ypc wr hxd (HT.out.below hbr) hxp.1 hxp.2
                unfold ddV at hln
                have HLN := hide hln
                have hd1 := hxd.len
                have hd2 := hxd.cap
                unfold maxLen at hd2
                have HBR := hide hbr
                have HTK := hide (show (dds L).take (i + 1) = (dds L).take i ++ [y] by
                  have h1 := (List.getElem?_eq_some_iff.1 HX.out)
                  rw [List.take_succ_eq_append_getElem h1.1, h1.2])
                have hcb : (lineC y != 0) = false := by rw [hxc]; rfl
                have hlen := line_len hxc hxp.1 hxp.2
                clear hln hxd hxc
                go_wp2_with fail
                refine Calls.mono HLN.out ?_
                rintro e w9 ⟨rfl, hb9⟩
                have HB9 := hide (HBR.out.trans (hb9.mono HBR.out.size))
                clear hb9
                go_wp2_with fail
                go_roundg (L.length - (i + 1))
                case measure => omega
                case rel =>
                  refine ⟨i + 1, rfl, by omega, by go_num, ?_, HB9.out⟩
                  rw [HTK.out, text_snoc, show (⟨#[10]⟩ : ByteArray) = str [10] from rfl, str_append, str_append]
              · have HIL := hide (show textL ((dds L).take i) = (printP (dds L)).1 by rw [List.take_of_length_le (by rw [dds_len]; omega), HTX.out])
                have heq : ((printP (dds L)).1 == textL ((dds L).take i)) = true := by rw [HIL.out]; exact beq_self_eq_true _
                go_wp2_with fail
                go_ret
                exact ⟨rfl, (HCL.out _ hbr).2⟩
          · have hpb : ((printP (dds L)).2.1 != 0) = true := by simpa using hpc
            have hem : (printP (dds L)).1.isEmpty = true := by rw [print_bad hpc]; rfl
            clear hpc
            go_wp2_with fail
            rw [← HW8.out]
            go_ret
            exact ⟨rfl, (HCL.out _ HB8.out).2⟩
        · have hkb : (lineC E == 0) = false := beq_eq_false_iff_ne.2 hk
          clear hk HW8 HS1 HS2 d0 d1 d2 d3 d4 e0 e1 e2 e3 e4
          have HPR := hide (fun W' (hb : Below W0.heap.size W0 W') => pprint_any la lc L W' (HLL.out.below hb) hl hlm0 (HT.out.below hb) HBL.out)
          go_wp2_with fail
          refine Calls.mono (HPR.out w9 HB9.out) ?_
          rintro e w7 ⟨rfl, hb7⟩
          have hbW7 := HB9.out.trans (hb7.mono HB9.out.size)
          clear hb7
          obtain ⟨W8, hW8⟩ : ∃ W8, W8 = w7.alloc (Obj.cells #[.int .i64 (printP (dds L)).2.1, .int .i64 (printP (dds L)).2.2] 26) := ⟨_, rfl⟩
          have b8 : Below w7.heap.size w7 W8 := by rw [hW8]; exact (Below.refl _ _).alloc (Nat.le_refl _) _
          have HB8 := hide (hbW7.trans (b8.mono hbW7.size))
          have HW8 := hide hW8
          clear b8 hW8
          by_cases hpc : (printP (dds L)).2.1 = 0
          · have hpb : ((printP (dds L)).2.1 != 0) = false := by rw [hpc]; rfl
            have HPZ := hide (print_code hpc)
            have HOK := hide (print_zero HPZ.out).2.1
            have hp80 := (print_zero HPZ.out).1
            rw [dds_len] at hp80
            have HTX := hide (print_zero HPZ.out).2.2
            clear hpc
            go_wp2_with fail
            rw [← HW8.out]
            go_loopg [16, 17] L.length (fun gk v16 v17 wr => ∃ i : Nat, gk = L.length - i ∧ i ≤ L.length ∧ v17 = .int .i64 (i : Nat) ∧ v16 = .string (str (textL ((dds L).take i))) ∧ Below W0.heap.size W0 wr)
            case atStart => exact ⟨0, rfl, Nat.zero_le _, rfl, rfl, HB8.out⟩
            case round =>
              obtain ⟨i, hgk, hi, rfl, rfl, hbr⟩ := hrel
              have hsz := text_len ((dds L).take i) (fun d hd => ⟨HOK.out d (List.mem_of_mem_take hd), by
                obtain ⟨x, hx, rfl⟩ := List.mem_map.1 (List.mem_of_mem_take hd)
                exact HBL.out x hx⟩)
              have hn80 : ((dds L).take i).length ≤ 80 := by rw [List.length_take, dds_len]; omega
              have hsz' : (textL ((dds L).take i)).length ≤ 26400080 := by
                generalize ((dds L).take i).length = n at hn80 hsz
                omega
              clear hsz hn80
              by_cases hlt : i < L.length
              · obtain ⟨x, hx⟩ : ∃ x, L[i]? = some x := ⟨_, List.getElem?_eq_getElem hlt⟩
                obtain ⟨b, o, rfl, x0, x1, x2, x3, x4, hxd⟩ := (HLL.out.below hbr).at hx
                have hxp := HBL.out x (List.mem_of_getElem? hx)
                have HX := hide (dds_at hx)
                have hxc := HOK.out x.1 (List.mem_of_getElem? (dds_at hx))
                clear hx
                obtain ⟨y, ypa, ypc⟩ := x
                simp only at x0 x1 x2 x3 x4 hxd HX hxp hxc
                have hln := pline_any y ypa ypc wr hxd (HT.out.below hbr) hxp.1 hxp.2
                unfold ddV at hln
                have HLN := hide hln
                have hd1 := hxd.len
                have hd2 := hxd.cap
                unfold maxLen at hd2
                have HBR := hide hbr
                have HTK := hide (show (dds L).take (i + 1) = (dds L).take i ++ [y] by
                  have h1 := (List.getElem?_eq_some_iff.1 HX.out)
                  rw [List.take_succ_eq_append_getElem h1.1, h1.2])
                have hcb : (lineC y != 0) = false := by rw [hxc]; rfl
                have hlen := line_len hxc hxp.1 hxp.2
                clear hln hxd hxc
                go_wp2_with fail
                refine Calls.mono HLN.out ?_
                rintro e w9 ⟨rfl, hb9⟩
                have HB9 := hide (HBR.out.trans (hb9.mono HBR.out.size))
                clear hb9
                go_wp2_with fail
                go_roundg (L.length - (i + 1))
                case measure => omega
                case rel =>
                  refine ⟨i + 1, rfl, by omega, by go_num, ?_, HB9.out⟩
                  rw [HTK.out, text_snoc, show (⟨#[10]⟩ : ByteArray) = str [10] from rfl, str_append, str_append]
              · have HIL := hide (show textL ((dds L).take i) = (printP (dds L)).1 by rw [List.take_of_length_le (by rw [dds_len]; omega), HTX.out])
                have heq : ((printP (dds L)).1 == textL ((dds L).take i)) = true := by rw [HIL.out]; exact beq_self_eq_true _
                go_wp2_with fail
                go_ret
                exact ⟨rfl, (HCL.out _ hbr).2⟩
          · have hpb : ((printP (dds L)).2.1 != 0) = true := by simpa using hpc
            have hem : (printP (dds L)).1.isEmpty = true := by rw [print_bad hpc]; rfl
            clear hpc
            go_wp2_with fail
            rw [← HW8.out]
            go_ret
            exact ⟨rfl, (HCL.out _ HB8.out).2⟩
  · have hcb : (lineC D == 0) = false := beq_eq_false_iff_ne.2 hc
    clear hc
    have HPR := hide (fun W' (hb : Below W0.heap.size W0 W') => pprint_any la lc L W' (HLL.out.below hb) hl hlm0 (HT.out.below hb) HBL.out)
    go_wp2_with fail
    refine Calls.mono (HPR.out w6 HB6.out) ?_
    rintro e w7 ⟨rfl, hb7⟩
    have hbW7 := HB6.out.trans (hb7.mono HB6.out.size)
    clear hb7
    obtain ⟨W8, hW8⟩ : ∃ W8, W8 = w7.alloc (Obj.cells #[.int .i64 (printP (dds L)).2.1, .int .i64 (printP (dds L)).2.2] 26) := ⟨_, rfl⟩
    have b8 : Below w7.heap.size w7 W8 := by rw [hW8]; exact (Below.refl _ _).alloc (Nat.le_refl _) _
    have HB8 := hide (hbW7.trans (b8.mono hbW7.size))
    have HW8 := hide hW8
    clear b8 hW8
    by_cases hpc : (printP (dds L)).2.1 = 0
    · have hpb : ((printP (dds L)).2.1 != 0) = false := by rw [hpc]; rfl
      have HPZ := hide (print_code hpc)
      have HOK := hide (print_zero HPZ.out).2.1
      have hp80 := (print_zero HPZ.out).1
      rw [dds_len] at hp80
      have HTX := hide (print_zero HPZ.out).2.2
      clear hpc
      go_wp2_with fail
      rw [← HW8.out]
      go_loopg [16, 17] L.length (fun gk v16 v17 wr => ∃ i : Nat, gk = L.length - i ∧ i ≤ L.length ∧ v17 = .int .i64 (i : Nat) ∧ v16 = .string (str (textL ((dds L).take i))) ∧ Below W0.heap.size W0 wr)
      case atStart => exact ⟨0, rfl, Nat.zero_le _, rfl, rfl, HB8.out⟩
      case round =>
        obtain ⟨i, hgk, hi, rfl, rfl, hbr⟩ := hrel
        have hsz := text_len ((dds L).take i) (fun d hd => ⟨HOK.out d (List.mem_of_mem_take hd), by
          obtain ⟨x, hx, rfl⟩ := List.mem_map.1 (List.mem_of_mem_take hd)
          exact HBL.out x hx⟩)
        have hn80 : ((dds L).take i).length ≤ 80 := by rw [List.length_take, dds_len]; omega
        have hsz' : (textL ((dds L).take i)).length ≤ 26400080 := by
          generalize ((dds L).take i).length = n at hn80 hsz
          omega
        clear hsz hn80
        by_cases hlt : i < L.length
        · obtain ⟨x, hx⟩ : ∃ x, L[i]? = some x := ⟨_, List.getElem?_eq_getElem hlt⟩
          obtain ⟨b, o, rfl, x0, x1, x2, x3, x4, hxd⟩ := (HLL.out.below hbr).at hx
          have hxp := HBL.out x (List.mem_of_getElem? hx)
          have HX := hide (dds_at hx)
          have hxc := HOK.out x.1 (List.mem_of_getElem? (dds_at hx))
          clear hx
          obtain ⟨y, ypa, ypc⟩ := x
          simp only at x0 x1 x2 x3 x4 hxd HX hxp hxc
          have hln := pline_any y ypa ypc wr hxd (HT.out.below hbr) hxp.1 hxp.2
          unfold ddV at hln
          have HLN := hide hln
          have hd1 := hxd.len
          have hd2 := hxd.cap
          unfold maxLen at hd2
          have HBR := hide hbr
          have HTK := hide (show (dds L).take (i + 1) = (dds L).take i ++ [y] by
            have h1 := (List.getElem?_eq_some_iff.1 HX.out)
            rw [List.take_succ_eq_append_getElem h1.1, h1.2])
          have hcb : (lineC y != 0) = false := by rw [hxc]; rfl
          have hlen := line_len hxc hxp.1 hxp.2
          clear hln hxd hxc
          go_wp2_with fail
          refine Calls.mono HLN.out ?_
          rintro e w9 ⟨rfl, hb9⟩
          have HB9 := hide (HBR.out.trans (hb9.mono HBR.out.size))
          clear hb9
          go_wp2_with fail
          go_roundg (L.length - (i + 1))
          case measure => omega
          case rel =>
            refine ⟨i + 1, rfl, by omega, by go_num, ?_, HB9.out⟩
            rw [HTK.out, text_snoc, show (⟨#[10]⟩ : ByteArray) = str [10] from rfl, str_append, str_append]
        · have HIL := hide (show textL ((dds L).take i) = (printP (dds L)).1 by rw [List.take_of_length_le (by rw [dds_len]; omega), HTX.out])
          have heq : ((printP (dds L)).1 == textL ((dds L).take i)) = true := by rw [HIL.out]; exact beq_self_eq_true _
          go_wp2_with fail
          go_ret
          exact ⟨rfl, (HCL.out _ hbr).2⟩
    · have hpb : ((printP (dds L)).2.1 != 0) = true := by simpa using hpc
      have hem : (printP (dds L)).1.isEmpty = true := by rw [print_bad hpc]; rfl
      clear hpc
      go_wp2_with fail
      rw [← HW8.out]
      go_ret
      exact ⟨rfl, (HCL.out _ HB8.out).2⟩
end Go.Proofs.YtkoohfkomlmhoacDoor.Pat
namespace Go.Proofs.YtkoohfkomlmhoacDoor
open Go.Deep Go.RowKit Go.ChangeShapes Go.WideShapes Go.Joins
open Go.ChangeMaps (open_string)
set_option linter.unusedVariables false
set_option maxRecDepth 20000

theorem Tryd.cellsStr : Tryd.prog.cellsOf 9 = 1 := by kernel_rfl
theorem Tryd.cellsInt : Tryd.prog.cellsOf 3 = 1 := by kernel_rfl

theorem spot_none {w : World} {a : Addr} {v : Value} (h : w.cell? a = some v) : a.spot = none := by
  unfold World.cell? at h
  split at h
  · split at h
    · cases h
    · rename_i hs
      simpa using hs
  · cases h

section
variable {H : Type} {enc : TypeId × Value → H} {w : World} {base : Nat} {spare : Nat → Bool} {held : Bool}

end

end Go.Proofs.YtkoohfkomlmhoacDoor
