/- Print of package patch: the lines of deeds. Of the program's text. -/
/- patchBegun of the statements: what it tells of two deeds. Of the program's text. -/
import Derived.Test.YtkoohfkomlmhoacGreatDoorProg
import Derived.Test.YtkoohfkomlmhoacGreatDoorKDP27
import Derived.Test.YtkoohfkomlmhoacGreatDoorKDP19
import Derived.Test.YtkoohfkomlmhoacGreatDoorKDP25
namespace Go.Proofs.YtkoohfkomlmhoacGreatDoor.Pat
open Go.Deep Go.RowKit Deed
set_option linter.unusedVariables false
set_option maxRecDepth 20000

set_option maxHeartbeats 4000000 in
theorem pprint_any (la : Option Addr) (lc : Nat) (L : List Pd) (w : World) (hL : DsIn w la L) (hl : L.length ≤ lc) (hlm : lc ≤ maxLen) (ht : Tab w) (hp : ∀ x, x ∈ L → x.1.path.length ≤ 10000 ∧ x.1.lab.size ≤ 100000) :
    Calls Tryz.prog 7 #[.slice la L.length lc] w fun e w' => e = .returned (.tuple #[.string (str (printP (dds L)).1), .agg #[.int .i64 (printP (dds L)).2.1, .int .i64 (printP (dds L)).2.2]]) ∧ Below w.heap.size w w' := by
  unfold maxLen at hlm
  have hdl := dds_len L
  obtain ⟨W, hW⟩ : ∃ W, W = w.alloc (Obj.cells #[.int .i64 0, .int .i64 0] 27) := ⟨_, rfl⟩
  have hB : Below w.heap.size w W := by rw [hW]; exact (Below.refl _ _).alloc (Nat.le_refl _) _
  have hWs : W.heap.size = w.heap.size + 1 := by rw [hW]; simp
  have hbox : W.heap[w.heap.size]? = some (Obj.cells #[.int .i64 0, .int .i64 0] 27) := by rw [hW]; exact heap_alloc_new _ _
  have hcells : ∀ W', Below W.heap.size W W' → W'.cell? ⟨w.heap.size, 0, none⟩ = some (.int .i64 0) ∧ W'.cell? ⟨w.heap.size, 1, none⟩ = some (.int .i64 0) ∧ (∀ o, W'.frozen? ⟨w.heap.size, o, none⟩ = false) ∧ Below w.heap.size w W' := fun W' h => by
    have hb := (h.block w.heap.size (by omega)).trans hbox
    exact ⟨by rw [cell_of_row _ _ 0 _ _ _ hb]; rfl, by rw [cell_of_row _ _ 1 _ _ _ hb]; rfl, fun o => by simp [World.frozen?, hb], hB.trans (h.mono (by omega))⟩
  have HCL := hide hcells
  have HL := hide (hL.below hB)
  have HT := hide (ht.below hB)
  have HP := hide hp
  obtain ⟨k0, k1, kf, hbw⟩ := hcells W (Below.refl _ _)
  have HBW := hide hbw
  clear hcells hbox hL ht hp hB hbw
  by_cases h80 : 80 < L.length
  · have HE := hide (printP_many (L := dds L) (by omega))
    clear hW k0 k1 kf
    go_enter Tryz.func7, Tryz.ntmps7
    go_wp2_with fail
    obtain ⟨V, hV⟩ : ∃ V, V = w.alloc (Obj.cells #[.int .i64 2, .int .i64 (-1)] 27) := ⟨_, rfl⟩
    have v0 : V.cell? ⟨w.heap.size, 0, none⟩ = some (.int .i64 2) := by rw [hV]; exact str_news_at rfl
    have v1 : V.cell? ⟨w.heap.size, 1, none⟩ = some (.int .i64 (-1)) := by rw [hV]; exact str_news_at rfl
    have HB2 := hide (show Below w.heap.size w V by rw [hV]; exact (Below.refl _ _).alloc (Nat.le_refl _) _)
    rw [← hV]
    refine bodyPost_ret (v := .tuple #[.string ⟨#[]⟩, .agg #[.int .i64 2, .int .i64 (-1)]]) (by simp [results, Tryz.results7, go_sem, v0, v1]) rfl ⟨by rw [HE.out], HB2.out⟩
  · obtain ⟨U, hU⟩ : ∃ U, U = W.alloc (Obj.cells #[.pointer none, .slice none 0 0] 58) := ⟨_, rfl⟩
    have HI := hide (show Sb.IsW W.heap.size W.heap.size (Lib.byteCells (textL ((dds L).take 0))) U by rw [hU]; exact Lib.fresh_isBuilder _ _ W)
    have HBU := hide (show Below W.heap.size W U by rw [hU]; exact (Below.refl _ _).alloc (Nat.le_refl _) _)
    clear k0 k1 kf
    rw [hW] at hU
    have hUs : (w.alloc (Obj.cells #[.int .i64 0, .int .i64 0] 27)).heap.size = w.heap.size + 1 := by simp
    go_enter Tryz.func7, Tryz.ntmps7
    go_wp2_with fail
    rw [← hU]
    clear hU hW hUs
    rw [hWs] at HI
    go_loopg [15] L.length (fun gk v15 wr => ∃ i : Nat, gk = L.length - i ∧ i ≤ L.length ∧ v15 = .int .i64 (i : Nat) ∧ Hid (Sb.IsW (w.heap.size + 1) (w.heap.size + 1) (Lib.byteCells (textL ((dds L).take i))) wr) ∧ Hid (∀ x, x ∈ (dds L).take i → lineC x = 0) ∧ Below W.heap.size W wr)
    case atStart => exact ⟨0, rfl, Nat.zero_le _, rfl, HI.out, (fun x hx => by simp at hx), HBU.out⟩
    case round =>
      obtain ⟨i, hgk, hi, rfl, hw, hok, hbr⟩ := hrel
      have hsz := text_len ((dds L).take i) (fun d hd => ⟨hok.out d hd, by
        obtain ⟨x, hx, rfl⟩ := List.mem_map.1 (List.mem_of_mem_take hd)
        exact HP.out x hx⟩)
      have hn80 : ((dds L).take i).length ≤ 80 := by rw [List.length_take]; omega
      have hsz' : (textL ((dds L).take i)).length ≤ 26400080 := by
        generalize ((dds L).take i).length = n at hn80 hsz
        omega
      have hzr := hbr.size
      clear hsz hn80
      by_cases hlt : i < L.length
      · obtain ⟨x, hx⟩ : ∃ x, L[i]? = some x := ⟨_, List.getElem?_eq_getElem hlt⟩
        obtain ⟨b, o, rfl, x0, x1, x2, x3, x4, hxd⟩ := (HL.out.below hbr).at hx
        have hxp := HP.out x (List.mem_of_getElem? hx)
        have HX := hide (dds_at hx)
        clear hx
        obtain ⟨d, pa, pc⟩ := x
        simp only at x0 x1 x2 x3 x4 hxd HX hxp
        obtain ⟨U1, hU1⟩ : ∃ U1, U1 = wr.alloc (Obj.cells #[.int .i64 d.kind, .slice pa d.path.length pc, .int .i64 d.pos, .int .i64 d.many, .string d.lab] 38) := ⟨_, rfl⟩
        have hb1 : Below wr.heap.size wr U1 := by rw [hU1]; exact (Below.refl _ _).alloc (Nat.le_refl _) _
        have hbox : U1.heap[wr.heap.size]? = some (Obj.cells #[.int .i64 d.kind, .slice pa d.path.length pc, .int .i64 d.pos, .int .i64 d.many, .string d.lab] 38) := by rw [hU1]; exact heap_alloc_new _ _
        have y0 : U1.cell? ⟨wr.heap.size, 0, none⟩ = some (.int .i64 d.kind) := by rw [cell_of_row _ _ 0 _ _ _ hbox]; rfl
        have y1 : U1.cell? ⟨wr.heap.size, 1, none⟩ = some (.slice pa d.path.length pc) := by rw [cell_of_row _ _ 1 _ _ _ hbox]; rfl
        have y2 : U1.cell? ⟨wr.heap.size, 2, none⟩ = some (.int .i64 d.pos) := by rw [cell_of_row _ _ 2 _ _ _ hbox]; rfl
        have y3 : U1.cell? ⟨wr.heap.size, 3, none⟩ = some (.int .i64 d.many) := by rw [cell_of_row _ _ 3 _ _ _ hbox]; rfl
        have y4 : U1.cell? ⟨wr.heap.size, 4, none⟩ = some (.string d.lab) := by rw [cell_of_row _ _ 4 _ _ _ hbox]; rfl
        have hb1' : Below W.heap.size W U1 := hbr.trans (hb1.mono hzr)
        have hln := pline_any d pa pc U1 (hxd.below hb1) (HT.out.below hb1') hxp.1 hxp.2
        unfold ddV at hln
        have HLN := hide hln
        have HW1 := hide (Sb.isW_below hw.out hb1)
        have hd1 := hxd.len
        have hd2 := hxd.cap
        unfold maxLen at hd2
        have HB1 := hide hb1'
        have hz1 := hb1'.size
        have HTK := hide (show (dds L).take (i + 1) = (dds L).take i ++ [d] by
          have h1 := (List.getElem?_eq_some_iff.1 HX.out)
          rw [List.take_succ_eq_append_getElem h1.1, h1.2])
        clear hln hxd hbox hb1 hb1'
        by_cases hc : lineC d = 0
        · have hcb : (lineC d != 0) = false := by rw [hc]; rfl
          have hlen := line_len hc hxp.1 hxp.2
          have HC := hide hc
          clear hc
          go_wp2_with fail
          rw [← hU1]
          clear hU1
          go_wp2_with fail
          refine Calls.mono HLN.out ?_
          rintro e w2 ⟨rfl, hb2⟩
          have hw2 := Sb.isW_below HW1.out hb2
          have hb2' := HB1.out.trans (hb2.mono hz1)
          have HWS := hide (Sb.writeString_any (w.heap.size + 1) (w.heap.size + 1) _ (str (lineP d)) w2 hw2 (by rw [Lib.byteCells_length, str_size]; omega) (by have := hb2'.size; omega))
          have HB2 := hide hb2'
          have hz2 := hb2'.size
          clear hb2 hb2' hw2 y0 y1 y2 y3 y4
          go_wp2_with fail
          refine Calls.mono HWS.out ?_
          rintro e w3 ⟨rfl, hw3, hb3, _⟩
          have HB3 := hide (show Below W.heap.size W w3 from HB2.out.trans (by rw [hWs]; exact hb3))
          have hz3 := HB3.out.size
          have HWB := hide (Sb.writeByte_any (w.heap.size + 1) (w.heap.size + 1) _ 10 w3 (Or.inr hw3) (by rw [List.length_append, Lib.byteCells_length, sbCells_str, Lib.byteCells_length]; omega) (by omega))
          clear hw3 hb3
          go_wp2_with fail
          refine Calls.mono HWB.out ?_
          rintro e w4 ⟨rfl, hw4, hb4, _⟩
          go_wp2_with fail
          go_roundg (L.length - (i + 1))
          case measure => omega
          case rel =>
            refine ⟨i + 1, rfl, by omega, by go_num, ?_, ?_, HB3.out.trans (by rw [hWs]; exact hb4)⟩
            · have e10 : Lib.byteCells [10] = [Value.int .u8 10] := rfl
              rw [sbCells_str, ← e10, List.append_assoc, ← byteCells_app, ← byteCells_app, ← text_snoc, ← HTK.out] at hw4
              exact Or.inr hw4
            · show ∀ x, _ → _
              rw [HTK.out]
              intro x hx
              rcases List.mem_append.1 hx with hx | hx
              · exact hok.out x hx
              · rw [List.mem_singleton.1 hx]; exact HC.out
        · have hcb : (lineC d != 0) = true := by simpa using hc
          have HE := hide (printP_bad (L := dds L) (by omega) hok.out HX.out hc)
          clear hc
          go_wp2_with fail
          rw [← hU1]
          clear hU1
          go_wp2_with fail
          refine Calls.mono HLN.out ?_
          rintro e w2 ⟨rfl, hb2⟩
          have hb2' := HB1.out.trans (hb2.mono hz1)
          obtain ⟨k0, k1, kf, hbw⟩ := HCL.out w2 hb2'
          have HB3 := hide ((hbw.setCell (p := ⟨w.heap.size, 0, none⟩) (Nat.le_refl _) (.int .i64 (lineC d))).setCell (p := ⟨w.heap.size, 1, none⟩) (Nat.le_refl _) (.int .i64 (i : Int)))
          clear hb2 hb2' hbw y0 y1 y2 y3 y4
          go_wp2_with fail
          obtain ⟨V, hV⟩ : ∃ V, V = (w2.setCell ⟨w.heap.size, 0, none⟩ (.int .i64 (lineC d))).setCell ⟨w.heap.size, 1, none⟩ (.int .i64 (i : Int)) := ⟨_, rfl⟩
          have v0 : V.cell? ⟨w.heap.size, 0, none⟩ = some (.int .i64 (lineC d)) := by rw [hV]; go_simp
          have v1 : V.cell? ⟨w.heap.size, 1, none⟩ = some (.int .i64 (i : Int)) := by rw [hV]; go_simp
          rw [← hV] at HB3 ⊢
          refine bodyPost_ret (v := .tuple #[.string ⟨#[]⟩, .agg #[.int .i64 (lineC d), .int .i64 (i : Int)]]) (by simp [results, Tryz.results7, go_sem, v0, v1]) rfl ⟨by rw [HE.out], HB3.out⟩
      · have hiL : (dds L).take i = dds L := List.take_of_length_le (by omega)
        have h5 := hok.out
        have h6 := hw.out
        rw [hiL] at h5 h6
        have HE := hide (printP_all (L := dds L) (by omega) h5)
        have HS := hide (Tryz.Builder_String_any (w.heap.size + 1) (w.heap.size + 1) _ wr h6 (by omega))
        clear h5 hiL h6 hw hsz'
        generalize textL (dds L) = TX at *
        go_wp2_with fail
        refine Calls.mono HS.out ?_
        rintro e w1 hpost
        obtain ⟨rfl, hb1⟩ := hpost
        obtain ⟨k0, k1, kf, hbw⟩ := HCL.out w1 (hbr.trans (by rw [hWs]; exact hb1))
        have HB3 := hide ((hbw.setCell (p := ⟨w.heap.size, 0, none⟩) (Nat.le_refl _) (.int .i64 0)).setCell (p := ⟨w.heap.size, 1, none⟩) (Nat.le_refl _) (.int .i64 0))
        clear hbw hb1
        go_wp2_with fail
        obtain ⟨V, hV⟩ : ∃ V, V = (w1.setCell ⟨w.heap.size, 0, none⟩ (.int .i64 0)).setCell ⟨w.heap.size, 1, none⟩ (.int .i64 0) := ⟨_, rfl⟩
        have v0 : V.cell? ⟨w.heap.size, 0, none⟩ = some (.int .i64 0) := by rw [hV]; go_simp
        have v1 : V.cell? ⟨w.heap.size, 1, none⟩ = some (.int .i64 0) := by rw [hV]; go_simp
        rw [← hV] at HB3 ⊢
        refine bodyPost_ret (v := .tuple #[.string (str TX), .agg #[.int .i64 0, .int .i64 0]]) (by simp [results, Tryz.results7, go_sem, v0, v1]) rfl ⟨by rw [HE.out], HB3.out⟩
end Go.Proofs.YtkoohfkomlmhoacGreatDoor.Pat
namespace Go.Proofs.YtkoohfkomlmhoacGreatDoor.Pat
open Go.Deep Go.RowKit Deed
set_option linter.unusedVariables false
set_option maxRecDepth 20000

def bg1 : Dd := ⟨1, [], 0, 0, ⟨#[97]⟩⟩
def bg2 : Dd := ⟨3, [0, 2], 1, 3, ⟨#[98]⟩⟩
def bgT : List UInt8 := [110, 97, 109, 101, 32, 45, 32, 97, 10, 105, 110, 115, 101, 114, 116, 32, 48, 46, 50, 32, 49, 32, 51, 32, 98, 10]
theorem itoa_one {n : Nat} (h : n < 10) : Lib.itoa (n : Int) = [UInt8.ofNat (48 + n)] := by rw [Lib.itoa_nonneg, Lib.decDigits_one h]
theorem bg_line1 : lineC bg1 = 0 ∧ lineP bg1 = [110, 97, 109, 101, 32, 45, 32, 97] := by
  have h0 : deedFault bg1 = 0 := by decide +kernel
  have h1 : above bg1 = false := by decide +kernel
  obtain ⟨h2, h3⟩ := lineC_good h0 h1
  exact ⟨h2, by rw [h3]; rfl⟩
theorem bg_line2 : lineC bg2 = 0 ∧ lineP bg2 = [105, 110, 115, 101, 114, 116, 32, 48, 46, 50, 32, 49, 32, 51, 32, 98] := by
  have h0 : deedFault bg2 = 0 := by decide +kernel
  have h1 : above bg2 = false := by decide +kernel
  obtain ⟨h2, h3⟩ := lineC_good h0 h1
  refine ⟨h2, ?_⟩
  have e0 : Lib.itoa (0 : Int) = [48] := itoa_one (n := 0) (by omega)
  have e1 : Lib.itoa (1 : Int) = [49] := itoa_one (n := 1) (by omega)
  have e2 : Lib.itoa (2 : Int) = [50] := itoa_one (n := 2) (by omega)
  have e3 : Lib.itoa (3 : Int) = [51] := itoa_one (n := 3) (by omega)
  have hp : pathTxt [0, 2] = [48, 46, 50] := by
    unfold pathTxt
    rw [if_neg (by simp), List.map_cons, List.map_cons, List.map_nil, e0, e2]
    rfl
  rw [h3]
  show joinP 32 (wordsP ⟨3, [0, 2], 1, 3, ⟨#[98]⟩⟩) = _
  unfold wordsP
  rw [if_neg (by show ¬ ((3 : Int) = 1); decide), if_neg (by show ¬ ((3 : Int) = 2); decide)]
  simp only [hp, e1, e3]
  rfl
theorem bg_print : printP [bg1, bg2] = (bgT, 0, 0) := by
  rw [printP_all (by simp) (fun x hx => by
    simp only [List.mem_cons, List.not_mem_nil, or_false] at hx
    rcases hx with rfl | rfl
    · exact bg_line1.1
    · exact bg_line2.1)]
  simp only [textL, List.flatMap_cons, List.flatMap_nil, bg_line1.2, bg_line2.2]
  rfl
theorem bg_parse : parseP bgT = ([bg1, bg2], 0, 0) := by
  have := parse_print (L := [bg1, bg2]) (by rw [bg_print])
  rwa [bg_print] at this

set_option maxHeartbeats 4000000 in
theorem pbegun_any (w : World) (ht : Tab w) : Calls Tryz.prog 5 #[] w fun e w' => e = .returned (.bool true) ∧ Below w.heap.size w w' := by
  obtain ⟨W, hW⟩ : ∃ W, W = (w.alloc (Obj.cells #[.int .i64 0, .int .i64 2] 3)).alloc (Obj.cells #[.int .i64 1, .slice none 0 0, .int .i64 0, .int .i64 0, .string ⟨#[97]⟩, .int .i64 3, .slice (some ⟨w.heap.size, 0, none⟩) 2 2, .int .i64 1, .int .i64 3, .string ⟨#[98]⟩] 38) := ⟨_, rfl⟩
  have hWB : Below w.heap.size w W := by rw [hW]; exact ((Below.refl _ _).alloc (Nat.le_refl _) _).alloc (by simp) _
  have hL : DsIn W (some ⟨w.heap.size + 1, 0, none⟩) [(bg1, none, 0), (bg2, some ⟨w.heap.size, 0, none⟩, 2)] := by
    have hb1 : W.heap[w.heap.size + 1]? = some (Obj.cells #[.int .i64 1, .slice none 0 0, .int .i64 0, .int .i64 0, .string ⟨#[97]⟩, .int .i64 3, .slice (some ⟨w.heap.size, 0, none⟩) 2 2, .int .i64 1, .int .i64 3, .string ⟨#[98]⟩] 38) := by
      rw [hW]
      have := heap_alloc_new (w.alloc (Obj.cells #[.int .i64 0, .int .i64 2] 3)) (Obj.cells #[.int .i64 1, .slice none 0 0, .int .i64 0, .int .i64 0, .string ⟨#[97]⟩, .int .i64 3, .slice (some ⟨w.heap.size, 0, none⟩) 2 2, .int .i64 1, .int .i64 3, .string ⟨#[98]⟩] 38)
      simpa using this
    have hb0 : W.heap[w.heap.size]? = some (Obj.cells #[.int .i64 0, .int .i64 2] 3) := by
      rw [hW, Below.heap_alloc _ _ _ (by simp)]
      exact heap_alloc_new _ _
    refine ⟨Or.inr ⟨w.heap.size + 1, 0, rfl, fun j u hu => ?_⟩, fun x hx => ?_⟩
    · rw [Nat.zero_add, cell_of_row _ _ j _ _ _ hb1]
      rw [← hu, ← Array.getElem?_toList]
      rfl
    · simp only [List.mem_cons, List.not_mem_nil, or_false] at hx
      rcases hx with rfl | rfl
      · exact ⟨Or.inl rfl, Nat.le_refl _, by unfold maxLen; exact Nat.zero_le _, by unfold maxLen; decide⟩
      · refine ⟨Or.inr ⟨w.heap.size, 0, rfl, fun i p hp => ?_⟩, Nat.le_refl _, by unfold maxLen; simp, by unfold maxLen; show (⟨#[98]⟩ : ByteArray).size ≤ 2 ^ 63 - 1; decide⟩
        rw [Nat.zero_add, cell_of_row _ _ i _ _ _ hb0]
        have hp' : ([0, 2] : List Int)[i]? = some p := hp
        match i, hp' with
        | 0, hp' => cases hp'; rfl
        | 1, hp' => cases hp'; rfl
        | n + 2, hp' => simp at hp'
  have HPR := hide (pprint_any (some ⟨w.heap.size + 1, 0, none⟩) 2 [(bg1, none, 0), (bg2, some ⟨w.heap.size, 0, none⟩, 2)] W hL (by simp) (by unfold maxLen; simp) (ht.below hWB) (fun x hx => by
    simp only [List.mem_cons, List.not_mem_nil, or_false] at hx
    rcases hx with rfl | rfl
    · exact ⟨by show 0 ≤ 10000; omega, by show (⟨#[97]⟩ : ByteArray).size ≤ 100000; decide⟩
    · exact ⟨by show 2 ≤ 10000; omega, by show (⟨#[98]⟩ : ByteArray).size ≤ 100000; decide⟩))
  have hdd : dds [(bg1, none, 0), (bg2, some ⟨w.heap.size, 0, none⟩, 2)] = [bg1, bg2] := rfl
  rw [hdd, bg_print] at HPR
  have HWB := hide hWB
  have HTB := hide (ht.below hWB)
  clear hWB hL hdd ht
  go_enter Tryz.func5, Tryz.ntmps5
  go_wp2_with fail
  rw [← hW]
  clear hW
  refine Calls.mono HPR.out ?_
  rintro e w1 ⟨rfl, hb1⟩
  have HPA := hide (fun W' (h : Tab W') => pparse_any (str bgT) W' (by decide) h)
  rw [show (str bgT).data.toList = bgT by simp] at HPA
  obtain ⟨W2, hW2⟩ : ∃ W2, W2 = w1.alloc (Obj.cells #[.int .i64 0, .int .i64 0] 27) := ⟨_, rfl⟩
  have b2 : Below w1.heap.size w1 W2 := by rw [hW2]; exact (Below.refl _ _).alloc (Nat.le_refl _) _
  have hbox2 : W2.heap[w1.heap.size]? = some (Obj.cells #[.int .i64 0, .int .i64 0] 27) := by rw [hW2]; exact heap_alloc_new _ _
  have f0 : W2.cell? ⟨w1.heap.size, 0, none⟩ = some (.int .i64 0) := by rw [cell_of_row _ _ 0 _ _ _ hbox2]; rfl
  have hl2 : w1.heap.size < W2.heap.size := by rw [hW2]; simp
  have HB2 := hide ((HWB.out.trans (hb1.mono HWB.out.size)).trans (b2.mono (HWB.out.trans (hb1.mono HWB.out.size)).size))
  have HT2 := hide ((HTB.out.below hb1).below b2)
  clear hbox2 b2 hb1
  go_wp2_with fail
  rw [← hW2]
  clear hW2
  refine Calls.mono (HPA.out W2 HT2.out) ?_
  rintro e w3 ⟨va, vc, A, rfl, hA, hds, hlc, hlm, hb3⟩
  rw [bg_parse] at hA ⊢
  have hA2 : A.length = 2 := by rw [← dds_len, hA]; rfl
  obtain ⟨x, hx⟩ : ∃ x, A[1]? = some x := ⟨_, List.getElem?_eq_getElem (by omega)⟩
  have hx2 : x.1 = bg2 := by
    have h := dds_at hx
    rw [hA] at h
    have h' : some bg2 = some x.1 := h
    exact (Option.some.inj h').symm
  obtain ⟨b, o, rfl, x0, x1, x2, x3, x4, hxd⟩ := hds.at hx
  have k3 : w3.cell? ⟨b, o + 5 + 3, none⟩ = some (.int .i64 3) := by
    rw [hx2] at x3
    have h' : w3.cell? ⟨b, o + 1 * 5 + 3, none⟩ = some (.int .i64 3) := x3
    rw [show o + 5 + 3 = o + 1 * 5 + 3 by omega]
    exact h'
  have g0 : w3.cell? ⟨w1.heap.size, 0, none⟩ = some (.int .i64 0) := by rw [hb3.cell hl2]; exact f0
  have HB3 := hide (HB2.out.trans (hb3.mono HB2.out.size))
  rw [hA2]
  clear x0 x1 x2 x3 x4 hxd hx hx2 hds hA hlc hlm hA2 f0
  obtain ⟨W4, hW4⟩ : ∃ W4, W4 = w3.alloc (Obj.cells #[.int .i64 0, .int .i64 0] 27) := ⟨_, rfl⟩
  have b4 : Below w3.heap.size w3 W4 := by rw [hW4]; exact (Below.refl _ _).alloc (Nat.le_refl _) _
  have hbox4 : W4.heap[w3.heap.size]? = some (Obj.cells #[.int .i64 0, .int .i64 0] 27) := by rw [hW4]; exact heap_alloc_new _ _
  have p0 : W4.cell? ⟨w3.heap.size, 0, none⟩ = some (.int .i64 0) := by rw [cell_of_row _ _ 0 _ _ _ hbox4]; rfl
  have p1 : W4.cell? ⟨w1.heap.size, 0, none⟩ = some (.int .i64 0) := by rw [b4.cell (World.block_lt_of_cell? _ _ g0)]; exact g0
  have p3 : W4.cell? ⟨b, o + 5 + 3, none⟩ = some (.int .i64 3) := by rw [b4.cell (World.block_lt_of_cell? _ _ k3)]; exact k3
  have HB4 := hide (HB3.out.trans (b4.mono HB3.out.size))
  have hbb : (bgT == [110, 97, 109, 101, 32, 45, 32, 97, 10, 105, 110, 115, 101, 114, 116, 32, 48, 46, 50, 32, 49, 32, 51, 32, 98, 10]) = true := by decide
  rw [hW4] at p0 p1 p3
  have HW4 := hide hW4
  clear hbox4 b4 k3 g0 hW4
  go_wp2_with fail
  rw [← HW4.out]
  go_ret
  exact ⟨rfl, HB4.out⟩
end Go.Proofs.YtkoohfkomlmhoacGreatDoor.Pat
