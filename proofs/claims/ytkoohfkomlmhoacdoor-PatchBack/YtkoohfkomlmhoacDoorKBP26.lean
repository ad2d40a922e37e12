/- Line of package patch: the line of a deed; a code. Of the program's text. -/
/- Print of package patch: the lines of deeds. Of the program's text. -/
import Derived.Test.YtkoohfkomlmhoacDoorProg
import Derived.Test.YtkoohfkomlmhoacDoorKBP25
import Derived.Test.YtkoohfkomlmhoacDoorKBP18
namespace Go.Proofs.YtkoohfkomlmhoacDoor.Pat
open Go.Deep Go.RowKit Deed
set_option linter.unusedVariables false
set_option maxRecDepth 20000

theorem two_at (w : World) (T : TypeId) (a b : Int) : PIn (w.alloc (Obj.cells #[.int .i64 a, .int .i64 b] T)) (some ⟨w.heap.size, 0, none⟩) [a, b] := by
  refine Or.inr ⟨w.heap.size, 0, rfl, fun j x h => ?_⟩
  rw [Nat.zero_add]
  refine str_news_at ?_
  match j, h with
  | 0, h => simp at h; subst h; rfl
  | 1, h => simp at h; subst h; rfl
theorem above_is (d : Dd) : above d = (([d.pos, d.many].any fun p => decide (999 < p)) || d.path.any fun p => decide (999 < p)) := by
  unfold above
  simp only [List.any_cons, List.any_nil, Bool.or_false]
  cases d.path.any (fun p => decide (999 < p)) <;> cases decide (999 < d.pos) <;> cases decide (999 < d.many) <;> rfl

set_option maxHeartbeats 2000000 in
theorem pline_any (d : Dd) (pa : Option Addr) (pc : Nat) (w : World) (hd : DIn w d pa pc) (ht : Tab w) (hp : d.path.length ≤ 10000) (hlab : d.lab.size ≤ 100000) :
    Calls Tryd.prog 11 #[ddV d pa pc] w fun e w' => e = .returned (.tuple #[.string (str (lineP d)), .int .i64 (lineC d)]) ∧ Below w.heap.size w w' := by
  have hab := above_is d
  unfold ddV
  obtain ⟨W, hW⟩ : ∃ W, W = w.alloc (Obj.cells #[.int .i64 d.kind, .slice pa d.path.length pc, .int .i64 d.pos, .int .i64 d.many, .string d.lab] 35) := ⟨_, rfl⟩
  have hB : Below w.heap.size w W := by rw [hW]; exact (Below.refl _ _).alloc (Nat.le_refl _) _
  have hWs : W.heap.size = w.heap.size + 1 := by rw [hW]; simp
  have hbox : W.heap[w.heap.size]? = some (Obj.cells #[.int .i64 d.kind, .slice pa d.path.length pc, .int .i64 d.pos, .int .i64 d.many, .string d.lab] 35) := by rw [hW]; exact heap_alloc_new _ _
  have hcells : ∀ W', Below W.heap.size W W' → W'.cell? ⟨w.heap.size, 0, none⟩ = some (.int .i64 d.kind) ∧ W'.cell? ⟨w.heap.size, 1, none⟩ = some (.slice pa d.path.length pc) ∧ W'.cell? ⟨w.heap.size, 2, none⟩ = some (.int .i64 d.pos) ∧ W'.cell? ⟨w.heap.size, 3, none⟩ = some (.int .i64 d.many) ∧ W'.cell? ⟨w.heap.size, 4, none⟩ = some (.string d.lab) := fun W' h => by
    have hb := (h.block w.heap.size (by omega)).trans hbox
    exact ⟨by rw [cell_of_row _ _ 0 _ _ _ hb]; rfl, by rw [cell_of_row _ _ 1 _ _ _ hb]; rfl, by rw [cell_of_row _ _ 2 _ _ _ hb]; rfl, by rw [cell_of_row _ _ 3 _ _ _ hb]; rfl, by rw [cell_of_row _ _ 4 _ _ _ hb]; rfl⟩
  have HCL := hide hcells
  have HDF := hide (dcheck_any d pa pc W (hd.below hB))
  unfold ddV at HDF
  have HD := hide (hd.below hB)
  have HTB := hide (ht.below hB)
  have HBB := hide hB
  have hdl := hd.len
  have hdc := hd.cap
  unfold maxLen at hdc
  obtain ⟨c0, c1, c2, c3, c4⟩ := hcells W (Below.refl _ _)
  clear hbox hd ht hB hcells
  go_enter Tryd.func11, Tryd.ntmps11
  go_wp2_with fail
  rw [← hW]
  clear hW
  go_wp2_with fail
  refine Calls.mono HDF.out ?_
  rintro e w1 ⟨rfl, hb1⟩
  obtain ⟨k0, k1, k2, k3, k4⟩ := HCL.out w1 hb1
  have hz1 := hb1.size
  have HB1 := hide hb1
  clear c0 c1 c2 c3 c4 hb1 HDF
  by_cases hf : deedFault d = 0
  · have hfb : (deedFault d != 0) = false := by rw [hf]; rfl
    have HF := hide hf
    clear hf
    obtain ⟨W8, hW8⟩ : ∃ W8, W8 = w1.alloc (Obj.cells #[.int .i64 d.pos, .int .i64 d.many] 3) := ⟨_, rfl⟩
    have hb8 : Below W.heap.size W W8 := by rw [hW8]; exact HB1.out.alloc hz1 _
    have HG := hide (tooGreat_any (some ⟨w1.heap.size, 0, none⟩) 2 [d.pos, d.many] W8 (by rw [hW8]; exact two_at _ _ _ _) (by unfold maxLen; simp))
    obtain ⟨g, hg⟩ : ∃ g, g = ([d.pos, d.many].any fun p => decide (999 < p)) := ⟨_, rfl⟩
    rw [← hg] at HG hab
    have HG' := hide (show Calls Tryd.prog 21 #[.slice (some ⟨w1.heap.size, 0, none⟩) 2 2] W8 fun e w' => e = .returned (.bool g) ∧ Below W8.heap.size W8 w' from HG.out)
    have HB8 := hide hb8
    have hz8 := hb8.size
    clear hb8 HG hg
    go_wp2_with fail
    rw [← hW8]
    clear hW8
    refine Calls.mono HG'.out ?_
    rintro e w2 ⟨rfl, hb2⟩
    have hb2' := HB8.out.trans (hb2.mono hz8)
    obtain ⟨l0, l1, l2, l3, l4⟩ := HCL.out w2 hb2'
    have HB2 := hide hb2'
    have hz2 := hb2'.size
    clear hb2 hb2' k0 k1 k2 k3 k4
    cases g with
    | true =>
      have HL := hide (lineC_above HF.out (by rw [hab]; rfl))
      clear hab
      go_wp2_with fail
      refine bodyPost_ret (v := .tuple #[.string ⟨#[]⟩, .int .i64 9]) (by simp [results, Tryd.results11, go_sem]) rfl ⟨by rw [HL.out.1, HL.out.2], HBB.out.trans (HB2.out.mono (by omega))⟩
    | false =>
      rw [Bool.false_or] at hab
      have HG2 := hide (tooGreat_any pa pc d.path w2 (HD.out.path.below HB2.out) (by unfold maxLen; omega))
      rw [← hab] at HG2
      obtain ⟨g2, hg2⟩ : ∃ g2, g2 = above d := ⟨_, rfl⟩
      rw [← hg2] at HG2
      clear hab
      go_wp2_with fail
      refine Calls.mono HG2.out ?_
      rintro e w3 ⟨rfl, hb3⟩
      have hb3' := HB2.out.trans (hb3.mono hz2)
      obtain ⟨m0, m1, m2, m3, m4⟩ := HCL.out w3 hb3'
      have HB3 := hide hb3'
      have hz3 := hb3'.size
      clear hb3 hb3' l0 l1 l2 l3 l4
      cases g2 with
      | true =>
        have HL := hide (lineC_above HF.out hg2.symm)
        clear hg2
        go_wp2_with fail
        refine bodyPost_ret (v := .tuple #[.string ⟨#[]⟩, .int .i64 9]) (by simp [results, Tryd.results11, go_sem]) rfl ⟨by rw [HL.out.1, HL.out.2], HBB.out.trans (HB3.out.mono (by omega))⟩
      | false =>
        have HL := hide (lineC_good HF.out hg2.symm)
        obtain ⟨p, x, y, e1, e2, e3, e4, e5, e6⟩ := above_not HF.out hg2.symm
        have hin : ∀ n, n ∈ d.path → In64 n := fun n hn => by
          rw [e1] at hn
          unfold ints at hn
          obtain ⟨m, hm, rfl⟩ := List.mem_map.1 hn
          have := e2 m hm
          exact ⟨by omega, by omega⟩
        have hwr := write_any d pa pc w3 (HD.out.below HB3.out) (HTB.out.below HB3.out) hp hlab hin ⟨by omega, by omega⟩ ⟨by omega, by omega⟩
        unfold ddV at hwr
        have HWR := hide hwr
        clear hwr hg2 e1 e2 e3 e4 e5 e6 hin
        go_wp2_with fail
        refine Calls.mono HWR.out ?_
        rintro e w4 ⟨rfl, hb4⟩
        have HB4 := hide (HBB.out.trans ((HB3.out.trans (hb4.mono hz3)).mono (by omega)))
        clear hb4
        go_wp2_with fail
        refine bodyPost_ret (v := .tuple #[.string (str (joinP 32 (wordsP d))), .int .i64 0]) (by simp [results, Tryd.results11, go_sem]) rfl ⟨by rw [HL.out.1, HL.out.2], HB4.out⟩
  · have hfb : (deedFault d != 0) = true := by simpa using hf
    have HF := hide (lineC_fault hf)
    clear hf
    go_wp2_with fail
    refine bodyPost_ret (v := .tuple #[.string ⟨#[]⟩, .int .i64 (deedFault d)]) (by simp [results, Tryd.results11, go_sem]) rfl ⟨by rw [HF.out.1, HF.out.2], HBB.out.trans (HB1.out.mono (by omega))⟩
end Go.Proofs.YtkoohfkomlmhoacDoor.Pat
namespace Go.Proofs.YtkoohfkomlmhoacDoor.Pat
open Go.Deep Go.RowKit Deed
set_option linter.unusedVariables false
set_option maxRecDepth 20000

set_option maxHeartbeats 4000000 in
theorem pprint_any (la : Option Addr) (lc : Nat) (L : List Pd) (w : World) (hL : DsIn w la L) (hl : L.length ≤ lc) (hlm : lc ≤ maxLen) (ht : Tab w) (hp : ∀ x, x ∈ L → x.1.path.length ≤ 10000 ∧ x.1.lab.size ≤ 100000) :
    Calls Tryd.prog 7 #[.slice la L.length lc] w fun e w' => e = .returned (.tuple #[.string (str (printP (dds L)).1), .agg #[.int .i64 (printP (dds L)).2.1, .int .i64 (printP (dds L)).2.2]]) ∧ Below w.heap.size w w' := by
  unfold maxLen at hlm
  have hdl := dds_len L
  obtain ⟨W, hW⟩ : ∃ W, W = w.alloc (Obj.cells #[.int .i64 0, .int .i64 0] 26) := ⟨_, rfl⟩
  have hB : Below w.heap.size w W := by rw [hW]; exact (Below.refl _ _).alloc (Nat.le_refl _) _
  have hWs : W.heap.size = w.heap.size + 1 := by rw [hW]; simp
  have hbox : W.heap[w.heap.size]? = some (Obj.cells #[.int .i64 0, .int .i64 0] 26) := by rw [hW]; exact heap_alloc_new _ _
  have hcells : ∀ W', Below W.heap.size W W' → W'.cell? ⟨w.heap.size, 0, none⟩ = some (.int .i64 0) ∧ W'.cell? ⟨w.heap.size, 1, none⟩ = some (.int .i64 0) ∧ (∀ o, W'.frozen? ⟨w.heap.size, o, none⟩ = false) ∧ Below w.heap.size w W' := fun W' h => by
    have hb := (h.block w.heap.size (by omega)).trans hbox
    exact ⟨by rw [cell_of_row _ _ 0 _ _ _ hb]; rfl, by rw [cell_of_row _ _ 1 _ _ _ hb]; rfl, fun o => by simp [World.frozen?, hb], hB.trans (h.mono (by omega))⟩
  have HCL := hide hcells
  have HL := hide (hL.below hB)
  have HT := hide (ht.below hB)
  have HP := hide hp
  obtain ⟨k0, k1, kf, hbw⟩ := hcells W (Below.refl _ _)
  have HBW := hide hbw
  clear hcells hbox hL ht hp hB hbw
  by_cases h80 : 80 < L.length
  · have HE := hide (printP_many (L := dds L) (by omega))
    clear hW k0 k1 kf
    go_enter Tryd.func7, Tryd.ntmps7
    go_wp2_with fail
    obtain ⟨V, hV⟩ : ∃ V, V = w.alloc (Obj.cells #[.int .i64 2, .int .i64 (-1)] 26) := ⟨_, rfl⟩
    have v0 : V.cell? ⟨w.heap.size, 0, none⟩ = some (.int .i64 2) := by rw [hV]; exact str_news_at rfl
    have v1 : V.cell? ⟨w.heap.size, 1, none⟩ = some (.int .i64 (-1)) := by rw [hV]; exact str_news_at rfl
    have HB2 := hide (show Below w.heap.size w V by rw [hV]; exact (Below.refl _ _).alloc (Nat.le_refl _) _)
    rw [← hV]
    refine bodyPost_ret (v := .tuple #[.string ⟨#[]⟩, .agg #[.int .i64 2, .int .i64 (-1)]]) (by simp [results, Tryd.results7, go_sem, v0, v1]) rfl ⟨by rw [HE.out], HB2.out⟩
  · obtain ⟨U, hU⟩ : ∃ U, U = W.alloc (Obj.cells #[.pointer none, .slice none 0 0] 46) := ⟨_, rfl⟩
    have HI := hide (show Sb.IsW W.heap.size W.heap.size (Lib.byteCells (textL ((dds L).take 0))) U by rw [hU]; exact Lib.fresh_isBuilder _ _ W)
    have HBU := hide (show Below W.heap.size W U by rw [hU]; exact (Below.refl _ _).alloc (Nat.le_refl _) _)
    clear k0 k1 kf
    rw [hW] at hU
    have hUs : (w.alloc (Obj.cells #[.int .i64 0, .int .i64 0] 26)).heap.size = w.heap.size + 1 := by simp
    go_enter Tryd.func7, Tryd.ntmps7
    go_wp2_with fail
    rw [← hU]
    clear hU hW hUs
    rw [hWs] at HI
    go_loopg [15] L.length (fun gk v15 wr => ∃ i : Nat, gk = L.length - i ∧ i ≤ L.length ∧ v15 = .int .i64 (i : Nat) ∧ Hid (Sb.IsW (w.heap.size + 1) (w.heap.size + 1) (Lib.byteCells (textL ((dds L).take i))) wr) ∧ Hid (∀ x, x ∈ (dds L).take i → lineC x = 0) ∧ Below W.heap.size W wr)
    case atStart => exact ⟨0, rfl, Nat.zero_le _, rfl, HI.out, (fun x hx => by simp at hx), HBU.out⟩
    case round =>
      obtain ⟨i, hgk, hi, rfl, hw, hok, hbr⟩ := hrel
      have hsz := text_len ((dds L).take i) (fun d hd => ⟨hok.out d hd, by
        obtain ⟨x, hx, rfl⟩ := List.mem_map.1 (List.mem_of_mem_take hd)
        exact HP.out x hx⟩)
      have hn80 : ((dds L).take i).length ≤ 80 := by rw [List.length_take]; omega
      have hsz' : (textL ((dds L).take i)).length ≤ 26400080 := by
        generalize ((dds L).take i).length = n at hn80 hsz
        omega
      have hzr := hbr.size
      clear hsz hn80
      by_cases hlt : i < L.length
      · obtain ⟨x, hx⟩ : ∃ x, L[i]? = some x := ⟨_, List.getElem?_eq_getElem hlt⟩
        obtain ⟨b, o, rfl, x0, x1, x2, x3, x4, hxd⟩ := (HL.out.below hbr).at hx
        have hxp := HP.out x (List.mem_of_getElem? hx)
        have HX := hide (dds_at hx)
        clear hx
        obtain ⟨d, pa, pc⟩ := x
        simp only at x0 x1 x2 x3 x4 hxd HX hxp
        obtain ⟨U1, hU1⟩ : ∃ U1, U1 = wr.alloc (Obj.cells #[.int .i64 d.kind, .slice pa d.path.length pc, .int .i64 d.pos, .int .i64 d.many, .string d.lab] 35) := ⟨_, rfl⟩
        have hb1 : Below wr.heap.size wr U1 := by rw [hU1]; exact (Below.refl _ _).alloc (Nat.le_refl _) _
        have hbox : U1.heap[wr.heap.size]? = some (Obj.cells #[.int .i64 d.kind, .slice pa d.path.length pc, .int .i64 d.pos, .int .i64 d.many, .string d.lab] 35) := by rw [hU1]; exact heap_alloc_new _ _
        have y0 : U1.cell? ⟨wr.heap.size, 0, none⟩ = some (.int .i64 d.kind) := by rw [cell_of_row _ _ 0 _ _ _ hbox]; rfl
        have y1 : U1.cell? ⟨wr.heap.size, 1, none⟩ = some (.slice pa d.path.length pc) := by rw [cell_of_row _ _ 1 _ _ _ hbox]; rfl
        have y2 : U1.cell? ⟨wr.heap.size, 2, none⟩ = some (.int .i64 d.pos) := by rw [cell_of_row _ _ 2 _ _ _ hbox]; rfl
        have y3 : U1.cell? ⟨wr.heap.size, 3, none⟩ = some (.int .i64 d.many) := by rw [cell_of_row _ _ 3 _ _ _ hbox]; rfl
        have y4 : U1.cell? ⟨wr.heap.size, 4, none⟩ = some (.string d.lab) := by rw [cell_of_row _ _ 4 _ _ _ hbox]; rfl
        have hb1' : Below W.heap.size W U1 := hbr.trans (hb1.mono hzr)
        have hln := pline_any d pa pc U1 (hxd.below hb1) (HT.out.below hb1') hxp.1 hxp.2
        unfold ddV at hln
        have HLN := hide hln
        have HW1 := hide (Sb.isW_below hw.out hb1)
        have hd1 := hxd.len
        have hd2 := hxd.cap
        unfold maxLen at hd2
        have HB1 := hide hb1'
        have hz1 := hb1'.size
        have HTK := hide (show (dds L).take (i + 1) = (dds L).take i ++ [d] by
          have h1 := (List.getElem?_eq_some_iff.1 HX.out)
          rw [List.take_succ_eq_append_getElem h1.1, h1.2])
        clear hln hxd hbox hb1 hb1'
        by_cases hc : lineC d = 0
        · have hcb : (lineC d != 0) = false := by rw [hc]; rfl
          have hlen := line_len hc hxp.1 hxp.2
          have HC := hide hc
          clear hc
          go_wp2_with fail
          rw [← hU1]
          clear hU1
          go_wp2_with fail
          refine Calls.mono HLN.out ?_
          rintro e w2 ⟨rfl, hb2⟩
          have hw2 := Sb.isW_below HW1.out hb2
          have hb2' := HB1.out.trans (hb2.mono hz1)
          have HWS := hide (Sb.writeString_any (w.heap.size + 1) (w.heap.size + 1) _ (str (lineP d)) w2 hw2 (by rw [Lib.byteCells_length, str_size]; omega) (by have := hb2'.size; omega))
          have HB2 := hide hb2'
          have hz2 := hb2'.size
          clear hb2 hb2' hw2 y0 y1 y2 y3 y4
          go_wp2_with fail
          refine Calls.mono HWS.out ?_
          rintro e w3 ⟨rfl, hw3, hb3, _⟩
          have HB3 := hide (show Below W.heap.size W w3 from HB2.out.trans (by rw [hWs]; exact hb3))
          have hz3 := HB3.out.size
          have HWB := hide (Sb.writeByte_any (w.heap.size + 1) (w.heap.size + 1) _ 10 w3 (Or.inr hw3) (by rw [List.length_append, Lib.byteCells_length, sbCells_str, Lib.byteCells_length]; omega) (by omega))
          clear hw3 hb3
          go_wp2_with fail
          refine Calls.mono HWB.out ?_
          rintro e w4 ⟨rfl, hw4, hb4, _⟩
          go_wp2_with fail
          go_roundg (L.length - (i + 1))
          case measure => omega
          case rel =>
            refine ⟨i + 1, rfl, by omega, by go_num, ?_, ?_, HB3.out.trans (by rw [hWs]; exact hb4)⟩
            · have e10 : Lib.byteCells [10] = [Value.int .u8 10] := rfl
              rw [sbCells_str, ← e10, List.append_assoc, ← byteCells_app, ← byteCells_app, ← text_snoc, ← HTK.out] at hw4
              exact Or.inr hw4
            · show ∀ x, _ → _
              rw [HTK.out]
              intro x hx
              rcases List.mem_append.1 hx with hx | hx
              · exact hok.out x hx
              · rw [List.mem_singleton.1 hx]; exact HC.out
        · have hcb : (lineC d != 0) = true := by simpa using hc
          have HE := hide (printP_bad (L := dds L) (by omega) hok.out HX.out hc)
          clear hc
          go_wp2_with fail
          rw [← hU1]
          clear hU1
          go_wp2_with fail
          refine Calls.mono HLN.out ?_
          rintro e w2 ⟨rfl, hb2⟩
          have hb2' := HB1.out.trans (hb2.mono hz1)
          obtain ⟨k0, k1, kf, hbw⟩ := HCL.out w2 hb2'
          have HB3 := hide ((hbw.setCell (p := ⟨w.heap.size, 0, none⟩) (Nat.le_refl _) (.int .i64 (lineC d))).setCell (p := ⟨w.heap.size, 1, none⟩) (Nat.le_refl _) (.int .i64 (i : Int)))
          clear hb2 hb2' hbw y0 y1 y2 y3 y4
          go_wp2_with fail
          obtain ⟨V, hV⟩ : ∃ V, V = (w2.setCell ⟨w.heap.size, 0, none⟩ (.int .i64 (lineC d))).setCell ⟨w.heap.size, 1, none⟩ (.int .i64 (i : Int)) := ⟨_, rfl⟩
          have v0 : V.cell? ⟨w.heap.size, 0, none⟩ = some (.int .i64 (lineC d)) := by rw [hV]; go_simp
          have v1 : V.cell? ⟨w.heap.size, 1, none⟩ = some (.int .i64 (i : Int)) := by rw [hV]; go_simp
          rw [← hV] at HB3 ⊢
          refine bodyPost_ret (v := .tuple #[.string ⟨#[]⟩, .agg #[.int .i64 (lineC d), .int .i64 (i : Int)]]) (by simp [results, Tryd.results7, go_sem, v0, v1]) rfl ⟨by rw [HE.out], HB3.out⟩
      · have hiL : (dds L).take i = dds L := List.take_of_length_le (by omega)
        have h5 := hok.out
        have h6 := hw.out
        rw [hiL] at h5 h6
        have HE := hide (printP_all (L := dds L) (by omega) h5)
        have HS := hide (Tryd.Builder_String_any (w.heap.size + 1) (w.heap.size + 1) _ wr h6 (by omega))
        clear h5 hiL h6 hw hsz'
        generalize textL (dds L) = TX at *
        go_wp2_with fail
        refine Calls.mono HS.out ?_
        rintro e w1 hpost
        obtain ⟨rfl, hb1⟩ := hpost
        obtain ⟨k0, k1, kf, hbw⟩ := HCL.out w1 (hbr.trans (by rw [hWs]; exact hb1))
        have HB3 := hide ((hbw.setCell (p := ⟨w.heap.size, 0, none⟩) (Nat.le_refl _) (.int .i64 0)).setCell (p := ⟨w.heap.size, 1, none⟩) (Nat.le_refl _) (.int .i64 0))
        clear hbw hb1
        go_wp2_with fail
        obtain ⟨V, hV⟩ : ∃ V, V = (w1.setCell ⟨w.heap.size, 0, none⟩ (.int .i64 0)).setCell ⟨w.heap.size, 1, none⟩ (.int .i64 0) := ⟨_, rfl⟩
        have v0 : V.cell? ⟨w.heap.size, 0, none⟩ = some (.int .i64 0) := by rw [hV]; go_simp
        have v1 : V.cell? ⟨w.heap.size, 1, none⟩ = some (.int .i64 0) := by rw [hV]; go_simp
        rw [← hV] at HB3 ⊢
        refine bodyPost_ret (v := .tuple #[.string (str TX), .agg #[.int .i64 0, .int .i64 0]]) (by simp [results, Tryd.results7, go_sem, v0, v1]) rfl ⟨by rw [HE.out], HB3.out⟩
end Go.Proofs.YtkoohfkomlmhoacDoor.Pat
