/- Printed of package pleachingref: the lines of deeds. Of the program's text. -/
/- slices.Grow and slices.Concat at lists of deeds. Of the program's text. -/
import Derived.Test.YtkoohfkomlmhoacGreatDoorProg
import Derived.Test.YtkoohfkomlmhoacGreatDoorKDP17
import Derived.Test.YtkoohfkomlmhoacGreatDoorKDP18
import Derived.Deep.LoopGhost
import Derived.WalkSmall
import Derived.Test.YtkoohfkomlmhoacGreatDoorKDP10
namespace Go.Proofs.YtkoohfkomlmhoacGreatDoor.Pat
open Go.Deep Go.RowKit Deed
set_option linter.unusedVariables false
set_option maxRecDepth 20000

theorem fF_any (c q : Int) (w : World) : Calls Tryz.prog 30 #[.int .i64 c, .int .i64 q] w fun e w' => e = .returned (.agg #[.int .i64 c, .int .i64 q]) ∧ Below w.heap.size w w' := by
  have HB := hide ((Below.refl w.heap.size w).alloc (Nat.le_refl _) (Obj.cells #[.int .i64 c, .int .i64 q] 27))
  go_enter Tryz.func30, Tryz.ntmps30
  go_wp2_with fail
  exact bodyPost_ret (v := .agg #[.int .i64 c, .int .i64 q]) (by simp [results, Tryz.results30, go_sem]) rfl ⟨rfl, HB.out⟩
theorem line_len {d : Dd} (h : lineC d = 0) (hp : d.path.length ≤ 10000) (hl : d.lab.size ≤ 100000) : (lineP d).length ≤ 330000 := by
  obtain ⟨h1, h2, h3⟩ := lineC_zero h
  obtain ⟨p, x, y, e1, e2, e3, e4, e5, e6⟩ := above_not h1 h2
  have hin : ∀ n, n ∈ d.path → In64 n := fun n hn => by
    rw [e1] at hn
    unfold ints at hn
    obtain ⟨m, hm, rfl⟩ := List.mem_map.1 hn
    have := e2 m hm
    exact ⟨by omega, by omega⟩
  have q1 := path_len hin
  have q2 := Lib.itoa_length_le d.pos (by omega) (by omega)
  have q3 := Lib.itoa_length_le d.many (by omega) (by omega)
  have q4 : d.lab.data.size = d.lab.size := rfl
  rw [h3]
  unfold wordsP
  split
  · simp only [joinP, nameW, List.length_append, List.length_cons, List.length_nil, Array.length_toList]
    omega
  · split
    · simp only [joinP, delW, List.length_append, List.length_cons, List.length_nil]
      omega
    · simp only [joinP, insW, List.length_append, List.length_cons, List.length_nil, Array.length_toList]
      omega
theorem text_len : ∀ (L : List Dd), (∀ d, d ∈ L → lineC d = 0 ∧ d.path.length ≤ 10000 ∧ d.lab.size ≤ 100000) → (textL L).length ≤ L.length * 330001
  | [], _ => by simp [textL]
  | d :: L, h => by
    have h1 := h d (by simp)
    have h2 := line_len h1.1 h1.2.1 h1.2.2
    have h3 := text_len L (fun x hx => h x (by simp [hx]))
    have e : textL (d :: L) = (lineP d ++ [10]) ++ textL L := by simp [textL]
    rw [e]
    simp only [List.length_append, List.length_cons, List.length_nil]
    omega
theorem text_snoc (L : List Dd) (d : Dd) : textL (L ++ [d]) = textL L ++ (lineP d ++ [10]) := by simp [textL]
theorem printP_many {L : List Dd} (h : 80 < L.length) : printP L = ([], 2, -1) := by unfold printP; rw [if_pos h]
theorem printP_bad {L : List Dd} (h : ¬ 80 < L.length) {i : Nat} {d : Dd} (h0 : ∀ x, x ∈ L.take i → lineC x = 0) (hd : L[i]? = some d) (hc : lineC d ≠ 0) : printP L = ([], lineC d, (i : Int)) := by
  unfold printP
  rw [if_neg h, bad_at h0 hd hc]
  simp
theorem printP_all {L : List Dd} (h : ¬ 80 < L.length) (h0 : ∀ x, x ∈ L → lineC x = 0) : printP L = (textL L, 0, 0) := by
  unfold printP
  rw [if_neg h, none_bad h0]

set_option maxHeartbeats 4000000 in
theorem printed_any (la : Option Addr) (lc : Nat) (L : List Pd) (w : World) (hL : DsIn w la L) (hl : L.length ≤ lc) (hlm : lc ≤ maxLen) (ht : Tab w) (hp : ∀ x, x ∈ L → x.1.path.length ≤ 10000 ∧ x.1.lab.size ≤ 100000) :
    Calls Tryz.prog 8 #[.slice la L.length lc] w fun e w' => e = .returned (.tuple #[.string (str (printP (dds L)).1), .agg #[.int .i64 (printP (dds L)).2.1, .int .i64 (printP (dds L)).2.2]]) ∧ Below w.heap.size w w' := by
  unfold maxLen at hlm
  have hdl := dds_len L
  obtain ⟨W, hW⟩ : ∃ W, W = w.alloc (Obj.cells #[.int .i64 0, .int .i64 0] 27) := ⟨_, rfl⟩
  have hB : Below w.heap.size w W := by rw [hW]; exact (Below.refl _ _).alloc (Nat.le_refl _) _
  have hWs : W.heap.size = w.heap.size + 1 := by rw [hW]; simp
  have hbox : W.heap[w.heap.size]? = some (Obj.cells #[.int .i64 0, .int .i64 0] 27) := by rw [hW]; exact heap_alloc_new _ _
  have hcells : ∀ W', Below W.heap.size W W' → W'.cell? ⟨w.heap.size, 0, none⟩ = some (.int .i64 0) ∧ W'.cell? ⟨w.heap.size, 1, none⟩ = some (.int .i64 0) ∧ (∀ o, W'.frozen? ⟨w.heap.size, o, none⟩ = false) ∧ Below w.heap.size w W' := fun W' h => by
    have hb := (h.block w.heap.size (by omega)).trans hbox
    exact ⟨by rw [cell_of_row _ _ 0 _ _ _ hb]; rfl, by rw [cell_of_row _ _ 1 _ _ _ hb]; rfl, fun o => by simp [World.frozen?, hb], hB.trans (h.mono (by omega))⟩
  have HCL := hide hcells
  have HL := hide (hL.below hB)
  have HT := hide (ht.below hB)
  have HP := hide hp
  clear hcells hbox hL ht hp hB
  by_cases h80 : 80 < L.length
  · have HE := hide (printP_many (L := dds L) (by omega))
    go_enter Tryz.func8, Tryz.ntmps8
    go_wp2_with fail
    rw [← hW]
    clear hW
    refine Calls.mono (fF_any 2 (-1) W) ?_
    rintro e w1 ⟨rfl, hb1⟩
    obtain ⟨k0, k1, kf, hbw⟩ := HCL.out w1 hb1
    have HB2 := hide ((hbw.setCell (p := ⟨w.heap.size, 0, none⟩) (Nat.le_refl _) (.int .i64 2)).setCell (p := ⟨w.heap.size, 1, none⟩) (Nat.le_refl _) (.int .i64 (-1)))
    clear hb1 hbw
    go_wp2_with fail
    obtain ⟨V, hV⟩ : ∃ V, V = (w1.setCell ⟨w.heap.size, 0, none⟩ (.int .i64 2)).setCell ⟨w.heap.size, 1, none⟩ (.int .i64 (-1)) := ⟨_, rfl⟩
    have v0 : V.cell? ⟨w.heap.size, 0, none⟩ = some (.int .i64 2) := by rw [hV]; go_simp
    have v1 : V.cell? ⟨w.heap.size, 1, none⟩ = some (.int .i64 (-1)) := by rw [hV]; go_simp
    rw [← hV] at HB2 ⊢
    refine bodyPost_ret (v := .tuple #[.string ⟨#[]⟩, .agg #[.int .i64 2, .int .i64 (-1)]]) (by simp [results, Tryz.results8, go_sem, v0, v1]) rfl ⟨by rw [HE.out], HB2.out⟩
  · go_enter Tryz.func8, Tryz.ntmps8
    go_wp2_with fail
    rw [← hW]
    clear hW
    go_loopg [4, 5] L.length (fun gk v4 v5 wr => ∃ i : Nat, gk = L.length - i ∧ i ≤ L.length ∧ v5 = .int .i64 (i : Nat) ∧ v4 = .string (str (textL ((dds L).take i))) ∧ Hid (∀ x, x ∈ (dds L).take i → lineC x = 0) ∧ Below W.heap.size W wr)
    case atStart => exact ⟨0, rfl, Nat.zero_le _, rfl, rfl, (fun x hx => by simp at hx), Below.refl _ _⟩
    case round =>
      obtain ⟨i, hgk, hi, rfl, rfl, hok, hbr⟩ := hrel
      have hsz := text_len ((dds L).take i) (fun d hd => ⟨hok.out d hd, by
        obtain ⟨x, hx, rfl⟩ := List.mem_map.1 (List.mem_of_mem_take hd)
        exact HP.out x hx⟩)
      have hn80 : ((dds L).take i).length ≤ 80 := by rw [List.length_take]; omega
      have hsz' : (textL ((dds L).take i)).length ≤ 26400080 := by
        generalize ((dds L).take i).length = n at hn80 hsz
        omega
      clear hsz hn80
      by_cases hlt : i < L.length
      · obtain ⟨x, hx⟩ : ∃ x, L[i]? = some x := ⟨_, List.getElem?_eq_getElem hlt⟩
        obtain ⟨b, o, rfl, x0, x1, x2, x3, x4, hxd⟩ := (HL.out.below hbr).at hx
        have hxp := HP.out x (List.mem_of_getElem? hx)
        have HX := hide (dds_at hx)
        clear hx
        obtain ⟨d, pa, pc⟩ := x
        simp only at x0 x1 x2 x3 x4 hxd HX hxp
        have hln := lineOf_any d pa pc wr hxd (HT.out.below hbr) hxp.1 hxp.2
        unfold ddV at hln
        have HLN := hide hln
        have hd1 := hxd.len
        have hd2 := hxd.cap
        unfold maxLen at hd2
        have HBR := hide hbr
        have HTK := hide (show (dds L).take (i + 1) = (dds L).take i ++ [d] by
          have h1 := (List.getElem?_eq_some_iff.1 HX.out)
          rw [List.take_succ_eq_append_getElem h1.1, h1.2])
        clear hln hxd
        by_cases hc : lineC d = 0
        · have hcb : (lineC d != 0) = false := by rw [hc]; rfl
          have hlen := line_len hc hxp.1 hxp.2
          have HC := hide hc
          clear hc
          go_wp2_with fail
          refine Calls.mono HLN.out ?_
          rintro e w2 ⟨rfl, hb2⟩
          have HB2 := hide (HBR.out.trans (hb2.mono HBR.out.size))
          clear hb2
          go_wp2_with fail
          go_roundg (L.length - (i + 1))
          case measure => omega
          case rel =>
            refine ⟨i + 1, rfl, by omega, by go_num, ?_, ?_, HB2.out⟩
            · rw [HTK.out, text_snoc, show (⟨#[10]⟩ : ByteArray) = str [10] from rfl, str_append, str_append]
            · show ∀ x, _ → _
              rw [HTK.out]
              intro x hx
              rcases List.mem_append.1 hx with hx | hx
              · exact hok.out x hx
              · rw [List.mem_singleton.1 hx]; exact HC.out
        · have hcb : (lineC d != 0) = true := by simpa using hc
          have HE := hide (printP_bad (L := dds L) (by omega) hok.out HX.out hc)
          clear hc
          go_wp2_with fail
          refine Calls.mono HLN.out ?_
          rintro e w2 ⟨rfl, hb2⟩
          have hbW2 := HBR.out.trans (hb2.mono HBR.out.size)
          clear hb2
          go_wp2_with fail
          refine Calls.mono (fF_any (lineC d) (i : Int) w2) ?_
          rintro e w3 ⟨rfl, hb3⟩
          obtain ⟨k0, k1, kf, hbw⟩ := HCL.out w3 (hbW2.trans (hb3.mono hbW2.size))
          have HB3 := hide ((hbw.setCell (p := ⟨w.heap.size, 0, none⟩) (Nat.le_refl _) (.int .i64 (lineC d))).setCell (p := ⟨w.heap.size, 1, none⟩) (Nat.le_refl _) (.int .i64 (i : Int)))
          clear hb3 hbw hbW2
          go_wp2_with fail
          obtain ⟨V, hV⟩ : ∃ V, V = (w3.setCell ⟨w.heap.size, 0, none⟩ (.int .i64 (lineC d))).setCell ⟨w.heap.size, 1, none⟩ (.int .i64 (i : Int)) := ⟨_, rfl⟩
          have v0 : V.cell? ⟨w.heap.size, 0, none⟩ = some (.int .i64 (lineC d)) := by rw [hV]; go_simp
          have v1 : V.cell? ⟨w.heap.size, 1, none⟩ = some (.int .i64 (i : Int)) := by rw [hV]; go_simp
          rw [← hV] at HB3 ⊢
          refine bodyPost_ret (v := .tuple #[.string ⟨#[]⟩, .agg #[.int .i64 (lineC d), .int .i64 (i : Int)]]) (by simp [results, Tryz.results8, go_sem, v0, v1]) rfl ⟨by rw [HE.out], HB3.out⟩
      · have hiL : (dds L).take i = dds L := List.take_of_length_le (by omega)
        have h5 := hok.out
        rw [hiL] at h5 ⊢
        have HE := hide (printP_all (L := dds L) (by omega) h5)
        clear h5 hiL
        obtain ⟨k0, k1, kf, hbw⟩ := HCL.out wr hbr
        have HB3 := hide ((hbw.setCell (p := ⟨w.heap.size, 0, none⟩) (Nat.le_refl _) (.int .i64 0)).setCell (p := ⟨w.heap.size, 1, none⟩) (Nat.le_refl _) (.int .i64 0))
        clear hbw
        generalize textL (dds L) = TX at *
        go_wp2_with fail
        obtain ⟨V, hV⟩ : ∃ V, V = (wr.setCell ⟨w.heap.size, 0, none⟩ (.int .i64 0)).setCell ⟨w.heap.size, 1, none⟩ (.int .i64 0) := ⟨_, rfl⟩
        have v0 : V.cell? ⟨w.heap.size, 0, none⟩ = some (.int .i64 0) := by rw [hV]; go_simp
        have v1 : V.cell? ⟨w.heap.size, 1, none⟩ = some (.int .i64 0) := by rw [hV]; go_simp
        rw [← hV] at HB3 ⊢
        refine bodyPost_ret (v := .tuple #[.string (str TX), .agg #[.int .i64 0, .int .i64 0]]) (by simp [results, Tryz.results8, go_sem, v0, v1]) rfl ⟨by rw [HE.out], HB3.out⟩
end Go.Proofs.YtkoohfkomlmhoacGreatDoor.Pat
namespace Go.Proofs.YtkoohfkomlmhoacGreatDoor.Deed
open Go.Deep Go.RowKit
set_option linter.unusedVariables false
set_option maxRecDepth 20000

theorem Tryz.infoDeed : (Tryz.prog.info? 38).map (fun i => (i.zero, i.size, i.bytes)) = some (some (.agg #[.int .i64 0, .slice none 0 0, .int .i64 0, .int .i64 0, .string ⟨#[]⟩]), 5, 64) := by kernel_rfl

end Go.Proofs.YtkoohfkomlmhoacGreatDoor.Deed
