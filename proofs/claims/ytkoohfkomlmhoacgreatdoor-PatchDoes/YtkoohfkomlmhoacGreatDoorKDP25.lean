/- Parse of package patch: the deeds of lines. Of the program's text. -/
/- The methods of strings.Builder by which one that lies in a block of its own is written. Of the program's text. -/
import Derived.Test.YtkoohfkomlmhoacGreatDoorProg
import Derived.Test.YtkoohfkomlmhoacGreatDoorKDP16
import Derived.Test.YtkoohfkomlmhoacGreatDoorKDP24
import Derived.Lib.Builder
import Derived.Lib.AppendStr
import Derived.Lib.UnsafeStr
import Derived.Lib.Strings
import Derived.Laws.Externs
import Derived.Laws.Entries
import Derived.Deep.QuietTactic
import Derived.BigQuiet
import Derived.WalkSmall
import Derived.Test.YtkoohfkomlmhoacGreatDoorKDP11
import Derived.Test.YtkoohfkomlmhoacGreatDoorKDP00
namespace Go.Proofs.YtkoohfkomlmhoacGreatDoor.Pat
open Go.Deep Go.RowKit Deed
set_option linter.unusedVariables false
set_option maxRecDepth 20000

theorem count10 (l : List UInt8) : Lib.countByte l 10 = (cutP 10 l).length - 1 := by
  rw [cut_count]
  rfl
theorem suffix10_yes {l : List UInt8} (h : l ≠ []) (hl : (cutP 10 l).getLastD [] = []) : Lib.hasSuffix l [10] = true := (cut_last 10 l h).1 hl
theorem suffix10_no {l : List UInt8} (h : l ≠ []) (hl : (cutP 10 l).getLastD [] ≠ []) : Lib.hasSuffix l [10] = false := by
  cases hb : Lib.hasSuffix l [10] with
  | false => rfl
  | true => exact absurd ((cut_last 10 l h).2 hb) hl

set_option maxHeartbeats 4000000 in
theorem pparse_any (s : ByteArray) (w : World) (hs : s.size ≤ 100000000) (ht : Tab w) : Calls Tryz.prog 9 #[.string s] w (DeedsEnd s.data.toList w) := by
  obtain ⟨W, hW⟩ : ∃ W, W = w.alloc (Obj.cells #[.int .i64 0, .int .i64 0] 27) := ⟨_, rfl⟩
  have hB : Below w.heap.size w W := by rw [hW]; exact (Below.refl _ _).alloc (Nat.le_refl _) _
  have hWs : W.heap.size = w.heap.size + 1 := by rw [hW]; simp
  have hbox : W.heap[w.heap.size]? = some (Obj.cells #[.int .i64 0, .int .i64 0] 27) := by rw [hW]; exact heap_alloc_new _ _
  have hcells : ∀ W', Below W.heap.size W W' → W'.cell? ⟨w.heap.size, 0, none⟩ = some (.int .i64 0) ∧ W'.cell? ⟨w.heap.size, 1, none⟩ = some (.int .i64 0) ∧ (∀ o, W'.frozen? ⟨w.heap.size, o, none⟩ = false) ∧ Below w.heap.size w W' := fun W' h => by
    have hb := (h.block w.heap.size (by omega)).trans hbox
    exact ⟨by rw [cell_of_row _ _ 0 _ _ _ hb]; rfl, by rw [cell_of_row _ _ 1 _ _ _ hb]; rfl, fun o => by simp [World.frozen?, hb], hB.trans (h.mono (by omega))⟩
  have HCL := hide hcells
  have HT := hide (ht.below hB)
  obtain ⟨k0, k1, kf, hbw⟩ := hcells W (Below.refl _ _)
  have HBW := hide hbw
  have hsl : s.data.toList.length = s.size := by simp
  have hlen := cut_len 10 s.data.toList
  rw [hsl] at hlen
  obtain ⟨R, hR⟩ : ∃ R, R = s.data.toList := ⟨_, rfl⟩
  have hsR : s = str R := by rw [hR]
  have hRl : R.length = s.size := by rw [hR]; omega
  rw [← hR] at hlen ⊢
  clear hcells hbox hB hsl hR hbw ht
  subst hsR
  rw [str_size] at hs hlen
  clear hRl
  have HCO := hide (Tryz.strings_Count_one (str R) 10 W)
  rw [show (str R).data.toList = R by simp, count10] at HCO
  obtain ⟨P, hP⟩ : ∃ P, P = cutP 10 R := ⟨_, rfl⟩
  have HP := hide hP
  have hpos : 0 < P.length := by rw [hP]; exact List.length_pos_iff.2 (cutP_ne _ _)
  rw [← hP] at HCO hlen
  obtain ⟨m, hm⟩ : ∃ m, P.length = m + 1 := ⟨P.length - 1, by omega⟩
  have hPm : P.length ≤ m + 1 := by omega
  have hmP : m < P.length := by omega
  rw [show P.length - 1 = m by omega] at HCO
  have HM := hide (show (cutP 10 R).length - 1 = m by rw [← HP.out]; omega)
  clear hP hm
  by_cases h0 : R = []
  · have HE := hide (show parseP R = ([], 0, 0) by rw [h0]; rfl)
    have hm0 : m = 0 := by
      have := HM.out
      rw [h0] at this
      simpa [cutP] using this.symm
    subst h0
    subst hm0
    have HWQ := hide hW
    have HB3 := hide ((HBW.out.setCell (p := ⟨w.heap.size, 0, none⟩) (Nat.le_refl _) (.int .i64 0)).setCell (p := ⟨w.heap.size, 1, none⟩) (Nat.le_refl _) (.int .i64 0))
    go_enter Tryz.func9, Tryz.ntmps9
    go_wp2_with fail
    rw [← hW]
    clear hW
    refine Calls.mono HCO.out ?_
    rintro e w1 ⟨rfl, hw1⟩
    subst hw1
    go_wp2_with fail
    go_loopg [5, 27] 0 (fun gk v5 v27 wr => gk = 0 ∧ v5 = .slice none 0 0 ∧ v27 = .int .i64 0 ∧ wr = w1)
    case atStart => exact ⟨rfl, rfl, rfl, rfl⟩
    case round =>
      obtain ⟨hgk, rfl, rfl, hwr⟩ := hrel
      subst hwr
      go_wp2_with fail
      obtain ⟨V, hV⟩ : ∃ V, V = (wr.setCell ⟨w.heap.size, 0, none⟩ (.int .i64 0)).setCell ⟨w.heap.size, 1, none⟩ (.int .i64 0) := ⟨_, rfl⟩
      have v0 : V.cell? ⟨w.heap.size, 0, none⟩ = some (.int .i64 0) := by rw [hV]; go_simp
      have v1 : V.cell? ⟨w.heap.size, 1, none⟩ = some (.int .i64 0) := by rw [hV]; go_simp
      rw [← hV] at HB3 ⊢
      refine bodyPost_ret (v := .tuple #[.slice none 0 0, .agg #[.int .i64 0, .int .i64 0]]) (by simp [results, Tryz.results9, go_sem, v0, v1]) rfl (deeds_empty HE.out rfl HB3.out)
  · have hb0 : R.isEmpty = false := by
      cases hh : R with
      | nil => exact absurd hh h0
      | cons a b => rfl
    have HNE := hide h0
    have HSF := hide (Tryz.strings_HasSuffix (str R) ⟨#[10]⟩ W (by rw [str_size]; omega))
    rw [show (str R).data.toList = R by simp, show (⟨#[10]⟩ : ByteArray).data.toList = [10] from rfl] at HSF
    clear h0
    by_cases hz : (cutP 10 R).getLastD [] = []
    · rw [suffix10_yes HNE.out hz] at HSF
      have HZ0 := hide hz
      clear hz
      by_cases h80 : 80 < m
      · have HE := hide (parse_many HNE.out HZ0.out (by rw [HM.out]; exact h80))
        go_enter Tryz.func9, Tryz.ntmps9
        go_wp2_with fail
        rw [← hW]
        clear hW
        refine Calls.mono HCO.out ?_
        rintro e w1 ⟨rfl, hw1⟩
        subst hw1
        go_wp2_with fail
        refine Calls.mono HSF.out ?_
        rintro e w2 ⟨rfl, hw2⟩
        subst hw2
        have HB3 := hide ((HBW.out.setCell (p := ⟨w.heap.size, 0, none⟩) (Nat.le_refl _) (.int .i64 2)).setCell (p := ⟨w.heap.size, 1, none⟩) (Nat.le_refl _) (.int .i64 (-1)))
        go_wp2_with fail
        obtain ⟨V, hV⟩ : ∃ V, V = (w2.setCell ⟨w.heap.size, 0, none⟩ (.int .i64 2)).setCell ⟨w.heap.size, 1, none⟩ (.int .i64 (-1)) := ⟨_, rfl⟩
        have v0 : V.cell? ⟨w.heap.size, 0, none⟩ = some (.int .i64 2) := by rw [hV]; go_simp
        have v1 : V.cell? ⟨w.heap.size, 1, none⟩ = some (.int .i64 (-1)) := by rw [hV]; go_simp
        rw [← hV] at HB3 ⊢
        refine bodyPost_ret (v := .tuple #[.slice none 0 0, .agg #[.int .i64 2, .int .i64 (-1)]]) (by simp [results, Tryz.results9, go_sem, v0, v1]) rfl (deeds_empty HE.out rfl HB3.out)
      · go_enter Tryz.func9, Tryz.ntmps9
        go_wp2_with fail
        rw [← hW]
        clear hW
        refine Calls.mono HCO.out ?_
        rintro e w1 ⟨rfl, hw1⟩
        subst hw1
        go_wp2_with fail
        refine Calls.mono HSF.out ?_
        rintro e w2 ⟨rfl, hw2⟩
        subst hw2
        clear HSF HCO k0 k1 kf
        go_wp2_with fail
        go_loopg [0, 5, 27] m (fun gk v0 v5 v27 wr => ∃ (i : Nat) (A : List Pd) (r : List UInt8) (oa : Option Addr) (oc : Nat), gk = m - i ∧ i ≤ m ∧ v27 = .int .i64 (i : Nat) ∧ v5 = .slice oa i oc ∧ v0 = .string (str r) ∧ r.length ≤ R.length ∧ Hid (P.drop i = cutP 10 r) ∧ Hid (i = A.length) ∧ Hid (Row w2.heap.size wr (.slice oa i oc) A) ∧ Hid (dds A = (P.take i).map deedP) ∧ Hid (∀ x, x ∈ P.take i → deedC x = 0) ∧ Below w2.heap.size w2 wr)
        case atStart => exact ⟨0, [], R, none, 0, rfl, Nat.zero_le _, rfl, rfl, rfl, Nat.le_refl _, HP.out, rfl, Row.nil _ _, rfl, (fun x hx => by simp at hx), Below.refl _ _⟩
        case round =>
          obtain ⟨i, A, r, oa, oc, hgk, hi, rfl, rfl, rfl, hrl, hdr, hA, hRow, hdd, hok, hbr⟩ := hrel
          have hzr := hbr.size
          by_cases hlt : i < m
          · have HC := hide (cut1_any r 10 wr (by omega) (HT.out.below hbr))
            have HBR := hide hbr
            clear hbr
            go_wp2_with fail
            refine Calls.mono HC.out ?_
            rintro e wc ⟨x, r', more, rfl, hr', hx, hcut, hbc⟩
            have hcut' : cutP 10 r = x :: cutP 10 r' := by
              rcases hcut with ⟨_, h2⟩ | ⟨_, h2⟩
              · have h3 := congrArg List.length (hdr.out.trans h2)
                simp only [List.length_drop, List.length_cons, List.length_nil] at h3
                omega
              · exact h2
            obtain ⟨g1, g2, _⟩ := drop_cons_at (hdr.out.trans hcut')
            have HG2 := hide g2
            have HTK := hide (take_at g1)
            have HX := hide (show (cutP 10 R).dropLast[i]? = some x by
              rw [← HP.out, List.getElem?_dropLast, if_pos (by omega)]
              exact g1)
            have HOKD := hide (show ∀ y, y ∈ (cutP 10 R).dropLast.take i → deedC y = 0 by
              rw [← HP.out, List.dropLast_eq_take, List.take_take, Nat.min_eq_left (by omega)]
              exact hok.out)
            have hbrc := HBR.out.trans (hbc.mono hzr)
            have hdi := pdeed_any (str x) wc (by rw [str_size]; omega) (HT.out.below hbrc)
            rw [show (str x).data.toList = x by simp] at hdi
            have HDI := hide hdi
            have HBC := hide hbrc
            have HRC := hide (hRow.out.below hbc)
            have hzc := hbrc.size
            clear g1 g2 hdi hbc hbrc hcut hcut' hdr HC
            go_wp2_with fail
            refine Calls.mono HDI.out ?_
            rintro e wd ⟨pa, pc, rfl, hd, hnew, hb2⟩
            have HDD := hide (show (P.take (i + 1)).map deedP = (P.take i).map deedP ++ [deedP x] by rw [HTK.out, List.map_append]; rfl)
            have hz2 := hb2.size
            obtain ⟨D, hD⟩ : ∃ D, D = deedP x := ⟨_, rfl⟩
            rw [← hD] at hd HDD ⊢
            unfold ddV
            have hdl := hd.len
            have hdc := hd.cap
            unfold maxLen at hdc
            have hb12 := HBC.out.trans (hb2.mono hzc)
            clear hD
            by_cases hc : deedC x = 0
            · have hcb : (deedC x != 0) = false := by rw [hc]; rfl
              have HCX := hide hc
              have b8 : Below wd.heap.size wd (wd.alloc (Obj.cells #[.int .i64 D.kind, .slice pa D.path.length pc, .int .i64 D.pos, .int .i64 D.many, .string D.lab] 38)) := (Below.refl _ _).alloc (Nat.le_refl _) _
              have hrow8 := (HRC.out.below hb2).below b8
              obtain ⟨va', vc', w4, hr4, hrow4, hg4', hat4⟩ := hrow8.push (n := i) hA.out (D, pa, pc) (hd.below b8) (fun hp0 a ha => by
                obtain ⟨ab, ao, ap⟩ := a
                rcases hd.path with hp1 | ⟨pb, po, pe, _⟩
                · exact absurd hp1 hp0
                · have ha' : pa = some ⟨ab, ao, ap⟩ := ha
                  rw [ha'] at pe
                  injection pe with pe
                  injection pe with e1 e2 e3
                  subst e1 e2 e3
                  have h5 := hnew ab ao ha'
                  refine ⟨by simp only; omega, fun e => ?_⟩
                  have := (ownBlockN_lt HRC.out.own e).2
                  simp only at this
                  omega) (by have := hA.out; omega) (by simp; omega)
              simp only at hr4 hrow4
              have hs8 : (wd.alloc (Obj.cells #[.int .i64 D.kind, .slice pa D.path.length pc, .int .i64 D.pos, .int .i64 D.many, .string D.lab] 38)).heap.size = wd.heap.size + 1 := by simp
              rw [hs8] at hr4
              have HR4 := hide hr4
              have hbw4 : Below w2.heap.size w2 w4 := (hb12.trans (b8.mono (by omega))).grown hg4' (by have := hb12.size; simp; omega) (fun k hk => (ownBlockN_lt HRC.out.own hk).1)
              have HROW4 := hide hrow4
              clear hc hr4 hrow4 hg4' hat4 hrow8 b8 hs8
              go_wp2_with (at_builtin; refine wpList_append_run rfl _ _ _ rfl rfl HR4.out rfl rfl ?_)
              go_wp2_with fail
              go_roundg (m - (i + 1))
              case measure => omega
              case rel =>
                refine ⟨i + 1, A ++ [(D, pa, pc)], r', va', vc', rfl, by omega, by go_num, rfl, rfl, by omega, HG2.out, ?_, HROW4.out, ?_, ?_, hbw4⟩
                · show _ = _
                  rw [List.length_append, ← hA.out]
                  rfl
                · show _ = _
                  rw [dds_append, hdd.out, HDD.out]
                  rfl
                · show ∀ x, _ → _
                  rw [HTK.out]
                  intro y hy
                  rcases List.mem_append.1 hy with hy | hy
                  · exact hok.out y hy
                  · rw [List.mem_singleton.1 hy]; exact HCX.out
            · have hcb : (deedC x != 0) = true := by simpa using hc
              have HE := hide (parse_bad HNE.out HZ0.out (by rw [HM.out]; exact h80) HOKD.out HX.out hc)
              obtain ⟨W8, hW8⟩ : ∃ W8, W8 = wd.alloc (Obj.cells #[.int .i64 D.kind, .slice pa D.path.length pc, .int .i64 D.pos, .int .i64 D.many, .string D.lab] 38) := ⟨_, rfl⟩
              have b8 : Below wd.heap.size wd W8 := by rw [hW8]; exact (Below.refl _ _).alloc (Nat.le_refl _) _
              have hbW8 := hb12.trans (b8.mono (by omega))
              obtain ⟨k0, k1, kf, hbw⟩ := HCL.out W8 hbW8
              have HB3 := hide ((hbw.setCell (p := ⟨w.heap.size, 0, none⟩) (Nat.le_refl _) (.int .i64 (deedC x))).setCell (p := ⟨w.heap.size, 1, none⟩) (Nat.le_refl _) (.int .i64 (i : Int)))
              have HWE := hide hW8
              have y0 := k0
              have y1 := k1
              have f0 := kf 0
              have f1 := kf 1
              rw [hW8] at k0 k1 f0 f1
              clear hc hW8 hbw b8 hbW8 kf
              go_wp2_with fail
              rw [← HWE.out]
              have f0' : W8.frozen? ⟨w.heap.size, 0, none⟩ = false := by rw [HWE.out]; exact f0
              have f1' : W8.frozen? ⟨w.heap.size, 1, none⟩ = false := by rw [HWE.out]; exact f1
              obtain ⟨V, hV⟩ : ∃ V, V = (W8.setCell ⟨w.heap.size, 0, none⟩ (.int .i64 (deedC x))).setCell ⟨w.heap.size, 1, none⟩ (.int .i64 (i : Int)) := ⟨_, rfl⟩
              have v0 : V.cell? ⟨w.heap.size, 0, none⟩ = some (.int .i64 (deedC x)) := by rw [hV]; go_simp
              have v1 : V.cell? ⟨w.heap.size, 1, none⟩ = some (.int .i64 (i : Int)) := by rw [hV]; go_simp
              rw [← hV] at HB3 ⊢
              refine bodyPost_ret (v := .tuple #[.slice none 0 0, .agg #[.int .i64 (deedC x), .int .i64 (i : Int)]]) (by simp [results, Tryz.results9, go_sem, v0, v1]) rfl (deeds_empty HE.out rfl HB3.out)
          · have him : i = m := by omega
            have HE := hide (parse_all HNE.out HZ0.out (by rw [HM.out]; exact h80) (show ∀ y, y ∈ (cutP 10 R).dropLast → deedC y = 0 by
              rw [← HP.out, List.dropLast_eq_take, show P.length - 1 = i by omega]
              exact hok.out))
            have HDA := hide (show dds A = (cutP 10 R).dropLast.map deedP by
              rw [hdd.out, ← HP.out, List.dropLast_eq_take, show P.length - 1 = i by omega])
            obtain ⟨k0, k1, kf, hbw⟩ := HCL.out wr hbr
            have HBW := hide hbw
            obtain ⟨va2, vc2, hv2, hl2, hm2⟩ := hRow.out.form
            injection hv2 with hv3 hv4 hv5
            subst hv5
            clear hbw him hv3
            go_wp2_with fail
            obtain ⟨V, hV⟩ : ∃ V, V = (wr.setCell ⟨w.heap.size, 0, none⟩ (.int .i64 0)).setCell ⟨w.heap.size, 1, none⟩ (.int .i64 0) := ⟨_, rfl⟩
            have v0 : V.cell? ⟨w.heap.size, 0, none⟩ = some (.int .i64 0) := by rw [hV]; go_simp
            have v1 : V.cell? ⟨w.heap.size, 1, none⟩ = some (.int .i64 0) := by rw [hV]; go_simp
            have HBV := hide (show Below w.heap.size w V by rw [hV]; exact (HBW.out.setCell (p := ⟨w.heap.size, 0, none⟩) (Nat.le_refl _) _).setCell (p := ⟨w.heap.size, 1, none⟩) (Nat.le_refl _) _)
            rw [← hV]
            refine bodyPost_ret (v := .tuple #[.slice oa i oc, .agg #[.int .i64 0, .int .i64 0]]) (by simp [results, Tryz.results9, go_sem, v0, v1]) rfl ?_
            have hoff : DsIn V oa A := by
              have hk : Row w2.heap.size V (.slice oa i oc) A := hRow.out.keep fun q hq1 hq2 => by
                rw [hV, Below.heap_setCell _ _ _ _ (by show q ≠ w.heap.size; omega), Below.heap_setCell _ _ _ _ (by show q ≠ w.heap.size; omega)]
              exact hk.ds hA.out
            refine ⟨oa, oc, A, ?_, ?_, hoff, hl2, hm2, HBV.out⟩
            · rw [HE.out, ← hA.out]
            · rw [HE.out, HDA.out]
    · rw [suffix10_no HNE.out hz] at HSF
      have HE := hide (parse_short HNE.out hz)
      rw [HM.out] at HE
      clear hz
      go_enter Tryz.func9, Tryz.ntmps9
      go_wp2_with fail
      rw [← hW]
      clear hW
      refine Calls.mono HCO.out ?_
      rintro e w1 ⟨rfl, hw1⟩
      subst hw1
      go_wp2_with fail
      refine Calls.mono HSF.out ?_
      rintro e w2 ⟨rfl, hw2⟩
      subst hw2
      have HB3 := hide ((HBW.out.setCell (p := ⟨w.heap.size, 0, none⟩) (Nat.le_refl _) (.int .i64 5)).setCell (p := ⟨w.heap.size, 1, none⟩) (Nat.le_refl _) (.int .i64 (m : Int)))
      go_wp2_with fail
      obtain ⟨V, hV⟩ : ∃ V, V = (w2.setCell ⟨w.heap.size, 0, none⟩ (.int .i64 5)).setCell ⟨w.heap.size, 1, none⟩ (.int .i64 (m : Int)) := ⟨_, rfl⟩
      have v0 : V.cell? ⟨w.heap.size, 0, none⟩ = some (.int .i64 5) := by rw [hV]; go_simp
      have v1 : V.cell? ⟨w.heap.size, 1, none⟩ = some (.int .i64 (m : Int)) := by rw [hV]; go_simp
      rw [← hV] at HB3 ⊢
      refine bodyPost_ret (v := .tuple #[.slice none 0 0, .agg #[.int .i64 5, .int .i64 (m : Int)]]) (by simp [results, Tryz.results9, go_sem, v0, v1]) rfl (deeds_empty HE.out rfl HB3.out)
end Go.Proofs.YtkoohfkomlmhoacGreatDoor.Pat
namespace Go.Proofs.YtkoohfkomlmhoacGreatDoor.Sb
open Go.RowKit
set_option linter.unusedVariables false
set_option maxRecDepth 20000

theorem Tryz.sizeBuilderB : (Tryz.prog.info? 58).map (·.size) = some 2 := by kernel_rfl
theorem Tryz.liesBuilderB : liesAt Tryz.prog Tryz.prog.depth 58 (2 / Tryz.prog.cellsOf 58) 0 58 1 = true := by kernel_rfl
abbrev IsW (B b : Nat) (bs : List Value) (w : World) : Prop := Lib.IsBuilder 58 5 B b bs w
abbrev WAt (B b : Nat) (bs : List Value) (w : World) : Prop := Lib.BuilderAt 58 5 B b (.pointer (some ⟨b, 0, none⟩)) bs w

set_option maxHeartbeats 1000000 in
set_option maxRecDepth 100000 in
theorem copyCheck_used (b : Nat) (w : World) (h0 : w.cell? ⟨b, 0, none⟩ = some (.pointer (some ⟨b, 0, none⟩))) :
    Calls Tryz.prog 62 #[.pointer (some ⟨b, 0, none⟩)] w fun e w' => e = .returned (.tuple #[]) ∧ w' = w := by
  obtain ⟨j, hj, _⟩ := Option.map_eq_some_iff.1 Tryz.sizeBuilderB
  have hne := Lib.run_neq_ptr_same (P := Tryz.prog) w ⟨b, 0, none⟩ Tryz.underlying55 hj
  go_enter Tryz.func62, Tryz.ntmps62
  go_wp2
  go_end0
  exact ⟨rfl, rfl⟩

set_option maxHeartbeats 1000000 in
set_option maxRecDepth 100000 in
theorem copyCheck_fresh (b : Nat) (w : World) (h0 : w.cell? ⟨b, 0, none⟩ = some (.pointer none)) (hsh : w.shape? b = some (58, 2)) (hfz : w.frozen? ⟨b, 0, none⟩ = false) :
    Calls Tryz.prog 62 #[.pointer (some ⟨b, 0, none⟩)] w fun e w' => e = .returned (.tuple #[]) ∧ w' = w.setCell ⟨b, 0, none⟩ (.pointer (some ⟨b, 0, none⟩)) := by
  obtain ⟨j, hj, hjs⟩ := Option.map_eq_some_iff.1 Tryz.sizeBuilderB
  have hto := Lib.run_to_unsafe (P := Tryz.prog) w ⟨b, 0, none⟩ Tryz.underlying55 Tryz.underlying132 hj (by rw [hjs]; decide) hsh (Nat.zero_lt_succ 1)
  have hfrom := Lib.run_from_unsafe (P := Tryz.prog) w ⟨b, 0, none⟩ Tryz.underlying132 Tryz.underlying55 hj hsh Tryz.liesBuilderB
  have hesc : ∀ x w, (callFunc 96 #[x]).run Tryz.prog w = .ok (.value x) w := fun x w => by
    rw [run_callFunc_extern Tryz.func96 (by kernel_rfl) (by kernel_rfl) (by kernel_rfl) (e := Extern.AbiNoEscape.same) (by kernel_rfl), Lib.run_noEscape]
    rfl
  go_enter Tryz.func62, Tryz.ntmps62
  go_wp2
  go_end0
  exact ⟨rfl, rfl⟩

/-- Behind an operation on the writer in block b all is as it was, but that block and its buffer's row. -/
def WKeep (b : Nat) (w w' : World) : Prop := ∀ i, i < w.heap.size → i ≠ b → (∀ p v, w.heap[b]? = some (.cells #[p, v] 58) → v.ownBlock ≠ some i) → w'.heap[i]? = w.heap[i]?

theorem copyCheck_any (B b : Nat) (bs : List Value) (w : World) (h : IsW B b bs w) :
    Calls Tryz.prog 62 #[.pointer (some ⟨b, 0, none⟩)] w fun e w' => e = .returned (.tuple #[]) ∧ WAt B b bs w' ∧ Below B w w' ∧ (∀ i, i ≠ b → w'.heap[i]? = w.heap[i]?) ∧ w'.heap.size = w.heap.size ∧ (∀ p v, w.heap[b]? = some (.cells #[p, v] 58) → ∃ p', w'.heap[b]? = some (.cells #[p', v] 58)) := by
  rcases h with h | h
  · refine (copyCheck_fresh b w h.cell0 h.shape h.frozen0).mono ?_
    rintro e w' ⟨rfl, rfl⟩
    refine ⟨rfl, h.used _, (Below.refl B w).setCell (p := ⟨b, 0, none⟩) h.1 _, fun i hi => Below.heap_setCell _ _ _ _ hi, by simp [World.setCell], fun p v hv => ⟨.pointer (some ⟨b, 0, none⟩), ?_⟩⟩
    simp [World.setCell, Array.getElem?_modify, hv]
  · refine (copyCheck_used b w h.cell0).mono ?_
    rintro e w' ⟨rfl, rfl⟩
    exact ⟨rfl, h, Below.refl B _, fun _ _ => rfl, rfl, fun p v hv => ⟨p, hv⟩⟩

set_option maxHeartbeats 2000000 in
set_option maxRecDepth 100000 in
theorem writeByte_any (B b : Nat) (bs : List Value) (c : Int) (w : World) (h : IsW B b bs w) (hlen : bs.length + 1 ≤ 140737488355328) (hBw : B ≤ w.heap.size) :
    Calls Tryz.prog 28 #[.pointer (some ⟨b, 0, none⟩), .int .u8 c] w fun e w' => e = .returned .nilIface ∧ WAt B b (bs ++ [.int .u8 c]) w' ∧ Below B w w' ∧ WKeep b w w' := by
  obtain ⟨i0, hi, hz0, hz1, hz2⟩ := info_parts Tryz.infoByte
  go_enter Tryz.func28, Tryz.ntmps28
  go_wp2_with fail
  refine (copyCheck_any B b bs _ h).mono ?_
  rintro e w1 ⟨rfl, h1, hb1, ho1, hs1, hv1⟩
  obtain ⟨hB, v, hbk, hown, hne⟩ := h1
  have c0 : w1.cell? ⟨b, 0, none⟩ = some (.pointer (some ⟨b, 0, none⟩)) := by rw [Lib.cell_of_heap hbk]; rfl
  have c1 : w1.cell? ⟨b, 1, none⟩ = some v := by rw [Lib.cell_of_heap hbk]; rfl
  have HO := hide ho1
  have HV := hide hv1
  have HS := hide hs1
  clear ho1 hv1 hs1
  go_wp2_with (at_builtin; refine wpList_append_own _ rfl _ _ 56 rfl B 5 i0 (.int .u8 0) 1 1 Tryz.underlying56 hi hz0 hz1 hz2 rfl (by decide) _ _ _ rfl (hown.alloc _) ⟨w1.heap.size, 0, none⟩ 1 1 [.int .u8 c] rfl rfl ?c1 ?c2 ?c3 ?c4 ?c5 ?_)
  case c1 =>
    intro j u hj
    match j, hj with
    | 0, hj => simp at hj; subst hj; simp [Addr.add]
  case c2 => intro u hu; simp at hu; subst hu; rfl
  case c3 => unfold maxLen; omega
  case c4 => omega
  case c5 => have := hb1.size; simp; omega
  intro v' w2 hown' hgrow _
  have hlt : b < w1.heap.size := by
    rcases Nat.lt_or_ge b w1.heap.size with h' | h'
    · exact h'
    · simp [Array.getElem?_eq_none h'] at hbk
  have hb2 : w2.heap[b]? = some (.cells #[.pointer (some ⟨b, 0, none⟩), v] 58 (0, 0)) := by
    rw [hgrow.block b (by simp; omega) (fun e => hne e.symm), Lib.alloc_old w1 _ b hlt]
    exact hbk
  have d1 : w2.cell? ⟨b, 1, none⟩ = some v := by rw [Lib.cell_of_heap hb2]; rfl
  have f1 : w2.frozen? ⟨b, 1, none⟩ = false := Lib.frozen_of_heap hb2 1
  obtain ⟨g, cap, rfl⟩ : ∃ g cap, v' = .slice (some ⟨g, 0, none⟩) (bs.length + 1) cap := by
    rcases hown'.2 with ⟨_, h0⟩ | ⟨g, cap, cur, hv, _⟩
    · omega
    · exact ⟨g, cap, hv⟩
  go_wp2
  go_ret
  refine ⟨rfl, ?_, ?_, ?_⟩
  · exact Lib.BuilderAt.put (T := 58) (e := 5) hB hb2 (bs' := bs ++ [.int .u8 c]) (by simpa using hown') (by decide)
  · exact ((hb1.alloc (by have := hb1.size; omega) _).grown hgrow (by have := hb1.size; simp; omega) (fun k hk => (hown.lt k hk).1)).setCell (p := ⟨b, 1, none⟩) hB _
  · intro i hi hib hrow
    have hs1 := HS.out
    obtain ⟨hB0, v0, hv0⟩ : ∃ p0 v0, w.heap[b]? = some (.cells #[p0, v0] 58) := by
      rcases h with ⟨_, v0, hv0, _⟩ | ⟨_, v0, hv0, _⟩
      · exact ⟨_, v0, hv0⟩
      · exact ⟨_, v0, hv0⟩
    obtain ⟨p', hp'⟩ := HV.out _ _ hv0
    rw [hbk] at hp'
    simp at hp'
    rw [Below.heap_setCell _ _ _ _ hib, hgrow.block i (by simp; omega) (fun e => hrow _ _ hv0 (by rw [← hp'.2]; exact e.symm)), Lib.alloc_old w1 _ i (by omega)]
    exact HO.out i hib

set_option maxHeartbeats 2000000 in
set_option maxRecDepth 100000 in
theorem writeString_any (B b : Nat) (bs : List Value) (s : ByteArray) (w : World) (h : IsW B b bs w) (hlen : bs.length + s.size ≤ 140737488355328) (hBw : B ≤ w.heap.size) :
    Calls Tryz.prog 27 #[.pointer (some ⟨b, 0, none⟩), .string s] w fun e w' => e = .returned (.tuple #[.int .i64 s.size, .nilIface]) ∧ WAt B b (bs ++ Lib.strCells s) w' ∧ Below B w w' ∧ WKeep b w w' := by
  obtain ⟨i0, hi, hz0, hz1, hz2⟩ := info_parts Tryz.infoByte
  go_enter Tryz.func27, Tryz.ntmps27
  go_wp2_with fail
  refine (copyCheck_any B b bs _ h).mono ?_
  rintro e w1 ⟨rfl, h1, hb1, ho1, hs1, hv1⟩
  obtain ⟨hB, v, hbk, hown, hne⟩ := h1
  have c0 : w1.cell? ⟨b, 0, none⟩ = some (.pointer (some ⟨b, 0, none⟩)) := by rw [Lib.cell_of_heap hbk]; rfl
  have c1 : w1.cell? ⟨b, 1, none⟩ = some v := by rw [Lib.cell_of_heap hbk]; rfl
  have HO := hide ho1
  have HV := hide hv1
  have HS := hide hs1
  clear ho1 hv1 hs1
  go_wp2_with (at_builtin; refine Lib.wpList_append_own_string _ rfl _ _ 56 9 rfl B 5 i0 Tryz.underlying56 Tryz.underlying9 hi hz0 hz1 hz2 _ _ _ rfl hown s rfl ?c3 ?c4 ?c5 ?_)
  case c3 => unfold maxLen; omega
  case c4 => omega
  case c5 => have := hb1.size; omega
  intro v' w2 hown' hgrow _
  have hlt : b < w1.heap.size := by
    rcases Nat.lt_or_ge b w1.heap.size with h' | h'
    · exact h'
    · simp [Array.getElem?_eq_none h'] at hbk
  have hb2 : w2.heap[b]? = some (.cells #[.pointer (some ⟨b, 0, none⟩), v] 58 (0, 0)) := by
    rw [hgrow.block b hlt (fun e => hne e.symm)]
    exact hbk
  have d1 : w2.cell? ⟨b, 1, none⟩ = some v := by rw [Lib.cell_of_heap hb2]; rfl
  have f1 : w2.frozen? ⟨b, 1, none⟩ = false := Lib.frozen_of_heap hb2 1
  obtain ⟨ao, n', cap, rfl⟩ : ∃ ao n' cap, v' = .slice ao n' cap := by
    rcases hown'.2 with ⟨hv, _⟩ | ⟨g, cap, cur, hv, _⟩
    · exact ⟨_, _, _, hv⟩
    · exact ⟨_, _, _, hv⟩
  go_wp2
  go_ret2
  refine ⟨rfl, ?_, ?_, ?_⟩
  · exact Lib.BuilderAt.put (T := 58) (e := 5) hB hb2 (bs' := bs ++ Lib.strCells s) (by simpa [Lib.strCells_length] using hown') (by decide)
  · exact (hb1.grown hgrow (by have := hb1.size; omega) (fun k hk => (hown.lt k hk).1)).setCell (p := ⟨b, 1, none⟩) hB _
  · intro i hi hib hrow
    have hs1 := HS.out
    obtain ⟨hB0, v0, hv0⟩ : ∃ p0 v0, w.heap[b]? = some (.cells #[p0, v0] 58) := by
      rcases h with ⟨_, v0, hv0, _⟩ | ⟨_, v0, hv0, _⟩
      · exact ⟨_, v0, hv0⟩
      · exact ⟨_, v0, hv0⟩
    obtain ⟨p', hp'⟩ := HV.out _ _ hv0
    rw [hbk] at hp'
    simp at hp'
    rw [Below.heap_setCell _ _ _ _ hib, hgrow.block i (by omega) (fun e => hrow _ _ hv0 (by rw [← hp'.2]; exact e.symm))]
    exact HO.out i hib

theorem isW_same {B b : Nat} {bs : List Value} {w w' : World} (h : IsW B b bs w) (hs : ∀ i, i < w.heap.size → w'.heap[i]? = w.heap[i]?) : IsW B b bs w' := by
  have key : ∀ p, Lib.BuilderAt 58 5 B b p bs w → Lib.BuilderAt 58 5 B b p bs w' := fun p h => by
    have hlt := h.lt
    obtain ⟨h1, v, hv, hown, hne⟩ := h
    refine ⟨h1, v, by rw [hs b hlt]; exact hv, ?_, hne⟩
    obtain ⟨g1, g2⟩ := hown
    refine ⟨g1, ?_⟩
    rcases g2 with g2 | ⟨g, cap, cur, e, hg, hh, r⟩
    · exact Or.inl g2
    · have hlg : g < w.heap.size := by
        rcases Nat.lt_or_ge g w.heap.size with h | h
        · exact h
        · rw [Array.getElem?_eq_none h] at hh; cases hh
      exact Or.inr ⟨g, cap, cur, e, hg, by rw [hs g hlg]; exact hh, r⟩
  rcases h with h | h
  · exact Or.inl (key _ h)
  · exact Or.inr (key _ h)
theorem isW_below {B b : Nat} {bs : List Value} {w w' : World} (h : IsW B b bs w) (hb : Below w.heap.size w w') : IsW B b bs w' := isW_same h fun i hi => hb.block i hi
end Go.Proofs.YtkoohfkomlmhoacGreatDoor.Sb
