/- PatchDoes of the statements. Of the program's text, by its contracts. -/
/- What a reading of an api.Tree, of a path and of a string says of memory. Of the program's types. -/
import Derived.Test.YtkoohfkomlmhoacGreatDoorProg
import Derived.Test.YtkoohfkomlmhoacGreatDoorKDP35
import Derived.ProofKit
import Derived.Lib.SmallJoins
import Derived.Test.YtkoohfkomlmhoacGreatDoorKDP00
import Derived.Test.YtkoohfkomlmhoacGreatDoorKDP04
namespace Go.Proofs.YtkoohfkomlmhoacGreatDoor.Pat
open Go.Deep Go.RowKit Deed
set_option linter.unusedVariables false
set_option maxRecDepth 20000

/-- A path that is told, where it lies. -/
theorem path_two {s : List UInt8} {w : World} {e : Ending} {w' : World} (h : PathEnd s w e w') : ∃ va vc q, e = .returned (.tuple #[.slice va (List.length (α := Nat) q) vc, .bool (pathIn s).isSome]) ∧ q = (pathIn s).getD [] ∧ PIn w' va (ints q) ∧ q.length ≤ vc ∧ vc ≤ maxLen := by
  rcases h with ⟨h1, rfl⟩ | ⟨p, va, vc, h1, rfl, h2⟩
  · exact ⟨none, 0, [], by rw [h1]; rfl, by rw [h1]; rfl, Or.inl rfl, Nat.le_refl _, by unfold maxLen; exact Nat.zero_le _⟩
  · obtain ⟨r1, r2, r3⟩ := row_path h2
    exact ⟨va, vc, p, by rw [h1]; rfl, by rw [h1]; rfl, r1, r2.1, r2.2⟩
theorem path_short {s : List UInt8} : ((pathIn s).getD []).length ≤ s.length := by
  cases h : pathIn s with
  | none => exact Nat.zero_le _
  | some p =>
    obtain ⟨h1, h2⟩ := path_is' h
    have := path_long (ints p)
    rw [h2, ints_length] at this
    exact this
theorem deedP_short {s : List UInt8} : (deedP s).path.length ≤ s.length := by
  unfold deedP
  cases h : wordsD (cutP 32 s) with
  | none => exact Nat.zero_le _
  | some d =>
    simp only
    split
    · rename_i hf
      have hc : deedC s = 0 := by unfold deedC; rw [h]; exact hf
      have h1 := line_deed hc
      have h2 := line_path h1.1
      rw [h1.2] at h2
      have h3 : deedP s = d := by unfold deedP; rw [h]; simp only [hf, if_true]
      rw [h3] at h2
      exact h2.1
    · exact Nat.zero_le _

set_option maxHeartbeats 2000000 in
theorem pdoes_any (la : Option Addr) (lc : Nat) (L : List Pd) (ia : Option Addr) (ic : Nat) (I : List Int) (s t : ByteArray) (w : World) (hL : DsIn w la L) (hl : L.length ≤ lc) (hlm0 : lc ≤ maxLen) (hI : PIn w ia I) (hil : I.length ≤ ic) (him : ic ≤ maxLen) (hir : ∀ n, n ∈ I → In64 n) (hs0 : s.size ≤ maxLen) (ht0 : t.size ≤ maxLen) (hst : s.size + t.size ≤ maxLen) (ht : Tab w) :
    Calls Tryz.prog 3 #[.slice la L.length lc, .slice ia I.length ic, .string s, .string t] w fun e w' => e = .returned (.bool true) ∧ Below w.heap.size w w' := by
  have hlm := hlm0
  have hsm := hs0
  have htm := ht0
  have himm := him
  unfold maxLen at hlm hsm htm himm hst
  have HLL := hide hL
  have HII := hide hI
  have HIR := hide hir
  have HT := hide ht
  have HBG := hide (pbegun_any w ht)
  have HG := hide (fun W' (hb : Below w.heap.size w W') => greatDs_any la lc L W' (HLL.out.below hb) hl hlm0)
  clear hL ht hI hir
  go_enter Tryz.func3, Tryz.ntmps3
  go_wp2_with fail
  refine Calls.mono HBG.out ?_
  rintro e w1 ⟨rfl, hb1⟩
  have HB1 := hide hb1
  clear hb1 HBG
  go_wp2_with fail
  refine Calls.mono (HG.out w1 HB1.out) ?_
  rintro e w2 ⟨rfl, hb2⟩
  have HB2 := hide (HB1.out.trans (hb2.mono HB1.out.size))
  clear hb2
  cases hg : greatDs (dds L)
  case true =>
    go_wp2_with fail
    go_ret
    exact ⟨rfl, HB2.out⟩
  obtain ⟨hL100, hLs⟩ := greats_not hg
  have HBL := hide (fun x (hx : x ∈ L) => show x.1.path.length ≤ 10000 ∧ x.1.lab.size ≤ 100000 by
    have := hLs x.1 (List.mem_map.2 ⟨x, hx, rfl⟩)
    omega)
  clear hg hLs
  by_cases h1c : 100 < I.length
  · go_wp2_with fail
    go_ret
    exact ⟨rfl, HB2.out⟩
  by_cases h6 : 6000 < s.size + t.size
  · have h6' : (6000 : Int) < (s.size : Int) + (t.size : Int) := by omega
    go_wp2_with fail
    go_ret
    exact ⟨rfl, HB2.out⟩
  have h6' : ¬ (6000 : Int) < (s.size : Int) + (t.size : Int) := by omega
  have HPR := hide (pprint_any la lc L w2 (HLL.out.below HB2.out) hl hlm0 (HT.out.below HB2.out) HBL.out)
  go_wp2_with fail
  refine Calls.mono HPR.out ?_
  rintro e w3 ⟨rfl, hb3⟩
  have hbW3 := HB2.out.trans (hb3.mono HB2.out.size)
  obtain ⟨W4, hW4⟩ : ∃ W4, W4 = w3.alloc (Obj.cells #[.int .i64 (printP (dds L)).2.1, .int .i64 (printP (dds L)).2.2] 27) := ⟨_, rfl⟩
  have bxW4 : Below w3.heap.size w3 W4 := by rw [hW4]; exact (Below.refl _ _).alloc (Nat.le_refl _) _
  have bkW4 : W4.heap[w3.heap.size]? = some (Obj.cells #[.int .i64 (printP (dds L)).2.1, .int .i64 (printP (dds L)).2.2] 27) := by rw [hW4]; exact heap_alloc_new _ _
  have hzW4 : w3.heap.size < W4.heap.size := by rw [hW4]; simp
  have HBKW4 := hide (fun W' (hb : Below W4.heap.size W4 W') => show W'.cell? ⟨w3.heap.size, 0, none⟩ = some (.int .i64 (printP (dds L)).2.1) ∧ W'.cell? ⟨w3.heap.size, 1, none⟩ = some (.int .i64 (printP (dds L)).2.2) by
    have h1 := (hb.block w3.heap.size hzW4).trans bkW4
    exact ⟨by rw [cell_of_row _ _ 0 _ _ _ h1]; rfl, by rw [cell_of_row _ _ 1 _ _ _ h1]; rfl⟩)
  have HBW4 := hide (hbW3.trans (bxW4.mono hbW3.size))
  have HEW4 := hide hW4
  clear hW4 bkW4
  have HRR := hide (printed_any la lc L W4 (HLL.out.below HBW4.out) hl hlm0 (HT.out.below HBW4.out) HBL.out)
  clear HPR hb3 hbW3 bxW4
  go_wp2_with fail
  rw [← HEW4.out]
  refine Calls.mono HRR.out ?_
  rintro e w5 ⟨rfl, hb5⟩
  have hbW5 := HBW4.out.trans (hb5.mono HBW4.out.size)
  have HX5 := hide hb5
  obtain ⟨W6, hW6⟩ : ∃ W6, W6 = w5.alloc (Obj.cells #[.int .i64 (printP (dds L)).2.1, .int .i64 (printP (dds L)).2.2] 27) := ⟨_, rfl⟩
  have bxW6 : Below w5.heap.size w5 W6 := by rw [hW6]; exact (Below.refl _ _).alloc (Nat.le_refl _) _
  have bkW6 : W6.heap[w5.heap.size]? = some (Obj.cells #[.int .i64 (printP (dds L)).2.1, .int .i64 (printP (dds L)).2.2] 27) := by rw [hW6]; exact heap_alloc_new _ _
  have hzW6 : w5.heap.size < W6.heap.size := by rw [hW6]; simp
  have HBKW6 := hide (fun W' (hb : Below W6.heap.size W6 W') => show W'.cell? ⟨w5.heap.size, 0, none⟩ = some (.int .i64 (printP (dds L)).2.1) ∧ W'.cell? ⟨w5.heap.size, 1, none⟩ = some (.int .i64 (printP (dds L)).2.2) by
    have h1 := (hb.block w5.heap.size hzW6).trans bkW6
    exact ⟨by rw [cell_of_row _ _ 0 _ _ _ h1]; rfl, by rw [cell_of_row _ _ 1 _ _ _ h1]; rfl⟩)
  have HBW6 := hide (hbW5.trans (bxW6.mono hbW5.size))
  have HEW6 := hide hW6
  clear hW6 bkW6
  have HX6 := hide (HX5.out.trans (bxW6.mono HX5.out.size))
  have hps := pparse_any s W6 (by omega) (HT.out.below HBW6.out)
  unfold DeedsEnd at hps
  have HPS := hide hps
  clear HRR hb5 hbW5 bxW6 hps
  go_wp2_with fail
  rw [← HEW6.out]
  refine Calls.mono HPS.out ?_
  rintro e w7 ⟨va, vc, A, rfl, hA, hds, hlc, hlm7, hb7⟩
  have hbW7 := HBW6.out.trans (hb7.mono HBW6.out.size)
  have HX7 := hide hb7
  obtain ⟨W8, hW8⟩ : ∃ W8, W8 = w7.alloc (Obj.cells #[.int .i64 (parseP s.data.toList).2.1, .int .i64 (parseP s.data.toList).2.2] 27) := ⟨_, rfl⟩
  have bxW8 : Below w7.heap.size w7 W8 := by rw [hW8]; exact (Below.refl _ _).alloc (Nat.le_refl _) _
  have bkW8 : W8.heap[w7.heap.size]? = some (Obj.cells #[.int .i64 (parseP s.data.toList).2.1, .int .i64 (parseP s.data.toList).2.2] 27) := by rw [hW8]; exact heap_alloc_new _ _
  have hzW8 : w7.heap.size < W8.heap.size := by rw [hW8]; simp
  have HBKW8 := hide (fun W' (hb : Below W8.heap.size W8 W') => show W'.cell? ⟨w7.heap.size, 0, none⟩ = some (.int .i64 (parseP s.data.toList).2.1) ∧ W'.cell? ⟨w7.heap.size, 1, none⟩ = some (.int .i64 (parseP s.data.toList).2.2) by
    have h1 := (hb.block w7.heap.size hzW8).trans bkW8
    exact ⟨by rw [cell_of_row _ _ 0 _ _ _ h1]; rfl, by rw [cell_of_row _ _ 1 _ _ _ h1]; rfl⟩)
  have HBW8 := hide (hbW7.trans (bxW8.mono hbW7.size))
  have HEW8 := hide hW8
  clear hW8 bkW8
  have HX8 := hide (HX7.out.trans (bxW8.mono HX7.out.size))
  have HDS8 := hide (hds.below bxW8)
  have HA := hide hA
  have hrs := deedsIn_any s W8 (by omega)
  unfold DeedsEnd at hrs
  have HRS := hide hrs
  have hlmm := hlm7
  unfold maxLen at hlmm
  clear HPS hb7 hbW7 bxW8 hrs hds hA
  go_wp2_with fail
  rw [← HEW8.out]
  refine Calls.mono HRS.out ?_
  rintro e w9 ⟨vb, vd, A2, rfl, hA2, hds2, hlc2, hlm9, hb9⟩
  have hbW9 := HBW8.out.trans (hb9.mono HBW8.out.size)
  have HX9 := hide hb9
  obtain ⟨W10, hW10⟩ : ∃ W10, W10 = w9.alloc (Obj.cells #[.int .i64 (parseP s.data.toList).2.1, .int .i64 (parseP s.data.toList).2.2] 27) := ⟨_, rfl⟩
  have bxW10 : Below w9.heap.size w9 W10 := by rw [hW10]; exact (Below.refl _ _).alloc (Nat.le_refl _) _
  have bkW10 : W10.heap[w9.heap.size]? = some (Obj.cells #[.int .i64 (parseP s.data.toList).2.1, .int .i64 (parseP s.data.toList).2.2] 27) := by rw [hW10]; exact heap_alloc_new _ _
  have hzW10 : w9.heap.size < W10.heap.size := by rw [hW10]; simp
  have HBKW10 := hide (fun W' (hb : Below W10.heap.size W10 W') => show W'.cell? ⟨w9.heap.size, 0, none⟩ = some (.int .i64 (parseP s.data.toList).2.1) ∧ W'.cell? ⟨w9.heap.size, 1, none⟩ = some (.int .i64 (parseP s.data.toList).2.2) by
    have h1 := (hb.block w9.heap.size hzW10).trans bkW10
    exact ⟨by rw [cell_of_row _ _ 0 _ _ _ h1]; rfl, by rw [cell_of_row _ _ 1 _ _ _ h1]; rfl⟩)
  have HBW10 := hide (hbW9.trans (bxW10.mono hbW9.size))
  have HEW10 := hide hW10
  clear hW10 bkW10
  have HX10 := hide (HX9.out.trans (bxW10.mono HX9.out.size))
  have HDS10 := hide (hds2.below bxW10)
  have HA2 := hide hA2
  have hlmm2 := hlm9
  unfold maxLen at hlmm2
  have HPP := hide (pparsePath_any t W10 (by omega) (HT.out.below HBW10.out))
  clear HRS hb9 hbW9 bxW10 hds2 hA2
  go_wp2_with fail
  rw [← HEW10.out]
  clear HEW4 HEW6 HEW8 HEW10
  refine Calls.mono HPP.out ?_
  rintro e w11 ⟨hpe, hb11⟩
  obtain ⟨ra, rc, q, rfl, hq, hpi, hq1, hq2⟩ := path_two hpe
  have hbW11 := HBW10.out.trans (hb11.mono HBW10.out.size)
  have HX11 := hide (HX10.out.trans (hb11.mono HX10.out.size))
  have HB11 := hide hbW11
  have HPI1 := hide hpi
  have HQ1 := hide hq
  have HR11 := hide (pathIn_any t w11 (by omega))
  have HY11 := hide hb11
  have hq2' := hq2
  unfold maxLen at hq2'
  clear HPP hb11 hbW11 hpi hq hpe
  go_wp2_with fail
  refine Calls.mono HR11.out ?_
  rintro e w12 ⟨hpe, hb12⟩
  obtain ⟨rb, rd, q', rfl, hq', hpi', hq1', hq2''⟩ := path_two hpe
  have hqq : q' = q := by rw [hq', HQ1.out]
  subst hqq
  have hbW12 := HB11.out.trans (hb12.mono HB11.out.size)
  have HB12 := hide hbW12
  have hY := HY11.out.trans (hb12.mono HY11.out.size)
  have hX8 := HX10.out.trans (hY.mono HX10.out.size)
  have hX6 := HX8.out.trans (hX8.mono HX8.out.size)
  have hX4 := HX6.out.trans (hX6.mono HX6.out.size)
  obtain ⟨f0, f1⟩ := HBKW4.out w12 hX4
  obtain ⟨g0, g1⟩ := HBKW6.out w12 hX6
  have hk8 := hX8
  have HSD := hide (sameDs_any va vb vc vd A A2 w12 (HDS8.out.below hX8) (HDS10.out.below hY) hlc hlm7 hlc2 hlm9 (fun x hx => by
    have h1 : x.1 ∈ (parseP s.data.toList).1 := by rw [← HA.out]; exact List.mem_map.2 ⟨x, hx, rfl⟩
    have h2 := (parse_small h1).1
    have h3 : s.data.toList.length = s.size := by simp
    omega))
  rw [show eqDds (dds A) (dds A2) = true from (eqDds_iff _ _).2 (by rw [HA.out, HA2.out])] at HSD
  have HP12 := hide (HPI1.out.below hb12)
  have HP12' := hide hpi'
  have hqs : q'.length ≤ 6000 := by
    have := path_short (s := t.data.toList)
    rw [← hq'] at this
    have h3 : t.data.toList.length = t.size := by simp
    omega
  have HX8' := hide hX8
  have HY' := hide hY
  clear hX4 hX6 hX8 hY hbW12 hb12 HR11 hpi' hk8 hq' hq2''
  generalize (pathIn t.data.toList).isSome = OK at *
  go_wp2_with fail
  refine Calls.mono HSD.out ?_
  rintro e w13 ⟨rfl, hb13⟩
  have hY13 := HY'.out.trans (hb13.mono HY'.out.size)
  have hX13 := HX8'.out.trans (hb13.mono HX8'.out.size)
  clear f0 f1 g0 g1
  obtain ⟨f0, f1⟩ := HBKW8.out w13 hX13
  obtain ⟨g0, g1⟩ := HBKW10.out w13 hY13
  have hbW13 := HB12.out.trans (hb13.mono HB12.out.size)
  have hsi := sameI_any ra rb rc rd (ints q') (ints q') w13 (HP12.out.below hb13) (HP12'.out.below hb13) (by rw [ints_length]; omega) (by rw [ints_length]; unfold maxLen; omega)
  rw [ints_length, decide_eq_true rfl] at hsi
  have HSI := hide hsi
  have HB13 := hide hbW13
  clear hsi hb13 hY13 hX13 hbW13 HSD
  go_wp2_with fail
  refine Calls.mono HSI.out ?_
  rintro e w14 ⟨rfl, hb14⟩
  have HB14 := hide (HB13.out.trans (hb14.mono HB13.out.size))
  have HPA := hide (ppath_any ia ic I w14 (HII.out.below HB14.out) (by omega) HIR.out (HT.out.below HB14.out))
  clear hb14 f0 f1 g0 g1 HSI
  go_wp2_with fail
  refine Calls.mono HPA.out ?_
  rintro e w15 ⟨rfl, hb15⟩
  have HB15 := hide (HB14.out.trans (hb15.mono HB14.out.size))
  have HPB := hide (pathText_any ia ic I w15 (HII.out.below HB15.out) (by omega) HIR.out (HT.out.below HB15.out))
  clear hb15 HPA
  go_wp2_with fail
  refine Calls.mono HPB.out ?_
  rintro e w16 ⟨rfl, hb16⟩
  have HB16 := hide (HB15.out.trans (hb16.mono HB15.out.size))
  have hpd := pdeed_any t w16 (by omega) (HT.out.below HB16.out)
  unfold DeedEnd at hpd
  have hxl : (deedP t.data.toList).path.length ≤ 100000 := by
    have := deedP_short (s := t.data.toList)
    have h3 : t.data.toList.length = t.size := by simp
    omega
  have HRD := hide (fun W => deedIn_any t W (show t.size ≤ 100000000 by omega))
  unfold DeedEnd at HRD
  generalize deedP t.data.toList = X at *
  generalize deedC t.data.toList = XC at *
  have HPD := hide hpd
  clear hb16 HPB hpd
  go_wp2_with fail
  refine Calls.mono HPD.out ?_
  rintro e w17 ⟨xa, xc, rfl, hdx, hnx, hb17⟩
  unfold ddV
  have hx1 := hdx.len
  have hx2 := hdx.cap
  unfold maxLen at hx2
  have hbW17 := HB16.out.trans (hb17.mono HB16.out.size)
  obtain ⟨W18, hW18⟩ : ∃ W18, W18 = w17.alloc (Obj.cells #[.int .i64 X.kind, .slice xa X.path.length xc, .int .i64 X.pos, .int .i64 X.many, .string X.lab] 38) := ⟨_, rfl⟩
  have bxW18 : Below w17.heap.size w17 W18 := by rw [hW18]; exact (Below.refl _ _).alloc (Nat.le_refl _) _
  have bkW18 : W18.heap[w17.heap.size]? = some (Obj.cells #[.int .i64 X.kind, .slice xa X.path.length xc, .int .i64 X.pos, .int .i64 X.many, .string X.lab] 38) := by rw [hW18]; exact heap_alloc_new _ _
  have hzW18 : w17.heap.size < W18.heap.size := by rw [hW18]; simp
  have HBKW18 := hide (fun W' (hb : Below W18.heap.size W18 W') => show W'.cell? ⟨w17.heap.size, 0, none⟩ = some (.int .i64 X.kind) ∧ W'.cell? ⟨w17.heap.size, 1, none⟩ = some (.slice xa X.path.length xc) ∧ W'.cell? ⟨w17.heap.size, 2, none⟩ = some (.int .i64 X.pos) ∧ W'.cell? ⟨w17.heap.size, 3, none⟩ = some (.int .i64 X.many) ∧ W'.cell? ⟨w17.heap.size, 4, none⟩ = some (.string X.lab) by
    have h1 := (hb.block w17.heap.size hzW18).trans bkW18
    exact ⟨by rw [cell_of_row _ _ 0 _ _ _ h1]; rfl, by rw [cell_of_row _ _ 1 _ _ _ h1]; rfl, by rw [cell_of_row _ _ 2 _ _ _ h1]; rfl, by rw [cell_of_row _ _ 3 _ _ _ h1]; rfl, by rw [cell_of_row _ _ 4 _ _ _ h1]; rfl⟩)
  have HBW18 := hide (hbW17.trans (bxW18.mono hbW17.size))
  have HEW18 := hide hW18
  clear hW18 bkW18
  have HDX := hide (hdx.below bxW18)
  clear HPD hb17 hbW17 bxW18 hdx
  go_wp2_with fail
  rw [← HEW18.out]
  refine Calls.mono (HRD.out W18) ?_
  rintro e w19 ⟨ya, yc, rfl, hdy, hny, hb19⟩
  unfold ddV
  have hy1 := hdy.len
  have hy2 := hdy.cap
  unfold maxLen at hy2
  have hbW19 := HBW18.out.trans (hb19.mono HBW18.out.size)
  obtain ⟨W20, hW20⟩ : ∃ W20, W20 = w19.alloc (Obj.cells #[.int .i64 X.kind, .slice ya X.path.length yc, .int .i64 X.pos, .int .i64 X.many, .string X.lab] 38) := ⟨_, rfl⟩
  have bxW20 : Below w19.heap.size w19 W20 := by rw [hW20]; exact (Below.refl _ _).alloc (Nat.le_refl _) _
  have bkW20 : W20.heap[w19.heap.size]? = some (Obj.cells #[.int .i64 X.kind, .slice ya X.path.length yc, .int .i64 X.pos, .int .i64 X.many, .string X.lab] 38) := by rw [hW20]; exact heap_alloc_new _ _
  have hzW20 : w19.heap.size < W20.heap.size := by rw [hW20]; simp
  have HBKW20 := hide (fun W' (hb : Below W20.heap.size W20 W') => show W'.cell? ⟨w19.heap.size, 0, none⟩ = some (.int .i64 X.kind) ∧ W'.cell? ⟨w19.heap.size, 1, none⟩ = some (.slice ya X.path.length yc) ∧ W'.cell? ⟨w19.heap.size, 2, none⟩ = some (.int .i64 X.pos) ∧ W'.cell? ⟨w19.heap.size, 3, none⟩ = some (.int .i64 X.many) ∧ W'.cell? ⟨w19.heap.size, 4, none⟩ = some (.string X.lab) by
    have h1 := (hb.block w19.heap.size hzW20).trans bkW20
    exact ⟨by rw [cell_of_row _ _ 0 _ _ _ h1]; rfl, by rw [cell_of_row _ _ 1 _ _ _ h1]; rfl, by rw [cell_of_row _ _ 2 _ _ _ h1]; rfl, by rw [cell_of_row _ _ 3 _ _ _ h1]; rfl, by rw [cell_of_row _ _ 4 _ _ _ h1]; rfl⟩)
  have HBW20 := hide (hbW19.trans (bxW20.mono hbW19.size))
  have HEW20 := hide hW20
  clear hW20 bkW20
  have hb1920 := hb19.trans (bxW20.mono hb19.size)
  obtain ⟨u0, u1, u2, u3, u4⟩ := HBKW18.out W20 hb1920
  obtain ⟨z0, z1, z2, z3, z4⟩ := HBKW20.out W20 (Below.refl _ _)
  have hsd := sameD_any X X xa ya xc yc W20 (HDX.out.below hb1920) (hdy.below bxW20) hxl
  unfold ddV at hsd
  rw [same_self] at hsd
  have HSX := hide hsd
  have hE20 := HEW20.out
  rw [hE20] at u0 u1 u2 u3 u4 z0 z1 z2 z3 z4
  clear hb19 hbW19 bxW20 hdy hsd hb1920 HEW18 hE20
  go_wp2_with fail
  rw [← HEW20.out]
  clear u0 u1 u2 u3 u4 z0 z1 z2 z3 z4
  refine Calls.mono HSX.out ?_
  rintro e w21 ⟨rfl, hb21⟩
  have HB21 := hide (HBW20.out.trans (hb21.mono HBW20.out.size))
  clear hb21 HSX HEW20
  go_wp2_with fail
  go_loopg [25] L.length (fun gk v25 wr => ∃ i : Nat, gk = L.length - i ∧ i ≤ L.length ∧ v25 = .int .i64 (i : Nat) ∧ Below w.heap.size w wr)
  case atStart => exact ⟨0, rfl, Nat.zero_le _, rfl, HB21.out⟩
  case round =>
    obtain ⟨i, hgk, hi, rfl, hbr⟩ := hrel
    by_cases hlt : i < L.length
    · obtain ⟨x, hx⟩ : ∃ x, L[i]? = some x := ⟨_, List.getElem?_eq_getElem hlt⟩
      obtain ⟨b, o, rfl, x0, x1, x2, x3, x4, hxd⟩ := (HLL.out.below hbr).at hx
      have hxp := HBL.out x (List.mem_of_getElem? hx)
      clear hx
      obtain ⟨y, ypa, ypc⟩ := x
      simp only at x0 x1 x2 x3 x4 hxd hxp
      have hln := pline_any y ypa ypc wr hxd (HT.out.below hbr) hxp.1 hxp.2
      have HLR := hide (fun W' (hb : Below wr.heap.size wr W') => lineOf_any y ypa ypc W' (hxd.below hb) (HT.out.below (hbr.trans (hb.mono hbr.size))) hxp.1 hxp.2)
      unfold ddV at hln HLR
      have HLN := hide hln
      have hd1 := hxd.len
      have hd2 := hxd.cap
      unfold maxLen at hd2
      have HBR := hide hbr
      have hbl := World.block_lt_of_cell? _ _ x0
      clear hln hxd
      go_wp2_with fail
      refine Calls.mono HLN.out ?_
      rintro e w22 ⟨rfl, hb22⟩
      have y0 : w22.cell? ⟨b, o + i * 5, none⟩ = some (.int .i64 y.kind) := by rw [hb22.cell hbl]; exact x0
      have y1 : w22.cell? ⟨b, o + i * 5 + 1, none⟩ = some (.slice ypa y.path.length ypc) := by rw [hb22.cell hbl]; exact x1
      have y2 : w22.cell? ⟨b, o + i * 5 + 2, none⟩ = some (.int .i64 y.pos) := by rw [hb22.cell hbl]; exact x2
      have y3 : w22.cell? ⟨b, o + i * 5 + 3, none⟩ = some (.int .i64 y.many) := by rw [hb22.cell hbl]; exact x3
      have y4 : w22.cell? ⟨b, o + i * 5 + 4, none⟩ = some (.string y.lab) := by rw [hb22.cell hbl]; exact x4
      have HB22 := hide hb22
      clear hb22 x0 x1 x2 x3 x4
      go_wp2_with fail
      refine Calls.mono (HLR.out w22 HB22.out) ?_
      rintro e w23 ⟨rfl, hb23⟩
      have HB23 := hide (HBR.out.trans ((HB22.out.trans (hb23.mono HB22.out.size)).mono HBR.out.size))
      clear hb23
      go_wp2_with fail
      go_roundg (L.length - (i + 1))
      case measure => omega
      case rel => exact ⟨i + 1, rfl, by omega, by go_num, HB23.out⟩
    · go_wp2_with fail
      go_ret
      exact ⟨rfl, hbr⟩
end Go.Proofs.YtkoohfkomlmhoacGreatDoor.Pat
namespace Go.Proofs.YtkoohfkomlmhoacGreatDoor
open Go.Deep Go.RowKit Go.ChangeShapes Go.WideShapes Go.Joins
open Go.ChangeMaps (open_string)
set_option linter.unusedVariables false
set_option maxRecDepth 20000

theorem Tryz.cellsStr : Tryz.prog.cellsOf 9 = 1 := by kernel_rfl
theorem Tryz.cellsInt : Tryz.prog.cellsOf 3 = 1 := by kernel_rfl

theorem spot_none {w : World} {a : Addr} {v : Value} (h : w.cell? a = some v) : a.spot = none := by
  unfold World.cell? at h
  split at h
  · split at h
    · cases h
    · rename_i hs
      simpa using hs
  · cases h

section
variable {H : Type} {enc : TypeId × Value → H} {w : World} {base : Nat} {spare : Nat → Bool} {held : Bool}

end

end Go.Proofs.YtkoohfkomlmhoacGreatDoor
