/- DeedsIn of package pleachingref: the deeds of lines. Of the program's text. -/
/- Parse of package patch: the deeds of lines. Of the program's text. -/
import Derived.Test.YtkoohfkomlmhoacDoorProg
import Derived.Test.YtkoohfkomlmhoacDoorKBP13
import Derived.Test.YtkoohfkomlmhoacDoorKBP18
import Derived.Test.YtkoohfkomlmhoacDoorKBP22
import Derived.Test.YtkoohfkomlmhoacDoorKBP16
namespace Go.Proofs.YtkoohfkomlmhoacDoor.Pat
open Go.Deep Go.RowKit Deed
set_option linter.unusedVariables false
set_option maxRecDepth 20000

theorem wpList_append_run {P : Program} {w : World} {ops : Array Oper} {rest : List Oper} {o : Oper} {a : Act} {Q : Exit → Act → World → Prop} (hgd : o.guard = none) (s x : Operand) (t : TypeId)
    (ho : o.op = .call { callee := .builtin .append, args := #[s, x], argTypes := #[t, t] }) (ht : o.type = t) {vs vx v : Value} {w' : World} (hr : (Builtin.append_ #[t, t] t #[vs, vx]).run P w = .ok v w') (hs : a.eval s = vs) (hx : a.eval x = vx) (h : wpList P ops Q rest (a.put o.dst v) w') :
    wpList P ops Q (o :: rest) a w := by
  refine wpList_plain hgd fun K hK => ?_
  unfold Oper.wp execOp
  simp only [ho, ht, resolve, invoke, builtin, Sem.run_bind, Sem.run_pure, Result.andThen_ok, List.map_toArray, List.map_cons, List.map_nil, hs, hx, hr]
  exact hK _ _ h
theorem parse_short {s : List UInt8} (h : s ≠ []) (hl : (cutP 10 s).getLastD [] ≠ []) : parseP s = ([], 5, (((cutP 10 s).length - 1 : Nat) : Int)) := by
  unfold parseP
  rw [if_neg h, if_pos hl]
theorem parse_many {s : List UInt8} (h : s ≠ []) (hl : (cutP 10 s).getLastD [] = []) (hm : 80 < (cutP 10 s).length - 1) : parseP s = ([], 2, -1) := by
  unfold parseP
  rw [if_neg h, if_neg (fun h => h hl), if_pos hm]
theorem parse_bad {s : List UInt8} (h : s ≠ []) (hl : (cutP 10 s).getLastD [] = []) (hm : ¬ 80 < (cutP 10 s).length - 1) {i : Nat} {x : List UInt8} (h0 : ∀ y, y ∈ (cutP 10 s).dropLast.take i → deedC y = 0) (hx : (cutP 10 s).dropLast[i]? = some x) (hc : deedC x ≠ 0) : parseP s = ([], deedC x, (i : Int)) := by
  unfold parseP
  rw [if_neg h, if_neg (fun h => h hl), if_neg hm, bad_at h0 hx hc]
  simp
theorem parse_all {s : List UInt8} (h : s ≠ []) (hl : (cutP 10 s).getLastD [] = []) (hm : ¬ 80 < (cutP 10 s).length - 1) (h0 : ∀ y, y ∈ (cutP 10 s).dropLast → deedC y = 0) : parseP s = ((cutP 10 s).dropLast.map deedP, 0, 0) := by
  unfold parseP
  rw [if_neg h, if_neg (fun h => h hl), if_neg hm, none_bad h0]
/-- What DeedsIn tells. -/
def DeedsEnd (s : List UInt8) (w : World) (e : Ending) (w' : World) : Prop :=
  ∃ va vc A, e = .returned (.tuple #[.slice va (List.length (α := Pd) A) vc, .agg #[.int .i64 (parseP s).2.1, .int .i64 (parseP s).2.2]]) ∧ dds A = (parseP s).1 ∧ DsIn w' va A ∧ A.length ≤ vc ∧ vc ≤ maxLen ∧ Below w.heap.size w w'
theorem ds_nil (w : World) : DsIn w none [] := (Row.nil 0 w).ds rfl
theorem deeds_empty {s : List UInt8} {w w' : World} {e : Ending} {c q : Int} (h : parseP s = ([], c, q)) (he : e = .returned (.tuple #[.slice none 0 0, .agg #[.int .i64 c, .int .i64 q]])) (hb : Below w.heap.size w w') : DeedsEnd s w e w' := by
  refine ⟨none, 0, [], ?_, ?_, ds_nil w', Nat.le_refl _, by unfold maxLen; exact Nat.zero_le _, hb⟩
  · rw [he, h]; rfl
  · rw [h]; rfl

end Go.Proofs.YtkoohfkomlmhoacDoor.Pat
namespace Go.Proofs.YtkoohfkomlmhoacDoor.Pat
open Go.Deep Go.RowKit Deed
set_option linter.unusedVariables false
set_option maxRecDepth 20000

theorem count10 (l : List UInt8) : Lib.countByte l 10 = (cutP 10 l).length - 1 := by
  rw [cut_count]
  rfl
theorem suffix10_yes {l : List UInt8} (h : l ≠ []) (hl : (cutP 10 l).getLastD [] = []) : Lib.hasSuffix l [10] = true := (cut_last 10 l h).1 hl
theorem suffix10_no {l : List UInt8} (h : l ≠ []) (hl : (cutP 10 l).getLastD [] ≠ []) : Lib.hasSuffix l [10] = false := by
  cases hb : Lib.hasSuffix l [10] with
  | false => rfl
  | true => exact absurd ((cut_last 10 l h).2 hb) hl

set_option maxHeartbeats 4000000 in
theorem pparse_any (s : ByteArray) (w : World) (hs : s.size ≤ 100000000) (ht : Tab w) : Calls Tryd.prog 8 #[.string s] w (DeedsEnd s.data.toList w) := by
  obtain ⟨W, hW⟩ : ∃ W, W = w.alloc (Obj.cells #[.int .i64 0, .int .i64 0] 26) := ⟨_, rfl⟩
  have hB : Below w.heap.size w W := by rw [hW]; exact (Below.refl _ _).alloc (Nat.le_refl _) _
  have hWs : W.heap.size = w.heap.size + 1 := by rw [hW]; simp
  have hbox : W.heap[w.heap.size]? = some (Obj.cells #[.int .i64 0, .int .i64 0] 26) := by rw [hW]; exact heap_alloc_new _ _
  have hcells : ∀ W', Below W.heap.size W W' → W'.cell? ⟨w.heap.size, 0, none⟩ = some (.int .i64 0) ∧ W'.cell? ⟨w.heap.size, 1, none⟩ = some (.int .i64 0) ∧ (∀ o, W'.frozen? ⟨w.heap.size, o, none⟩ = false) ∧ Below w.heap.size w W' := fun W' h => by
    have hb := (h.block w.heap.size (by omega)).trans hbox
    exact ⟨by rw [cell_of_row _ _ 0 _ _ _ hb]; rfl, by rw [cell_of_row _ _ 1 _ _ _ hb]; rfl, fun o => by simp [World.frozen?, hb], hB.trans (h.mono (by omega))⟩
  have HCL := hide hcells
  have HT := hide (ht.below hB)
  obtain ⟨k0, k1, kf, hbw⟩ := hcells W (Below.refl _ _)
  have HBW := hide hbw
  have hsl : s.data.toList.length = s.size := by simp
  have hlen := cut_len 10 s.data.toList
  rw [hsl] at hlen
  obtain ⟨R, hR⟩ : ∃ R, R = s.data.toList := ⟨_, rfl⟩
  have hsR : s = str R := by rw [hR]
  have hRl : R.length = s.size := by rw [hR]; omega
  rw [← hR] at hlen ⊢
  clear hcells hbox hB hsl hR hbw ht
  subst hsR
  rw [str_size] at hs hlen
  clear hRl
  have HCO := hide (Tryd.strings_Count_one (str R) 10 W)
  rw [show (str R).data.toList = R by simp, count10] at HCO
  obtain ⟨P, hP⟩ : ∃ P, P = cutP 10 R := ⟨_, rfl⟩
  have HP := hide hP
  have hpos : 0 < P.length := by rw [hP]; exact List.length_pos_iff.2 (cutP_ne _ _)
  rw [← hP] at HCO hlen
  obtain ⟨m, hm⟩ : ∃ m, P.length = m + 1 := ⟨P.length - 1, by omega⟩
  have hPm : P.length ≤ m + 1 := by omega
  have hmP : m < P.length := by omega
  rw [show P.length - 1 = m by omega] at HCO
  have HM := hide (show (cutP 10 R).length - 1 = m by rw [← HP.out]; omega)
  clear hP hm
  by_cases h0 : R = []
  · have HE := hide (show parseP R = ([], 0, 0) by rw [h0]; rfl)
    have hm0 : m = 0 := by
      have := HM.out
      rw [h0] at this
      simpa [cutP] using this.symm
    subst h0
    subst hm0
    have HWQ := hide hW
    have HB3 := hide ((HBW.out.setCell (p := ⟨w.heap.size, 0, none⟩) (Nat.le_refl _) (.int .i64 0)).setCell (p := ⟨w.heap.size, 1, none⟩) (Nat.le_refl _) (.int .i64 0))
    go_enter Tryd.func8, Tryd.ntmps8
    go_wp2_with fail
    rw [← hW]
    clear hW
    refine Calls.mono HCO.out ?_
    rintro e w1 ⟨rfl, hw1⟩
    subst hw1
    go_wp2_with fail
    go_loopg [5, 27] 0 (fun gk v5 v27 wr => gk = 0 ∧ v5 = .slice none 0 0 ∧ v27 = .int .i64 0 ∧ wr = w1)
    case atStart => exact ⟨rfl, rfl, rfl, rfl⟩
    case round =>
      obtain ⟨hgk, rfl, rfl, hwr⟩ := hrel
      subst hwr
      go_wp2_with fail
      obtain ⟨V, hV⟩ : ∃ V, V = (wr.setCell ⟨w.heap.size, 0, none⟩ (.int .i64 0)).setCell ⟨w.heap.size, 1, none⟩ (.int .i64 0) := ⟨_, rfl⟩
      have v0 : V.cell? ⟨w.heap.size, 0, none⟩ = some (.int .i64 0) := by rw [hV]; go_simp
      have v1 : V.cell? ⟨w.heap.size, 1, none⟩ = some (.int .i64 0) := by rw [hV]; go_simp
      rw [← hV] at HB3 ⊢
      refine bodyPost_ret (v := .tuple #[.slice none 0 0, .agg #[.int .i64 0, .int .i64 0]]) (by simp [results, Tryd.results8, go_sem, v0, v1]) rfl (deeds_empty HE.out rfl HB3.out)
  · have hb0 : R.isEmpty = false := by
      cases hh : R with
      | nil => exact absurd hh h0
      | cons a b => rfl
    have HNE := hide h0
    have HSF := hide (Tryd.strings_HasSuffix (str R) ⟨#[10]⟩ W (by rw [str_size]; omega))
    rw [show (str R).data.toList = R by simp, show (⟨#[10]⟩ : ByteArray).data.toList = [10] from rfl] at HSF
    clear h0
    by_cases hz : (cutP 10 R).getLastD [] = []
    · rw [suffix10_yes HNE.out hz] at HSF
      have HZ0 := hide hz
      clear hz
      by_cases h80 : 80 < m
      · have HE := hide (parse_many HNE.out HZ0.out (by rw [HM.out]; exact h80))
        go_enter Tryd.func8, Tryd.ntmps8
        go_wp2_with fail
        rw [← hW]
        clear hW
        refine Calls.mono HCO.out ?_
        rintro e w1 ⟨rfl, hw1⟩
        subst hw1
        go_wp2_with fail
        refine Calls.mono HSF.out ?_
        rintro e w2 ⟨rfl, hw2⟩
        subst hw2
        have HB3 := hide ((HBW.out.setCell (p := ⟨w.heap.size, 0, none⟩) (Nat.le_refl _) (.int .i64 2)).setCell (p := ⟨w.heap.size, 1, none⟩) (Nat.le_refl _) (.int .i64 (-1)))
        go_wp2_with fail
        obtain ⟨V, hV⟩ : ∃ V, V = (w2.setCell ⟨w.heap.size, 0, none⟩ (.int .i64 2)).setCell ⟨w.heap.size, 1, none⟩ (.int .i64 (-1)) := ⟨_, rfl⟩
        have v0 : V.cell? ⟨w.heap.size, 0, none⟩ = some (.int .i64 2) := by rw [hV]; go_simp
        have v1 : V.cell? ⟨w.heap.size, 1, none⟩ = some (.int .i64 (-1)) := by rw [hV]; go_simp
        rw [← hV] at HB3 ⊢
        refine bodyPost_ret (v := .tuple #[.slice none 0 0, .agg #[.int .i64 2, .int .i64 (-1)]]) (by simp [results, Tryd.results8, go_sem, v0, v1]) rfl (deeds_empty HE.out rfl HB3.out)
      · go_enter Tryd.func8, Tryd.ntmps8
        go_wp2_with fail
        rw [← hW]
        clear hW
        refine Calls.mono HCO.out ?_
        rintro e w1 ⟨rfl, hw1⟩
        subst hw1
        go_wp2_with fail
        refine Calls.mono HSF.out ?_
        rintro e w2 ⟨rfl, hw2⟩
        subst hw2
        clear HSF HCO k0 k1 kf
        go_wp2_with fail
        go_loopg [0, 5, 27] m (fun gk v0 v5 v27 wr => ∃ (i : Nat) (A : List Pd) (r : List UInt8) (oa : Option Addr) (oc : Nat), gk = m - i ∧ i ≤ m ∧ v27 = .int .i64 (i : Nat) ∧ v5 = .slice oa i oc ∧ v0 = .string (str r) ∧ r.length ≤ R.length ∧ Hid (P.drop i = cutP 10 r) ∧ Hid (i = A.length) ∧ Hid (Row w2.heap.size wr (.slice oa i oc) A) ∧ Hid (dds A = (P.take i).map deedP) ∧ Hid (∀ x, x ∈ P.take i → deedC x = 0) ∧ Below w2.heap.size w2 wr)
        case atStart => exact ⟨0, [], R, none, 0, rfl, Nat.zero_le _, rfl, rfl, rfl, Nat.le_refl _, HP.out, rfl, Row.nil _ _, rfl, (fun x hx => by simp at hx), Below.refl _ _⟩
        case round =>
          obtain ⟨i, A, r, oa, oc, hgk, hi, rfl, rfl, rfl, hrl, hdr, hA, hRow, hdd, hok, hbr⟩ := hrel
          have hzr := hbr.size
          by_cases hlt : i < m
          · have HC := hide (cut1_any r 10 wr (by omega) (HT.out.below hbr))
            have HBR := hide hbr
            clear hbr
            go_wp2_with fail
            refine Calls.mono HC.out ?_
            rintro e wc ⟨x, r', more, rfl, hr', hx, hcut, hbc⟩
            have hcut' : cutP 10 r = x :: cutP 10 r' := by
              rcases hcut with ⟨_, h2⟩ | ⟨_, h2⟩
              · have h3 := congrArg List.length (hdr.out.trans h2)
                simp only [List.length_drop, List.length_cons, List.length_nil] at h3
                omega
              · exact h2
            obtain ⟨g1, g2, _⟩ := drop_cons_at (hdr.out.trans hcut')
            have HG2 := hide g2
            have HTK := hide (take_at g1)
            have HX := hide (show (cutP 10 R).dropLast[i]? = some x by
              rw [← HP.out, List.getElem?_dropLast, if_pos (by omega)]
              exact g1)
            have HOKD := hide (show ∀ y, y ∈ (cutP 10 R).dropLast.take i → deedC y = 0 by
              rw [← HP.out, List.dropLast_eq_take, List.take_take, Nat.min_eq_left (by omega)]
              exact hok.out)
            have hbrc := HBR.out.trans (hbc.mono hzr)
            have hdi := pdeed_any (str x) wc (by rw [str_size]; omega) (HT.out.below hbrc)
            rw [show (str x).data.toList = x by simp] at hdi
            have HDI := hide hdi
            have HBC := hide hbrc
            have HRC := hide (hRow.out.below hbc)
            have hzc := hbrc.size
            clear g1 g2 hdi hbc hbrc hcut hcut' hdr HC
            go_wp2_with fail
            refine Calls.mono HDI.out ?_
            rintro e wd ⟨pa, pc, rfl, hd, hnew, hb2⟩
            have HDD := hide (show (P.take (i + 1)).map deedP = (P.take i).map deedP ++ [deedP x] by rw [HTK.out, List.map_append]; rfl)
            have hz2 := hb2.size
            obtain ⟨D, hD⟩ : ∃ D, D = deedP x := ⟨_, rfl⟩
            rw [← hD] at hd HDD ⊢
            unfold ddV
            have hdl := hd.len
            have hdc := hd.cap
            unfold maxLen at hdc
            have hb12 := HBC.out.trans (hb2.mono hzc)
            clear hD
            by_cases hc : deedC x = 0
            · have hcb : (deedC x != 0) = false := by rw [hc]; rfl
              have HCX := hide hc
              have b8 : Below wd.heap.size wd (wd.alloc (Obj.cells #[.int .i64 D.kind, .slice pa D.path.length pc, .int .i64 D.pos, .int .i64 D.many, .string D.lab] 35)) := (Below.refl _ _).alloc (Nat.le_refl _) _
              have hrow8 := (HRC.out.below hb2).below b8
              obtain ⟨va', vc', w4, hr4, hrow4, hg4', hat4⟩ := hrow8.push (n := i) hA.out (D, pa, pc) (hd.below b8) (fun hp0 a ha => by
                obtain ⟨ab, ao, ap⟩ := a
                rcases hd.path with hp1 | ⟨pb, po, pe, _⟩
                · exact absurd hp1 hp0
                · have ha' : pa = some ⟨ab, ao, ap⟩ := ha
                  rw [ha'] at pe
                  injection pe with pe
                  injection pe with e1 e2 e3
                  subst e1 e2 e3
                  have h5 := hnew ab ao ha'
                  refine ⟨by simp only; omega, fun e => ?_⟩
                  have := (ownBlockN_lt HRC.out.own e).2
                  simp only at this
                  omega) (by have := hA.out; omega) (by simp; omega)
              simp only at hr4 hrow4
              have hs8 : (wd.alloc (Obj.cells #[.int .i64 D.kind, .slice pa D.path.length pc, .int .i64 D.pos, .int .i64 D.many, .string D.lab] 35)).heap.size = wd.heap.size + 1 := by simp
              rw [hs8] at hr4
              have HR4 := hide hr4
              have hbw4 : Below w2.heap.size w2 w4 := (hb12.trans (b8.mono (by omega))).grown hg4' (by have := hb12.size; simp; omega) (fun k hk => (ownBlockN_lt HRC.out.own hk).1)
              have HROW4 := hide hrow4
              clear hc hr4 hrow4 hg4' hat4 hrow8 b8 hs8
              go_wp2_with (at_builtin; refine wpList_append_run rfl _ _ _ rfl rfl HR4.out rfl rfl ?_)
              go_wp2_with fail
              go_roundg (m - (i + 1))
              case measure => omega
              case rel =>
                refine ⟨i + 1, A ++ [(D, pa, pc)], r', va', vc', rfl, by omega, by go_num, rfl, rfl, by omega, HG2.out, ?_, HROW4.out, ?_, ?_, hbw4⟩
                · show _ = _
                  rw [List.length_append, ← hA.out]
                  rfl
                · show _ = _
                  rw [dds_append, hdd.out, HDD.out]
                  rfl
                · show ∀ x, _ → _
                  rw [HTK.out]
                  intro y hy
                  rcases List.mem_append.1 hy with hy | hy
                  · exact hok.out y hy
                  · rw [List.mem_singleton.1 hy]; exact HCX.out
            · have hcb : (deedC x != 0) = true := by simpa using hc
              have HE := hide (parse_bad HNE.out HZ0.out (by rw [HM.out]; exact h80) HOKD.out HX.out hc)
              obtain ⟨W8, hW8⟩ : ∃ W8, W8 = wd.alloc (Obj.cells #[.int .i64 D.kind, .slice pa D.path.length pc, .int .i64 D.pos, .int .i64 D.many, .string D.lab] 35) := ⟨_, rfl⟩
              have b8 : Below wd.heap.size wd W8 := by rw [hW8]; exact (Below.refl _ _).alloc (Nat.le_refl _) _
              have hbW8 := hb12.trans (b8.mono (by omega))
              obtain ⟨k0, k1, kf, hbw⟩ := HCL.out W8 hbW8
              have HB3 := hide ((hbw.setCell (p := ⟨w.heap.size, 0, none⟩) (Nat.le_refl _) (.int .i64 (deedC x))).setCell (p := ⟨w.heap.size, 1, none⟩) (Nat.le_refl _) (.int .i64 (i : Int)))
              have HWE := hide hW8
              have y0 := k0
              have y1 := k1
              have f0 := kf 0
              have f1 := kf 1
              rw [hW8] at k0 k1 f0 f1
              clear hc hW8 hbw b8 hbW8 kf
              go_wp2_with fail
              rw [← HWE.out]
              have f0' : W8.frozen? ⟨w.heap.size, 0, none⟩ = false := by rw [HWE.out]; exact f0
              have f1' : W8.frozen? ⟨w.heap.size, 1, none⟩ = false := by rw [HWE.out]; exact f1
              obtain ⟨V, hV⟩ : ∃ V, V = (W8.setCell ⟨w.heap.size, 0, none⟩ (.int .i64 (deedC x))).setCell ⟨w.heap.size, 1, none⟩ (.int .i64 (i : Int)) := ⟨_, rfl⟩
              have v0 : V.cell? ⟨w.heap.size, 0, none⟩ = some (.int .i64 (deedC x)) := by rw [hV]; go_simp
              have v1 : V.cell? ⟨w.heap.size, 1, none⟩ = some (.int .i64 (i : Int)) := by rw [hV]; go_simp
              rw [← hV] at HB3 ⊢
              refine bodyPost_ret (v := .tuple #[.slice none 0 0, .agg #[.int .i64 (deedC x), .int .i64 (i : Int)]]) (by simp [results, Tryd.results8, go_sem, v0, v1]) rfl (deeds_empty HE.out rfl HB3.out)
          · have him : i = m := by omega
            have HE := hide (parse_all HNE.out HZ0.out (by rw [HM.out]; exact h80) (show ∀ y, y ∈ (cutP 10 R).dropLast → deedC y = 0 by
              rw [← HP.out, List.dropLast_eq_take, show P.length - 1 = i by omega]
              exact hok.out))
            have HDA := hide (show dds A = (cutP 10 R).dropLast.map deedP by
              rw [hdd.out, ← HP.out, List.dropLast_eq_take, show P.length - 1 = i by omega])
            obtain ⟨k0, k1, kf, hbw⟩ := HCL.out wr hbr
            have HBW := hide hbw
            obtain ⟨va2, vc2, hv2, hl2, hm2⟩ := hRow.out.form
            injection hv2 with hv3 hv4 hv5
            subst hv5
            clear hbw him hv3
            go_wp2_with fail
            obtain ⟨V, hV⟩ : ∃ V, V = (wr.setCell ⟨w.heap.size, 0, none⟩ (.int .i64 0)).setCell ⟨w.heap.size, 1, none⟩ (.int .i64 0) := ⟨_, rfl⟩
            have v0 : V.cell? ⟨w.heap.size, 0, none⟩ = some (.int .i64 0) := by rw [hV]; go_simp
            have v1 : V.cell? ⟨w.heap.size, 1, none⟩ = some (.int .i64 0) := by rw [hV]; go_simp
            have HBV := hide (show Below w.heap.size w V by rw [hV]; exact (HBW.out.setCell (p := ⟨w.heap.size, 0, none⟩) (Nat.le_refl _) _).setCell (p := ⟨w.heap.size, 1, none⟩) (Nat.le_refl _) _)
            rw [← hV]
            refine bodyPost_ret (v := .tuple #[.slice oa i oc, .agg #[.int .i64 0, .int .i64 0]]) (by simp [results, Tryd.results8, go_sem, v0, v1]) rfl ?_
            have hoff : DsIn V oa A := by
              have hk : Row w2.heap.size V (.slice oa i oc) A := hRow.out.keep fun q hq1 hq2 => by
                rw [hV, Below.heap_setCell _ _ _ _ (by show q ≠ w.heap.size; omega), Below.heap_setCell _ _ _ _ (by show q ≠ w.heap.size; omega)]
              exact hk.ds hA.out
            refine ⟨oa, oc, A, ?_, ?_, hoff, hl2, hm2, HBV.out⟩
            · rw [HE.out, ← hA.out]
            · rw [HE.out, HDA.out]
    · rw [suffix10_no HNE.out hz] at HSF
      have HE := hide (parse_short HNE.out hz)
      rw [HM.out] at HE
      clear hz
      go_enter Tryd.func8, Tryd.ntmps8
      go_wp2_with fail
      rw [← hW]
      clear hW
      refine Calls.mono HCO.out ?_
      rintro e w1 ⟨rfl, hw1⟩
      subst hw1
      go_wp2_with fail
      refine Calls.mono HSF.out ?_
      rintro e w2 ⟨rfl, hw2⟩
      subst hw2
      have HB3 := hide ((HBW.out.setCell (p := ⟨w.heap.size, 0, none⟩) (Nat.le_refl _) (.int .i64 5)).setCell (p := ⟨w.heap.size, 1, none⟩) (Nat.le_refl _) (.int .i64 (m : Int)))
      go_wp2_with fail
      obtain ⟨V, hV⟩ : ∃ V, V = (w2.setCell ⟨w.heap.size, 0, none⟩ (.int .i64 5)).setCell ⟨w.heap.size, 1, none⟩ (.int .i64 (m : Int)) := ⟨_, rfl⟩
      have v0 : V.cell? ⟨w.heap.size, 0, none⟩ = some (.int .i64 5) := by rw [hV]; go_simp
      have v1 : V.cell? ⟨w.heap.size, 1, none⟩ = some (.int .i64 (m : Int)) := by rw [hV]; go_simp
      rw [← hV] at HB3 ⊢
      refine bodyPost_ret (v := .tuple #[.slice none 0 0, .agg #[.int .i64 5, .int .i64 (m : Int)]]) (by simp [results, Tryd.results8, go_sem, v0, v1]) rfl (deeds_empty HE.out rfl HB3.out)
end Go.Proofs.YtkoohfkomlmhoacDoor.Pat
