/- PathIn of package pleachingref: the path that has that text. Of the program's text. -/
/- ParsePath of package patch: the path that has that text. Of the program's text. -/
import Derived.Test.YtkoohfkomlmhoacGreatDoorProg
import Derived.Test.YtkoohfkomlmhoacGreatDoorKDP10
import Derived.Test.YtkoohfkomlmhoacGreatDoorKDP11
import Derived.Test.YtkoohfkomlmhoacGreatDoorKDP09
namespace Go.Proofs.YtkoohfkomlmhoacGreatDoor.Pat
open Go.Deep Go.RowKit Deed
set_option linter.unusedVariables false
set_option maxRecDepth 20000

theorem allFew_snoc : ∀ (l : List (List UInt8)) (q : List Nat) (s : List UInt8) (n : Nat), allFew l = some q → fewP s = some n → allFew (l ++ [s]) = some (q ++ [n])
  | [], q, s, n, h, hs => by
    simp only [allFew, Option.some.injEq] at h
    subst h
    simp [allFew, hs]
  | x :: l, q, s, n, h, hs => by
    unfold allFew at h
    cases hx : fewP x with
    | none => rw [hx] at h; cases h
    | some m =>
      rw [hx] at h
      cases hl : allFew l with
      | none => rw [hl] at h; cases h
      | some r =>
        rw [hl] at h
        simp only [Option.some.injEq] at h
        subst h
        rw [List.cons_append, allFew, hx, allFew_snoc l r s n hl hs]
        rfl
theorem allFew_bad : ∀ (l : List (List UInt8)) (i : Nat) (s : List UInt8), l[i]? = some s → fewP s = none → allFew l = none
  | [], i, s, h, _ => by simp at h
  | x :: l, 0, s, h, hs => by
    simp only [List.getElem?_cons_zero, Option.some.injEq] at h
    subst h
    rw [allFew, hs]
  | x :: l, i + 1, s, h, hs => by
    rw [allFew, allFew_bad l i s (by simpa using h) hs]
    cases fewP x <;> rfl
theorem owns_lower {w : World} {B B' T sz n : Nat} {v : Value} {xs : List Value} (h : w.ownsRow B T sz v n xs) (hB : B' ≤ B) : w.ownsRow B' T sz v n xs := by
  refine ⟨h.1, ?_⟩
  rcases h.2 with h0 | ⟨g, cap, cur, hv, hb, hr⟩
  · exact Or.inl h0
  · exact Or.inr ⟨g, cap, cur, hv, Nat.le_trans hB hb, hr⟩
def PathEnd (s : List UInt8) (w : World) (e : Ending) (w' : World) : Prop :=
  (pathIn s = none ∧ e = .returned (.tuple #[.slice none 0 0, .bool false])) ∨
  (∃ p va vc, pathIn s = some p ∧ e = .returned (.tuple #[.slice va (List.length (α := Nat) p) vc, .bool true]) ∧ w'.ownsRow w.heap.size 3 1 (.slice va p.length vc) p.length (intCells p))
theorem intCells_snoc (q : List Nat) (n : Nat) : intCells (q ++ [n]) = intCells q ++ [Value.int .i64 (n : Int)] := by simp [intCells]

set_option maxHeartbeats 2000000 in
theorem pathIn_any (s : ByteArray) (w : World) (hs : s.size ≤ 100000000) :
    Calls Tryz.prog 12 #[.string s] w fun e w' => PathEnd s.data.toList w e w' ∧ Below w.heap.size w w' := by
  by_cases h1 : s.data.toList = [45]
  · have HP := hide (show pathIn s.data.toList = some [] by rw [h1]; rfl)
    have hb2 : (s.toList == [45]) = true := beq_iff_eq.2 (by rw [ByteArray.toList_eq]; exact h1)
    clear h1
    go_enter Tryz.func12, Tryz.ntmps12
    go_wp2_with fail
    refine bodyPost_ret (v := .tuple #[.slice none 0 0, .bool true]) (by simp [results, Tryz.results12, go_sem]) rfl ⟨Or.inr ⟨[], none, 0, HP.out, rfl, ⟨rfl, Or.inl ⟨rfl, rfl⟩⟩⟩, Below.refl _ _⟩
  · have hb2 : (s.toList == [45]) = false := beq_eq_false_iff_ne.2 (by rw [ByteArray.toList_eq]; exact h1)
    have HP := hide (show pathIn s.data.toList = allFew (cutP 46 s.data.toList) by unfold pathIn; rw [if_neg h1])
    clear h1
    obtain ⟨iI, hiI, hi0, hi1, hi2⟩ := info_parts Tryz.infoInt
    have HC := hide (cut_any s 46 w hs)
    have hlen := cut_len 46 s.data.toList
    have HSZ := hide (cut_size 46 s.data.toList)
    obtain ⟨P, hP⟩ : ∃ P, P = cutP 46 s.data.toList := ⟨_, rfl⟩
    rw [← hP] at HC HP hlen HSZ
    have hsl : s.data.toList.length = s.size := by simp
    rw [hsl] at hlen HSZ
    clear hP hsl
    go_enter Tryz.func12, Tryz.ntmps12
    go_wp2_with fail
    refine Calls.mono HC.out ?_
    rintro e w1 ⟨va, vc, rfl, hrow, hb1⟩
    have hz1 := hb1.size
    have HR := hide hrow
    clear hrow HC
    go_wp2_with fail
    go_loopg [5, 6] P.length (fun gk v5 v6 wr => ∃ (i : Nat) (q : List Nat) (oa : Option Addr) (oc : Nat), gk = P.length - i ∧ i ≤ P.length ∧ q.length = i ∧ v6 = .int .i64 (i : Nat) ∧ v5 = .slice oa i oc ∧ Hid (allFew (P.take i) = some q) ∧ Hid (wr.ownsRow w1.heap.size 3 1 (.slice oa i oc) i (intCells q)) ∧ Below w1.heap.size w1 wr)
    case atStart => exact ⟨0, [], none, 0, rfl, Nat.zero_le _, rfl, rfl, rfl, rfl, ⟨rfl, Or.inl ⟨rfl, rfl⟩⟩, Below.refl _ _⟩
    case round =>
      obtain ⟨i, q, oa, oc, hgk, hi, hq, rfl, rfl, hfew, hown, hbr⟩ := hrel
      by_cases hlt : i < P.length
      · obtain ⟨x, hx⟩ : ∃ x, P[i]? = some x := ⟨_, List.getElem?_eq_getElem hlt⟩
        obtain ⟨g, vc', hv, hg1, hg2, hg3, hg4⟩ := ownsN_some HR.out (by omega)
        injection hv with hv1 hv2 hv3
        have hcell : wr.cell? ⟨g, i, none⟩ = some (.string (str x)) := by
          rw [hbr.cell (by exact hg2)]
          have hr := HR.out
          rw [hv1] at hr
          have := ownsRow_cell hr i _ (show (txCells P)[i]? = some (.string (str x)) by unfold txCells; rw [List.getElem?_map, hx]; rfl)
          simpa using this
        have hxs : x.length ≤ s.size := HSZ.out x (List.mem_of_getElem? hx)
        have htk : P.take (i + 1) = P.take i ++ [x] := by
          rw [List.take_succ_eq_append_getElem hlt]
          congr 2
          rw [List.getElem?_eq_getElem hlt] at hx
          exact Option.some.inj hx
        have HF := hide (few_any (str x) wr (by rw [str_size]; unfold maxLen; omega))
        have hstr : (str x).data.toList = x := by simp
        rw [hstr] at HF
        have HX := hide hx
        have HT := hide htk
        subst hv1
        clear hx htk hstr hv2 hv3
        cases hfx : fewP x with
        | none =>
          have hfe : fewE x = (0, false) := by unfold fewE; rw [hfx]
          rw [hfe] at HF
          have HN := hide (show pathIn s.data.toList = none by rw [HP.out]; exact allFew_bad P i x HX.out hfx)
          clear hfe hfx
          go_wp2_with fail
          refine Calls.mono HF.out ?_
          rintro e w2 ⟨rfl, rfl⟩
          go_wp2_with fail
          refine bodyPost_ret (v := .tuple #[.slice none 0 0, .bool false]) (by simp [results, Tryz.results12, go_sem]) rfl ⟨Or.inl ⟨HN.out, rfl⟩, hb1.trans (hbr.mono hz1)⟩
        | some n =>
          have hfe : fewE x = (n, true) := by unfold fewE; rw [hfx]
          rw [hfe] at HF
          have HN := hide (show allFew (P.take (i + 1)) = some (q ++ [n]) by rw [HT.out]; exact allFew_snoc _ _ _ _ hfew.out hfx)
          clear hfe hfx
          go_wp2_with fail
          refine Calls.mono HF.out ?_
          rintro e w2 ⟨rfl, rfl⟩
          go_wp2_with (at_builtin; refine wpList_append_lies _ rfl (.tmp 29) (.tmp 31) 23 rfl w1.heap.size 3 iI _ 1 8 Tryz.underlying23 hiI hi0 hi1 hi2 rfl (by decide) _ i _ rfl (ownsN_below hown.out ((Below.refl _ _).alloc (Nat.le_refl _) _)) ⟨w2.heap.size, 0, none⟩ 1 1 [Value.int .i64 (n : Int)] rfl rfl (int_news w2 3 (n : Int)) (by simp [Value.oneCell']) (by decide) (by unfold maxLen; omega) (by omega) (by have := hbr.size; simp; omega) (w2.heap.size + 1) (by simp) ?_)
          intro g6 cap6 w3 hown6 hgrow6 hat6 hlt6
          have hb3 : Below w1.heap.size w1 w3 := by
            have h1 := hbr.alloc hbr.size (Obj.cells #[Value.int .i64 (n : Int)] 3)
            exact h1.grown hgrow6 h1.size fun k hk => (ownBlockN_lt hown.out hk).1
          have HO := hide hown6
          clear hown6 hgrow6 hat6
          go_wp2_with fail
          go_roundg (P.length - (i + 1))
          case measure => omega
          case rel =>
            refine ⟨i + 1, q ++ [n], some ⟨g6, 0, none⟩, cap6, rfl, by omega, by simp [hq], by go_num, rfl, HN.out, ?_, hb3⟩
            rw [intCells_snoc]
            exact HO.out
      · have hiP : P.take i = P := List.take_of_length_le (by omega)
        have HN := hide (show pathIn s.data.toList = some q by rw [HP.out]; have := hfew.out; rwa [hiP] at this)
        clear hiP
        go_wp2_with fail
        refine bodyPost_ret (v := .tuple #[.slice oa i oc, .bool true]) (by simp [results, Tryz.results12, go_sem]) rfl ⟨Or.inr ⟨q, oa, oc, HN.out, by rw [hq], ?_⟩, hb1.trans (hbr.mono hz1)⟩
        rw [hq]
        exact owns_lower hown.out hz1
end Go.Proofs.YtkoohfkomlmhoacGreatDoor.Pat
namespace Go.Proofs.YtkoohfkomlmhoacGreatDoor.Pat
open Go.Deep Go.RowKit Deed
set_option linter.unusedVariables false
set_option maxRecDepth 20000

/-- strings.Cut at one byte: the text ahead of it, the text behind it, whether it is there. -/
theorem cut1_any (r : List UInt8) (c : UInt8) (w : World) (hr : r.length ≤ 100000000) (ht : Tab w) :
    Calls Tryz.prog 33 #[.string (str r), .string ⟨#[c]⟩] w fun e w' => ∃ x r' more, e = .returned (.tuple #[.string (str x), .string (str r'), .bool more]) ∧ r'.length ≤ r.length ∧ x.length ≤ r.length ∧ ((more = false ∧ cutP c r = [x]) ∨ (more = true ∧ cutP c r = x :: cutP c r')) ∧ Below w.heap.size w w' := by
  obtain ⟨m, hm⟩ := ht.most
  refine (Tryz.strings_Cut (str r) ⟨#[c]⟩ m w (by rw [str_size]; omega) hm).mono ?_
  rintro e w' ⟨rfl, n, rfl⟩
  have e1 : (str r).data.toList = r := by simp
  rw [e1]
  rcases cut_one c r with ⟨h1, h2, h3⟩ | ⟨p, q, h1, h2, h3, h4⟩
  · refine ⟨r, [], false, ?_, by simp, Nat.le_refl _, Or.inl ⟨rfl, h3⟩, below_drewN (Below.refl _ _) _⟩
    show Ending.returned (.tuple #[.string ⟨(Lib.cut r [c]).1.toArray⟩, .string ⟨(Lib.cut r [c]).2.1.toArray⟩, .bool (Lib.cut r [c]).2.2]) = _
    rw [h2]
  · refine ⟨p, q, true, ?_, by rw [h1, List.length_append, List.length_cons]; omega, by rw [h1, List.length_append]; omega, Or.inr ⟨rfl, h4⟩, below_drewN (Below.refl _ _) _⟩
    show Ending.returned (.tuple #[.string ⟨(Lib.cut r [c]).1.toArray⟩, .string ⟨(Lib.cut r [c]).2.1.toArray⟩, .bool (Lib.cut r [c]).2.2]) = _
    rw [h3]
theorem drop_cons_at {α : Type} {P : List α} {i : Nat} {x : α} {l : List α} (h : P.drop i = x :: l) : P[i]? = some x ∧ P.drop (i + 1) = l ∧ i < P.length := by
  have hl : i < P.length := by
    rcases Nat.lt_or_ge i P.length with h1 | h1
    · exact h1
    · rw [List.drop_of_length_le h1] at h; cases h
  rw [List.drop_eq_getElem_cons hl] at h
  injection h with h1 h2
  exact ⟨by rw [List.getElem?_eq_getElem hl, h1], h2, hl⟩
theorem take_at {α : Type} {P : List α} {i : Nat} {x : α} (h : P[i]? = some x) : P.take (i + 1) = P.take i ++ [x] := by
  have hl := (List.getElem?_eq_some_iff.1 h).1
  rw [List.take_succ_eq_append_getElem hl]
  congr 2
  rw [List.getElem?_eq_getElem hl] at h
  exact Option.some.inj h

set_option maxHeartbeats 2000000 in
theorem pparsePath_any (s : ByteArray) (w : World) (hs : s.size ≤ 100000000) (ht : Tab w) :
    Calls Tryz.prog 11 #[.string s] w fun e w' => PathEnd s.data.toList w e w' ∧ Below w.heap.size w w' := by
  by_cases h1 : s.data.toList = [45]
  · have HP := hide (show pathIn s.data.toList = some [] by rw [h1]; rfl)
    have hb2 : (s.toList == [45]) = true := beq_iff_eq.2 (by rw [ByteArray.toList_eq]; exact h1)
    clear h1
    go_enter Tryz.func11, Tryz.ntmps11
    go_wp2_with fail
    refine bodyPost_ret (v := .tuple #[.slice none 0 0, .bool true]) (by simp [results, Tryz.results11, go_sem]) rfl ⟨Or.inr ⟨[], none, 0, HP.out, rfl, ⟨rfl, Or.inl ⟨rfl, rfl⟩⟩⟩, Below.refl _ _⟩
  · have hb2 : (s.data.toList == [45]) = false := beq_eq_false_iff_ne.2 h1
    have HP := hide (show pathIn s.data.toList = allFew (cutP 46 s.data.toList) by unfold pathIn; rw [if_neg h1])
    clear h1
    obtain ⟨iI, hiI, hi0, hi1, hi2⟩ := info_parts Tryz.infoInt
    have hlen := cut_len 46 s.data.toList
    have hsl : s.data.toList.length = s.size := by simp
    rw [hsl] at hlen
    obtain ⟨R, hR⟩ : ∃ R, R = s.data.toList := ⟨_, rfl⟩
    have hsR : s = str R := by rw [hR]
    have hRl : R.length ≤ s.size := by rw [hR]; omega
    rw [← hR] at HP hlen hb2 ⊢
    obtain ⟨P, hP⟩ : ∃ P, P = cutP 46 R := ⟨_, rfl⟩
    have hne : P ≠ [] := by rw [hP]; exact cutP_ne _ _
    have hpos : 0 < P.length := List.length_pos_iff.2 hne
    rw [← hP] at HP hlen
    have HCR := hide hP
    have HT := hide ht
    clear hP hsl hR hne ht
    subst hsR
    rw [str_size] at hs hlen hRl
    go_enter Tryz.func11, Tryz.ntmps11
    go_wp2_with fail
    go_loopg [0, 4, 5] P.length (fun gk v0 v4 v5 wr => ∃ (i : Nat) (q : List Nat) (r : List UInt8) (more : Bool) (oa : Option Addr) (oc : Nat), gk = P.length - i ∧ i ≤ P.length ∧ q.length = i ∧ v0 = .string (str r) ∧ v5 = .bool more ∧ v4 = .slice oa i oc ∧ r.length ≤ R.length ∧ Hid ((more = true ∧ P.drop i = cutP 46 r) ∨ (more = false ∧ i = P.length)) ∧ Hid (allFew (P.take i) = some q) ∧ Hid (wr.ownsRow w.heap.size 3 1 (.slice oa i oc) i (intCells q)) ∧ Below w.heap.size w wr)
    case atStart => exact ⟨0, [], R, true, none, 0, rfl, Nat.zero_le _, rfl, rfl, rfl, rfl, Nat.le_refl _, Or.inl ⟨rfl, HCR.out⟩, rfl, ⟨rfl, Or.inl ⟨rfl, rfl⟩⟩, Below.refl _ _⟩
    case round =>
      obtain ⟨i, q, r, more, oa, oc, hgk, hi, hq, rfl, rfl, rfl, hrl, hmore, hfew, hown, hbr⟩ := hrel
      rcases hmore.out with ⟨rfl, hdr⟩ | ⟨rfl, hiP⟩
      · clear hmore
        have HDR := hide hdr
        have HC := hide (cut1_any r 46 wr (by omega) (HT.out.below hbr))
        have HBR := hide hbr
        have hzr := hbr.size
        clear hdr hbr
        go_wp2_with fail
        refine Calls.mono HC.out ?_
        rintro e w1 ⟨x, r', more, rfl, hr', hx, hcut, hb1⟩
        have hat : ∃ l, cutP 46 r = x :: l ∧ ((more = true ∧ l = cutP 46 r') ∨ (more = false ∧ l = [])) := by
          rcases hcut with ⟨h1, h2⟩ | ⟨h1, h2⟩
          · exact ⟨[], h2, Or.inr ⟨h1, rfl⟩⟩
          · exact ⟨_, h2, Or.inl ⟨h1, rfl⟩⟩
        obtain ⟨l, hl1, hl2⟩ := hat
        obtain ⟨g1, g2, g3⟩ := drop_cons_at (HDR.out.trans hl1)
        have HG1 := hide g1
        have HTK := hide (take_at g1)
        have HB1 := hide (HBR.out.trans (hb1.mono hzr))
        have hz1 := HB1.out.size
        have HN := hide (number_any (str x) w1 (by rw [str_size]; omega) (HT.out.below HB1.out))
        have hstr : (str x).data.toList = x := by simp
        rw [hstr] at HN
        have HM := hide (show (more = true ∧ P.drop (i + 1) = cutP 46 r') ∨ (more = false ∧ i + 1 = P.length) by
          rcases hl2 with ⟨h1, h2⟩ | ⟨h1, h2⟩
          · exact Or.inl ⟨h1, by rw [g2, h2]⟩
          · refine Or.inr ⟨h1, ?_⟩
            rw [h2] at g2
            have := congrArg List.length g2
            simp only [List.length_drop, List.length_nil] at this
            omega)
        have HOW := hide (ownsN_below hown.out hb1)
        clear hstr hl1 hl2 hcut hb1 g1 g2 HDR
        cases hfx : fewP x with
        | none =>
          have hfe : fewE x = (0, false) := by unfold fewE; rw [hfx]
          rw [hfe] at HN
          have HE := hide (show pathIn R = none by rw [HP.out]; exact allFew_bad P i x HG1.out hfx)
          clear hfe hfx
          go_wp2_with fail
          refine Calls.mono HN.out ?_
          rintro e w2 ⟨rfl, hb2⟩
          have HB2 := hide (HB1.out.trans (hb2.mono hz1))
          clear hb2
          go_wp2_with fail
          refine bodyPost_ret (v := .tuple #[.slice none 0 0, .bool false]) (by simp [results, Tryz.results11, go_sem]) rfl ⟨Or.inl ⟨HE.out, rfl⟩, HB2.out⟩
        | some n =>
          have hfe : fewE x = (n, true) := by unfold fewE; rw [hfx]
          rw [hfe] at HN
          have HE := hide (show allFew (P.take (i + 1)) = some (q ++ [n]) by rw [HTK.out]; exact allFew_snoc _ _ _ _ hfew.out hfx)
          clear hfe hfx
          go_wp2_with fail
          refine Calls.mono HN.out ?_
          rintro e w2 ⟨rfl, hb2⟩
          have HB2 := hide (HB1.out.trans (hb2.mono hz1))
          have hz2 := HB2.out.size
          have HOW2 := hide (ownsN_below HOW.out hb2)
          clear hb2
          go_wp2_with (at_builtin; refine wpList_append_lies _ rfl (.tmp 25) (.tmp 27) 23 rfl w.heap.size 3 iI _ 1 8 Tryz.underlying23 hiI hi0 hi1 hi2 rfl (by decide) _ i _ rfl (ownsN_below HOW2.out ((Below.refl _ _).alloc (Nat.le_refl _) _)) ⟨w2.heap.size, 0, none⟩ 1 1 [Value.int .i64 (n : Int)] rfl rfl (int_news w2 3 (n : Int)) (by simp [Value.oneCell']) (by decide) (by unfold maxLen; omega) (by omega) (by simp; omega) (w2.heap.size + 1) (by simp) ?_)
          intro g6 cap6 w3 hown6 hgrow6 hat6 hlt6
          have hb3 : Below w.heap.size w w3 := by
            have h1 := HB2.out.alloc hz2 (Obj.cells #[Value.int .i64 (n : Int)] 3)
            exact h1.grown hgrow6 h1.size fun k hk => (ownBlockN_lt HOW2.out hk).1
          have HO := hide hown6
          clear hown6 hgrow6 hat6
          go_wp2_with fail
          go_roundg (P.length - (i + 1))
          case measure => omega
          case rel =>
            refine ⟨i + 1, q ++ [n], r', more, some ⟨g6, 0, none⟩, cap6, rfl, by omega, by simp [hq], rfl, rfl, rfl, by omega, HM.out, HE.out, ?_, hb3⟩
            show World.ownsRow _ _ _ _ _ _ _
            rw [intCells_snoc]
            exact HO.out
      · have HN := hide (show pathIn R = some q by rw [HP.out]; have := hfew.out; rwa [List.take_of_length_le (by omega)] at this)
        clear hiP hmore
        go_wp2_with fail
        refine bodyPost_ret (v := .tuple #[.slice oa i oc, .bool true]) (by simp [results, Tryz.results11, go_sem]) rfl ⟨Or.inr ⟨q, oa, oc, HN.out, by rw [hq], ?_⟩, hbr⟩
        rw [hq]
        exact hown.out
end Go.Proofs.YtkoohfkomlmhoacGreatDoor.Pat
