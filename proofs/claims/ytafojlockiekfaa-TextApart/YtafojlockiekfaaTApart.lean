/- pleachinglaw.TextApart answers true. Of the program's text. -/
import Derived.Test.YtafojlockiekfaaProg
import Derived.Test.YtafojlockiekfaaTBack
import Derived.Test.YtafojlockiekfaaTextOf
import Derived.Deep.LoopGhost
namespace Go.Proofs.Ytafojlockiekfaa
open Go.Deep Go.RowKit
set_option linter.unusedVariables false
set_option maxRecDepth 20000

theorem toList_eqB {a b : ByteArray} (h : (a.toList == b.toList) = true) : a = b := by
  have h1 : a.toList = b.toList := by simpa using h
  rw [ByteArray.toList_eq, ByteArray.toList_eq] at h1
  obtain ⟨⟨x⟩⟩ := a
  obtain ⟨⟨y⟩⟩ := b
  have : x = y := h1
  rw [this]
theorem strip_of_sameF : ∀ (f g : Fo), sameF f g = true → strip f = strip g
  | .nil, .nil, _ => rfl
  | .nil, .node _ _ _ _ _, h => by simp [sameF] at h
  | .node _ _ _ _ _, .nil, h => by simp [sameF] at h
  | .node _ _ x k r, .node _ _ y l q, h => by
    simp only [sameF, Bool.and_eq_true] at h
    simp only [strip, toList_eqB h.1.1, strip_of_sameF k l h.1.2, strip_of_sameF r q h.2]
/-- Two good trees have one text just if they are the same. -/
theorem txt_same {s s2 : ByteArray} {k k2 : Fo} (h : faultT s k = 0) (h2 : faultT s2 k2 = 0) : ((str (txtT s k)).toList == (str (txtT s2 k2)).toList) = sameT s k s2 k2 := by
  rw [Bool.eq_iff_iff]
  constructor
  · intro he
    have e1 := prs_txt h
    have e2 := prs_txt h2
    have e3 := toList_eqB he
    unfold str at e3
    rw [e3, e2] at e1
    injection e1 with e4 e5
    rw [e4]
    exact sameT_of_strip e5.symm
  · intro hs
    unfold sameT at hs
    simp only [Bool.and_eq_true] at hs
    have e1 := toList_eqB hs.1
    have e2 := strip_of_sameF _ _ hs.2
    rw [e1, ← txtT_strip, e2, txtT_strip]
    simp

/-- A byte with more blanks about it, as the law has it. -/
def wideB (c : UInt8) : List UInt8 := if (c.toNat : Int) = 40 ∨ (c.toNat : Int) = 41 then [32, 10, c, 10] else if (c.toNat : Int) = 32 then [10, 32, 32] else [c]
theorem wideB_label : ∀ l : List UInt8, l.all okByte = true → l.flatMap wideB = l
  | [], _ => rfl
  | c :: l, h => by
    simp only [List.all_cons, Bool.and_eq_true] at h
    have h1 : wideB c = [c] := by
      unfold wideB
      rw [if_neg (by rintro (h' | h') <;> exact okByte_ne h.1 (by decide) h'), if_neg (okByte_ne h.1 (by decide))]
    rw [List.flatMap_cons, h1, wideB_label l h.2]
    rfl
theorem wideB_len : ∀ l : List UInt8, (l.flatMap wideB).length ≤ 4 * l.length
  | [] => by simp
  | c :: l => by
    have := wideB_len l
    have h1 : (wideB c).length ≤ 4 := by
      unfold wideB
      split
      · simp
      · split <;> simp
    rw [List.flatMap_cons, List.length_append, List.length_cons]
    omega
theorem wide_clo (k : Fo) : (clo k).flatMap wideB = gC [32, 10, 41, 10] k := by cases k <;> rfl
theorem wide_txtK : ∀ (k : Fo) (c : UInt8), badF k = false → (txtK k c).flatMap wideB = gK [32, 10, 40, 10] [10, 32, 32] [32, 10, 41, 10] k (wideB c)
  | .nil, _, _ => rfl
  | .node _ _ x k r, c, h => by
    simp only [badF, Bool.or_eq_false_iff, Bool.not_eq_false'] at h
    have h1 := wide_txtK k 40 h.1.2
    have h2 := wide_txtK r 32 h.2
    rw [show wideB 40 = [32, 10, 40, 10] from rfl] at h1
    rw [show wideB 32 = [10, 32, 32] from rfl] at h2
    simp only [txtK, gK, List.cons_append, List.flatMap_cons, List.flatMap_append, h1, h2, wide_clo, wideB_label _ (labelB_parts h.1.1).1]
theorem g_wide : GOk [32, 10, 40, 10] [10, 32, 32] [32, 10, 41, 10] := ⟨⟨[32, 10], [10], rfl, rfl, rfl⟩, ⟨[32, 10], [10], rfl, rfl, rfl⟩, by decide, by simp⟩
/-- With other blanks where they may stand it is the same tree. -/
theorem prs_wide {s : ByteArray} {k : Fo} (h : faultT s k = 0) : prs (str ([10, 32] ++ ((txtT s k).flatMap wideB ++ [32]))) = .ok s (strip k) := by
  obtain ⟨_, _, h3⟩ := fault_zero h
  unfold badT at h3
  simp only [Bool.or_eq_false_iff, Bool.not_eq_false'] at h3
  have e : (txtT s k).flatMap wideB = gT [32, 10, 40, 10] [10, 32, 32] [32, 10, 41, 10] s k := by
    unfold txtT gT
    rw [List.flatMap_append, List.flatMap_append, wide_txtK k 40 h3.2, wide_clo, wideB_label _ (labelB_parts h3.1).1]
    rfl
  have hl := (txtT_le h).1
  have hw := wideB_len (txtT s k)
  rw [e] at hw ⊢
  exact prs_g g_wide h (pre := [10, 32]) (post := [32]) (by decide) (by decide) (by simp only [List.length_append, List.length_cons, List.length_nil]; omega)

set_option maxHeartbeats 4000000 in
theorem tapart_any (s : ByteArray) (ka : Option Addr) (cap : Nat) (k : Fo) (s2 : ByteArray) (ka2 : Option Addr) (cap2 : Nat) (k2 : Fo) (w : World) (ht : TIn w s ka cap k) (hco : FCold w k) (hu : TIn w s2 ka2 cap2 k2) (hcu : FCold w k2) :
    Calls Try.prog 7 #[.agg #[.string s, .slice ka (flen k) cap], .agg #[.string s2, .slice ka2 (flen k2) cap2]] w fun e w' => e = .returned (.bool true) ∧ Below w.heap.size w w' := by
  have hbx : Below w.heap.size w ((w.alloc (Obj.cells #[Value.string s, Value.slice ka (flen k) cap] 24)).alloc (Obj.cells #[Value.string s2, Value.slice ka2 (flen k2) cap2] 24)) := ((Below.refl _ _).alloc (Nat.le_refl _) _).alloc (by simp) _
  go_enter Try.func7, Try.ntmps7
  go_wp2_with fail
  refine (tbegun_any _).mono ?_
  rintro e w1 ⟨rfl, hb1⟩
  have hB1 := hbx.trans (hb1.mono (by simp; omega))
  have e0 : w1.cell? ⟨w.heap.size, 0, none⟩ = some (.string s) := by rw [hb1.cell (by simp; omega)]; go_simp
  have e1 : w1.cell? ⟨w.heap.size, 1, none⟩ = some (.slice ka (flen k) cap) := by rw [hb1.cell (by simp; omega)]; go_simp
  have f0 : w1.cell? ⟨w.heap.size + 1, 0, none⟩ = some (.string s2) := by rw [hb1.cell (by simp)]; go_simp
  have f1 : w1.cell? ⟨w.heap.size + 1, 1, none⟩ = some (.slice ka2 (flen k2) cap2) := by rw [hb1.cell (by simp)]; go_simp
  have HG := hide (great_any s ka cap k w1 (ht.below hB1))
  clear hb1 hbx
  cases hg : greatT s k with
  | true =>
    rw [hg] at HG
    go_wp2_with fail
    refine Calls.mono HG.out ?_
    rintro e w2 ⟨rfl, hb2⟩
    go_wp2_with fail
    go_ret
    exact ⟨rfl, hB1.trans (hb2.mono hB1.size)⟩
  | false =>
    rw [hg] at HG
    have hsm := greatT_small hg
    go_wp2_with fail
    refine Calls.mono HG.out ?_
    rintro e w2 ⟨rfl, hb2⟩
    have hB2 := hB1.trans (hb2.mono hB1.size)
    have e0a := cellOf hb2 e0
    have e1a := cellOf hb2 e1
    have f0a := cellOf hb2 f0
    have f1a := cellOf hb2 f1
    have HG2 := hide (great_any s2 ka2 cap2 k2 w2 (hu.below hB2))
    clear e0 e1 f0 f1 hb2 hB1 HG hg
    cases hg2 : greatT s2 k2 with
    | true =>
      rw [hg2] at HG2
      go_wp2_with fail
      refine Calls.mono HG2.out ?_
      rintro e w3 ⟨rfl, hb3⟩
      go_wp2_with fail
      go_ret
      exact ⟨rfl, hB2.trans (hb3.mono hB2.size)⟩
    | false =>
      rw [hg2] at HG2
      have hsm2 := greatT_small hg2
      go_wp2_with fail
      refine Calls.mono HG2.out ?_
      rintro e w3 ⟨rfl, hb3⟩
      have hB3 := hB2.trans (hb3.mono hB2.size)
      have e0 := cellOf hb3 e0a
      have e1 := cellOf hb3 e1a
      have f0 := cellOf hb3 f0a
      have f1 := cellOf hb3 f1a
      have HP := hide (print_raw s ka cap k w3 (ht.below hB3) (hco.below hB3) (by omega) (by have := fhigh_le_nodes k; omega))
      clear e0a e1a f0a f1a hb3 hB2 HG2 hg2
      go_wp2_with fail
      refine Calls.mono HP.out ?_
      rintro e w4 ⟨hpe, hb4⟩
      have hB4 := hB3.trans (hb4.mono hB3.size)
      have e0a := cellOf hb4 e0
      have e1a := cellOf hb4 e1
      have f0a := cellOf hb4 f0
      have f1a := cellOf hb4 f1
      have HP2 := hide (print_raw s2 ka2 cap2 k2 w4 (hu.below hB4) (hcu.below hB4) (by omega) (by have := fhigh_le_nodes k2; omega))
      clear e0 e1 f0 f1 hb4 hB3 HP
      rcases hpe with ⟨c, hc, hc0, rfl⟩ | ⟨hc, rfl⟩
      · have hcb : (c == 0) = false := beq_eq_false_iff_ne.2 hc0
        go_wp2_with fail
        refine Calls.mono HP2.out ?_
        rintro e w5 ⟨hpe2, hb5⟩
        have hB5 := hB4.trans (hb5.mono hB4.size)
        clear HP2 hb5 hB4 hc hc0 e0a e1a f0a f1a
        obtain ⟨a2, c2, rfl⟩ : ∃ a2 c2, e = .returned (.tuple #[.string a2, .int .i64 c2]) := by
          rcases hpe2 with ⟨c, _, _, rfl⟩ | ⟨_, rfl⟩
          · exact ⟨_, _, rfl⟩
          · exact ⟨_, _, rfl⟩
        clear hpe2
        go_wp2_with fail
        go_ret
        exact ⟨rfl, hB5⟩
      · have hf0 := MayTell.good hc
        have hle := (txtT_le hf0).1
        clear hc
        go_wp2_with fail
        refine Calls.mono HP2.out ?_
        rintro e w5 ⟨hpe2, hb5⟩
        have hB5 := hB4.trans (hb5.mono hB4.size)
        have e0 := cellOf hb5 e0a
        have e1 := cellOf hb5 e1a
        have f0 := cellOf hb5 f0a
        have f1 := cellOf hb5 f1a
        clear e0a e1a f0a f1a hb5 hB4 HP2
        have hPW := prs_wide hf0
        obtain ⟨T, hT⟩ : ∃ T, T = txtT s k := ⟨_, rfl⟩
        rcases hpe2 with ⟨d, hd, hd0, rfl⟩ | ⟨hd, rfl⟩
        · have hdb : (d == 0) = false := beq_eq_false_iff_ne.2 hd0
          rw [← hT] at hPW hle ⊢
          have HPW := hide hPW
          clear hPW hT hf0 hd hd0
          obtain ⟨A, hA⟩ : ∃ A, A = str T := ⟨_, rfl⟩
          have hsz : A.size = T.length := by rw [hA]; exact str_size T
          rw [show (⟨T.toArray⟩ : ByteArray) = A from hA.symm]
          have HAT := hide hA
          clear hA
          go_wp2_with fail
          go_loopg [9, 10] T.length (fun gk v9 v10 wr => ∃ (i : Nat) (D : ByteArray), gk = T.length - i ∧ i ≤ T.length ∧ v10 = .int .i64 (i : Nat) ∧ v9 = .string D ∧ Hid (D = str ((T.take i).flatMap wideB)) ∧ D.size ≤ 4 * i ∧ Below w5.heap.size w5 wr)
          case atStart => exact ⟨0, _, rfl, Nat.zero_le _, rfl, rfl, rfl, by decide, Below.refl _ _⟩
          case round =>
            obtain ⟨i, D, hgk, hi, rfl, rfl, hD, hDs, hbr⟩ := hrel
            by_cases hlt : i < T.length
            · have hlA : i < A.size := by omega
              obtain ⟨c, hcT⟩ : ∃ c, T[i]? = some c := ⟨_, List.getElem?_eq_getElem hlt⟩
              have hAc : A[i] = c := by
                have h1 : A.data.toList = T := by rw [HAT.out]
                have h2 : A.data.toList[i]? = some A[i] := by
                  rw [List.getElem?_eq_getElem (by simpa using hlA)]
                  rfl
                rw [h1, hcT] at h2
                simpa using h2.symm
              have hX : (A.extract i (i + 1)).size = 1 := by rw [ByteArray.size_extract]; omega
              have HX := hide (show A.extract i (i + 1) = str [c] by
                apply ByteArray.ext
                rw [HAT.out]
                apply Array.ext'
                simp only [ByteArray.data_extract, Array.toList_extract, List.extract_eq_take_drop]
                have h3 := List.drop_eq_getElem_cons hlt
                have h4 : T[i] = c := by
                  rw [List.getElem?_eq_getElem hlt] at hcT
                  simpa using hcT
                rw [h3, h4, show i + 1 - i = 1 by omega]
                rfl)
              have HTK := hide (show T.take (i + 1) = T.take i ++ [c] by
                rw [List.take_succ_eq_append_getElem hlt]
                rw [List.getElem?_eq_getElem hlt] at hcT
                have h4 : T[i] = c := by simpa using hcT
                rw [h4])
              clear hcT
              by_cases h40 : (c.toNat : Int) = 40
              · have HW := hide (show wideB c = [32, 10, c, 10] by unfold wideB; rw [if_pos (Or.inl h40)])
                have hb40 : ((A[i].toNat : Int) == 40) = true := by rw [hAc]; exact beq_iff_eq.2 h40
                clear h40 hAc
                go_wp2_with fail
                go_roundg (T.length - (i + 1))
                case measure => omega
                case rel =>
                  refine ⟨i + 1, _, rfl, by omega, by go_num, rfl, ?_, ?_, hbr⟩
                  · show _ = _
                    rw [hD.out, HX.out, HTK.out, show (⟨#[32, 10]⟩ : ByteArray) = str [32, 10] from rfl, show (⟨#[10]⟩ : ByteArray) = str [10] from rfl, str_append, str_append, str_append, List.flatMap_append]
                    simp [HW.out]
                  · simp only [ByteArray.size_append, hX]
                    rw [show (⟨#[32, 10]⟩ : ByteArray).size = 2 from rfl, show (⟨#[10]⟩ : ByteArray).size = 1 from rfl]
                    omega
              · have hb40 : ((A[i].toNat : Int) == 40) = false := by rw [hAc]; exact beq_eq_false_iff_ne.2 h40
                by_cases h41 : (c.toNat : Int) = 41
                · have HW := hide (show wideB c = [32, 10, c, 10] by unfold wideB; rw [if_pos (Or.inr h41)])
                  have hb41 : ((A[i].toNat : Int) == 41) = true := by rw [hAc]; exact beq_iff_eq.2 h41
                  clear h40 h41 hAc
                  go_wp2_with fail
                  go_roundg (T.length - (i + 1))
                  case measure => omega
                  case rel =>
                    refine ⟨i + 1, _, rfl, by omega, by go_num, rfl, ?_, ?_, hbr⟩
                    · show _ = _
                      rw [hD.out, HX.out, HTK.out, show (⟨#[32, 10]⟩ : ByteArray) = str [32, 10] from rfl, show (⟨#[10]⟩ : ByteArray) = str [10] from rfl, str_append, str_append, str_append, List.flatMap_append]
                      simp [HW.out]
                    · simp only [ByteArray.size_append, hX]
                      rw [show (⟨#[32, 10]⟩ : ByteArray).size = 2 from rfl, show (⟨#[10]⟩ : ByteArray).size = 1 from rfl]
                      omega
                · have hb41 : ((A[i].toNat : Int) == 41) = false := by rw [hAc]; exact beq_eq_false_iff_ne.2 h41
                  by_cases h32 : (c.toNat : Int) = 32
                  · have HW := hide (show wideB c = [10, 32, 32] by unfold wideB; rw [if_neg (by rintro (h | h) <;> contradiction), if_pos h32])
                    have hb32 : ((A[i].toNat : Int) == 32) = true := by rw [hAc]; exact beq_iff_eq.2 h32
                    clear h40 h41 h32 hAc
                    go_wp2_with fail
                    go_roundg (T.length - (i + 1))
                    case measure => omega
                    case rel =>
                      refine ⟨i + 1, _, rfl, by omega, by go_num, rfl, ?_, ?_, hbr⟩
                      · show _ = _
                        rw [hD.out, HTK.out, show (⟨#[10, 32, 32]⟩ : ByteArray) = str [10, 32, 32] from rfl, str_append, List.flatMap_append]
                        simp [HW.out]
                      · simp only [ByteArray.size_append]
                        rw [show (⟨#[10, 32, 32]⟩ : ByteArray).size = 3 from rfl]
                        omega
                  · have HW := hide (show wideB c = [c] by unfold wideB; rw [if_neg (by rintro (h | h) <;> contradiction), if_neg h32])
                    have hb32 : ((A[i].toNat : Int) == 32) = false := by rw [hAc]; exact beq_eq_false_iff_ne.2 h32
                    clear h40 h41 h32 hAc
                    go_wp2_with fail
                    go_roundg (T.length - (i + 1))
                    case measure => omega
                    case rel =>
                      refine ⟨i + 1, _, rfl, by omega, by go_num, rfl, ?_, ?_, hbr⟩
                      · show _ = _
                        rw [hD.out, HX.out, HTK.out, str_append, List.flatMap_append]
                        simp [HW.out]
                      · simp only [ByteArray.size_append, hX]
                        omega
            · have hit : i = T.length := by omega
              have HARG := hide (show (⟨#[10, 32]⟩ : ByteArray) ++ D ++ ⟨#[32]⟩ = str ([10, 32] ++ (T.flatMap wideB ++ [32])) by
                rw [hD.out, hit, List.take_length, show (⟨#[10, 32]⟩ : ByteArray) = str [10, 32] from rfl, show (⟨#[32]⟩ : ByteArray) = str [32] from rfl, str_append, str_append, List.append_assoc])
              have hnl : (⟨#[10, 32]⟩ : ByteArray).size = 2 := rfl
              have hn1 : (⟨#[32]⟩ : ByteArray).size = 1 := rfl
              have hBr := hB5.trans (hbr.mono hB5.size)
              have g0 := cellOf hbr e0
              have g1 := cellOf hbr e1
              have HPB := hide (parse_any ((⟨#[10, 32]⟩ : ByteArray) ++ D ++ ⟨#[32]⟩) wr (by unfold maxLen; rw [ByteArray.size_append, ByteArray.size_append, hnl, hn1]; omega))
              have HPR := hide (show prs ((⟨#[10, 32]⟩ : ByteArray) ++ D ++ ⟨#[32]⟩) = .ok s (strip k) by rw [HARG.out]; exact HPW.out)
              clear HARG hit
              go_wp2_with fail
              refine Calls.mono HPB.out ?_
              rintro e w7 ⟨hpe, hb7⟩
              have hB7 := hBr.trans (hb7.mono hBr.size)
              have g0a := cellOf hb7 g0
              have g1a := cellOf hb7 g1
              clear HPB hb7 g0 g1 hBr hbr
              rcases hpe with ⟨c2, p2, hpr2, _, _⟩ | ⟨x2, ky, ka9, cap9, k9, hpr2, rfl, hst2, ht2, _, _, _⟩
              · rw [HPR.out] at hpr2; cases hpr2
              rw [HPR.out] at hpr2
              injection hpr2 with hx hk
              subst hx
              have hstr2 : strip k9 = strip k := by rw [hst2]; exact hk.symm
              have hby : Below w7.heap.size w7 ((w7.alloc (Obj.cells #[Value.string s, Value.slice ka9 (flen k9) cap9] 24)).alloc (Obj.cells #[Value.int .i64 0, Value.int .i64 0] 42)) := ((Below.refl _ _).alloc (Nat.le_refl _) _).alloc (by simp) _
              have hBy := hB7.trans (hby.mono hB7.size)
              have KB := sameTree_any s ka9 cap9 k9 s ka cap k _ (ht2.below hby) (ht.below hBy)
              rw [sameT_of_strip hstr2] at KB
              have HKB := hide KB
              have y0 := cellOf hby g0a
              have y1 := cellOf hby g1a
              clear KB hby g0a g1a HPR hk hst2 hstr2 ht2 hB7 HPW
              go_wp2_with fail
              refine Calls.mono HKB.out ?_
              rintro e w8 ⟨rfl, hb8⟩
              go_wp2_with fail
              go_ret
              exact ⟨rfl, hBy.trans (hb8.mono hBy.size)⟩
        · have hf2 := MayTell.good hd
          have hsame := txt_same hf0 hf2
          have HS := hide (sameTree_any s ka cap k s2 ka2 cap2 k2 w5 (ht.below hB5) (hu.below hB5))
          obtain ⟨T2, hT2⟩ : ∃ T2, T2 = txtT s2 k2 := ⟨_, rfl⟩
          rw [← hT, ← hT2] at hsame
          rw [← hT] at hPW hle ⊢
          rw [← hT2]
          have HPW := hide hPW
          clear hPW hT hT2 hf0 hf2 hd
          obtain ⟨A, hA⟩ : ∃ A, A = str T := ⟨_, rfl⟩
          obtain ⟨A2, hA2⟩ : ∃ A2, A2 = str T2 := ⟨_, rfl⟩
          have hsz : A.size = T.length := by rw [hA]; exact str_size T
          rw [show (⟨T.toArray⟩ : ByteArray) = A from hA.symm, show (⟨T2.toArray⟩ : ByteArray) = A2 from hA2.symm]
          rw [← hA, ← hA2] at hsame
          obtain ⟨q, hq⟩ : ∃ q, q = sameT s k s2 k2 := ⟨_, rfl⟩
          rw [← hq] at hsame HS
          have HAT := hide hA
          clear hA hA2 hq
          go_wp2_with fail
          refine Calls.mono HS.out ?_
          rintro e w6 ⟨rfl, hb6⟩
          have hB6 := hB5.trans (hb6.mono hB5.size)
          have e0a := cellOf hb6 e0
          have e1a := cellOf hb6 e1
          clear HS hb6 hB5 e0 e1 f0 f1
          go_wp2_with fail
          go_loopg [9, 10] T.length (fun gk v9 v10 wr => ∃ (i : Nat) (D : ByteArray), gk = T.length - i ∧ i ≤ T.length ∧ v10 = .int .i64 (i : Nat) ∧ v9 = .string D ∧ Hid (D = str ((T.take i).flatMap wideB)) ∧ D.size ≤ 4 * i ∧ Below w6.heap.size w6 wr)
          case atStart => exact ⟨0, _, rfl, Nat.zero_le _, rfl, rfl, rfl, by decide, Below.refl _ _⟩
          case round =>
            obtain ⟨i, D, hgk, hi, rfl, rfl, hD, hDs, hbr⟩ := hrel
            by_cases hlt : i < T.length
            · have hlA : i < A.size := by omega
              obtain ⟨c, hcT⟩ : ∃ c, T[i]? = some c := ⟨_, List.getElem?_eq_getElem hlt⟩
              have hAc : A[i] = c := by
                have h1 : A.data.toList = T := by rw [HAT.out]
                have h2 : A.data.toList[i]? = some A[i] := by
                  rw [List.getElem?_eq_getElem (by simpa using hlA)]
                  rfl
                rw [h1, hcT] at h2
                simpa using h2.symm
              have hX : (A.extract i (i + 1)).size = 1 := by rw [ByteArray.size_extract]; omega
              have HX := hide (show A.extract i (i + 1) = str [c] by
                apply ByteArray.ext
                rw [HAT.out]
                apply Array.ext'
                simp only [ByteArray.data_extract, Array.toList_extract, List.extract_eq_take_drop]
                have h3 := List.drop_eq_getElem_cons hlt
                have h4 : T[i] = c := by
                  rw [List.getElem?_eq_getElem hlt] at hcT
                  simpa using hcT
                rw [h3, h4, show i + 1 - i = 1 by omega]
                rfl)
              have HTK := hide (show T.take (i + 1) = T.take i ++ [c] by
                rw [List.take_succ_eq_append_getElem hlt]
                rw [List.getElem?_eq_getElem hlt] at hcT
                have h4 : T[i] = c := by simpa using hcT
                rw [h4])
              clear hcT
              by_cases h40 : (c.toNat : Int) = 40
              · have HW := hide (show wideB c = [32, 10, c, 10] by unfold wideB; rw [if_pos (Or.inl h40)])
                have hb40 : ((A[i].toNat : Int) == 40) = true := by rw [hAc]; exact beq_iff_eq.2 h40
                clear h40 hAc
                go_wp2_with fail
                go_roundg (T.length - (i + 1))
                case measure => omega
                case rel =>
                  refine ⟨i + 1, _, rfl, by omega, by go_num, rfl, ?_, ?_, hbr⟩
                  · show _ = _
                    rw [hD.out, HX.out, HTK.out, show (⟨#[32, 10]⟩ : ByteArray) = str [32, 10] from rfl, show (⟨#[10]⟩ : ByteArray) = str [10] from rfl, str_append, str_append, str_append, List.flatMap_append]
                    simp [HW.out]
                  · simp only [ByteArray.size_append, hX]
                    rw [show (⟨#[32, 10]⟩ : ByteArray).size = 2 from rfl, show (⟨#[10]⟩ : ByteArray).size = 1 from rfl]
                    omega
              · have hb40 : ((A[i].toNat : Int) == 40) = false := by rw [hAc]; exact beq_eq_false_iff_ne.2 h40
                by_cases h41 : (c.toNat : Int) = 41
                · have HW := hide (show wideB c = [32, 10, c, 10] by unfold wideB; rw [if_pos (Or.inr h41)])
                  have hb41 : ((A[i].toNat : Int) == 41) = true := by rw [hAc]; exact beq_iff_eq.2 h41
                  clear h40 h41 hAc
                  go_wp2_with fail
                  go_roundg (T.length - (i + 1))
                  case measure => omega
                  case rel =>
                    refine ⟨i + 1, _, rfl, by omega, by go_num, rfl, ?_, ?_, hbr⟩
                    · show _ = _
                      rw [hD.out, HX.out, HTK.out, show (⟨#[32, 10]⟩ : ByteArray) = str [32, 10] from rfl, show (⟨#[10]⟩ : ByteArray) = str [10] from rfl, str_append, str_append, str_append, List.flatMap_append]
                      simp [HW.out]
                    · simp only [ByteArray.size_append, hX]
                      rw [show (⟨#[32, 10]⟩ : ByteArray).size = 2 from rfl, show (⟨#[10]⟩ : ByteArray).size = 1 from rfl]
                      omega
                · have hb41 : ((A[i].toNat : Int) == 41) = false := by rw [hAc]; exact beq_eq_false_iff_ne.2 h41
                  by_cases h32 : (c.toNat : Int) = 32
                  · have HW := hide (show wideB c = [10, 32, 32] by unfold wideB; rw [if_neg (by rintro (h | h) <;> contradiction), if_pos h32])
                    have hb32 : ((A[i].toNat : Int) == 32) = true := by rw [hAc]; exact beq_iff_eq.2 h32
                    clear h40 h41 h32 hAc
                    go_wp2_with fail
                    go_roundg (T.length - (i + 1))
                    case measure => omega
                    case rel =>
                      refine ⟨i + 1, _, rfl, by omega, by go_num, rfl, ?_, ?_, hbr⟩
                      · show _ = _
                        rw [hD.out, HTK.out, show (⟨#[10, 32, 32]⟩ : ByteArray) = str [10, 32, 32] from rfl, str_append, List.flatMap_append]
                        simp [HW.out]
                      · simp only [ByteArray.size_append]
                        rw [show (⟨#[10, 32, 32]⟩ : ByteArray).size = 3 from rfl]
                        omega
                  · have HW := hide (show wideB c = [c] by unfold wideB; rw [if_neg (by rintro (h | h) <;> contradiction), if_neg h32])
                    have hb32 : ((A[i].toNat : Int) == 32) = false := by rw [hAc]; exact beq_eq_false_iff_ne.2 h32
                    clear h40 h41 h32 hAc
                    go_wp2_with fail
                    go_roundg (T.length - (i + 1))
                    case measure => omega
                    case rel =>
                      refine ⟨i + 1, _, rfl, by omega, by go_num, rfl, ?_, ?_, hbr⟩
                      · show _ = _
                        rw [hD.out, HX.out, HTK.out, str_append, List.flatMap_append]
                        simp [HW.out]
                      · simp only [ByteArray.size_append, hX]
                        omega
            · have hit : i = T.length := by omega
              have HARG := hide (show (⟨#[10, 32]⟩ : ByteArray) ++ D ++ ⟨#[32]⟩ = str ([10, 32] ++ (T.flatMap wideB ++ [32])) by
                rw [hD.out, hit, List.take_length, show (⟨#[10, 32]⟩ : ByteArray) = str [10, 32] from rfl, show (⟨#[32]⟩ : ByteArray) = str [32] from rfl, str_append, str_append, List.append_assoc])
              have hnl : (⟨#[10, 32]⟩ : ByteArray).size = 2 := rfl
              have hn1 : (⟨#[32]⟩ : ByteArray).size = 1 := rfl
              have hBr := hB6.trans (hbr.mono hB6.size)
              have g0 := cellOf hbr e0a
              have g1 := cellOf hbr e1a
              have HPB := hide (parse_any ((⟨#[10, 32]⟩ : ByteArray) ++ D ++ ⟨#[32]⟩) wr (by unfold maxLen; rw [ByteArray.size_append, ByteArray.size_append, hnl, hn1]; omega))
              have HPR := hide (show prs ((⟨#[10, 32]⟩ : ByteArray) ++ D ++ ⟨#[32]⟩) = .ok s (strip k) by rw [HARG.out]; exact HPW.out)
              clear HARG hit
              go_wp2_with fail
              refine Calls.mono HPB.out ?_
              rintro e w7 ⟨hpe, hb7⟩
              have hB7 := hBr.trans (hb7.mono hBr.size)
              have g0a := cellOf hb7 g0
              have g1a := cellOf hb7 g1
              clear HPB hb7 g0 g1 hBr hbr
              rcases hpe with ⟨c2, p2, hpr2, _, _⟩ | ⟨x2, ky, ka9, cap9, k9, hpr2, rfl, hst2, ht2, _, _, _⟩
              · rw [HPR.out] at hpr2; cases hpr2
              rw [HPR.out] at hpr2
              injection hpr2 with hx hk
              subst hx
              have hstr2 : strip k9 = strip k := by rw [hst2]; exact hk.symm
              have hby : Below w7.heap.size w7 ((w7.alloc (Obj.cells #[Value.string s, Value.slice ka9 (flen k9) cap9] 24)).alloc (Obj.cells #[Value.int .i64 0, Value.int .i64 0] 42)) := ((Below.refl _ _).alloc (Nat.le_refl _) _).alloc (by simp) _
              have hBy := hB7.trans (hby.mono hB7.size)
              have KB := sameTree_any s ka9 cap9 k9 s ka cap k _ (ht2.below hby) (ht.below hBy)
              rw [sameT_of_strip hstr2] at KB
              have HKB := hide KB
              have y0 := cellOf hby g0a
              have y1 := cellOf hby g1a
              clear KB hby g0a g1a HPR hk hst2 hstr2 ht2 hB7 HPW
              go_wp2_with fail
              refine Calls.mono HKB.out ?_
              rintro e w8 ⟨rfl, hb8⟩
              go_wp2_with fail
              go_ret
              exact ⟨rfl, hBy.trans (hb8.mono hBy.size)⟩
end Go.Proofs.Ytafojlockiekfaa
