/- pleachinglaw.TextDoes answers true. Of the program's text. -/
import Derived.Test.YtafojlockiekfaaProg
import Derived.Test.YtafojlockiekfaaTBegun
import Derived.Test.YtafojlockiekfaaTextOf
import Derived.Test.YtafojlockiekfaaQParse
import Derived.Test.YtafojlockiekfaaOwnRef
import Derived.Test.YtafojlockiekfaaSameRef
import Derived.Test.YtafojlockiekfaaAlike
import Derived.Deep.RegionHeld3
import Derived.Laws.StructEq
namespace Go.Proofs.Ytafojlockiekfaa
open Go.Deep Go.RowKit
set_option linter.unusedVariables false

/-- What Parse told, in one form. -/
def Told (s x : ByteArray) (k : Fo) (c p : Int) : Prop := (prs s = .bad c p ∧ x = ⟨#[]⟩ ∧ k = .nil) ∨ (prs s = .ok x (strip k) ∧ c = 0 ∧ p = 0)
theorem parse_told {s : ByteArray} {w w' : World} {e : Ending} (h : ParseEnd s w e w') : ∃ x ka cap k c p, e = .returned (.tuple #[.agg #[.string x, .slice ka (flen k) cap], .agg #[.int .i64 c, .int .i64 p]]) ∧ TIn w' x ka cap k ∧ Told s x k c p := by
  rcases h with ⟨c, p, h1, _, rfl⟩ | ⟨x, k, ka, cap, k', h1, rfl, hst, ht, _⟩
  · exact ⟨⟨#[]⟩, none, 0, .nil, c, p, rfl, nilT _, Or.inl ⟨h1, rfl, rfl⟩⟩
  · exact ⟨x, ka, cap, k', 0, 0, rfl, ht, Or.inr ⟨by rw [hst]; exact h1, rfl, rfl⟩⟩
theorem told_same {s x x' : ByteArray} {k k' : Fo} {c c' p p' : Int} (h : Told s x k c p) (h' : Told s x' k' c' p') : x = x' ∧ strip k = strip k' ∧ c = c' ∧ p = p' := by
  rcases h with ⟨h1, rfl, rfl⟩ | ⟨h1, rfl, rfl⟩
  · rcases h' with ⟨h2, rfl, rfl⟩ | ⟨h2, _, _⟩
    · rw [h1] at h2
      cases h2
      exact ⟨rfl, rfl, rfl, rfl⟩
    · rw [h1] at h2; cases h2
  · rcases h' with ⟨h2, _, _⟩ | ⟨h2, rfl, rfl⟩
    · rw [h1] at h2; cases h2
    · rw [h1] at h2
      injection h2 with h3 h4
      exact ⟨h3, h4, rfl, rfl⟩

set_option maxHeartbeats 2000000 in
set_option maxRecDepth 100000 in
theorem tdoes_any (s : ByteArray) (ka : Option Addr) (cap : Nat) (k : Fo) (str0 : ByteArray) (w : World) (ht : TIn w s ka cap k) (hstr : str0.size ≤ maxLen) :
    Calls Try.prog 5 #[.agg #[.string s, .slice ka (flen k) cap], .string str0] w fun e w' => e = .returned (.bool true) ∧ Below w.heap.size w w' := by
  have hstr' := hstr
  unfold maxLen at hstr
  have hbx : Below w.heap.size w (w.alloc (Obj.cells #[Value.string s, Value.slice ka (flen k) cap] 24)) := (Below.refl _ _).alloc (Nat.le_refl _) _
  go_enter Try.func5, Try.ntmps5
  go_wp2_with fail
  refine (tbegun_any _).mono ?_
  rintro e w1 ⟨rfl, hb1⟩
  have hB1 := hbx.trans (hb1.mono (by simp))
  have e0 : w1.cell? ⟨w.heap.size, 0, none⟩ = some (.string s) := by rw [hb1.cell (by simp)]; go_simp
  have e1 : w1.cell? ⟨w.heap.size, 1, none⟩ = some (.slice ka (flen k) cap) := by rw [hb1.cell (by simp)]; go_simp
  have ht1 := ht.below hB1
  have hcg := great_any s ka cap k w1 ht1
  have HG := hide hcg
  clear hcg hb1 hbx
  cases hg : greatT s k with
  | true =>
    rw [hg] at HG
    go_wp2_with fail
    refine Calls.mono HG.out ?_
    rintro e w2 ⟨rfl, hb2⟩
    go_wp2_with fail
    go_ret
    exact ⟨rfl, hB1.trans (hb2.mono hB1.size)⟩
  | false =>
    rw [hg] at HG
    have hsm := greatT_small hg
    go_wp2_with fail
    refine Calls.mono HG.out ?_
    rintro e w2 ⟨rfl, hb2⟩
    have hB2 := hB1.trans (hb2.mono hB1.size)
    by_cases h4000 : 4000 < str0.size
    · go_wp2_with fail
      go_ret
      exact ⟨rfl, hB2⟩
    have d0 : w2.cell? ⟨w.heap.size, 0, none⟩ = some (.string s) := by rw [hb2.cell (World.block_lt_of_cell? _ _ e0)]; exact e0
    have d1 : w2.cell? ⟨w.heap.size, 1, none⟩ = some (.slice ka (flen k) cap) := by rw [hb2.cell (World.block_lt_of_cell? _ _ e1)]; exact e1
    have ho := refOwn_any s ka cap k w2 (by omega) (ht.below hB2)
    have HO := hide ho
    clear ho HG hb2 e0 e1 ht1 hB1
    go_wp2_with fail
    refine Calls.mono HO.out ?_
    rintro e w3 ⟨ka', cap', k', rfl, hst, ht3, hfr3, hpl3, hnd3, hb3⟩
    have hB3 := hB2.trans (hb3.mono hB2.size)
    have hflt : faultT s k' = faultT s k := by rw [← faultT_strip, hst, faultT_strip]
    have htxt : txtT s k' = txtT s k := by rw [← txtT_strip, hst, txtT_strip]
    have hnn : fnodes k' = fnodes k := fnodes_of_strip hst
    have hbo : Below w3.heap.size w3 (w3.alloc (Obj.cells #[Value.string s, Value.slice ka' (flen k') cap'] 24)) := (Below.refl _ _).alloc (Nat.le_refl _) _
    have hp := print_any s ka' cap' k' _ (ht3.below hbo) (hpl3.below hbo) (by omega)
    rw [hflt, htxt] at hp
    have e0 : (w3.alloc (Obj.cells #[Value.string s, Value.slice ka' (flen k') cap'] 24)).cell? ⟨w.heap.size, 0, none⟩ = some (.string s) := by rw [(hb3.trans (hbo.mono hb3.size)).cell (World.block_lt_of_cell? _ _ d0)]; exact d0
    have e1 : (w3.alloc (Obj.cells #[Value.string s, Value.slice ka' (flen k') cap'] 24)).cell? ⟨w.heap.size, 1, none⟩ = some (.slice ka (flen k) cap) := by rw [(hb3.trans (hbo.mono hb3.size)).cell (World.block_lt_of_cell? _ _ d1)]; exact d1
    have o0 : (w3.alloc (Obj.cells #[Value.string s, Value.slice ka' (flen k') cap'] 24)).cell? ⟨w3.heap.size, 0, none⟩ = some (.string s) := by go_simp
    have o1 : (w3.alloc (Obj.cells #[Value.string s, Value.slice ka' (flen k') cap'] 24)).cell? ⟨w3.heap.size, 1, none⟩ = some (.slice ka' (flen k') cap') := by go_simp
    have hBo := hB3.trans (hbo.mono hB3.size)
    have ht3' := ht3.below hbo
    obtain ⟨A, hA⟩ : ∃ A : ByteArray, A = if faultT s k = 0 then ⟨(txtT s k).toArray⟩ else ⟨#[]⟩ := ⟨_, rfl⟩
    obtain ⟨fc, hfc⟩ : ∃ fc : Int, fc = faultT s k := ⟨_, rfl⟩
    rw [← hA, ← hfc] at hp
    have HA := hide hA
    have HFC := hide hfc
    clear hA
    have HP := hide hp
    have HSAME := hide (sameT_of_strip (s := s) hst)
    clear hp HO hb3 hbo d0 d1 hst hpl3 hnd3 hflt htxt hnn ht3 hfr3 hB3
    go_wp2_with fail
    obtain ⟨W4, hW4⟩ : ∃ W4, W4 = w3.alloc (Obj.cells #[Value.string s, Value.slice ka' (flen k') cap'] 24) := ⟨_, rfl⟩
    rw [← hW4] at HP e0 e1 o0 o1 hBo ht3' ⊢
    clear hW4
    refine Calls.mono HP.out ?_
    rintro e w5 ⟨rfl, hb5⟩
    have hB5 := hBo.trans (hb5.mono hBo.size)
    have f0 : w5.cell? ⟨w.heap.size, 0, none⟩ = some (.string s) := by rw [hb5.cell (World.block_lt_of_cell? _ _ e0)]; exact e0
    have f1 : w5.cell? ⟨w.heap.size, 1, none⟩ = some (.slice ka (flen k) cap) := by rw [hb5.cell (World.block_lt_of_cell? _ _ e1)]; exact e1
    have hft := treeFault_any s ka cap k w5 (ht.below hB5)
    rw [← hfc] at hft
    have HF := hide hft
    have o50 : w5.cell? ⟨w3.heap.size, 0, none⟩ = some (.string s) := by rw [hb5.cell (World.block_lt_of_cell? _ _ o0)]; exact o0
    have o51 : w5.cell? ⟨w3.heap.size, 1, none⟩ = some (.slice ka' (flen k') cap') := by rw [hb5.cell (World.block_lt_of_cell? _ _ o1)]; exact o1
    have ht5 := ht3'.below hb5
    clear hft hfc e0 e1 o0 o1 ht3' HP hb5 hBo
    go_wp2_with fail
    refine Calls.mono HF.out ?_
    rintro e w6 ⟨rfl, hb6⟩
    have hB6 := hB5.trans (hb6.mono hB5.size)
    have g0 : w6.cell? ⟨w.heap.size, 0, none⟩ = some (.string s) := by rw [hb6.cell (World.block_lt_of_cell? _ _ f0)]; exact f0
    have g1 : w6.cell? ⟨w.heap.size, 1, none⟩ = some (.slice ka (flen k) cap) := by rw [hb6.cell (World.block_lt_of_cell? _ _ f1)]; exact f1
    have o60 : w6.cell? ⟨w3.heap.size, 0, none⟩ = some (.string s) := by rw [hb6.cell (World.block_lt_of_cell? _ _ o50)]; exact o50
    have o61 : w6.cell? ⟨w3.heap.size, 1, none⟩ = some (.slice ka' (flen k') cap') := by rw [hb6.cell (World.block_lt_of_cell? _ _ o51)]; exact o51
    have ht6 := ht5.below hb6
    clear f0 f1 o50 o51 ht5 hb6 HF hB5
    have q0 := o60
    have q1 := o61
    clear o60 o61
    by_cases h0 : fc = 0
    · have hfb : (fc == 0) = true := beq_iff_eq.2 h0
      have hf0 : faultT s k = 0 := by rw [← HFC.out]; exact h0
      have HAA := hide (show (str (txtT s k)) = A by rw [HA.out, if_pos hf0])
      have HT := hide (tells_N (fnodes k + 1) k (by omega) s ka cap w6 (ht.below hB6) (by have := (txtT_le hf0).1; omega))
      clear h0 hf0
      go_wp2_with fail
      refine Calls.mono HT.out ?_
      rintro e w7 ⟨rfl, hb7⟩
      rw [HAA.out]
      have hBX := hB6.trans (hb7.mono hB6.size)
      have g0b : w7.cell? ⟨w.heap.size, 0, none⟩ = some (.string s) := by rw [hb7.cell (World.block_lt_of_cell? _ _ g0)]; exact g0
      have g1b : w7.cell? ⟨w.heap.size, 1, none⟩ = some (.slice ka (flen k) cap) := by rw [hb7.cell (World.block_lt_of_cell? _ _ g1)]; exact g1
      have q0b : w7.cell? ⟨w3.heap.size, 0, none⟩ = some (.string s) := by rw [hb7.cell (World.block_lt_of_cell? _ _ q0)]; exact q0
      have q1b : w7.cell? ⟨w3.heap.size, 1, none⟩ = some (.slice ka' (flen k') cap') := by rw [hb7.cell (World.block_lt_of_cell? _ _ q1)]; exact q1
      have htX := ht6.below hb7
      clear g0 g1 q0 q1 ht6 hb7 hB6 HT
      have HPA := hide (parse_any str0 w7 hstr')
      go_wp2_with fail
      refine Calls.mono HPA.out ?_
      rintro e w8 ⟨hpe, hb8⟩
      have hB8 := hBX.trans (hb8.mono hBX.size)
      have g0a : w8.cell? ⟨w.heap.size, 0, none⟩ = some (.string s) := by rw [hb8.cell (World.block_lt_of_cell? _ _ g0b)]; exact g0b
      have g1a : w8.cell? ⟨w.heap.size, 1, none⟩ = some (.slice ka (flen k) cap) := by rw [hb8.cell (World.block_lt_of_cell? _ _ g1b)]; exact g1b
      have q0a : w8.cell? ⟨w3.heap.size, 0, none⟩ = some (.string s) := by rw [hb8.cell (World.block_lt_of_cell? _ _ q0b)]; exact q0b
      have q1a : w8.cell? ⟨w3.heap.size, 1, none⟩ = some (.slice ka' (flen k') cap') := by rw [hb8.cell (World.block_lt_of_cell? _ _ q1b)]; exact q1b
      have ht8 := htX.below hb8
      clear g0b g1b q0b q1b htX hBX HPA hb8
      obtain ⟨x1, ka1, cap1, k1, c1, p1, rfl, ht1, hto1⟩ := parse_told hpe
      have hbp : Below w8.heap.size w8 ((w8.alloc (Obj.cells #[Value.string x1, Value.slice ka1 (flen k1) cap1] 24)).alloc (Obj.cells #[Value.int .i64 c1, Value.int .i64 p1] 42)) := ((Below.refl _ _).alloc (Nat.le_refl _) _).alloc (by simp) _
      obtain ⟨W9, hW9⟩ : ∃ W9, W9 = ((w8.alloc (Obj.cells #[Value.string x1, Value.slice ka1 (flen k1) cap1] 24)).alloc (Obj.cells #[Value.int .i64 c1, Value.int .i64 p1] 42)) := ⟨_, rfl⟩
      have x0 : W9.cell? ⟨w8.heap.size, 0, none⟩ = some (.string x1) := by rw [hW9]; go_simp
      have x1' : W9.cell? ⟨w8.heap.size, 1, none⟩ = some (.slice ka1 (flen k1) cap1) := by rw [hW9]; go_simp
      have y0 : W9.cell? ⟨w8.heap.size + 1, 0, none⟩ = some (.int .i64 c1) := by rw [hW9]; go_simp
      have y1 : W9.cell? ⟨w8.heap.size + 1, 1, none⟩ = some (.int .i64 p1) := by rw [hW9]; go_simp
      rw [← hW9] at hbp
      have HQP := hide (qparse_any str0 W9 hstr')
      have HTO := hide hto1
      clear hto1 hpe
      go_wp2_with fail
      rw [← hW9]
      clear hW9
      refine Calls.mono HQP.out ?_
      rintro e w10 ⟨hqe, hb10⟩
      obtain ⟨x2, ka2, cap2, k2, c2, p2, rfl, ht2, hto2⟩ := parse_told hqe
      obtain ⟨rfl, hsk, rfl, rfl⟩ := told_same HTO.out hto2
      have hb810 := hbp.trans (hb10.mono hbp.size)
      have hB10 := hB8.trans (hb810.mono hB8.size)
      have hby : Below w10.heap.size w10 ((w10.alloc (Obj.cells #[Value.string x1, Value.slice ka2 (flen k2) cap2] 24)).alloc (Obj.cells #[Value.int .i64 c1, Value.int .i64 p1] 42)) := ((Below.refl _ _).alloc (Nat.le_refl _) _).alloc (by simp) _
      obtain ⟨W11, hW11⟩ : ∃ W11, W11 = ((w10.alloc (Obj.cells #[Value.string x1, Value.slice ka2 (flen k2) cap2] 24)).alloc (Obj.cells #[Value.int .i64 c1, Value.int .i64 p1] 42)) := ⟨_, rfl⟩
      have z0 : W11.cell? ⟨w10.heap.size, 0, none⟩ = some (.string x1) := by rw [hW11]; go_simp
      have z1 : W11.cell? ⟨w10.heap.size, 1, none⟩ = some (.slice ka2 (flen k2) cap2) := by rw [hW11]; go_simp
      have z2 : W11.cell? ⟨w10.heap.size + 1, 0, none⟩ = some (.int .i64 c1) := by rw [hW11]; go_simp
      have z3 : W11.cell? ⟨w10.heap.size + 1, 1, none⟩ = some (.int .i64 p1) := by rw [hW11]; go_simp
      rw [← hW11] at hby
      have hb811 := hb810.trans (hby.mono hb810.size)
      have hb911 := hb10.trans (hby.mono hb10.size)
      have a0 := cellOf hb811 g0a
      have a1 := cellOf hb811 g1a
      have b0 := cellOf hb811 q0a
      have b1 := cellOf hb811 q1a
      have c0 := cellOf hb911 x0
      have c1' := cellOf hb911 x1'
      have d0 := cellOf hb911 y0
      have d1 := cellOf hb911 y1
      have hBE : Below w.heap.size w W11 := hB8.trans (hb811.mono hB8.size)
      have hkA : ∀ W', Below W11.heap.size W11 W' → Calls Try.prog 24 #[.agg #[.string x1, .slice ka1 (flen k1) cap1], .agg #[.string x1, .slice ka2 (flen k2) cap2]] W' fun e w' => e = .returned (.bool true) ∧ Below W'.heap.size W' w' := fun W' h => by
        have := sameTree_any x1 ka1 cap1 k1 x1 ka2 cap2 k2 W' ((ht1.below hb811).below h) ((ht2.below hby).below h)
        rw [sameT_of_strip hsk] at this
        exact this
      have hkB : ∀ W', Below W11.heap.size W11 W' → Calls Try.prog 24 #[.agg #[.string s, .slice ka' (flen k') cap'], .agg #[.string s, .slice ka (flen k) cap]] W' fun e w' => e = .returned (.bool true) ∧ Below W'.heap.size W' w' := fun W' h => by
        have := sameTree_any s ka' cap' k' s ka cap k W' ((ht8.below hb811).below h) ((ht.below hBE).below h)
        rw [HSAME.out] at this
        exact this
      have hEnd : ∀ W', Below W11.heap.size W11 W' → Below w.heap.size w W' := fun W' h => hBE.trans (h.mono hBE.size)
      have KA := hide hkA
      have KB := hide hkB
      have HE := hide hEnd
      clear hkA hkB hEnd hb811 hb911 hBE x0 x1' y0 y1 g0a g1a q0a q1a hb810 hB10 hb10 hbp hto2 HTO HQP hqe ht1 ht2 ht8 hsk hB8
      subst hW11
      clear hby
      go_wp2_with fail
      refine (KA.out _ (Below.refl _ _)).mono ?_
      rintro e w12 ⟨rfl, hb12⟩
      have a0' := cellOf hb12 a0
      have a1'' := cellOf hb12 a1
      have b0' := cellOf hb12 b0
      have b1' := cellOf hb12 b1
      have d0' := cellOf hb12 d0
      have d1' := cellOf hb12 d1
      have z2' := cellOf hb12 z2
      have z3' := cellOf hb12 z3
      clear a0 a1 b0 b1 c0 c1' d0 d1 z0 z1 z2 z3
      go_wp2_with fail
      refine (KB.out _ hb12).mono ?_
      rintro e w13 ⟨rfl, hb13⟩
      go_wp2_with fail
      go_ret
      exact ⟨rfl, HE.out _ (hb12.trans (hb13.mono hb12.size))⟩
    · have hfb : (fc == 0) = false := beq_eq_false_iff_ne.2 h0
      have HAA := hide (show A = ⟨#[]⟩ by rw [HA.out, if_neg (by rw [← HFC.out]; exact h0)])
      have hAe := HAA.out
      subst hAe
      have hBX := hB6
      have g0b := g0
      have g1b := g1
      have q0b := q0
      have q1b := q1
      have htX := ht6
      clear g0 g1 q0 q1 ht6 hB6
      have hfe := h0
      clear h0
      have HPA := hide (parse_any str0 w6 hstr')
      go_wp2_with fail
      refine Calls.mono HPA.out ?_
      rintro e w8 ⟨hpe, hb8⟩
      have hB8 := hBX.trans (hb8.mono hBX.size)
      have g0a : w8.cell? ⟨w.heap.size, 0, none⟩ = some (.string s) := by rw [hb8.cell (World.block_lt_of_cell? _ _ g0b)]; exact g0b
      have g1a : w8.cell? ⟨w.heap.size, 1, none⟩ = some (.slice ka (flen k) cap) := by rw [hb8.cell (World.block_lt_of_cell? _ _ g1b)]; exact g1b
      have q0a : w8.cell? ⟨w3.heap.size, 0, none⟩ = some (.string s) := by rw [hb8.cell (World.block_lt_of_cell? _ _ q0b)]; exact q0b
      have q1a : w8.cell? ⟨w3.heap.size, 1, none⟩ = some (.slice ka' (flen k') cap') := by rw [hb8.cell (World.block_lt_of_cell? _ _ q1b)]; exact q1b
      have ht8 := htX.below hb8
      clear g0b g1b q0b q1b htX hBX HPA hb8
      obtain ⟨x1, ka1, cap1, k1, c1, p1, rfl, ht1, hto1⟩ := parse_told hpe
      have hbp : Below w8.heap.size w8 ((w8.alloc (Obj.cells #[Value.string x1, Value.slice ka1 (flen k1) cap1] 24)).alloc (Obj.cells #[Value.int .i64 c1, Value.int .i64 p1] 42)) := ((Below.refl _ _).alloc (Nat.le_refl _) _).alloc (by simp) _
      obtain ⟨W9, hW9⟩ : ∃ W9, W9 = ((w8.alloc (Obj.cells #[Value.string x1, Value.slice ka1 (flen k1) cap1] 24)).alloc (Obj.cells #[Value.int .i64 c1, Value.int .i64 p1] 42)) := ⟨_, rfl⟩
      have x0 : W9.cell? ⟨w8.heap.size, 0, none⟩ = some (.string x1) := by rw [hW9]; go_simp
      have x1' : W9.cell? ⟨w8.heap.size, 1, none⟩ = some (.slice ka1 (flen k1) cap1) := by rw [hW9]; go_simp
      have y0 : W9.cell? ⟨w8.heap.size + 1, 0, none⟩ = some (.int .i64 c1) := by rw [hW9]; go_simp
      have y1 : W9.cell? ⟨w8.heap.size + 1, 1, none⟩ = some (.int .i64 p1) := by rw [hW9]; go_simp
      rw [← hW9] at hbp
      have HQP := hide (qparse_any str0 W9 hstr')
      have HTO := hide hto1
      clear hto1 hpe
      go_wp2_with fail
      rw [← hW9]
      clear hW9
      refine Calls.mono HQP.out ?_
      rintro e w10 ⟨hqe, hb10⟩
      obtain ⟨x2, ka2, cap2, k2, c2, p2, rfl, ht2, hto2⟩ := parse_told hqe
      obtain ⟨rfl, hsk, rfl, rfl⟩ := told_same HTO.out hto2
      have hb810 := hbp.trans (hb10.mono hbp.size)
      have hB10 := hB8.trans (hb810.mono hB8.size)
      have hby : Below w10.heap.size w10 ((w10.alloc (Obj.cells #[Value.string x1, Value.slice ka2 (flen k2) cap2] 24)).alloc (Obj.cells #[Value.int .i64 c1, Value.int .i64 p1] 42)) := ((Below.refl _ _).alloc (Nat.le_refl _) _).alloc (by simp) _
      obtain ⟨W11, hW11⟩ : ∃ W11, W11 = ((w10.alloc (Obj.cells #[Value.string x1, Value.slice ka2 (flen k2) cap2] 24)).alloc (Obj.cells #[Value.int .i64 c1, Value.int .i64 p1] 42)) := ⟨_, rfl⟩
      have z0 : W11.cell? ⟨w10.heap.size, 0, none⟩ = some (.string x1) := by rw [hW11]; go_simp
      have z1 : W11.cell? ⟨w10.heap.size, 1, none⟩ = some (.slice ka2 (flen k2) cap2) := by rw [hW11]; go_simp
      have z2 : W11.cell? ⟨w10.heap.size + 1, 0, none⟩ = some (.int .i64 c1) := by rw [hW11]; go_simp
      have z3 : W11.cell? ⟨w10.heap.size + 1, 1, none⟩ = some (.int .i64 p1) := by rw [hW11]; go_simp
      rw [← hW11] at hby
      have hb811 := hb810.trans (hby.mono hb810.size)
      have hb911 := hb10.trans (hby.mono hb10.size)
      have a0 := cellOf hb811 g0a
      have a1 := cellOf hb811 g1a
      have b0 := cellOf hb811 q0a
      have b1 := cellOf hb811 q1a
      have c0 := cellOf hb911 x0
      have c1' := cellOf hb911 x1'
      have d0 := cellOf hb911 y0
      have d1 := cellOf hb911 y1
      have hBE : Below w.heap.size w W11 := hB8.trans (hb811.mono hB8.size)
      have hkA : ∀ W', Below W11.heap.size W11 W' → Calls Try.prog 24 #[.agg #[.string x1, .slice ka1 (flen k1) cap1], .agg #[.string x1, .slice ka2 (flen k2) cap2]] W' fun e w' => e = .returned (.bool true) ∧ Below W'.heap.size W' w' := fun W' h => by
        have := sameTree_any x1 ka1 cap1 k1 x1 ka2 cap2 k2 W' ((ht1.below hb811).below h) ((ht2.below hby).below h)
        rw [sameT_of_strip hsk] at this
        exact this
      have hkB : ∀ W', Below W11.heap.size W11 W' → Calls Try.prog 24 #[.agg #[.string s, .slice ka' (flen k') cap'], .agg #[.string s, .slice ka (flen k) cap]] W' fun e w' => e = .returned (.bool true) ∧ Below W'.heap.size W' w' := fun W' h => by
        have := sameTree_any s ka' cap' k' s ka cap k W' ((ht8.below hb811).below h) ((ht.below hBE).below h)
        rw [HSAME.out] at this
        exact this
      have hEnd : ∀ W', Below W11.heap.size W11 W' → Below w.heap.size w W' := fun W' h => hBE.trans (h.mono hBE.size)
      have KA := hide hkA
      have KB := hide hkB
      have HE := hide hEnd
      clear hkA hkB hEnd hb811 hb911 hBE x0 x1' y0 y1 g0a g1a q0a q1a hb810 hB10 hb10 hbp hto2 HTO HQP hqe ht1 ht2 ht8 hsk hB8
      subst hW11
      clear hby
      go_wp2_with fail
      refine (KA.out _ (Below.refl _ _)).mono ?_
      rintro e w12 ⟨rfl, hb12⟩
      have a0' := cellOf hb12 a0
      have a1'' := cellOf hb12 a1
      have b0' := cellOf hb12 b0
      have b1' := cellOf hb12 b1
      have d0' := cellOf hb12 d0
      have d1' := cellOf hb12 d1
      have z2' := cellOf hb12 z2
      have z3' := cellOf hb12 z3
      clear a0 a1 b0 b1 c0 c1' d0 d1 z0 z1 z2 z3
      go_wp2_with fail
      refine (KB.out _ hb12).mono ?_
      rintro e w13 ⟨rfl, hb13⟩
      go_wp2_with fail
      go_ret
      exact ⟨rfl, HE.out _ (hb12.trans (hb13.mono hb12.size))⟩
end Go.Proofs.Ytafojlockiekfaa
