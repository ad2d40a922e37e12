/- thin of package script, as Diff calls it for the one tree or the other. Of the program's text. -/
/- thin of package script, as Diff calls it for the one tree or the other. Of the program's text. -/
/- A table of two trees' nodes and of what their parts cost, in memory. Of the program's types. -/
import Derived.Test.YtcknganggcbkjabGS27
import Derived.Deep.LoopGhost
import Derived.Deep.RegionHeld3
import Derived.WalkSmall
import Derived.Test.YtcknganggcbkjabProg
import Derived.Test.YtcknganggcbkjabGS19
import Derived.Test.YtcknganggcbkjabGS01
import Derived.Deep.OwnRows
namespace Go.Proofs.Ytcknganggcbkjab.Scr
open Go.Deep Go.RowKit Deed
set_option linter.unusedVariables false
set_option maxRecDepth 20000

set_option maxHeartbeats 8000000 in
theorem thin1_any (c : Nat) (p : Nat → Bool) (s : ByteArray) (ka : Option Addr) (cap : Nat) (k : Fo) (w : World) (ht : TIn w s ka cap k) (hp : FPlain w k) (hft : faultT s k = 0)
    (hcl : ∀ W, Below w.heap.size w W → ∀ n : Nat, Calls Try.prog 71 #[.int .i64 (n : Int), .pointer (some ⟨c, 0, none⟩)] W fun e w' => e = .returned (.bool (p n)) ∧ Below W.heap.size W w') (hok : ∀ i, i < fnodes k + 1 → p i = false → ThOk p (s, strip k) i) :
    Calls Try.prog 70 #[.agg #[.string s, .slice ka (flen k) cap], .func (.func 71) #[] #[.pointer (some ⟨c, 0, none⟩)]] w (ThinEnd (thAt p (s, strip k) (fnodes k + 1)) w) := by
  have hn40 := (fault_zero hft).1
  obtain ⟨W, hW⟩ : ∃ W, W = (w.alloc (Obj.cells #[Value.string s, Value.slice ka (flen k) cap] 24)).alloc (Obj.cells #[Value.string s, Value.slice ka (flen k) cap] 24) := ⟨_, rfl⟩
  obtain ⟨hWs, hB, c0, c1⟩ := boxes2 w (Obj.cells #[Value.string s, Value.slice ka (flen k) cap] 24) (Obj.cells #[Value.string s, Value.slice ka (flen k) cap] 24)
  rw [← hW] at hWs hB c0 c1
  have hsz := size_any s ka cap k W (ht.below hB) (hp.below hB) (by omega)
  have hoff : ∀ g, w.heap.size ≤ g → FOff g k := fun g hg => by
    rcases ht.kids with h1 | ⟨kb, ko, e1, hfi⟩
    · rw [h1]; trivial
    · exact FIn.off hg hfi
  have HST := hide (fun (w1 : World) (hb : Below W.heap.size W w1) => (show TInv w p (s, strip k) 0 w1 s ka cap k (.slice none 0 0) (.slice none 0 0) [] [] from ⟨rfl, rfl, rfl, ht.below (hB.trans (hb.mono (by omega))), hp.below (hB.trans (hb.mono (by omega))), hoff _ (by omega), Two.nil _ _, (fun g hg => by cases hg), (fun g hg => by cases hg), (hb.block _ (by omega)).trans c1, hB.trans (hb.mono (by omega)), by have := hb.size; omega⟩))
  have HSZ := hide hsz
  have HCL := hide hcl
  have HOK := hide hok
  have HFT := hide hft
  obtain ⟨N, hN⟩ : ∃ N, N = fnodes k + 1 := ⟨_, rfl⟩
  have hN40 : N ≤ 40 := by omega
  rw [show ((1 : Int) + (fnodes k : Int)) = (N : Int) by omega] at HSZ
  rw [← hN] at HOK ⊢
  clear hWs hB c0 c1 ht hp hft hcl hok hsz hoff hn40 hN
  go_enter Try.func70, Try.ntmps70
  go_wp2_with fail
  rw [← hW]
  clear hW
  refine Calls.mono HSZ.out ?_
  rintro e w1 ⟨rfl, hb1⟩
  have HI0 := hide (HST.out w1 hb1)
  clear hb1 HST HSZ
  go_wp2_with fail
  go_loopg [5, 6, 17] N (fun gk v5 v6 v17 wr => ∃ (i : Nat) (x : ByteArray) (ka : Option Addr) (cap : Nat) (kk : Fo) (va : Option Addr) (n vc : Nat) (ua : Option Addr) (uc : Nat) (A K : List Deed.Pd), gk = N - i ∧ i ≤ N ∧ v17 = .int .i64 (i : Nat) ∧ v5 = .slice va n vc ∧ v6 = .slice ua n uc ∧ n ≤ i ∧ n ≤ vc ∧ vc ≤ 9223372036854775807 ∧ n ≤ uc ∧ uc ≤ 9223372036854775807 ∧ Hid (n = A.length) ∧ Hid (TInv w p (s, strip k) i wr x ka cap kk (.slice va n vc) (.slice ua n uc) A K))
  case atStart => exact ⟨0, s, ka, cap, k, none, 0, 0, none, 0, [], [], rfl, Nat.zero_le _, rfl, rfl, rfl, Nat.le_refl _, Nat.le_refl _, by omega, Nat.le_refl _, by omega, hide rfl, HI0⟩
  case round =>
    clear HI0
    obtain ⟨i, x, ka, cap, kk, va, n, vc, ua, uc, A, K, hgk, hi, rfl, rfl, rfl, hni, hc1, hc2, hc3, hc4, hnA, hI⟩ := hrel
    obtain ⟨wA, hwA⟩ : ∃ wA, wA = wr := ⟨_, rfl⟩
    subst hwA
    by_cases hin : i < N
    · have HC := hide (HCL.out wA hI.out.below i)
      cases hpi : p i
      · rw [hpi] at HC
        have hok := HOK.out i hin hpi
        have HPI := hide hpi
        clear hpi
        go_wp2_with fail
        refine Calls.mono HC.out ?_
        rintro e w2 ⟨rfl, hb2⟩
        have HI2 := hide (hI.out.on hb2)
        have hlens := hI.out.lens
        obtain ⟨hf0, hm, hd0⟩ := hok
        have hdD : (thAt p (s, strip k) i).d i = ⟨2, ints (pathP (ndT 0 x kk (-1)) (i - n)), 0, 0, ⟨#[]⟩⟩ := by
          unfold Th.d delD nds
          rw [hI.out.tr, ← hlens.1, ← hnA.out]
          simp only [ndT_strip]
        rw [hdD] at hd0
        rw [hI.out.tr] at hf0 hm hd0
        rw [← hlens.1, ← hnA.out] at hm
        simp only [faultT_strip, fnodes_strip, doP_strip] at hf0 hm hd0
        obtain ⟨hn1, hn2, hn3⟩ := fault_small hf0
        obtain ⟨pth, hpth⟩ : ∃ pth, pth = ints (pathP (ndT 0 x kk (-1)) (i - n)) := ⟨_, rfl⟩
        have HD := hide (show (⟨2, pth, 0, 0, ⟨#[]⟩⟩ : Dd) = (thAt p (s, strip k) i).d i by rw [hdD, hpth])
        have hszA := hI.out.size
        have hz2 := hb2.size
        have q0 : w2.cell? ⟨w.heap.size + 1, 0, none⟩ = some (.string x) := by rw [cell_of_row _ _ 0 _ _ _ HI2.out.box]; rfl
        have q1 : w2.cell? ⟨w.heap.size + 1, 1, none⟩ = some (.slice ka (flen kk) cap) := by rw [cell_of_row _ _ 1 _ _ _ HI2.out.box]; rfl
        have HOF := hide (of_good x ka cap kk w2 HI2.out.tin HI2.out.plain hf0)
        have hpn := fun na nc B w3 hr h1 h2 => path_nd x kk na nc B (i - n) w3 hf0 hr h1 h2 hm
        rw [← hpth] at hpn
        rw [show ((i - n : Nat) : Int) = (i : Int) - (n : Int) by omega] at hpn
        have HPN := hide hpn
        rw [← hpth] at hd0
        have HX := hide (And.intro hf0 (And.intro hd0 (And.intro hn1 (And.intro hn2 hn3))))
        have hfn : fnodes kk + 1 ≤ 40 := by have := (fault_zero hf0).1; omega
        have HO := hide (show (∀ g, (Value.slice va n vc).ownBlock = some g → w.heap.size + 2 ≤ g ∧ g < wA.heap.size) ∧ (∀ g, (Value.slice ua n uc).ownBlock = some g → w.heap.size + 2 ≤ g ∧ g < wA.heap.size) from ⟨fun g hg' => ownBlockN_lt hI.out.two.ra.own hg', fun g hg' => ownBlockN_lt hI.out.two.rb.own hg'⟩)
        have HNK := hide (show n = K.length by have := hnA.out; omega)
        clear hf0 hm hd0 hdD hpth hpn hn1 hn2 hn3 hlens hI HC
        go_wp2_with fail
        refine Calls.mono HOF.out ?_
        rintro e w3 ⟨na, nc, rfl, hc5, hc6, hrn, hb3⟩
        have HP := hide (HPN.out na nc _ w3 hrn hc5 hc6)
        have HI3 := hide (HI2.out.on hb3)
        unfold maxLen at hc6
        obtain ⟨m, hm⟩ : ∃ m, m = fnodes kk + 1 := ⟨_, rfl⟩
        rw [← hm] at HP hc5 ⊢
        have hz3 := hb3.size
        clear hrn hb3 HPN HOF hm HI2 q0 q1
        go_wp2_with fail
        refine Calls.mono HP.out ?_
        rintro e w4 ⟨pa, pc, rfl, hdi, hfr, hp40, hb4⟩
        have HI4 := hide (HI3.out.on hb4)
        have hz4 := hb4.size
        obtain ⟨V5, hV5⟩ : ∃ V5, V5 = w4.alloc (Obj.cells #[.int .i64 2, .slice pa pth.length pc, .int .i64 0, .int .i64 0, .string ⟨#[]⟩] 44) := ⟨_, rfl⟩
        have b5 : Below w4.heap.size w4 V5 := by rw [hV5]; exact (Below.refl _ _).alloc (Nat.le_refl _) _
        have s5 : V5.heap.size = w4.heap.size + 1 := by rw [hV5]; simp
        have n10 : V5.heap[w4.heap.size]? = some (dObj (⟨2, pth, 0, 0, ⟨#[]⟩⟩, pa, pc)) := by rw [hV5]; exact heap_alloc_new _ _
        have HI5 := hide (HI4.out.on b5)
        have q0 : V5.cell? ⟨w.heap.size + 1, 0, none⟩ = some (.string x) := by rw [cell_of_row _ _ 0 _ _ _ HI5.out.box]; rfl
        have q1 : V5.cell? ⟨w.heap.size + 1, 1, none⟩ = some (.slice ka (flen kk) cap) := by rw [cell_of_row _ _ 1 _ _ _ HI5.out.box]; rfl
        have hdo := pdo_good ⟨2, pth, 0, 0, ⟨#[]⟩⟩ x ka cap kk pa pc V5 HI5.out.tin HI5.out.plain HX.out.2.2.1 HX.out.2.2.2.1 HX.out.2.2.2.2 (hdi.below b5) (show pth.length ≤ 60 by omega) (by show 0 ≤ 100; omega) HX.out.2.1
        obtain ⟨R, hR⟩ : ∃ R, R = doP ⟨2, pth, 0, 0, ⟨#[]⟩⟩ x kk := ⟨_, rfl⟩
        have hR0 : R.1 = 0 := by rw [hR]; exact HX.out.2.1
        rw [← hR] at hdo
        unfold ddV at hdo
        simp only at hdo
        have hdc := hdi.len
        have hdc2 := hdi.cap
        unfold maxLen at hdc2
        simp only at hdc
        have HDO := hide hdo
        have HRE := hide hR
        have HG := hide (And.intro hdi (And.intro hfr (And.intro b5 (And.intro n10 hR0))))
        clear hdo hR hdi hfr hb4 b5 n10 hR0 HI3 HI4 HP hp40
        rw [hV5] at q0 q1
        go_wp2_with fail
        rw [← hV5]
        rw [← hV5] at q0 q1
        clear hV5
        refine Calls.mono HDO.out ?_
        rintro e w6 ⟨x', ka', cap', k', qa, qc, rfl, hx', hk', ht', hf', hp', hd', hb', _, hfr'⟩
        rw [HG.out.2.2.2.2]
        obtain ⟨D, hDD⟩ : ∃ D, D = R.2.2 := ⟨_, rfl⟩
        rw [← hDD] at hd' hfr' ⊢
        unfold ddV
        obtain ⟨V2, hV2⟩ : ∃ V2, V2 = (w6.alloc (Obj.cells #[Value.string x', Value.slice ka' (flen k') cap'] 24)).alloc (Obj.cells #[.int .i64 D.kind, .slice qa D.path.length qc, .int .i64 D.pos, .int .i64 D.many, .string D.lab] 44) := ⟨_, rfl⟩
        obtain ⟨sV2, b3, n11, n12⟩ := boxes2 w6 (Obj.cells #[Value.string x', Value.slice ka' (flen k') cap'] 24) (Obj.cells #[.int .i64 D.kind, .slice qa D.path.length qc, .int .i64 D.pos, .int .i64 D.many, .string D.lab] 44)
        rw [← hV2] at sV2 b3 n11 n12
        have hz6 := hb'.size
        have hz7 := b3.size
        have bD : Below w6.heap.size w6 V2.drew := b3.trans (Below.refl _ _).drew
        have bR : Below V5.heap.size V5 V2.drew := hb'.trans (bD.mono hz6)
        have e10 : V2.heap[w4.heap.size]? = some (Obj.cells #[.int .i64 2, .slice pa pth.length pc, .int .i64 0, .int .i64 0, .string ⟨#[]⟩] 44) := by rw [show V2.heap[w4.heap.size]? = V5.heap[w4.heap.size]? from bR.block _ (by omega)]; exact HG.out.2.2.2.1
        have HE1 := hide (show V2.heap[w.heap.size + 1]? = some (Obj.cells #[.string x, .slice ka (flen kk) cap] 24) from (show V2.heap[w.heap.size + 1]? = V5.heap[w.heap.size + 1]? from bR.block _ (by omega)).trans HI5.out.box)
        have HTW := hide (HI5.out.two.below bR)
        have HDX := hide (show DIn V2.drew ⟨2, pth, 0, 0, ⟨#[]⟩⟩ pa pc from (HG.out.1.below HG.out.2.2.1).below bR)
        have HFX := hide (show (((⟨2, pth, 0, 0, ⟨#[]⟩⟩ : Dd), pa, pc) : Deed.Pd).1.path ≠ [] → ∀ a, (((⟨2, pth, 0, 0, ⟨#[]⟩⟩ : Dd), pa, pc) : Deed.Pd).2.1 = some a → w.heap.size + 2 ≤ a.block ∧ (Value.slice va n vc).ownBlock ≠ some a.block ∧ (Value.slice ua n uc).ownBlock ≠ some a.block from fun _ a ha => by
          have h3 := HG.out.2.1 a ha
          exact ⟨by omega, fun e2 => by have := (HO.out.1 _ e2).2; omega, fun e2 => by have := (HO.out.2 _ e2).2; omega⟩)
        have HDY := hide (show DIn V2.drew D qa qc from hd'.below bD)
        have HFY := hide (show ((D, qa, qc) : Deed.Pd).1.path ≠ [] → ∀ a, ((D, qa, qc) : Deed.Pd).2.1 = some a → w.heap.size + 2 ≤ a.block ∧ (Value.slice ua n uc).ownBlock ≠ some a.block ∧ (Value.slice va n vc).ownBlock ≠ some a.block from fun hpp a ha => by
          have h3 := hfr' hpp a ha
          exact ⟨by omega, fun e2 => by have := (HO.out.2 _ e2).2; omega, fun e2 => by have := (HO.out.1 _ e2).2; omega⟩)
        have HSTEP := hide (fun (w8 : World) (u5 u6 : Value) (hF : Fin2 (w.heap.size + 2) V2.drew w8 (.slice va n vc) (.slice ua n uc) u5 u6 (A ++ [((⟨2, pth, 0, 0, ⟨#[]⟩⟩ : Dd), pa, pc)]) (K ++ [(D, qa, qc)])) => HI5.out.step HPI.out HD.out HRE.out (Below.refl _ _) hb' bD hx' hk' ht' hf' hp' (by rw [← hDD]; exact hF))
        have t0 : V2.cell? ⟨w6.heap.size, 0, none⟩ = some (.string x') := by rw [cell_of_row _ _ 0 _ _ _ n11]; rfl
        have t1 : V2.cell? ⟨w6.heap.size, 1, none⟩ = some (.slice ka' (flen k') cap') := by rw [cell_of_row _ _ 1 _ _ _ n11]; rfl
        have d0 : V2.cell? ⟨w6.heap.size + 1, 0, none⟩ = some (.int .i64 D.kind) := by rw [cell_of_row _ _ 0 _ _ _ n12]; rfl
        have d1 : V2.cell? ⟨w6.heap.size + 1, 1, none⟩ = some (.slice qa D.path.length qc) := by rw [cell_of_row _ _ 1 _ _ _ n12]; rfl
        have d2 : V2.cell? ⟨w6.heap.size + 1, 2, none⟩ = some (.int .i64 D.pos) := by rw [cell_of_row _ _ 2 _ _ _ n12]; rfl
        have d3 : V2.cell? ⟨w6.heap.size + 1, 3, none⟩ = some (.int .i64 D.many) := by rw [cell_of_row _ _ 3 _ _ _ n12]; rfl
        have d4 : V2.cell? ⟨w6.heap.size + 1, 4, none⟩ = some (.string D.lab) := by rw [cell_of_row _ _ 4 _ _ _ n12]; rfl
        have f0 : V2.cell? ⟨w4.heap.size, 0, none⟩ = some (.int .i64 2) := by rw [cell_of_row _ _ 0 _ _ _ e10]; rfl
        have f1 : V2.cell? ⟨w4.heap.size, 1, none⟩ = some (.slice pa pth.length pc) := by rw [cell_of_row _ _ 1 _ _ _ e10]; rfl
        have f2 : V2.cell? ⟨w4.heap.size, 2, none⟩ = some (.int .i64 0) := by rw [cell_of_row _ _ 2 _ _ _ e10]; rfl
        have f3 : V2.cell? ⟨w4.heap.size, 3, none⟩ = some (.int .i64 0) := by rw [cell_of_row _ _ 3 _ _ _ e10]; rfl
        have f4 : V2.cell? ⟨w4.heap.size, 4, none⟩ = some (.string ⟨#[]⟩) := by rw [cell_of_row _ _ 4 _ _ _ e10]; rfl
        have hzV : w4.heap.size + 1 + 2 ≤ V2.heap.size := by omega
        have hw63 : w3.heap.size ≤ w6.heap.size := by omega
        have hw6V : w6.heap.size + 1 < V2.heap.size := by omega
        have hw4V : w4.heap.size < V2.heap.size := by omega
        have hDc := hd'.len
        have hDc2 := hd'.cap
        unfold maxLen at hDc2
        have hHT : V2.drew.heap.size = V2.heap.size := rfl
        clear hDD hx' hk' ht' hf' hp' hd' hb' hfr' n11 n12 b3 bD bR e10 HDO HRE HX HG hz6 hz7 sV2 HI5 q0 q1 HD hHT
        go_wp2_with fail
        rw [← hV2]
        clear hV2
        refine wp_region_held_drew (S := fun V => Kp [w4.heap.size, w6.heap.size, w6.heap.size + 1] V2 V) (by kernel_rfl) (Kp.refl (by simp; omega)).drew ?_
        intro hS0
        obtain ⟨KL, hKLe⟩ : ∃ KL, KL = [w4.heap.size, w6.heap.size, w6.heap.size + 1] := ⟨_, rfl⟩
        refine wpAnyH_take (i := 0) (v := (.agg #[.string x', .slice ka' (flen k') cap'])) rfl (by kernel_rfl) (by kernel_rfl) (by kernel_rfl) (fun _ _ _ h => h) (Or.inl ⟨by rfl, by intro V hSw; have g0 := hSw.cell (by simp) t0; have g1 := hSw.cell (by simp) t1; go_simp⟩) (by assumption) ?_
        refine wpAnyH_take (i := 1) (v := (.slice va n vc)) rfl (by kernel_rfl) (by kernel_rfl) (by kernel_rfl) (fun _ _ _ h => h) (Or.inl ⟨by rfl, by intro V hSw; go_simp⟩) (by assumption) ?_
        refine wpAnyH_take (i := 2) (v := (.agg #[.int .i64 2, .slice pa pth.length pc, .int .i64 0, .int .i64 0, .string ⟨#[]⟩])) rfl (by kernel_rfl) (by kernel_rfl) (by kernel_rfl) (fun _ _ _ h => h) (Or.inl ⟨by rfl, by intro V hSw; have g0 := hSw.cell (by simp) f0; have g1 := hSw.cell (by simp) f1; have g2 := hSw.cell (by simp) f2; have g3 := hSw.cell (by simp) f3; have g4 := hSw.cell (by simp) f4; go_simp⟩) (by assumption) ?_
        refine wpAnyH_take (i := 5) (v := (.slice ua n uc)) rfl (by kernel_rfl) (by kernel_rfl) (by kernel_rfl) (fun _ _ _ h => h) (Or.inl ⟨by rfl, by intro V hSw; go_simp⟩) (by assumption) ?_
        refine wpAnyH_take (i := 6) (v := (.agg #[.int .i64 D.kind, .slice qa D.path.length qc, .int .i64 D.pos, .int .i64 D.many, .string D.lab])) rfl (by kernel_rfl) (by kernel_rfl) (by kernel_rfl) (fun _ _ _ h => h) (Or.inl ⟨by rfl, by intro V hSw; have g0 := hSw.cell (by simp) d0; have g1 := hSw.cell (by simp) d1; have g2 := hSw.cell (by simp) d2; have g3 := hSw.cell (by simp) d3; have g4 := hSw.cell (by simp) d4; go_simp⟩) (by assumption) ?_
        have hKL : ∀ q, q ∈ KL → w3.heap.size ≤ q := fun q hq => by rw [hKLe] at hq; simp at hq; omega
        have K0 : Kp KL V2 V2 := by rw [hKLe]; exact Kp.refl (by simp; omega)
        obtain ⟨U0, hU0⟩ : ∃ U0, U0 = V2.drew := ⟨_, rfl⟩
        have KU0 : Kp KL V2 U0 := by rw [hU0]; exact K0.drew
        have sU0 : U0.heap.size ≤ V2.heap.size ∧ V2.heap.size ≤ U0.heap.size := by rw [hU0]; exact ⟨Nat.le_refl _, Nat.le_refl _⟩
        rw [← hU0] at HTW HDX HDY HSTEP
        have HE1 := hide (show U0.heap[w.heap.size + 1]? = some (Obj.cells #[.string x, .slice ka (flen kk) cap] 24) by rw [hU0]; exact HE1.out)
        rw [← hKLe, ← hU0]
        clear hKLe hU0 t0 t1 d0 d1 d2 d3 d4 f0 f1 f2 f3 f4 hS0
        try simp only [Act.put, List.setIfInBounds_toArray]
        refine wpAnyH_ready (rs := [3, 7]) (by kernel_rfl) (by simp) ?_
        refine AllReadyH.cons rfl (fun KK hK => ?_) (AllReadyH.cons rfl (fun KK hK => ?_) (AllReadyH.nil))
        · go_simp
          refine hK.out _ _ (KU0.alloc) (fun hHeld => ?_)
          clear hK KK hHeld
          obtain ⟨U1, hU1⟩ : ∃ U1, U1 = U0.alloc (Obj.cells #[.int .i64 2, .slice pa pth.length pc, .int .i64 0, .int .i64 0, .string ⟨#[]⟩] 44) := ⟨_, rfl⟩
          have bU1 : Below U0.heap.size U0 U1 := by rw [hU1]; exact (Below.refl _ _).alloc (Nat.le_refl _) _
          have n1 : U1.heap[U0.heap.size]? = some (Obj.cells #[.int .i64 2, .slice pa pth.length pc, .int .i64 0, .int .i64 0, .string ⟨#[]⟩] 44) := by rw [hU1]; exact heap_alloc_new _ _
          have sU1 : U1.heap.size ≤ U0.heap.size + 1 ∧ U0.heap.size + 1 ≤ U1.heap.size := by rw [hU1]; simp
          have KU1 : Kp KL V2 U1 := by rw [hU1]; exact KU0.alloc
          rw [← hU1]
          clear hU1
          try simp only [Act.put, List.setIfInBounds_toArray]
          refine wpAnyH_ready (rs := [4, 7]) (by kernel_rfl) (by simp) ?_
          refine AllReadyH.cons rfl (fun KK hK => ?_) (AllReadyH.cons rfl (fun KK hK => ?_) (AllReadyH.nil))
          · obtain ⟨va1, vc1, wa, hr1, hM, hv1, hv2⟩ := mid_mk HTW.out hnA.out (by omega) bU1 ((⟨2, pth, 0, 0, ⟨#[]⟩⟩ : Dd), pa, pc) HDX.out HFX.out (U0.heap.size) (n1) (by have := hnA.out; omega)
            have hza : V2.heap.size ≤ wa.heap.size := by have h1 := hM.b1.size; have h2 := hM.g1.size; omega
            have Kwa : Kp KL V2 wa := ⟨hza, K0.lt, fun q hq => by
              have hlt := K0.lt q hq
              rw [grown_off hM.g1 (c := q) (Nat.lt_of_lt_of_le hlt KU1.size) (fun e2 => by have := (HO.out.1 _ e2).2; have := hKL q hq; omega)]
              exact KU1.same q hq⟩
            refine step_append_run rfl _ _ _ rfl rfl hr1 rfl rfl ?_
            refine hK.out _ _ Kwa (fun hHeld => ?_)
            clear hK KK hHeld hr1
            try simp only [Act.put]
            refine wpAnyH_ready (rs := [7]) (by kernel_rfl) (by simp) ?_
            refine AllReadyH.cons rfl (fun KK hK => ?_) (AllReadyH.nil)
            go_simp
            refine hK.out _ _ (Kwa.alloc) (fun hHeld => ?_)
            clear hK KK hHeld
            obtain ⟨U2, hU2⟩ : ∃ U2, U2 = wa.alloc (Obj.cells #[.int .i64 D.kind, .slice qa D.path.length qc, .int .i64 D.pos, .int .i64 D.many, .string D.lab] 44) := ⟨_, rfl⟩
            have bU2 : Below wa.heap.size wa U2 := by rw [hU2]; exact (Below.refl _ _).alloc (Nat.le_refl _) _
            have n2 : U2.heap[wa.heap.size]? = some (Obj.cells #[.int .i64 D.kind, .slice qa D.path.length qc, .int .i64 D.pos, .int .i64 D.many, .string D.lab] 44) := by rw [hU2]; exact heap_alloc_new _ _
            have sU2 : U2.heap.size ≤ wa.heap.size + 1 ∧ wa.heap.size + 1 ≤ U2.heap.size := by rw [hU2]; simp
            have KU2 : Kp KL V2 U2 := by rw [hU2]; exact Kwa.alloc
            rw [← hU2]
            clear hU2
            try simp only [Act.put, List.setIfInBounds_toArray]
            refine wpAnyH_ready (rs := [8]) (by kernel_rfl) (by simp) ?_
            refine AllReadyH.cons rfl (fun KK hK => ?_) (AllReadyH.nil)
            obtain ⟨ua1, uc1, w8, hr2, hF, hv3, hv4, hg8⟩ := fin_mk hM HNK.out bU2 (D, qa, qc) HDY.out HFY.out (wa.heap.size) (n2) (by have := HNK.out; have := hnA.out; omega)
            have Kw8 : Kp KL V2 w8 := ⟨by have := hF.size; omega, K0.lt, fun q hq => by
              have hlt := K0.lt q hq
              rw [hF.keep q (Nat.lt_of_lt_of_le hlt KU0.size) (fun e2 => by have := (HO.out.1 _ e2).2; have := hKL q hq; omega) (fun e2 => by have := (HO.out.2 _ e2).2; have := hKL q hq; omega)]
              exact KU0.same q hq⟩
            refine step_append_run rfl _ _ _ rfl rfl hr2 rfl rfl ?_
            refine hK.out _ _ Kw8 (fun hHeld => ?_)
            clear hK KK hHeld hr2
            try simp only [Act.put]
            have e8 : w8.heap[w.heap.size + 1]? = some (Obj.cells #[.string x, .slice ka (flen kk) cap] 24) := by
              rw [hF.keep _ (show w.heap.size + 1 < U0.heap.size by omega) (fun e2 => by have := (HO.out.1 _ e2).1; omega) (fun e2 => by have := (HO.out.2 _ e2).1; omega)]
              exact HE1.out
            have u0 : w8.cell? ⟨w.heap.size + 1, 0, none⟩ = some (.string x) := by rw [cell_of_row _ _ 0 _ _ _ e8]; rfl
            have u1 : w8.cell? ⟨w.heap.size + 1, 1, none⟩ = some (.slice ka (flen kk) cap) := by rw [cell_of_row _ _ 1 _ _ _ e8]; rfl
            have uf : ∀ o, w8.frozen? ⟨w.heap.size + 1, o, none⟩ = false := fun o => by simp [World.frozen?, e8]
            have HFIN := hide (HSTEP.out _ _ _ hF)
            have hL1 : n + 1 = (A ++ [((⟨2, pth, 0, 0, ⟨#[]⟩⟩ : Dd), pa, pc)]).length := by simp [hnA.out]
            unfold maxLen at hv2 hv4
            have gn : ¬ w.heap.size + 1 ∈ KL := fun h => by have := hKL _ h; omega
            have HL1 := hide hL1
            clear e8 hF hM hL1 hg8
            refine wpAnyH_ready (rs := [9]) (by kernel_rfl) (by simp) ?_
            refine AllReadyH.cons rfl (fun KK hK => ?_) AllReadyH.nil
            go_simp
            refine hK.out _ _ ((Kw8.set gn).set gn) (fun hHeld => ?_)
            clear hK KK hHeld
            try simp only [Act.put, List.setIfInBounds_toArray]
            refine wpAnyH_ready (rs := [10]) (by kernel_rfl) (by simp) ?_
            refine AllReadyH.cons rfl (fun KK hK => ?_) AllReadyH.nil
            go_simp
            refine hK.out _ _ ((Kw8.set gn).set gn) (fun hHeld => ?_)
            clear hK KK hHeld
            try simp only [Act.put, List.setIfInBounds_toArray]
            refine wpAnyH_ready (rs := [11]) (by kernel_rfl) (by simp) ?_
            refine AllReadyH.cons rfl (fun KK hK => ?_) AllReadyH.nil
            go_simp
            refine hK.out _ _ ((Kw8.set gn).set gn) (fun hHeld => ?_)
            clear hK KK hHeld
            refine wpAnyH_done (by kernel_rfl) ?_ _
            go_wp2_with fail
            go_roundg (N - (i + 1))
            case measure => omega
            case rel => exact ⟨i + 1, x', ka', cap', k', va1, n + 1, vc1, ua1, uc1, _, _, rfl, by omega, by go_num, rfl, rfl, by omega, hv1, hv2, hv3, hv4, HL1, HFIN⟩
          · go_simp
            refine hK.out _ _ (KU1.alloc) (fun hHeld => ?_)
            clear hK KK hHeld
            obtain ⟨U2, hU2⟩ : ∃ U2, U2 = U1.alloc (Obj.cells #[.int .i64 D.kind, .slice qa D.path.length qc, .int .i64 D.pos, .int .i64 D.many, .string D.lab] 44) := ⟨_, rfl⟩
            have bU2 : Below U1.heap.size U1 U2 := by rw [hU2]; exact (Below.refl _ _).alloc (Nat.le_refl _) _
            have n2 : U2.heap[U1.heap.size]? = some (Obj.cells #[.int .i64 D.kind, .slice qa D.path.length qc, .int .i64 D.pos, .int .i64 D.many, .string D.lab] 44) := by rw [hU2]; exact heap_alloc_new _ _
            have sU2 : U2.heap.size ≤ U1.heap.size + 1 ∧ U1.heap.size + 1 ≤ U2.heap.size := by rw [hU2]; simp
            have KU2 : Kp KL V2 U2 := by rw [hU2]; exact KU1.alloc
            rw [← hU2]
            clear hU2
            try simp only [Act.put, List.setIfInBounds_toArray]
            refine wpAnyH_ready (rs := [4]) (by kernel_rfl) (by simp) ?_
            refine AllReadyH.cons rfl (fun KK hK => ?_) (AllReadyH.nil)
            obtain ⟨va1, vc1, wa, hr1, hM, hv1, hv2⟩ := mid_mk HTW.out hnA.out (by omega) (bU1.trans (bU2.mono bU1.size)) ((⟨2, pth, 0, 0, ⟨#[]⟩⟩ : Dd), pa, pc) HDX.out HFX.out (U0.heap.size) (by rw [bU2.block _ (by omega)]; exact n1) (by have := hnA.out; omega)
            have hza : V2.heap.size ≤ wa.heap.size := by have h1 := hM.b1.size; have h2 := hM.g1.size; omega
            have Kwa : Kp KL V2 wa := ⟨hza, K0.lt, fun q hq => by
              have hlt := K0.lt q hq
              rw [grown_off hM.g1 (c := q) (Nat.lt_of_lt_of_le hlt KU2.size) (fun e2 => by have := (HO.out.1 _ e2).2; have := hKL q hq; omega)]
              exact KU2.same q hq⟩
            refine step_append_run rfl _ _ _ rfl rfl hr1 rfl rfl ?_
            refine hK.out _ _ Kwa (fun hHeld => ?_)
            clear hK KK hHeld hr1
            try simp only [Act.put]
            refine wpAnyH_ready (rs := [8]) (by kernel_rfl) (by simp) ?_
            refine AllReadyH.cons rfl (fun KK hK => ?_) (AllReadyH.nil)
            obtain ⟨ua1, uc1, w8, hr2, hF, hv3, hv4, hg8⟩ := fin_mk hM HNK.out (Below.refl _ _) (D, qa, qc) HDY.out HFY.out (U1.heap.size) (by rw [grown_off hM.g1 (c := U1.heap.size) (by omega) (fun e2 => by have := (HO.out.1 _ e2).2; omega)]; exact n2) (by have := HNK.out; have := hnA.out; omega)
            have Kw8 : Kp KL V2 w8 := ⟨by have := hF.size; omega, K0.lt, fun q hq => by
              have hlt := K0.lt q hq
              rw [hF.keep q (Nat.lt_of_lt_of_le hlt KU0.size) (fun e2 => by have := (HO.out.1 _ e2).2; have := hKL q hq; omega) (fun e2 => by have := (HO.out.2 _ e2).2; have := hKL q hq; omega)]
              exact KU0.same q hq⟩
            refine step_append_run rfl _ _ _ rfl rfl hr2 rfl rfl ?_
            refine hK.out _ _ Kw8 (fun hHeld => ?_)
            clear hK KK hHeld hr2
            try simp only [Act.put]
            have e8 : w8.heap[w.heap.size + 1]? = some (Obj.cells #[.string x, .slice ka (flen kk) cap] 24) := by
              rw [hF.keep _ (show w.heap.size + 1 < U0.heap.size by omega) (fun e2 => by have := (HO.out.1 _ e2).1; omega) (fun e2 => by have := (HO.out.2 _ e2).1; omega)]
              exact HE1.out
            have u0 : w8.cell? ⟨w.heap.size + 1, 0, none⟩ = some (.string x) := by rw [cell_of_row _ _ 0 _ _ _ e8]; rfl
            have u1 : w8.cell? ⟨w.heap.size + 1, 1, none⟩ = some (.slice ka (flen kk) cap) := by rw [cell_of_row _ _ 1 _ _ _ e8]; rfl
            have uf : ∀ o, w8.frozen? ⟨w.heap.size + 1, o, none⟩ = false := fun o => by simp [World.frozen?, e8]
            have HFIN := hide (HSTEP.out _ _ _ hF)
            have hL1 : n + 1 = (A ++ [((⟨2, pth, 0, 0, ⟨#[]⟩⟩ : Dd), pa, pc)]).length := by simp [hnA.out]
            unfold maxLen at hv2 hv4
            have gn : ¬ w.heap.size + 1 ∈ KL := fun h => by have := hKL _ h; omega
            have HL1 := hide hL1
            clear e8 hF hM hL1 hg8
            refine wpAnyH_ready (rs := [9]) (by kernel_rfl) (by simp) ?_
            refine AllReadyH.cons rfl (fun KK hK => ?_) AllReadyH.nil
            go_simp
            refine hK.out _ _ ((Kw8.set gn).set gn) (fun hHeld => ?_)
            clear hK KK hHeld
            try simp only [Act.put, List.setIfInBounds_toArray]
            refine wpAnyH_ready (rs := [10]) (by kernel_rfl) (by simp) ?_
            refine AllReadyH.cons rfl (fun KK hK => ?_) AllReadyH.nil
            go_simp
            refine hK.out _ _ ((Kw8.set gn).set gn) (fun hHeld => ?_)
            clear hK KK hHeld
            try simp only [Act.put, List.setIfInBounds_toArray]
            refine wpAnyH_ready (rs := [11]) (by kernel_rfl) (by simp) ?_
            refine AllReadyH.cons rfl (fun KK hK => ?_) AllReadyH.nil
            go_simp
            refine hK.out _ _ ((Kw8.set gn).set gn) (fun hHeld => ?_)
            clear hK KK hHeld
            refine wpAnyH_done (by kernel_rfl) ?_ _
            go_wp2_with fail
            go_roundg (N - (i + 1))
            case measure => omega
            case rel => exact ⟨i + 1, x', ka', cap', k', va1, n + 1, vc1, ua1, uc1, _, _, rfl, by omega, by go_num, rfl, rfl, by omega, hv1, hv2, hv3, hv4, HL1, HFIN⟩
        · go_simp
          refine hK.out _ _ (KU0.alloc) (fun hHeld => ?_)
          clear hK KK hHeld
          obtain ⟨U1, hU1⟩ : ∃ U1, U1 = U0.alloc (Obj.cells #[.int .i64 D.kind, .slice qa D.path.length qc, .int .i64 D.pos, .int .i64 D.many, .string D.lab] 44) := ⟨_, rfl⟩
          have bU1 : Below U0.heap.size U0 U1 := by rw [hU1]; exact (Below.refl _ _).alloc (Nat.le_refl _) _
          have n2 : U1.heap[U0.heap.size]? = some (Obj.cells #[.int .i64 D.kind, .slice qa D.path.length qc, .int .i64 D.pos, .int .i64 D.many, .string D.lab] 44) := by rw [hU1]; exact heap_alloc_new _ _
          have sU1 : U1.heap.size ≤ U0.heap.size + 1 ∧ U0.heap.size + 1 ≤ U1.heap.size := by rw [hU1]; simp
          have KU1 : Kp KL V2 U1 := by rw [hU1]; exact KU0.alloc
          rw [← hU1]
          clear hU1
          try simp only [Act.put, List.setIfInBounds_toArray]
          refine wpAnyH_ready (rs := [3]) (by kernel_rfl) (by simp) ?_
          refine AllReadyH.cons rfl (fun KK hK => ?_) (AllReadyH.nil)
          go_simp
          refine hK.out _ _ (KU1.alloc) (fun hHeld => ?_)
          clear hK KK hHeld
          obtain ⟨U2, hU2⟩ : ∃ U2, U2 = U1.alloc (Obj.cells #[.int .i64 2, .slice pa pth.length pc, .int .i64 0, .int .i64 0, .string ⟨#[]⟩] 44) := ⟨_, rfl⟩
          have bU2 : Below U1.heap.size U1 U2 := by rw [hU2]; exact (Below.refl _ _).alloc (Nat.le_refl _) _
          have n1 : U2.heap[U1.heap.size]? = some (Obj.cells #[.int .i64 2, .slice pa pth.length pc, .int .i64 0, .int .i64 0, .string ⟨#[]⟩] 44) := by rw [hU2]; exact heap_alloc_new _ _
          have sU2 : U2.heap.size ≤ U1.heap.size + 1 ∧ U1.heap.size + 1 ≤ U2.heap.size := by rw [hU2]; simp
          have KU2 : Kp KL V2 U2 := by rw [hU2]; exact KU1.alloc
          rw [← hU2]
          clear hU2
          try simp only [Act.put, List.setIfInBounds_toArray]
          refine wpAnyH_ready (rs := [4]) (by kernel_rfl) (by simp) ?_
          refine AllReadyH.cons rfl (fun KK hK => ?_) (AllReadyH.nil)
          obtain ⟨va1, vc1, wa, hr1, hM, hv1, hv2⟩ := mid_mk HTW.out hnA.out (by omega) (bU1.trans (bU2.mono bU1.size)) ((⟨2, pth, 0, 0, ⟨#[]⟩⟩ : Dd), pa, pc) HDX.out HFX.out (U1.heap.size) (n1) (by have := hnA.out; omega)
          have hza : V2.heap.size ≤ wa.heap.size := by have h1 := hM.b1.size; have h2 := hM.g1.size; omega
          have Kwa : Kp KL V2 wa := ⟨hza, K0.lt, fun q hq => by
            have hlt := K0.lt q hq
            rw [grown_off hM.g1 (c := q) (Nat.lt_of_lt_of_le hlt KU2.size) (fun e2 => by have := (HO.out.1 _ e2).2; have := hKL q hq; omega)]
            exact KU2.same q hq⟩
          refine step_append_run rfl _ _ _ rfl rfl hr1 rfl rfl ?_
          refine hK.out _ _ Kwa (fun hHeld => ?_)
          clear hK KK hHeld hr1
          try simp only [Act.put]
          refine wpAnyH_ready (rs := [8]) (by kernel_rfl) (by simp) ?_
          refine AllReadyH.cons rfl (fun KK hK => ?_) (AllReadyH.nil)
          obtain ⟨ua1, uc1, w8, hr2, hF, hv3, hv4, hg8⟩ := fin_mk hM HNK.out (Below.refl _ _) (D, qa, qc) HDY.out HFY.out (U0.heap.size) (by rw [grown_off hM.g1 (c := U0.heap.size) (by omega) (fun e2 => by have := (HO.out.1 _ e2).2; omega), bU2.block _ (by omega)]; exact n2) (by have := HNK.out; have := hnA.out; omega)
          have Kw8 : Kp KL V2 w8 := ⟨by have := hF.size; omega, K0.lt, fun q hq => by
            have hlt := K0.lt q hq
            rw [hF.keep q (Nat.lt_of_lt_of_le hlt KU0.size) (fun e2 => by have := (HO.out.1 _ e2).2; have := hKL q hq; omega) (fun e2 => by have := (HO.out.2 _ e2).2; have := hKL q hq; omega)]
            exact KU0.same q hq⟩
          refine step_append_run rfl _ _ _ rfl rfl hr2 rfl rfl ?_
          refine hK.out _ _ Kw8 (fun hHeld => ?_)
          clear hK KK hHeld hr2
          try simp only [Act.put]
          have e8 : w8.heap[w.heap.size + 1]? = some (Obj.cells #[.string x, .slice ka (flen kk) cap] 24) := by
            rw [hF.keep _ (show w.heap.size + 1 < U0.heap.size by omega) (fun e2 => by have := (HO.out.1 _ e2).1; omega) (fun e2 => by have := (HO.out.2 _ e2).1; omega)]
            exact HE1.out
          have u0 : w8.cell? ⟨w.heap.size + 1, 0, none⟩ = some (.string x) := by rw [cell_of_row _ _ 0 _ _ _ e8]; rfl
          have u1 : w8.cell? ⟨w.heap.size + 1, 1, none⟩ = some (.slice ka (flen kk) cap) := by rw [cell_of_row _ _ 1 _ _ _ e8]; rfl
          have uf : ∀ o, w8.frozen? ⟨w.heap.size + 1, o, none⟩ = false := fun o => by simp [World.frozen?, e8]
          have HFIN := hide (HSTEP.out _ _ _ hF)
          have hL1 : n + 1 = (A ++ [((⟨2, pth, 0, 0, ⟨#[]⟩⟩ : Dd), pa, pc)]).length := by simp [hnA.out]
          unfold maxLen at hv2 hv4
          have gn : ¬ w.heap.size + 1 ∈ KL := fun h => by have := hKL _ h; omega
          have HL1 := hide hL1
          clear e8 hF hM hL1 hg8
          refine wpAnyH_ready (rs := [9]) (by kernel_rfl) (by simp) ?_
          refine AllReadyH.cons rfl (fun KK hK => ?_) AllReadyH.nil
          go_simp
          refine hK.out _ _ ((Kw8.set gn).set gn) (fun hHeld => ?_)
          clear hK KK hHeld
          try simp only [Act.put, List.setIfInBounds_toArray]
          refine wpAnyH_ready (rs := [10]) (by kernel_rfl) (by simp) ?_
          refine AllReadyH.cons rfl (fun KK hK => ?_) AllReadyH.nil
          go_simp
          refine hK.out _ _ ((Kw8.set gn).set gn) (fun hHeld => ?_)
          clear hK KK hHeld
          try simp only [Act.put, List.setIfInBounds_toArray]
          refine wpAnyH_ready (rs := [11]) (by kernel_rfl) (by simp) ?_
          refine AllReadyH.cons rfl (fun KK hK => ?_) AllReadyH.nil
          go_simp
          refine hK.out _ _ ((Kw8.set gn).set gn) (fun hHeld => ?_)
          clear hK KK hHeld
          refine wpAnyH_done (by kernel_rfl) ?_ _
          go_wp2_with fail
          go_roundg (N - (i + 1))
          case measure => omega
          case rel => exact ⟨i + 1, x', ka', cap', k', va1, n + 1, vc1, ua1, uc1, _, _, rfl, by omega, by go_num, rfl, rfl, by omega, hv1, hv2, hv3, hv4, HL1, HFIN⟩
      · rw [hpi] at HC
        have HPI := hide hpi
        clear hpi
        go_wp2_with fail
        refine Calls.mono HC.out ?_
        rintro e w2 ⟨rfl, hb2⟩
        have HI2 := hide ((hI.out.on hb2).stay HPI.out)
        clear hb2 HC hI
        go_wp2_with fail
        go_roundg (N - (i + 1))
        case measure => omega
        case rel => exact ⟨i + 1, x, ka, cap, kk, va, n, vc, ua, uc, A, K, rfl, by omega, by go_num, rfl, rfl, by omega, hc1, hc2, hc3, hc4, hnA, HI2⟩
    · have hie : i = N := by omega
      have hlens := hI.out.lens
      have hrv := revD_any (w.heap.size + 2) (.slice ua n uc) K wA hI.out.two.rb.own (by omega)
      have HRV := hide hrv
      have HTR := hide (show (thAt p (s, strip k) N).t = (x, strip kk) ∧ dds A = (thAt p (s, strip k) N).away ∧ dds K.reverse = (thAt p (s, strip k) N).back.reverse by rw [← hie, dds_rev, hI.out.bk]; exact ⟨hI.out.tr, hI.out.aw, rfl⟩)
      have HNK := hide (show n = K.length by have := hnA.out; omega)
      clear hrv hie hlens
      go_wp2_with fail
      refine Calls.mono HRV.out ?_
      rintro e w2 ⟨rfl, ho, hgr⟩
      have hsz := hI.out.size
      have hown : ∀ g, (Value.slice ua n uc).ownBlock = some g → w.heap.size + 2 ≤ g ∧ g < wA.heap.size := fun g hg' => ownBlockN_lt hI.out.two.rb.own hg'
      have hrB := hI.out.two.rb.turned hgr ho
      have hrA := hI.out.two.ra.grown hgr (fun g hg' e2 => hI.out.two.ne g hg' e2) (fun y hy hp0 a ha => hI.out.two.ab y hy hp0 a ha)
      obtain ⟨t2, p2⟩ := TIn.grown hgr (k := kk) hI.out.off6 hI.out.tin hI.out.plain
      have e1 : w2.heap[w.heap.size + 1]? = _ := (grown_off hgr (c := w.heap.size + 1) (by omega) (fun e => by have := (hown _ e).1; omega)).trans hI.out.box
      have q10 : w2.cell? ⟨w.heap.size + 1, 0, none⟩ = some (.string x) := by rw [cell_of_row _ _ 0 _ _ _ e1]; rfl
      have q11 : w2.cell? ⟨w.heap.size + 1, 1, none⟩ = some (.slice ka (flen kk) cap) := by rw [cell_of_row _ _ 1 _ _ _ e1]; rfl
      have f1 : ∀ o, w2.frozen? ⟨w.heap.size + 1, o, none⟩ = false := fun o => by simp [World.frozen?, e1]
      have bW : Below w.heap.size w w2 := hI.out.below.grown hgr (by omega) (fun g hg' => by have := (hown g hg').1; omega)
      have HT := hide (And.intro t2 (And.intro p2 (And.intro hrA (And.intro hrB (And.intro bW hI.out.off1)))))
      clear t2 p2 hrA hrB bW ho hgr hown e1 HRV hI
      go_wp2_with fail
      refine bodyPost_ret (v := .tuple #[.agg #[.string x, .slice ka (flen kk) cap], .slice va n vc, .slice ua n uc]) (by simp [results, Try.results70, go_sem, *]) rfl ?_
      obtain ⟨t2, p2, hrA, hrB, bW, o1⟩ := HT.out
      obtain ⟨h1, h2, h3⟩ := HTR.out
      have hk : ∀ q, w.heap.size + 2 ≤ q → ((w2.setCell ⟨w.heap.size + 1, 0, none⟩ (.string x)).setCell ⟨w.heap.size + 1, 1, none⟩ (.slice ka (flen kk) cap)).heap[q]? = w2.heap[q]? := fun q hq => box2_off (by omega)
      have rA := hrA.keep (fun q hq _ => hk q hq)
      have rB := hrB.keep (fun q hq _ => hk q hq)
      have hk2 := HNK.out
      have hk1 := hnA.out
      refine ⟨x, ka, cap, kk, va, vc, ua, uc, A, K.reverse, by rw [List.length_reverse, ← hk2, ← hk1], h1, h2, h3, TIn.set (TIn.set t2 o1) o1, FPlain.set (FPlain.set p2 o1) o1, ?_, ?_, (bW.setCell (by simp only; omega) _).setCell (by simp only; omega) _⟩
      · rw [← hk1]
        exact rA.lower (by omega)
      · rw [List.length_reverse, ← hk2]
        exact rB.lower (by omega)
end Go.Proofs.Ytcknganggcbkjab.Scr
namespace Go.Proofs.Ytcknganggcbkjab.Scr
open Go.Deep Go.RowKit Deed
set_option linter.unusedVariables false
set_option maxRecDepth 20000

set_option maxHeartbeats 8000000 in
theorem thin2_any (c : Nat) (p : Nat → Bool) (s : ByteArray) (ka : Option Addr) (cap : Nat) (k : Fo) (w : World) (ht : TIn w s ka cap k) (hp : FPlain w k) (hft : faultT s k = 0)
    (hcl : ∀ W, Below w.heap.size w W → ∀ n : Nat, Calls Try.prog 74 #[.int .i64 (n : Int), .pointer (some ⟨c, 0, none⟩)] W fun e w' => e = .returned (.bool (p n)) ∧ Below W.heap.size W w') (hok : ∀ i, i < fnodes k + 1 → p i = false → ThOk p (s, strip k) i) :
    Calls Try.prog 70 #[.agg #[.string s, .slice ka (flen k) cap], .func (.func 74) #[] #[.pointer (some ⟨c, 0, none⟩)]] w (ThinEnd (thAt p (s, strip k) (fnodes k + 1)) w) := by
  have hn40 := (fault_zero hft).1
  obtain ⟨W, hW⟩ : ∃ W, W = (w.alloc (Obj.cells #[Value.string s, Value.slice ka (flen k) cap] 24)).alloc (Obj.cells #[Value.string s, Value.slice ka (flen k) cap] 24) := ⟨_, rfl⟩
  obtain ⟨hWs, hB, c0, c1⟩ := boxes2 w (Obj.cells #[Value.string s, Value.slice ka (flen k) cap] 24) (Obj.cells #[Value.string s, Value.slice ka (flen k) cap] 24)
  rw [← hW] at hWs hB c0 c1
  have hsz := size_any s ka cap k W (ht.below hB) (hp.below hB) (by omega)
  have hoff : ∀ g, w.heap.size ≤ g → FOff g k := fun g hg => by
    rcases ht.kids with h1 | ⟨kb, ko, e1, hfi⟩
    · rw [h1]; trivial
    · exact FIn.off hg hfi
  have HST := hide (fun (w1 : World) (hb : Below W.heap.size W w1) => (show TInv w p (s, strip k) 0 w1 s ka cap k (.slice none 0 0) (.slice none 0 0) [] [] from ⟨rfl, rfl, rfl, ht.below (hB.trans (hb.mono (by omega))), hp.below (hB.trans (hb.mono (by omega))), hoff _ (by omega), Two.nil _ _, (fun g hg => by cases hg), (fun g hg => by cases hg), (hb.block _ (by omega)).trans c1, hB.trans (hb.mono (by omega)), by have := hb.size; omega⟩))
  have HSZ := hide hsz
  have HCL := hide hcl
  have HOK := hide hok
  have HFT := hide hft
  obtain ⟨N, hN⟩ : ∃ N, N = fnodes k + 1 := ⟨_, rfl⟩
  have hN40 : N ≤ 40 := by omega
  rw [show ((1 : Int) + (fnodes k : Int)) = (N : Int) by omega] at HSZ
  rw [← hN] at HOK ⊢
  clear hWs hB c0 c1 ht hp hft hcl hok hsz hoff hn40 hN
  go_enter Try.func70, Try.ntmps70
  go_wp2_with fail
  rw [← hW]
  clear hW
  refine Calls.mono HSZ.out ?_
  rintro e w1 ⟨rfl, hb1⟩
  have HI0 := hide (HST.out w1 hb1)
  clear hb1 HST HSZ
  go_wp2_with fail
  go_loopg [5, 6, 17] N (fun gk v5 v6 v17 wr => ∃ (i : Nat) (x : ByteArray) (ka : Option Addr) (cap : Nat) (kk : Fo) (va : Option Addr) (n vc : Nat) (ua : Option Addr) (uc : Nat) (A K : List Deed.Pd), gk = N - i ∧ i ≤ N ∧ v17 = .int .i64 (i : Nat) ∧ v5 = .slice va n vc ∧ v6 = .slice ua n uc ∧ n ≤ i ∧ n ≤ vc ∧ vc ≤ 9223372036854775807 ∧ n ≤ uc ∧ uc ≤ 9223372036854775807 ∧ Hid (n = A.length) ∧ Hid (TInv w p (s, strip k) i wr x ka cap kk (.slice va n vc) (.slice ua n uc) A K))
  case atStart => exact ⟨0, s, ka, cap, k, none, 0, 0, none, 0, [], [], rfl, Nat.zero_le _, rfl, rfl, rfl, Nat.le_refl _, Nat.le_refl _, by omega, Nat.le_refl _, by omega, hide rfl, HI0⟩
  case round =>
    clear HI0
    obtain ⟨i, x, ka, cap, kk, va, n, vc, ua, uc, A, K, hgk, hi, rfl, rfl, rfl, hni, hc1, hc2, hc3, hc4, hnA, hI⟩ := hrel
    obtain ⟨wA, hwA⟩ : ∃ wA, wA = wr := ⟨_, rfl⟩
    subst hwA
    by_cases hin : i < N
    · have HC := hide (HCL.out wA hI.out.below i)
      cases hpi : p i
      · rw [hpi] at HC
        have hok := HOK.out i hin hpi
        have HPI := hide hpi
        clear hpi
        go_wp2_with fail
        refine Calls.mono HC.out ?_
        rintro e w2 ⟨rfl, hb2⟩
        have HI2 := hide (hI.out.on hb2)
        have hlens := hI.out.lens
        obtain ⟨hf0, hm, hd0⟩ := hok
        have hdD : (thAt p (s, strip k) i).d i = ⟨2, ints (pathP (ndT 0 x kk (-1)) (i - n)), 0, 0, ⟨#[]⟩⟩ := by
          unfold Th.d delD nds
          rw [hI.out.tr, ← hlens.1, ← hnA.out]
          simp only [ndT_strip]
        rw [hdD] at hd0
        rw [hI.out.tr] at hf0 hm hd0
        rw [← hlens.1, ← hnA.out] at hm
        simp only [faultT_strip, fnodes_strip, doP_strip] at hf0 hm hd0
        obtain ⟨hn1, hn2, hn3⟩ := fault_small hf0
        obtain ⟨pth, hpth⟩ : ∃ pth, pth = ints (pathP (ndT 0 x kk (-1)) (i - n)) := ⟨_, rfl⟩
        have HD := hide (show (⟨2, pth, 0, 0, ⟨#[]⟩⟩ : Dd) = (thAt p (s, strip k) i).d i by rw [hdD, hpth])
        have hszA := hI.out.size
        have hz2 := hb2.size
        have q0 : w2.cell? ⟨w.heap.size + 1, 0, none⟩ = some (.string x) := by rw [cell_of_row _ _ 0 _ _ _ HI2.out.box]; rfl
        have q1 : w2.cell? ⟨w.heap.size + 1, 1, none⟩ = some (.slice ka (flen kk) cap) := by rw [cell_of_row _ _ 1 _ _ _ HI2.out.box]; rfl
        have HOF := hide (of_good x ka cap kk w2 HI2.out.tin HI2.out.plain hf0)
        have hpn := fun na nc B w3 hr h1 h2 => path_nd x kk na nc B (i - n) w3 hf0 hr h1 h2 hm
        rw [← hpth] at hpn
        rw [show ((i - n : Nat) : Int) = (i : Int) - (n : Int) by omega] at hpn
        have HPN := hide hpn
        rw [← hpth] at hd0
        have HX := hide (And.intro hf0 (And.intro hd0 (And.intro hn1 (And.intro hn2 hn3))))
        have hfn : fnodes kk + 1 ≤ 40 := by have := (fault_zero hf0).1; omega
        have HO := hide (show (∀ g, (Value.slice va n vc).ownBlock = some g → w.heap.size + 2 ≤ g ∧ g < wA.heap.size) ∧ (∀ g, (Value.slice ua n uc).ownBlock = some g → w.heap.size + 2 ≤ g ∧ g < wA.heap.size) from ⟨fun g hg' => ownBlockN_lt hI.out.two.ra.own hg', fun g hg' => ownBlockN_lt hI.out.two.rb.own hg'⟩)
        have HNK := hide (show n = K.length by have := hnA.out; omega)
        clear hf0 hm hd0 hdD hpth hpn hn1 hn2 hn3 hlens hI HC
        go_wp2_with fail
        refine Calls.mono HOF.out ?_
        rintro e w3 ⟨na, nc, rfl, hc5, hc6, hrn, hb3⟩
        have HP := hide (HPN.out na nc _ w3 hrn hc5 hc6)
        have HI3 := hide (HI2.out.on hb3)
        unfold maxLen at hc6
        obtain ⟨m, hm⟩ : ∃ m, m = fnodes kk + 1 := ⟨_, rfl⟩
        rw [← hm] at HP hc5 ⊢
        have hz3 := hb3.size
        clear hrn hb3 HPN HOF hm HI2 q0 q1
        go_wp2_with fail
        refine Calls.mono HP.out ?_
        rintro e w4 ⟨pa, pc, rfl, hdi, hfr, hp40, hb4⟩
        have HI4 := hide (HI3.out.on hb4)
        have hz4 := hb4.size
        obtain ⟨V5, hV5⟩ : ∃ V5, V5 = w4.alloc (Obj.cells #[.int .i64 2, .slice pa pth.length pc, .int .i64 0, .int .i64 0, .string ⟨#[]⟩] 44) := ⟨_, rfl⟩
        have b5 : Below w4.heap.size w4 V5 := by rw [hV5]; exact (Below.refl _ _).alloc (Nat.le_refl _) _
        have s5 : V5.heap.size = w4.heap.size + 1 := by rw [hV5]; simp
        have n10 : V5.heap[w4.heap.size]? = some (dObj (⟨2, pth, 0, 0, ⟨#[]⟩⟩, pa, pc)) := by rw [hV5]; exact heap_alloc_new _ _
        have HI5 := hide (HI4.out.on b5)
        have q0 : V5.cell? ⟨w.heap.size + 1, 0, none⟩ = some (.string x) := by rw [cell_of_row _ _ 0 _ _ _ HI5.out.box]; rfl
        have q1 : V5.cell? ⟨w.heap.size + 1, 1, none⟩ = some (.slice ka (flen kk) cap) := by rw [cell_of_row _ _ 1 _ _ _ HI5.out.box]; rfl
        have hdo := pdo_good ⟨2, pth, 0, 0, ⟨#[]⟩⟩ x ka cap kk pa pc V5 HI5.out.tin HI5.out.plain HX.out.2.2.1 HX.out.2.2.2.1 HX.out.2.2.2.2 (hdi.below b5) (show pth.length ≤ 60 by omega) (by show 0 ≤ 100; omega) HX.out.2.1
        obtain ⟨R, hR⟩ : ∃ R, R = doP ⟨2, pth, 0, 0, ⟨#[]⟩⟩ x kk := ⟨_, rfl⟩
        have hR0 : R.1 = 0 := by rw [hR]; exact HX.out.2.1
        rw [← hR] at hdo
        unfold ddV at hdo
        simp only at hdo
        have hdc := hdi.len
        have hdc2 := hdi.cap
        unfold maxLen at hdc2
        simp only at hdc
        have HDO := hide hdo
        have HRE := hide hR
        have HG := hide (And.intro hdi (And.intro hfr (And.intro b5 (And.intro n10 hR0))))
        clear hdo hR hdi hfr hb4 b5 n10 hR0 HI3 HI4 HP hp40
        rw [hV5] at q0 q1
        go_wp2_with fail
        rw [← hV5]
        rw [← hV5] at q0 q1
        clear hV5
        refine Calls.mono HDO.out ?_
        rintro e w6 ⟨x', ka', cap', k', qa, qc, rfl, hx', hk', ht', hf', hp', hd', hb', _, hfr'⟩
        rw [HG.out.2.2.2.2]
        obtain ⟨D, hDD⟩ : ∃ D, D = R.2.2 := ⟨_, rfl⟩
        rw [← hDD] at hd' hfr' ⊢
        unfold ddV
        obtain ⟨V2, hV2⟩ : ∃ V2, V2 = (w6.alloc (Obj.cells #[Value.string x', Value.slice ka' (flen k') cap'] 24)).alloc (Obj.cells #[.int .i64 D.kind, .slice qa D.path.length qc, .int .i64 D.pos, .int .i64 D.many, .string D.lab] 44) := ⟨_, rfl⟩
        obtain ⟨sV2, b3, n11, n12⟩ := boxes2 w6 (Obj.cells #[Value.string x', Value.slice ka' (flen k') cap'] 24) (Obj.cells #[.int .i64 D.kind, .slice qa D.path.length qc, .int .i64 D.pos, .int .i64 D.many, .string D.lab] 44)
        rw [← hV2] at sV2 b3 n11 n12
        have hz6 := hb'.size
        have hz7 := b3.size
        have bD : Below w6.heap.size w6 V2.drew := b3.trans (Below.refl _ _).drew
        have bR : Below V5.heap.size V5 V2.drew := hb'.trans (bD.mono hz6)
        have e10 : V2.heap[w4.heap.size]? = some (Obj.cells #[.int .i64 2, .slice pa pth.length pc, .int .i64 0, .int .i64 0, .string ⟨#[]⟩] 44) := by rw [show V2.heap[w4.heap.size]? = V5.heap[w4.heap.size]? from bR.block _ (by omega)]; exact HG.out.2.2.2.1
        have HE1 := hide (show V2.heap[w.heap.size + 1]? = some (Obj.cells #[.string x, .slice ka (flen kk) cap] 24) from (show V2.heap[w.heap.size + 1]? = V5.heap[w.heap.size + 1]? from bR.block _ (by omega)).trans HI5.out.box)
        have HTW := hide (HI5.out.two.below bR)
        have HDX := hide (show DIn V2.drew ⟨2, pth, 0, 0, ⟨#[]⟩⟩ pa pc from (HG.out.1.below HG.out.2.2.1).below bR)
        have HFX := hide (show (((⟨2, pth, 0, 0, ⟨#[]⟩⟩ : Dd), pa, pc) : Deed.Pd).1.path ≠ [] → ∀ a, (((⟨2, pth, 0, 0, ⟨#[]⟩⟩ : Dd), pa, pc) : Deed.Pd).2.1 = some a → w.heap.size + 2 ≤ a.block ∧ (Value.slice va n vc).ownBlock ≠ some a.block ∧ (Value.slice ua n uc).ownBlock ≠ some a.block from fun _ a ha => by
          have h3 := HG.out.2.1 a ha
          exact ⟨by omega, fun e2 => by have := (HO.out.1 _ e2).2; omega, fun e2 => by have := (HO.out.2 _ e2).2; omega⟩)
        have HDY := hide (show DIn V2.drew D qa qc from hd'.below bD)
        have HFY := hide (show ((D, qa, qc) : Deed.Pd).1.path ≠ [] → ∀ a, ((D, qa, qc) : Deed.Pd).2.1 = some a → w.heap.size + 2 ≤ a.block ∧ (Value.slice ua n uc).ownBlock ≠ some a.block ∧ (Value.slice va n vc).ownBlock ≠ some a.block from fun hpp a ha => by
          have h3 := hfr' hpp a ha
          exact ⟨by omega, fun e2 => by have := (HO.out.2 _ e2).2; omega, fun e2 => by have := (HO.out.1 _ e2).2; omega⟩)
        have HSTEP := hide (fun (w8 : World) (u5 u6 : Value) (hF : Fin2 (w.heap.size + 2) V2.drew w8 (.slice va n vc) (.slice ua n uc) u5 u6 (A ++ [((⟨2, pth, 0, 0, ⟨#[]⟩⟩ : Dd), pa, pc)]) (K ++ [(D, qa, qc)])) => HI5.out.step HPI.out HD.out HRE.out (Below.refl _ _) hb' bD hx' hk' ht' hf' hp' (by rw [← hDD]; exact hF))
        have t0 : V2.cell? ⟨w6.heap.size, 0, none⟩ = some (.string x') := by rw [cell_of_row _ _ 0 _ _ _ n11]; rfl
        have t1 : V2.cell? ⟨w6.heap.size, 1, none⟩ = some (.slice ka' (flen k') cap') := by rw [cell_of_row _ _ 1 _ _ _ n11]; rfl
        have d0 : V2.cell? ⟨w6.heap.size + 1, 0, none⟩ = some (.int .i64 D.kind) := by rw [cell_of_row _ _ 0 _ _ _ n12]; rfl
        have d1 : V2.cell? ⟨w6.heap.size + 1, 1, none⟩ = some (.slice qa D.path.length qc) := by rw [cell_of_row _ _ 1 _ _ _ n12]; rfl
        have d2 : V2.cell? ⟨w6.heap.size + 1, 2, none⟩ = some (.int .i64 D.pos) := by rw [cell_of_row _ _ 2 _ _ _ n12]; rfl
        have d3 : V2.cell? ⟨w6.heap.size + 1, 3, none⟩ = some (.int .i64 D.many) := by rw [cell_of_row _ _ 3 _ _ _ n12]; rfl
        have d4 : V2.cell? ⟨w6.heap.size + 1, 4, none⟩ = some (.string D.lab) := by rw [cell_of_row _ _ 4 _ _ _ n12]; rfl
        have f0 : V2.cell? ⟨w4.heap.size, 0, none⟩ = some (.int .i64 2) := by rw [cell_of_row _ _ 0 _ _ _ e10]; rfl
        have f1 : V2.cell? ⟨w4.heap.size, 1, none⟩ = some (.slice pa pth.length pc) := by rw [cell_of_row _ _ 1 _ _ _ e10]; rfl
        have f2 : V2.cell? ⟨w4.heap.size, 2, none⟩ = some (.int .i64 0) := by rw [cell_of_row _ _ 2 _ _ _ e10]; rfl
        have f3 : V2.cell? ⟨w4.heap.size, 3, none⟩ = some (.int .i64 0) := by rw [cell_of_row _ _ 3 _ _ _ e10]; rfl
        have f4 : V2.cell? ⟨w4.heap.size, 4, none⟩ = some (.string ⟨#[]⟩) := by rw [cell_of_row _ _ 4 _ _ _ e10]; rfl
        have hzV : w4.heap.size + 1 + 2 ≤ V2.heap.size := by omega
        have hw63 : w3.heap.size ≤ w6.heap.size := by omega
        have hw6V : w6.heap.size + 1 < V2.heap.size := by omega
        have hw4V : w4.heap.size < V2.heap.size := by omega
        have hDc := hd'.len
        have hDc2 := hd'.cap
        unfold maxLen at hDc2
        have hHT : V2.drew.heap.size = V2.heap.size := rfl
        clear hDD hx' hk' ht' hf' hp' hd' hb' hfr' n11 n12 b3 bD bR e10 HDO HRE HX HG hz6 hz7 sV2 HI5 q0 q1 HD hHT
        go_wp2_with fail
        rw [← hV2]
        clear hV2
        refine wp_region_held_drew (S := fun V => Kp [w4.heap.size, w6.heap.size, w6.heap.size + 1] V2 V) (by kernel_rfl) (Kp.refl (by simp; omega)).drew ?_
        intro hS0
        obtain ⟨KL, hKLe⟩ : ∃ KL, KL = [w4.heap.size, w6.heap.size, w6.heap.size + 1] := ⟨_, rfl⟩
        refine wpAnyH_take (i := 0) (v := (.agg #[.string x', .slice ka' (flen k') cap'])) rfl (by kernel_rfl) (by kernel_rfl) (by kernel_rfl) (fun _ _ _ h => h) (Or.inl ⟨by rfl, by intro V hSw; have g0 := hSw.cell (by simp) t0; have g1 := hSw.cell (by simp) t1; go_simp⟩) (by assumption) ?_
        refine wpAnyH_take (i := 1) (v := (.slice va n vc)) rfl (by kernel_rfl) (by kernel_rfl) (by kernel_rfl) (fun _ _ _ h => h) (Or.inl ⟨by rfl, by intro V hSw; go_simp⟩) (by assumption) ?_
        refine wpAnyH_take (i := 2) (v := (.agg #[.int .i64 2, .slice pa pth.length pc, .int .i64 0, .int .i64 0, .string ⟨#[]⟩])) rfl (by kernel_rfl) (by kernel_rfl) (by kernel_rfl) (fun _ _ _ h => h) (Or.inl ⟨by rfl, by intro V hSw; have g0 := hSw.cell (by simp) f0; have g1 := hSw.cell (by simp) f1; have g2 := hSw.cell (by simp) f2; have g3 := hSw.cell (by simp) f3; have g4 := hSw.cell (by simp) f4; go_simp⟩) (by assumption) ?_
        refine wpAnyH_take (i := 5) (v := (.slice ua n uc)) rfl (by kernel_rfl) (by kernel_rfl) (by kernel_rfl) (fun _ _ _ h => h) (Or.inl ⟨by rfl, by intro V hSw; go_simp⟩) (by assumption) ?_
        refine wpAnyH_take (i := 6) (v := (.agg #[.int .i64 D.kind, .slice qa D.path.length qc, .int .i64 D.pos, .int .i64 D.many, .string D.lab])) rfl (by kernel_rfl) (by kernel_rfl) (by kernel_rfl) (fun _ _ _ h => h) (Or.inl ⟨by rfl, by intro V hSw; have g0 := hSw.cell (by simp) d0; have g1 := hSw.cell (by simp) d1; have g2 := hSw.cell (by simp) d2; have g3 := hSw.cell (by simp) d3; have g4 := hSw.cell (by simp) d4; go_simp⟩) (by assumption) ?_
        have hKL : ∀ q, q ∈ KL → w3.heap.size ≤ q := fun q hq => by rw [hKLe] at hq; simp at hq; omega
        have K0 : Kp KL V2 V2 := by rw [hKLe]; exact Kp.refl (by simp; omega)
        obtain ⟨U0, hU0⟩ : ∃ U0, U0 = V2.drew := ⟨_, rfl⟩
        have KU0 : Kp KL V2 U0 := by rw [hU0]; exact K0.drew
        have sU0 : U0.heap.size ≤ V2.heap.size ∧ V2.heap.size ≤ U0.heap.size := by rw [hU0]; exact ⟨Nat.le_refl _, Nat.le_refl _⟩
        rw [← hU0] at HTW HDX HDY HSTEP
        have HE1 := hide (show U0.heap[w.heap.size + 1]? = some (Obj.cells #[.string x, .slice ka (flen kk) cap] 24) by rw [hU0]; exact HE1.out)
        rw [← hKLe, ← hU0]
        clear hKLe hU0 t0 t1 d0 d1 d2 d3 d4 f0 f1 f2 f3 f4 hS0
        try simp only [Act.put, List.setIfInBounds_toArray]
        refine wpAnyH_ready (rs := [3, 7]) (by kernel_rfl) (by simp) ?_
        refine AllReadyH.cons rfl (fun KK hK => ?_) (AllReadyH.cons rfl (fun KK hK => ?_) (AllReadyH.nil))
        · go_simp
          refine hK.out _ _ (KU0.alloc) (fun hHeld => ?_)
          clear hK KK hHeld
          obtain ⟨U1, hU1⟩ : ∃ U1, U1 = U0.alloc (Obj.cells #[.int .i64 2, .slice pa pth.length pc, .int .i64 0, .int .i64 0, .string ⟨#[]⟩] 44) := ⟨_, rfl⟩
          have bU1 : Below U0.heap.size U0 U1 := by rw [hU1]; exact (Below.refl _ _).alloc (Nat.le_refl _) _
          have n1 : U1.heap[U0.heap.size]? = some (Obj.cells #[.int .i64 2, .slice pa pth.length pc, .int .i64 0, .int .i64 0, .string ⟨#[]⟩] 44) := by rw [hU1]; exact heap_alloc_new _ _
          have sU1 : U1.heap.size ≤ U0.heap.size + 1 ∧ U0.heap.size + 1 ≤ U1.heap.size := by rw [hU1]; simp
          have KU1 : Kp KL V2 U1 := by rw [hU1]; exact KU0.alloc
          rw [← hU1]
          clear hU1
          try simp only [Act.put, List.setIfInBounds_toArray]
          refine wpAnyH_ready (rs := [4, 7]) (by kernel_rfl) (by simp) ?_
          refine AllReadyH.cons rfl (fun KK hK => ?_) (AllReadyH.cons rfl (fun KK hK => ?_) (AllReadyH.nil))
          · obtain ⟨va1, vc1, wa, hr1, hM, hv1, hv2⟩ := mid_mk HTW.out hnA.out (by omega) bU1 ((⟨2, pth, 0, 0, ⟨#[]⟩⟩ : Dd), pa, pc) HDX.out HFX.out (U0.heap.size) (n1) (by have := hnA.out; omega)
            have hza : V2.heap.size ≤ wa.heap.size := by have h1 := hM.b1.size; have h2 := hM.g1.size; omega
            have Kwa : Kp KL V2 wa := ⟨hza, K0.lt, fun q hq => by
              have hlt := K0.lt q hq
              rw [grown_off hM.g1 (c := q) (Nat.lt_of_lt_of_le hlt KU1.size) (fun e2 => by have := (HO.out.1 _ e2).2; have := hKL q hq; omega)]
              exact KU1.same q hq⟩
            refine step_append_run rfl _ _ _ rfl rfl hr1 rfl rfl ?_
            refine hK.out _ _ Kwa (fun hHeld => ?_)
            clear hK KK hHeld hr1
            try simp only [Act.put]
            refine wpAnyH_ready (rs := [7]) (by kernel_rfl) (by simp) ?_
            refine AllReadyH.cons rfl (fun KK hK => ?_) (AllReadyH.nil)
            go_simp
            refine hK.out _ _ (Kwa.alloc) (fun hHeld => ?_)
            clear hK KK hHeld
            obtain ⟨U2, hU2⟩ : ∃ U2, U2 = wa.alloc (Obj.cells #[.int .i64 D.kind, .slice qa D.path.length qc, .int .i64 D.pos, .int .i64 D.many, .string D.lab] 44) := ⟨_, rfl⟩
            have bU2 : Below wa.heap.size wa U2 := by rw [hU2]; exact (Below.refl _ _).alloc (Nat.le_refl _) _
            have n2 : U2.heap[wa.heap.size]? = some (Obj.cells #[.int .i64 D.kind, .slice qa D.path.length qc, .int .i64 D.pos, .int .i64 D.many, .string D.lab] 44) := by rw [hU2]; exact heap_alloc_new _ _
            have sU2 : U2.heap.size ≤ wa.heap.size + 1 ∧ wa.heap.size + 1 ≤ U2.heap.size := by rw [hU2]; simp
            have KU2 : Kp KL V2 U2 := by rw [hU2]; exact Kwa.alloc
            rw [← hU2]
            clear hU2
            try simp only [Act.put, List.setIfInBounds_toArray]
            refine wpAnyH_ready (rs := [8]) (by kernel_rfl) (by simp) ?_
            refine AllReadyH.cons rfl (fun KK hK => ?_) (AllReadyH.nil)
            obtain ⟨ua1, uc1, w8, hr2, hF, hv3, hv4, hg8⟩ := fin_mk hM HNK.out bU2 (D, qa, qc) HDY.out HFY.out (wa.heap.size) (n2) (by have := HNK.out; have := hnA.out; omega)
            have Kw8 : Kp KL V2 w8 := ⟨by have := hF.size; omega, K0.lt, fun q hq => by
              have hlt := K0.lt q hq
              rw [hF.keep q (Nat.lt_of_lt_of_le hlt KU0.size) (fun e2 => by have := (HO.out.1 _ e2).2; have := hKL q hq; omega) (fun e2 => by have := (HO.out.2 _ e2).2; have := hKL q hq; omega)]
              exact KU0.same q hq⟩
            refine step_append_run rfl _ _ _ rfl rfl hr2 rfl rfl ?_
            refine hK.out _ _ Kw8 (fun hHeld => ?_)
            clear hK KK hHeld hr2
            try simp only [Act.put]
            have e8 : w8.heap[w.heap.size + 1]? = some (Obj.cells #[.string x, .slice ka (flen kk) cap] 24) := by
              rw [hF.keep _ (show w.heap.size + 1 < U0.heap.size by omega) (fun e2 => by have := (HO.out.1 _ e2).1; omega) (fun e2 => by have := (HO.out.2 _ e2).1; omega)]
              exact HE1.out
            have u0 : w8.cell? ⟨w.heap.size + 1, 0, none⟩ = some (.string x) := by rw [cell_of_row _ _ 0 _ _ _ e8]; rfl
            have u1 : w8.cell? ⟨w.heap.size + 1, 1, none⟩ = some (.slice ka (flen kk) cap) := by rw [cell_of_row _ _ 1 _ _ _ e8]; rfl
            have uf : ∀ o, w8.frozen? ⟨w.heap.size + 1, o, none⟩ = false := fun o => by simp [World.frozen?, e8]
            have HFIN := hide (HSTEP.out _ _ _ hF)
            have hL1 : n + 1 = (A ++ [((⟨2, pth, 0, 0, ⟨#[]⟩⟩ : Dd), pa, pc)]).length := by simp [hnA.out]
            unfold maxLen at hv2 hv4
            have gn : ¬ w.heap.size + 1 ∈ KL := fun h => by have := hKL _ h; omega
            have HL1 := hide hL1
            clear e8 hF hM hL1 hg8
            refine wpAnyH_ready (rs := [9]) (by kernel_rfl) (by simp) ?_
            refine AllReadyH.cons rfl (fun KK hK => ?_) AllReadyH.nil
            go_simp
            refine hK.out _ _ ((Kw8.set gn).set gn) (fun hHeld => ?_)
            clear hK KK hHeld
            try simp only [Act.put, List.setIfInBounds_toArray]
            refine wpAnyH_ready (rs := [10]) (by kernel_rfl) (by simp) ?_
            refine AllReadyH.cons rfl (fun KK hK => ?_) AllReadyH.nil
            go_simp
            refine hK.out _ _ ((Kw8.set gn).set gn) (fun hHeld => ?_)
            clear hK KK hHeld
            try simp only [Act.put, List.setIfInBounds_toArray]
            refine wpAnyH_ready (rs := [11]) (by kernel_rfl) (by simp) ?_
            refine AllReadyH.cons rfl (fun KK hK => ?_) AllReadyH.nil
            go_simp
            refine hK.out _ _ ((Kw8.set gn).set gn) (fun hHeld => ?_)
            clear hK KK hHeld
            refine wpAnyH_done (by kernel_rfl) ?_ _
            go_wp2_with fail
            go_roundg (N - (i + 1))
            case measure => omega
            case rel => exact ⟨i + 1, x', ka', cap', k', va1, n + 1, vc1, ua1, uc1, _, _, rfl, by omega, by go_num, rfl, rfl, by omega, hv1, hv2, hv3, hv4, HL1, HFIN⟩
          · go_simp
            refine hK.out _ _ (KU1.alloc) (fun hHeld => ?_)
            clear hK KK hHeld
            obtain ⟨U2, hU2⟩ : ∃ U2, U2 = U1.alloc (Obj.cells #[.int .i64 D.kind, .slice qa D.path.length qc, .int .i64 D.pos, .int .i64 D.many, .string D.lab] 44) := ⟨_, rfl⟩
            have bU2 : Below U1.heap.size U1 U2 := by rw [hU2]; exact (Below.refl _ _).alloc (Nat.le_refl _) _
            have n2 : U2.heap[U1.heap.size]? = some (Obj.cells #[.int .i64 D.kind, .slice qa D.path.length qc, .int .i64 D.pos, .int .i64 D.many, .string D.lab] 44) := by rw [hU2]; exact heap_alloc_new _ _
            have sU2 : U2.heap.size ≤ U1.heap.size + 1 ∧ U1.heap.size + 1 ≤ U2.heap.size := by rw [hU2]; simp
            have KU2 : Kp KL V2 U2 := by rw [hU2]; exact KU1.alloc
            rw [← hU2]
            clear hU2
            try simp only [Act.put, List.setIfInBounds_toArray]
            refine wpAnyH_ready (rs := [4]) (by kernel_rfl) (by simp) ?_
            refine AllReadyH.cons rfl (fun KK hK => ?_) (AllReadyH.nil)
            obtain ⟨va1, vc1, wa, hr1, hM, hv1, hv2⟩ := mid_mk HTW.out hnA.out (by omega) (bU1.trans (bU2.mono bU1.size)) ((⟨2, pth, 0, 0, ⟨#[]⟩⟩ : Dd), pa, pc) HDX.out HFX.out (U0.heap.size) (by rw [bU2.block _ (by omega)]; exact n1) (by have := hnA.out; omega)
            have hza : V2.heap.size ≤ wa.heap.size := by have h1 := hM.b1.size; have h2 := hM.g1.size; omega
            have Kwa : Kp KL V2 wa := ⟨hza, K0.lt, fun q hq => by
              have hlt := K0.lt q hq
              rw [grown_off hM.g1 (c := q) (Nat.lt_of_lt_of_le hlt KU2.size) (fun e2 => by have := (HO.out.1 _ e2).2; have := hKL q hq; omega)]
              exact KU2.same q hq⟩
            refine step_append_run rfl _ _ _ rfl rfl hr1 rfl rfl ?_
            refine hK.out _ _ Kwa (fun hHeld => ?_)
            clear hK KK hHeld hr1
            try simp only [Act.put]
            refine wpAnyH_ready (rs := [8]) (by kernel_rfl) (by simp) ?_
            refine AllReadyH.cons rfl (fun KK hK => ?_) (AllReadyH.nil)
            obtain ⟨ua1, uc1, w8, hr2, hF, hv3, hv4, hg8⟩ := fin_mk hM HNK.out (Below.refl _ _) (D, qa, qc) HDY.out HFY.out (U1.heap.size) (by rw [grown_off hM.g1 (c := U1.heap.size) (by omega) (fun e2 => by have := (HO.out.1 _ e2).2; omega)]; exact n2) (by have := HNK.out; have := hnA.out; omega)
            have Kw8 : Kp KL V2 w8 := ⟨by have := hF.size; omega, K0.lt, fun q hq => by
              have hlt := K0.lt q hq
              rw [hF.keep q (Nat.lt_of_lt_of_le hlt KU0.size) (fun e2 => by have := (HO.out.1 _ e2).2; have := hKL q hq; omega) (fun e2 => by have := (HO.out.2 _ e2).2; have := hKL q hq; omega)]
              exact KU0.same q hq⟩
            refine step_append_run rfl _ _ _ rfl rfl hr2 rfl rfl ?_
            refine hK.out _ _ Kw8 (fun hHeld => ?_)
            clear hK KK hHeld hr2
            try simp only [Act.put]
            have e8 : w8.heap[w.heap.size + 1]? = some (Obj.cells #[.string x, .slice ka (flen kk) cap] 24) := by
              rw [hF.keep _ (show w.heap.size + 1 < U0.heap.size by omega) (fun e2 => by have := (HO.out.1 _ e2).1; omega) (fun e2 => by have := (HO.out.2 _ e2).1; omega)]
              exact HE1.out
            have u0 : w8.cell? ⟨w.heap.size + 1, 0, none⟩ = some (.string x) := by rw [cell_of_row _ _ 0 _ _ _ e8]; rfl
            have u1 : w8.cell? ⟨w.heap.size + 1, 1, none⟩ = some (.slice ka (flen kk) cap) := by rw [cell_of_row _ _ 1 _ _ _ e8]; rfl
            have uf : ∀ o, w8.frozen? ⟨w.heap.size + 1, o, none⟩ = false := fun o => by simp [World.frozen?, e8]
            have HFIN := hide (HSTEP.out _ _ _ hF)
            have hL1 : n + 1 = (A ++ [((⟨2, pth, 0, 0, ⟨#[]⟩⟩ : Dd), pa, pc)]).length := by simp [hnA.out]
            unfold maxLen at hv2 hv4
            have gn : ¬ w.heap.size + 1 ∈ KL := fun h => by have := hKL _ h; omega
            have HL1 := hide hL1
            clear e8 hF hM hL1 hg8
            refine wpAnyH_ready (rs := [9]) (by kernel_rfl) (by simp) ?_
            refine AllReadyH.cons rfl (fun KK hK => ?_) AllReadyH.nil
            go_simp
            refine hK.out _ _ ((Kw8.set gn).set gn) (fun hHeld => ?_)
            clear hK KK hHeld
            try simp only [Act.put, List.setIfInBounds_toArray]
            refine wpAnyH_ready (rs := [10]) (by kernel_rfl) (by simp) ?_
            refine AllReadyH.cons rfl (fun KK hK => ?_) AllReadyH.nil
            go_simp
            refine hK.out _ _ ((Kw8.set gn).set gn) (fun hHeld => ?_)
            clear hK KK hHeld
            try simp only [Act.put, List.setIfInBounds_toArray]
            refine wpAnyH_ready (rs := [11]) (by kernel_rfl) (by simp) ?_
            refine AllReadyH.cons rfl (fun KK hK => ?_) AllReadyH.nil
            go_simp
            refine hK.out _ _ ((Kw8.set gn).set gn) (fun hHeld => ?_)
            clear hK KK hHeld
            refine wpAnyH_done (by kernel_rfl) ?_ _
            go_wp2_with fail
            go_roundg (N - (i + 1))
            case measure => omega
            case rel => exact ⟨i + 1, x', ka', cap', k', va1, n + 1, vc1, ua1, uc1, _, _, rfl, by omega, by go_num, rfl, rfl, by omega, hv1, hv2, hv3, hv4, HL1, HFIN⟩
        · go_simp
          refine hK.out _ _ (KU0.alloc) (fun hHeld => ?_)
          clear hK KK hHeld
          obtain ⟨U1, hU1⟩ : ∃ U1, U1 = U0.alloc (Obj.cells #[.int .i64 D.kind, .slice qa D.path.length qc, .int .i64 D.pos, .int .i64 D.many, .string D.lab] 44) := ⟨_, rfl⟩
          have bU1 : Below U0.heap.size U0 U1 := by rw [hU1]; exact (Below.refl _ _).alloc (Nat.le_refl _) _
          have n2 : U1.heap[U0.heap.size]? = some (Obj.cells #[.int .i64 D.kind, .slice qa D.path.length qc, .int .i64 D.pos, .int .i64 D.many, .string D.lab] 44) := by rw [hU1]; exact heap_alloc_new _ _
          have sU1 : U1.heap.size ≤ U0.heap.size + 1 ∧ U0.heap.size + 1 ≤ U1.heap.size := by rw [hU1]; simp
          have KU1 : Kp KL V2 U1 := by rw [hU1]; exact KU0.alloc
          rw [← hU1]
          clear hU1
          try simp only [Act.put, List.setIfInBounds_toArray]
          refine wpAnyH_ready (rs := [3]) (by kernel_rfl) (by simp) ?_
          refine AllReadyH.cons rfl (fun KK hK => ?_) (AllReadyH.nil)
          go_simp
          refine hK.out _ _ (KU1.alloc) (fun hHeld => ?_)
          clear hK KK hHeld
          obtain ⟨U2, hU2⟩ : ∃ U2, U2 = U1.alloc (Obj.cells #[.int .i64 2, .slice pa pth.length pc, .int .i64 0, .int .i64 0, .string ⟨#[]⟩] 44) := ⟨_, rfl⟩
          have bU2 : Below U1.heap.size U1 U2 := by rw [hU2]; exact (Below.refl _ _).alloc (Nat.le_refl _) _
          have n1 : U2.heap[U1.heap.size]? = some (Obj.cells #[.int .i64 2, .slice pa pth.length pc, .int .i64 0, .int .i64 0, .string ⟨#[]⟩] 44) := by rw [hU2]; exact heap_alloc_new _ _
          have sU2 : U2.heap.size ≤ U1.heap.size + 1 ∧ U1.heap.size + 1 ≤ U2.heap.size := by rw [hU2]; simp
          have KU2 : Kp KL V2 U2 := by rw [hU2]; exact KU1.alloc
          rw [← hU2]
          clear hU2
          try simp only [Act.put, List.setIfInBounds_toArray]
          refine wpAnyH_ready (rs := [4]) (by kernel_rfl) (by simp) ?_
          refine AllReadyH.cons rfl (fun KK hK => ?_) (AllReadyH.nil)
          obtain ⟨va1, vc1, wa, hr1, hM, hv1, hv2⟩ := mid_mk HTW.out hnA.out (by omega) (bU1.trans (bU2.mono bU1.size)) ((⟨2, pth, 0, 0, ⟨#[]⟩⟩ : Dd), pa, pc) HDX.out HFX.out (U1.heap.size) (n1) (by have := hnA.out; omega)
          have hza : V2.heap.size ≤ wa.heap.size := by have h1 := hM.b1.size; have h2 := hM.g1.size; omega
          have Kwa : Kp KL V2 wa := ⟨hza, K0.lt, fun q hq => by
            have hlt := K0.lt q hq
            rw [grown_off hM.g1 (c := q) (Nat.lt_of_lt_of_le hlt KU2.size) (fun e2 => by have := (HO.out.1 _ e2).2; have := hKL q hq; omega)]
            exact KU2.same q hq⟩
          refine step_append_run rfl _ _ _ rfl rfl hr1 rfl rfl ?_
          refine hK.out _ _ Kwa (fun hHeld => ?_)
          clear hK KK hHeld hr1
          try simp only [Act.put]
          refine wpAnyH_ready (rs := [8]) (by kernel_rfl) (by simp) ?_
          refine AllReadyH.cons rfl (fun KK hK => ?_) (AllReadyH.nil)
          obtain ⟨ua1, uc1, w8, hr2, hF, hv3, hv4, hg8⟩ := fin_mk hM HNK.out (Below.refl _ _) (D, qa, qc) HDY.out HFY.out (U0.heap.size) (by rw [grown_off hM.g1 (c := U0.heap.size) (by omega) (fun e2 => by have := (HO.out.1 _ e2).2; omega), bU2.block _ (by omega)]; exact n2) (by have := HNK.out; have := hnA.out; omega)
          have Kw8 : Kp KL V2 w8 := ⟨by have := hF.size; omega, K0.lt, fun q hq => by
            have hlt := K0.lt q hq
            rw [hF.keep q (Nat.lt_of_lt_of_le hlt KU0.size) (fun e2 => by have := (HO.out.1 _ e2).2; have := hKL q hq; omega) (fun e2 => by have := (HO.out.2 _ e2).2; have := hKL q hq; omega)]
            exact KU0.same q hq⟩
          refine step_append_run rfl _ _ _ rfl rfl hr2 rfl rfl ?_
          refine hK.out _ _ Kw8 (fun hHeld => ?_)
          clear hK KK hHeld hr2
          try simp only [Act.put]
          have e8 : w8.heap[w.heap.size + 1]? = some (Obj.cells #[.string x, .slice ka (flen kk) cap] 24) := by
            rw [hF.keep _ (show w.heap.size + 1 < U0.heap.size by omega) (fun e2 => by have := (HO.out.1 _ e2).1; omega) (fun e2 => by have := (HO.out.2 _ e2).1; omega)]
            exact HE1.out
          have u0 : w8.cell? ⟨w.heap.size + 1, 0, none⟩ = some (.string x) := by rw [cell_of_row _ _ 0 _ _ _ e8]; rfl
          have u1 : w8.cell? ⟨w.heap.size + 1, 1, none⟩ = some (.slice ka (flen kk) cap) := by rw [cell_of_row _ _ 1 _ _ _ e8]; rfl
          have uf : ∀ o, w8.frozen? ⟨w.heap.size + 1, o, none⟩ = false := fun o => by simp [World.frozen?, e8]
          have HFIN := hide (HSTEP.out _ _ _ hF)
          have hL1 : n + 1 = (A ++ [((⟨2, pth, 0, 0, ⟨#[]⟩⟩ : Dd), pa, pc)]).length := by simp [hnA.out]
          unfold maxLen at hv2 hv4
          have gn : ¬ w.heap.size + 1 ∈ KL := fun h => by have := hKL _ h; omega
          have HL1 := hide hL1
          clear e8 hF hM hL1 hg8
          refine wpAnyH_ready (rs := [9]) (by kernel_rfl) (by simp) ?_
          refine AllReadyH.cons rfl (fun KK hK => ?_) AllReadyH.nil
          go_simp
          refine hK.out _ _ ((Kw8.set gn).set gn) (fun hHeld => ?_)
          clear hK KK hHeld
          try simp only [Act.put, List.setIfInBounds_toArray]
          refine wpAnyH_ready (rs := [10]) (by kernel_rfl) (by simp) ?_
          refine AllReadyH.cons rfl (fun KK hK => ?_) AllReadyH.nil
          go_simp
          refine hK.out _ _ ((Kw8.set gn).set gn) (fun hHeld => ?_)
          clear hK KK hHeld
          try simp only [Act.put, List.setIfInBounds_toArray]
          refine wpAnyH_ready (rs := [11]) (by kernel_rfl) (by simp) ?_
          refine AllReadyH.cons rfl (fun KK hK => ?_) AllReadyH.nil
          go_simp
          refine hK.out _ _ ((Kw8.set gn).set gn) (fun hHeld => ?_)
          clear hK KK hHeld
          refine wpAnyH_done (by kernel_rfl) ?_ _
          go_wp2_with fail
          go_roundg (N - (i + 1))
          case measure => omega
          case rel => exact ⟨i + 1, x', ka', cap', k', va1, n + 1, vc1, ua1, uc1, _, _, rfl, by omega, by go_num, rfl, rfl, by omega, hv1, hv2, hv3, hv4, HL1, HFIN⟩
      · rw [hpi] at HC
        have HPI := hide hpi
        clear hpi
        go_wp2_with fail
        refine Calls.mono HC.out ?_
        rintro e w2 ⟨rfl, hb2⟩
        have HI2 := hide ((hI.out.on hb2).stay HPI.out)
        clear hb2 HC hI
        go_wp2_with fail
        go_roundg (N - (i + 1))
        case measure => omega
        case rel => exact ⟨i + 1, x, ka, cap, kk, va, n, vc, ua, uc, A, K, rfl, by omega, by go_num, rfl, rfl, by omega, hc1, hc2, hc3, hc4, hnA, HI2⟩
    · have hie : i = N := by omega
      have hlens := hI.out.lens
      have hrv := revD_any (w.heap.size + 2) (.slice ua n uc) K wA hI.out.two.rb.own (by omega)
      have HRV := hide hrv
      have HTR := hide (show (thAt p (s, strip k) N).t = (x, strip kk) ∧ dds A = (thAt p (s, strip k) N).away ∧ dds K.reverse = (thAt p (s, strip k) N).back.reverse by rw [← hie, dds_rev, hI.out.bk]; exact ⟨hI.out.tr, hI.out.aw, rfl⟩)
      have HNK := hide (show n = K.length by have := hnA.out; omega)
      clear hrv hie hlens
      go_wp2_with fail
      refine Calls.mono HRV.out ?_
      rintro e w2 ⟨rfl, ho, hgr⟩
      have hsz := hI.out.size
      have hown : ∀ g, (Value.slice ua n uc).ownBlock = some g → w.heap.size + 2 ≤ g ∧ g < wA.heap.size := fun g hg' => ownBlockN_lt hI.out.two.rb.own hg'
      have hrB := hI.out.two.rb.turned hgr ho
      have hrA := hI.out.two.ra.grown hgr (fun g hg' e2 => hI.out.two.ne g hg' e2) (fun y hy hp0 a ha => hI.out.two.ab y hy hp0 a ha)
      obtain ⟨t2, p2⟩ := TIn.grown hgr (k := kk) hI.out.off6 hI.out.tin hI.out.plain
      have e1 : w2.heap[w.heap.size + 1]? = _ := (grown_off hgr (c := w.heap.size + 1) (by omega) (fun e => by have := (hown _ e).1; omega)).trans hI.out.box
      have q10 : w2.cell? ⟨w.heap.size + 1, 0, none⟩ = some (.string x) := by rw [cell_of_row _ _ 0 _ _ _ e1]; rfl
      have q11 : w2.cell? ⟨w.heap.size + 1, 1, none⟩ = some (.slice ka (flen kk) cap) := by rw [cell_of_row _ _ 1 _ _ _ e1]; rfl
      have f1 : ∀ o, w2.frozen? ⟨w.heap.size + 1, o, none⟩ = false := fun o => by simp [World.frozen?, e1]
      have bW : Below w.heap.size w w2 := hI.out.below.grown hgr (by omega) (fun g hg' => by have := (hown g hg').1; omega)
      have HT := hide (And.intro t2 (And.intro p2 (And.intro hrA (And.intro hrB (And.intro bW hI.out.off1)))))
      clear t2 p2 hrA hrB bW ho hgr hown e1 HRV hI
      go_wp2_with fail
      refine bodyPost_ret (v := .tuple #[.agg #[.string x, .slice ka (flen kk) cap], .slice va n vc, .slice ua n uc]) (by simp [results, Try.results70, go_sem, *]) rfl ?_
      obtain ⟨t2, p2, hrA, hrB, bW, o1⟩ := HT.out
      obtain ⟨h1, h2, h3⟩ := HTR.out
      have hk : ∀ q, w.heap.size + 2 ≤ q → ((w2.setCell ⟨w.heap.size + 1, 0, none⟩ (.string x)).setCell ⟨w.heap.size + 1, 1, none⟩ (.slice ka (flen kk) cap)).heap[q]? = w2.heap[q]? := fun q hq => box2_off (by omega)
      have rA := hrA.keep (fun q hq _ => hk q hq)
      have rB := hrB.keep (fun q hq _ => hk q hq)
      have hk2 := HNK.out
      have hk1 := hnA.out
      refine ⟨x, ka, cap, kk, va, vc, ua, uc, A, K.reverse, by rw [List.length_reverse, ← hk2, ← hk1], h1, h2, h3, TIn.set (TIn.set t2 o1) o1, FPlain.set (FPlain.set p2 o1) o1, ?_, ?_, (bW.setCell (by simp only; omega) _).setCell (by simp only; omega) _⟩
      · rw [← hk1]
        exact rA.lower (by omega)
      · rw [List.length_reverse, ← hk2]
        exact rB.lower (by omega)
end Go.Proofs.Ytcknganggcbkjab.Scr
namespace Go.Proofs.Ytcknganggcbkjab.Dist
open Go.Deep Go.RowKit
set_option linter.unusedVariables false
set_option maxRecDepth 20000

/-- Rows of numbers, one block each, behind the block of the rows themselves. -/
structure GridIn (w : World) (g n m : Nat) (f : Nat → Nat → Nat) : Prop where
  head : w.rowIs g 42 n (fun i => .slice (some ⟨g + 1 + i, 0, none⟩) m m)
  rows : ∀ i, i < n → w.rowIs (g + 1 + i) 3 m (fun j => .int .i64 (f i j : Int))

def upd (f : Nat → Nat → Nat) (i j v : Nat) : Nat → Nat → Nat := fun a b => if a = i ∧ b = j then v else f a b
theorem upd_same (f : Nat → Nat → Nat) (i j v : Nat) : upd f i j v i j = v := by simp [upd]
theorem upd_other {f : Nat → Nat → Nat} {i j v a b : Nat} (h : ¬ (a = i ∧ b = j)) : upd f i j v a b = f a b := by simp [upd, h]

namespace GridIn
variable {w w' : World} {g n m : Nat} {f h : Nat → Nat → Nat}
theorem lt (hg : GridIn w g n m f) : g < w.heap.size := hg.head.lt
theorem lt_row (hg : GridIn w g n m f) {i : Nat} (hi : i < n) : g + 1 + i < w.heap.size := (hg.rows i hi).lt
theorem cell (hg : GridIn w g n m f) {i : Nat} (hi : i < n) : w.cell? ⟨g, i, none⟩ = some (.slice (some ⟨g + 1 + i, 0, none⟩) m m) := hg.head.cell hi
theorem num (hg : GridIn w g n m f) {i j : Nat} (hi : i < n) (hj : j < m) : w.cell? ⟨g + 1 + i, j, none⟩ = some (.int .i64 (f i j : Int)) := (hg.rows i hi).cell hj
theorem frozen (hg : GridIn w g n m f) {i : Nat} (hi : i < n) (j : Nat) : w.frozen? ⟨g + 1 + i, j, none⟩ = false := (hg.rows i hi).frozen j
theorem of_blocks (hg : GridIn w g n m f) (e : ∀ b, g ≤ b → b ≤ g + n → w'.heap[b]? = w.heap[b]?) : GridIn w' g n m f :=
  ⟨hg.head.of_block (e g (Nat.le_refl _) (by omega)), fun i hi => (hg.rows i hi).of_block (e _ (by omega) (by omega))⟩
theorem below (hg : GridIn w g n m f) (hb : Below w.heap.size w w') : GridIn w' g n m f :=
  ⟨hg.head.of_block (hb.block _ hg.lt), fun i hi => (hg.rows i hi).of_block (hb.block _ (hg.lt_row hi))⟩
theorem congr (hg : GridIn w g n m f) (e : ∀ i j, i < n → j < m → f i j = h i j) : GridIn w g n m h :=
  ⟨hg.head, fun i hi => (hg.rows i hi).congr fun j hj => by rw [e i j hi hj]⟩
theorem set (hg : GridIn w g n m f) {i j : Nat} (hi : i < n) (v : Nat) : GridIn (w.setCell ⟨g + 1 + i, j, none⟩ (.int .i64 (v : Int))) g n m (upd f i j v) := by
  refine ⟨hg.head.setOther (by simp; omega) _, fun a ha => ?_⟩
  by_cases e : a = i
  · subst e
    refine ((hg.rows a ha).set j (.int .i64 (v : Int))).congr fun b hb => ?_
    by_cases e2 : b = j
    · subst e2
      rw [if_pos rfl, upd_same]
    · rw [if_neg e2, upd_other (fun h => e2 h.2)]
  · refine ((hg.rows a ha).setOther (by simp; omega) _).congr fun b hb => ?_
    rw [upd_other (fun h => e h.1)]
theorem setOther (hg : GridIn w g n m f) {a : Addr} (ha : a.block < g ∨ g + n < a.block) (v : Value) : GridIn (w.setCell a v) g n m f :=
  hg.of_blocks fun b h1 h2 => blk_setCell_other _ _ _ _ (by omega)
end GridIn

/-- A list of nodes that lies at a place. -/
def NAt (w : World) (b o : Nat) (L : List Nd) : Prop := ∀ (i : Nat) (x : Nd), L[i]? = some x → w.cell? ⟨b, o + i * 3, none⟩ = some (.string x.lab) ∧ w.cell? ⟨b, o + i * 3 + 1, none⟩ = some (.int .i64 x.par) ∧ w.cell? ⟨b, o + i * 3 + 2, none⟩ = some (.int .i64 x.left)
theorem NAt.of_block {w w' : World} {b o : Nat} {L : List Nd} (h : NAt w b o L) (e : w'.heap[b]? = w.heap[b]?) : NAt w' b o L := fun i x hx => by
  obtain ⟨h0, h1, h2⟩ := h i x hx
  exact ⟨by rw [World.cell?_of_block (w := w) e]; exact h0, by rw [World.cell?_of_block (w := w) e]; exact h1, by rw [World.cell?_of_block (w := w) e]; exact h2⟩

/-- Two lists of nodes and where they lie, and where the table and its rows do. -/
structure Tab where
  A : List Nd
  B : List Nd
  ba : Nat
  oa : Nat
  ca : Nat
  bb : Nat
  ob : Nat
  cb : Nat
  t : Nat
  g : Nat

/-- Nodes of a tree: numbers alone. -/
structure NOk (L : List Nd) : Prop where
  pos : 0 < L.length
  many : L.length ≤ 40
  post : Post (lefts L) L.length
  left : ∀ (i : Nat) (x : Nd), L[i]? = some x → 0 ≤ x.left ∧ x.left ≤ (i : Int)
  up : ∀ (i : Nat) (x : Nd), L[i]? = some x → x.par < 0 ∨ ∃ (p : Nat) (y : Nd), x.par = (p : Int) ∧ i < p ∧ L[p]? = some y ∧ y.left ≤ x.left
  next : ∀ (i j : Nat) (x y : Nd), L[i]? = some x → L[j]? = some y → i < j → y.left ≤ (i : Int) → ∃ p : Nat, x.par = (p : Int) ∧ p ≤ j
  small : ∀ x, x ∈ L → x.lab.size ≤ 6
  root : lefts L (L.length - 1) = 0

structure TabIn (w : World) (T : Tab) (f : Nat → Nat → Nat) : Prop where
  okA : NOk T.A
  okB : NOk T.B
  capA : T.A.length ≤ T.ca ∧ T.ca ≤ maxLen
  capB : T.B.length ≤ T.cb ∧ T.cb ≤ maxLen
  c0 : w.cell? ⟨T.t, 0, none⟩ = some (.slice (some ⟨T.ba, T.oa, none⟩) T.A.length T.ca)
  c1 : w.cell? ⟨T.t, 1, none⟩ = some (.slice (some ⟨T.bb, T.ob, none⟩) T.B.length T.cb)
  c2 : w.cell? ⟨T.t, 2, none⟩ = some (.slice (some ⟨T.g, 0, none⟩) T.A.length T.A.length)
  na : NAt w T.ba T.oa T.A
  nb : NAt w T.bb T.ob T.B
  grid : GridIn w T.g T.A.length T.B.length f
  ltA : T.ba < T.g
  ltB : T.bb < T.g
  ltT : T.g + T.A.length < T.t
  lt : T.t < w.heap.size

theorem TabIn.of_blocks {w w' : World} {T : Tab} {f : Nat → Nat → Nat} (h : TabIn w T f) (hs : w.heap.size ≤ w'.heap.size) (e : ∀ b, b ≤ T.t → w'.heap[b]? = w.heap[b]?) : TabIn w' T f := by
  have h1 := h.ltA
  have h2 := h.ltB
  have h3 := h.ltT
  have h4 := h.lt
  exact ⟨h.okA, h.okB, h.capA, h.capB, by rw [World.cell?_of_block (w := w) (e _ (Nat.le_refl _))]; exact h.c0, by rw [World.cell?_of_block (w := w) (e _ (Nat.le_refl _))]; exact h.c1, by rw [World.cell?_of_block (w := w) (e _ (Nat.le_refl _))]; exact h.c2,
    h.na.of_block (e _ (by omega)), h.nb.of_block (e _ (by omega)), h.grid.of_blocks (fun b _ hb => e b (by omega)), h1, h2, h3, by omega⟩
theorem TabIn.below {w w' : World} {T : Tab} {f : Nat → Nat → Nat} (h : TabIn w T f) (hb : Below w.heap.size w w') : TabIn w' T f := h.of_blocks hb.size fun b hb' => hb.block b (by have := h.lt; omega)
theorem TabIn.drewN {w : World} {T : Tab} {f : Nat → Nat → Nat} (h : TabIn w T f) (n : Nat) : TabIn (w.drewN n) T f := h.of_blocks (Nat.le_refl _) fun _ _ => rfl
theorem TabIn.set {w : World} {T : Tab} {f : Nat → Nat → Nat} (h : TabIn w T f) {i j : Nat} (hi : i < T.A.length) (v : Nat) : TabIn (w.setCell ⟨T.g + 1 + i, j, none⟩ (.int .i64 (v : Int))) T (upd f i j v) := by
  have h1 := h.ltA
  have h2 := h.ltB
  have h3 := h.ltT
  have h4 := h.lt
  have e : ∀ b, b ≠ T.g + 1 + i → (w.setCell ⟨T.g + 1 + i, j, none⟩ (.int .i64 (v : Int))).heap[b]? = w.heap[b]? := fun b hb => blk_setCell_other _ _ _ _ (by simpa using hb)
  exact ⟨h.okA, h.okB, h.capA, h.capB, by rw [World.cell?_of_block (w := w) (e _ (by simp; omega))]; exact h.c0, by rw [World.cell?_of_block (w := w) (e _ (by simp; omega))]; exact h.c1, by rw [World.cell?_of_block (w := w) (e _ (by simp; omega))]; exact h.c2,
    h.na.of_block (e _ (by omega)), h.nb.of_block (e _ (by omega)), h.grid.set hi v, h1, h2, h3, by simpa [World.setCell] using h4⟩
theorem TabIn.congr {w : World} {T : Tab} {f f' : Nat → Nat → Nat} (h : TabIn w T f) (e : ∀ i j, i < T.A.length → j < T.B.length → f i j = f' i j) : TabIn w T f' :=
  ⟨h.okA, h.okB, h.capA, h.capB, h.c0, h.c1, h.c2, h.na, h.nb, h.grid.congr e, h.ltA, h.ltB, h.ltT, h.lt⟩

/-- Where forests of a table lie, and where they begin. -/
structure Fst where
  p : Nat
  x : Nat
  y : Nat
  gc : Nat
  M : Nat
  N : Nat
structure ForIn (w : World) (T : Tab) (F : Fst) (h : Nat → Nat → Nat) : Prop where
  c0 : w.cell? ⟨F.p, 0, none⟩ = some (.pointer (some ⟨T.t, 0, none⟩))
  c1 : w.cell? ⟨F.p, 1, none⟩ = some (.int .i64 (F.x : Int))
  c2 : w.cell? ⟨F.p, 2, none⟩ = some (.int .i64 (F.y : Int))
  c3 : w.cell? ⟨F.p, 3, none⟩ = some (.slice (some ⟨F.gc, 0, none⟩) F.M F.M)
  grid : GridIn w F.gc F.M F.N h
  ltT : T.t < F.p
  ltG : F.p < F.gc
  inA : F.x + F.M ≤ T.A.length + 1
  inB : F.y + F.N ≤ T.B.length + 1

theorem ForIn.of_blocks {w w' : World} {T : Tab} {F : Fst} {h : Nat → Nat → Nat} (hf : ForIn w T F h) (e : ∀ b, T.t < b → b < w.heap.size → w'.heap[b]? = w.heap[b]?) : ForIn w' T F h := by
  have h1 := hf.ltT
  have h2 := hf.ltG
  have h3 := hf.grid.lt
  have ep := e F.p h1 (by omega)
  exact ⟨by rw [World.cell?_of_block (w := w) ep]; exact hf.c0, by rw [World.cell?_of_block (w := w) ep]; exact hf.c1, by rw [World.cell?_of_block (w := w) ep]; exact hf.c2, by rw [World.cell?_of_block (w := w) ep]; exact hf.c3,
    ⟨hf.grid.head.of_block (e _ (by omega) h3), fun i hi => (hf.grid.rows i hi).of_block (e _ (by omega) (hf.grid.lt_row hi))⟩, h1, h2, hf.inA, hf.inB⟩
theorem ForIn.below {w w' : World} {T : Tab} {F : Fst} {h : Nat → Nat → Nat} (hf : ForIn w T F h) (hb : Below w.heap.size w w') : ForIn w' T F h := hf.of_blocks fun b _ hb' => hb.block b hb'
theorem ForIn.drewN {w : World} {T : Tab} {F : Fst} {h : Nat → Nat → Nat} (hf : ForIn w T F h) (n : Nat) : ForIn (w.drewN n) T F h := hf.of_blocks fun _ _ _ => rfl

theorem left_at {L : List Nd} (h : NOk L) {i : Nat} (hi : i < L.length) : ∃ x, L[i]? = some x ∧ x.left = (lefts L i : Int) ∧ lefts L i ≤ i ∧ labs L i = x.lab := by
  obtain ⟨x, hx⟩ : ∃ x, L[i]? = some x := ⟨_, List.getElem?_eq_getElem hi⟩
  have := h.left i x hx
  refine ⟨x, hx, ?_, ?_, labs_at hx⟩
  · rw [lefts_at hx]; omega
  · rw [lefts_at hx]; omega
end Go.Proofs.Ytcknganggcbkjab.Dist
