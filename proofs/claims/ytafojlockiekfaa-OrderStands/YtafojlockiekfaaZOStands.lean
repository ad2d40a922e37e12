/- pleachinglaw.OrderStands answers true. Of the program's text. -/
import Derived.Test.YtafojlockiekfaaProg
import Derived.Test.YtafojlockiekfaaGPath
import Derived.Test.YtafojlockiekfaaZRCheckD
import Derived.Test.YtafojlockiekfaaZStandP
import Derived.Test.YtafojlockiekfaaZNodesR
import Derived.Test.YtafojlockiekfaaGGrow
import Derived.Test.YtafojlockiekfaaAlike
namespace Go.Proofs.Ytafojlockiekfaa
open Go.Deep Go.RowKit
set_option linter.unusedVariables false
set_option maxRecDepth 20000

/-- What stays while the last row runs. -/
def StS (w0 : World) (g b o n : Nat) (l : ByteArray) (left : Int) (ya : Option Addr) (fl yc : Nat) (w' : World) : Prop :=
  Below w0.heap.size w0 w' ∧ w'.cell? ⟨g, 0, none⟩ = some (.string l) ∧ w'.cell? ⟨g, 1, none⟩ = some (.slice ya fl yc) ∧ w'.cell? ⟨b, o + n * 3, none⟩ = some (.string l) ∧ w'.cell? ⟨b, o + n * 3 + 2, none⟩ = some (.int .i64 left)
theorem StS.on {w0 : World} {g b o n : Nat} {l : ByteArray} {left : Int} {ya : Option Addr} {fl yc : Nat} {w1 w2 : World} (h : StS w0 g b o n l left ya fl yc w1) (hb : Below w1.heap.size w1 w2) : StS w0 g b o n l left ya fl yc w2 :=
  ⟨h.1.trans (hb.mono h.1.size), cellOf hb h.2.1, cellOf hb h.2.2.1, cellOf hb h.2.2.2.1, cellOf hb h.2.2.2.2⟩

set_option maxHeartbeats 4000000 in
theorem ostands_any (s : ByteArray) (ka : Option Addr) (cap : Nat) (k : Fo) (n : Int) (w : World) (ht : TIn w s ka cap k) (hco : FCold w k) :
    Calls Try.prog 10 #[.agg #[.string s, .slice ka (flen k) cap], .int .i64 n] w fun e w' => e = .returned (.bool true) ∧ Below w.heap.size w w' := by
  have hbx : Below w.heap.size w (w.alloc (Obj.cells #[Value.string s, Value.slice ka (flen k) cap] 24)) := (Below.refl _ _).alloc (Nat.le_refl _) _
  go_enter Try.func10, Try.ntmps10
  go_wp2_with fail
  refine (obegun_any _).mono ?_
  rintro e w1 ⟨rfl, hb1⟩
  have hB1 := hbx.trans (hb1.mono (by simp))
  have e0 : w1.cell? ⟨w.heap.size, 0, none⟩ = some (.string s) := by rw [hb1.cell (by simp)]; go_simp
  have e1 : w1.cell? ⟨w.heap.size, 1, none⟩ = some (.slice ka (flen k) cap) := by rw [hb1.cell (by simp)]; go_simp
  have HP := hide (of_wild s ka cap k w1 (ht.below hB1) (hco.below hB1))
  clear hb1 hbx
  go_wp2_with fail
  refine Calls.mono HP.out ?_
  rintro e w2 ⟨hpe, hb2⟩
  have hB2 := hB1.trans (hb2.mono hB1.size)
  have d0 := cellOf hb2 e0
  have d1 := cellOf hb2 e1
  have HG := hide (great_any s ka cap k w2 (ht.below hB2))
  clear HP hb2 e0 e1 hB1
  cases hg : greatT s k with
  | true =>
    rw [hg] at HG
    obtain ⟨v, c, rfl⟩ : ∃ v c, e = .returned (.tuple #[v, .int .i64 c]) := by
      rcases hpe with ⟨c, _, _, rfl⟩ | ⟨_, v, rfl, _⟩
      · exact ⟨_, _, rfl⟩
      · exact ⟨_, _, rfl⟩
    clear hpe
    go_wp2_with fail
    refine Calls.mono HG.out ?_
    rintro e w3 ⟨rfl, hb3⟩
    go_wp2_with fail
    go_ret
    exact ⟨rfl, hB2.trans (hb3.mono hB2.size)⟩
  | false =>
    rw [hg] at HG
    rcases hpe with ⟨c, hc, hc0, rfl⟩ | ⟨hc, v, rfl, hrow⟩
    · have hcb : (c == 0) = false := beq_eq_false_iff_ne.2 hc0
      clear hc
      go_wp2_with fail
      refine Calls.mono HG.out ?_
      rintro e w3 ⟨rfl, hb3⟩
      go_wp2_with fail
      go_ret
      exact ⟨rfl, hB2.trans (hb3.mono hB2.size)⟩
    · have hf0 := MayTell.good hc
      obtain ⟨hn40, _, hbad⟩ := fault_zero hf0
      obtain ⟨va, vc, rfl, hvl, hvm⟩ := ownsN_form hrow
      have hN := NIn_of_owns hrow (ndT_labs hbad)
      have hok : TOk (ndT 0 s k (-1)) s (strip k) := ⟨growP_ndT s k, by rw [faultT_strip]; exact hf0, ndT_strip _ _ _ _⟩
      have HOK := hide hok
      have hvm' := hvm
      unfold maxLen at hvm
      have HBAD := hide hbad
      clear hrow hf0 hbad hc hok
      go_wp2_with fail
      refine Calls.mono HG.out ?_
      rintro e w3 ⟨rfl, hb3⟩
      have hB3 := hB2.trans (hb3.mono hB2.size)
      have hN3 := hN.below hb3
      have t0 := cellOf hb3 d0
      have t1 := cellOf hb3 d1
      clear HG hb3 hB2 hN d0 d1 hg
      by_cases h1 : n < 0
      · have hd1 : decide (n < 0) = true := decide_eq_true h1
        go_wp2_with fail
        go_ret
        exact ⟨rfl, hB3⟩
      have hd1 : decide (n < 0) = false := decide_eq_false h1
      obtain ⟨n, rfl⟩ : ∃ n' : Nat, n = (n' : Int) := ⟨n.toNat, by omega⟩
      by_cases h2 : fnodes k + 1 ≤ n
      · go_wp2_with fail
        go_ret
        exact ⟨rfl, hB3⟩
      have hdn : decide ((fnodes k : Int) + 1 ≤ (n : Int)) = false := decide_eq_false (by omega)
      have hln : (ndT 0 s k (-1)).length = fnodes k + 1 := ndT_length _ _ _ _
      have hnr := nodes_N w3 (fnodes k + 1) k (Nat.lt_succ_self _) s ka cap [] 0 (.slice none 0 0) w3 rfl (ht.below hB3) HBAD.out (Below.refl _ _) ⟨rfl, Or.inl ⟨rfl, rfl⟩⟩ (by omega)
      have HNR := hide hnr
      have HLN := hide hln
      clear hnr hln
      go_wp2_with fail
      refine Calls.mono HNR.out ?_
      rintro e w4 ⟨v4, rfl, hrow4, hg4, _⟩
      have hb4 : Below w3.heap.size w3 w4 := (Below.refl _ _).grown hg4 (Nat.le_refl _) (fun g h => by cases h)
      obtain ⟨ra, rc, rfl, hrl, hrm⟩ := ownsN_form hrow4
      have hN4 := NIn_of_owns hrow4 (by simpa using ndT_labs HBAD.out)
      have hsn := sameN_any va ra vc rc (ndT 0 s k (-1)) (ndT 0 s k (-1)) w4 (hN3.below hb4) (by simpa using hN4) (by have := HLN.out; omega) (by have := HLN.out; unfold maxLen; omega)
      rw [HLN.out, decide_eq_true rfl] at hsn
      have HSN := hide hsn
      have hB4 := hB3.trans (hb4.mono hB3.size)
      have hN4' := hN3.below hb4
      have t04 := cellOf hb4 t0
      have t14 := cellOf hb4 t1
      unfold maxLen at hrm
      clear hsn hrow4 hg4 hN4 HNR hN3 hB3 hb4 t0 t1
      have hz0 : 0 + fnodes k + 1 = fnodes k + 1 := by omega
      rw [hz0]
      rw [hz0] at hrl
      clear hz0
      go_wp2_with fail
      refine Calls.mono HSN.out ?_
      rintro e w5 ⟨rfl, hb5⟩
      have hB5 := hB4.trans (hb5.mono hB4.size)
      have hN5 := hN4'.below hb5
      have t05 := cellOf hb5 t04
      have t15 := cellOf hb5 t14
      clear HSN hN4' hB4 hb5 t04 t14
      rcases hN5 with hN5 | ⟨b, o, rfl, hN5⟩
      · have := HLN.out; rw [hN5] at this; simp at this
      obtain ⟨x, hx⟩ : ∃ x, (ndT 0 s k (-1))[n]? = some x := ⟨_, List.getElem?_eq_getElem (by have := HLN.out; omega)⟩
      obtain ⟨x0, x1, x2, _⟩ := hN5 n x hx
      have hbl : b < w5.heap.size := World.block_lt_of_cell? _ _ x0
      have HN5 := hide hN5
      have HX := hide hx
      clear hN5 hx
      have hu := hide (ndT_up s k)
      go_wp2_with fail
      go_loopg [7] (fnodes k + 1) (fun gk v7 wr => ∃ i : Nat, gk = fnodes k + 1 - i ∧ i ≤ fnodes k + 1 ∧ v7 = .int .i64 (i : Nat) ∧ wr = w5)
      case atStart => exact ⟨0, rfl, Nat.zero_le _, rfl, rfl⟩
      case round =>
        obtain ⟨i, hgk, hi, rfl, rfl⟩ := hrel
        by_cases hil : i < fnodes k + 1
        · have HIS := hide (anc_is s k hil HX.out)
          go_wp2_with fail
          go_loopg [8, 9] (fnodes k + 1 - i) (fun gk2 v8 v9 wr2 => ∃ (B : Bool), v8 = .bool B ∧ wr2 = wr ∧ ((∃ j : Nat, gk2 = fnodes k + 1 - j ∧ j < fnodes k + 1 ∧ v9 = .int .i64 (j : Nat) ∧ Hid (decide (n ∈ anc (ndT 0 s k (-1)) i) = (B || decide (n ∈ anc (ndT 0 s k (-1)) j)))) ∨ (gk2 = 0 ∧ v9 = .int .i64 (-1) ∧ Hid (decide (n ∈ anc (ndT 0 s k (-1)) i) = B))))
          case atStart => exact ⟨false, rfl, rfl, Or.inl ⟨i, rfl, hil, rfl, by show _ = _; simp⟩⟩
          case round =>
            obtain ⟨B, rfl, rfl, hrel⟩ := hrel
            rcases hrel with ⟨j, hgk2, hj, rfl, hdec⟩ | ⟨hgk2, rfl, hdec⟩
            · obtain ⟨y, hy⟩ : ∃ y, (ndT 0 s k (-1))[j]? = some y := ⟨_, List.getElem?_eq_getElem (by have := HLN.out; omega)⟩
              obtain ⟨_, y1, _, _⟩ := HN5.out j y hy
              have huy := hu.out j y hy
              rw [HLN.out] at huy
              have hjl : j < fnodes k + 1 := hj
              by_cases hneg : y.par < 0
              · have hp1 : y.par = -1 := by omega
                rw [hp1] at y1
                have HD := hide (show decide (n ∈ anc (ndT 0 s k (-1)) i) = (B || decide (j = n)) by
                  rw [hdec.out, anc_root hy hneg]
                  congr 1
                  rw [decide_eq_decide]
                  constructor
                  · intro h; have : n = j := by simpa using h
                    exact this.symm
                  · intro h; simp [h])
                clear hdec hneg hp1 huy
                by_cases hjn : j = n
                · have hjb : ((j : Int) == (n : Int)) = true := beq_iff_eq.2 (by omega)
                  have hjd : decide (j = n) = true := decide_eq_true hjn
                  clear hjn
                  cases B
                  · go_wp2_with fail
                    go_roundg (0)
                    case measure => omega
                    case rel =>
                      refine ⟨true, rfl, rfl, Or.inr ⟨rfl, rfl, ?_⟩⟩
                      show _ = _
                      rw [HD.out]
                      simp [hjd]
                  · go_wp2_with fail
                    go_roundg (0)
                    case measure => omega
                    case rel =>
                      refine ⟨true, rfl, rfl, Or.inr ⟨rfl, rfl, ?_⟩⟩
                      show _ = _
                      rw [HD.out]
                      simp [hjd]
                · have hjb : ((j : Int) == (n : Int)) = false := beq_eq_false_iff_ne.2 (by omega)
                  have hjd : decide (j = n) = false := decide_eq_false hjn
                  clear hjn
                  cases B
                  · go_wp2_with fail
                    go_roundg (0)
                    case measure => omega
                    case rel =>
                      refine ⟨false, rfl, rfl, Or.inr ⟨rfl, rfl, ?_⟩⟩
                      show _ = _
                      rw [HD.out]
                      simp [hjd]
                  · go_wp2_with fail
                    go_roundg (0)
                    case measure => omega
                    case rel =>
                      refine ⟨true, rfl, rfl, Or.inr ⟨rfl, rfl, ?_⟩⟩
                      show _ = _
                      rw [HD.out]
                      simp [hjd]
              · obtain ⟨q, hq⟩ : ∃ q : Nat, y.par = (q : Int) := ⟨y.par.toNat, by omega⟩
                rw [hq] at y1
                have hql : j < q ∧ q < fnodes k + 1 := by omega
                have HD := hide (show decide (n ∈ anc (ndT 0 s k (-1)) i) = ((B || decide (j = n)) || decide (n ∈ anc (ndT 0 s k (-1)) q)) by
                  rw [hdec.out, anc_kid hu.out hy hq, Bool.or_assoc]
                  congr 1
                  rw [Bool.eq_iff_iff]
                  simp only [decide_eq_true_eq, Bool.or_eq_true, List.mem_cons]
                  constructor
                  · rintro (h | h)
                    · exact Or.inl h.symm
                    · exact Or.inr h
                  · rintro (h | h)
                    · exact Or.inl h.symm
                    · exact Or.inr h)
                clear hdec hneg hq huy
                by_cases hjn : j = n
                · have hjb : ((j : Int) == (n : Int)) = true := beq_iff_eq.2 (by omega)
                  have hjd : decide (j = n) = true := decide_eq_true hjn
                  clear hjn
                  cases B
                  · go_wp2_with fail
                    go_roundg (fnodes k + 1 - q)
                    case measure => omega
                    case rel =>
                      refine ⟨true, rfl, rfl, Or.inl ⟨q, rfl, hql.2, rfl, ?_⟩⟩
                      show _ = _
                      rw [HD.out]
                      simp [hjd]
                  · go_wp2_with fail
                    go_roundg (fnodes k + 1 - q)
                    case measure => omega
                    case rel =>
                      refine ⟨true, rfl, rfl, Or.inl ⟨q, rfl, hql.2, rfl, ?_⟩⟩
                      show _ = _
                      rw [HD.out]
                      simp [hjd]
                · have hjb : ((j : Int) == (n : Int)) = false := beq_eq_false_iff_ne.2 (by omega)
                  have hjd : decide (j = n) = false := decide_eq_false hjn
                  clear hjn
                  cases B
                  · go_wp2_with fail
                    go_roundg (fnodes k + 1 - q)
                    case measure => omega
                    case rel =>
                      refine ⟨false, rfl, rfl, Or.inl ⟨q, rfl, hql.2, rfl, ?_⟩⟩
                      show _ = _
                      rw [HD.out]
                      simp [hjd]
                  · go_wp2_with fail
                    go_roundg (fnodes k + 1 - q)
                    case measure => omega
                    case rel =>
                      refine ⟨true, rfl, rfl, Or.inl ⟨q, rfl, hql.2, rfl, ?_⟩⟩
                      show _ = _
                      rw [HD.out]
                      simp [hjd]
            · have hBv : B = decide (x.left ≤ (i : Int) ∧ i ≤ n) := by rw [← hdec.out, decide_eq_decide]; exact HIS.out
              by_cases hl : x.left ≤ (i : Int)
              · have hd1 : decide (x.left ≤ (i : Int)) = true := decide_eq_true hl
                by_cases hin : i ≤ n
                · have hd2 : decide ((i : Int) ≤ (n : Int)) = true := decide_eq_true (by omega)
                  have hd3 : decide (i ≤ n) = true := decide_eq_true hin
                  have hB1 : B = true := by rw [hBv]; simp [hl, hin]
                  subst hB1
                  clear hBv hdec hl hin
                  go_wp2_with fail
                  go_roundg (fnodes k + 1 - (i + 1))
                  case measure => omega
                  case rel => exact ⟨i + 1, rfl, by omega, by go_num, rfl⟩
                · have hd2 : decide ((i : Int) ≤ (n : Int)) = false := decide_eq_false (by omega)
                  have hd3 : decide (i ≤ n) = false := decide_eq_false hin
                  have hB1 : B = false := by rw [hBv]; simp [hin]
                  subst hB1
                  clear hBv hdec hl hin
                  go_wp2_with fail
                  go_roundg (fnodes k + 1 - (i + 1))
                  case measure => omega
                  case rel => exact ⟨i + 1, rfl, by omega, by go_num, rfl⟩
              · have hd1 : decide (x.left ≤ (i : Int)) = false := decide_eq_false hl
                have hB1 : B = false := by rw [hBv]; simp [hl]
                subst hB1
                clear hBv hdec hl
                go_wp2_with fail
                go_roundg (fnodes k + 1 - (i + 1))
                case measure => omega
                case rel => exact ⟨i + 1, rfl, by omega, by go_num, rfl⟩
        · have hB6 := hB5
          by_cases hneg : x.par < 0
          · have hlast := nd_last HX.out hneg
            have hnb : ((n : Int) == (fnodes k : Int)) = true := beq_iff_eq.2 (by omega)
            have hd0 : decide (0 ≤ x.par) = false := decide_eq_false (by omega)
            clear hlast hneg
            have hpg := fun W (hW : Below wr.heap.size wr W) => path_good (some ⟨b, o, none⟩) vc (ndT 0 s k (-1)) s (strip k) n W (NIn.below (Or.inr ⟨b, o, rfl, HN5.out⟩) hW) HOK.out (by have := HLN.out; omega) (by have := HLN.out; omega) hvm'
            rw [HLN.out] at hpg
            obtain ⟨P, hPd⟩ : ∃ P, P = pathP (ndT 0 s k (-1)) n := ⟨_, rfl⟩
            rw [← hPd] at hpg
            obtain ⟨⟨yl, ya, yc, yk⟩, haty, hylb, hyn⟩ := at_node ka cap HX.out
            simp only at hylb hyn
            subst hylb
            rw [← hPd] at haty
            have htw := ht.below hB6
            have htY := atT_lies _ (s, ka, cap, k) _ htw haty
            have hat := fun W (pa : Option Addr) (pc : Nat) (hW : Below wr.heap.size wr W) (hp : PIn W pa (ints P)) (h1 : P.length ≤ pc) (h2 : pc ≤ maxLen) => refAt_any (ints P) s ka cap k pa pc W (htw.below hW) hp (by rw [ints_length]; exact h1) h2
            simp only [haty, atV, ints_length] at hat
            have HPG := hide hpg
            have HAT := hide hat
            have HTY := hide htY
            clear hpg hat htY haty hPd htw
            go_wp2_with fail
            refine wp_region_held_drew (S := fun W => Below wr.heap.size wr W) (by kernel_rfl) ((Below.refl _ _).drew) ?_
            intro hS0
            refine wpAnyH_take (i := 0) (v := .agg #[.string s, .slice ka (flen k) cap]) rfl (by kernel_rfl) (by kernel_rfl) (by kernel_rfl) (fun _ _ _ h => h) (Or.inl ⟨by simp [Region.wanted], by intro W hSw; have c0 := cellOf hSw t05; have c1 := cellOf hSw t15; go_simp⟩) (by assumption) ?_
            refine wpAnyH_take (i := 1) (v := .slice (some ⟨b, o, none⟩) (fnodes k + 1) vc) rfl (by kernel_rfl) (by kernel_rfl) (by kernel_rfl) (fun _ _ _ h => h) (Or.inl ⟨by simp [Region.wanted], by intro W hSw; go_simp⟩) (by assumption) ?_
            refine wpAnyH_take (i := 2) (v := .int .i64 (n : Int)) rfl (by kernel_rfl) (by kernel_rfl) (by kernel_rfl) (fun _ _ _ h => h) (Or.inl ⟨by simp [Region.wanted], by intro W hSw; go_simp⟩) (by assumption) ?_
            simp only [Act.put, List.setIfInBounds_toArray]
            refine wpAnyH_ready (rs := [3, 8]) (by kernel_rfl) (by simp) ?_
            refine AllReadyH.cons rfl (fun KK hK => ?_) (AllReadyH.cons rfl (fun KK hK => ?_) AllReadyH.nil)
            · go_simp
              refine Calls.mono (HPG.out _ (by assumption)) ?_
              rintro e W1 ⟨v1, rfl, hrow1, hb1⟩
              obtain ⟨pa, pc, rfl, hpc, hpcm⟩ := ownsN_form hrow1
              have hI1 := PIn_of_owns hrow1
              have hS1 := hS0.trans (hb1.mono hS0.size)
              clear hrow1
              refine hK.out _ _ hS1 (fun hHeld => ?_)
              clear hK KK
              refine wpAnyH_ready (rs := [4, 8]) (by kernel_rfl) (by simp) ?_
              refine AllReadyH.cons rfl (fun KK hK => ?_) (AllReadyH.cons rfl (fun KK hK => ?_) AllReadyH.nil)
              · go_simp
                refine Calls.mono (HAT.out W1 pa pc (by assumption) hI1 hpc hpcm) ?_
                rintro e W2 ⟨rfl, hb2⟩
                have hS2 := hS1.trans (hb2.mono hS1.size)
                refine hK.out _ _ hS2 (fun hHeld => ?_)
                clear hK KK
                refine wpAnyH_take (i := 5) (v := .tuple #[.agg #[.string x.lab, .slice ya (flen yk) yc], .bool true]) rfl (by kernel_rfl) (by kernel_rfl) (by kernel_rfl) (fun _ _ _ h => h) (Or.inl ⟨by simp [Region.wanted], by intro W hSw; go_simp⟩) (by assumption) ?_
                refine wpAnyH_take (i := 6) (v := .agg #[.string x.lab, .slice ya (flen yk) yc]) rfl (by kernel_rfl) (by kernel_rfl) (by kernel_rfl) (fun _ _ _ h => h) (Or.inl ⟨by simp [Region.wanted], by intro W hSw; go_simp⟩) (by assumption) ?_
                refine wpAnyH_take (i := 7) (v := .bool true) rfl (by kernel_rfl) (by kernel_rfl) (by kernel_rfl) (fun _ _ _ h => h) (Or.inl ⟨by simp [Region.wanted], by intro W hSw; go_simp⟩) (by assumption) ?_
                simp only [Act.put, List.setIfInBounds_toArray]
                refine wpAnyH_ready (rs := [8]) (by kernel_rfl) (by simp) ?_
                refine AllReadyH.cons rfl (fun KK hK => ?_) AllReadyH.nil
                go_simp
                have hSF := hS2.alloc hS2.size (Obj.cells #[Value.string ⟨#[]⟩, Value.slice none 0 0] 24)
                refine hK.out _ _ hSF (fun hHeld => ?_)
                clear hK KK
                refine wpAnyH_ready (rs := [9]) (by kernel_rfl) (by simp) ?_
                refine AllReadyH.cons rfl (fun KK hK => ?_) AllReadyH.nil
                go_simp
                refine hK.out _ _ (hS2.alloc hS2.size _) (fun hHeld => ?_)
                clear hK KK
                refine wpAnyH_ready (rs := [10]) (by kernel_rfl) (by simp) ?_
                refine AllReadyH.cons rfl (fun KK hK => ?_) AllReadyH.nil
                go_simp
                refine hK.out _ _ (hS2.alloc hS2.size _) (fun hHeld => ?_)
                clear hK KK
                refine wpAnyH_done (by kernel_rfl) ?_ _
                obtain ⟨WF, hWF⟩ : ∃ WF, WF = W2.alloc (Obj.cells #[Value.string x.lab, Value.slice ya (flen yk) yc] 24) := ⟨_, rfl⟩
                have hSF : Below wr.heap.size wr WF := by rw [hWF]; exact hS2.alloc hS2.size _
                have f0 : WF.cell? ⟨W2.heap.size, 0, none⟩ = some (.string x.lab) := by rw [hWF]; go_simp
                have f1 : WF.cell? ⟨W2.heap.size, 1, none⟩ = some (.slice ya (flen yk) yc) := by rw [hWF]; go_simp
                rw [← hWF]
                have c0 := cellOf hSF x0
                have c2 := cellOf hSF x2
                have hsz := fun W (hW : Below wr.heap.size wr W) => sizeOf_any (fnodes yk + 1) x.lab ya yc yk 1000 W (Nat.lt_succ_self _) (by omega) (by omega) (HTY.out.below hW)
                have hxl := nd_left HX.out
                rw [show min (1 + (fnodes yk : Int)) (1000 + 1) = 1 + (fnodes yk : Int) by omega] at hsz
                have HSZ := hide hsz
                have heq : (1 + (fnodes yk : Int) == (n : Int) - x.left + 1) = true := beq_iff_eq.2 (by omega)
                have hnot : ¬ ((fnodes k : Int) + 1 ≤ (n : Int)) := by omega
                have hnot2 : (n : Int) < (fnodes k : Int) + 1 := by omega
                have hw1 : IntKind.i64.wrap ((n : Int) - x.left) = (n : Int) - x.left := by rw [IntKind.wrap_i64]; omega
                have hw2 : IntKind.i64.wrap ((n : Int) - x.left + 1) = (n : Int) - x.left + 1 := by rw [IntKind.wrap_i64]; omega
                have heq2 : (1 + ((n : Int) - x.left) == (n : Int) - x.left + 1) = true := beq_iff_eq.2 (by omega)
                have hBF := hB6.trans (hSF.mono hB6.size)
                clear hsz hWF
                have hS00 : StS wr W2.heap.size b o n x.lab x.left ya (flen yk) yc WF.drew := ⟨hSF.drew, f0, f1, c0, c2⟩
                have HS00 := hide hS00
                clear hS00 f0 f1 c0 c2
                go_wp2_with fail
                go_region_held3 (fun w' => Below wr.heap.size wr w' ∧ w'.cell? ⟨W2.heap.size, 0, none⟩ = some (.string x.lab) ∧ w'.cell? ⟨W2.heap.size, 1, none⟩ = some (.slice ya (flen yk) yc) ∧ w'.cell? ⟨b, o + n * 3, none⟩ = some (.string x.lab) ∧ w'.cell? ⟨b, o + n * 3 + 2, none⟩ = some (.int .i64 x.left))
                  (first | exact HS00.out | exact StS.on (by assumption) (by assumption) | assumption)
                  ((go_at_call 22; refine (HSZ.out _ (And.left (by assumption))).mono ?_; rintro e w9 ⟨rfl, hb9⟩))
                all_goals
                  go_wp2_with fail
                  go_ret
                  exact ⟨rfl, hB6.trans (Below.mono (And.left (by assumption)) hB6.size)⟩
              · go_simp
                have hSa := hS1.alloc hS1.size (Obj.cells #[Value.string ⟨#[]⟩, Value.slice none 0 0] 24)
                have hbxa : Below W1.heap.size W1 (W1.alloc (Obj.cells #[Value.string ⟨#[]⟩, Value.slice none 0 0] 24)) := (Below.refl _ _).alloc (Nat.le_refl _) _
                have hIa := hI1.below hbxa
                refine hK.out _ _ hSa (fun hHeld => ?_)
                clear hK KK
                refine wpAnyH_ready (rs := [4]) (by kernel_rfl) (by simp) ?_
                refine AllReadyH.cons rfl (fun KK hK => ?_) AllReadyH.nil
                go_simp
                refine Calls.mono (HAT.out _ pa pc (by assumption) hIa hpc hpcm) ?_
                rintro e W2 ⟨rfl, hb2⟩
                have hS2 := hSa.trans (hb2.mono hSa.size)
                refine hK.out _ _ hS2 (fun hHeld => ?_)
                clear hK KK
                have g0 : W2.cell? ⟨W1.heap.size, 0, none⟩ = some (.string ⟨#[]⟩) := by rw [hb2.cell (by simp)]; go_simp
                have g1 : W2.cell? ⟨W1.heap.size, 1, none⟩ = some (.slice none 0 0) := by rw [hb2.cell (by simp)]; go_simp
                have gf : ∀ q, W2.frozen? ⟨W1.heap.size, q, none⟩ = false := fun q => by rw [hb2.frozen (by simp)]; go_simp
                have gz : W1.heap.size < W2.heap.size := by have := hb2.size; simp at this; omega
                refine wpAnyH_take (i := 5) (v := .tuple #[.agg #[.string x.lab, .slice ya (flen yk) yc], .bool true]) rfl (by kernel_rfl) (by kernel_rfl) (by kernel_rfl) (fun _ _ _ h => h) (Or.inl ⟨by simp [Region.wanted], by intro W hSw; go_simp⟩) (by assumption) ?_
                refine wpAnyH_take (i := 6) (v := .agg #[.string x.lab, .slice ya (flen yk) yc]) rfl (by kernel_rfl) (by kernel_rfl) (by kernel_rfl) (fun _ _ _ h => h) (Or.inl ⟨by simp [Region.wanted], by intro W hSw; go_simp⟩) (by assumption) ?_
                refine wpAnyH_take (i := 7) (v := .bool true) rfl (by kernel_rfl) (by kernel_rfl) (by kernel_rfl) (fun _ _ _ h => h) (Or.inl ⟨by simp [Region.wanted], by intro W hSw; go_simp⟩) (by assumption) ?_
                simp only [Act.put, List.setIfInBounds_toArray]
                refine wpAnyH_ready (rs := [9]) (by kernel_rfl) (by simp) ?_
                refine AllReadyH.cons rfl (fun KK hK => ?_) AllReadyH.nil
                go_simp
                refine hK.out _ _ (((hS2).setCell (by have := hS1.size; simp; omega) _).setCell (by have := hS1.size; simp; omega) _) (fun hHeld => ?_)
                clear hK KK
                refine wpAnyH_ready (rs := [10]) (by kernel_rfl) (by simp) ?_
                refine AllReadyH.cons rfl (fun KK hK => ?_) AllReadyH.nil
                go_simp
                refine hK.out _ _ (((hS2).setCell (by have := hS1.size; simp; omega) _).setCell (by have := hS1.size; simp; omega) _) (fun hHeld => ?_)
                clear hK KK
                refine wpAnyH_done (by kernel_rfl) ?_ _
                obtain ⟨WF, hWF⟩ : ∃ WF, WF = (W2.setCell ⟨W1.heap.size, 0, none⟩ (Value.string x.lab)).setCell ⟨W1.heap.size, 1, none⟩ (Value.slice ya (flen yk) yc) := ⟨_, rfl⟩
                have hSF : Below wr.heap.size wr WF := by rw [hWF]; exact (hS2.setCell (by have := hS1.size; simp; omega) _).setCell (by have := hS1.size; simp; omega) _
                have f0 : WF.cell? ⟨W1.heap.size, 0, none⟩ = some (.string x.lab) := by rw [hWF]; go_simp
                have f1 : WF.cell? ⟨W1.heap.size, 1, none⟩ = some (.slice ya (flen yk) yc) := by rw [hWF]; go_simp
                rw [← hWF]
                have c0 := cellOf hSF x0
                have c2 := cellOf hSF x2
                have hsz := fun W (hW : Below wr.heap.size wr W) => sizeOf_any (fnodes yk + 1) x.lab ya yc yk 1000 W (Nat.lt_succ_self _) (by omega) (by omega) (HTY.out.below hW)
                have hxl := nd_left HX.out
                rw [show min (1 + (fnodes yk : Int)) (1000 + 1) = 1 + (fnodes yk : Int) by omega] at hsz
                have HSZ := hide hsz
                have heq : (1 + (fnodes yk : Int) == (n : Int) - x.left + 1) = true := beq_iff_eq.2 (by omega)
                have hnot : ¬ ((fnodes k : Int) + 1 ≤ (n : Int)) := by omega
                have hnot2 : (n : Int) < (fnodes k : Int) + 1 := by omega
                have hw1 : IntKind.i64.wrap ((n : Int) - x.left) = (n : Int) - x.left := by rw [IntKind.wrap_i64]; omega
                have hw2 : IntKind.i64.wrap ((n : Int) - x.left + 1) = (n : Int) - x.left + 1 := by rw [IntKind.wrap_i64]; omega
                have heq2 : (1 + ((n : Int) - x.left) == (n : Int) - x.left + 1) = true := beq_iff_eq.2 (by omega)
                have hBF := hB6.trans (hSF.mono hB6.size)
                clear hsz hWF
                have hS00 : StS wr W1.heap.size b o n x.lab x.left ya (flen yk) yc WF.drew := ⟨hSF.drew, f0, f1, c0, c2⟩
                have HS00 := hide hS00
                clear hS00 f0 f1 c0 c2
                go_wp2_with fail
                go_region_held3 (fun w' => Below wr.heap.size wr w' ∧ w'.cell? ⟨W1.heap.size, 0, none⟩ = some (.string x.lab) ∧ w'.cell? ⟨W1.heap.size, 1, none⟩ = some (.slice ya (flen yk) yc) ∧ w'.cell? ⟨b, o + n * 3, none⟩ = some (.string x.lab) ∧ w'.cell? ⟨b, o + n * 3 + 2, none⟩ = some (.int .i64 x.left))
                  (first | exact HS00.out | exact StS.on (by assumption) (by assumption) | assumption)
                  ((go_at_call 22; refine (HSZ.out _ (And.left (by assumption))).mono ?_; rintro e w9 ⟨rfl, hb9⟩))
                all_goals
                  go_wp2_with fail
                  go_ret
                  exact ⟨rfl, hB6.trans (Below.mono (And.left (by assumption)) hB6.size)⟩
            · go_simp
              have hSa := ((Below.refl wr.heap.size wr).alloc (Nat.le_refl _) (Obj.cells #[Value.string ⟨#[]⟩, Value.slice none 0 0] 24)).drew
              refine hK.out _ _ hSa (fun hHeld => ?_)
              clear hK KK
              refine wpAnyH_ready (rs := [3]) (by kernel_rfl) (by simp) ?_
              refine AllReadyH.cons rfl (fun KK hK => ?_) AllReadyH.nil
              go_simp
              refine Calls.mono (HPG.out _ (by assumption)) ?_
              rintro e W1 ⟨v1, rfl, hrow1, hb1⟩
              obtain ⟨pa, pc, rfl, hpc, hpcm⟩ := ownsN_form hrow1
              have hI1 := PIn_of_owns hrow1
              have hS1 := hSa.trans (hb1.mono hSa.size)
              clear hrow1
              refine hK.out _ _ hS1 (fun hHeld => ?_)
              clear hK KK
              have g0' : W1.cell? ⟨wr.heap.size, 0, none⟩ = some (.string ⟨#[]⟩) := by rw [hb1.cell (by simp)]; go_simp
              have g1' : W1.cell? ⟨wr.heap.size, 1, none⟩ = some (.slice none 0 0) := by rw [hb1.cell (by simp)]; go_simp
              have gf' : ∀ q, W1.frozen? ⟨wr.heap.size, q, none⟩ = false := fun q => by rw [hb1.frozen (by simp)]; go_simp
              have gz' : wr.heap.size < W1.heap.size := by have := hb1.size; simp at this; omega
              refine wpAnyH_ready (rs := [4]) (by kernel_rfl) (by simp) ?_
              refine AllReadyH.cons rfl (fun KK hK => ?_) AllReadyH.nil
              go_simp
              refine Calls.mono (HAT.out W1 pa pc (by assumption) hI1 hpc hpcm) ?_
              rintro e W2 ⟨rfl, hb2⟩
              have hS2 := hS1.trans (hb2.mono hS1.size)
              refine hK.out _ _ hS2 (fun hHeld => ?_)
              clear hK KK
              have g0 := cellOf hb2 g0'
              have g1 := cellOf hb2 g1'
              have gf : ∀ q, W2.frozen? ⟨wr.heap.size, q, none⟩ = false := fun q => by rw [hb2.frozen gz']; exact gf' q
              have gz : wr.heap.size < W2.heap.size := by have := hb2.size; omega
              clear g0' g1' gf' gz'
              refine wpAnyH_take (i := 5) (v := .tuple #[.agg #[.string x.lab, .slice ya (flen yk) yc], .bool true]) rfl (by kernel_rfl) (by kernel_rfl) (by kernel_rfl) (fun _ _ _ h => h) (Or.inl ⟨by simp [Region.wanted], by intro W hSw; go_simp⟩) (by assumption) ?_
              refine wpAnyH_take (i := 6) (v := .agg #[.string x.lab, .slice ya (flen yk) yc]) rfl (by kernel_rfl) (by kernel_rfl) (by kernel_rfl) (fun _ _ _ h => h) (Or.inl ⟨by simp [Region.wanted], by intro W hSw; go_simp⟩) (by assumption) ?_
              refine wpAnyH_take (i := 7) (v := .bool true) rfl (by kernel_rfl) (by kernel_rfl) (by kernel_rfl) (fun _ _ _ h => h) (Or.inl ⟨by simp [Region.wanted], by intro W hSw; go_simp⟩) (by assumption) ?_
              simp only [Act.put, List.setIfInBounds_toArray]
              refine wpAnyH_ready (rs := [9]) (by kernel_rfl) (by simp) ?_
              refine AllReadyH.cons rfl (fun KK hK => ?_) AllReadyH.nil
              go_simp
              refine hK.out _ _ (((hS2).setCell (by simp) _).setCell (by simp) _) (fun hHeld => ?_)
              clear hK KK
              refine wpAnyH_ready (rs := [10]) (by kernel_rfl) (by simp) ?_
              refine AllReadyH.cons rfl (fun KK hK => ?_) AllReadyH.nil
              go_simp
              refine hK.out _ _ (((hS2).setCell (by simp) _).setCell (by simp) _) (fun hHeld => ?_)
              clear hK KK
              refine wpAnyH_done (by kernel_rfl) ?_ _
              obtain ⟨WF, hWF⟩ : ∃ WF, WF = (W2.setCell ⟨wr.heap.size, 0, none⟩ (Value.string x.lab)).setCell ⟨wr.heap.size, 1, none⟩ (Value.slice ya (flen yk) yc) := ⟨_, rfl⟩
              have hSF : Below wr.heap.size wr WF := by rw [hWF]; exact (hS2.setCell (by simp) _).setCell (by simp) _
              have f0 : WF.cell? ⟨wr.heap.size, 0, none⟩ = some (.string x.lab) := by rw [hWF]; go_simp
              have f1 : WF.cell? ⟨wr.heap.size, 1, none⟩ = some (.slice ya (flen yk) yc) := by rw [hWF]; go_simp
              rw [← hWF]
              have c0 := cellOf hSF x0
              have c2 := cellOf hSF x2
              have hsz := fun W (hW : Below wr.heap.size wr W) => sizeOf_any (fnodes yk + 1) x.lab ya yc yk 1000 W (Nat.lt_succ_self _) (by omega) (by omega) (HTY.out.below hW)
              have hxl := nd_left HX.out
              rw [show min (1 + (fnodes yk : Int)) (1000 + 1) = 1 + (fnodes yk : Int) by omega] at hsz
              have HSZ := hide hsz
              have heq : (1 + (fnodes yk : Int) == (n : Int) - x.left + 1) = true := beq_iff_eq.2 (by omega)
              have hnot : ¬ ((fnodes k : Int) + 1 ≤ (n : Int)) := by omega
              have hnot2 : (n : Int) < (fnodes k : Int) + 1 := by omega
              have hw1 : IntKind.i64.wrap ((n : Int) - x.left) = (n : Int) - x.left := by rw [IntKind.wrap_i64]; omega
              have hw2 : IntKind.i64.wrap ((n : Int) - x.left + 1) = (n : Int) - x.left + 1 := by rw [IntKind.wrap_i64]; omega
              have heq2 : (1 + ((n : Int) - x.left) == (n : Int) - x.left + 1) = true := beq_iff_eq.2 (by omega)
              have hBF := hB6.trans (hSF.mono hB6.size)
              clear hsz hWF
              have hS00 : StS wr wr.heap.size b o n x.lab x.left ya (flen yk) yc WF.drew := ⟨hSF.drew, f0, f1, c0, c2⟩
              have HS00 := hide hS00
              clear hS00 f0 f1 c0 c2
              go_wp2_with fail
              go_region_held3 (fun w' => Below wr.heap.size wr w' ∧ w'.cell? ⟨wr.heap.size, 0, none⟩ = some (.string x.lab) ∧ w'.cell? ⟨wr.heap.size, 1, none⟩ = some (.slice ya (flen yk) yc) ∧ w'.cell? ⟨b, o + n * 3, none⟩ = some (.string x.lab) ∧ w'.cell? ⟨b, o + n * 3 + 2, none⟩ = some (.int .i64 x.left))
                (first | exact HS00.out | exact StS.on (by assumption) (by assumption) | assumption)
                ((go_at_call 22; refine (HSZ.out _ (And.left (by assumption))).mono ?_; rintro e w9 ⟨rfl, hb9⟩))
              all_goals
                go_wp2_with fail
                go_ret
                exact ⟨rfl, hB6.trans (Below.mono (And.left (by assumption)) hB6.size)⟩
          · obtain ⟨p, hp⟩ : ∃ p : Nat, x.par = (p : Int) := ⟨x.par.toNat, by omega⟩
            have hup := hu.out n x HX.out
            rw [HLN.out] at hup
            obtain ⟨y, hy⟩ : ∃ y, (ndT 0 s k (-1))[p]? = some y := ⟨_, List.getElem?_eq_getElem (by have := HLN.out; omega)⟩
            obtain ⟨hnp, hyl, hbet⟩ := nd_parent HX.out hp hy
            obtain ⟨_, _, y2, _⟩ := HN5.out p y hy
            have hpl : p < fnodes k + 1 := by omega
            have hd0 : decide (0 ≤ (p : Int)) = true := decide_eq_true (by omega)
            have hd1 : decide (y.left > x.left) = false := decide_eq_false (by omega)
            have hd2 : decide (x.left < y.left) = false := decide_eq_false (by omega)
            rw [hp] at x1
            have HBET := hide hbet
            clear hneg hup hp hbet hy
            obtain ⟨wA, hwA⟩ : ∃ wA, wA = wr := ⟨_, rfl⟩
            subst hwA
            have hd4 : decide ((p : Int) ≤ (n : Int)) = false := decide_eq_false (by omega)
            have hd5 : decide (p ≤ n) = false := decide_eq_false (by omega)
            have hpnot : ¬ ((fnodes k : Int) + 1 ≤ (p : Int)) := by omega
            have hpnot2 : (p : Int) < (fnodes k : Int) + 1 := by omega
            go_wp2_with fail
            go_loopg [11] (p - (n + 1)) (fun gk v11 wr => ∃ j : Nat, gk = p - j ∧ n + 1 ≤ j ∧ j ≤ p ∧ v11 = .int .i64 (j : Nat) ∧ wr = wA)
            case atStart => exact ⟨n + 1, rfl, Nat.le_refl _, by omega, by go_num, rfl⟩
            case round =>
              obtain ⟨j, hgk3, hj1, hj2, rfl, rfl⟩ := hrel
              by_cases hjp : j < p
              · obtain ⟨z, hz⟩ : ∃ z, (ndT 0 s k (-1))[j]? = some z := ⟨_, List.getElem?_eq_getElem (by have := HLN.out; omega)⟩
                obtain ⟨_, _, z2, _⟩ := HN5.out j z hz
                have hzl := HBET.out j z (by omega) hjp hz
                have hd3 : decide (z.left ≤ (n : Int)) = false := decide_eq_false (by omega)
                clear hz
                go_wp2_with fail
                go_roundg (p - (j + 1))
                case measure => omega
                case rel => exact ⟨j + 1, rfl, by omega, by omega, by go_num, rfl⟩
              · have hjp2 : p ≤ j := by omega
                go_wp2_with fail
                go_quiet (fail)
                obtain ⟨wT, hwT⟩ : ∃ wT, wT = wr.drewN nq := ⟨_, rfl⟩
                have hbT : Below wr.heap.size wr wT := by rw [hwT]; exact below_drewN (Below.refl _ _) _
                have hB6T := hB6.trans (hbT.mono hB6.size)
                have hN5T : ∀ (i : Nat) (x : Nd), (ndT 0 s k (-1))[i]? = some x → wT.cell? ⟨b, o + i * 3, none⟩ = some (.string x.lab) ∧ wT.cell? ⟨b, o + i * 3 + 1, none⟩ = some (.int .i64 x.par) ∧ wT.cell? ⟨b, o + i * 3 + 2, none⟩ = some (.int .i64 x.left) ∧ x.lab.size ≤ maxLen := by rw [hwT]; exact HN5.out
                have HN5T := hide hN5T
                have t05T := cellOf hbT t05
                have t15T := cellOf hbT t15
                have x0T := cellOf hbT x0
                have x2T := cellOf hbT x2
                rw [← hwT]
                clear hwT hN5T HN5 t05 t15 x0 x1 x2 hB6 hB5 y2 hbl
                have hpg := fun W (hW : Below wT.heap.size wT W) => path_good (some ⟨b, o, none⟩) vc (ndT 0 s k (-1)) s (strip k) n W (NIn.below (Or.inr ⟨b, o, rfl, HN5T.out⟩) hW) HOK.out (by have := HLN.out; omega) (by have := HLN.out; omega) hvm'
                rw [HLN.out] at hpg
                obtain ⟨P, hPd⟩ : ∃ P, P = pathP (ndT 0 s k (-1)) n := ⟨_, rfl⟩
                rw [← hPd] at hpg
                obtain ⟨⟨yl, ya, yc, yk⟩, haty, hylb, hyn⟩ := at_node ka cap HX.out
                simp only at hylb hyn
                subst hylb
                rw [← hPd] at haty
                have htw := ht.below hB6T
                have htY := atT_lies _ (s, ka, cap, k) _ htw haty
                have hat := fun W (pa : Option Addr) (pc : Nat) (hW : Below wT.heap.size wT W) (hp : PIn W pa (ints P)) (h1 : P.length ≤ pc) (h2 : pc ≤ maxLen) => refAt_any (ints P) s ka cap k pa pc W (htw.below hW) hp (by rw [ints_length]; exact h1) h2
                simp only [haty, atV, ints_length] at hat
                have HPG := hide hpg
                have HAT := hide hat
                have HTY := hide htY
                clear hpg hat htY haty hPd htw
                go_wp2_with fail
                refine wp_region_held_drew (S := fun W => Below wT.heap.size wT W) (by kernel_rfl) ((Below.refl _ _).drew) ?_
                intro hS0
                refine wpAnyH_take (i := 0) (v := .agg #[.string s, .slice ka (flen k) cap]) rfl (by kernel_rfl) (by kernel_rfl) (by kernel_rfl) (fun _ _ _ h => h) (Or.inl ⟨by simp [Region.wanted], by intro W hSw; have c0 := cellOf hSw t05T; have c1 := cellOf hSw t15T; go_simp⟩) (by assumption) ?_
                refine wpAnyH_take (i := 1) (v := .slice (some ⟨b, o, none⟩) (fnodes k + 1) vc) rfl (by kernel_rfl) (by kernel_rfl) (by kernel_rfl) (fun _ _ _ h => h) (Or.inl ⟨by simp [Region.wanted], by intro W hSw; go_simp⟩) (by assumption) ?_
                refine wpAnyH_take (i := 2) (v := .int .i64 (n : Int)) rfl (by kernel_rfl) (by kernel_rfl) (by kernel_rfl) (fun _ _ _ h => h) (Or.inl ⟨by simp [Region.wanted], by intro W hSw; go_simp⟩) (by assumption) ?_
                simp only [Act.put, List.setIfInBounds_toArray]
                refine wpAnyH_ready (rs := [3, 8]) (by kernel_rfl) (by simp) ?_
                refine AllReadyH.cons rfl (fun KK hK => ?_) (AllReadyH.cons rfl (fun KK hK => ?_) AllReadyH.nil)
                · go_simp
                  refine Calls.mono (HPG.out _ (by assumption)) ?_
                  rintro e W1 ⟨v1, rfl, hrow1, hb1⟩
                  obtain ⟨pa, pc, rfl, hpc, hpcm⟩ := ownsN_form hrow1
                  have hI1 := PIn_of_owns hrow1
                  have hS1 := hS0.trans (hb1.mono hS0.size)
                  clear hrow1
                  refine hK.out _ _ hS1 (fun hHeld => ?_)
                  clear hK KK
                  refine wpAnyH_ready (rs := [4, 8]) (by kernel_rfl) (by simp) ?_
                  refine AllReadyH.cons rfl (fun KK hK => ?_) (AllReadyH.cons rfl (fun KK hK => ?_) AllReadyH.nil)
                  · go_simp
                    refine Calls.mono (HAT.out W1 pa pc (by assumption) hI1 hpc hpcm) ?_
                    rintro e W2 ⟨rfl, hb2⟩
                    have hS2 := hS1.trans (hb2.mono hS1.size)
                    refine hK.out _ _ hS2 (fun hHeld => ?_)
                    clear hK KK
                    refine wpAnyH_take (i := 5) (v := .tuple #[.agg #[.string x.lab, .slice ya (flen yk) yc], .bool true]) rfl (by kernel_rfl) (by kernel_rfl) (by kernel_rfl) (fun _ _ _ h => h) (Or.inl ⟨by simp [Region.wanted], by intro W hSw; go_simp⟩) (by assumption) ?_
                    refine wpAnyH_take (i := 6) (v := .agg #[.string x.lab, .slice ya (flen yk) yc]) rfl (by kernel_rfl) (by kernel_rfl) (by kernel_rfl) (fun _ _ _ h => h) (Or.inl ⟨by simp [Region.wanted], by intro W hSw; go_simp⟩) (by assumption) ?_
                    refine wpAnyH_take (i := 7) (v := .bool true) rfl (by kernel_rfl) (by kernel_rfl) (by kernel_rfl) (fun _ _ _ h => h) (Or.inl ⟨by simp [Region.wanted], by intro W hSw; go_simp⟩) (by assumption) ?_
                    simp only [Act.put, List.setIfInBounds_toArray]
                    refine wpAnyH_ready (rs := [8]) (by kernel_rfl) (by simp) ?_
                    refine AllReadyH.cons rfl (fun KK hK => ?_) AllReadyH.nil
                    go_simp
                    have hSF := hS2.alloc hS2.size (Obj.cells #[Value.string ⟨#[]⟩, Value.slice none 0 0] 24)
                    refine hK.out _ _ hSF (fun hHeld => ?_)
                    clear hK KK
                    refine wpAnyH_ready (rs := [9]) (by kernel_rfl) (by simp) ?_
                    refine AllReadyH.cons rfl (fun KK hK => ?_) AllReadyH.nil
                    go_simp
                    refine hK.out _ _ (hS2.alloc hS2.size _) (fun hHeld => ?_)
                    clear hK KK
                    refine wpAnyH_ready (rs := [10]) (by kernel_rfl) (by simp) ?_
                    refine AllReadyH.cons rfl (fun KK hK => ?_) AllReadyH.nil
                    go_simp
                    refine hK.out _ _ (hS2.alloc hS2.size _) (fun hHeld => ?_)
                    clear hK KK
                    refine wpAnyH_done (by kernel_rfl) ?_ _
                    obtain ⟨WF, hWF⟩ : ∃ WF, WF = W2.alloc (Obj.cells #[Value.string x.lab, Value.slice ya (flen yk) yc] 24) := ⟨_, rfl⟩
                    have hSF : Below wT.heap.size wT WF := by rw [hWF]; exact hS2.alloc hS2.size _
                    have f0 : WF.cell? ⟨W2.heap.size, 0, none⟩ = some (.string x.lab) := by rw [hWF]; go_simp
                    have f1 : WF.cell? ⟨W2.heap.size, 1, none⟩ = some (.slice ya (flen yk) yc) := by rw [hWF]; go_simp
                    rw [← hWF]
                    have c0 := cellOf hSF x0T
                    have c2 := cellOf hSF x2T
                    have hsz := fun W (hW : Below wT.heap.size wT W) => sizeOf_any (fnodes yk + 1) x.lab ya yc yk 1000 W (Nat.lt_succ_self _) (by omega) (by omega) (HTY.out.below hW)
                    have hxl := nd_left HX.out
                    rw [show min (1 + (fnodes yk : Int)) (1000 + 1) = 1 + (fnodes yk : Int) by omega] at hsz
                    have HSZ := hide hsz
                    have heq : (1 + (fnodes yk : Int) == (n : Int) - x.left + 1) = true := beq_iff_eq.2 (by omega)
                    have hnot : ¬ ((fnodes k : Int) + 1 ≤ (n : Int)) := by omega
                    have hnot2 : (n : Int) < (fnodes k : Int) + 1 := by omega
                    have hw1 : IntKind.i64.wrap ((n : Int) - x.left) = (n : Int) - x.left := by rw [IntKind.wrap_i64]; omega
                    have hw2 : IntKind.i64.wrap ((n : Int) - x.left + 1) = (n : Int) - x.left + 1 := by rw [IntKind.wrap_i64]; omega
                    have heq2 : (1 + ((n : Int) - x.left) == (n : Int) - x.left + 1) = true := beq_iff_eq.2 (by omega)
                    have hBF := hB6T.trans (hSF.mono hB6T.size)
                    clear hsz hWF
                    have hS00 : StS wT W2.heap.size b o n x.lab x.left ya (flen yk) yc WF.drew := ⟨hSF.drew, f0, f1, c0, c2⟩
                    have HS00 := hide hS00
                    clear hS00 f0 f1 c0 c2
                    go_wp2_with fail
                    go_region_held3 (fun w' => Below wT.heap.size wT w' ∧ w'.cell? ⟨W2.heap.size, 0, none⟩ = some (.string x.lab) ∧ w'.cell? ⟨W2.heap.size, 1, none⟩ = some (.slice ya (flen yk) yc) ∧ w'.cell? ⟨b, o + n * 3, none⟩ = some (.string x.lab) ∧ w'.cell? ⟨b, o + n * 3 + 2, none⟩ = some (.int .i64 x.left))
                      (first | exact HS00.out | exact StS.on (by assumption) (by assumption) | assumption)
                      ((go_at_call 22; refine (HSZ.out _ (And.left (by assumption))).mono ?_; rintro e w9 ⟨rfl, hb9⟩))
                    all_goals
                      go_wp2_with fail
                      go_ret
                      exact ⟨rfl, hB6T.trans (Below.mono (And.left (by assumption)) hB6T.size)⟩
                  · go_simp
                    have hSa := hS1.alloc hS1.size (Obj.cells #[Value.string ⟨#[]⟩, Value.slice none 0 0] 24)
                    have hbxa : Below W1.heap.size W1 (W1.alloc (Obj.cells #[Value.string ⟨#[]⟩, Value.slice none 0 0] 24)) := (Below.refl _ _).alloc (Nat.le_refl _) _
                    have hIa := hI1.below hbxa
                    refine hK.out _ _ hSa (fun hHeld => ?_)
                    clear hK KK
                    refine wpAnyH_ready (rs := [4]) (by kernel_rfl) (by simp) ?_
                    refine AllReadyH.cons rfl (fun KK hK => ?_) AllReadyH.nil
                    go_simp
                    refine Calls.mono (HAT.out _ pa pc (by assumption) hIa hpc hpcm) ?_
                    rintro e W2 ⟨rfl, hb2⟩
                    have hS2 := hSa.trans (hb2.mono hSa.size)
                    refine hK.out _ _ hS2 (fun hHeld => ?_)
                    clear hK KK
                    have g0 : W2.cell? ⟨W1.heap.size, 0, none⟩ = some (.string ⟨#[]⟩) := by rw [hb2.cell (by simp)]; go_simp
                    have g1 : W2.cell? ⟨W1.heap.size, 1, none⟩ = some (.slice none 0 0) := by rw [hb2.cell (by simp)]; go_simp
                    have gf : ∀ q, W2.frozen? ⟨W1.heap.size, q, none⟩ = false := fun q => by rw [hb2.frozen (by simp)]; go_simp
                    have gz : W1.heap.size < W2.heap.size := by have := hb2.size; simp at this; omega
                    refine wpAnyH_take (i := 5) (v := .tuple #[.agg #[.string x.lab, .slice ya (flen yk) yc], .bool true]) rfl (by kernel_rfl) (by kernel_rfl) (by kernel_rfl) (fun _ _ _ h => h) (Or.inl ⟨by simp [Region.wanted], by intro W hSw; go_simp⟩) (by assumption) ?_
                    refine wpAnyH_take (i := 6) (v := .agg #[.string x.lab, .slice ya (flen yk) yc]) rfl (by kernel_rfl) (by kernel_rfl) (by kernel_rfl) (fun _ _ _ h => h) (Or.inl ⟨by simp [Region.wanted], by intro W hSw; go_simp⟩) (by assumption) ?_
                    refine wpAnyH_take (i := 7) (v := .bool true) rfl (by kernel_rfl) (by kernel_rfl) (by kernel_rfl) (fun _ _ _ h => h) (Or.inl ⟨by simp [Region.wanted], by intro W hSw; go_simp⟩) (by assumption) ?_
                    simp only [Act.put, List.setIfInBounds_toArray]
                    refine wpAnyH_ready (rs := [9]) (by kernel_rfl) (by simp) ?_
                    refine AllReadyH.cons rfl (fun KK hK => ?_) AllReadyH.nil
                    go_simp
                    refine hK.out _ _ (((hS2).setCell (by have := hS1.size; simp; omega) _).setCell (by have := hS1.size; simp; omega) _) (fun hHeld => ?_)
                    clear hK KK
                    refine wpAnyH_ready (rs := [10]) (by kernel_rfl) (by simp) ?_
                    refine AllReadyH.cons rfl (fun KK hK => ?_) AllReadyH.nil
                    go_simp
                    refine hK.out _ _ (((hS2).setCell (by have := hS1.size; simp; omega) _).setCell (by have := hS1.size; simp; omega) _) (fun hHeld => ?_)
                    clear hK KK
                    refine wpAnyH_done (by kernel_rfl) ?_ _
                    obtain ⟨WF, hWF⟩ : ∃ WF, WF = (W2.setCell ⟨W1.heap.size, 0, none⟩ (Value.string x.lab)).setCell ⟨W1.heap.size, 1, none⟩ (Value.slice ya (flen yk) yc) := ⟨_, rfl⟩
                    have hSF : Below wT.heap.size wT WF := by rw [hWF]; exact (hS2.setCell (by have := hS1.size; simp; omega) _).setCell (by have := hS1.size; simp; omega) _
                    have f0 : WF.cell? ⟨W1.heap.size, 0, none⟩ = some (.string x.lab) := by rw [hWF]; go_simp
                    have f1 : WF.cell? ⟨W1.heap.size, 1, none⟩ = some (.slice ya (flen yk) yc) := by rw [hWF]; go_simp
                    rw [← hWF]
                    have c0 := cellOf hSF x0T
                    have c2 := cellOf hSF x2T
                    have hsz := fun W (hW : Below wT.heap.size wT W) => sizeOf_any (fnodes yk + 1) x.lab ya yc yk 1000 W (Nat.lt_succ_self _) (by omega) (by omega) (HTY.out.below hW)
                    have hxl := nd_left HX.out
                    rw [show min (1 + (fnodes yk : Int)) (1000 + 1) = 1 + (fnodes yk : Int) by omega] at hsz
                    have HSZ := hide hsz
                    have heq : (1 + (fnodes yk : Int) == (n : Int) - x.left + 1) = true := beq_iff_eq.2 (by omega)
                    have hnot : ¬ ((fnodes k : Int) + 1 ≤ (n : Int)) := by omega
                    have hnot2 : (n : Int) < (fnodes k : Int) + 1 := by omega
                    have hw1 : IntKind.i64.wrap ((n : Int) - x.left) = (n : Int) - x.left := by rw [IntKind.wrap_i64]; omega
                    have hw2 : IntKind.i64.wrap ((n : Int) - x.left + 1) = (n : Int) - x.left + 1 := by rw [IntKind.wrap_i64]; omega
                    have heq2 : (1 + ((n : Int) - x.left) == (n : Int) - x.left + 1) = true := beq_iff_eq.2 (by omega)
                    have hBF := hB6T.trans (hSF.mono hB6T.size)
                    clear hsz hWF
                    have hS00 : StS wT W1.heap.size b o n x.lab x.left ya (flen yk) yc WF.drew := ⟨hSF.drew, f0, f1, c0, c2⟩
                    have HS00 := hide hS00
                    clear hS00 f0 f1 c0 c2
                    go_wp2_with fail
                    go_region_held3 (fun w' => Below wT.heap.size wT w' ∧ w'.cell? ⟨W1.heap.size, 0, none⟩ = some (.string x.lab) ∧ w'.cell? ⟨W1.heap.size, 1, none⟩ = some (.slice ya (flen yk) yc) ∧ w'.cell? ⟨b, o + n * 3, none⟩ = some (.string x.lab) ∧ w'.cell? ⟨b, o + n * 3 + 2, none⟩ = some (.int .i64 x.left))
                      (first | exact HS00.out | exact StS.on (by assumption) (by assumption) | assumption)
                      ((go_at_call 22; refine (HSZ.out _ (And.left (by assumption))).mono ?_; rintro e w9 ⟨rfl, hb9⟩))
                    all_goals
                      go_wp2_with fail
                      go_ret
                      exact ⟨rfl, hB6T.trans (Below.mono (And.left (by assumption)) hB6T.size)⟩
                · go_simp
                  have hSa := ((Below.refl wT.heap.size wT).alloc (Nat.le_refl _) (Obj.cells #[Value.string ⟨#[]⟩, Value.slice none 0 0] 24)).drew
                  refine hK.out _ _ hSa (fun hHeld => ?_)
                  clear hK KK
                  refine wpAnyH_ready (rs := [3]) (by kernel_rfl) (by simp) ?_
                  refine AllReadyH.cons rfl (fun KK hK => ?_) AllReadyH.nil
                  go_simp
                  refine Calls.mono (HPG.out _ (by assumption)) ?_
                  rintro e W1 ⟨v1, rfl, hrow1, hb1⟩
                  obtain ⟨pa, pc, rfl, hpc, hpcm⟩ := ownsN_form hrow1
                  have hI1 := PIn_of_owns hrow1
                  have hS1 := hSa.trans (hb1.mono hSa.size)
                  clear hrow1
                  refine hK.out _ _ hS1 (fun hHeld => ?_)
                  clear hK KK
                  have g0' : W1.cell? ⟨wT.heap.size, 0, none⟩ = some (.string ⟨#[]⟩) := by rw [hb1.cell (by simp)]; go_simp
                  have g1' : W1.cell? ⟨wT.heap.size, 1, none⟩ = some (.slice none 0 0) := by rw [hb1.cell (by simp)]; go_simp
                  have gf' : ∀ q, W1.frozen? ⟨wT.heap.size, q, none⟩ = false := fun q => by rw [hb1.frozen (by simp)]; go_simp
                  have gz' : wT.heap.size < W1.heap.size := by have := hb1.size; simp at this; omega
                  refine wpAnyH_ready (rs := [4]) (by kernel_rfl) (by simp) ?_
                  refine AllReadyH.cons rfl (fun KK hK => ?_) AllReadyH.nil
                  go_simp
                  refine Calls.mono (HAT.out W1 pa pc (by assumption) hI1 hpc hpcm) ?_
                  rintro e W2 ⟨rfl, hb2⟩
                  have hS2 := hS1.trans (hb2.mono hS1.size)
                  refine hK.out _ _ hS2 (fun hHeld => ?_)
                  clear hK KK
                  have g0 := cellOf hb2 g0'
                  have g1 := cellOf hb2 g1'
                  have gf : ∀ q, W2.frozen? ⟨wT.heap.size, q, none⟩ = false := fun q => by rw [hb2.frozen gz']; exact gf' q
                  have gz : wT.heap.size < W2.heap.size := by have := hb2.size; omega
                  clear g0' g1' gf' gz'
                  refine wpAnyH_take (i := 5) (v := .tuple #[.agg #[.string x.lab, .slice ya (flen yk) yc], .bool true]) rfl (by kernel_rfl) (by kernel_rfl) (by kernel_rfl) (fun _ _ _ h => h) (Or.inl ⟨by simp [Region.wanted], by intro W hSw; go_simp⟩) (by assumption) ?_
                  refine wpAnyH_take (i := 6) (v := .agg #[.string x.lab, .slice ya (flen yk) yc]) rfl (by kernel_rfl) (by kernel_rfl) (by kernel_rfl) (fun _ _ _ h => h) (Or.inl ⟨by simp [Region.wanted], by intro W hSw; go_simp⟩) (by assumption) ?_
                  refine wpAnyH_take (i := 7) (v := .bool true) rfl (by kernel_rfl) (by kernel_rfl) (by kernel_rfl) (fun _ _ _ h => h) (Or.inl ⟨by simp [Region.wanted], by intro W hSw; go_simp⟩) (by assumption) ?_
                  simp only [Act.put, List.setIfInBounds_toArray]
                  refine wpAnyH_ready (rs := [9]) (by kernel_rfl) (by simp) ?_
                  refine AllReadyH.cons rfl (fun KK hK => ?_) AllReadyH.nil
                  go_simp
                  refine hK.out _ _ (((hS2).setCell (by simp) _).setCell (by simp) _) (fun hHeld => ?_)
                  clear hK KK
                  refine wpAnyH_ready (rs := [10]) (by kernel_rfl) (by simp) ?_
                  refine AllReadyH.cons rfl (fun KK hK => ?_) AllReadyH.nil
                  go_simp
                  refine hK.out _ _ (((hS2).setCell (by simp) _).setCell (by simp) _) (fun hHeld => ?_)
                  clear hK KK
                  refine wpAnyH_done (by kernel_rfl) ?_ _
                  obtain ⟨WF, hWF⟩ : ∃ WF, WF = (W2.setCell ⟨wT.heap.size, 0, none⟩ (Value.string x.lab)).setCell ⟨wT.heap.size, 1, none⟩ (Value.slice ya (flen yk) yc) := ⟨_, rfl⟩
                  have hSF : Below wT.heap.size wT WF := by rw [hWF]; exact (hS2.setCell (by simp) _).setCell (by simp) _
                  have f0 : WF.cell? ⟨wT.heap.size, 0, none⟩ = some (.string x.lab) := by rw [hWF]; go_simp
                  have f1 : WF.cell? ⟨wT.heap.size, 1, none⟩ = some (.slice ya (flen yk) yc) := by rw [hWF]; go_simp
                  rw [← hWF]
                  have c0 := cellOf hSF x0T
                  have c2 := cellOf hSF x2T
                  have hsz := fun W (hW : Below wT.heap.size wT W) => sizeOf_any (fnodes yk + 1) x.lab ya yc yk 1000 W (Nat.lt_succ_self _) (by omega) (by omega) (HTY.out.below hW)
                  have hxl := nd_left HX.out
                  rw [show min (1 + (fnodes yk : Int)) (1000 + 1) = 1 + (fnodes yk : Int) by omega] at hsz
                  have HSZ := hide hsz
                  have heq : (1 + (fnodes yk : Int) == (n : Int) - x.left + 1) = true := beq_iff_eq.2 (by omega)
                  have hnot : ¬ ((fnodes k : Int) + 1 ≤ (n : Int)) := by omega
                  have hnot2 : (n : Int) < (fnodes k : Int) + 1 := by omega
                  have hw1 : IntKind.i64.wrap ((n : Int) - x.left) = (n : Int) - x.left := by rw [IntKind.wrap_i64]; omega
                  have hw2 : IntKind.i64.wrap ((n : Int) - x.left + 1) = (n : Int) - x.left + 1 := by rw [IntKind.wrap_i64]; omega
                  have heq2 : (1 + ((n : Int) - x.left) == (n : Int) - x.left + 1) = true := beq_iff_eq.2 (by omega)
                  have hBF := hB6T.trans (hSF.mono hB6T.size)
                  clear hsz hWF
                  have hS00 : StS wT wT.heap.size b o n x.lab x.left ya (flen yk) yc WF.drew := ⟨hSF.drew, f0, f1, c0, c2⟩
                  have HS00 := hide hS00
                  clear hS00 f0 f1 c0 c2
                  go_wp2_with fail
                  go_region_held3 (fun w' => Below wT.heap.size wT w' ∧ w'.cell? ⟨wT.heap.size, 0, none⟩ = some (.string x.lab) ∧ w'.cell? ⟨wT.heap.size, 1, none⟩ = some (.slice ya (flen yk) yc) ∧ w'.cell? ⟨b, o + n * 3, none⟩ = some (.string x.lab) ∧ w'.cell? ⟨b, o + n * 3 + 2, none⟩ = some (.int .i64 x.left))
                    (first | exact HS00.out | exact StS.on (by assumption) (by assumption) | assumption)
                    ((go_at_call 22; refine (HSZ.out _ (And.left (by assumption))).mono ?_; rintro e w9 ⟨rfl, hb9⟩))
                  all_goals
                    go_wp2_with fail
                    go_ret
                    exact ⟨rfl, hB6T.trans (Below.mono (And.left (by assumption)) hB6T.size)⟩
end Go.Proofs.Ytafojlockiekfaa
