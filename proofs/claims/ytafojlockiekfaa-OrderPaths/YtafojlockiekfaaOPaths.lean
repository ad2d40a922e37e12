/- pleachinglaw.OrderPaths answers true. Of the program's text. -/
import Derived.Test.YtafojlockiekfaaProg
import Derived.Test.YtafojlockiekfaaGPath
import Derived.Test.YtafojlockiekfaaRCheckD
import Derived.Test.YtafojlockiekfaaPathP
import Derived.Test.YtafojlockiekfaaAlike
namespace Go.Proofs.Ytafojlockiekfaa
open Go.Deep Go.RowKit
set_option linter.unusedVariables false
set_option maxRecDepth 20000

theorem Rel.at : ∀ (k : Nat) {p q : List Nat} {a b : Nat}, Rel p q → p.take k = q.take k → p[k]? = some a → q[k]? = some b → a ≠ b → a < b
  | 0, x :: p, y :: q, a, b, h, _, h1, h2, hne => by
    simp at h1 h2
    subst h1 h2
    rcases h with h | ⟨h, _⟩
    · exact h
    · exact absurd h hne
  | k + 1, x :: p, y :: q, a, b, h, ht, h1, h2, hne => by
    simp only [List.take_succ_cons, List.cons.injEq] at ht
    rcases h with h | ⟨_, h⟩
    · omega
    · exact Rel.at k h ht.2 (by simpa using h1) (by simpa using h2) hne
  | _, [], _, _, _, _, _, h1, _, _ => by simp at h1
  | _, _ :: _, [], _, _, _, _, _, h2, _ => by simp at h2
theorem Rel.end : ∀ (k : Nat) {p q : List Nat}, Rel p q → p.take k = q.take k → k ≤ p.length → k ≤ q.length → (p.length ≤ k ∨ q.length ≤ k) → q.length < p.length
  | 0, [], [], h, _, _, _, _ => absurd rfl h
  | 0, [], _ :: _, h, _, _, _, _ => h.elim
  | 0, _ :: _, [], _, _, _, _, _ => by simp
  | 0, _ :: _, _ :: _, _, _, _, _, he => by simp at he
  | k + 1, x :: p, y :: q, h, ht, h1, h2, he => by
    simp only [List.take_succ_cons, List.cons.injEq] at ht
    rcases h with h | ⟨_, h⟩
    · omega
    · have := Rel.end k h ht.2 (by simpa using h1) (by simpa using h2) (by simpa using he)
      simpa using this
  | k + 1, [], _, _, _, h1, _, _ => by simp at h1
  | k + 1, _ :: _, [], _, _, _, h2, _ => by simp at h2

set_option maxHeartbeats 4000000 in
theorem opaths_any (s : ByteArray) (ka : Option Addr) (cap : Nat) (k : Fo) (n m : Int) (w : World) (ht : TIn w s ka cap k) (hco : FCold w k) :
    Calls Try.prog 11 #[.agg #[.string s, .slice ka (flen k) cap], .int .i64 n, .int .i64 m] w fun e w' => e = .returned (.bool true) ∧ Below w.heap.size w w' := by
  have hbx : Below w.heap.size w (w.alloc (Obj.cells #[Value.string s, Value.slice ka (flen k) cap] 24)) := (Below.refl _ _).alloc (Nat.le_refl _) _
  go_enter Try.func11, Try.ntmps11
  go_wp2_with fail
  refine (obegun_any _).mono ?_
  rintro e w1 ⟨rfl, hb1⟩
  have hB1 := hbx.trans (hb1.mono (by simp))
  have e0 : w1.cell? ⟨w.heap.size, 0, none⟩ = some (.string s) := by rw [hb1.cell (by simp)]; go_simp
  have e1 : w1.cell? ⟨w.heap.size, 1, none⟩ = some (.slice ka (flen k) cap) := by rw [hb1.cell (by simp)]; go_simp
  have HP := hide (of_wild s ka cap k w1 (ht.below hB1) (hco.below hB1))
  clear hb1 hbx
  go_wp2_with fail
  refine Calls.mono HP.out ?_
  rintro e w2 ⟨hpe, hb2⟩
  have hB2 := hB1.trans (hb2.mono hB1.size)
  have d0 := cellOf hb2 e0
  have d1 := cellOf hb2 e1
  have HG := hide (great_any s ka cap k w2 (ht.below hB2))
  clear HP hb2 e0 e1 hB1
  cases hg : greatT s k with
  | true =>
    rw [hg] at HG
    obtain ⟨v, c, rfl⟩ : ∃ v c, e = .returned (.tuple #[v, .int .i64 c]) := by
      rcases hpe with ⟨c, _, _, rfl⟩ | ⟨_, v, rfl, _⟩
      · exact ⟨_, _, rfl⟩
      · exact ⟨_, _, rfl⟩
    clear hpe
    go_wp2_with fail
    refine Calls.mono HG.out ?_
    rintro e w3 ⟨rfl, hb3⟩
    go_wp2_with fail
    go_ret
    exact ⟨rfl, hB2.trans (hb3.mono hB2.size)⟩
  | false =>
    rw [hg] at HG
    rcases hpe with ⟨c, hc, hc0, rfl⟩ | ⟨hc, v, rfl, hrow⟩
    · have hcb : (c == 0) = false := beq_eq_false_iff_ne.2 hc0
      clear hc
      go_wp2_with fail
      refine Calls.mono HG.out ?_
      rintro e w3 ⟨rfl, hb3⟩
      go_wp2_with fail
      go_ret
      exact ⟨rfl, hB2.trans (hb3.mono hB2.size)⟩
    · have hf0 := MayTell.good hc
      obtain ⟨hn40, _, hbad⟩ := fault_zero hf0
      obtain ⟨va, vc, rfl, hvl, hvm⟩ := ownsN_form hrow
      have hN := NIn_of_owns hrow (ndT_labs hbad)
      have hok : TOk (ndT 0 s k (-1)) s (strip k) := ⟨growP_ndT s k, by rw [faultT_strip]; exact hf0, ndT_strip _ _ _ _⟩
      have HOK := hide hok
      have hvm' := hvm
      unfold maxLen at hvm
      clear hrow hf0 hbad hc hok
      go_wp2_with fail
      refine Calls.mono HG.out ?_
      rintro e w3 ⟨rfl, hb3⟩
      have hB3 := hB2.trans (hb3.mono hB2.size)
      have hN3 := hN.below hb3
      clear HG hb3 hB2 hN d0 d1 hg
      by_cases h1 : n < 0
      · have hd1 : decide (n < 0) = true := decide_eq_true h1
        go_wp2_with fail
        go_ret
        exact ⟨rfl, hB3⟩
      have hd1 : decide (n < 0) = false := decide_eq_false h1
      obtain ⟨n, rfl⟩ : ∃ n' : Nat, n = (n' : Int) := ⟨n.toNat, by omega⟩
      by_cases h2 : fnodes k + 1 ≤ n
      · go_wp2_with fail
        go_ret
        exact ⟨rfl, hB3⟩
      by_cases h3 : m < 0
      · have hd3 : decide (m < 0) = true := decide_eq_true h3
        go_wp2_with fail
        go_ret
        exact ⟨rfl, hB3⟩
      have hd3 : decide (m < 0) = false := decide_eq_false h3
      obtain ⟨m, rfl⟩ : ∃ m' : Nat, m = (m' : Int) := ⟨m.toNat, by omega⟩
      by_cases h4 : fnodes k + 1 ≤ m
      · go_wp2_with fail
        go_ret
        exact ⟨rfl, hB3⟩
      have hdn : decide ((fnodes k : Int) + 1 ≤ (n : Int)) = false := decide_eq_false (by omega)
      have hdm : decide ((fnodes k : Int) + 1 ≤ (m : Int)) = false := decide_eq_false (by omega)
      have hln : (ndT 0 s k (-1)).length = fnodes k + 1 := ndT_length _ _ _ _
      have hpn := path_good va vc (ndT 0 s k (-1)) s (strip k) n w3 hN3 HOK.out (by omega) (by omega) hvm'
      have hpm := fun W (hW : Below w3.heap.size w3 W) => path_good va vc (ndT 0 s k (-1)) s (strip k) m W (hN3.below hW) HOK.out (by omega) (by omega) hvm'
      have hpu := fun W (hW : Below w3.heap.size w3 W) (u : Nat) (hu : u < fnodes k + 1) => path_good va vc (ndT 0 s k (-1)) s (strip k) u W (hN3.below hW) HOK.out (by omega) (by omega) hvm'
      rw [hln] at hpn hpm hpu
      obtain ⟨P, hPd⟩ : ∃ P, P = pathP (ndT 0 s k (-1)) n := ⟨_, rfl⟩
      obtain ⟨Q, hQd⟩ : ∃ Q, Q = pathP (ndT 0 s k (-1)) m := ⟨_, rfl⟩
      have hPl : P.length ≤ 41 := by rw [hPd]; unfold pathP; rw [List.length_reverse]; have := pathUp_len (ndT 0 s k (-1)) (ndT 0 s k (-1)).length n; omega
      have hQl : Q.length ≤ 41 := by rw [hQd]; unfold pathP; rw [List.length_reverse]; have := pathUp_len (ndT 0 s k (-1)) (ndT 0 s k (-1)).length m; omega
      rw [← hPd] at hpn
      rw [← hQd] at hpm
      have HPN := hide hpn
      have HPM := hide hpm
      have HPU := hide hpu
      have HPD := hide hPd
      have HQD := hide hQd
      have HLN := hide hln
      clear hpn hpm hpu hPd hQd hln
      go_wp2_with fail
      refine Calls.mono HPN.out ?_
      rintro e w4 ⟨v4, rfl, hrow4, hb4⟩
      obtain ⟨pa, pc, rfl, hpc, hpcm⟩ := ownsN_form hrow4
      have hIp4 := PIn_of_owns hrow4
      unfold maxLen at hpcm
      clear HPN hrow4
      go_wp2_with fail
      refine Calls.mono (HPM.out _ hb4) ?_
      rintro e w5 ⟨v5, rfl, hrow5, hb5⟩
      obtain ⟨qa, qc, rfl, hqc, hqcm⟩ := ownsN_form hrow5
      have hIq := PIn_of_owns hrow5
      have hIp := hIp4.below hb5
      unfold maxLen at hqcm
      have hb35 := hb4.trans (hb5.mono hb4.size)
      have hB5 := hB3.trans (hb35.mono hB3.size)
      have hsi := sameI_any pa qa pc qc (ints P) (ints Q) w5 hIp hIq (by rw [ints_length]; omega) (by rw [ints_length]; unfold maxLen; omega)
      rw [ints_length, ints_length] at hsi
      obtain ⟨B, hBd⟩ : ∃ B, B = decide (n = m) := ⟨_, rfl⟩
      have hBs : decide (ints P = ints Q) = B := by
        rw [hBd, decide_eq_decide]
        constructor
        · intro h
          have := ints_inj h
          rw [HPD.out, HQD.out] at this
          exact path_inj s k (by omega) (by omega) this
        · intro h
          rw [HPD.out, HQD.out, h]
      have hBn : ((n : Int) == (m : Int)) = B := by rw [hBd, Bool.eq_iff_iff, beq_iff_eq, decide_eq_true_eq]; omega
      rw [hBs] at hsi
      have HSI := hide hsi
      clear HPM hrow5 hIp4 hb4 hb5 hsi hBs hBd hB3
      go_wp2_with fail
      refine Calls.mono HSI.out ?_
      rintro e w6 ⟨rfl, hb6⟩
      have hB6 := hB5.trans (hb6.mono hB5.size)
      have hb36 := hb35.trans (hb6.mono hb35.size)
      have hIp6 := hIp.below hb6
      have hIq6 := hIq.below hb6
      clear HSI hIp hIq hb6 hb35 hB5
      obtain ⟨x, hx⟩ : ∃ x, (ndT 0 s k (-1))[n]? = some x := ⟨_, List.getElem?_eq_getElem (by have := HLN.out; omega)⟩
      rcases hN3.below hb36 with hN6 | ⟨b, o, rfl, hN6⟩
      · have := HLN.out; rw [hN6] at this; simp at this
      obtain ⟨_, x1, _, _⟩ := hN6 n x hx
      have hux := ndT_up s k n x hx
      rw [HLN.out] at hux
      by_cases hneg : x.par < 0
      · have hdu : decide (0 ≤ x.par) = false := decide_eq_false (by omega)
        clear hux hneg
        go_wp2_with fail
        go_quiet (fail)
        have hb6q : Below w6.heap.size w6 (w6.drewN nq) := below_drewN (Below.refl _ _) _
        have hB6q := hB6.trans (hb6q.mono hB6.size)
        have hIpT := hIp6.below hb6q
        have hIqT := hIq6.below hb6q
        generalize w6.drewN nq = wT at *
        by_cases hge : m ≤ n
        · have hdg : decide ((m : Int) ≤ (n : Int)) = true := decide_eq_true (by omega)
          go_wp2_with fail
          go_ret
          exact ⟨rfl, hB6q⟩
        have hdg : decide ((m : Int) ≤ (n : Int)) = false := decide_eq_false (by omega)
        have hdg2 : decide (m ≤ n) = false := decide_eq_false hge
        have HREL := hide (show Rel P Q by rw [HPD.out, HQD.out]; exact path_rel s k (by omega) (by omega))
        clear hge
        go_wp2_with fail
        go_loopg [12] P.length (fun gk v12 wr => ∃ i : Nat, gk = P.length - i ∧ i ≤ P.length ∧ i ≤ Q.length ∧ v12 = .int .i64 (i : Nat) ∧ Hid (P.take i = Q.take i) ∧ Below wT.heap.size wT wr)
        case atStart => exact ⟨0, rfl, Nat.zero_le _, Nat.zero_le _, rfl, rfl, Below.refl _ _⟩
        case round =>
          obtain ⟨i, hgk, hiP, hiQ, rfl, htk, hbr⟩ := hrel
          have hBr := hB6q.trans (hbr.mono hB6q.size)
          by_cases hp : i < P.length
          · by_cases hq : i < Q.length
            · obtain ⟨a, ha⟩ : ∃ a, P[i]? = some a := ⟨_, List.getElem?_eq_getElem hp⟩
              obtain ⟨b9, hb9⟩ : ∃ b, Q[i]? = some b := ⟨_, List.getElem?_eq_getElem hq⟩
              rcases hIpT with h | ⟨pb9, po9, he, hcp⟩
              · have := ints_length P; rw [h] at this; simp at this; omega
              rcases hIqT with h | ⟨qb9, qo9, he2, hcq⟩
              · have := ints_length Q; rw [h] at this; simp at this; omega
              cases he
              cases he2
              have ca := hcp i (a : Int) (by simp [ints, ha])
              have cb := hcq i (b9 : Int) (by simp [ints, hb9])
              have ca' := cellOf hbr ca
              have cb' := cellOf hbr cb
              have HA := hide ha
              have HB9 := hide hb9
              clear hcp hcq ca cb ha hb9
              by_cases hab : a = b9
              · have habb : ((a : Int) == (b9 : Int)) = true := beq_iff_eq.2 (by omega)
                have HT := hide (show P.take (i + 1) = Q.take (i + 1) by
                  have h4 := HA.out
                  have h5 := HB9.out
                  rw [List.getElem?_eq_getElem hp] at h4
                  rw [List.getElem?_eq_getElem hq] at h5
                  rw [List.take_succ_eq_append_getElem hp, List.take_succ_eq_append_getElem hq, htk.out]
                  have e1 : P[i] = a := by simpa using h4
                  have e2 : Q[i] = b9 := by simpa using h5
                  rw [e1, e2, hab])
                clear hab
                go_wp2_with fail
                go_quiet (fail)
                go_wp2_with fail
                go_roundg (P.length - (i + 1))
                case measure => omega
                case rel => exact ⟨i + 1, rfl, by omega, by omega, by go_num, HT.out, below_drewN hbr _⟩
              · have habb : ((a : Int) == (b9 : Int)) = false := beq_eq_false_iff_ne.2 (by omega)
                have hlt9 := Rel.at i HREL.out htk.out HA.out HB9.out hab
                have hdl : decide ((a : Int) < (b9 : Int)) = true := decide_eq_true (by omega)
                clear hab
                go_wp2_with fail
                go_quiet (fail)
                go_wp2_with fail
                go_quiet (fail)
                go_wp2_with fail
                go_ret
                exact ⟨rfl, below_drewN (below_drewN hBr _) _⟩
            · have hend := Rel.end i HREL.out htk.out hiP hiQ (Or.inr (by omega))
              have hde : decide ((Q.length : Int) < (P.length : Int)) = true := decide_eq_true (by omega)
              go_wp2_with fail
              go_ret
              exact ⟨rfl, hBr⟩
          · have hend := Rel.end i HREL.out htk.out hiP hiQ (Or.inl (by omega))
            have hde : decide ((Q.length : Int) < (P.length : Int)) = true := decide_eq_true (by omega)
            go_wp2_with fail
            go_ret
            exact ⟨rfl, hBr⟩
      · obtain ⟨u, hu⟩ : ∃ u : Nat, x.par = (u : Int) := ⟨x.par.toNat, by omega⟩
        rw [hu] at x1
        have hdu : decide (0 ≤ (u : Int)) = true := decide_eq_true (by omega)
        have hul : u < fnodes k + 1 := by omega
        obtain ⟨c9, hc9⟩ := path_up hx hu
        rw [← HPD.out] at hc9
        obtain ⟨U, hUd⟩ : ∃ U, U = pathP (ndT 0 s k (-1)) u := ⟨_, rfl⟩
        rw [← hUd] at hc9
        have hpp := HPU.out w6.drew hb36.drew u hul
        rw [← hUd] at hpp
        have HPP := hide hpp
        have HC9 := hide hc9
        have hPlen : P.length = U.length + 1 := by rw [hc9]; simp
        clear hpp hc9 hUd hux hneg
        have hul41 : U.length ≤ 41 := by omega
        obtain ⟨pb, po, rfl⟩ : ∃ pb po, pa = some ⟨pb, po, none⟩ := by
          rcases hIp6 with h | ⟨pb, po, h, _⟩
          · have := ints_length P; rw [h] at this; simp at this; omega
          · exact ⟨pb, po, h⟩
        rw [hPlen]
        rw [hPlen] at hpc
        have hsl : ∀ wx, (Instr.slice 25 (.slice (some ⟨pb, po, none⟩) (U.length + 1) pc) none (some (.int .i64 (U.length : Int))) none).run Try.prog wx = .ok (.slice (some ⟨pb, po, none⟩) U.length pc) wx := fun wx => by
          rw [run_slice_h wx 25 _ _ _ Try.underlying25 .i64 _ (by omega) (by omega)]
          simp [go_sem, sliced, Addr.add]
        have HPL := hide hPlen
        clear hPlen
        go_wp2_with fail
        refine wp_region_any (by kernel_rfl) ?_
        change wpAny _ _ _ _ _ _ _ (World.drew _)
        refine wpAny_take (i := 0) (v := .int .i64 (u : Int)) rfl (by kernel_rfl) (by kernel_rfl) (by kernel_rfl) (fun _ _ _ h => h) (Or.inl ⟨by simp [Region.wanted], by intro W; go_simp⟩) ?_
        refine wpAny_take (i := 1) (v := .bool true) rfl (by kernel_rfl) (by kernel_rfl) (by kernel_rfl) (fun _ _ _ h => h) (Or.inl ⟨by simp [Region.wanted], by intro W; go_simp⟩) ?_
        refine wpAny_take (i := 2) (v := .bool true) rfl (by kernel_rfl) (by kernel_rfl) (by kernel_rfl) (fun _ _ _ h => h) (Or.inl ⟨by simp [Region.wanted], by intro W; go_simp⟩) ?_
        refine wpAny_take (i := 3) (v := .slice (some ⟨pb, po, none⟩) (U.length + 1) pc) rfl (by kernel_rfl) (by kernel_rfl) (by kernel_rfl) (fun _ _ _ h => h) (Or.inl ⟨by simp [Region.wanted, yielded, Act.put], by intro W; go_simp⟩) ?_
        refine wpAny_take (i := 4) (v := .int .i64 ((U.length : Int) + 1)) rfl (by kernel_rfl) (by kernel_rfl) (by kernel_rfl) (fun _ _ _ h => h) (Or.inl ⟨by simp [Region.wanted, yielded, Act.put], by intro W; go_simp⟩) ?_
        refine wpAny_take (i := 5) (v := .bool false) rfl (by kernel_rfl) (by kernel_rfl) (by kernel_rfl) (fun _ _ _ h => h) (Or.inl ⟨by simp [Region.wanted, yielded, Act.put], by intro W; go_simp; try omega⟩) ?_
        refine wpAny_take (i := 6) (v := .bool false) rfl (by kernel_rfl) (by kernel_rfl) (by kernel_rfl) (fun _ _ _ h => h) (Or.inl ⟨by simp [Region.wanted, yielded, Act.put], by intro W; go_simp⟩) ?_
        refine wpAny_take (i := 7) (v := .slice (some ⟨b, o, none⟩) (fnodes k + 1) vc) rfl (by kernel_rfl) (by kernel_rfl) (by kernel_rfl) (fun _ _ _ h => h) (Or.inl ⟨by simp [Region.wanted, yielded, Act.put], by intro W; go_simp⟩) ?_
        refine wpAny_take (i := 8) (v := .int .i64 (u : Int)) rfl (by kernel_rfl) (by kernel_rfl) (by kernel_rfl) (fun _ _ _ h => h) (Or.inl ⟨by simp [Region.wanted, yielded, Act.put], by intro W; go_simp⟩) ?_
        refine wpAny_take (i := 10) (v := .slice (some ⟨pb, po, none⟩) (U.length + 1) pc) rfl (by kernel_rfl) (by kernel_rfl) (by kernel_rfl) (fun _ _ _ h => h) (Or.inl ⟨by simp [Region.wanted, yielded, Act.put], by intro W; go_simp⟩) ?_
        refine wpAny_take (i := 11) (v := .slice (some ⟨pb, po, none⟩) (U.length + 1) pc) rfl (by kernel_rfl) (by kernel_rfl) (by kernel_rfl) (fun _ _ _ h => h) (Or.inl ⟨by simp [Region.wanted, yielded, Act.put], by intro W; go_simp⟩) ?_
        refine wpAny_take (i := 12) (v := .int .i64 ((U.length : Int) + 1)) rfl (by kernel_rfl) (by kernel_rfl) (by kernel_rfl) (fun _ _ _ h => h) (Or.inl ⟨by simp [Region.wanted, yielded, Act.put], by intro W; go_simp⟩) ?_
        refine wpAny_take (i := 13) (v := .int .i64 (U.length : Int)) rfl (by kernel_rfl) (by kernel_rfl) (by kernel_rfl) (fun _ _ _ h => h) (Or.inl ⟨by simp [Region.wanted, yielded, Act.put], by intro W; go_simp; rw [IntKind.wrap_i64]; omega⟩) ?_
        refine wpAny_take (i := 14) (v := .slice (some ⟨pb, po, none⟩) U.length pc) rfl (by kernel_rfl) (by kernel_rfl) (by kernel_rfl) (fun _ _ _ h => h) (Or.inl ⟨by simp [Region.wanted, yielded, Act.put], by intro W; go_simp⟩) ?_
        simp only [Act.put, List.setIfInBounds_toArray]
        refine wpAny_ready (rs := [9]) (by kernel_rfl) (by simp) ?_
        refine AllReady.cons rfl (fun K hK => ?_) AllReady.nil
        go_simp
        refine Calls.mono HPP.out ?_
        rintro e w7 ⟨v7, rfl, hrow7, hb7⟩
        obtain ⟨ua, uc, rfl, _, _⟩ := ownsN_form hrow7
        have hIu := PIn_of_owns hrow7
        have hb67 : Below w6.heap.size w6 w7 := ((Below.refl _ _).drew).trans hb7
        have hIpU : PIn w7 (some ⟨pb, po, none⟩) (ints U) := by
          rcases hIp6.below hb67 with h | ⟨pb', po', he, h⟩
          · exact Or.inl (by
              rw [HC9.out] at h
              simp [ints] at h)
          · refine Or.inr ⟨pb', po', he, fun i q hq => h i q ?_⟩
            rw [HC9.out]
            have hi := (List.getElem?_eq_some_iff.1 hq).1
            simp only [ints, List.map_append] at hq hi ⊢
            rw [List.getElem?_append_left hi]
            exact hq
        have hsi2 := sameI_any ua (some ⟨pb, po, none⟩) uc pc (ints U) (ints U) w7 hIu hIpU (by rw [ints_length]; omega) (by rw [ints_length]; unfold maxLen; omega)
        rw [ints_length, decide_eq_true rfl] at hsi2
        have HSI2 := hide hsi2
        clear hsi2 hIu hIpU hrow7 hb7
        refine hK _ _ ?_
        clear hK K
        refine wpAny_ready (rs := [15]) (by kernel_rfl) (by simp) ?_
        refine AllReady.cons rfl (fun K hK => ?_) AllReady.nil
        go_simp
        refine Calls.mono HSI2.out ?_
        rintro e wT ⟨rfl, hb8⟩
        refine hK _ _ ?_
        clear hK K
        refine wpAny_ready (rs := [16]) (by kernel_rfl) (by simp) ?_
        refine AllReady.cons rfl (fun K hK => ?_) AllReady.nil
        go_simp
        refine hK _ _ ?_
        clear hK K
        refine wpAny_ready (rs := [17]) (by kernel_rfl) (by simp) ?_
        refine AllReady.cons rfl (fun K hK => ?_) AllReady.nil
        go_simp
        refine hK _ _ ?_
        clear hK K
        refine wpAny_ready (rs := [18]) (by kernel_rfl) (by simp) ?_
        refine AllReady.cons rfl (fun K hK => ?_) AllReady.nil
        go_simp
        refine hK _ _ ?_
        clear hK K
        refine wpAny_done (by kernel_rfl) ?_ _
        have hb6q := hb67.trans (hb8.mono hb67.size)
        have hB6q := hB6.trans (hb6q.mono hB6.size)
        have hIpT := hIp6.below hb6q
        have hIqT := hIq6.below hb6q
        rw [← HPL.out]
        by_cases hge : m ≤ n
        · have hdg : decide ((m : Int) ≤ (n : Int)) = true := decide_eq_true (by omega)
          go_wp2_with fail
          go_ret
          exact ⟨rfl, hB6q⟩
        have hdg : decide ((m : Int) ≤ (n : Int)) = false := decide_eq_false (by omega)
        have hdg2 : decide (m ≤ n) = false := decide_eq_false hge
        have HREL := hide (show Rel P Q by rw [HPD.out, HQD.out]; exact path_rel s k (by omega) (by omega))
        clear hge
        go_wp2_with fail
        go_loopg [12] P.length (fun gk v12 wr => ∃ i : Nat, gk = P.length - i ∧ i ≤ P.length ∧ i ≤ Q.length ∧ v12 = .int .i64 (i : Nat) ∧ Hid (P.take i = Q.take i) ∧ Below wT.heap.size wT wr)
        case atStart => exact ⟨0, rfl, Nat.zero_le _, Nat.zero_le _, rfl, rfl, Below.refl _ _⟩
        case round =>
          obtain ⟨i, hgk, hiP, hiQ, rfl, htk, hbr⟩ := hrel
          have hBr := hB6q.trans (hbr.mono hB6q.size)
          by_cases hp : i < P.length
          · by_cases hq : i < Q.length
            · obtain ⟨a, ha⟩ : ∃ a, P[i]? = some a := ⟨_, List.getElem?_eq_getElem hp⟩
              obtain ⟨b9, hb9⟩ : ∃ b, Q[i]? = some b := ⟨_, List.getElem?_eq_getElem hq⟩
              rcases hIpT with h | ⟨pb9, po9, he, hcp⟩
              · have := ints_length P; rw [h] at this; simp at this; omega
              rcases hIqT with h | ⟨qb9, qo9, he2, hcq⟩
              · have := ints_length Q; rw [h] at this; simp at this; omega
              cases he
              cases he2
              have ca := hcp i (a : Int) (by simp [ints, ha])
              have cb := hcq i (b9 : Int) (by simp [ints, hb9])
              have ca' := cellOf hbr ca
              have cb' := cellOf hbr cb
              have HA := hide ha
              have HB9 := hide hb9
              clear hcp hcq ca cb ha hb9
              by_cases hab : a = b9
              · have habb : ((a : Int) == (b9 : Int)) = true := beq_iff_eq.2 (by omega)
                have HT := hide (show P.take (i + 1) = Q.take (i + 1) by
                  have h4 := HA.out
                  have h5 := HB9.out
                  rw [List.getElem?_eq_getElem hp] at h4
                  rw [List.getElem?_eq_getElem hq] at h5
                  rw [List.take_succ_eq_append_getElem hp, List.take_succ_eq_append_getElem hq, htk.out]
                  have e1 : P[i] = a := by simpa using h4
                  have e2 : Q[i] = b9 := by simpa using h5
                  rw [e1, e2, hab])
                clear hab
                go_wp2_with fail
                go_quiet (fail)
                go_wp2_with fail
                go_roundg (P.length - (i + 1))
                case measure => omega
                case rel => exact ⟨i + 1, rfl, by omega, by omega, by go_num, HT.out, below_drewN hbr _⟩
              · have habb : ((a : Int) == (b9 : Int)) = false := beq_eq_false_iff_ne.2 (by omega)
                have hlt9 := Rel.at i HREL.out htk.out HA.out HB9.out hab
                have hdl : decide ((a : Int) < (b9 : Int)) = true := decide_eq_true (by omega)
                clear hab
                go_wp2_with fail
                go_quiet (fail)
                go_wp2_with fail
                go_quiet (fail)
                go_wp2_with fail
                go_ret
                exact ⟨rfl, below_drewN (below_drewN hBr _) _⟩
            · have hend := Rel.end i HREL.out htk.out hiP hiQ (Or.inr (by omega))
              have hde : decide ((Q.length : Int) < (P.length : Int)) = true := decide_eq_true (by omega)
              go_wp2_with fail
              go_ret
              exact ⟨rfl, hBr⟩
          · have hend := Rel.end i HREL.out htk.out hiP hiQ (Or.inl (by omega))
            have hde : decide ((Q.length : Int) < (P.length : Int)) = true := decide_eq_true (by omega)
            go_wp2_with fail
            go_ret
            exact ⟨rfl, hBr⟩
end Go.Proofs.Ytafojlockiekfaa
