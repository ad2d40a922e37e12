/- pleachinglaw.TreeDoes answers true, of whatever two trees, path and string that lie in memory; what was there stays. Of the program's text. -/
import Derived.Test.YtafojlockiekfaaProg
import Derived.Test.YtafojlockiekfaaAlike
import Derived.Test.YtafojlockiekfaaOwn
import Derived.Test.YtafojlockiekfaaOwnRef
import Derived.Test.YtafojlockiekfaaSame
import Derived.Test.YtafojlockiekfaaSameRef
import Derived.Test.YtafojlockiekfaaFault
import Derived.Test.YtafojlockiekfaaLabel
import Derived.Test.YtafojlockiekfaaSize
import Derived.Deep.RegionHeld3
namespace Go.Proofs.Ytafojlockiekfaa
open Go.Deep Go.RowKit
set_option linter.unusedVariables false
set_option maxRecDepth 20000

/-- What stays of the world while the last row of TreeDoes runs. -/
def DoesS (n4 n5 n9 n10 n12 : Nat) (s : ByteArray) (ka : Option Addr) (l cap : Nat) (s2 : ByteArray) (kb : Option Addr) (l2 capb : Nat) (kaO : Option Addr) (lO capO : Nat)
    (sx : ByteArray) (kax : Option Addr) (lx capx : Nat) (sy : ByteArray) (kay : Option Addr) (ly capy : Nat) (W w' : World) : Prop :=
  Below W.heap.size W w' ∧ w'.cell? ⟨n4, 0, none⟩ = some (.string s) ∧ w'.cell? ⟨n4, 1, none⟩ = some (.slice ka l cap) ∧ w'.cell? ⟨n5, 0, none⟩ = some (.string s2) ∧ w'.cell? ⟨n5, 1, none⟩ = some (.slice kb l2 capb) ∧
  w'.cell? ⟨n9, 0, none⟩ = some (.string s) ∧ w'.cell? ⟨n9, 1, none⟩ = some (.slice kaO lO capO) ∧ w'.cell? ⟨n10, 0, none⟩ = some (.string sx) ∧ w'.cell? ⟨n10, 1, none⟩ = some (.slice kax lx capx) ∧
  w'.cell? ⟨n12, 0, none⟩ = some (.string sy) ∧ w'.cell? ⟨n12, 1, none⟩ = some (.slice kay ly capy)

theorem DoesS.on {n4 n5 n9 n10 n12 : Nat} {s : ByteArray} {ka : Option Addr} {l cap : Nat} {s2 : ByteArray} {kb : Option Addr} {l2 capb : Nat} {kaO : Option Addr} {lO capO : Nat}
    {sx : ByteArray} {kax : Option Addr} {lx capx : Nat} {sy : ByteArray} {kay : Option Addr} {ly capy : Nat} {W w1 w2 : World}
    (h : DoesS n4 n5 n9 n10 n12 s ka l cap s2 kb l2 capb kaO lO capO sx kax lx capx sy kay ly capy W w1) (hb : Below w1.heap.size w1 w2) : DoesS n4 n5 n9 n10 n12 s ka l cap s2 kb l2 capb kaO lO capO sx kax lx capx sy kay ly capy W w2 := by
  obtain ⟨h0, h1, h2, h3, h4, h5, h6, h7, h8, h9, h10⟩ := h
  exact ⟨h0.trans (hb.mono h0.size), cellOf hb h1, cellOf hb h2, cellOf hb h3, cellOf hb h4, cellOf hb h5, cellOf hb h6, cellOf hb h7, cellOf hb h8, cellOf hb h9, cellOf hb h10⟩

set_option maxHeartbeats 20000000 in
set_option maxRecDepth 100000 in
theorem does_any (s : ByteArray) (ka : Option Addr) (cap : Nat) (k : Fo) (s2 : ByteArray) (kb : Option Addr) (capb : Nat) (k2 : Fo) (pa : Option Addr) (ps : List Int) (pcap : Nat) (str : ByteArray) (w : World)
    (ht : TIn w s ka cap k) (hu : TIn w s2 kb capb k2) (hps : PIn w pa ps) (hl : ps.length ≤ pcap) (hc : pcap ≤ maxLen) (hstr : str.size ≤ maxLen) :
    Calls Try.prog 3 #[.agg #[.string s, .slice ka (flen k) cap], .agg #[.string s2, .slice kb (flen k2) capb], .slice pa ps.length pcap, .string str] w fun e w' => e = .returned (.bool true) ∧ Below w.heap.size w w' := by
  have hB0 : Below w.heap.size w ((w.alloc (Obj.cells #[Value.string s, Value.slice ka (flen k) cap] 24)).alloc (Obj.cells #[Value.string s2, Value.slice kb (flen k2) capb] 24)) :=
    ((Below.refl _ _).alloc (Nat.le_refl _) _).alloc (by simp) _
  have c0 : ((w.alloc (Obj.cells #[Value.string s, Value.slice ka (flen k) cap] 24)).alloc (Obj.cells #[Value.string s2, Value.slice kb (flen k2) capb] 24)).cell? ⟨w.heap.size, 0, none⟩ = some (.string s) := by go_simp
  have c1 : ((w.alloc (Obj.cells #[Value.string s, Value.slice ka (flen k) cap] 24)).alloc (Obj.cells #[Value.string s2, Value.slice kb (flen k2) capb] 24)).cell? ⟨w.heap.size, 1, none⟩ = some (.slice ka (flen k) cap) := by go_simp
  have c2 : ((w.alloc (Obj.cells #[Value.string s, Value.slice ka (flen k) cap] 24)).alloc (Obj.cells #[Value.string s2, Value.slice kb (flen k2) capb] 24)).cell? ⟨w.heap.size + 1, 0, none⟩ = some (.string s2) := by go_simp
  have c3 : ((w.alloc (Obj.cells #[Value.string s, Value.slice ka (flen k) cap] 24)).alloc (Obj.cells #[Value.string s2, Value.slice kb (flen k2) capb] 24)).cell? ⟨w.heap.size + 1, 1, none⟩ = some (.slice kb (flen k2) capb) := by go_simp
  have hC := hide (And.intro c0 (And.intro c1 (And.intro c2 c3)))
  clear c0 c1 c2 c3
  go_enter Try.func3, Try.ntmps3
  go_wp2_with fail
  refine (begun_any _).mono ?_
  rintro e w1 ⟨rfl, hb1⟩
  obtain ⟨c0, c1, c2, c3⟩ := hC.out
  have d0 := cellOf hb1 c0
  have d1 := cellOf hb1 c1
  have d2 := cellOf hb1 c2
  have d3 := cellOf hb1 c3
  have hB1 := hB0.trans (hb1.mono hB0.size)
  clear hC c0 c1 c2 c3 hb1 hB0
  go_wp2_with fail
  refine (great_any s ka cap k _ (ht.below hB1)).mono ?_
  rintro e w2 ⟨rfl, hb2⟩
  have f0 := cellOf hb2 d0
  have f1 := cellOf hb2 d1
  have f2 := cellOf hb2 d2
  have f3 := cellOf hb2 d3
  have hB2 := hB1.trans (hb2.mono hB1.size)
  clear d0 d1 d2 d3 hb2 hB1
  cases hg : greatT s k with
  | true =>
    have HG := hide hg
    clear hg
    go_wp2_with fail
    go_ret
    exact ⟨rfl, hB2⟩
  | false =>
    have HG := hide hg
    clear hg
    go_wp2_with fail
    refine (great_any s2 kb capb k2 _ (hu.below hB2)).mono ?_
    rintro e w3 ⟨rfl, hb3⟩
    have d0 := cellOf hb3 f0
    have d1 := cellOf hb3 f1
    have d2 := cellOf hb3 f2
    have d3 := cellOf hb3 f3
    have hB3 := hB2.trans (hb3.mono hB2.size)
    clear f0 f1 f2 f3 hb3 hB2
    cases hg : greatT s2 k2 with
    | true =>
      have HG2 := hide hg
      clear hg
      go_wp2_with fail
      go_ret
      exact ⟨rfl, hB3⟩
    | false =>
      have HG2 := hide hg
      clear hg
      by_cases h100 : (100 : Int) < (ps.length : Int)
      · go_wp2_with fail
        go_ret
        exact ⟨rfl, hB3⟩
      · by_cases h1000 : (1000 : Int) < (str.size : Int)
        · go_wp2_with fail
          go_ret
          exact ⟨rfl, hB3⟩
        · go_wp2_with fail
          have hn200 := greatT_small HG.out
          obtain ⟨hs1000, hlong⟩ := great_long HG.out
          refine (refOwn_any s ka cap k _ (by omega) (ht.below hB3)).mono ?_
          rintro e w4 ⟨kaO, capO, kO, rfl, hstO, htO, hfrO, hplO, hndO, hb4⟩
          have hokO : ItOk w4 200 (s, kaO, capO, kO) := ⟨htO, hplO, by rw [fnodes_of_strip hstO]; exact hn200, hs1000, longF_small (by rw [← longF_strip, hstO, longF_strip]; exact hlong)⟩
          have f0 := cellOf hb4 d0
          have f1 := cellOf hb4 d1
          have f2 := cellOf hb4 d2
          have f3 := cellOf hb4 d3
          have hB4 := hB3.trans (hb4.mono hB3.size)
          have HSO := hide hstO
          clear d0 d1 d2 d3 hb4 hB3 hstO htO hfrO hplO
          go_wp2_with fail
          have hb5 : Below w4.heap.size w4 (w4.alloc (Obj.cells #[Value.string s, Value.slice kaO (flen kO) capO] 24)) := (Below.refl _ _).alloc (Nat.le_refl _) _
          have g4 : (w4.alloc (Obj.cells #[Value.string s, Value.slice kaO (flen kO) capO] 24)).cell? ⟨w4.heap.size, 0, none⟩ = some (.string s) := by go_simp
          have g5 : (w4.alloc (Obj.cells #[Value.string s, Value.slice kaO (flen kO) capO] 24)).cell? ⟨w4.heap.size, 1, none⟩ = some (.slice kaO (flen kO) capO) := by go_simp
          generalize hW5 : w4.alloc (Obj.cells #[Value.string s, Value.slice kaO (flen kO) capO] 24) = W5 at hb5 g4 g5 ⊢
          have hB5 := hB4.trans (hb5.mono hB4.size)
          have g0 := cellOf hb5 f0
          have g1 := cellOf hb5 f1
          have g2 := cellOf hb5 f2
          have g3 := cellOf hb5 f3
          have hok5 := okBelow hokO hb5
          generalize hn9 : w4.heap.size = n9 at g4 g5 ⊢
          refine (at_like (s, kaO, capO, kO) ps pa pcap _ hok5 (hps.below hB5) hl hc).mono ?_
          rintro e w6 ⟨sx, kax, capx, kx, bx, rfl, htx, hlx, hb6⟩
          have f0 := cellOf hb6 g0
          have f1 := cellOf hb6 g1
          have f2 := cellOf hb6 g2
          have f3 := cellOf hb6 g3
          have f4 := cellOf hb6 g4
          have f5 := cellOf hb6 g5
          have hB6 := hB5.trans (hb6.mono hB5.size)
          have hok6 := okBelow hok5 hb6
          have HLX := hide hlx
          clear g0 g1 g2 g3 g4 g5 hb6 hB5 hok5 hb5 hW5 hokO hB4 hlx hn9
          have hlt : w.heap.size < w6.heap.size := World.block_lt_of_cell? _ _ f0
          have hne : w.heap.size ≠ w6.heap.size := by omega
          have q0 : (w6.alloc (Obj.cells #[Value.string sx, Value.slice kax (flen kx) capx] 24)).cell? ⟨w.heap.size, 0, none⟩ = some (.string s) := cellOf ((Below.refl _ _).alloc (Nat.le_refl _) _) f0
          have q1 : (w6.alloc (Obj.cells #[Value.string sx, Value.slice kax (flen kx) capx] 24)).cell? ⟨w.heap.size, 1, none⟩ = some (.slice ka (flen k) cap) := cellOf ((Below.refl _ _).alloc (Nat.le_refl _) _) f1
          go_wp2_with fail
          clear hlt hne q0 q1
          have hb7 : Below w6.heap.size w6 (w6.alloc (Obj.cells #[Value.string sx, Value.slice kax (flen kx) capx] 24)) := (Below.refl _ _).alloc (Nat.le_refl _) _
          have g6 : (w6.alloc (Obj.cells #[Value.string sx, Value.slice kax (flen kx) capx] 24)).cell? ⟨w6.heap.size, 0, none⟩ = some (.string sx) := by go_simp
          have g7 : (w6.alloc (Obj.cells #[Value.string sx, Value.slice kax (flen kx) capx] 24)).cell? ⟨w6.heap.size, 1, none⟩ = some (.slice kax (flen kx) capx) := by go_simp
          generalize hW7 : w6.alloc (Obj.cells #[Value.string sx, Value.slice kax (flen kx) capx] 24) = W7 at hb7 g6 g7 ⊢
          have hB7 := hB6.trans (hb7.mono hB6.size)
          have g0 := cellOf hb7 f0
          have g1 := cellOf hb7 f1
          have g2 := cellOf hb7 f2
          have g3 := cellOf hb7 f3
          have g4 := cellOf hb7 f4
          have g5 := cellOf hb7 f5
          have hok7 := okBelow hok6 hb7
          have htx7 := htx.below hb7
          generalize hn10 : w6.heap.size = n10 at g6 g7 ⊢
          refine (refAt_like ps s ka cap k pa pcap _ (ht.below hB7) (hps.below hB7) hl hc).mono ?_
          rintro e w8 ⟨sy, kay, capy, ky, bY, rfl, hty, hly, hb8⟩
          obtain ⟨hxy, rfl⟩ := atLike_same HSO.out HLX.out hly
          have f0 := cellOf hb8 g0
          have f1 := cellOf hb8 g1
          have f2 := cellOf hb8 g2
          have f3 := cellOf hb8 g3
          have f4 := cellOf hb8 g4
          have f5 := cellOf hb8 g5
          have f6 := cellOf hb8 g6
          have f7 := cellOf hb8 g7
          have hB8 := hB7.trans (hb8.mono hB7.size)
          have hok8 := okBelow hok7 hb8
          have htx8 := htx7.below hb8
          have HXY := hide hxy
          clear g0 g1 g2 g3 g4 g5 g6 g7 hb8 hB7 hok7 hb7 hW7 hok6 hB6 hly hn10 HLX htx htx7 hxy
          go_wp2_with fail
          have hb9 : Below w8.heap.size w8 (w8.alloc (Obj.cells #[Value.string sy, Value.slice kay (flen ky) capy] 24)) := (Below.refl _ _).alloc (Nat.le_refl _) _
          have g8 : (w8.alloc (Obj.cells #[Value.string sy, Value.slice kay (flen ky) capy] 24)).cell? ⟨w8.heap.size, 0, none⟩ = some (.string sy) := by go_simp
          have g9 : (w8.alloc (Obj.cells #[Value.string sy, Value.slice kay (flen ky) capy] 24)).cell? ⟨w8.heap.size, 1, none⟩ = some (.slice kay (flen ky) capy) := by go_simp
          generalize hW9 : w8.alloc (Obj.cells #[Value.string sy, Value.slice kay (flen ky) capy] 24) = W9 at hb9 g8 g9 ⊢
          have hB9 := hB8.trans (hb9.mono hB8.size)
          have hok9 := okBelow hok8 hb9
          have htx9 := htx8.below hb9
          have hty9 := hty.below hb9
          generalize hn12 : w8.heap.size = n12 at g8 g9 ⊢
          generalize hn4 : w.heap.size = n4 at f0 f1 f2 f3 ⊢
          generalize hn5 : n4 + 1 = n5 at f2 f3 ⊢
          have hr := (Below.refl W9.heap.size W9).drew
          have hS0 : DoesS n4 n5 n9 n10 n12 s ka (flen k) cap s2 kb (flen k2) capb kaO (flen kO) capO sx kax (flen kx) capx sy kay (flen ky) capy W9 W9.drew :=
            ⟨hr, cellOf hr (cellOf hb9 f0), cellOf hr (cellOf hb9 f1), cellOf hr (cellOf hb9 f2), cellOf hr (cellOf hb9 f3), cellOf hr (cellOf hb9 f4), cellOf hr (cellOf hb9 f5), cellOf hr (cellOf hb9 f6), cellOf hr (cellOf hb9 f7), cellOf hr g8, cellOf hr g9⟩
          have hbT : ∀ W', Below W9.heap.size W9 W' → TIn W' s ka cap k := fun W' h => (ht.below hB9).below h
          have hbU : ∀ W', Below W9.heap.size W9 W' → TIn W' s2 kb capb k2 := fun W' h => (hu.below hB9).below h
          have hbEnd : ∀ W', Below W9.heap.size W9 W' → Below w.heap.size w W' := fun W' h => hB9.trans (h.mono hB9.size)
          obtain ⟨lab, hlab⟩ : ∃ b, b = labelB str := ⟨_, rfl⟩
          obtain ⟨ft, hft⟩ : ∃ b, b = faultT s k := ⟨_, rfl⟩
          obtain ⟨nz, hnz⟩ : ∃ b, b = (1 + (fnodes kO : Int)) := ⟨_, rfl⟩
          obtain ⟨sb, hsb⟩ : ∃ b, b = sameT s k s2 k2 := ⟨_, rfl⟩
          have k10 : ∀ W', Calls Try.prog 17 #[.string str] W' fun e w' => e = .returned (.bool lab) ∧ w' = W' := fun W' => by
            rw [hlab]
            exact label_any str W' hstr
          have k11 : ∀ W', Calls Try.prog 18 #[.string str] W' fun e w' => e = .returned (.bool lab) ∧ w' = W' := fun W' => by
            rw [hlab]
            exact isLabel_any str W' hstr
          have k12 : ∀ W', Below W9.heap.size W9 W' → Calls Try.prog 19 #[Value.agg #[.string s, .slice kaO (flen kO) capO]] W' fun e w' => e = .returned (.int .i64 ft) ∧ Below W'.heap.size W' w' := fun W' h => by
            rw [hft, ← faultT_of_strip HSO.out]
            exact check_any s kaO capO kO W' (okBelow hok9 h).tin (okBelow hok9 h).plain hok9.nodes
          have k13 : ∀ W', Below W9.heap.size W9 W' → Calls Try.prog 20 #[Value.agg #[.string s, .slice ka (flen k) cap]] W' fun e w' => e = .returned (.int .i64 ft) ∧ Below W'.heap.size W' w' := fun W' h => by
            rw [hft]
            exact treeFault_any s ka cap k W' (hbT W' h)
          have k14 : ∀ W', Below W9.heap.size W9 W' → Calls Try.prog 21 #[Value.agg #[.string s, .slice kaO (flen kO) capO]] W' fun e w' => e = .returned (.int .i64 nz) ∧ Below W'.heap.size W' w' := fun W' h => by
            rw [hnz]
            exact size_any s kaO capO kO W' (okBelow hok9 h).tin (okBelow hok9 h).plain hok9.nodes
          have k15 : ∀ W', Below W9.heap.size W9 W' → Calls Try.prog 22 #[Value.agg #[.string s, .slice ka (flen k) cap], .int .i64 1000] W' fun e w' => e = .returned (.int .i64 nz) ∧ Below W'.heap.size W' w' := fun W' h => by
            have e1 : nz = min (1 + (fnodes k : Int)) (1000 + 1) := by rw [hnz, fnodes_of_strip HSO.out]; omega
            rw [e1]
            exact sizeOf_any (fnodes k + 1) s ka cap k 1000 W' (by omega) (by omega) (by omega) (hbT W' h)
          have k16 : ∀ W', Below W9.heap.size W9 W' → Calls Try.prog 23 #[Value.agg #[.string s, .slice kaO (flen kO) capO], Value.agg #[.string s2, .slice kb (flen k2) capb]] W' fun e w' => e = .returned (.bool sb) ∧ Below W'.heap.size W' w' := fun W' h => by
            rw [hsb, ← sameT_of_strip_left HSO.out]
            exact same_any s kaO capO kO s2 kb capb k2 W' (okBelow hok9 h).tin (hbU W' h) (okBelow hok9 h).plain hndO hok9.nodes
          have k17a : ∀ W', Below W9.heap.size W9 W' → Calls Try.prog 24 #[Value.agg #[.string s, .slice ka (flen k) cap], Value.agg #[.string s2, .slice kb (flen k2) capb]] W' fun e w' => e = .returned (.bool sb) ∧ Below W'.heap.size W' w' := fun W' h => by
            rw [hsb]
            exact sameTree_any s ka cap k s2 kb capb k2 W' (hbT W' h) (hbU W' h)
          have k17d : ∀ W', Below W9.heap.size W9 W' → Calls Try.prog 24 #[Value.agg #[.string s, .slice kaO (flen kO) capO], Value.agg #[.string s, .slice ka (flen k) cap]] W' fun e w' => e = .returned (.bool true) ∧ Below W'.heap.size W' w' := fun W' h => by
            rw [← sameT_of_strip (s := s) HSO.out]
            exact sameTree_any s kaO capO kO s ka cap k W' (okBelow hok9 h).tin (hbT W' h)
          have k17c : ∀ W', Below W9.heap.size W9 W' → Calls Try.prog 24 #[Value.agg #[.string sx, .slice kax (flen kx) capx], Value.agg #[.string sy, .slice kay (flen ky) capy]] W' fun e w' => e = .returned (.bool true) ∧ Below W'.heap.size W' w' := fun W' h => by
            rw [← HXY.out]
            exact sameTree_any sx kax capx kx sy kay capy ky W' (htx9.below h) (hty9.below h)
          have k18 : ∀ W', Below W9.heap.size W9 W' → Calls Try.prog 25 #[Value.agg #[.string s, .slice kaO (flen kO) capO]] W' fun e w' => ∃ kaQ capQ kQ, e = .returned (.agg #[.string s, .slice kaQ (flen kQ) capQ]) ∧ strip kQ = strip kO ∧ TIn w' s kaQ capQ kQ ∧ FFrom W'.heap.size kQ ∧ FPlain w' kQ ∧ Below W'.heap.size W' w' := fun W' h =>
            own_any s kaO capO kO W' (okBelow hok9 h).tin (okBelow hok9 h).plain hok9.nodes hok9.label hok9.small
          have k17b : ∀ W' kaQ capQ kQ, Below W9.heap.size W9 W' → TIn W' s kaQ capQ kQ → Hid (strip kQ = strip kO) → Calls Try.prog 24 #[.agg #[.string s, .slice kaQ (flen kQ) capQ], Value.agg #[.string s, .slice ka (flen k) cap]] W' fun e w' => e = .returned (.bool true) ∧ Below W'.heap.size W' w' := fun W' kaQ capQ kQ h htQ hQ => by
            rw [← sameT_of_strip (s := s) (hQ.out.trans HSO.out)]
            exact sameTree_any s kaQ capQ kQ s ka cap k W' htQ (hbT W' h)
          have K10 := hide k10
          have K11 := hide k11
          have K12 := hide k12
          have K13 := hide k13
          have K14 := hide k14
          have K15 := hide k15
          have K16 := hide k16
          have K17A := hide k17a
          have K17B := hide k17b
          have K17C := hide k17c
          have K17D := hide k17d
          have K18 := hide k18
          have HE := hide hbEnd
          have HS0 := hide hS0
          clear k10 k11 k12 k13 k14 k15 k16 k17a k17b k17c k17d k18 hbEnd hS0 hbT hbU hok9 hok8 htx8 htx9 hty9 hty hB9 hb9 hB8 hr g8 g9 f0 f1 f2 f3 f4 f5 f6 f7 hW9 hn12 hn4 hn5 HXY hndO ht hu hps
          go_region_held3 (fun w' => Below W9.heap.size W9 w' ∧ w'.cell? ⟨n4, 0, none⟩ = some (.string s) ∧ w'.cell? ⟨n4, 1, none⟩ = some (.slice ka (flen k) cap) ∧ w'.cell? ⟨n5, 0, none⟩ = some (.string s2) ∧ w'.cell? ⟨n5, 1, none⟩ = some (.slice kb (flen k2) capb) ∧
              w'.cell? ⟨n9, 0, none⟩ = some (.string s) ∧ w'.cell? ⟨n9, 1, none⟩ = some (.slice kaO (flen kO) capO) ∧ w'.cell? ⟨n10, 0, none⟩ = some (.string sx) ∧ w'.cell? ⟨n10, 1, none⟩ = some (.slice kax (flen kx) capx) ∧
              w'.cell? ⟨n12, 0, none⟩ = some (.string sy) ∧ w'.cell? ⟨n12, 1, none⟩ = some (.slice kay (flen ky) capy))
            (first | exact DoesS.on (by assumption) (by assumption) | assumption | exact HS0.out)
            (first
              | (go_at_call 17; refine (K10.out _).mono ?_; rintro e w2 ⟨rfl, rfl⟩)
              | (go_at_call 18; refine (K11.out _).mono ?_; rintro e w2 ⟨rfl, rfl⟩)
              | (go_at_call 19; refine (K12.out _ (And.left (by assumption))).mono ?_; rintro e w2 ⟨rfl, hb2⟩)
              | (go_at_call 20; refine (K13.out _ (And.left (by assumption))).mono ?_; rintro e w2 ⟨rfl, hb2⟩)
              | (go_at_call 21; refine (K14.out _ (And.left (by assumption))).mono ?_; rintro e w2 ⟨rfl, hb2⟩)
              | (go_at_call 22; refine (K15.out _ (And.left (by assumption))).mono ?_; rintro e w2 ⟨rfl, hb2⟩)
              | (go_at_call 23; refine (K16.out _ (And.left (by assumption))).mono ?_; rintro e w2 ⟨rfl, hb2⟩)
              | (go_at_call 25; refine (K18.out _ (And.left (by assumption))).mono ?_; rintro e w2 ⟨kaQ, capQ, kQ, rfl, hstQ, htQ, hfrQ, hplQ, hb2⟩; have HSQ := hide hstQ; clear hstQ hfrQ hplQ)
              | (go_at_call_of 24 kb; refine (K17A.out _ (And.left (by assumption))).mono ?_; rintro e w2 ⟨rfl, hb2⟩)
              | (go_at_call_of 24 kaO; refine (K17D.out _ (And.left (by assumption))).mono ?_; rintro e w2 ⟨rfl, hb2⟩)
              | (go_at_call_of 24 kax; refine (K17C.out _ (And.left (by assumption))).mono ?_; rintro e w2 ⟨rfl, hb2⟩)
              | (go_at_call 24; refine (K17B.out _ _ _ _ (And.left (by assumption)) (by assumption) (by assumption)).mono ?_; rintro e w2 ⟨rfl, hb2⟩))
          all_goals (go_wp2_with fail; go_ret; exact ⟨rfl, HE.out _ (And.left (by assumption))⟩)

end Go.Proofs.Ytafojlockiekfaa
