/- slices.Equal of numbers, and Same of package deed. Of the program's text. -/
/- pleachinglaw.DeedDoes answers true. Of the program's text. -/
import Derived.Test.YtpgiagkbfnbgkabDeedRef
import Derived.Test.YtpgiagkbfnbgkabGDeed
import Derived.Test.YtpgiagkbfnbgkabGRest
import Derived.Test.YtpgiagkbfnbgkabOwnRef
import Derived.Deep.RegionHeld3
namespace Go.Proofs.Ytpgiagkbfnbgkab.Deed
open Go.Deep Go.RowKit
set_option linter.unusedVariables false
set_option maxRecDepth 20000

set_option maxHeartbeats 1000000 in
theorem eqI_any (la lb : Option Addr) (lc mc : Nat) (L M : List Int) (w : World) (hL : PIn w la L) (hM : PIn w lb M) (hl : L.length ≤ 100000) (hm : M.length ≤ maxLen) :
    Calls Try.prog 51 #[.slice la L.length lc, .slice lb M.length mc] w fun e w' => e = .returned (.bool (decide (L = M))) ∧ Below w.heap.size w w' := by
  unfold maxLen at hm
  by_cases hlen : L.length = M.length
  · have hb : ((L.length : Int) == (M.length : Int)) = true := beq_iff_eq.2 (by omega)
    rw [← hlen]
    have HLE := hide hlen
    have hle1 : M.length ≤ L.length := by omega
    clear hlen
    go_enter Try.func51, Try.ntmps51
    go_wp2_with fail
    go_loopg [13] L.length (fun gk v wr => ∃ i : Nat, gk = L.length - i ∧ i ≤ L.length ∧ v = .int .i64 (i : Nat) ∧ Hid (L.take i = M.take i) ∧ Below w.heap.size w wr)
    case atStart => exact ⟨0, rfl, Nat.zero_le _, rfl, rfl, Below.refl _ _⟩
    case round =>
      obtain ⟨i, hgk, hi, rfl, hsame, hbr⟩ := hrel
      by_cases hlt : i < L.length
      · obtain ⟨x, hx⟩ : ∃ x, L[i]? = some x := ⟨_, List.getElem?_eq_getElem hlt⟩
        obtain ⟨y, hy⟩ : ∃ y, M[i]? = some y := ⟨_, List.getElem?_eq_getElem (by have := HLE.out; omega)⟩
        rcases hL with hL | ⟨b, o, rfl, hL⟩
        · rw [hL] at hlt; simp at hlt
        rcases hM with hM | ⟨c, q, rfl, hM⟩
        · rw [hM] at hy; simp at hy
        have x0 := hL i x hx
        have y0 := hM i y hy
        have hbl : b < w.heap.size := World.block_lt_of_cell? _ _ x0
        have hcl : c < w.heap.size := World.block_lt_of_cell? _ _ y0
        have x0' : wr.cell? ⟨b, o + i, none⟩ = some (.int .i64 x) := by rw [hbr.cell hbl]; exact x0
        have y0' : wr.cell? ⟨c, q + i, none⟩ = some (.int .i64 y) := by rw [hbr.cell hcl]; exact y0
        have HX := hide hx
        have HY := hide hy
        clear x0 y0 hL hM hx hy
        by_cases h1 : x = y
        · have h1b : (x == y) = true := beq_iff_eq.2 h1
          have HT := hide (show L.take (i + 1) = M.take (i + 1) by
            have h4 := HX.out
            have h5 := HY.out
            rw [List.getElem?_eq_getElem hlt] at h4
            have hlm : i < M.length := by have := HLE.out; omega
            rw [List.getElem?_eq_getElem hlm] at h5
            rw [List.take_succ_eq_append_getElem hlt, List.take_succ_eq_append_getElem hlm, hsame.out]
            have e1 : L[i] = x := by simpa using h4
            have e2 : M[i] = y := by simpa using h5
            rw [e1, e2, h1])
          clear h1
          go_wp2_with fail
          go_quiet (fail)
          go_wp2_with fail
          go_roundg (L.length - (i + 1))
          case measure => omega
          case rel => exact ⟨i + 1, rfl, by omega, by go_num, HT.out, below_drewN hbr _⟩
        · have h1b : (x == y) = false := beq_eq_false_iff_ne.2 h1
          have HV := hide (show decide (L = M) = false from decide_eq_false (fun e => h1 (by
            have h2 := HX.out
            rw [e, HY.out] at h2
            simpa using h2.symm)))
          clear h1
          go_wp2_with fail
          go_quiet (fail)
          go_wp2_with fail
          go_ret
          exact ⟨by rw [HV.out]; rfl, below_drewN hbr _⟩
      · have HV := hide (show decide (L = M) = true from decide_eq_true (by
          have h1 := hsame.out
          rw [List.take_of_length_le (by omega), List.take_of_length_le (by have := HLE.out; omega)] at h1
          exact h1))
        go_wp2_with fail
        go_ret
        exact ⟨by rw [HV.out]; rfl, hbr⟩
  · have hb : ((L.length : Int) == (M.length : Int)) = false := beq_eq_false_iff_ne.2 (by omega)
    have HNE := hide (show decide (L = M) = false from decide_eq_false (fun e => hlen (by rw [e])))
    clear hlen
    go_enter Try.func51, Try.ntmps51
    go_wp2_with fail
    go_ret
    exact ⟨by rw [HNE.out]; rfl, Below.refl _ _⟩


set_option maxHeartbeats 2000000 in
theorem dsame_any (d e : Dd) (pa pb : Option Addr) (pc qc : Nat) (w : World) (hd : DIn w d pa pc) (he : DIn w e pb qc) (hl : d.path.length ≤ 100000) :
    Calls Try.prog 24 #[ddV d pa pc, ddV e pb qc] w fun r w' => r = .returned (.bool (sameDd d e)) ∧ Below w.heap.size w w' := by
  unfold ddV
  have hbx : Below w.heap.size w ((w.alloc (Obj.cells #[.int .i64 d.kind, .slice pa d.path.length pc, .int .i64 d.pos, .int .i64 d.many, .string d.lab] 44)).alloc (Obj.cells #[.int .i64 e.kind, .slice pb e.path.length qc, .int .i64 e.pos, .int .i64 e.many, .string e.lab] 44)) := ((Below.refl _ _).alloc (Nat.le_refl _) _).alloc (by simp) _
  have HS := hide (eqI_any pa pb pc qc d.path e.path _ (hd.path.below hbx) (he.path.below hbx) hl (Nat.le_trans he.len he.cap))
  have HB := hide hbx
  have hc1 := hd.cap
  have hc2 := he.cap
  unfold maxLen at hc1 hc2
  by_cases h1 : d.kind = e.kind
  case neg =>
    have b1 : (d.kind == e.kind) = false := beq_eq_false_iff_ne.2 h1
    have HV := hide (show sameDd d e = false by unfold sameDd; simp [b1])
    clear hd he h1 hbx HS
    go_enter Try.func24, Try.ntmps24
    go_wp2_with fail
    go_ret
    exact ⟨by rw [HV.out]; rfl, HB.out⟩
  have b1 : (d.kind == e.kind) = true := beq_iff_eq.2 h1
  by_cases h2 : d.path = e.path
  case neg =>
    have b2 := decide_eq_false h2
    have HV := hide (show sameDd d e = false by unfold sameDd; simp [b2])
    rw [b2] at HS
    clear hd he h1 h2 hbx b2
    go_enter Try.func24, Try.ntmps24
    go_wp2_with fail
    refine Calls.mono HS.out ?_
    rintro r w2 ⟨rfl, hb2⟩
    have HB2 := hide (HB.out.trans (hb2.mono HB.out.size))
    clear hb2
    go_wp2_with fail
    go_ret
    exact ⟨by rw [HV.out]; rfl, HB2.out⟩
  have b2 := decide_eq_true h2
  rw [b2] at HS
  have HX : Hid (∀ w2, Below ((w.alloc (Obj.cells #[.int .i64 d.kind, .slice pa d.path.length pc, .int .i64 d.pos, .int .i64 d.many, .string d.lab] 44)).alloc (Obj.cells #[.int .i64 e.kind, .slice pb e.path.length qc, .int .i64 e.pos, .int .i64 e.many, .string e.lab] 44)).heap.size ((w.alloc (Obj.cells #[.int .i64 d.kind, .slice pa d.path.length pc, .int .i64 d.pos, .int .i64 d.many, .string d.lab] 44)).alloc (Obj.cells #[.int .i64 e.kind, .slice pb e.path.length qc, .int .i64 e.pos, .int .i64 e.many, .string e.lab] 44)) w2 →
      (w2.cell? ⟨w.heap.size, 2, none⟩ = some (.int .i64 d.pos) ∧ w2.cell? ⟨w.heap.size, 3, none⟩ = some (.int .i64 d.many) ∧ w2.cell? ⟨w.heap.size, 4, none⟩ = some (.string d.lab)) ∧ (w2.cell? ⟨w.heap.size + 1, 2, none⟩ = some (.int .i64 e.pos) ∧ w2.cell? ⟨w.heap.size + 1, 3, none⟩ = some (.int .i64 e.many) ∧ w2.cell? ⟨w.heap.size + 1, 4, none⟩ = some (.string e.lab))) := hide fun w2 hb => by
    refine ⟨⟨?_, ?_, ?_⟩, ⟨?_, ?_, ?_⟩⟩
    · rw [hb.cell (by simp <;> omega)]; go_simp
    · rw [hb.cell (by simp <;> omega)]; go_simp
    · rw [hb.cell (by simp <;> omega)]; go_simp
    · rw [hb.cell (by simp)]; go_simp
    · rw [hb.cell (by simp)]; go_simp
    · rw [hb.cell (by simp)]; go_simp
  have HV := hide (show sameDd d e = (d.pos == e.pos && d.many == e.many && d.lab.toList == e.lab.toList) by unfold sameDd; rw [b1, b2]; simp)
  clear hd he h1 h2 hbx b2
  by_cases h3 : d.pos = e.pos
  · have b3 : (d.pos == e.pos) = true := beq_iff_eq.2 h3
    rw [b3] at HV
    by_cases h4 : d.many = e.many
    · have b4 : (d.many == e.many) = true := beq_iff_eq.2 h4
      rw [b4] at HV
      clear h3 h4
      go_enter Try.func24, Try.ntmps24
      go_wp2_with fail
      refine Calls.mono HS.out ?_
      rintro r w2 ⟨rfl, hb2⟩
      obtain ⟨⟨x2, x3, x4⟩, ⟨y2, y3, y4⟩⟩ := HX.out w2 hb2
      have HB2 := hide (HB.out.trans (hb2.mono HB.out.size))
      clear hb2
      cases hb5 : (d.lab.toList == e.lab.toList)
      · rw [hb5] at HV
        go_wp2_with fail
        go_ret
        exact ⟨by rw [HV.out]; rfl, HB2.out⟩
      · rw [hb5] at HV
        go_wp2_with fail
        go_ret
        exact ⟨by rw [HV.out]; rfl, HB2.out⟩
    · have b4 : (d.many == e.many) = false := beq_eq_false_iff_ne.2 h4
      rw [b4] at HV
      clear h3 h4
      go_enter Try.func24, Try.ntmps24
      go_wp2_with fail
      refine Calls.mono HS.out ?_
      rintro r w2 ⟨rfl, hb2⟩
      obtain ⟨⟨x2, x3, x4⟩, ⟨y2, y3, y4⟩⟩ := HX.out w2 hb2
      have HB2 := hide (HB.out.trans (hb2.mono HB.out.size))
      clear hb2
      go_wp2_with fail
      go_ret
      exact ⟨by rw [HV.out]; rfl, HB2.out⟩
  · have b3 : (d.pos == e.pos) = false := beq_eq_false_iff_ne.2 h3
    rw [b3] at HV
    clear h3
    go_enter Try.func24, Try.ntmps24
    go_wp2_with fail
    refine Calls.mono HS.out ?_
    rintro r w2 ⟨rfl, hb2⟩
    obtain ⟨⟨x2, x3, x4⟩, ⟨y2, y3, y4⟩⟩ := HX.out w2 hb2
    have HB2 := hide (HB.out.trans (hb2.mono HB.out.size))
    clear hb2
    go_wp2_with fail
    go_ret
    exact ⟨by rw [HV.out]; rfl, HB2.out⟩
end Go.Proofs.Ytpgiagkbfnbgkab.Deed
namespace Go.Proofs.Ytpgiagkbfnbgkab.Deed
open Go.Deep Go.RowKit
set_option linter.unusedVariables false
set_option maxRecDepth 20000

theorem cellB {w1 w2 : World} {a : Addr} {v : Value} (hb : Below w1.heap.size w1 w2) (h : w1.cell? a = some v) : w2.cell? a = some v := by
  rw [hb.cell (World.block_lt_of_cell? _ _ h)]
  exact h
/-- The boxes that the last region reads. -/
def LawS (n3 n4 n5 n7 n8 n9 n11 n12 : Nat) (s : ByteArray) (ka : Option Addr) (l cap : Nat) (d e : Dd) (pa pb : Option Addr) (pc qc : Nat) (kaO : Option Addr) (lO capO : Nat) (sx : ByteArray) (kax : Option Addr) (lx capx : Nat) (dx : Dd) (pax : Option Addr) (pcx : Nat) (kay : Option Addr) (ly capy : Nat) (pay : Option Addr) (pcy : Nat) (W w' : World) : Prop :=
  Below W.heap.size W w' ∧ w'.cell? ⟨n3, 0, none⟩ = some (.string s) ∧ w'.cell? ⟨n3, 1, none⟩ = some (.slice ka l cap) ∧ w'.cell? ⟨n4, 0, none⟩ = some (.int .i64 d.kind) ∧ w'.cell? ⟨n4, 1, none⟩ = some (.slice pa d.path.length pc) ∧ w'.cell? ⟨n4, 2, none⟩ = some (.int .i64 d.pos) ∧ w'.cell? ⟨n4, 3, none⟩ = some (.int .i64 d.many) ∧ w'.cell? ⟨n4, 4, none⟩ = some (.string d.lab) ∧ w'.cell? ⟨n5, 0, none⟩ = some (.int .i64 e.kind) ∧ w'.cell? ⟨n5, 1, none⟩ = some (.slice pb e.path.length qc) ∧ w'.cell? ⟨n5, 2, none⟩ = some (.int .i64 e.pos) ∧ w'.cell? ⟨n5, 3, none⟩ = some (.int .i64 e.many) ∧ w'.cell? ⟨n5, 4, none⟩ = some (.string e.lab) ∧ w'.cell? ⟨n7, 0, none⟩ = some (.string s) ∧ w'.cell? ⟨n7, 1, none⟩ = some (.slice kaO lO capO) ∧ w'.cell? ⟨n8, 0, none⟩ = some (.string sx) ∧ w'.cell? ⟨n8, 1, none⟩ = some (.slice kax lx capx) ∧ w'.cell? ⟨n9, 0, none⟩ = some (.int .i64 dx.kind) ∧ w'.cell? ⟨n9, 1, none⟩ = some (.slice pax dx.path.length pcx) ∧ w'.cell? ⟨n9, 2, none⟩ = some (.int .i64 dx.pos) ∧ w'.cell? ⟨n9, 3, none⟩ = some (.int .i64 dx.many) ∧ w'.cell? ⟨n9, 4, none⟩ = some (.string dx.lab) ∧ w'.cell? ⟨n11, 0, none⟩ = some (.string sx) ∧ w'.cell? ⟨n11, 1, none⟩ = some (.slice kay ly capy) ∧ w'.cell? ⟨n12, 0, none⟩ = some (.int .i64 dx.kind) ∧ w'.cell? ⟨n12, 1, none⟩ = some (.slice pay dx.path.length pcy) ∧ w'.cell? ⟨n12, 2, none⟩ = some (.int .i64 dx.pos) ∧ w'.cell? ⟨n12, 3, none⟩ = some (.int .i64 dx.many) ∧ w'.cell? ⟨n12, 4, none⟩ = some (.string dx.lab)
theorem LawS.on {n3 n4 n5 n7 n8 n9 n11 n12 : Nat} {s : ByteArray} {ka : Option Addr} {l cap : Nat} {d e : Dd} {pa pb : Option Addr} {pc qc : Nat} {kaO : Option Addr} {lO capO : Nat} {sx : ByteArray} {kax : Option Addr} {lx capx : Nat} {dx : Dd} {pax : Option Addr} {pcx : Nat} {kay : Option Addr} {ly capy : Nat} {pay : Option Addr} {pcy : Nat} {W w1 w2 : World} (h : LawS n3 n4 n5 n7 n8 n9 n11 n12 s ka l cap d e pa pb pc qc kaO lO capO sx kax lx capx dx pax pcx kay ly capy pay pcy W w1) (hb : Below w1.heap.size w1 w2) : LawS n3 n4 n5 n7 n8 n9 n11 n12 s ka l cap d e pa pb pc qc kaO lO capO sx kax lx capx dx pax pcx kay ly capy pay pcy W w2 := by
  obtain ⟨h0, h1, h2, h3, h4, h5, h6, h7, h8, h9, h10, h11, h12, h13, h14, h15, h16, h17, h18, h19, h20, h21, h22, h23, h24, h25, h26, h27, h28⟩ := h
  exact ⟨h0.trans (hb.mono h0.size), cellB hb h1, cellB hb h2, cellB hb h3, cellB hb h4, cellB hb h5, cellB hb h6, cellB hb h7, cellB hb h8, cellB hb h9, cellB hb h10, cellB hb h11, cellB hb h12, cellB hb h13, cellB hb h14, cellB hb h15, cellB hb h16, cellB hb h17, cellB hb h18, cellB hb h19, cellB hb h20, cellB hb h21, cellB hb h22, cellB hb h23, cellB hb h24, cellB hb h25, cellB hb h26, cellB hb h27, cellB hb h28⟩

theorem sameDd_self (d : Dd) : sameDd d d = true := (sameDd_iff d d).2 rfl

theorem back_len (d : Dd) (s : ByteArray) (k : Fo) (h : d.path.length ≤ 60) : (doP d s k).2.2.path.length ≤ 100000 := by
  have hb : (backP d s k).path.length ≤ 100000 := by
    unfold backP
    split
    · simp only
      omega
    · split
      · simp only [List.length_dropLast]
        omega
      · simp only [List.length_append, List.length_cons, List.length_nil]
        omega
  unfold doP
  split
  · simp
  · split
    · simp
    · split
      · simp
      · split
        · simp
        · exact hb

set_option maxHeartbeats 2000000 in
theorem law_any (d e : Dd) (s : ByteArray) (ka : Option Addr) (cap : Nat) (k : Fo) (pa pb : Option Addr) (pc qc : Nat) (w : World) (ht : TIn w s ka cap k) (hd : DIn w d pa pc) (he : DIn w e pb qc) (hm : d.many ≤ 9223372036854775807) :
    Calls Try.prog 5 #[.agg #[.string s, .slice ka (flen k) cap], ddV d pa pc, ddV e pb qc] w fun r w' => r = .returned (.bool true) ∧ Below w.heap.size w w' := by
  obtain ⟨W, hW⟩ : ∃ W, W = ((w.alloc (Obj.cells #[Value.string s, Value.slice ka (flen k) cap] 24)).alloc (Obj.cells #[.int .i64 d.kind, .slice pa d.path.length pc, .int .i64 d.pos, .int .i64 d.many, .string d.lab] 44)).alloc (Obj.cells #[.int .i64 e.kind, .slice pb e.path.length qc, .int .i64 e.pos, .int .i64 e.many, .string e.lab] 44) := ⟨_, rfl⟩
  obtain ⟨sW, bW, h0, h1, h2⟩ : W.heap.size = w.heap.size + 1 + 1 + 1 ∧ Below w.heap.size w W ∧ W.heap[w.heap.size]? = some (Obj.cells #[Value.string s, Value.slice ka (flen k) cap] 24) ∧ W.heap[w.heap.size + 1]? = some (Obj.cells #[.int .i64 d.kind, .slice pa d.path.length pc, .int .i64 d.pos, .int .i64 d.many, .string d.lab] 44) ∧ W.heap[w.heap.size + 1 + 1]? = some (Obj.cells #[.int .i64 e.kind, .slice pb e.path.length qc, .int .i64 e.pos, .int .i64 e.many, .string e.lab] 44) := by
    rw [hW]
    obtain ⟨a1, a2, a3, a4⟩ := boxes2 w (Obj.cells #[Value.string s, Value.slice ka (flen k) cap] 24) (Obj.cells #[.int .i64 d.kind, .slice pa d.path.length pc, .int .i64 d.pos, .int .i64 d.many, .string d.lab] 44)
    refine ⟨by simp, a2.alloc (by rw [a1]; omega) _, ?_, ?_, ?_⟩
    · rw [Below.heap_alloc _ _ _ (by rw [a1]; omega)]; exact a3
    · rw [Below.heap_alloc _ _ _ (by rw [a1]; omega)]; exact a4
    · rw [← a1]; exact heap_alloc_new _ _
  have HI := hide (And.intro bW (And.intro h0 (And.intro h1 h2)))
  have HX := hide (And.intro ht (And.intro hd he))
  have hT : ∀ W', Below W.heap.size W W' → Below w.heap.size w W' := fun W' h => bW.trans (h.mono (by omega))
  have HT := hide hT
  clear bW h0 h1 h2 ht hd he hT
  unfold ddV
  go_enter Try.func5, Try.ntmps5
  go_wp2_with fail
  rw [← hW]
  clear hW
  refine Calls.mono (begun_any W) ?_
  rintro r w1 ⟨rfl, hb1⟩
  have i0 : w1.heap[w.heap.size]? = _ := (hb1.block _ (by omega)).trans HI.out.2.1
  have a0 : w1.cell? ⟨w.heap.size, 0, none⟩ = some (.string s) := by rw [cell_of_row _ _ 0 _ _ _ i0]; rfl
  have a1 : w1.cell? ⟨w.heap.size, 1, none⟩ = some (.slice ka (flen k) cap) := by rw [cell_of_row _ _ 1 _ _ _ i0]; rfl
  have HB1 := hide hb1
  clear hb1 i0
  go_wp2_with fail
  refine Calls.mono (great_any s ka cap k w1 (HX.out.1.below (HT.out w1 HB1.out))) ?_
  rintro r w2 ⟨rfl, hb2'⟩
  have hb2 : Below W.heap.size W w2 := HB1.out.trans (hb2'.mono HB1.out.size)
  have HB2 := hide hb2
  cases hg : greatT s k
  case true =>
    clear a0 a1 hb2' hb2
    go_wp2_with fail
    go_ret
    exact ⟨rfl, HT.out w2 HB2.out⟩
  case false =>
    have HG := hide hg
    have i1 : w2.heap[w.heap.size + 1]? = _ := (hb2.block _ (by omega)).trans HI.out.2.2.1
    have p0 : w2.cell? ⟨w.heap.size + 1, 0, none⟩ = some (.int .i64 d.kind) := by rw [cell_of_row _ _ 0 _ _ _ i1]; rfl
    have p1 : w2.cell? ⟨w.heap.size + 1, 1, none⟩ = some (.slice pa d.path.length pc) := by rw [cell_of_row _ _ 1 _ _ _ i1]; rfl
    have p2 : w2.cell? ⟨w.heap.size + 1, 2, none⟩ = some (.int .i64 d.pos) := by rw [cell_of_row _ _ 2 _ _ _ i1]; rfl
    have p3 : w2.cell? ⟨w.heap.size + 1, 3, none⟩ = some (.int .i64 d.many) := by rw [cell_of_row _ _ 3 _ _ _ i1]; rfl
    have p4 : w2.cell? ⟨w.heap.size + 1, 4, none⟩ = some (.string d.lab) := by rw [cell_of_row _ _ 4 _ _ _ i1]; rfl
    have hgd := greatD_any d pa pc w2 (HX.out.2.1.below (HT.out w2 HB2.out))
    unfold ddV at hgd
    have HGD := hide hgd
    clear hg i1 hb2' hb2 a0 a1 hgd
    go_wp2_with fail
    refine Calls.mono HGD.out ?_
    rintro r w3 ⟨rfl, hb3'⟩
    have hb3 : Below W.heap.size W w3 := HB2.out.trans (hb3'.mono HB2.out.size)
    have HB3 := hide hb3
    cases hgd2 : greatD d
    case true =>
      clear p0 p1 p2 p3 p4 hb3 hb3' HGD
      go_wp2_with fail
      go_ret
      exact ⟨rfl, HT.out w3 HB3.out⟩
    case false =>
      have i2 : w3.heap[w.heap.size + 1 + 1]? = _ := (hb3.block _ (by omega)).trans HI.out.2.2.2
      have q0 : w3.cell? ⟨w.heap.size + 1 + 1, 0, none⟩ = some (.int .i64 e.kind) := by rw [cell_of_row _ _ 0 _ _ _ i2]; rfl
      have q1 : w3.cell? ⟨w.heap.size + 1 + 1, 1, none⟩ = some (.slice pb e.path.length qc) := by rw [cell_of_row _ _ 1 _ _ _ i2]; rfl
      have q2 : w3.cell? ⟨w.heap.size + 1 + 1, 2, none⟩ = some (.int .i64 e.pos) := by rw [cell_of_row _ _ 2 _ _ _ i2]; rfl
      have q3 : w3.cell? ⟨w.heap.size + 1 + 1, 3, none⟩ = some (.int .i64 e.many) := by rw [cell_of_row _ _ 3 _ _ _ i2]; rfl
      have q4 : w3.cell? ⟨w.heap.size + 1 + 1, 4, none⟩ = some (.string e.lab) := by rw [cell_of_row _ _ 4 _ _ _ i2]; rfl
      have hge := greatD_any e pb qc w3 (HX.out.2.2.below (HT.out w3 HB3.out))
      unfold ddV at hge
      have HGE := hide hge
      have HD2 := hide hgd2
      clear i2 hb3 hb3' p0 p1 p2 p3 p4 HGD hge hgd2
      go_wp2_with fail
      refine Calls.mono HGE.out ?_
      rintro r w4 ⟨rfl, hb4'⟩
      have hb4 : Below W.heap.size W w4 := HB3.out.trans (hb4'.mono HB3.out.size)
      have HB4 := hide hb4
      cases hge2 : greatD e
      case true =>
        clear q0 q1 q2 q3 q4 hb4 hb4' HGE
        go_wp2_with fail
        go_ret
        exact ⟨rfl, HT.out w4 HB4.out⟩
      case false =>
        have i0 : w4.heap[w.heap.size]? = _ := (hb4.block _ (by omega)).trans HI.out.2.1
        have a0 : w4.cell? ⟨w.heap.size, 0, none⟩ = some (.string s) := by rw [cell_of_row _ _ 0 _ _ _ i0]; rfl
        have a1 : w4.cell? ⟨w.heap.size, 1, none⟩ = some (.slice ka (flen k) cap) := by rw [cell_of_row _ _ 1 _ _ _ i0]; rfl
        have hn200 := greatT_small HG.out
        obtain ⟨hs1000, hlong⟩ := great_long HG.out
        obtain ⟨hdp, hdl⟩ : d.path.length ≤ 60 ∧ d.lab.size ≤ 100 := by
          have := HD2.out
          unfold greatD at this
          simp only [Bool.or_eq_false_iff, decide_eq_false_iff_not] at this
          omega
        have hep : e.path.length ≤ 60 := by
          unfold greatD at hge2
          simp only [Bool.or_eq_false_iff, decide_eq_false_iff_not] at hge2
          omega
        clear q0 q1 q2 q3 q4 hb4' i0 hge2 HGE
        go_wp2_with fail
        refine Calls.mono (refOwn_any s ka cap k w4 (by omega) (HX.out.1.below (HT.out w4 HB4.out))) ?_
        rintro r w5 ⟨kaO, capO, kO, rfl, hstO, htO, hfrO, hplO, hndO, hb5⟩
        have hb5W : Below W.heap.size W w5 := HB4.out.trans (hb5.mono HB4.out.size)
        obtain ⟨V5, hV5⟩ : ∃ V5, V5 = w5.alloc (Obj.cells #[Value.string s, Value.slice kaO (flen kO) capO] 24) := ⟨_, rfl⟩
        have b5V : Below w5.heap.size w5 V5 := by rw [hV5]; exact (Below.refl _ _).alloc (Nat.le_refl _) _
        have sV5 : V5.heap.size = w5.heap.size + 1 := by rw [hV5]; simp
        have nV5 : V5.heap[w5.heap.size]? = some (Obj.cells #[Value.string s, Value.slice kaO (flen kO) capO] 24) := by rw [hV5]; exact heap_alloc_new _ _
        have bWV5 : Below W.heap.size W V5 := hb5W.trans (b5V.mono hb5W.size)
        have i1 : V5.heap[w.heap.size + 1]? = _ := (bWV5.block _ (by omega)).trans HI.out.2.2.1
        have p0 : V5.cell? ⟨w.heap.size + 1, 0, none⟩ = some (.int .i64 d.kind) := by rw [cell_of_row _ _ 0 _ _ _ i1]; rfl
        have p1 : V5.cell? ⟨w.heap.size + 1, 1, none⟩ = some (.slice pa d.path.length pc) := by rw [cell_of_row _ _ 1 _ _ _ i1]; rfl
        have p2 : V5.cell? ⟨w.heap.size + 1, 2, none⟩ = some (.int .i64 d.pos) := by rw [cell_of_row _ _ 2 _ _ _ i1]; rfl
        have p3 : V5.cell? ⟨w.heap.size + 1, 3, none⟩ = some (.int .i64 d.many) := by rw [cell_of_row _ _ 3 _ _ _ i1]; rfl
        have p4 : V5.cell? ⟨w.heap.size + 1, 4, none⟩ = some (.string d.lab) := by rw [cell_of_row _ _ 4 _ _ _ i1]; rfl
        have hdo := pdo_any d s kaO capO kO pa pc V5 (htO.below b5V) (hplO.below b5V) (by rw [fnodes_of_strip hstO]; exact hn200) hs1000 (small_of hlong hstO) (HX.out.2.1.below (HT.out V5 bWV5)) hdp hdl
        rw [doP_congr d s hstO] at hdo
        obtain ⟨R, hR⟩ : ∃ R, R = doP d s k := ⟨_, rfl⟩
        rw [← hR] at hdo
        have HRE := hide hR.symm
        unfold ddV at hdo
        have HDO := hide hdo
        have H5 := hide (And.intro bWV5 (And.intro (htO.below b5V) (And.intro hstO nV5)))
        clear hdo hb5W b5V nV5 bWV5 i1 hstO htO hfrO hplO hndO hb5 a0 a1 hb4
        rw [hV5] at p0 p1 p2 p3 p4
        go_wp2_with fail
        rw [← hV5]
        clear hV5 p0 p1 p2 p3 p4
        refine Calls.mono HDO.out ?_
        rintro r w6 ⟨sx, kax, capx, kx, pax, pcx, rfl, hsx, hstx, htx, hfrx, hpx, hdx, hb6⟩
        obtain ⟨c, hc⟩ : ∃ c, c = R.1 := ⟨_, rfl⟩
        obtain ⟨dx, hdxe⟩ : ∃ dx, dx = R.2.2 := ⟨_, rfl⟩
        rw [← hdxe] at hdx ⊢
        rw [← hc]
        have s6 := hb6.size
        have hb6W : Below W.heap.size W w6 := H5.out.1.trans (hb6.mono H5.out.1.size)
        obtain ⟨V6, hV6⟩ : ∃ V6, V6 = (w6.alloc (Obj.cells #[Value.string sx, Value.slice kax (flen kx) capx] 24)).alloc (Obj.cells #[.int .i64 dx.kind, .slice pax dx.path.length pcx, .int .i64 dx.pos, .int .i64 dx.many, .string dx.lab] 44) := ⟨_, rfl⟩
        obtain ⟨sV6, b6V, n61, n62⟩ := boxes2 w6 (Obj.cells #[Value.string sx, Value.slice kax (flen kx) capx] 24) (Obj.cells #[.int .i64 dx.kind, .slice pax dx.path.length pcx, .int .i64 dx.pos, .int .i64 dx.many, .string dx.lab] 44)
        rw [← hV6] at sV6 b6V n61 n62
        have bWV6 : Below W.heap.size W V6 := hb6W.trans (b6V.mono hb6W.size)
        have i0 : V6.heap[w.heap.size]? = _ := (bWV6.block _ (by omega)).trans HI.out.2.1
        have i1 : V6.heap[w.heap.size + 1]? = _ := (bWV6.block _ (by omega)).trans HI.out.2.2.1
        have a0 : V6.cell? ⟨w.heap.size, 0, none⟩ = some (.string s) := by rw [cell_of_row _ _ 0 _ _ _ i0]; rfl
        have a1 : V6.cell? ⟨w.heap.size, 1, none⟩ = some (.slice ka (flen k) cap) := by rw [cell_of_row _ _ 1 _ _ _ i0]; rfl
        have p0 : V6.cell? ⟨w.heap.size + 1, 0, none⟩ = some (.int .i64 d.kind) := by rw [cell_of_row _ _ 0 _ _ _ i1]; rfl
        have p1 : V6.cell? ⟨w.heap.size + 1, 1, none⟩ = some (.slice pa d.path.length pc) := by rw [cell_of_row _ _ 1 _ _ _ i1]; rfl
        have p2 : V6.cell? ⟨w.heap.size + 1, 2, none⟩ = some (.int .i64 d.pos) := by rw [cell_of_row _ _ 2 _ _ _ i1]; rfl
        have p3 : V6.cell? ⟨w.heap.size + 1, 3, none⟩ = some (.int .i64 d.many) := by rw [cell_of_row _ _ 3 _ _ _ i1]; rfl
        have p4 : V6.cell? ⟨w.heap.size + 1, 4, none⟩ = some (.string d.lab) := by rw [cell_of_row _ _ 4 _ _ _ i1]; rfl
        have hrd := rdo_any d s ka cap k pa pc V6 (HX.out.1.below (HT.out V6 bWV6)) (HX.out.2.1.below (HT.out V6 bWV6)) hm hdp
        rw [← hR] at hrd
        unfold ddV at hrd
        have HRD := hide hrd
        have H6 := hide (And.intro bWV6 (And.intro (htx.below b6V) (And.intro hstx (And.intro hsx (And.intro (hdx.below b6V) (And.intro n61 (And.intro n62 (And.intro (hb6.trans (b6V.mono s6)) (And.intro hc hdxe)))))))))
        clear hrd hR hsx hstx htx hfrx hpx hdx hb6 hb6W b6V n61 n62 bWV6 i0 i1 HDO hc hdxe
        unfold ddV
        rw [hV6] at a0 a1 p0 p1 p2 p3 p4
        go_wp2_with fail
        rw [← hV6]
        clear hV6 a0 a1 p0 p1 p2 p3 p4
        refine Calls.mono HRD.out ?_
        rintro r w7 ⟨sy, kay, capy, ky, pay, pcy, rfl, hsy, hsty, hty, hfry, hpy, hdy, hb7⟩
        obtain ⟨bWV6, htx, hstx, hsx, hdx, n61, n62, b56, hc, hdxe⟩ := H6.out
        rw [← hdxe] at hdy ⊢
        rw [← hc]
        have hsxy : sy = sx := hsy.trans hsx.symm
        subst hsxy
        have s7 := hb7.size
        have hb7W : Below W.heap.size W w7 := bWV6.trans (hb7.mono bWV6.size)
        obtain ⟨V7, hV7⟩ : ∃ V7, V7 = (w7.alloc (Obj.cells #[Value.string sy, Value.slice kay (flen ky) capy] 24)).alloc (Obj.cells #[.int .i64 dx.kind, .slice pay dx.path.length pcy, .int .i64 dx.pos, .int .i64 dx.many, .string dx.lab] 44) := ⟨_, rfl⟩
        obtain ⟨sV7, b7V, n71, n72⟩ := boxes2 w7 (Obj.cells #[Value.string sy, Value.slice kay (flen ky) capy] 24) (Obj.cells #[.int .i64 dx.kind, .slice pay dx.path.length pcy, .int .i64 dx.pos, .int .i64 dx.many, .string dx.lab] 44)
        rw [← hV7] at sV7 b7V n71 n72
        have bWV7 : Below W.heap.size W V7 := hb7W.trans (b7V.mono hb7W.size)
        have b67 : Below V6.heap.size V6 V7 := hb7.trans (b7V.mono s7)
        have b57 : Below V5.heap.size V5 V7 := b56.trans (b67.mono b56.size)
        have i0 : V7.heap[w.heap.size]? = _ := (bWV7.block _ (by omega)).trans HI.out.2.1
        have i1 : V7.heap[w.heap.size + 1]? = _ := (bWV7.block _ (by omega)).trans HI.out.2.2.1
        have i2 : V7.heap[w.heap.size + 1 + 1]? = _ := (bWV7.block _ (by omega)).trans HI.out.2.2.2
        have i5 : V7.heap[w5.heap.size]? = _ := (b57.block _ (by omega)).trans H5.out.2.2.2
        have i61 : V7.heap[w6.heap.size]? = _ := (b67.block _ (by omega)).trans n61
        have i62 : V7.heap[w6.heap.size + 1]? = _ := (b67.block _ (by omega)).trans n62
        have hr := (Below.refl V7.heap.size V7).drew
        have hS0 : LawS w.heap.size (w.heap.size + 1) (w.heap.size + 1 + 1) w5.heap.size w6.heap.size (w6.heap.size + 1) w7.heap.size (w7.heap.size + 1) s ka (flen k) cap d e pa pb pc qc kaO (flen kO) capO sy kax (flen kx) capx dx pax pcx kay (flen ky) capy pay pcy V7 V7.drew :=
          ⟨hr, cellB hr (by rw [cell_of_row _ _ 0 _ _ _ i0]; rfl), cellB hr (by rw [cell_of_row _ _ 1 _ _ _ i0]; rfl), cellB hr (by rw [cell_of_row _ _ 0 _ _ _ i1]; rfl), cellB hr (by rw [cell_of_row _ _ 1 _ _ _ i1]; rfl), cellB hr (by rw [cell_of_row _ _ 2 _ _ _ i1]; rfl), cellB hr (by rw [cell_of_row _ _ 3 _ _ _ i1]; rfl), cellB hr (by rw [cell_of_row _ _ 4 _ _ _ i1]; rfl), cellB hr (by rw [cell_of_row _ _ 0 _ _ _ i2]; rfl), cellB hr (by rw [cell_of_row _ _ 1 _ _ _ i2]; rfl), cellB hr (by rw [cell_of_row _ _ 2 _ _ _ i2]; rfl), cellB hr (by rw [cell_of_row _ _ 3 _ _ _ i2]; rfl), cellB hr (by rw [cell_of_row _ _ 4 _ _ _ i2]; rfl), cellB hr (by rw [cell_of_row _ _ 0 _ _ _ i5]; rfl), cellB hr (by rw [cell_of_row _ _ 1 _ _ _ i5]; rfl), cellB hr (by rw [cell_of_row _ _ 0 _ _ _ i61]; rfl), cellB hr (by rw [cell_of_row _ _ 1 _ _ _ i61]; rfl), cellB hr (by rw [cell_of_row _ _ 0 _ _ _ i62]; rfl), cellB hr (by rw [cell_of_row _ _ 1 _ _ _ i62]; rfl), cellB hr (by rw [cell_of_row _ _ 2 _ _ _ i62]; rfl), cellB hr (by rw [cell_of_row _ _ 3 _ _ _ i62]; rfl), cellB hr (by rw [cell_of_row _ _ 4 _ _ _ i62]; rfl), cellB hr (by rw [cell_of_row _ _ 0 _ _ _ n71]; rfl), cellB hr (by rw [cell_of_row _ _ 1 _ _ _ n71]; rfl), cellB hr (by rw [cell_of_row _ _ 0 _ _ _ n72]; rfl), cellB hr (by rw [cell_of_row _ _ 1 _ _ _ n72]; rfl), cellB hr (by rw [cell_of_row _ _ 2 _ _ _ n72]; rfl), cellB hr (by rw [cell_of_row _ _ 3 _ _ _ n72]; rfl), cellB hr (by rw [cell_of_row _ _ 4 _ _ _ n72]; rfl)⟩
        have hbT : ∀ W', Below V7.heap.size V7 W' → Below w.heap.size w W' := fun W' h => HT.out W' (bWV7.trans (h.mono bWV7.size))
        obtain ⟨ft, hft⟩ : ∃ b, b = deedFault d := ⟨_, rfl⟩
        obtain ⟨sb, hsb⟩ : ∃ b, b = sameDd d e := ⟨_, rfl⟩
        have k1 : ∀ W', Below V7.heap.size V7 W' → Calls Try.prog 22 #[ddV d pa pc] W' fun e w' => e = .returned (.int .i64 ft) ∧ Below W'.heap.size W' w' := fun W' h => by
          rw [hft]
          exact dcheck_any d pa pc W' (HX.out.2.1.below (hbT W' h))
        have k2 : ∀ W', Below V7.heap.size V7 W' → Calls Try.prog 23 #[ddV d pa pc] W' fun e w' => e = .returned (.int .i64 ft) ∧ Below W'.heap.size W' w' := fun W' h => by
          rw [hft]
          exact refDF_any d pa pc W' (HX.out.2.1.below (hbT W' h))
        have k3 : ∀ W', Below V7.heap.size V7 W' → Calls Try.prog 24 #[ddV d pa pc, ddV e pb qc] W' fun r w' => r = .returned (.bool sb) ∧ Below W'.heap.size W' w' := fun W' h => by
          rw [hsb]
          exact dsame_any d e pa pb pc qc W' (HX.out.2.1.below (hbT W' h)) (HX.out.2.2.below (hbT W' h)) (by omega)
        have k4 : ∀ W', Below V7.heap.size V7 W' → Calls Try.prog 25 #[ddV d pa pc, ddV e pb qc] W' fun r w' => r = .returned (.bool sb) ∧ Below W'.heap.size W' w' := fun W' h => by
          rw [hsb]
          exact sameD_any d e pa pb pc qc W' (HX.out.2.1.below (hbT W' h)) (HX.out.2.2.below (hbT W' h)) (by omega)
        have hdx7 := hdx.below b67
        have hdy7 := hdy.below b7V
        have hxl : dx.path.length ≤ 100000 := by
          rw [hdxe, ← HRE.out]
          exact back_len d s k hdp
        have k5 : ∀ W', Below V7.heap.size V7 W' → Calls Try.prog 25 #[ddV dx pax pcx, ddV dx pay pcy] W' fun r w' => r = .returned (.bool true) ∧ Below W'.heap.size W' w' := fun W' h => by
          have := sameD_any dx dx pax pay pcx pcy W' (hdx7.below h) (hdy7.below h) hxl
          rw [sameDd_self] at this
          exact this
        have k6 : ∀ W', Below V7.heap.size V7 W' → Calls Try.prog 26 #[.agg #[.string sy, .slice kax (flen kx) capx], .agg #[.string sy, .slice kay (flen ky) capy]] W' fun r w' => r = .returned (.bool true) ∧ Below W'.heap.size W' w' := fun W' h => by
          have := sameTree_any sy kax capx kx sy kay capy ky W' ((htx.below b67).below h) ((hty.below b7V).below h)
          rw [sameT_of_strip (hstx.trans hsty.symm)] at this
          exact this
        have k7 : ∀ W', Below V7.heap.size V7 W' → Calls Try.prog 26 #[.agg #[.string s, .slice kaO (flen kO) capO], .agg #[.string s, .slice ka (flen k) cap]] W' fun r w' => r = .returned (.bool true) ∧ Below W'.heap.size W' w' := fun W' h => by
          have := sameTree_any s kaO capO kO s ka cap k W' ((H5.out.2.1.below b57).below h) (HX.out.1.below (hbT W' h))
          rw [sameT_of_strip H5.out.2.2.1] at this
          exact this
        unfold ddV at k1 k2 k3 k4 k5
        have K1 := hide k1
        have K2 := hide k2
        have K3 := hide k3
        have K4 := hide k4
        have K5 := hide k5
        have K6 := hide k6
        have K7 := hide k7
        have HE := hide hbT
        have HS0 := hide hS0
        clear k1 k2 k3 k4 k5 k6 k7 hbT hS0 hr i0 i1 i2 i5 i61 i62 b57 b67 b7V n71 n72 bWV7 hb7W hb7 hdx7 hdy7 hxl hft hsb htx hstx hsx hdx n61 n62 b56 hc hdxe hsy hsty hty hfry hpy hdy bWV6 H6 HRD
        unfold ddV
        go_wp2_with fail
        rw [← hV7]
        clear hV7
        cases sb
        all_goals
          go_region_held3 (fun w' => Below V7.heap.size V7 w' ∧ w'.cell? ⟨w.heap.size, 0, none⟩ = some (.string s) ∧ w'.cell? ⟨w.heap.size, 1, none⟩ = some (.slice ka (flen k) cap) ∧ w'.cell? ⟨w.heap.size + 1, 0, none⟩ = some (.int .i64 d.kind) ∧ w'.cell? ⟨w.heap.size + 1, 1, none⟩ = some (.slice pa d.path.length pc) ∧ w'.cell? ⟨w.heap.size + 1, 2, none⟩ = some (.int .i64 d.pos) ∧ w'.cell? ⟨w.heap.size + 1, 3, none⟩ = some (.int .i64 d.many) ∧ w'.cell? ⟨w.heap.size + 1, 4, none⟩ = some (.string d.lab) ∧ w'.cell? ⟨w.heap.size + 1 + 1, 0, none⟩ = some (.int .i64 e.kind) ∧ w'.cell? ⟨w.heap.size + 1 + 1, 1, none⟩ = some (.slice pb e.path.length qc) ∧ w'.cell? ⟨w.heap.size + 1 + 1, 2, none⟩ = some (.int .i64 e.pos) ∧ w'.cell? ⟨w.heap.size + 1 + 1, 3, none⟩ = some (.int .i64 e.many) ∧ w'.cell? ⟨w.heap.size + 1 + 1, 4, none⟩ = some (.string e.lab) ∧ w'.cell? ⟨w5.heap.size, 0, none⟩ = some (.string s) ∧ w'.cell? ⟨w5.heap.size, 1, none⟩ = some (.slice kaO (flen kO) capO) ∧ w'.cell? ⟨w6.heap.size, 0, none⟩ = some (.string sy) ∧ w'.cell? ⟨w6.heap.size, 1, none⟩ = some (.slice kax (flen kx) capx) ∧ w'.cell? ⟨w6.heap.size + 1, 0, none⟩ = some (.int .i64 dx.kind) ∧ w'.cell? ⟨w6.heap.size + 1, 1, none⟩ = some (.slice pax dx.path.length pcx) ∧ w'.cell? ⟨w6.heap.size + 1, 2, none⟩ = some (.int .i64 dx.pos) ∧ w'.cell? ⟨w6.heap.size + 1, 3, none⟩ = some (.int .i64 dx.many) ∧ w'.cell? ⟨w6.heap.size + 1, 4, none⟩ = some (.string dx.lab) ∧ w'.cell? ⟨w7.heap.size, 0, none⟩ = some (.string sy) ∧ w'.cell? ⟨w7.heap.size, 1, none⟩ = some (.slice kay (flen ky) capy) ∧ w'.cell? ⟨w7.heap.size + 1, 0, none⟩ = some (.int .i64 dx.kind) ∧ w'.cell? ⟨w7.heap.size + 1, 1, none⟩ = some (.slice pay dx.path.length pcy) ∧ w'.cell? ⟨w7.heap.size + 1, 2, none⟩ = some (.int .i64 dx.pos) ∧ w'.cell? ⟨w7.heap.size + 1, 3, none⟩ = some (.int .i64 dx.many) ∧ w'.cell? ⟨w7.heap.size + 1, 4, none⟩ = some (.string dx.lab))
            (first | exact LawS.on (by assumption) (by assumption) | assumption | exact HS0.out)
            (first
              | (go_at_call 22; refine (K1.out _ (And.left (by assumption))).mono ?_; rintro r w2' ⟨rfl, hb2⟩)
              | (go_at_call 23; refine (K2.out _ (And.left (by assumption))).mono ?_; rintro r w2' ⟨rfl, hb2⟩)
              | (go_at_call 24; refine (K3.out _ (And.left (by assumption))).mono ?_; rintro r w2' ⟨rfl, hb2⟩)
              | (go_at_call_of 25 pb; refine (K4.out _ (And.left (by assumption))).mono ?_; rintro r w2' ⟨rfl, hb2⟩)
              | (go_at_call_of 25 pax; refine (K5.out _ (And.left (by assumption))).mono ?_; rintro r w2' ⟨rfl, hb2⟩)
              | (go_at_call_of 26 kax; refine (K6.out _ (And.left (by assumption))).mono ?_; rintro r w2' ⟨rfl, hb2⟩)
              | (go_at_call_of 26 kaO; refine (K7.out _ (And.left (by assumption))).mono ?_; rintro r w2' ⟨rfl, hb2⟩))
        all_goals (go_wp2_with fail; go_ret; exact ⟨rfl, HE.out _ (And.left (by assumption))⟩)
end Go.Proofs.Ytpgiagkbfnbgkab.Deed
