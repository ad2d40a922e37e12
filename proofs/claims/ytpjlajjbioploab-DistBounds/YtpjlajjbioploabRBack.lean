/- tree.comesBack of a way whose lists are all others, in memory of whatever marks, answers something. Of the program's text. -/
import Derived.Test.YtpjlajjbioploabProg
import Derived.Test.YtpjlajjbioploabBack
namespace Go.Proofs.Ytpjlajjbioploab
open Go.Deep Go.RowKit
set_option linter.unusedVariables false
set_option maxRecDepth 20000

/-- A block of cells that is not frozen at a place. -/
def BCold (w : World) (b o : Nat) : Prop := (∃ c t fr, w.heap[b]? = some (.cells c t fr)) ∧ w.frozen? ⟨b, o, none⟩ = false
theorem BCold.lt {w : World} {b o : Nat} (h : BCold w b o) : b < w.heap.size := by
  obtain ⟨⟨c, t, fr, h⟩, _⟩ := h
  rcases Nat.lt_or_ge b w.heap.size with h' | h'
  · exact h'
  · rw [Array.getElem?_eq_none h'] at h; cases h
theorem BCold.of_block {w w' : World} {b o : Nat} (hb : w'.heap[b]? = w.heap[b]?) (h : BCold w b o) : BCold w' b o := by
  obtain ⟨⟨c, t, fr, h1⟩, h2⟩ := h
  refine ⟨⟨c, t, fr, by rw [hb]; exact h1⟩, ?_⟩
  unfold World.frozen? at h2 ⊢
  rw [hb]
  exact h2
theorem BCold.below {w w' : World} {b o : Nat} (hb : Below w.heap.size w w') (h : BCold w b o) : BCold w' b o := h.of_block (hb.block b h.lt)
theorem BPlain.cold {w : World} {b : Nat} (o : Nat) (h : BPlain w b) : BCold w b o := by
  obtain ⟨c, e, h⟩ := h
  refine ⟨⟨c, e, _, h⟩, ?_⟩
  simp [World.frozen?, h]
/-- All lists of a forest are cold at their nodes. -/
def FCold (w : World) : Fo → Prop
  | .nil => True
  | .node b o _ k r => BCold w b o ∧ FCold w k ∧ FCold w r
theorem FCold.below {w w' : World} (hb : Below w.heap.size w w') : ∀ {f : Fo}, FCold w f → FCold w' f
  | .nil, _ => trivial
  | .node _ _ _ _ _, ⟨h1, h2, h3⟩ => ⟨h1.below hb, FCold.below hb h2, FCold.below hb h3⟩
theorem FCold.drop {w : World} : ∀ (j : Nat) {f : Fo}, FCold w f → FCold w (fdrop j f)
  | 0, _, h => h
  | _ + 1, .nil, _ => trivial
  | j + 1, .node _ _ _ _ _, ⟨_, _, h3⟩ => FCold.drop j h3
theorem FPlain.cold {w : World} : ∀ {f : Fo}, FPlain w f → FCold w f
  | .nil, _ => trivial
  | .node _ o _ _ _, ⟨h1, h2, h3⟩ => ⟨h1.cold o, h2.cold, h3.cold⟩

theorem run_sameAddr_raw {P : Program} (w : World) {a b : Addr} (hne : a ≠ b) (ha : BCold w a.block a.off) (hb : BCold w b.block b.off) : ∃ r m, (sameAddr a b).run P w = .ok r (w.drewN m) := by
  by_cases hbl : a.block = b.block
  · exact ⟨false, 0, by simp [sameAddr, hbl, hne, World.drewN_zero]⟩
  · obtain ⟨⟨ca, ta, fa, h1⟩, h2⟩ := ha
    obtain ⟨⟨cb, tb, fb, h3⟩, h4⟩ := hb
    have e2 : w.frozen? a = false := by simpa [World.frozen?] using h2
    have e4 : w.frozen? b = false := by simpa [World.frozen?] using h4
    have hm : ∃ β, (mayBeOne a b).run P w = .ok β w := by
      simp [mayBeOne, stringish, e2, e4, World.shape?, h1, h3]
    obtain ⟨β, hm⟩ := hm
    cases β with
    | false => exact ⟨false, 0, by simp [sameAddr, hbl, e2, e4, noView, viewAt, World.shape?, h1, h3, hm, World.drewN_zero]⟩
    | true =>
      by_cases hq : (Question.extern "sameAddr.stringBytes" 2).forced = true
      · exact ⟨false, 0, by simp [sameAddr, hbl, e2, e4, noView, viewAt, World.shape?, h1, h3, hm, hq, World.drewN_zero]⟩
      · exact ⟨_, 1, by simp [sameAddr, hbl, e2, e4, noView, viewAt, World.shape?, h1, h3, hm, hq]; exact ⟨rfl, rfl⟩⟩
theorem run_eql_ptr_raw {P : Program} (w : World) {tp te : TypeId} {j : TypeInfo} {a b : Addr} (hp : P.underlying tp = some (.pointer te)) (hte : P.info? te = some j) (hsz : j.size ≠ 0)
    (hne : a ≠ b) (ha : BCold w a.block a.off) (hb : BCold w b.block b.off) : ∃ r m, (binOp .eql tp (.pointer (some a)) (.pointer (some b))).run P w = .ok (.bool r) (w.drewN m) := by
  obtain ⟨r, m, hr⟩ := run_sameAddr_raw (P := P) w hne ha hb
  refine ⟨r, m, ?_⟩
  have h : ∀ d : Nat, (Op.equalIn (d + 1) tp (.pointer (some a)) (.pointer (some b))).run P w = .ok r (w.drewN m) := fun d => by
    simp [Op.equalIn, run_underlying hp, sizeOf, typeInfo, hte, hsz, hr]
  simp only [binOp]
  simp [Op.equal, Op.maxDepth, h 9999]

set_option maxHeartbeats 2000000 in
theorem back_raw (l : List St) (g cap : Nat) (w : World) (hl : l.length ≤ 256) (h0 : 0 < l.length) (hc : l.length ≤ cap) (hcell : ∀ j u, (wayCells l)[j]? = some u → w.cell? ⟨g, 0 + j, none⟩ = some u)
    (hplain : ∀ s, s ∈ l → BCold w s.1.block s.1.off) (hpos : ∀ s, s ∈ l → 0 < s.2.1) (hcap : ∀ s, s ∈ l → s.2.1 ≤ s.2.2.1 ∧ s.2.2.1 ≤ maxLen)
    (hdiff : ∀ (i j : Nat) (s t : St), i < j → l[i]? = some s → l[j]? = some t → ¬ (s.2.1 = t.2.1 ∧ s.1 = t.1)) :
    Calls Try.prog 40 #[.slice (some ⟨g, 0, none⟩) l.length cap] w fun e w' => (∃ r, e = .returned (.bool r)) ∧ Below w.heap.size w w' := by
  by_cases h3 : l.length < 3
  · go_enter Try.func40, Try.ntmps40
    go_wp2_with fail
    go_ret
    exact ⟨⟨_, rfl⟩, Below.refl _ _⟩
  · obtain ⟨q, hq⟩ : ∃ q, l.length = q + 2 := ⟨l.length - 2, by omega⟩
    rw [hq]
    have HQ := hide hq
    have hq1 : 1 ≤ q := by omega
    have hq2 : q ≤ 254 := by omega
    clear hq h3
    obtain ⟨L1, L8, L2⟩ := bitLen_bd' q (by omega) (by omega)
    go_enter Try.func40, Try.ntmps40
    go_wp2_with fail
    rw [show ((q : Int) + 2 - 1 - 1) = (q : Int) by omega, show ((q : Int) + 2 - 1) = ((q + 1 : Nat) : Int) by omega]
    refine (len_any (q : Int) _ (by omega) (by omega)).mono ?_
    rintro e w1 ⟨rfl, rfl⟩
    rw [Int.toNat_natCast]
    obtain ⟨m, hm⟩ : ∃ m, Lib.bitLen q = m + 1 := ⟨Lib.bitLen q - 1, by omega⟩
    rw [hm] at L2 L8 ⊢
    have hm7 : m ≤ 7 := by omega
    have hmq : 2 ^ m ≤ q := by simpa using L2
    clear L1 L2 L8 hm
    rw [show (((m + 1 : Nat) : Int)) = (m : Int) + 1 by omega]
    go_wp2_with fail
    obtain ⟨M, hM, hM1, hM2⟩ : ∃ M : Nat, wrap64 (2 ^ m) = (M : Int) ∧ 1 ≤ M ∧ M ≤ q := by
      refine ⟨2 ^ m, ?_, Nat.one_le_two_pow, hmq⟩
      have e : ((2 : Int) ^ m) = ((2 ^ m : Nat) : Int) := by simp
      rw [e]
      generalize (2 : Nat) ^ m = f at *
      unfold wrap64
      omega
    rw [hM]
    clear hM hmq hm7
    obtain ⟨x, hx⟩ : ∃ x, l[M]? = some x := ⟨_, List.getElem?_eq_getElem (by have := HQ.out; omega)⟩
    obtain ⟨y, hy⟩ : ∃ y, l[q + 1]? = some y := ⟨_, List.getElem?_eq_getElem (by have := HQ.out; omega)⟩
    have hd := hdiff M (q + 1) x y (by omega) hx hy
    have px := hpos x (List.mem_of_getElem? hx)
    have py := hpos y (List.mem_of_getElem? hy)
    obtain ⟨cx, mx⟩ := hcap x (List.mem_of_getElem? hx)
    obtain ⟨cy, my⟩ := hcap y (List.mem_of_getElem? hy)
    have hcx : w1.cell? ⟨g, M * 2, none⟩ = some (.slice (some x.1) x.2.1 x.2.2.1) := by simpa using hcell _ _ (wayCells_at l M x hx).1
    have hcy : w1.cell? ⟨g, (q + 1) * 2, none⟩ = some (.slice (some y.1) y.2.1 y.2.2.1) := by simpa using hcell _ _ (wayCells_at l (q + 1) y hy).1
    have bx := hplain x (List.mem_of_getElem? hx)
    have bY := hplain y (List.mem_of_getElem? hy)
    obtain ⟨xa, xl, xc, xn⟩ := x
    obtain ⟨ya, yl, yc, yn⟩ := y
    simp only at hd px py cx cy mx my hcx hcy bx bY
    unfold maxLen at mx my
    have HD := hide hd
    clear hd hx hy hdiff hcell hpos hcap hplain
    by_cases hlen : xl = yl
    · have he : ((xl : Int) == (yl : Int)) = true := by rw [hlen]; simp
      have hne : ¬ xa = ya := fun e => HD.out ⟨hlen, e⟩
      have hpe : ∀ n, ∃ r m, (binOp .eql 75 (.pointer (some xa)) (.pointer (some ya))).run Try.prog (w1.drewN n) = .ok (.bool r) ((w1.drewN n).drewN m) := fun n => by
        obtain ⟨i24, hi24, hz0, hz1, hz2⟩ := info_parts Try.infoTree'
        exact run_eql_ptr_raw _ Try.underlying75 hi24 (by rw [hz1]; decide) hne (bx.of_block rfl) (bY.of_block rfl)
      clear hlen hne bx bY
      go_quiet (fail)
      go_wp2_with fail
      obtain ⟨r, m, hr⟩ := hpe (nq + 1)
      clear hpe
      refine wp_region_any (by kernel_rfl) ?_
      change wpAny _ _ _ _ _ _ _ (World.drew _)
      refine wpAny_take (i := 0) (v := .slice (some xa) xl xc) rfl (by kernel_rfl) (by kernel_rfl) (by kernel_rfl) (fun _ _ _ h => h) (Or.inl ⟨by rfl, by intro w; go_simp⟩) ?_
      refine wpAny_take (i := 1) (v := .int .i64 xl) rfl (by kernel_rfl) (by kernel_rfl) (by kernel_rfl) (fun _ _ _ h => h) (Or.inl ⟨by rfl, by intro w; go_simp⟩) ?_
      refine wpAny_take (i := 2) (v := .slice (some ya) yl yc) rfl (by kernel_rfl) (by kernel_rfl) (by kernel_rfl) (fun _ _ _ h => h) (Or.inl ⟨by rfl, by intro w; go_simp⟩) ?_
      refine wpAny_take (i := 3) (v := .int .i64 yl) rfl (by kernel_rfl) (by kernel_rfl) (by kernel_rfl) (fun _ _ _ h => h) (Or.inl ⟨by rfl, by intro w; go_simp⟩) ?_
      refine wpAny_take (i := 4) (v := .bool true) rfl (by kernel_rfl) (by kernel_rfl) (by kernel_rfl) (fun _ _ _ h => h) (Or.inl ⟨by rfl, by intro w; go_simp⟩) ?_
      refine wpAny_take (i := 5) (v := .bool true) rfl (by kernel_rfl) (by kernel_rfl) (by kernel_rfl) (fun _ _ _ h => h) (Or.inl ⟨by rfl, by intro w; go_simp⟩) ?_
      refine wpAny_take (i := 6) (v := .slice (some xa) xl xc) rfl (by kernel_rfl) (by kernel_rfl) (by kernel_rfl) (fun _ _ _ h => h) (Or.inl ⟨by simp [Region.wanted, yielded, Act.put], by intro w; go_simp⟩) ?_
      refine wpAny_take (i := 7) (v := .pointer (some xa)) rfl (by kernel_rfl) (by kernel_rfl) (by kernel_rfl) (fun _ _ _ h => h) (Or.inl ⟨by simp [Region.wanted, yielded, Act.put], by intro w; go_simp⟩) ?_
      refine wpAny_take (i := 8) (v := .slice (some ya) yl yc) rfl (by kernel_rfl) (by kernel_rfl) (by kernel_rfl) (fun _ _ _ h => h) (Or.inl ⟨by simp [Region.wanted, yielded, Act.put], by intro w; go_simp⟩) ?_
      refine wpAny_take (i := 9) (v := .pointer (some ya)) rfl (by kernel_rfl) (by kernel_rfl) (by kernel_rfl) (fun _ _ _ h => h) (Or.inl ⟨by simp [Region.wanted, yielded, Act.put], by intro w; go_simp⟩) ?_
      refine wpAny_ready (rs := [10]) (by kernel_rfl) (by simp) ?_
      refine AllReady.cons rfl (fun K hK => ?_) AllReady.nil
      go_simp
      refine hK _ _ ?_
      clear hK K
      refine wpAny_ready (rs := [11]) (by kernel_rfl) (by simp) ?_
      refine AllReady.cons rfl (fun K hK => ?_) AllReady.nil
      go_simp
      refine hK _ _ ?_
      clear hK K
      refine wpAny_ready (rs := [12]) (by kernel_rfl) (by simp) ?_
      refine AllReady.cons rfl (fun K hK => ?_) AllReady.nil
      go_simp
      refine hK _ _ ?_
      clear hK K
      refine wpAny_done (by kernel_rfl) ?_ _
      go_wp2_with fail
      go_ret
      exact ⟨⟨_, rfl⟩, below_drewN (Below.refl _ _) _⟩
    · have he : ((xl : Int) == (yl : Int)) = false := beq_eq_false_iff_ne.2 (by omega)
      clear hlen bx bY
      go_quiet (fail)
      go_wp2_with fail
      go_quiet (fail)
      go_wp2_with fail
      go_ret
      exact ⟨⟨_, rfl⟩, below_drewN (below_drewN (Below.refl _ _) _) _⟩

end Go.Proofs.Ytpjlajjbioploab
