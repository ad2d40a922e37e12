/- tree.comesBack of a way whose lists are all others, in memory of whatever marks, answers something. Of the program's text. -/
/- The walk through a tree whose memory bears whatever marks: what its loop keeps. Of no program. -/
/- tree.walk with the closure of tree.Check, through a tree whose memory bears whatever marks: it meets all nodes, or answers false. Of the program's text. -/
/- tree.Check of a tree in memory of whatever marks tells its code, or ErrMany; text.Print of it. Of the program's text. -/
import Derived.Test.YtafojlockiekfaaProg
import Derived.Test.YtafojlockiekfaaBack
import Derived.Test.YtafojlockiekfaaWalkStep
import Derived.Test.YtafojlockiekfaaWalkC
import Derived.Test.YtafojlockiekfaaCheck
import Derived.Test.YtafojlockiekfaaPrint
namespace Go.Proofs.Ytafojlockiekfaa
open Go.Deep Go.RowKit
set_option linter.unusedVariables false
set_option maxRecDepth 20000

/-- A block of cells that is not frozen at a place. -/
def BCold (w : World) (b o : Nat) : Prop := (∃ c t fr, w.heap[b]? = some (.cells c t fr)) ∧ w.frozen? ⟨b, o, none⟩ = false
theorem BCold.lt {w : World} {b o : Nat} (h : BCold w b o) : b < w.heap.size := by
  obtain ⟨⟨c, t, fr, h⟩, _⟩ := h
  rcases Nat.lt_or_ge b w.heap.size with h' | h'
  · exact h'
  · rw [Array.getElem?_eq_none h'] at h; cases h
theorem BCold.of_block {w w' : World} {b o : Nat} (hb : w'.heap[b]? = w.heap[b]?) (h : BCold w b o) : BCold w' b o := by
  obtain ⟨⟨c, t, fr, h1⟩, h2⟩ := h
  refine ⟨⟨c, t, fr, by rw [hb]; exact h1⟩, ?_⟩
  unfold World.frozen? at h2 ⊢
  rw [hb]
  exact h2
theorem BCold.below {w w' : World} {b o : Nat} (hb : Below w.heap.size w w') (h : BCold w b o) : BCold w' b o := h.of_block (hb.block b h.lt)
theorem BPlain.cold {w : World} {b : Nat} (o : Nat) (h : BPlain w b) : BCold w b o := by
  obtain ⟨c, e, h⟩ := h
  refine ⟨⟨c, e, _, h⟩, ?_⟩
  simp [World.frozen?, h]
/-- All lists of a forest are cold at their nodes. -/
def FCold (w : World) : Fo → Prop
  | .nil => True
  | .node b o _ k r => BCold w b o ∧ FCold w k ∧ FCold w r
theorem FCold.below {w w' : World} (hb : Below w.heap.size w w') : ∀ {f : Fo}, FCold w f → FCold w' f
  | .nil, _ => trivial
  | .node _ _ _ _ _, ⟨h1, h2, h3⟩ => ⟨h1.below hb, FCold.below hb h2, FCold.below hb h3⟩
theorem FCold.drop {w : World} : ∀ (j : Nat) {f : Fo}, FCold w f → FCold w (fdrop j f)
  | 0, _, h => h
  | _ + 1, .nil, _ => trivial
  | j + 1, .node _ _ _ _ _, ⟨_, _, h3⟩ => FCold.drop j h3
theorem FPlain.cold {w : World} : ∀ {f : Fo}, FPlain w f → FCold w f
  | .nil, _ => trivial
  | .node _ o _ _ _, ⟨h1, h2, h3⟩ => ⟨h1.cold o, h2.cold, h3.cold⟩

theorem run_sameAddr_raw {P : Program} (w : World) {a b : Addr} (hne : a ≠ b) (ha : BCold w a.block a.off) (hb : BCold w b.block b.off) : ∃ r m, (sameAddr a b).run P w = .ok r (w.drewN m) := by
  by_cases hbl : a.block = b.block
  · exact ⟨false, 0, by simp [sameAddr, hbl, hne, World.drewN_zero]⟩
  · obtain ⟨⟨ca, ta, fa, h1⟩, h2⟩ := ha
    obtain ⟨⟨cb, tb, fb, h3⟩, h4⟩ := hb
    have e2 : w.frozen? a = false := by simpa [World.frozen?] using h2
    have e4 : w.frozen? b = false := by simpa [World.frozen?] using h4
    have hm : ∃ β, (mayBeOne a b).run P w = .ok β w := by
      simp [mayBeOne, stringish, e2, e4, World.shape?, h1, h3]
    obtain ⟨β, hm⟩ := hm
    cases β with
    | false => exact ⟨false, 0, by simp [sameAddr, hbl, e2, e4, noView, viewAt, World.shape?, h1, h3, hm, World.drewN_zero]⟩
    | true =>
      by_cases hq : (Question.extern "sameAddr.stringBytes" 2).forced = true
      · exact ⟨false, 0, by simp [sameAddr, hbl, e2, e4, noView, viewAt, World.shape?, h1, h3, hm, hq, World.drewN_zero]⟩
      · exact ⟨_, 1, by simp [sameAddr, hbl, e2, e4, noView, viewAt, World.shape?, h1, h3, hm, hq]; exact ⟨rfl, rfl⟩⟩
theorem run_eql_ptr_raw {P : Program} (w : World) {tp te : TypeId} {j : TypeInfo} {a b : Addr} (hp : P.underlying tp = some (.pointer te)) (hte : P.info? te = some j) (hsz : j.size ≠ 0)
    (hne : a ≠ b) (ha : BCold w a.block a.off) (hb : BCold w b.block b.off) : ∃ r m, (binOp .eql tp (.pointer (some a)) (.pointer (some b))).run P w = .ok (.bool r) (w.drewN m) := by
  obtain ⟨r, m, hr⟩ := run_sameAddr_raw (P := P) w hne ha hb
  refine ⟨r, m, ?_⟩
  have h : ∀ d : Nat, (Op.equalIn (d + 1) tp (.pointer (some a)) (.pointer (some b))).run P w = .ok r (w.drewN m) := fun d => by
    simp [Op.equalIn, run_underlying hp, sizeOf, typeInfo, hte, hsz, hr]
  simp only [binOp]
  simp [Op.equal, Op.maxDepth, h 9999]

set_option maxHeartbeats 2000000 in
theorem back_raw (l : List St) (g cap : Nat) (w : World) (hl : l.length ≤ 256) (h0 : 0 < l.length) (hc : l.length ≤ cap) (hcell : ∀ j u, (wayCells l)[j]? = some u → w.cell? ⟨g, 0 + j, none⟩ = some u)
    (hplain : ∀ s, s ∈ l → BCold w s.1.block s.1.off) (hpos : ∀ s, s ∈ l → 0 < s.2.1) (hcap : ∀ s, s ∈ l → s.2.1 ≤ s.2.2.1 ∧ s.2.2.1 ≤ maxLen)
    (hdiff : ∀ (i j : Nat) (s t : St), i < j → l[i]? = some s → l[j]? = some t → ¬ (s.2.1 = t.2.1 ∧ s.1 = t.1)) :
    Calls Try.prog 62 #[.slice (some ⟨g, 0, none⟩) l.length cap] w fun e w' => (∃ r, e = .returned (.bool r)) ∧ Below w.heap.size w w' := by
  by_cases h3 : l.length < 3
  · go_enter Try.func62, Try.ntmps62
    go_wp2_with fail
    go_ret
    exact ⟨⟨_, rfl⟩, Below.refl _ _⟩
  · obtain ⟨q, hq⟩ : ∃ q, l.length = q + 2 := ⟨l.length - 2, by omega⟩
    rw [hq]
    have HQ := hide hq
    have hq1 : 1 ≤ q := by omega
    have hq2 : q ≤ 254 := by omega
    clear hq h3
    obtain ⟨L1, L8, L2⟩ := bitLen_bd' q (by omega) (by omega)
    go_enter Try.func62, Try.ntmps62
    go_wp2_with fail
    rw [show ((q : Int) + 2 - 1 - 1) = (q : Int) by omega, show ((q : Int) + 2 - 1) = ((q + 1 : Nat) : Int) by omega]
    refine (len_any (q : Int) _ (by omega) (by omega)).mono ?_
    rintro e w1 ⟨rfl, rfl⟩
    rw [Int.toNat_natCast]
    obtain ⟨m, hm⟩ : ∃ m, Lib.bitLen q = m + 1 := ⟨Lib.bitLen q - 1, by omega⟩
    rw [hm] at L2 L8 ⊢
    have hm7 : m ≤ 7 := by omega
    have hmq : 2 ^ m ≤ q := by simpa using L2
    clear L1 L2 L8 hm
    rw [show (((m + 1 : Nat) : Int)) = (m : Int) + 1 by omega]
    go_wp2_with fail
    obtain ⟨M, hM, hM1, hM2⟩ : ∃ M : Nat, wrap64 (2 ^ m) = (M : Int) ∧ 1 ≤ M ∧ M ≤ q := by
      refine ⟨2 ^ m, ?_, Nat.one_le_two_pow, hmq⟩
      have e : ((2 : Int) ^ m) = ((2 ^ m : Nat) : Int) := by simp
      rw [e]
      generalize (2 : Nat) ^ m = f at *
      unfold wrap64
      omega
    rw [hM]
    clear hM hmq hm7
    obtain ⟨x, hx⟩ : ∃ x, l[M]? = some x := ⟨_, List.getElem?_eq_getElem (by have := HQ.out; omega)⟩
    obtain ⟨y, hy⟩ : ∃ y, l[q + 1]? = some y := ⟨_, List.getElem?_eq_getElem (by have := HQ.out; omega)⟩
    have hd := hdiff M (q + 1) x y (by omega) hx hy
    have px := hpos x (List.mem_of_getElem? hx)
    have py := hpos y (List.mem_of_getElem? hy)
    obtain ⟨cx, mx⟩ := hcap x (List.mem_of_getElem? hx)
    obtain ⟨cy, my⟩ := hcap y (List.mem_of_getElem? hy)
    have hcx : w1.cell? ⟨g, M * 2, none⟩ = some (.slice (some x.1) x.2.1 x.2.2.1) := by simpa using hcell _ _ (wayCells_at l M x hx).1
    have hcy : w1.cell? ⟨g, (q + 1) * 2, none⟩ = some (.slice (some y.1) y.2.1 y.2.2.1) := by simpa using hcell _ _ (wayCells_at l (q + 1) y hy).1
    have bx := hplain x (List.mem_of_getElem? hx)
    have bY := hplain y (List.mem_of_getElem? hy)
    obtain ⟨xa, xl, xc, xn⟩ := x
    obtain ⟨ya, yl, yc, yn⟩ := y
    simp only at hd px py cx cy mx my hcx hcy bx bY
    unfold maxLen at mx my
    have HD := hide hd
    clear hd hx hy hdiff hcell hpos hcap hplain
    by_cases hlen : xl = yl
    · have he : ((xl : Int) == (yl : Int)) = true := by rw [hlen]; simp
      have hne : ¬ xa = ya := fun e => HD.out ⟨hlen, e⟩
      have hpe : ∀ n, ∃ r m, (binOp .eql 68 (.pointer (some xa)) (.pointer (some ya))).run Try.prog (w1.drewN n) = .ok (.bool r) ((w1.drewN n).drewN m) := fun n => by
        obtain ⟨i24, hi24, hz0, hz1, hz2⟩ := info_parts Try.infoTree'
        exact run_eql_ptr_raw _ Try.underlying68 hi24 (by rw [hz1]; decide) hne (bx.of_block rfl) (bY.of_block rfl)
      clear hlen hne bx bY
      go_quiet (fail)
      go_wp2_with fail
      obtain ⟨r, m, hr⟩ := hpe (nq + 1)
      clear hpe
      refine wp_region_any (by kernel_rfl) ?_
      change wpAny _ _ _ _ _ _ _ (World.drew _)
      refine wpAny_take (i := 0) (v := .slice (some xa) xl xc) rfl (by kernel_rfl) (by kernel_rfl) (by kernel_rfl) (fun _ _ _ h => h) (Or.inl ⟨by rfl, by intro w; go_simp⟩) ?_
      refine wpAny_take (i := 1) (v := .int .i64 xl) rfl (by kernel_rfl) (by kernel_rfl) (by kernel_rfl) (fun _ _ _ h => h) (Or.inl ⟨by rfl, by intro w; go_simp⟩) ?_
      refine wpAny_take (i := 2) (v := .slice (some ya) yl yc) rfl (by kernel_rfl) (by kernel_rfl) (by kernel_rfl) (fun _ _ _ h => h) (Or.inl ⟨by rfl, by intro w; go_simp⟩) ?_
      refine wpAny_take (i := 3) (v := .int .i64 yl) rfl (by kernel_rfl) (by kernel_rfl) (by kernel_rfl) (fun _ _ _ h => h) (Or.inl ⟨by rfl, by intro w; go_simp⟩) ?_
      refine wpAny_take (i := 4) (v := .bool true) rfl (by kernel_rfl) (by kernel_rfl) (by kernel_rfl) (fun _ _ _ h => h) (Or.inl ⟨by rfl, by intro w; go_simp⟩) ?_
      refine wpAny_take (i := 5) (v := .bool true) rfl (by kernel_rfl) (by kernel_rfl) (by kernel_rfl) (fun _ _ _ h => h) (Or.inl ⟨by rfl, by intro w; go_simp⟩) ?_
      refine wpAny_take (i := 6) (v := .slice (some xa) xl xc) rfl (by kernel_rfl) (by kernel_rfl) (by kernel_rfl) (fun _ _ _ h => h) (Or.inl ⟨by simp [Region.wanted, yielded, Act.put], by intro w; go_simp⟩) ?_
      refine wpAny_take (i := 7) (v := .pointer (some xa)) rfl (by kernel_rfl) (by kernel_rfl) (by kernel_rfl) (fun _ _ _ h => h) (Or.inl ⟨by simp [Region.wanted, yielded, Act.put], by intro w; go_simp⟩) ?_
      refine wpAny_take (i := 8) (v := .slice (some ya) yl yc) rfl (by kernel_rfl) (by kernel_rfl) (by kernel_rfl) (fun _ _ _ h => h) (Or.inl ⟨by simp [Region.wanted, yielded, Act.put], by intro w; go_simp⟩) ?_
      refine wpAny_take (i := 9) (v := .pointer (some ya)) rfl (by kernel_rfl) (by kernel_rfl) (by kernel_rfl) (fun _ _ _ h => h) (Or.inl ⟨by simp [Region.wanted, yielded, Act.put], by intro w; go_simp⟩) ?_
      refine wpAny_ready (rs := [10]) (by kernel_rfl) (by simp) ?_
      refine AllReady.cons rfl (fun K hK => ?_) AllReady.nil
      go_simp
      refine hK _ _ ?_
      clear hK K
      refine wpAny_ready (rs := [11]) (by kernel_rfl) (by simp) ?_
      refine AllReady.cons rfl (fun K hK => ?_) AllReady.nil
      go_simp
      refine hK _ _ ?_
      clear hK K
      refine wpAny_ready (rs := [12]) (by kernel_rfl) (by simp) ?_
      refine AllReady.cons rfl (fun K hK => ?_) AllReady.nil
      go_simp
      refine hK _ _ ?_
      clear hK K
      refine wpAny_done (by kernel_rfl) ?_ _
      go_wp2_with fail
      go_ret
      exact ⟨⟨_, rfl⟩, below_drewN (Below.refl _ _) _⟩
    · have he : ((xl : Int) == (yl : Int)) = false := beq_eq_false_iff_ne.2 (by omega)
      clear hlen bx bY
      go_quiet (fail)
      go_wp2_with fail
      go_quiet (fail)
      go_wp2_with fail
      go_ret
      exact ⟨⟨_, rfl⟩, below_drewN (below_drewN (Below.refl _ _) _) _⟩

end Go.Proofs.Ytafojlockiekfaa
namespace Go.Proofs.Ytafojlockiekfaa.Raw
open Go.Deep Go.RowKit
set_option linter.unusedVariables false
set_option maxRecDepth 20000

structure FrOk (C : List Nat) (w : World) (f : Fr) : Prop where
  spot : f.1.spot = none
  pos : 0 < flen f.2.2.2
  len : flen f.2.2.2 ≤ f.2.1
  cap : f.2.1 ≤ maxLen
  next : f.2.2.1 ≤ flen f.2.2.2
  lies : FIn w f.2.2.2 f.1.block f.1.off
  plain : FCold w f.2.2.2
  off : ∀ c, c ∈ C → FOff c f.2.2.2

structure WInv (C : List Nat) (T H : Nat) (w1 wr : World) (v : Value) (fs : List Fr) : Prop where
  each : ∀ f, f ∈ fs → FrOk C w1 f ∧ fhigh f.2.2.2 ≤ H
  high : ∀ (i j : Nat) (f g : Fr), i < j → fs[i]? = some f → fs[j]? = some g → fhigh g.2.2.2 < fhigh f.2.2.2
  row : wr.ownsRow w1.heap.size T 2 v fs.length (wayCells (fs.map frSt))
  keeps : Keeps C w1 wr

theorem WInv.len {C : List Nat} {T H : Nat} {w1 wr : World} {v : Value} {fs : List Fr} (h : WInv C T H w1 wr v fs) : fs.length ≤ H := by
  cases hfs : fs with
  | nil => simp
  | cons f l =>
    have h0 : fs[0]? = some f := by rw [hfs]; rfl
    have := high_len (fun f hf => (h.each f hf).1.pos) h.high _ 0 f rfl h0
    have := (h.each f (by rw [hfs]; simp)).2
    rw [← hfs]
    omega

/-- No two lists of a way are the same. -/
theorem WInv.diff {C : List Nat} {T H : Nat} {w1 wr : World} {v : Value} {fs : List Fr} (h : WInv C T H w1 wr v fs) :
    ∀ (i j : Nat) (s t : St), i < j → (fs.map frSt)[i]? = some s → (fs.map frSt)[j]? = some t → ¬ (s.2.1 = t.2.1 ∧ s.1 = t.1) := by
  intro i j s t hij hs ht ⟨e1, e2⟩
  rw [List.getElem?_map] at hs ht
  obtain ⟨f, hf, rfl⟩ := Option.map_eq_some_iff.1 hs
  obtain ⟨g, hg, rfl⟩ := Option.map_eq_some_iff.1 ht
  have h1 := (h.each f (List.mem_of_getElem? hf)).1
  have h2 := (h.each g (List.mem_of_getElem? hg)).1
  have hh := h.high i j f g hij hf hg
  simp only [frSt] at e1 e2
  have l1 := h1.lies
  rw [e2] at l1
  rw [FIn.uniq l1 h2.lies e1] at hh
  omega

/-- A world behind which nothing of the first world's, and not the way's row, has turned. -/
theorem WInv.on {C : List Nat} {T H : Nat} {w1 wr w2 : World} {v : Value} {fs : List Fr} (h : WInv C T H w1 wr v fs) (hk : Keeps C wr w2) (hC : ∀ c, c ∈ C → c < w1.heap.size) : WInv C T H w1 w2 v fs :=
  ⟨h.each, h.high, ownsRow_block h.row fun g hg => by
    obtain ⟨h1, h2⟩ := ownBlock_lt h.row hg
    exact hk.block g h2 fun hm => by have := hC g hm; omega, h.keeps.trans hk⟩

theorem WInv.pop {C : List Nat} {T H : Nat} {w1 wr w2 : World} {fs : List Fr} {t : Fr} {g cap : Nat} (h : WInv C T H w1 wr (.slice (some ⟨g, 0, none⟩) (fs.length + 1) cap) (fs ++ [t])) (hb : Below wr.heap.size wr w2) : WInv C T H w1 w2 (.slice (some ⟨g, 0, none⟩) fs.length cap) fs := by
  have hr := h.row
  simp only [List.length_append, List.length_cons, List.length_nil, frSt_map_snoc, wayCells_append] at hr
  exact ⟨fun f hf => h.each f (by simp [hf]), high_init h.high, ownsRow_below (own_pop hr (by simp [wayCells_length])) hb, h.keeps.trans (Keeps.of_below hb)⟩

/-- The node at the place that comes next has been met; the number is one more. -/
theorem WInv.next {C : List Nat} {T H : Nat} {w1 wr w2 : World} {fs : List Fr} {A : Addr} {cp j : Nat} {F : Fo} {g cap : Nat} (h : WInv C T H w1 wr (.slice (some ⟨g, 0, none⟩) (fs.length + 1) cap) (fs ++ [(A, cp, j, F)])) (hj : j < flen F)
    (hb : Below (wr.setCell ⟨g, fs.length * 2 + 1, none⟩ (.int .i64 ((j : Int) + 1))).heap.size (wr.setCell ⟨g, fs.length * 2 + 1, none⟩ (.int .i64 ((j : Int) + 1))) w2) : WInv C T H w1 w2 (.slice (some ⟨g, 0, none⟩) (fs.length + 1) cap) (fs ++ [(A, cp, j + 1, F)]) := by
  have hr := h.row
  simp only [List.length_append, List.length_cons, List.length_nil, frSt_map_snoc] at hr
  have hg := ownBlock_lt hr (g := g) rfl
  have hr2 := own_set (.int .i64 ((j : Int) + 1)) hr (show fs.length * 2 + 1 < (fs.length + 1) * 2 by omega)
  have e := wayCells_set (fs.map frSt) (frSt (A, cp, j, F)) (frSt (A, cp, j + 1, F)) rfl rfl rfl
  rw [List.length_map] at e
  rw [show ((frSt (A, cp, j + 1, F)).2.2.2 : Int) = (j : Int) + 1 by simp [frSt]] at e
  rw [e] at hr2
  refine ⟨fun f hf => ?_, high_last (t := (A, cp, j, F)) rfl h.high, by simpa only [List.length_append, List.length_cons, List.length_nil, frSt_map_snoc] using ownsRow_below hr2 hb, ?_⟩
  · rcases List.mem_append.1 hf with hf | hf
    · exact h.each f (by simp [hf])
    · have : f = (A, cp, j + 1, F) := by simpa using hf
      subst this
      obtain ⟨h1, h2⟩ := h.each (A, cp, j, F) (by simp)
      exact ⟨⟨h1.spot, h1.pos, h1.len, h1.cap, by simp only; omega, h1.lies, h1.plain, h1.off⟩, h2⟩
  · refine h.keeps.below (Below.trans (b := wr.setCell ⟨g, fs.length * 2 + 1, none⟩ (.int .i64 ((j : Int) + 1))) ?_ (hb.mono (by simp [World.setCell]; exact h.keeps.size)))
    exact (Below.refl _ _).setCell hg.1 _

/-- The kids of the node that was met are the next list of the way. -/
theorem WInv.push {C : List Nat} {T H : Nat} {w1 wr w2 w3 : World} {v : Value} {fs : List Fr} {A : Addr} {cp j b o g cap : Nat} {F kk r : Fo} {x : ByteArray × Option Addr × Nat} {A' : Addr} {ob : Obj}
    (h : WInv C T H w1 wr v (fs ++ [(A, cp, j + 1, F)])) (he : fdrop j F = .node b o x kk r) (hA : x.2.1 = some A') (hkk : 0 < flen kk) 
    (hown : w3.ownsRow w1.heap.size T 2 (.slice (some ⟨g, 0, none⟩) (fs.length + 1 + 1) cap) (fs.length + 1 + 1) (wayCells ((fs ++ [(A, cp, j + 1, F)]).map frSt) ++ stCells (A', flen kk, x.2.2, 0)))
    (hgrow : (wr.alloc ob).grownBy w3 v.ownBlock) (hb : Below w3.heap.size w3 w2) :
    WInv C T H w1 w2 (.slice (some ⟨g, 0, none⟩) (fs.length + 1 + 1) cap) (fs ++ [(A, cp, j + 1, F)] ++ [(A', x.2.2, 0, kk)]) := by
  obtain ⟨h1, h2⟩ := h.each (A, cp, j + 1, F) (by simp)
  have hl := FIn.drop j h1.lies
  have hpl := FCold.drop j h1.plain
  have hhi := fhigh_kid he
  simp only at hl hpl
  rw [he] at hl hpl
  obtain ⟨hc0, hc1, htin, _⟩ := hl.head
  have hnew : FrOk C w1 (A', x.2.2, 0, kk) := by
    rcases htin.kids with hk | ⟨kb, ko, e, hk⟩
    · rw [hk] at hkk; simp [flen] at hkk
    · rw [hA] at e
      simp only [Option.some.injEq] at e
      subst e
      exact ⟨rfl, hkk, htin.len, htin.cap, Nat.zero_le _, hk, hpl.2.1, fun c hc => by
        have := foff_drop j (h1.off c hc)
        simp only at this
        rw [he] at this
        exact this.2.1⟩
  have hb3 : Below w1.heap.size wr w3 := ((Below.refl _ _).alloc h.keeps.size _).grown hgrow (by have := h.keeps.size; simp; omega) fun q hq => (ownBlock_lt h.row hq).1
  refine ⟨fun f hf => ?_, high_snoc hhi h.high, ?_, ?_⟩
  · rcases List.mem_append.1 hf with hf | hf
    · exact h.each f hf
    · have : f = (A', x.2.2, 0, kk) := by simpa using hf
      subst this
      exact ⟨hnew, by simp only at h2 ⊢; omega⟩
  · have := ownsRow_below hown hb
    rw [← wayCells_append] at this
    simpa [frSt] using this
  · exact h.keeps.below (hb3.trans (hb.mono (Nat.le_trans h.keeps.size hb3.size)))

/-- The premises of comesBack. -/
theorem WInv.plain {C : List Nat} {T H : Nat} {w1 wr : World} {v : Value} {fs : List Fr} (h : WInv C T H w1 wr v fs) : ∀ s, s ∈ fs.map frSt → BCold wr s.1.block s.1.off := fun s hs => by
  obtain ⟨f, hf, rfl⟩ := List.mem_map.1 hs
  obtain ⟨h1, _⟩ := h.each f hf
  obtain ⟨A, cp, j, F⟩ := f
  cases F with
  | nil => have := h1.pos; simp [flen] at this
  | node b o x k r =>
    have hb : b = A.block := h1.lies.1
    have ho : o = A.off := h1.lies.2.1
    have hp := h1.plain.1
    have hn : ¬ b ∈ C := fun hm => (h1.off b hm).1 rfl
    have hlt := BCold.lt hp
    show BCold wr A.block A.off
    rw [← hb, ← ho]
    exact hp.of_block (h.keeps.block b hlt hn)

theorem WInv.caps {C : List Nat} {T H : Nat} {w1 wr : World} {v : Value} {fs : List Fr} (h : WInv C T H w1 wr v fs) : (∀ s, s ∈ fs.map frSt → 0 < s.2.1) ∧ ∀ s, s ∈ fs.map frSt → s.2.1 ≤ s.2.2.1 ∧ s.2.2.1 ≤ maxLen := by
  refine ⟨fun s hs => ?_, fun s hs => ?_⟩
  · obtain ⟨f, hf, rfl⟩ := List.mem_map.1 hs
    exact (h.each f hf).1.pos
  · obtain ⟨f, hf, rfl⟩ := List.mem_map.1 hs
    exact ⟨(h.each f hf).1.len, (h.each f hf).1.cap⟩

/-- comesBack, asked of the way. -/
theorem WInv.back {C : List Nat} {T H g n cap : Nat} {w1 wr : World} {fs : List Fr} (h : WInv C T H w1 wr (.slice (some ⟨g, 0, none⟩) n cap) fs) (hH : H ≤ 256) (hn : fs.length = n) (h0 : 0 < n) :
    Calls Try.prog 62 #[.slice (some ⟨g, 0, none⟩) n cap] wr fun e w' => (∃ r, e = .returned (.bool r)) ∧ Below wr.heap.size wr w' := by
  subst hn
  have hr := h.row
  obtain ⟨g', cap', cur, hv, _, _, _, hc, _⟩ := own_form hr h0
  simp only [Value.slice.injEq, Option.some.injEq, Addr.mk.injEq] at hv
  obtain ⟨⟨rfl, _, _⟩, _, rfl⟩ := hv
  have := back_raw (fs.map frSt) g cap wr (by have := h.len; simp; omega) (by simpa using h0) (by simpa using hc) (ownsRow_cell hr) h.plain h.caps.1 h.caps.2 h.diff
  simpa using this

end Go.Proofs.Ytafojlockiekfaa.Raw
namespace Go.Proofs.Ytafojlockiekfaa.Raw
open Go.Deep Go.RowKit
set_option linter.unusedVariables false
set_option maxRecDepth 20000

set_option maxHeartbeats 1600000 in
theorem walkC_any (a b c : Nat) (s : ByteArray) (ka : Option Addr) (cap : Nat) (k : Fo) (w : World) (ht : TIn w s ka cap k) (hp : FCold w k) (hn : 1 + fnodes k ≤ 5000) (hh : fhigh k ≤ 199) (hoff : ∀ x, x ∈ [a, b, c] → FOff x k) (hst : CSt (a, b, c) w (0, 0, true)) :
    Calls Try.prog 42 #[.agg #[.string s, .slice ka (flen k) cap], .func (.func 43) #[] #[.pointer (some ⟨a, 0, none⟩), .pointer (some ⟨b, 0, none⟩), .pointer (some ⟨c, 0, none⟩)]] w fun e w' =>
      ∃ (σ : Nt) (r : Bool), e = .returned (.bool r) ∧ (r = false ∨ runN (0, 0, true) ((s, 0) :: pre k 1) = (σ, r)) ∧ CSt (a, b, c) w' σ ∧ Keeps [a, b, c] w w' := by
  obtain ⟨w1, hw1⟩ : ∃ w1, w1 = (w.alloc (Obj.cells #[Value.string s, Value.slice ka (flen k) cap] 24)).alloc (Obj.cells #[Value.string s, Value.slice ka (flen k) cap] 24) := ⟨_, rfl⟩
  have hw1b : Below w.heap.size w w1 := by rw [hw1]; exact ((Below.refl _ _).alloc (Nat.le_refl _) _).alloc (by simp) _
  have hw1s : w.heap.size + 2 ≤ w1.heap.size := by rw [hw1]; simp
  have la : a < w.heap.size := World.block_lt_of_cell? _ _ hst.c1
  have lb : b < w.heap.size := World.block_lt_of_cell? _ _ hst.c2
  have lc : c < w.heap.size := World.block_lt_of_cell? _ _ hst.c3
  have hCl0 : ∀ x, x ∈ [a, b, c] → x < w.heap.size := fun x hx => by simp at hx; omega
  have hCl : ∀ x, x ∈ [a, b, c] → x < w1.heap.size := fun x hx => by simp at hx; omega
  obtain ⟨i53, hi53, hy0, hy1, hy2⟩ := info_parts Try.infoStep
  have hstart : WInv [a, b, c] 95 200 w1 (w1.alloc (Obj.cells #[Value.slice (some ⟨w.heap.size + 1, 0, none⟩) 1 1, Value.int IntKind.i64 0] 95)) (Value.slice (some ⟨w.heap.size + 1 + 1, 0, none⟩) 1 1) [(⟨w.heap.size + 1, 0, none⟩, 1, 0, .node (w.heap.size + 1) 0 (s, ka, cap) k .nil)] := by
    have hroot : FIn w1 (.node (w.heap.size + 1) 0 (s, ka, cap) k .nil) (w.heap.size + 1) 0 := by
      have hk1 := ht.kids.below hw1b
      refine ⟨rfl, rfl, ?_, ?_, ht.size, ht.len, ht.cap, hk1, trivial⟩
      · rw [hw1]; go_simp
      · rw [hw1]; go_simp
    have hpl0 : BPlain w1 (w.heap.size + 1) := by
      refine ⟨#[Value.string s, Value.slice ka (flen k) cap], 24, ?_⟩
      rw [hw1, show w.heap.size + 1 = (w.alloc (Obj.cells #[Value.string s, Value.slice ka (flen k) cap] 24)).heap.size by simp]
      exact heap_alloc_new _ _
    refine ⟨fun f hf => ?_, fun i j f g hij hf hg => ?_, ?_, Keeps.of_below ((Below.refl _ _).alloc (Nat.le_refl _) _)⟩
    · have : f = (⟨w.heap.size + 1, 0, none⟩, 1, 0, .node (w.heap.size + 1) 0 (s, ka, cap) k .nil) := by simpa using hf
      subst this
      refine ⟨⟨rfl, by simp [flen], by simp [flen], by simp [maxLen], Nat.zero_le _, hroot, ⟨hpl0.cold 0, hp.below hw1b, trivial⟩, fun c hc => ⟨by have := hCl0 c hc; omega, hoff c hc, trivial⟩⟩, ?_⟩
      simp [fhigh]
      omega
    · have h1 := (List.getElem?_eq_some_iff.1 hg).1
      simp at h1
      omega
    · have hn2 : w1.heap.size = w.heap.size + 1 + 1 := by rw [hw1]; simp
      refine ⟨by simp [wayCells, stCells, frSt], Or.inr ⟨w.heap.size + 1 + 1, 1, #[Value.slice (some ⟨w.heap.size + 1, 0, none⟩) 1 1, Value.int IntKind.i64 0], rfl, by omega, ?_, by simp, by simp [maxLen], rfl, by simp [wayCells, stCells, frSt, flen]⟩⟩
      rw [← hn2]
      exact heap_alloc_new _ _
  go_enter Try.func42, Try.ntmps42
  go_wp2_with fail
  rw [← hw1]
  clear hw1
  go_loopg [5] (2 * (1 + fnodes k) + 1) (fun gk v wr => ∃ (fs : List Fr) (σ : Nt), gk = 2 * (remF fs 0).length + fs.length ∧ WInv [a, b, c] 95 200 w1 wr v fs ∧ CSt (a, b, c) wr σ ∧ Hid (runN (0, 0, true) ((s, 0) :: pre k 1) = runN σ (remF fs 0)) ∧ σ.1 + (remF fs 0).length ≤ 5000 ∧ σ.2.1 ≤ 200)
  case atStart =>
    refine ⟨_, (0, 0, true), ?_, hstart, hst.keeps (B := w.heap.size) (Nat.le_refl _) ⟨la, lb, lc⟩ (hw1b.alloc (by omega) _), ?_, ?_, by decide⟩
    · simp [remF, fdrop, pre, pre_length]; omega
    · show _ = _
      simp [remF, fdrop, pre]
    · simp [remF, fdrop, pre, pre_length]; omega
  case round =>
    obtain ⟨fs, σ, hgk, hI, hσ, hrun, hb1, hb2⟩ := hrel
    rcases List.eq_nil_or_concat fs with hfs | ⟨fs0, t, hfs⟩
    · subst hfs
      have hrow := hI.row.2
      simp only [List.length_nil] at hrow
      rcases hrow with ⟨rfl, _⟩ | ⟨g, cap2, cur, rfl, _⟩
      · go_wp2_with fail
        go_ret
        exact ⟨σ, true, rfl, Or.inr hrun.out, hσ, (Keeps.of_below hw1b).trans hI.keeps⟩
      · go_wp2_with fail
        go_ret
        exact ⟨σ, true, rfl, Or.inr hrun.out, hσ, (Keeps.of_below hw1b).trans hI.keeps⟩
    · rw [List.concat_eq_append] at hfs
      subst hfs
      obtain ⟨A, cp, j, F⟩ := t
      have hrow := hI.row
      simp only [List.length_append, List.length_cons, List.length_nil] at hrow
      obtain ⟨g, cap2, cur, rfl, hg1, hg2, hg3, hg4, hg5, hg6, hg7⟩ := own_form hrow (by omega)
      have hlen := hI.len
      simp only [List.length_append, List.length_cons, List.length_nil] at hlen
      obtain ⟨⟨hsp, hpos, hfl, hfc, hnx, hlies, hpl, hfo⟩, hhi⟩ := hI.each (A, cp, j, F) (by simp)
      obtain ⟨Ab, Ao, As⟩ := A
      simp only at hsp hpos hfl hfc hnx hlies hpl hfo hhi
      subst hsp
      have hat := wayCells_at ((fs0 ++ [((⟨Ab, Ao, none⟩ : Addr), cp, j, F)]).map frSt) fs0.length (frSt (⟨Ab, Ao, none⟩, cp, j, F)) (by simp)
      have hcK : wr.cell? ⟨g, fs0.length * 2, none⟩ = some (.slice (some ⟨Ab, Ao, none⟩) (flen F) cp) := by simpa [frSt] using ownsRow_cell hrow _ _ hat.1
      have hcJ : wr.cell? ⟨g, fs0.length * 2 + 1, none⟩ = some (.int .i64 j) := by simpa [frSt] using ownsRow_cell hrow _ _ hat.2
      have hfz : ∀ o, wr.frozen? ⟨g, o, none⟩ = false := fun o => by simp [World.frozen?, hg3]
      unfold maxLen at hg5 hfc
      have HI := hide hI
      have HG := hide hgk
      clear hI hgk hat hrow hg7 hg6
      by_cases hj : j = flen F
      · have hjb : ((j : Int) == (flen F : Int)) = true := by rw [hj]; simp
        have hsl : ∀ wx, (Instr.slice 96 (.slice (some ⟨g, 0, none⟩) (fs0.length + 1) cap2) none (some (.int .i64 (fs0.length : Int))) none).run Try.prog wx = .ok (.slice (some ⟨g, 0, none⟩) fs0.length cap2) wx := fun wx => by
          rw [run_slice_h wx 96 _ _ _ Try.underlying96 .i64 _ (by omega) (by omega)]
          simp [go_sem, sliced, Addr.add]
        have HJ := hide hj
        clear hj
        go_wp2_with fail
        go_quiet (fail)
        go_wp2_with fail
        have hrem := rem_pop (fs := fs0) (A := ⟨Ab, Ao, none⟩) (cp := cp) HJ.out
        rw [hrem] at hrun hb1
        go_roundg (2 * (remF fs0 0).length + fs0.length)
        case measure => have := HG.out; rw [hrem] at this; simp at this; omega
        case rel => exact ⟨fs0, σ, rfl, HI.out.pop (below_drewN (Below.refl _ _) _), hσ.keeps (B := w.heap.size) (by have := HI.out.keeps.size; omega) ⟨la, lb, lc⟩ (below_drewN (Below.refl _ _) _), hrun, hb1, hb2⟩
      · have hjb : ((j : Int) == (flen F : Int)) = false := beq_eq_false_iff_ne.2 (by omega)
        have hlr := FIn.keeps HI.out.keeps hfo hlies
        obtain ⟨b', o', x, kk, he, hc0, hc1, htin, hbb⟩ := hlr.at (show j < flen F by omega)
        have HR := hide (rem_next (fs := fs0) (A := ⟨Ab, Ao, none⟩) (cp := cp) he)
        have HE := hide he
        clear he
        have hAne : g ≠ Ab := by have := hlies.at (show j < flen F by omega); obtain ⟨_, _, _, _, _, _, _, _, h⟩ := this; omega
        have hjlt : j < flen F := by omega
        have hib : (fs0.length : Int) < (fs0.length : Int) + 1 := by omega
        have hg' : g < wr.heap.size := hg2
        go_wp2_with fail
        go_region_held3 (fun w' => w'.cell? ⟨g, fs0.length * 2, none⟩ = some (.slice (some ⟨Ab, Ao, none⟩) (flen F) cp) ∧ w'.cell? ⟨g, fs0.length * 2 + 1, none⟩ = some (.int .i64 j))
          (first | go_keep | (refine ⟨?_, ?_⟩ <;> go_simp))
          (fail)
        go_wp2_with fail
        go_region_held3 (fun w' => w'.cell? ⟨g, fs0.length * 2, none⟩ = some (.slice (some ⟨Ab, Ao, none⟩) (flen F) cp) ∧ w'.cell? ⟨g, fs0.length * 2 + 1, none⟩ = some (.int .i64 j) ∧ w'.cell? ⟨Ab, Ao + j * 2, none⟩ = some (.string x.1) ∧ w'.cell? ⟨Ab, Ao + j * 2 + 1, none⟩ = some (.slice x.2.1 (flen kk) x.2.2))
          (first | go_keep | (refine ⟨?_, ?_, ?_, ?_⟩ <;> go_simp))
          (fail)
        go_wp2_with fail
        have hbW : Below w1.heap.size wr ((wr.setCell ⟨g, fs0.length * 2 + 1, none⟩ (.int .i64 ((j : Int) + 1))).alloc (Obj.cells #[.string x.1, .slice x.2.1 (flen kk) x.2.2] 24)).drew.drew :=
          ((((Below.refl _ _).setCell hg1 _).alloc (by simp [World.setCell]; exact HI.out.keeps.size) _).drew).drew
        have hI2 := HI.out.next hjlt (((Below.refl _ _).alloc (Nat.le_refl _) (Obj.cells #[.string x.1, .slice x.2.1 (flen kk) x.2.2] 24)).drew).drew
        have hz1 := HI.out.keeps.size
        have hlen1 := congrArg List.length HR.out
        simp only [List.length_cons, List.length_append] at hlen1
        refine (checkLook_any a b c σ x.1 x.2.1 (flen kk) x.2.2 fs0.length _ (hσ.keeps (B := w.heap.size) (by omega) ⟨la, lb, lc⟩ (hbW.mono (by omega))) htin.size (by omega) (by omega) (by omega)).mono ?_
        rintro e w2 ⟨rfl, hσ2, hk2⟩
        have hI3 := hI2.on hk2 hCl
        have hbx : w2.cell? ⟨wr.heap.size, 1, none⟩ = some (.slice x.2.1 (flen kk) x.2.2) := by
          (rw [hk2.cell (by simp [World.setCell]) (by simp; omega)]; go_simp)
        clear hI2
        have hrun' := hrun.out
        rw [HR.out] at hrun' hb1
        simp only [List.length_cons, List.length_append] at hb1
        by_cases h40 : σ.1 + 1 ≤ 40
        · have hd40 : decide (σ.1 + 1 ≤ 40) = true := decide_eq_true h40
          have HRUN := hide (show runN (0, 0, true) ((s, 0) :: pre k 1) = runN (ntStep σ (x.1, fs0.length)) (pre kk (fs0.length + 1) ++ remF (fs0 ++ [(⟨Ab, Ao, none⟩, cp, j + 1, F)]) 0) by rw [hrun', runN, if_pos (show (ntStep σ (x.1, fs0.length)).1 ≤ 40 from h40)])
          have HI3 := hide hI3
          clear hrun hrun' hI3
          by_cases hkk : flen kk = 0
          · have hkb : ((flen kk : Int) == 0) = true := beq_iff_eq.2 (by omega)
            have hkn : kk = .nil := by cases kk with | nil => rfl | node _ _ _ _ _ => simp [flen] at hkk
            go_wp2_with fail
            go_roundg (2 * (remF (fs0 ++ [((⟨Ab, Ao, none⟩ : Addr), cp, j + 1, F)]) 0).length + (fs0.length + 1))
            case measure => have := HG.out; simp only [List.length_append, List.length_cons, List.length_nil] at this; omega
            case rel =>
              refine ⟨_, _, by simp, HI3.out, hσ2, ?_, ?_, ?_⟩
              · have := HRUN.out
                rw [hkn] at this
                exact this
              · simp only [ntStep]; omega
              · simp only [ntStep]; omega
          · have hkb : ((flen kk : Int) == 0) = false := beq_eq_false_iff_ne.2 (by omega)
            rcases htin.kids with hkn | ⟨kb, ko, hx, hkin⟩
            · rw [hkn] at hkk; simp [flen] at hkk
            rw [hx] at hbx
            have hrow3 := HI3.out.row
            simp only [List.length_append, List.length_cons, List.length_nil] at hrow3
            have hz3 := HI3.out.keeps.size
            go_wp2_with (at_builtin; refine wpList_append_lies _ rfl (.tmp 62) (.tmp 66) 96 rfl w1.heap.size 95 i53 _ 2 32 Try.underlying96 hi53 hy0 hy1 hy2 rfl (by decide) _ (fs0.length + 1) _ rfl (ownsRow_below hrow3 ((Below.refl _ _).alloc (Nat.le_refl _) _)) ⟨w2.heap.size, 0, none⟩ 1 1 (stCells (⟨kb, ko, none⟩, flen kk, x.2.2, 0)) rfl rfl (way_news w2 95 ⟨kb, ko, none⟩ (flen kk) x.2.2) (way_one _) (by decide) (by unfold maxLen; omega) (by omega) (by simp; omega) (w2.heap.size + 1) (by simp) ?_)
            intro g2 cap3 w3 hown hgrow hat hlt3
            have hI4 := HI3.out.push HE.out hx (by omega) (by simpa only [List.map_append, List.map_cons, List.map_nil] using hown) hgrow (Below.refl _ _)
            have hlen4 := hI4.len
            simp only [List.length_append, List.length_cons, List.length_nil] at hlen4
            have hbW3 : Below w1.heap.size w2 w3 := ((Below.refl _ _).alloc hz3 _).grown hgrow (by simp; omega) fun q hq => (ownBlock_lt hrow3 hq).1
            have hσ3 := hσ2.keeps (B := w.heap.size) (by omega) ⟨la, lb, lc⟩ (hbW3.mono (by omega))
            have HI4 := hide hI4
            clear hI4 hgrow hat
            go_wp2_with fail
            refine (HI4.out.back (by decide) (by simp) (by omega)).mono ?_
            rintro e w4 ⟨⟨rb, rfl⟩, hb4⟩
            have HI5 := hide (HI4.out.on (Keeps.of_below hb4) hCl)
            have hσ4 := hσ3.keeps (B := w.heap.size) (by have := hbW3.size; omega) ⟨la, lb, lc⟩ (hb4.mono (by have := hbW3.size; omega))
            cases rb
            case true =>
              go_wp2_with fail
              go_ret
              exact ⟨_, false, rfl, Or.inl rfl, hσ4, (Keeps.of_below hw1b).trans HI5.out.keeps⟩
            go_wp2_with fail
            go_roundg (2 * (remF (fs0 ++ [((⟨Ab, Ao, none⟩ : Addr), cp, j + 1, F)] ++ [((⟨kb, ko, none⟩ : Addr), x.2.2, 0, kk)]) 0).length + (fs0.length + 1 + 1))
            case measure =>
              rw [rem_push]
              have := HG.out
              simp only [List.length_append, List.length_cons, List.length_nil] at this ⊢
              omega
            case rel =>
              refine ⟨_, _, by simp, HI5.out, hσ4, ?_, ?_, ?_⟩
              · have := HRUN.out
                rw [← rem_push] at this
                exact this
              · rw [rem_push]; simp only [ntStep, List.length_append]; omega
              · simp only [ntStep]; omega
        · have hd40 : decide (σ.1 + 1 ≤ 40) = false := decide_eq_false h40
          have HRUN := hide (show runN (0, 0, true) ((s, 0) :: pre k 1) = (ntStep σ (x.1, fs0.length), false) by rw [hrun', runN, if_neg (show ¬ (ntStep σ (x.1, fs0.length)).1 ≤ 40 from h40)])
          clear hrun hrun'
          go_wp2_with fail
          go_ret
          exact ⟨_, false, rfl, Or.inl rfl, hσ2, (Keeps.of_below hw1b).trans hI3.keeps⟩

end Go.Proofs.Ytafojlockiekfaa.Raw
namespace Go.Proofs.Ytafojlockiekfaa
open Go.Deep Go.RowKit
set_option linter.unusedVariables false
set_option maxRecDepth 20000

set_option maxHeartbeats 400000 in
theorem check_raw (s : ByteArray) (ka : Option Addr) (cap : Nat) (k : Fo) (w : World) (ht : TIn w s ka cap k) (hp : FCold w k) (hn : 1 + fnodes k ≤ 5000) (hh : fhigh k ≤ 199) :
    Calls Try.prog 19 #[.agg #[.string s, .slice ka (flen k) cap]] w fun e w' => (∃ c, (c = faultT s k ∨ c = 2) ∧ e = .returned (.int .i64 c)) ∧ Below w.heap.size w w' := by
  have hbox : Below w.heap.size w ((((w.alloc (Obj.cells #[Value.string s, Value.slice ka (flen k) cap] 24)).alloc (Obj.cells #[Value.int .i64 0] 3)).alloc (Obj.cells #[Value.int .i64 0] 3)).alloc (Obj.cells #[Value.bool true] 4)) :=
    ((((Below.refl _ _).alloc (Nat.le_refl _) _).alloc (by simp) _).alloc (by simp; omega) _).alloc (by simp; omega) _
  go_enter Try.func19, Try.ntmps19
  go_wp2_with fail
  have hC : ∀ x, x ∈ [w.heap.size + 1, w.heap.size + 1 + 1, w.heap.size + 1 + 1 + 1] → w.heap.size ≤ x := fun x hx => by
    simp at hx
    omega
  refine (Raw.walkC_any (w.heap.size + 1) (w.heap.size + 1 + 1) (w.heap.size + 1 + 1 + 1) s ka cap k _ (ht.below hbox) (hp.below hbox) hn hh (fun x hx => ht.kids.off (hC x hx)) ⟨by go_simp, by go_simp, by go_simp, by go_simp, by go_simp, by go_simp, by simp only [ne_eq]; omega, by simp only [ne_eq]; omega, by simp only [ne_eq]; omega, by decide, by decide⟩).mono ?_
  rintro e w1 ⟨σ, r, rfl, hrun, hs1, hk1⟩
  have hb := hk1.to_below hbox hC
  have hc2 := hs1.c2
  have hc3 := hs1.c3
  rcases hrun with rfl | hrun
  · go_wp2_with fail
    go_ret
    exact ⟨⟨2, Or.inr rfl, rfl⟩, hb⟩
  obtain ⟨hr1, hr2⟩ := run_end s k σ r hrun
  by_cases h40 : 1 + fnodes k ≤ 40
  · rw [decide_eq_true h40] at hr1
    subst hr1
    obtain ⟨hd, hg⟩ := hr2 rfl
    have HD := hide hd
    have HG := hide hg
    clear hd hg hr2 hrun
    by_cases h10 : 10 < σ.2.1
    · go_wp2_with fail
      go_ret
      refine ⟨⟨_, Or.inl ?_, rfl⟩, hb⟩
      have h1 := HD.out
      rw [decide_eq_true h10] at h1
      unfold faultT
      rw [if_neg (by omega), if_pos h1.symm]
    · have h1 := HD.out
      rw [decide_eq_false h10] at h1
      have H1 := hide h1
      clear h1
      cases hg2 : σ.2.2
      · rw [hg2] at hc3
        have HG2 := hide hg2
        clear hg2
        go_wp2_with fail
        go_ret
        refine ⟨⟨_, Or.inl ?_, rfl⟩, hb⟩
        have h2 := HG.out
        rw [HG2.out] at h2
        unfold faultT
        rw [if_neg (by omega), if_neg (by rw [← H1.out]; decide), if_pos (by simpa using h2)]
      · rw [hg2] at hc3
        have HG2 := hide hg2
        clear hg2
        go_wp2_with fail
        go_ret
        refine ⟨⟨_, Or.inl ?_, rfl⟩, hb⟩
        have h2 := HG.out
        rw [HG2.out] at h2
        unfold faultT
        rw [if_neg (by omega), if_neg (by rw [← H1.out]; decide), if_neg (by simpa using h2)]
  · rw [decide_eq_false h40] at hr1
    subst hr1
    clear hr2 hrun
    go_wp2_with fail
    go_ret
    exact ⟨⟨2, Or.inr rfl, rfl⟩, hb⟩

/-- The codes that Check may tell. -/
def MayTell (s : ByteArray) (k : Fo) (c : Int) : Prop := c = faultT s k ∨ c = 2
theorem MayTell.good {s : ByteArray} {k : Fo} (h : MayTell s k 0) : faultT s k = 0 := by
  rcases h with h | h
  · exact h.symm
  · cases h

theorem print_raw (s : ByteArray) (ka : Option Addr) (cap : Nat) (k : Fo) (w : World) (ht : TIn w s ka cap k) (hp : FCold w k) (hn : 1 + fnodes k ≤ 5000) (hh : fhigh k ≤ 199) :
    Calls Try.prog 27 #[.agg #[.string s, .slice ka (flen k) cap]] w fun e w' => PrintEnd (MayTell s k) s k e ∧ Below w.heap.size w w' :=
  print_of (MayTell s k) s ka cap k w ht MayTell.good fun W hW => check_raw s ka cap k W (ht.below hW) (hp.below hW) hn hh

end Go.Proofs.Ytafojlockiekfaa
