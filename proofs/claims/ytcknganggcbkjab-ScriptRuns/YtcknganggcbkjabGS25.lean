/- name of package deed. Of the program's text. -/
/- The closure of package deed's insert: a new kid comes, some kids stand beneath it, and what undoes it is noted. Of the program's text. -/
/- insert of package deed. Of the program's text. -/
import Derived.Test.YtcknganggcbkjabGS23
import Derived.Test.YtcknganggcbkjabGS24
import Derived.Test.YtcknganggcbkjabGS09
import Derived.Test.YtcknganggcbkjabGS13
import Derived.Deep.RegionLaw
import Derived.Deep.DeepCutAuto
import Derived.BigQuiet
namespace Go.Proofs.Ytcknganggcbkjab.Deed
open Go.Deep Go.RowKit
set_option linter.unusedVariables false
set_option maxRecDepth 20000

set_option maxHeartbeats 2000000 in
theorem name_any (n : Nd) (d : Dd) (pa : Option Addr) (pc : Nat) (w : World) (hn : NodIn w n) (h1 : NodOne n) (hp : BPlain w n.b) (hk : FPlain w n.k) (hd : DIn w d pa pc) (hkd : d.kind = 1) (h0 : d.path.any (fun p => decide (p < 0)) = false) (hl : d.path.length ≤ 60) (hs : d.lab.size ≤ 100) :
    Calls Try.prog 84 #[.pointer (some ⟨n.b, n.o, none⟩), ddV d pa pc] w (ChEnd w n d) := by
  obtain ⟨W, hW⟩ : ∃ W, W = (w.alloc (Obj.cells #[.int .i64 d.kind, .slice pa d.path.length pc, .int .i64 d.pos, .int .i64 d.many, .string d.lab] 44)).alloc (Obj.cells #[.int .i64 0, .slice none 0 0, .int .i64 0, .int .i64 0, .string ⟨#[]⟩] 44) := ⟨_, rfl⟩
  obtain ⟨sW, bW, q1, q2⟩ := boxes2 w (Obj.cells #[.int .i64 d.kind, .slice pa d.path.length pc, .int .i64 d.pos, .int .i64 d.many, .string d.lab] 44) (Obj.cells #[.int .i64 0, .slice none 0 0, .int .i64 0, .int .i64 0, .string ⟨#[]⟩] 44)
  rw [← hW] at sW bW q1 q2
  have i1 : BackIs W w.heap.size d pa pc := BackIs.of q1
  have i2 : BackIs W (w.heap.size + 1) noDd none 0 := BackIs.of (d := noDd) q2
  have hnW := hn.below bW
  have hpW := hp.below bW
  have hkW := hk.below bW
  have hnl : n.b < w.heap.size := World.block_lt_of_cell? _ _ hn.c0
  have hoff : FOff (w.heap.size + 1) n.k := hn.tin.kids.off (by omega)
  have HA := hide (atN_any w.heap.size (w.heap.size + 1) n d.path pa pc W hnW h1 (hd.path.below bW) (by omega) (nat_path h0) (fun e w1 => (nAt (nats d.path) n = none ∧ e = .returned (.int .i64 7) ∧ w1 = W) ∨ (∃ m, nAt (nats d.path) n = some m ∧ e = .returned (.int .i64 0) ∧ Turn W w1 m (w.heap.size + 1) (d.lab, m.ka, m.cap, m.k) ⟨1, d.path, 0, 0, m.s⟩)) (fun m hm => by
      obtain ⟨a1, a2, _⟩ := nAt_in _ hnW h1 hm
      obtain ⟨a1', _, _⟩ := nAt_in _ hn h1 hm
      obtain ⟨b1, b2⟩ := nAt_plain _ hpW hkW hm
      have lm : m.b < w.heap.size := World.block_lt_of_cell? _ _ a1'.c0
      refine Calls.mono (lookN_any m w.heap.size (w.heap.size + 1) d pa pc W a1 b1 b2 i1 i2 (hd.below bW) (by omega) (by omega) (by omega) (one_off a1 a2) (a1'.tin.kids.off (by omega)) hl hs) ?_
      rintro e w1 ⟨rfl, ht⟩
      exact Or.inr ⟨m, hm, rfl, ht⟩) (fun hz => Or.inl ⟨hz, rfl, rfl⟩) (fun e w' h => by
      rcases h with ⟨_, rfl, _⟩ | ⟨_, _, rfl, _⟩
      · exact ⟨_, rfl⟩
      · exact ⟨_, rfl⟩))
  have hdone : doneP d = modP (namOp d.lab) (nats d.path) := by unfold doneP; rw [if_pos hkd]
  have hbad : nAt (nats d.path) n = none → ChEnd w n d (.returned (.tuple #[ddV noDd none 0, .int .i64 7])) W := fun hz => by
    have hc : (doneP d n.s (strip n.k)).1 = 7 := by rw [hdone]; exact mod_none _ hz
    exact Or.inl ⟨by rw [hc]; decide, by rw [hc], bW⟩
  have hgood : ∀ m w1, nAt (nats d.path) n = some m → Turn W w1 m (w.heap.size + 1) (d.lab, m.ka, m.cap, m.k) ⟨1, d.path, 0, 0, m.s⟩ → ∃ va vc, BackIs w1 (w.heap.size + 1) ⟨1, d.path, 0, 0, m.s⟩ va vc ∧ ChEnd w n d (.returned (.tuple #[ddV ⟨1, d.path, 0, 0, m.s⟩ va vc, .int .i64 0])) w1 := fun m w1 hm ht => by
    obtain ⟨va, vc, hb, hdi, hva⟩ := ht.back
    obtain ⟨r1, r2, r3, r4, r5⟩ := turn_root hnW h1 hpW hkW hm (by omega) hoff (by omega) ht
    have hbk : backP d n.s (strip n.k) = ⟨1, d.path, 0, 0, m.s⟩ := by
      unfold backP
      rw [if_pos hkd, at_nAt _ hm]
      rfl
    refine ⟨va, vc, hb, Or.inr ⟨_, va, vc, ?_, by rw [hbk], (nSet_b _ _ _).1, (nSet_b _ _ _).2, r1, r2, fun B hB hbn hf => ?_, by rw [hbk]; exact hdi, fun a ha => Nat.le_trans bW.size (hva a ha), fun q hq hf => r4 q (by omega) hf, fun q hq hb' hf => (r5 q (by omega) hb' (by omega) hf).trans (bW.block q hq), fun h3 => absurd h3 (by omega)⟩⟩
    · rw [hdone]
      exact mod_set _ hm (by simp [namOp, strip_strip])
    · obtain ⟨f1, f2⟩ := r3 B (by omega) hbn (by omega) hf
      exact ⟨f1, (bW.mono hB).trans f2⟩
  have HB := hide hbad
  have HG := hide hgood
  have H2 := hide i2
  clear hbad hgood hdone i1 i2 hnW hpW hkW hoff q1 q2 hn h1 hp hk hd h0 bW hkd
  unfold ddV
  go_enter Try.func84, Try.ntmps84
  go_wp2_with fail
  rw [← hW]
  clear hW
  refine Calls.mono HA.out ?_
  rintro e w1 (⟨hz, rfl, rfl⟩ | ⟨m, hm, rfl, ht⟩)
  · have HZ := hide (HB.out hz)
    obtain ⟨x0, x1, x2, x3, x4, xf, xb⟩ := H2.out
    unfold noDd at x0 x1 x2 x3 x4
    simp only [List.length_nil] at x0 x1 x2 x3 x4
    have s0 := setCell_self xb x0
    have s1 := setCell_self xb x1
    have s2 := setCell_self xb x2
    have s3 := setCell_self xb x3
    have s4 := setCell_self xb x4
    clear xb hz HA HG HB H2
    go_wp2_with fail
    refine bodyPost_ret (v := .tuple #[.agg #[.int .i64 0, .slice none 0 0, .int .i64 0, .int .i64 0, .string ⟨#[]⟩], .int .i64 7]) (by simp [results, Try.results84, go_sem, *]) rfl ?_
    exact HZ.out
  · obtain ⟨va, vc, hb, he⟩ := HG.out m w1 hm ht
    have HZ := hide he
    obtain ⟨x0, x1, x2, x3, x4, xf, xb⟩ := hb
    simp only at x0 x1 x2 x3 x4
    have s0 := setCell_self xb x0
    have s1 := setCell_self xb x1
    have s2 := setCell_self xb x2
    have s3 := setCell_self xb x3
    have s4 := setCell_self xb x4
    clear xb hm ht HA HG HB H2 he
    go_wp2_with fail
    refine bodyPost_ret (v := .tuple #[.agg #[.int .i64 1, .slice va d.path.length vc, .int .i64 0, .int .i64 0, .string m.s], .int .i64 0]) (by simp [results, Try.results84, go_sem, *]) rfl ?_
    exact HZ.out
end Go.Proofs.Ytcknganggcbkjab.Deed
namespace Go.Proofs.Ytcknganggcbkjab.Deed
open Go.Deep Go.RowKit
set_option linter.unusedVariables false
set_option maxRecDepth 20000

/-- What it comes to. -/
def InsEnd (w : World) (m : Nd) (c2 : Nat) (d : Dd) (i n : Nat) (e : Ending) (w' : World) : Prop :=
  (¬ i + n ≤ flen m.k ∧ e = .returned (.int .i64 9) ∧ Below w.heap.size w w') ∨ ∃ x, i + n ≤ flen m.k ∧ e = .returned (.int .i64 0) ∧ Turn w w' m c2 x ⟨2, d.path ++ [(i : Int)], 0, 0, ⟨#[]⟩⟩ ∧ x.1 = m.s ∧ strip x.2.2.2 = toFo ((gsF m.k).take i ++ ((d.lab, toFo (((gsF m.k).drop i).take n)) :: (gsF m.k).drop (i + n))) ∧ ((ab m.k).Nodup → (ab x.2.2.2).Nodup)

theorem wrap_sub {a b : Nat} (h : b ≤ a) (h2 : a ≤ 1000000) : wrap64 ((a : Int) - (b : Int)) = ((a - b : Nat) : Int) := by
  unfold wrap64
  omega
theorem wrap_sub' {a b : Nat} (h : b ≤ a) (h2 : a ≤ 1000000) : IntKind.i64.wrap ((a : Int) - (b : Int)) = ((a - b : Nat) : Int) := by
  rw [IntKind.wrap_i64]
  omega

set_option maxHeartbeats 4000000 in
theorem lookI_bad (m : Nd) (c1 c2 : Nat) (d : Dd) (i n : Nat) (pa : Option Addr) (pc : Nat) (w : World) (hm : NodIn w m) (h1 : BackIs w c1 d pa pc) (hi : d.pos = (i : Int)) (hn : d.many = (n : Int)) (hnn : fnodes m.k ≤ 200) (hbad : ¬ i + n ≤ flen m.k) :
    Calls Try.prog 102 #[.pointer (some ⟨m.b, m.o, none⟩), .pointer (some ⟨c1, 0, none⟩), .pointer (some ⟨c2, 0, none⟩)] w (InsEnd w m c2 d i n) := by
  obtain ⟨k0, k1, k2, k3, k4, kf, _⟩ := h1
  obtain ⟨m0, m1, mt⟩ := hm
  rw [hi] at k2
  rw [hn] at k3
  have hfl := flen_le_nodes m.k
  have HB := hide hbad
  clear hi hn mt k0 k1 k4 kf m0
  by_cases hc : flen m.k < i
  · have hd : decide (((flen m.k : Nat) : Int) < (i : Int)) = true := decide_eq_true (by omega)
    clear hbad
    go_enter Try.func102, Try.ntmps102
    go_wp2_with fail
    go_quiet (fail)
    go_wp2_with fail
    go_ret
    exact Or.inl ⟨HB.out, rfl, below_drewN (Below.refl _ _) _⟩
  · have hd : decide (((flen m.k : Nat) : Int) < (i : Int)) = false := decide_eq_false (by omega)
    have hw := wrap_sub (a := flen m.k) (b := i) (by omega) (by omega)
    have hw' := wrap_sub' (a := flen m.k) (b := i) (by omega) (by omega)
    obtain ⟨r, hr⟩ : ∃ r, r = flen m.k - i := ⟨_, rfl⟩
    rw [← hr] at hw hw'
    have hd2 : decide ((r : Int) < (n : Int)) = true := decide_eq_true (by omega)
    have hr2 : r < n := by omega
    clear hbad hr
    go_enter Try.func102, Try.ntmps102
    go_wp2_with fail
    go_quiet (fail)
    go_wp2_with fail
    go_ret
    exact Or.inl ⟨HB.out, rfl, below_drewN (Below.refl _ _) _⟩

set_option maxHeartbeats 4000000 in
theorem lookI_good (m : Nd) (c1 c2 : Nat) (d : Dd) (i n : Nat) (pa : Option Addr) (pc : Nat) (w : World) (hm : NodIn w m) (hp : BPlain w m.b) (hk : FPlain w m.k) (h1 : BackIs w c1 d pa pc) (h2 : BackIs w c2 noDd none 0) (hd : DIn w d pa pc) (hi : d.pos = (i : Int)) (hn : d.many = (n : Int))
    (n1 : m.b ≠ c1) (n2 : m.b ≠ c2) (n3 : c1 ≠ c2) (o1 : FOff m.b m.k) (o2 : FOff c2 m.k) (hl : d.path.length ≤ 60) (hs : d.lab.size ≤ 100) (hnn : fnodes m.k ≤ 200) (hok : i + n ≤ flen m.k) :
    Calls Try.prog 102 #[.pointer (some ⟨m.b, m.o, none⟩), .pointer (some ⟨c1, 0, none⟩), .pointer (some ⟨c2, 0, none⟩)] w (InsEnd w m c2 d i n) := by
  have HM := hide hm
  have H1 := hide h1
  have H2 := hide h2
  obtain ⟨k0, k1, k2, k3, k4, kf, _⟩ := h1
  obtain ⟨m0, m1, mt⟩ := hm
  rw [hi] at k2
  rw [hn] at k3
  have hi := hide hi
  have hn := hide hn
  have l1 := H1.out.lt
  have l2' := H2.out.lt
  have lm : m.b < w.heap.size := World.block_lt_of_cell? _ _ m0
  have hfl := flen_le_nodes m.k
  have hlen := mt.len
  have hcap := mt.cap
  unfold maxLen at hcap
  have hd1 : decide (((flen m.k : Nat) : Int) < (i : Int)) = false := decide_eq_false (by omega)
  have hw := wrap_sub (a := flen m.k) (b := i) (by omega) (by omega)
  have hw' := wrap_sub' (a := flen m.k) (b := i) (by omega) (by omega)
  obtain ⟨r, hr⟩ : ∃ r, r = flen m.k - i := ⟨_, rfl⟩
  rw [← hr] at hw hw'
  have hd2 : decide ((r : Int) < (n : Int)) = false := decide_eq_false (by omega)
  have hr2 : ¬ r < n := by omega
  have hc2 : ¬ flen m.k < i := by omega
  have HK := hide (And.intro hp (And.intro hk (And.intro mt (And.intro hd (And.intro o1 o2)))))
  clear hr hp hk mt hd o1 o2 h2 m0 k0 kf
  go_enter Try.func102, Try.ntmps102
  go_wp2_with fail
  go_quiet (fail)
  obtain ⟨wA, hwA⟩ : ∃ wA, wA = w.drewN nq := ⟨_, rfl⟩
  rw [← hwA]
  have bA : Below w.heap.size w wA := by rw [hwA]; exact below_drewN (Below.refl _ _) _
  have sA : wA.heap.size = w.heap.size := by rw [hwA]; rfl
  clear hwA hd1 hd2 hw hw'
  have a1 : wA.cell? ⟨c1, 1, none⟩ = some (.slice pa d.path.length pc) := by rw [bA.cell l1]; exact k1
  have a2 : wA.cell? ⟨c1, 2, none⟩ = some (.int .i64 (i : Int)) := by rw [bA.cell l1]; exact k2
  have a3 : wA.cell? ⟨c1, 3, none⟩ = some (.int .i64 (n : Int)) := by rw [bA.cell l1]; exact k3
  have a4 : wA.cell? ⟨c1, 4, none⟩ = some (.string d.lab) := by rw [bA.cell l1]; exact k4
  have a5 : wA.cell? ⟨m.b, m.o + 1, none⟩ = some (.slice m.ka (flen m.k) m.cap) := by rw [bA.cell lm]; exact m1
  clear k1 k2 k3 k4 m1
  obtain ⟨wB, hwB⟩ : ∃ wB, wB = wA.alloc (Obj.cells #[.int .i64 (i : Int)] 3) := ⟨_, rfl⟩
  have bB : Below w.heap.size w wB := by rw [hwB]; exact bA.alloc (by omega) _
  have sB : wB.heap.size = w.heap.size + 1 := by rw [hwB]; simp [sA]
  have nB : wB.heap[w.heap.size]? = some (Obj.cells #[.int .i64 (i : Int)] 3) := by rw [hwB, ← sA]; exact heap_alloc_new wA _
  have HJ := hide (joined_any pa (some ⟨w.heap.size, 0, none⟩) pc 1 d.path [(i : Int)] wB (HK.out.2.2.2.1.path.below bB) (Or.inr ⟨_, _, rfl, fun j q hq => by
    cases j with
    | zero =>
      simp only [List.getElem?_cons_zero, Option.some.injEq] at hq
      subst hq
      rw [cell_of_row _ _ 0 _ _ _ nB]
      rfl
    | succ j => simp at hq⟩) (by simp; omega))
  simp only [List.length_cons, List.length_nil] at HJ
  go_wp2_with fail
  rw [← hwB]
  clear hwB
  refine Calls.mono HJ.out ?_
  rintro e w1 ⟨va, vc, rfl, p1, p2, p3, p4, hb1⟩
  have hb01 : Below w.heap.size w w1 := bB.trans (hb1.mono (by omega))
  have s1 := hb1.size
  have hX := H2.out.block (w' := w1) (hb01.block c2 l2')
  have HX := hide hX
  obtain ⟨x0, x1, x2, x3, x4, xf, _⟩ := hX
  unfold noDd at x0 x1 x2 x3 x4
  simp only [List.length_nil] at x0 x1 x2 x3 x4
  have HP := hide (And.intro p1 (And.intro p2 (And.intro p3 (And.intro p4 hb01))))
  clear p1 p2 p3 p4 hb1 bA sA bB nB hb01 HJ
  have hs8 : ∀ (W : World) (h : Off c2 w1 W), W.cell? ⟨c1, 1, none⟩ = some (.slice pa d.path.length pc) ∧ W.cell? ⟨c1, 2, none⟩ = some (.int .i64 (i : Int)) ∧ W.cell? ⟨c1, 3, none⟩ = some (.int .i64 (n : Int)) ∧ W.cell? ⟨c1, 4, none⟩ = some (.string d.lab) ∧ W.cell? ⟨m.b, m.o + 1, none⟩ = some (.slice m.ka (flen m.k) m.cap) := fun W h => by
    have e1 : W.heap[c1]? = w.heap[c1]? := by rw [h.same c1 (by omega) n3, HP.out.2.2.2.2.block c1 l1]
    have em : W.heap[m.b]? = w.heap[m.b]? := by rw [h.same m.b (by omega) n2, HP.out.2.2.2.2.block m.b lm]
    have q := H1.out
    refine ⟨cellN e1 q.c1, cellN e1 ?_, cellN e1 ?_, cellN e1 q.c4, cellN em HM.out.c1⟩
    · rw [← hi.out]; exact q.c2
    · rw [← hn.out]; exact q.c3
  have HS8 := hide hs8
  clear hs8 a1 a2 a3 a4 a5
  go_wp2_with fail
  have hbk := set5 HX.out ⟨2, d.path ++ [(i : Int)], 0, 0, ⟨#[]⟩⟩ va vc
  simp only [List.length_append, List.length_cons, List.length_nil, Nat.zero_add] at hbk
  have hof := ((((Off.refl c2 w1).set (o := 0) (v := .int .i64 2)).set (o := 1) (v := .slice va (d.path.length + 1) vc)).set (o := 2) (v := .int .i64 0)).set (o := 3) (v := .int .i64 0) |>.set (o := 4) (v := .string ⟨#[]⟩)
  have hbl : ∀ B, B ≤ c2 → B ≤ w1.heap.size → Below B w1 (((((w1.setCell ⟨c2, 0, none⟩ (.int .i64 2)).setCell ⟨c2, 1, none⟩ (.slice va (d.path.length + 1) vc)).setCell ⟨c2, 2, none⟩ (.int .i64 0)).setCell ⟨c2, 3, none⟩ (.int .i64 0)).setCell ⟨c2, 4, none⟩ (.string ⟨#[]⟩)) := fun B h1 _ => ((((Below.refl B w1).setCell h1 _).setCell h1 _).setCell h1 _).setCell h1 _ |>.setCell h1 _
  obtain ⟨w8, hw8⟩ : ∃ w8, w8 = ((((w1.setCell ⟨c2, 0, none⟩ (.int .i64 2)).setCell ⟨c2, 1, none⟩ (.slice va (d.path.length + 1) vc)).setCell ⟨c2, 2, none⟩ (.int .i64 0)).setCell ⟨c2, 3, none⟩ (.int .i64 0)).setCell ⟨c2, 4, none⟩ (.string ⟨#[]⟩) := ⟨_, rfl⟩
  rw [← hw8] at hbk hof hbl ⊢
  clear hw8 x0 x1 x2 x3 x4 xf
  obtain ⟨y1, y2, y3, y4, y5⟩ := HS8.out w8 hof
  have s8 := hof.size
  have HF := hide (And.intro hbk (And.intro hof hbl))
  clear hbk hof hbl
  have sl := slice_lh m.ka (flen m.k) m.cap i (i + n) (by omega) (by omega)
  simp only [Int.natCast_add, Nat.add_sub_cancel_left] at sl
  have hle : i + n ≤ 1000000 := by omega
  have hw1 : wrap64 ((i : Int) + (n : Int)) = (i : Int) + (n : Int) := by rw [wrap_sum i n hle]; simp
  have hw2 := wrap_sum' i n hle
  go_quiet (fail)
  clear hw1 hw2 sl
  obtain ⟨wD, hwD⟩ : ∃ wD, wD = w8.drewN nq := ⟨_, rfl⟩
  rw [← hwD]
  have bD : Below w8.heap.size w8 wD := by rw [hwD]; exact below_drewN (Below.refl _ _) _
  clear hwD
  have y4' : wD.cell? ⟨c1, 4, none⟩ = some (.string d.lab) := by rw [bD.cell (show c1 < w8.heap.size by omega)]; exact y4
  go_wp2_with fail
  refine (clone_any d.lab _ (by omega)).mono ?_
  rintro e wE ⟨rfl, hbE⟩
  have bE : Below w8.heap.size w8 wE := bD.trans (hbE.mono bD.size)
  have sE := bE.size
  clear bD hbE y4'
  obtain ⟨wG, hwG⟩ : ∃ wG, wG = wE.alloc (Obj.cells #[.slice (subA m.ka m.cap i) n (m.cap - i)] 22) := ⟨_, rfl⟩
  have bG : Below w8.heap.size w8 wG := by rw [hwG]; exact bE.alloc sE _
  have sG : wG.heap.size = wE.heap.size + 1 := by rw [hwG]; simp
  have nG : wG.heap[wE.heap.size]? = some (Obj.cells #[.slice (subA m.ka m.cap i) n (m.cap - i)] 22) := by rw [hwG]; exact heap_alloc_new wE _
  obtain ⟨hp, hk, mt, hd, o1, o2⟩ := HK.out
  obtain ⟨hbk, hof, hbl⟩ := HF.out
  have hb01 := HP.out.2.2.2.2
  have hO8 : Off c2 w w8 := ⟨by omega, fun q hq hne => by rw [hof.same q (by omega) hne, hb01.block q hq]⟩
  have k8 : KIn w8 m.ka m.k := (TIn.but (g := c2) hO8.same o2 mt).kids
  have HC := hide (concatT_any wE.heap.size 1 [⟨subA m.ka m.cap i, n, m.cap - i, rowCells (((itemsF m.k).drop i).take n)⟩] wG (0, 0) (by rw [nG]; rfl) (fun s hs => by
    simp only [List.mem_cons, List.not_mem_nil, or_false] at hs
    subst hs
    exact src_kids (k8.below bG) m.cap i n (m.cap - i) mt.len (by omega)) (by simp) (by simp [tot]; omega))
  simp only [tot, List.length_cons, List.length_nil, List.flatMap_cons, List.flatMap_nil, List.append_nil, Nat.add_zero, Nat.zero_add] at HC
  have HG := hide (And.intro bG k8)
  clear hp hk mt hd o1 o2 hbk hof hbl hb01 nG bE bG k8
  go_wp2_with fail
  rw [← hwG]
  clear hwG
  refine Calls.mono HC.out ?_
  rintro e wH ⟨va3, vc3, rfl, hown3, hb3⟩
  obtain ⟨hp, hk, mt, hd, o1, o2⟩ := HK.out
  obtain ⟨hbk, hof, hbl⟩ := HF.out
  have hb01 := HP.out.2.2.2.2
  obtain ⟨bG, k8⟩ := HG.out
  have sH := hb3.size
  have bH : Below w8.heap.size w8 wH := bG.trans (hb3.mono (by omega))
  have hkp8 : FPlain w8 m.k := FPlain.but (g := c2) hO8.same o2 hk
  obtain ⟨Lk, hLk⟩ : ∃ Lk, Lk = ((itemsF m.k).drop i).take n := ⟨_, rfl⟩
  have hLl : Lk.length = n := by
    rw [hLk, List.length_take, List.length_drop, itemsF_length]
    omega
  have hLm : ∀ it, it ∈ Lk → it ∈ itemsF m.k := fun it hi => by
    rw [hLk] at hi
    exact List.mem_of_mem_drop (List.mem_of_mem_take hi)
  rw [← hLk, ← hLl] at hown3
  obtain ⟨ka', cap', kN, hv, hst, hl1, hl2, hkin, hpl, hfr, hoff, habN⟩ := row_kids hown3 (fun it hi => ⟨items_in (k8.below bH) it (hLm it hi), items_plain (hkp8.below bH) it (hLm it hi)⟩)
  rw [hLl] at hv
  injection hv with e1 e2 e3
  rw [← e1] at hkin
  rw [← e3] at hl1 hl2
  have hst' : strip kN = toFo (((gsF m.k).drop i).take n) := by
    rw [hst, hLk]
    simp only [List.map_take, List.map_drop, items_bare]
  rw [hLk] at habN
  have habN2 : (kN = .nil ∧ ((itemsF m.k).drop i).take n = []) ∨ ∃ g3, wG.heap.size ≤ g3 ∧ g3 < wH.heap.size ∧ ab kN = g3 :: (((itemsF m.k).drop i).take n).flatMap (fun i => ab i.2.2.2) := by
    rcases habN with h | ⟨g3, h1, h2⟩
    · exact Or.inl h
    · exact Or.inr ⟨g3, h1, ab_lt hkin g3 (by rw [h2]; simp), h2⟩
  have HL := hide hLm
  have HN := hide (And.intro e2 (And.intro hst' (And.intro hl1 (And.intro hl2 (And.intro hkin (And.intro hpl (And.intro hfr (And.intro hoff habN2))))))))
  have HH := hide (And.intro bH hb3)
  clear hp hk mt hd o1 o2 hbk hof hbl hb01 bG k8 bH hkp8 hown3 hb3 e1 e2 e3 hst hst' hl1 hl2 hkin hpl hfr hoff habN habN2 hLl hLm hLk HC
  go_wp2_with fail
  obtain ⟨wI, hwI⟩ : ∃ wI, wI = wH.alloc (Obj.cells #[Value.string d.lab, Value.slice va3 n vc3] 24) := ⟨_, rfl⟩
  have bI : Below w8.heap.size w8 wI := by rw [hwI]; exact HH.out.1.alloc HH.out.1.size _
  have sI : wI.heap.size = wH.heap.size + 1 := by rw [hwI]; simp
  have hbHI : Below wH.heap.size wH wI := by rw [hwI]; exact (Below.refl _ _).alloc (Nat.le_refl _) _
  have nI : wI.heap[wH.heap.size]? = some (Obj.cells #[Value.string d.lab, Value.slice va3 n vc3] 24) := by rw [hwI]; exact heap_alloc_new _ _
  rw [← hwI]
  clear hwI
  have t2 : wI.cell? ⟨c1, 2, none⟩ = some (.int .i64 (i : Int)) := by rw [bI.cell (show c1 < w8.heap.size by omega)]; exact y2
  have t3 : wI.cell? ⟨c1, 3, none⟩ = some (.int .i64 (n : Int)) := by rw [bI.cell (show c1 < w8.heap.size by omega)]; exact y3
  have t5 : wI.cell? ⟨m.b, m.o + 1, none⟩ = some (.slice m.ka (flen m.k) m.cap) := by rw [bI.cell (show m.b < w8.heap.size by omega)]; exact y5
  have t6 : wI.cell? ⟨wH.heap.size, 0, none⟩ = some (.string d.lab) := by rw [cell_of_row _ _ 0 _ _ _ nI]; rfl
  have t7 : wI.cell? ⟨wH.heap.size, 1, none⟩ = some (.slice va3 n vc3) := by rw [cell_of_row _ _ 1 _ _ _ nI]; rfl
  obtain ⟨wJ, hwJ⟩ : ∃ wJ, wJ = (wI.alloc (Obj.cells #[Value.string d.lab, Value.slice va3 n vc3] 24)).drew := ⟨_, rfl⟩
  have bJ : Below wI.heap.size wI wJ := by rw [hwJ]; exact ((Below.refl _ wI).alloc (Nat.le_refl _) _).drew
  have nJ : wJ.heap[wI.heap.size]? = some (Obj.cells #[Value.string d.lab, Value.slice va3 n vc3] 24) := by rw [hwJ]; exact heap_alloc_new wI _
  obtain ⟨hp, hk, mt, hd, o1, o2⟩ := HK.out
  obtain ⟨hbk, hof, hbl⟩ := HF.out
  have hb01 := HP.out.2.2.2.2
  obtain ⟨bG, k8⟩ := HG.out
  have sJ := bJ.size
  have b8J : Below w8.heap.size w8 wJ := bI.trans (bJ.mono (by omega))
  have HW := hide (swapped_any m.ka m.cap m.k i n ⟨some ⟨wI.heap.size, 0, none⟩, 1, 1, [.string d.lab, .slice va3 n vc3]⟩ wJ (k8.below b8J) mt.len mt.cap hok ⟨rfl, fun u hu => by simp at hu; rcases hu with rfl | rfl <;> rfl, Or.inr ⟨_, rfl, World.news_of_block nJ⟩⟩ (by simp only; omega))
  unfold Src.val at HW
  simp only [sI] at HW
  have HT := hide (show ∀ (va2 : Option Addr) (vc2 : Nat) (w2 : World), w2.ownsRow wJ.heap.size 24 2 (.slice va2 (i + (1 + (flen m.k - (i + n)))) vc2) (i + (1 + (flen m.k - (i + n)))) (rowCells ((itemsF m.k).take i) ++ ([.string d.lab, .slice va3 n vc3] ++ rowCells ((itemsF m.k).drop (i + n)))) → Below wJ.heap.size wJ w2 → InsEnd w m c2 d i n (.returned (.int .i64 0)) (w2.setCell ⟨m.b, m.o + 1, none⟩ (.slice va2 (i + (1 + (flen m.k - (i + n)))) vc2)) from fun va2 vc2 w2 hown hb2 => by
    obtain ⟨e2, hst, hl1, hl2, hkin, hpl, hfr, hoff, habN⟩ := HN.out
    have l2 := hb2.size
    have b82 : Below w8.heap.size w8 w2 := b8J.trans (hb2.mono (by omega))
    have bH2 : Below wH.heap.size wH w2 := hbHI.trans ((bJ.mono (by omega)).trans (hb2.mono (by omega)))
    have hof3 : Off m.b w8 (w2.setCell ⟨m.b, m.o + 1, none⟩ (.slice va2 (i + (1 + (flen m.k - (i + n)))) vc2)) := ((Off.refl m.b w8).below b82).set
    have hofH : Off m.b wH (w2.setCell ⟨m.b, m.o + 1, none⟩ (.slice va2 (i + (1 + (flen m.k - (i + n)))) vc2)) := ((Off.refl m.b wH).below bH2).set
    have onew := hoff m.b (by omega) (fun it hi => items_off o1 it (HL.out it hi))
    obtain ⟨L, hL⟩ : ∃ L : List It, L = (itemsF m.k).take i ++ ((d.lab, va3, vc3, kN) :: (itemsF m.k).drop (i + n)) := ⟨_, rfl⟩
    have hLl : L.length = i + (1 + (flen m.k - (i + n))) := by
      rw [hL]
      simp only [List.length_append, List.length_take, List.length_drop, List.length_cons, itemsF_length]
      omega
    have hLm : ∀ it, it ∈ L → it ∈ itemsF m.k ∨ it = (d.lab, va3, vc3, kN) := fun it hi => by
      rw [hL] at hi
      rcases List.mem_append.1 hi with hi | hi
      · exact Or.inl (List.mem_of_mem_take hi)
      · rcases List.mem_cons.1 hi with hi | hi
        · exact Or.inr hi
        · exact Or.inl (List.mem_of_mem_drop hi)
    have hcells : rowCells ((itemsF m.k).take i) ++ ([.string d.lab, .slice va3 n vc3] ++ rowCells ((itemsF m.k).drop (i + n))) = rowCells L := by
      rw [hL, rowCells_app]
      simp only [rowCells, itCells, ← e2]
    rw [hcells, ← hLl] at hown
    rw [← hLl] at hof3 hofH ⊢
    have hrow : (w2.setCell ⟨m.b, m.o + 1, none⟩ (.slice va2 L.length vc2)).ownsRow wJ.heap.size 24 2 (.slice va2 L.length vc2) L.length (rowCells L) := ownsN_block hown fun g hg => Below.heap_setCell _ _ _ _ (by
      have := (ownBlockN_lt hown hg).1
      show g ≠ m.b
      omega)
    have hit : ∀ it, it ∈ L → ItIn (w2.setCell ⟨m.b, m.o + 1, none⟩ (.slice va2 L.length vc2)) it ∧ FPlain (w2.setCell ⟨m.b, m.o + 1, none⟩ (.slice va2 L.length vc2)) it.2.2.2 := fun it hi => by
      rcases hLm it hi with hi | rfl
      · have h := items_in mt.kids it hi
        have hq := kids_two (n := m) h.kids (items_plain hk it hi) (items_off o1 it hi) (items_off o2 it hi) hb01 hof hof3
        exact ⟨⟨h.size, h.len, h.cap, hq.1⟩, hq.2⟩
      · exact ⟨TIn.but (g := m.b) hofH.same onew ⟨hd.lab, hl1, hl2, hkin⟩, FPlain.but (g := m.b) hofH.same onew hpl⟩
    obtain ⟨ka', cap', k', hv, hst', hl1', hl2', hkin', hpl', hfr', hoff', habX⟩ := row_kids hrow hit
    rw [hv] at hof3 hkin' hpl' ⊢
    have q2 : w2.heap[m.b]? = w8.heap[m.b]? := b82.block m.b (by omega)
    refine Or.inr ⟨(m.s, ka', cap', k'), hok, rfl, ?_, rfl, ?_, fun hndm => ?_⟩
    · refine turn_of HM.out hp hk l2' n2 (hoff' m.b (by omega) fun it hi => ?_) (hoff' c2 (by omega) fun it hi => ?_) hb01 hof hbl ?_ HP.out.1 (fun a ha => ?_) HP.out.2.1 HP.out.2.2.1 (show (ByteArray.size ⟨#[]⟩) ≤ maxLen by decide) hof3 (fun B h1 h2 => (b82.mono h2).setCell h1 _) (fun o h1 h2 => ?_) (fun h => plain_set1 (h.below b82)) ⟨?_, cset_same (cellN q2 y5), ⟨mt.size, hl1', hl2', hkin'⟩⟩ (fun B hB h => hfr' B (by omega) fun it hi => ?_) hpl' (fun c hc h => hoff' c (by omega) fun it hi => ?_)
      · rcases hLm it hi with hi | rfl
        · exact items_off o1 it hi
        · exact onew
      · rcases hLm it hi with hi | rfl
        · exact items_off o2 it hi
        · exact hoff c2 (by omega) (fun it hi => items_off o2 it (HL.out it hi))
      · simpa using hbk
      · obtain ⟨u1, u2⟩ := HP.out.2.2.2.1 a ha
        omega
      · rw [cset_other (by omega)]
        exact World.cell?_of_block (w := w8) (w' := w2) (a := ⟨m.b, o, none⟩) q2
      · show (w2.setCell ⟨m.b, m.o + 1, none⟩ _).cell? ⟨m.b, m.o, none⟩ = _
        rw [cset_other (by omega)]
        refine cellN q2 (cellN (hO8.same m.b lm n2) HM.out.c0)
      · rcases hLm it hi with hi | rfl
        · exact items_from h it hi
        · exact hfr B (by omega) (fun it hi => items_from h it (HL.out it hi))
      · rcases hLm it hi with hi | rfl
        · exact items_off h it hi
        · exact hoff c (by omega) (fun it hi => items_off h it (HL.out it hi))
    · rw [hst', hL]
      simp only [List.map_append, List.map_cons, List.map_take, List.map_drop, items_bare, bareIt, hst]
    · rcases habX with ⟨_, h⟩ | ⟨g, h1, h2⟩
      · rw [hL] at h
        simp at h
      · rw [hL] at h2
        refine ins_nodup (H := w8.heap.size) ((List.nodup_append.1 hndm).2.1) (fun q hq => ?_) ?_ (by omega) h2
        · have := ab_lt mt.kids q (List.mem_append.2 (Or.inr hq))
          omega
        · rcases habN with h | ⟨g3, h3, h4, h5⟩
          · exact Or.inl h
          · have := bG.size
            exact Or.inr ⟨g3, by omega, by omega, h5⟩)
  have y8 : ∀ o, w8.frozen? ⟨m.b, o, none⟩ = false := fun o => by
    obtain ⟨cs, e, h⟩ := hp
    have hh : w8.heap[m.b]? = some (.cells cs e (0, 0)) := by rw [hO8.same m.b lm n2]; exact h
    simp [World.frozen?, hh]
  have r2 : wJ.cell? ⟨c1, 2, none⟩ = some (.int .i64 (i : Int)) := by rw [bJ.cell (show c1 < wI.heap.size by omega)]; exact t2
  have r3 : wJ.cell? ⟨c1, 3, none⟩ = some (.int .i64 (n : Int)) := by rw [bJ.cell (show c1 < wI.heap.size by omega)]; exact t3
  have r5 : wJ.cell? ⟨m.b, m.o + 1, none⟩ = some (.slice m.ka (flen m.k) m.cap) := by rw [bJ.cell (show m.b < wI.heap.size by omega)]; exact t5
  have HB8 := hide b8J
  clear hp hk mt hd o1 o2 hbk hof hbl hb01 bG k8 b8J nI nJ bI hbHI y1 y2 y3 y4 y5 hO8
  rw [hwJ] at r2 r3 r5
  have HKI := hide (show Kp [c1, wH.heap.size] wI wI.drew from (Kp.refl (by simp; omega)).drew)
  have HKJ := hide (show Kp [c1, wH.heap.size] wI wJ from (Kp.refl (by simp; omega)).below bJ)
  have hnm : ¬ m.b ∈ [c1, wH.heap.size] := by simp; omega
  go_wp2_with fail
  refine wp_region_held_drew (S := fun W => Kp [c1, wH.heap.size] wI W) (by kernel_rfl) HKI.out ?_
  intro hS0
  refine wpAnyH_take (i := 0) (v := .pointer (some ⟨m.b, m.o, none⟩)) rfl (by kernel_rfl) (by kernel_rfl) (by kernel_rfl) (fun _ _ _ h => h) (Or.inl ⟨by rfl, by intro W hSw; go_simp⟩) (by assumption) ?_
  refine wpAnyH_take (i := 1) (v := .pointer (some ⟨m.b, m.o, none⟩)) rfl (by kernel_rfl) (by kernel_rfl) (by kernel_rfl) (fun _ _ _ h => h) (Or.inl ⟨by rfl, by intro W hSw; go_simp⟩) (by assumption) ?_
  refine wpAnyH_take (i := 2) (v := .pointer (some ⟨m.b, m.o, none⟩)) rfl (by kernel_rfl) (by kernel_rfl) (by kernel_rfl) (fun _ _ _ h => h) (Or.inl ⟨by rfl, by intro W hSw; go_simp⟩) (by assumption) ?_
  refine wpAnyH_take (i := 3) (v := .pointer (some ⟨m.b, m.o + 1, none⟩)) rfl (by kernel_rfl) (by kernel_rfl) (by kernel_rfl) (fun _ _ _ h => h) (Or.inl ⟨by rfl, by intro W hSw; go_simp⟩) (by assumption) ?_
  refine wpAnyH_take (i := 5) (v := .pointer (some ⟨c1, 2, none⟩)) rfl (by kernel_rfl) (by kernel_rfl) (by kernel_rfl) (fun _ _ _ h => h) (Or.inl ⟨by rfl, by intro W hSw; go_simp⟩) (by assumption) ?_
  refine wpAnyH_take (i := 6) (v := .int .i64 (i : Int)) rfl (by kernel_rfl) (by kernel_rfl) (by kernel_rfl) (fun _ _ _ h => h) (Or.inl ⟨by rfl, by intro W hSw; have hs := hSw.cell (by simp) t2; go_simp⟩) (by assumption) ?_
  refine wpAnyH_take (i := 7) (v := .pointer (some ⟨c1, 3, none⟩)) rfl (by kernel_rfl) (by kernel_rfl) (by kernel_rfl) (fun _ _ _ h => h) (Or.inl ⟨by rfl, by intro W hSw; go_simp⟩) (by assumption) ?_
  refine wpAnyH_take (i := 8) (v := .int .i64 (n : Int)) rfl (by kernel_rfl) (by kernel_rfl) (by kernel_rfl) (fun _ _ _ h => h) (Or.inl ⟨by rfl, by intro W hSw; have hs := hSw.cell (by simp) t3; go_simp⟩) (by assumption) ?_
  refine wpAnyH_take (i := 9) (v := .agg #[.string d.lab, .slice va3 n vc3]) rfl (by kernel_rfl) (by kernel_rfl) (by kernel_rfl) (fun _ _ _ h => h) (Or.inl ⟨by rfl, by intro W hSw; have hs := hSw.cell (by simp) t6; have hs2 := hSw.cell (by simp) t7; go_simp⟩) (by assumption) ?_
  simp only [Act.put, List.setIfInBounds_toArray]
  refine wpAnyH_ready (rs := [4, 10]) (by kernel_rfl) (by simp) ?_
  refine AllReadyH.cons rfl (fun KK hK => ?_) (AllReadyH.cons rfl (fun KK hK => ?_) AllReadyH.nil)
  · go_simp
    refine hK.out _ _ HKI.out (fun hHeld => ?_)
    clear hK KK
    try simp only [Act.put, List.setIfInBounds_toArray]
    refine wpAnyH_ready (rs := [10]) (by kernel_rfl) (by simp) ?_
    refine AllReadyH.cons rfl (fun KK hK => ?_) AllReadyH.nil
    go_simp
    refine hK.out _ _ (by rw [← hwJ]; exact HKJ.out) (fun hHeld => ?_)
    clear hK KK
    try simp only [Act.put, List.setIfInBounds_toArray]
    refine wpAnyH_ready (rs := [11]) (by kernel_rfl) (by simp) ?_
    refine AllReadyH.cons rfl (fun KK hK => ?_) AllReadyH.nil
    go_simp
    rw [← hwJ]
    refine Calls.mono HW.out ?_
    rintro e w2 ⟨va2, vc2, rfl, hown, hb2⟩
    have hb2' : Below w8.heap.size w8 w2 := HB8.out.trans (hb2.mono (by omega))
    have g6 : w2.cell? ⟨m.b, m.o + 1, none⟩ = some (.slice m.ka (flen m.k) m.cap) := by (rw [hb2.cell (show m.b < wJ.heap.size by omega), hwJ]; exact r5)
    have g8 : w2.frozen? ⟨m.b, m.o + 1, none⟩ = false := by (rw [hb2'.frozen (show m.b < w8.heap.size by omega)]; exact y8 _)
    have HK2 := hide (show Kp [c1, wH.heap.size] wI w2 from HKJ.out.below hb2)
    have HO := hide (And.intro hown hb2)
    clear hown hb2 hb2'
    go_simp
    refine hK.out _ _ HK2.out (fun hHeld => ?_)
    clear hK KK
    try simp only [Act.put, List.setIfInBounds_toArray]
    refine wpAnyH_take (i := 12) (v := .pointer (some ⟨m.b, m.o, none⟩)) rfl (by kernel_rfl) (by kernel_rfl) (by kernel_rfl) (fun _ _ _ h => h) (Or.inl ⟨by rfl, by intro W hSw; go_simp⟩) (by assumption) ?_
    refine wpAnyH_take (i := 13) (v := .pointer (some ⟨m.b, m.o + 1, none⟩)) rfl (by kernel_rfl) (by kernel_rfl) (by kernel_rfl) (fun _ _ _ h => h) (Or.inl ⟨by rfl, by intro W hSw; go_simp⟩) (by assumption) ?_
    try simp only [Act.put, List.setIfInBounds_toArray]
    refine wpAnyH_ready (rs := [14]) (by kernel_rfl) (by simp) ?_
    refine AllReadyH.cons rfl (fun KK hK => ?_) AllReadyH.nil
    go_simp
    refine hK.out _ _ (HK2.out.set hnm) (fun hHeld => ?_)
    clear hK KK
    refine wpAnyH_done (by kernel_rfl) ?_ _
    go_wp2_with fail
    go_ret
    exact HT.out va2 vc2 w2 HO.out.1 HO.out.2
  · go_simp
    refine hK.out _ _ (by rw [← hwJ]; exact HKJ.out) (fun hHeld => ?_)
    clear hK KK
    try simp only [Act.put, List.setIfInBounds_toArray]
    refine wpAnyH_ready (rs := [4]) (by kernel_rfl) (by simp) ?_
    refine AllReadyH.cons rfl (fun KK hK => ?_) AllReadyH.nil
    go_simp
    refine hK.out _ _ (by rw [← hwJ]; exact HKJ.out) (fun hHeld => ?_)
    clear hK KK
    try simp only [Act.put, List.setIfInBounds_toArray]
    refine wpAnyH_ready (rs := [11]) (by kernel_rfl) (by simp) ?_
    refine AllReadyH.cons rfl (fun KK hK => ?_) AllReadyH.nil
    go_simp
    rw [← hwJ]
    refine Calls.mono HW.out ?_
    rintro e w2 ⟨va2, vc2, rfl, hown, hb2⟩
    have hb2' : Below w8.heap.size w8 w2 := HB8.out.trans (hb2.mono (by omega))
    have g6 : w2.cell? ⟨m.b, m.o + 1, none⟩ = some (.slice m.ka (flen m.k) m.cap) := by (rw [hb2.cell (show m.b < wJ.heap.size by omega), hwJ]; exact r5)
    have g8 : w2.frozen? ⟨m.b, m.o + 1, none⟩ = false := by (rw [hb2'.frozen (show m.b < w8.heap.size by omega)]; exact y8 _)
    have HK2 := hide (show Kp [c1, wH.heap.size] wI w2 from HKJ.out.below hb2)
    have HO := hide (And.intro hown hb2)
    clear hown hb2 hb2'
    go_simp
    refine hK.out _ _ HK2.out (fun hHeld => ?_)
    clear hK KK
    try simp only [Act.put, List.setIfInBounds_toArray]
    refine wpAnyH_take (i := 12) (v := .pointer (some ⟨m.b, m.o, none⟩)) rfl (by kernel_rfl) (by kernel_rfl) (by kernel_rfl) (fun _ _ _ h => h) (Or.inl ⟨by rfl, by intro W hSw; go_simp⟩) (by assumption) ?_
    refine wpAnyH_take (i := 13) (v := .pointer (some ⟨m.b, m.o + 1, none⟩)) rfl (by kernel_rfl) (by kernel_rfl) (by kernel_rfl) (fun _ _ _ h => h) (Or.inl ⟨by rfl, by intro W hSw; go_simp⟩) (by assumption) ?_
    try simp only [Act.put, List.setIfInBounds_toArray]
    refine wpAnyH_ready (rs := [14]) (by kernel_rfl) (by simp) ?_
    refine AllReadyH.cons rfl (fun KK hK => ?_) AllReadyH.nil
    go_simp
    refine hK.out _ _ (HK2.out.set hnm) (fun hHeld => ?_)
    clear hK KK
    refine wpAnyH_done (by kernel_rfl) ?_ _
    go_wp2_with fail
    go_ret
    exact HT.out va2 vc2 w2 HO.out.1 HO.out.2
end Go.Proofs.Ytcknganggcbkjab.Deed
namespace Go.Proofs.Ytcknganggcbkjab.Deed
open Go.Deep Go.RowKit
set_option linter.unusedVariables false
set_option maxRecDepth 20000

set_option maxHeartbeats 2000000 in
theorem insert_any (n : Nd) (d : Dd) (pa : Option Addr) (pc : Nat) (w : World) (hn : NodIn w n) (h1 : NodOne n) (hp : BPlain w n.b) (hk : FPlain w n.k) (hd : DIn w d pa pc) (hkd : d.kind = 3) (i m2 : Nat) (hi : d.pos = (i : Int)) (hm2 : d.many = (m2 : Int)) (hnn : fnodes n.k ≤ 200) (h0 : d.path.any (fun p => decide (p < 0)) = false) (hl : d.path.length ≤ 60) (hs : d.lab.size ≤ 100) :
    Calls Try.prog 86 #[.pointer (some ⟨n.b, n.o, none⟩), ddV d pa pc] w (ChEnd w n d) := by
  obtain ⟨W, hW⟩ : ∃ W, W = (w.alloc (Obj.cells #[.int .i64 d.kind, .slice pa d.path.length pc, .int .i64 d.pos, .int .i64 d.many, .string d.lab] 44)).alloc (Obj.cells #[.int .i64 0, .slice none 0 0, .int .i64 0, .int .i64 0, .string ⟨#[]⟩] 44) := ⟨_, rfl⟩
  obtain ⟨sW, bW, q1, q2⟩ := boxes2 w (Obj.cells #[.int .i64 d.kind, .slice pa d.path.length pc, .int .i64 d.pos, .int .i64 d.many, .string d.lab] 44) (Obj.cells #[.int .i64 0, .slice none 0 0, .int .i64 0, .int .i64 0, .string ⟨#[]⟩] 44)
  rw [← hW] at sW bW q1 q2
  have i1 : BackIs W w.heap.size d pa pc := BackIs.of q1
  have i2 : BackIs W (w.heap.size + 1) noDd none 0 := BackIs.of (d := noDd) q2
  have hnW := hn.below bW
  have hpW := hp.below bW
  have hkW := hk.below bW
  have hnl : n.b < w.heap.size := World.block_lt_of_cell? _ _ hn.c0
  have hoff : FOff (w.heap.size + 1) n.k := hn.tin.kids.off (by omega)
  have HA := hide (atI_any w.heap.size (w.heap.size + 1) n d.path pa pc W hnW h1 (hd.path.below bW) (by omega) (nat_path h0) (fun e w1 => (nAt (nats d.path) n = none ∧ e = .returned (.int .i64 7) ∧ w1 = W) ∨ (∃ m, nAt (nats d.path) n = some m ∧ InsEnd W m (w.heap.size + 1) d i m2 e w1)) (fun m hm => by
      obtain ⟨a1, a2, _⟩ := nAt_in _ hnW h1 hm
      obtain ⟨a1', _, _⟩ := nAt_in _ hn h1 hm
      obtain ⟨b1, b2⟩ := nAt_plain _ hpW hkW hm
      have lm : m.b < w.heap.size := World.block_lt_of_cell? _ _ a1'.c0
      have hmn := nAt_nodes _ hm
      by_cases hok : i + m2 ≤ flen m.k
      · refine Calls.mono (lookI_good m w.heap.size (w.heap.size + 1) d i m2 pa pc W a1 b1 b2 i1 i2 (hd.below bW) hi hm2 (by omega) (by omega) (by omega) (one_off a1 a2) (a1'.tin.kids.off (by omega)) hl hs (by omega) hok) ?_
        intro e w1 h
        exact Or.inr ⟨m, hm, h⟩
      · refine Calls.mono (lookI_bad m w.heap.size (w.heap.size + 1) d i m2 pa pc W a1 i1 hi hm2 (by omega) hok) ?_
        intro e w1 h
        exact Or.inr ⟨m, hm, h⟩) (fun hz => Or.inl ⟨hz, rfl, rfl⟩) (fun e w' h => by
      rcases h with ⟨_, rfl, _⟩ | ⟨_, _, h⟩
      · exact ⟨_, rfl⟩
      · rcases h with ⟨_, rfl, _⟩ | ⟨_, _, rfl, _⟩
        · exact ⟨_, rfl⟩
        · exact ⟨_, rfl⟩))
  have hdone : doneP d = modP (insOp i m2 d.lab) (nats d.path) := by
    unfold doneP
    rw [if_neg (by omega), if_neg (by omega), hi, hm2]
    rfl
  have hbad : nAt (nats d.path) n = none → ChEnd w n d (.returned (.tuple #[ddV noDd none 0, .int .i64 7])) W := fun hz => by
    have hc : (doneP d n.s (strip n.k)).1 = 7 := by rw [hdone]; exact mod_none _ hz
    exact Or.inl ⟨by rw [hc]; decide, by rw [hc], bW⟩
  have hgood : ∀ m e w1, nAt (nats d.path) n = some m → InsEnd W m (w.heap.size + 1) d i m2 e w1 → (e = .returned (.int .i64 9) ∧ BackIs w1 (w.heap.size + 1) noDd none 0 ∧ ChEnd w n d (.returned (.tuple #[ddV noDd none 0, .int .i64 9])) w1) ∨ (e = .returned (.int .i64 0) ∧ ∃ va vc, BackIs w1 (w.heap.size + 1) ⟨2, d.path ++ [(i : Int)], 0, 0, ⟨#[]⟩⟩ va vc ∧ ChEnd w n d (.returned (.tuple #[ddV ⟨2, d.path ++ [(i : Int)], 0, 0, ⟨#[]⟩⟩ va vc, .int .i64 0])) w1) := fun m e w1 hm h => by
    rcases h with ⟨hbad, he, hb1⟩ | ⟨x, hok, he, ht, hx1, hx2, hx3⟩
    · have hc : (doneP d n.s (strip n.k)).1 = 9 := by
        rw [hdone, mod_code _ hm]
        unfold insOp
        rw [flen_strip, if_neg hbad]
      exact Or.inl ⟨he, i2.block (hb1.block _ (by omega)), Or.inl ⟨by rw [hc]; decide, by rw [hc], bW.trans (hb1.mono (by omega))⟩⟩
    · obtain ⟨va, vc, hb, hdi, hva⟩ := ht.back
      obtain ⟨r1, r2, r3, r4, r5⟩ := turn_root hnW h1 hpW hkW hm (by omega) hoff (by omega) ht
      have hbk : backP d n.s (strip n.k) = ⟨2, d.path ++ [(i : Int)], 0, 0, ⟨#[]⟩⟩ := by
        unfold backP
        rw [if_neg (by omega), if_neg (by omega), hi]
      refine Or.inr ⟨he, va, vc, hb, Or.inr ⟨_, va, vc, ?_, by rw [hbk], (nSet_b _ _ _).1, (nSet_b _ _ _).2, r1, r2, fun B hB hbn hf => ?_, by rw [hbk]; exact hdi, fun a ha => Nat.le_trans bW.size (hva a ha), fun q hq hf => r4 q (by omega) hf, fun q hq hb' hf => (r5 q (by omega) hb' (by omega) hf).trans (bW.block q hq), fun _ hp0 hndn => ?_⟩⟩
      · rw [hdone]
        refine mod_set _ hm ?_
        unfold insOp
        rw [flen_strip, if_pos hok, gs_strip, hx1, hx2]
      · obtain ⟨f1, f2⟩ := r3 B (by omega) hbn (by omega) hf
        exact ⟨f1, (bW.mono hB).trans f2⟩
      · rw [hp0] at hm ⊢
        have : n = m := by simpa [nats, nAt] using hm
        subst this
        exact hx3 hndn
  have HB := hide hbad
  have HG := hide hgood
  have H2 := hide i2
  clear hbad hgood hdone i1 i2 hnW hpW hkW hoff q1 q2 hn h1 hp hk hd h0 bW hkd hi hm2
  unfold ddV
  go_enter Try.func86, Try.ntmps86
  go_wp2_with fail
  rw [← hW]
  clear hW
  refine Calls.mono HA.out ?_
  rintro e w1 (⟨hz, rfl, rfl⟩ | ⟨m, hm, ht⟩)
  · have HZ := hide (HB.out hz)
    obtain ⟨x0, x1, x2, x3, x4, xf, xb⟩ := H2.out
    unfold noDd at x0 x1 x2 x3 x4
    simp only [List.length_nil] at x0 x1 x2 x3 x4
    have s0 := setCell_self xb x0
    have s1 := setCell_self xb x1
    have s2 := setCell_self xb x2
    have s3 := setCell_self xb x3
    have s4 := setCell_self xb x4
    clear xb hz HA HG HB H2
    go_wp2_with fail
    refine bodyPost_ret (v := .tuple #[.agg #[.int .i64 0, .slice none 0 0, .int .i64 0, .int .i64 0, .string ⟨#[]⟩], .int .i64 7]) (by simp [results, Try.results86, go_sem, *]) rfl ?_
    exact HZ.out
  · rcases HG.out m e w1 hm ht with ⟨rfl, hb, he⟩ | ⟨rfl, va, vc, hb, he⟩
    · have HZ := hide he
      obtain ⟨x0, x1, x2, x3, x4, xf, xb⟩ := hb
      unfold noDd at x0 x1 x2 x3 x4
      simp only [List.length_nil] at x0 x1 x2 x3 x4
      have s0 := setCell_self xb x0
      have s1 := setCell_self xb x1
      have s2 := setCell_self xb x2
      have s3 := setCell_self xb x3
      have s4 := setCell_self xb x4
      clear xb hm ht HA HG HB H2 he
      go_wp2_with fail
      refine bodyPost_ret (v := .tuple #[.agg #[.int .i64 0, .slice none 0 0, .int .i64 0, .int .i64 0, .string ⟨#[]⟩], .int .i64 9]) (by simp [results, Try.results86, go_sem, *]) rfl ?_
      exact HZ.out
    · have HZ := hide he
      obtain ⟨x0, x1, x2, x3, x4, xf, xb⟩ := hb
      simp only at x0 x1 x2 x3 x4
      have s0 := setCell_self xb x0
      have s1 := setCell_self xb x1
      have s2 := setCell_self xb x2
      have s3 := setCell_self xb x3
      have s4 := setCell_self xb x4
      obtain ⟨L, hL⟩ : ∃ L, L = (d.path ++ [(i : Int)]).length := ⟨_, rfl⟩
      rw [← hL] at x1 s1
      have HL := hide hL
      clear xb hm ht HA HG HB H2 he hL
      go_wp2_with fail
      refine bodyPost_ret (v := .tuple #[.agg #[.int .i64 2, .slice va L vc, .int .i64 0, .int .i64 0, .string ⟨#[]⟩], .int .i64 0]) (by simp [results, Try.results86, go_sem, *]) rfl ?_
      rw [HL.out]
      exact HZ.out
end Go.Proofs.Ytcknganggcbkjab.Deed
