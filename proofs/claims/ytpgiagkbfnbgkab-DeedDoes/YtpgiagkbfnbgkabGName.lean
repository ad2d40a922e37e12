/- The closure of package deed's name: the node has the label, and what undoes it is noted. Of the program's text. -/
/- name of package deed. Of the program's text. -/
import Derived.Test.YtpgiagkbfnbgkabGTurn
import Derived.Test.YtpgiagkbfnbgkabGCat
import Derived.Test.YtpgiagkbfnbgkabClone
namespace Go.Proofs.Ytpgiagkbfnbgkab.Deed
open Go.Deep Go.RowKit
set_option linter.unusedVariables false
set_option maxRecDepth 20000

set_option maxHeartbeats 2000000 in
theorem lookN_any (m : Nd) (c1 c2 : Nat) (d : Dd) (pa : Option Addr) (pc : Nat) (w : World) (hm : NodIn w m) (hp : BPlain w m.b) (hk : FPlain w m.k) (h1 : BackIs w c1 d pa pc) (h2 : BackIs w c2 noDd none 0) (hd : DIn w d pa pc) (n1 : m.b ≠ c1) (n2 : m.b ≠ c2) (n3 : c1 ≠ c2) (o1 : FOff m.b m.k) (o2 : FOff c2 m.k) (hl : d.path.length ≤ 60) (hs : d.lab.size ≤ 100) :
    Calls Try.prog 74 #[.pointer (some ⟨m.b, m.o, none⟩), .pointer (some ⟨c1, 0, none⟩), .pointer (some ⟨c2, 0, none⟩)] w fun e w' => e = .returned (.int .i64 0) ∧ Turn w w' m c2 (d.lab, m.ka, m.cap, m.k) ⟨1, d.path, 0, 0, m.s⟩ := by
  obtain ⟨k0, k1, k2, k3, k4, kf, _⟩ := h1
  have H2 := hide h2
  obtain ⟨z0, z1, z2, z3, z4, zf, _⟩ := h2
  have HM := hide hm
  obtain ⟨m0, m1, mt⟩ := hm
  unfold noDd at z0 z1 z2 z3 z4
  simp only at z0 z1 z2 z3 z4
  have lm : m.b < w.heap.size := World.block_lt_of_cell? _ _ m0
  have l1 : c1 < w.heap.size := World.block_lt_of_cell? _ _ k0
  have l2 : c2 < w.heap.size := World.block_lt_of_cell? _ _ z0
  have mf : ∀ o, w.frozen? ⟨m.b, o, none⟩ = false := fun o => by
    obtain ⟨c, e, h⟩ := hp
    simp [World.frozen?, h]
  have HJ := hide (fun W (h : Below w.heap.size w W) => joined_any pa none pc 0 d.path [] W (hd.path.below h) (Or.inl rfl) (by simp; omega))
  simp only [List.append_nil, List.length_nil] at HJ
  have HK := hide (And.intro hp (And.intro hk (And.intro mt (And.intro hd (And.intro o1 o2)))))
  clear hp hk mt hd o1 o2
  have hn2 : ¬ c2 ∈ [c1, m.b] := by simp; omega
  have HK0 := hide (show Kp [c1, m.b] w w.drew from (Kp.refl (by simp; omega)).drew)
  have HS := hide (fun (W : World) (h : Kp [c1, m.b] w W) => And.intro (h.cell (by simp) k1) (h.cell (by simp) m0))
  have HB0 := hide (show Below w.heap.size w w.drew from (Below.refl _ _).drew)
  go_enter Try.func74, Try.ntmps74
  go_wp2_with fail
  go_region_held3 (fun w' => w'.cell? ⟨c1, 1, none⟩ = some (.slice pa d.path.length pc) ∧ w'.cell? ⟨m.b, m.o, none⟩ = some (.string m.s))
    ((refine HS.out _ ?_; (repeat refine Kp.set ?_ hn2); first | exact HK1.out | exact HK0.out))
    ((go_at_call 75; refine Calls.mono (HJ.out _ HB0.out) ?_; rintro e w1 ⟨va, vc, rfl, p1, p2, p3, p4, hb1⟩
      have hbW : Below w.heap.size w w1 := HB0.out.trans hb1
      have y1 : w1.cell? ⟨c1, 1, none⟩ = some (.slice pa d.path.length pc) := by (rw [hbW.cell l1]; exact k1)
      have y4 : w1.cell? ⟨c1, 4, none⟩ = some (.string d.lab) := by (rw [hbW.cell l1]; exact k4)
      have p0 : w1.cell? ⟨m.b, m.o, none⟩ = some (.string m.s) := by (rw [hbW.cell lm]; exact m0)
      have pf : ∀ o, w1.frozen? ⟨m.b, o, none⟩ = false := fun o => by (rw [hbW.frozen lm]; exact mf o)
      have x0 : w1.cell? ⟨c2, 0, none⟩ = some (.int .i64 0) := by (rw [hbW.cell l2]; exact z0)
      have x1 : w1.cell? ⟨c2, 1, none⟩ = some (.slice none 0 0) := by (rw [hbW.cell l2]; exact z1)
      have x2 : w1.cell? ⟨c2, 2, none⟩ = some (.int .i64 0) := by (rw [hbW.cell l2]; exact z2)
      have x3 : w1.cell? ⟨c2, 3, none⟩ = some (.int .i64 0) := by (rw [hbW.cell l2]; exact z3)
      have x4 : w1.cell? ⟨c2, 4, none⟩ = some (.string ⟨#[]⟩) := by (rw [hbW.cell l2]; exact z4)
      have xf : ∀ o, w1.frozen? ⟨c2, o, none⟩ = false := fun o => by (rw [hbW.frozen l2]; exact zf o)
      have HK1 := hide (show Kp [c1, m.b] w w1 from HK0.out.below hb1)
      have HP := hide (And.intro p1 (And.intro p2 (And.intro p3 (And.intro p4 hbW))))
      have HX := hide (H2.out.block (w' := w1) (hbW.block c2 l2))
      clear p1 p2 p3 p4 hb1 hbW))
  go_wp2_with fail
  have hbk := set3 (set5 HX.out noDd none 0) 1 d.path m.s va vc
  have hof := (((((((Off.refl c2 w1).set (o := 0) (v := .int .i64 0)).set (o := 1) (v := .slice none 0 0)).set (o := 2) (v := .int .i64 0)).set (o := 3) (v := .int .i64 0)).set (o := 4) (v := .string ⟨#[]⟩)).set (o := 0) (v := .int .i64 1)).set (o := 1) (v := .slice va d.path.length vc) |>.set (o := 4) (v := .string m.s)
  have hbl : ∀ B, B ≤ c2 → B ≤ w1.heap.size → Below B w1 ((((((((w1.setCell ⟨c2, 0, none⟩ (.int .i64 0)).setCell ⟨c2, 1, none⟩ (.slice none 0 0)).setCell ⟨c2, 2, none⟩ (.int .i64 0)).setCell ⟨c2, 3, none⟩ (.int .i64 0)).setCell ⟨c2, 4, none⟩ (.string ⟨#[]⟩)).setCell ⟨c2, 0, none⟩ (.int .i64 1)).setCell ⟨c2, 1, none⟩ (.slice va d.path.length vc)).setCell ⟨c2, 4, none⟩ (.string m.s)) := fun B h1 _ => (((((((Below.refl B w1).setCell h1 _).setCell h1 _).setCell h1 _).setCell h1 _).setCell h1 _).setCell h1 _).setCell h1 _ |>.setCell h1 _
  unfold noDd at hbk
  simp only [List.length_nil] at hbk
  obtain ⟨w8, hw8⟩ : ∃ w8, w8 = (((((((w1.setCell ⟨c2, 0, none⟩ (.int .i64 0)).setCell ⟨c2, 1, none⟩ (.slice none 0 0)).setCell ⟨c2, 2, none⟩ (.int .i64 0)).setCell ⟨c2, 3, none⟩ (.int .i64 0)).setCell ⟨c2, 4, none⟩ (.string ⟨#[]⟩)).setCell ⟨c2, 0, none⟩ (.int .i64 1)).setCell ⟨c2, 1, none⟩ (.slice va d.path.length vc)).setCell ⟨c2, 4, none⟩ (.string m.s) := ⟨_, rfl⟩
  rw [← hw8] at hbk hof hbl ⊢
  clear hw8
  refine (clone_any d.lab _ (by omega)).mono ?_
  rintro e w2 ⟨rfl, hb2⟩
  have e8 : w8.heap[m.b]? = w.heap[m.b]? := by rw [hof.same m.b (Nat.lt_of_lt_of_le lm HP.out.2.2.2.2.size) n2, HP.out.2.2.2.2.block m.b lm]
  have l8 : w.heap.size ≤ w8.heap.size := Nat.le_trans HP.out.2.2.2.2.size hof.size
  have e2 : w2.heap[m.b]? = w.heap[m.b]? := by rw [hb2.block m.b (by omega), e8]
  have r0 : w2.cell? ⟨m.b, m.o, none⟩ = some (.string m.s) := cellN e2 m0
  have r1 : w2.cell? ⟨m.b, m.o + 1, none⟩ = some (.slice m.ka (flen m.k) m.cap) := cellN e2 m1
  have rf : ∀ o, w2.frozen? ⟨m.b, o, none⟩ = false := fun o => by rw [World.frozen?_of_block (w := w) (a := ⟨m.b, o, none⟩) e2]; exact mf o
  have HB := hide (And.intro hbk (And.intro hof (And.intro hbl hb2)))
  have HE := hide e2
  have HR := hide (And.intro r0 r1)
  clear hbk hof hbl hb2 e8 e2 r1 k0 k1 k2 k3 k4 kf z0 z1 z2 z3 z4 zf m0 m1 mf y1 y4 p0 pf x0 x1 x2 x3 x4 xf
  go_wp2_with fail
  go_ret
  refine ⟨rfl, ?_⟩
  obtain ⟨hp, hk, mt, hd, o1, o2⟩ := HK.out
  obtain ⟨hbk, hof, hbl, hb2⟩ := HB.out
  obtain ⟨q1, q2, q3, q4, q5⟩ := HP.out
  have hof3 : Off m.b w8 (w2.setCell ⟨m.b, m.o, none⟩ (.string d.lab)) := ((Off.refl m.b w8).below hb2).set
  obtain ⟨t1, t2⟩ := kids_two mt.kids hk o1 o2 q5 hof hof3
  refine turn_of HM.out hp hk l2 n2 o1 o2 q5 hof hbl hbk q1 q4 q2 q3 mt.size hof3 (fun B h1 h2 => (hb2.mono h2).setCell h1 _) (fun o h1 h2 => ?_) (fun h => plain_set1 (h.below hb2)) ⟨cset_same HR.out.1, ?_, ⟨hd.lab, mt.len, mt.cap, t1⟩⟩ (fun B _ h => h) t2 (fun c _ h => h)
  · rw [cset_other (by omega)]
    exact hb2.cell (p := ⟨m.b, o, none⟩) (show m.b < w8.heap.size by have := hof.size; have := q5.size; omega)
  · show (w2.setCell ⟨m.b, m.o, none⟩ (.string d.lab)).cell? ⟨m.b, m.o + 1, none⟩ = _
    rw [cset_other (by omega)]
    exact HR.out.2
end Go.Proofs.Ytpgiagkbfnbgkab.Deed
namespace Go.Proofs.Ytpgiagkbfnbgkab.Deed
open Go.Deep Go.RowKit
set_option linter.unusedVariables false
set_option maxRecDepth 20000

set_option maxHeartbeats 2000000 in
theorem name_any (n : Nd) (d : Dd) (pa : Option Addr) (pc : Nat) (w : World) (hn : NodIn w n) (h1 : NodOne n) (hp : BPlain w n.b) (hk : FPlain w n.k) (hd : DIn w d pa pc) (hkd : d.kind = 1) (h0 : d.path.any (fun p => decide (p < 0)) = false) (hl : d.path.length ≤ 60) (hs : d.lab.size ≤ 100) :
    Calls Try.prog 63 #[.pointer (some ⟨n.b, n.o, none⟩), ddV d pa pc] w (ChEnd w n d) := by
  obtain ⟨W, hW⟩ : ∃ W, W = (w.alloc (Obj.cells #[.int .i64 d.kind, .slice pa d.path.length pc, .int .i64 d.pos, .int .i64 d.many, .string d.lab] 44)).alloc (Obj.cells #[.int .i64 0, .slice none 0 0, .int .i64 0, .int .i64 0, .string ⟨#[]⟩] 44) := ⟨_, rfl⟩
  obtain ⟨sW, bW, q1, q2⟩ := boxes2 w (Obj.cells #[.int .i64 d.kind, .slice pa d.path.length pc, .int .i64 d.pos, .int .i64 d.many, .string d.lab] 44) (Obj.cells #[.int .i64 0, .slice none 0 0, .int .i64 0, .int .i64 0, .string ⟨#[]⟩] 44)
  rw [← hW] at sW bW q1 q2
  have i1 : BackIs W w.heap.size d pa pc := BackIs.of q1
  have i2 : BackIs W (w.heap.size + 1) noDd none 0 := BackIs.of (d := noDd) q2
  have hnW := hn.below bW
  have hpW := hp.below bW
  have hkW := hk.below bW
  have hnl : n.b < w.heap.size := World.block_lt_of_cell? _ _ hn.c0
  have hoff : FOff (w.heap.size + 1) n.k := hn.tin.kids.off (by omega)
  have HA := hide (atN_any w.heap.size (w.heap.size + 1) n d.path pa pc W hnW h1 (hd.path.below bW) (by omega) (nat_path h0) (fun e w1 => (nAt (nats d.path) n = none ∧ e = .returned (.int .i64 7) ∧ w1 = W) ∨ (∃ m, nAt (nats d.path) n = some m ∧ e = .returned (.int .i64 0) ∧ Turn W w1 m (w.heap.size + 1) (d.lab, m.ka, m.cap, m.k) ⟨1, d.path, 0, 0, m.s⟩)) (fun m hm => by
      obtain ⟨a1, a2, _⟩ := nAt_in _ hnW h1 hm
      obtain ⟨a1', _, _⟩ := nAt_in _ hn h1 hm
      obtain ⟨b1, b2⟩ := nAt_plain _ hpW hkW hm
      have lm : m.b < w.heap.size := World.block_lt_of_cell? _ _ a1'.c0
      refine Calls.mono (lookN_any m w.heap.size (w.heap.size + 1) d pa pc W a1 b1 b2 i1 i2 (hd.below bW) (by omega) (by omega) (by omega) (one_off a1 a2) (a1'.tin.kids.off (by omega)) hl hs) ?_
      rintro e w1 ⟨rfl, ht⟩
      exact Or.inr ⟨m, hm, rfl, ht⟩) (fun hz => Or.inl ⟨hz, rfl, rfl⟩) (fun e w' h => by
      rcases h with ⟨_, rfl, _⟩ | ⟨_, _, rfl, _⟩
      · exact ⟨_, rfl⟩
      · exact ⟨_, rfl⟩))
  have hdone : doneP d = modP (namOp d.lab) (nats d.path) := by unfold doneP; rw [if_pos hkd]
  have hbad : nAt (nats d.path) n = none → ChEnd w n d (.returned (.tuple #[ddV noDd none 0, .int .i64 7])) W := fun hz => by
    have hc : (doneP d n.s (strip n.k)).1 = 7 := by rw [hdone]; exact mod_none _ hz
    exact Or.inl ⟨by rw [hc]; decide, by rw [hc], bW⟩
  have hgood : ∀ m w1, nAt (nats d.path) n = some m → Turn W w1 m (w.heap.size + 1) (d.lab, m.ka, m.cap, m.k) ⟨1, d.path, 0, 0, m.s⟩ → ∃ va vc, BackIs w1 (w.heap.size + 1) ⟨1, d.path, 0, 0, m.s⟩ va vc ∧ ChEnd w n d (.returned (.tuple #[ddV ⟨1, d.path, 0, 0, m.s⟩ va vc, .int .i64 0])) w1 := fun m w1 hm ht => by
    obtain ⟨va, vc, hb, hdi, hva⟩ := ht.back
    obtain ⟨r1, r2, r3, r4, r5⟩ := turn_root hnW h1 hpW hkW hm (by omega) hoff (by omega) ht
    have hbk : backP d n.s (strip n.k) = ⟨1, d.path, 0, 0, m.s⟩ := by
      unfold backP
      rw [if_pos hkd, at_nAt _ hm]
      rfl
    refine ⟨va, vc, hb, Or.inr ⟨_, va, vc, ?_, by rw [hbk], (nSet_b _ _ _).1, (nSet_b _ _ _).2, r1, r2, fun B hB hbn hf => ?_, by rw [hbk]; exact hdi, fun a ha => Nat.le_trans bW.size (hva a ha), fun q hq hf => r4 q (by omega) hf, fun q hq hb' hf => (r5 q (by omega) hb' (by omega) hf).trans (bW.block q hq), fun h3 => absurd h3 (by omega)⟩⟩
    · rw [hdone]
      exact mod_set _ hm (by simp [namOp, strip_strip])
    · obtain ⟨f1, f2⟩ := r3 B (by omega) hbn (by omega) hf
      exact ⟨f1, (bW.mono hB).trans f2⟩
  have HB := hide hbad
  have HG := hide hgood
  have H2 := hide i2
  clear hbad hgood hdone i1 i2 hnW hpW hkW hoff q1 q2 hn h1 hp hk hd h0 bW hkd
  unfold ddV
  go_enter Try.func63, Try.ntmps63
  go_wp2_with fail
  rw [← hW]
  clear hW
  refine Calls.mono HA.out ?_
  rintro e w1 (⟨hz, rfl, rfl⟩ | ⟨m, hm, rfl, ht⟩)
  · have HZ := hide (HB.out hz)
    obtain ⟨x0, x1, x2, x3, x4, xf, xb⟩ := H2.out
    unfold noDd at x0 x1 x2 x3 x4
    simp only [List.length_nil] at x0 x1 x2 x3 x4
    have s0 := setCell_self xb x0
    have s1 := setCell_self xb x1
    have s2 := setCell_self xb x2
    have s3 := setCell_self xb x3
    have s4 := setCell_self xb x4
    clear xb hz HA HG HB H2
    go_wp2_with fail
    refine bodyPost_ret (v := .tuple #[.agg #[.int .i64 0, .slice none 0 0, .int .i64 0, .int .i64 0, .string ⟨#[]⟩], .int .i64 7]) (by simp [results, Try.results63, go_sem, *]) rfl ?_
    exact HZ.out
  · obtain ⟨va, vc, hb, he⟩ := HG.out m w1 hm ht
    have HZ := hide he
    obtain ⟨x0, x1, x2, x3, x4, xf, xb⟩ := hb
    simp only at x0 x1 x2 x3 x4
    have s0 := setCell_self xb x0
    have s1 := setCell_self xb x1
    have s2 := setCell_self xb x2
    have s3 := setCell_self xb x3
    have s4 := setCell_self xb x4
    clear xb hm ht HA HG HB H2 he
    go_wp2_with fail
    refine bodyPost_ret (v := .tuple #[.agg #[.int .i64 1, .slice va d.path.length vc, .int .i64 0, .int .i64 0, .string m.s], .int .i64 0]) (by simp [results, Try.results63, go_sem, *]) rfl ?_
    exact HZ.out
end Go.Proofs.Ytpgiagkbfnbgkab.Deed
