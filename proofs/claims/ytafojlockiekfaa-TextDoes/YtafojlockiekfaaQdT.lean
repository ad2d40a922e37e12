/- The reading of package pleachingref: a tree. Of the program's text. -/
import Derived.Test.YtafojlockiekfaaProg
import Derived.Test.YtafojlockiekfaaQd
import Derived.Test.YtafojlockiekfaaRdT
namespace Go.Proofs.Ytafojlockiekfaa
open Go.Deep Go.RowKit
set_option linter.unusedVariables false
set_option maxRecDepth 20000

/-- What a tree's reading comes to. -/
def QTreeEnd (b : Nat) (s : ByteArray) (N a p : Nat) (w : World) (e : Ending) (w' : World) : Prop :=
  (∃ c q p' x0 a0 c0 k0, rdT N a (rst s p) = .bad c (rst s q) ∧ 0 < c ∧ q ≤ s.size ∧ e = .returned (.agg #[.string x0, .slice a0 (flen k0) c0]) ∧ QAt b s p' c q w') ∨
  (∃ x k ka cap k' q, rdT N a (rst s p) = .ok (x, k) (rst s q) ∧ x.size ≤ s.size ∧ p < q ∧ q ≤ s.size ∧ e = .returned (.agg #[.string x, .slice ka (flen k') cap]) ∧ strip k' = k ∧ TIn w' x ka cap k' ∧ FFrom w.heap.size k' ∧ FPlain w' k' ∧ QAt b s q 0 0 w')

def QReadsAt (N : Nat) : Prop := ∀ (b : Nat) (s : ByteArray) (a p : Nat) (w : World), QAt b s p 0 0 w → p ≤ s.size → s.size ≤ 4000 → a ≤ 100 → 2 * (s.size - p) + 1 ≤ N →
    Calls Try.prog 53 #[.pointer (some ⟨b, 0, none⟩), .int .i64 a] w fun e w' => QTreeEnd b s N a p w e w' ∧ Keeps [b] w w'

/-- The two blocks of a tree that is being read. -/
def treeW (w : World) : World := (w.alloc (Obj.cells #[Value.string ⟨#[]⟩, Value.slice none 0 0] 24)).alloc (Obj.cells #[Value.string ⟨#[]⟩, Value.slice none 0 0] 24)
theorem treeW_below (w : World) : Below w.heap.size w (treeW w) := ((Below.refl _ _).alloc (Nat.le_refl _) _).alloc (by simp) _
theorem treeW_size (w : World) : (treeW w).heap.size = w.heap.size + 2 := by simp [treeW]
theorem treeW_heap (w : World) : (treeW w).heap[w.heap.size]? = some (Obj.cells #[Value.string ⟨#[]⟩, Value.slice none 0 0] 24) ∧ (treeW w).heap[w.heap.size + 1]? = some (Obj.cells #[Value.string ⟨#[]⟩, Value.slice none 0 0] 24) := by
  unfold treeW
  refine ⟨?_, ?_⟩
  · rw [Below.heap_alloc _ _ _ (by simp)]; exact heap_alloc_new _ _
  · have := heap_alloc_new (w.alloc (Obj.cells #[Value.string ⟨#[]⟩, Value.slice none 0 0] 24)) (Obj.cells #[Value.string ⟨#[]⟩, Value.slice none 0 0] 24)
    simpa using this

/-- What is kept of them. -/
structure TT (w : World) (tb : Nat) (x : ByteArray) (v : Value) (wr : World) : Prop where
  t : wr.heap[tb]? = some (Obj.cells #[Value.string x, v] 24)
  r : wr.heap[w.heap.size]? = some (Obj.cells #[Value.string ⟨#[]⟩, Value.slice none 0 0] 24)
theorem TT.keeps {b tb : Nat} {w wr w' : World} {x : ByteArray} {v : Value} (h : TT w tb x v wr) (hk : Keeps [b] wr w') (h1 : tb ≠ b) (h2 : w.heap.size ≠ b) : TT w tb x v w' :=
  ⟨(hk.block tb (lt_of_heap h.t) (by simpa using h1)).trans h.t, (hk.block w.heap.size (lt_of_heap h.r) (by simpa using h2)).trans h.r⟩
section
variable {b tb : Nat} {w wr w' : World} {x : ByteArray} {v : Value}
theorem TT.t0 (h : TT w tb x v wr) : wr.cell? ⟨tb, 0, none⟩ = some (.string x) := by rw [cell_of_row _ _ 0 _ _ _ h.t]; rfl
theorem TT.t1 (h : TT w tb x v wr) : wr.cell? ⟨tb, 1, none⟩ = some v := by rw [cell_of_row _ _ 1 _ _ _ h.t]; rfl
theorem TT.r0 (h : TT w tb x v wr) : wr.cell? ⟨w.heap.size, 0, none⟩ = some (.string ⟨#[]⟩) := by rw [cell_of_row _ _ 0 _ _ _ h.r]; rfl
theorem TT.r1 (h : TT w tb x v wr) : wr.cell? ⟨w.heap.size, 1, none⟩ = some (.slice none 0 0) := by rw [cell_of_row _ _ 1 _ _ _ h.r]; rfl
theorem TT.fr (h : TT w tb x v wr) (o : Nat) : wr.frozen? ⟨w.heap.size, o, none⟩ = false := by simp [World.frozen?, h.r]
theorem TT.ft (h : TT w tb x v wr) (o : Nat) : wr.frozen? ⟨tb, o, none⟩ = false := by simp [World.frozen?, h.t]
end

/-- A fault is told. -/
theorem qbad_told {b : Nat} {s : ByteArray} {N a p p' c q : Nat} {w wr : World} {x0 : ByteArray} {a0 : Option Addr} {c0 : Nat} {k0 : Fo} (hbl : b < w.heap.size) (hq : q ≤ s.size) (hc : 0 < c) (hr : QAt b s p' c q wr) (hk : Keeps [b] w wr) (hR : rdT N a (rst s p) = .bad c (rst s q)) :
    QTreeEnd b s N a p w (.returned (.agg #[.string x0, .slice a0 (flen k0) c0])) ((wr.setCell ⟨w.heap.size, 0, none⟩ (.string x0)).setCell ⟨w.heap.size, 1, none⟩ (.slice a0 (flen k0) c0)) ∧ Keeps [b] w ((wr.setCell ⟨w.heap.size, 0, none⟩ (.string x0)).setCell ⟨w.heap.size, 1, none⟩ (.slice a0 (flen k0) c0)) :=
  ⟨Or.inl ⟨c, q, p', x0, a0, c0, k0, hR, hc, hq, rfl, hr.but (by omega) (set2_but _ w.heap.size 0 1 _ _)⟩, hk.below (((Below.refl _ _).setCell (p := ⟨w.heap.size, 0, none⟩) (by simp) _).setCell (p := ⟨w.heap.size, 1, none⟩) (by simp) _)⟩

/-- The tree is told. -/
theorem qtree_told {b : Nat} {s : ByteArray} {N a p q B : Nat} {w wr : World} {x : ByteArray} {v : Value} {L : List It} {k : Fo} (hB : w.heap.size < B) (hbl : b < w.heap.size) (hs : s.size ≤ 4000) (hx : x.size ≤ s.size) (hpq : p < q) (hq : q ≤ s.size)
    (hK : KInv 24 B wr v L) (hr : QAt b s q 0 0 wr) (hk : Keeps [b] w wr) (hR : rdT N a (rst s p) = .ok (x, k) (rst s q)) (hj : strip (joinF L .nil) = k) :
    ∃ ka cap k', v = .slice ka (flen k') cap ∧ QTreeEnd b s N a p w (.returned (.agg #[.string x, .slice ka (flen k') cap])) ((wr.setCell ⟨w.heap.size, 0, none⟩ (.string x)).setCell ⟨w.heap.size, 1, none⟩ v) ∧ Keeps [b] w ((wr.setCell ⟨w.heap.size, 0, none⟩ (.string x)).setCell ⟨w.heap.size, 1, none⟩ v) := by
  obtain ⟨ka, cap, k', hv, h1, h2, h3, h4, h5, h6⟩ := hK.done
  refine ⟨ka, cap, k', hv, Or.inr ⟨x, k, ka, cap, k', q, hR, hx, hpq, hq, rfl, h1.trans hj, ?_, h5.mono (by omega), ?_, ?_⟩, ?_⟩
  · exact TIn.but (g := w.heap.size) (set2_but _ _ _ _ _ _) (h5.off hB) ⟨by unfold maxLen; omega, h2, h3, h4⟩
  · exact FPlain.but (g := w.heap.size) (set2_but _ _ _ _ _ _) (h5.off hB) h6
  · exact hr.but (by omega) (set2_but _ w.heap.size 0 1 _ _)
  · exact hk.below (((Below.refl _ _).setCell (p := ⟨w.heap.size, 0, none⟩) (by simp) _).setCell (p := ⟨w.heap.size, 1, none⟩) (by simp) _)

theorem qreads_bad {N : Nat} (h : QReadsAt N) {b : Nat} {s : ByteArray} {a p c : Nat} {r : List UInt8} {w : World} (hr : QAt b s p 0 0 w) (hp : p ≤ s.size) (hs : s.size ≤ 4000) (ha : a ≤ 100) (hN : 2 * (s.size - p) + 1 ≤ N) (hT : rdT N a (rst s p) = .bad c r) :
    Calls Try.prog 53 #[.pointer (some ⟨b, 0, none⟩), .int .i64 a] w fun e w' => ∃ q p' x0 a0 c0 k0, r = rst s q ∧ 0 < c ∧ q ≤ s.size ∧ e = .returned (.agg #[.string x0, .slice a0 (flen k0) c0]) ∧ QAt b s p' c q w' ∧ Keeps [b] w w' := by
  refine (h b s a p w hr hp hs ha hN).mono ?_
  rintro e w' ⟨he, hk⟩
  rcases he with ⟨c', q, p', x0, a0, c0, k0, h1, h2, h3, h4, h5⟩ | ⟨x, k, ka, cap, k', q, h1, _⟩
  · rw [hT] at h1
    cases h1
    exact ⟨q, p', x0, a0, c0, k0, rfl, h2, h3, h4, h5, hk⟩
  · rw [hT] at h1
    cases h1
theorem qreads_ok {N : Nat} (h : QReadsAt N) {b : Nat} {s : ByteArray} {a p : Nat} {x : ByteArray} {k : Fo} {r : List UInt8} {w : World} (hr : QAt b s p 0 0 w) (hp : p ≤ s.size) (hs : s.size ≤ 4000) (ha : a ≤ 100) (hN : 2 * (s.size - p) + 1 ≤ N) (hT : rdT N a (rst s p) = .ok (x, k) r) :
    Calls Try.prog 53 #[.pointer (some ⟨b, 0, none⟩), .int .i64 a] w fun e w' => ∃ ka cap k' q, r = rst s q ∧ p < q ∧ q ≤ s.size ∧ e = .returned (.agg #[.string x, .slice ka (flen k') cap]) ∧ strip k' = k ∧ TIn w' x ka cap k' ∧ FFrom w.heap.size k' ∧ FPlain w' k' ∧ QAt b s q 0 0 w' ∧ Keeps [b] w w' := by
  refine (h b s a p w hr hp hs ha hN).mono ?_
  rintro e w' ⟨he, hk⟩
  rcases he with ⟨c', q, p', x0, a0, c0, k0, h1, _⟩ | ⟨x', k2, ka, cap, k', q, h1, h2, h3, h4, h5, h6, h7, h8, h9, h10⟩
  · rw [hT] at h1
    cases h1
  · rw [hT] at h1
    cases h1
    exact ⟨ka, cap, k', q, rfl, h3, h4, h5, h6, h7, h8, h9, h10, hk⟩

/-- Whatever is put behind the list: the variable that holds it. -/
theorem kids_junk {T b tb : Nat} {w w3 w4 : World} {x : ByteArray} {v : Value} {xs : List Value} {n g n' cap2 : Nat} {ob : Obj} {OB OR : Obj}
    (hrt : w.heap.size < tb) (hbr : b < w.heap.size) (hrow : w3.ownsRow (tb + 1) T 2 v n xs)
    (hT : w3.heap[tb]? = some (.cells #[.string x, v] T)) (hR : w3.heap[w.heap.size]? = some OR) (hO : w3.heap[b]? = some OB) (hk : Keeps [b] w w3) (hgrow : (w3.alloc ob).grownBy w4 v.ownBlock) :
    w4.cell? ⟨tb, 1, none⟩ = some v ∧ w4.frozen? ⟨tb, 1, none⟩ = false ∧
    (w4.setCell ⟨tb, 1, none⟩ (.slice (some ⟨g, 0, none⟩) n' cap2)).heap[tb]? = some (.cells #[.string x, .slice (some ⟨g, 0, none⟩) n' cap2] T) ∧
    (w4.setCell ⟨tb, 1, none⟩ (.slice (some ⟨g, 0, none⟩) n' cap2)).heap[w.heap.size]? = some OR ∧
    (w4.setCell ⟨tb, 1, none⟩ (.slice (some ⟨g, 0, none⟩) n' cap2)).heap[b]? = some OB ∧
    Keeps [b] w (w4.setCell ⟨tb, 1, none⟩ (.slice (some ⟨g, 0, none⟩) n' cap2)) := by
  have row : ∀ i, i < tb + 1 → some i ≠ v.ownBlock := fun i hi e => by
    have := (ownBlock_lt hrow e.symm).1
    omega
  have same : ∀ i, i < w3.heap.size → i < tb + 1 → w4.heap[i]? = w3.heap[i]? := fun i hlt hi => by
    rw [hgrow.block i (by simp; omega) (row i hi), Below.heap_alloc _ _ _ hlt]
  have hT4 : w4.heap[tb]? = some (.cells #[.string x, v] T) := (same tb (lt_of_heap hT) (by omega)).trans hT
  have oth : ∀ i, i ≠ tb → (w4.setCell ⟨tb, 1, none⟩ (.slice (some ⟨g, 0, none⟩) n' cap2)).heap[i]? = w4.heap[i]? := fun i hi => Below.heap_setCell _ _ _ _ hi
  refine ⟨by rw [cell_of_row _ _ 1 _ _ _ hT4]; rfl, by simp [World.frozen?, hT4], ?_, ?_, ?_, ?_⟩
  · simp [World.setCell, Array.getElem?_modify, hT4]
  · rw [oth _ (by omega), same _ (lt_of_heap hR) (by omega)]; exact hR
  · rw [oth b (by omega), same b (lt_of_heap hO) (by omega)]; exact hO
  · have hz := hgrow.size
    simp at hz
    have hz3 := hk.size
    refine ⟨hgrow.os.trans hk.os, hgrow.tape.trans hk.tape, hgrow.output.trans hk.output, by simp [World.setCell]; omega, fun i hi hn => ?_⟩
    rw [oth i (by omega), same i (by omega) (by omega)]
    exact hk.block i hi hn

theorem letter_step {b tb j : Nat} {s x y : ByteArray} {v : Value} {w w3 : World} (hr : QAt b s j 0 0 w3) (hT : TT w tb x v w3) (hK : Keeps [b] w w3) (hn : tb ≠ b) (ht : w.heap.size < tb) :
    QAt b s (j + 1) 0 0 ((w3.setCell ⟨tb, 0, none⟩ (.string y)).setCell ⟨b, 1, none⟩ (.int .i64 ((j : Int) + 1))).drew ∧ TT w tb y v ((w3.setCell ⟨tb, 0, none⟩ (.string y)).setCell ⟨b, 1, none⟩ (.int .i64 ((j : Int) + 1))).drew ∧ Keeps [b] w ((w3.setCell ⟨tb, 0, none⟩ (.string y)).setCell ⟨b, 1, none⟩ (.int .i64 ((j : Int) + 1))).drew := by
  have h1 : ∀ i, i ≠ tb → (w3.setCell ⟨tb, 0, none⟩ (.string y)).heap[i]? = w3.heap[i]? := fun i hi => Below.heap_setCell _ _ _ _ hi
  have h2 : ∀ i, i ≠ b → ((w3.setCell ⟨tb, 0, none⟩ (.string y)).setCell ⟨b, 1, none⟩ (.int .i64 ((j : Int) + 1))).heap[i]? = (w3.setCell ⟨tb, 0, none⟩ (.string y)).heap[i]? := fun i hi => Below.heap_setCell _ _ _ _ hi
  refine ⟨?_, ⟨?_, ?_⟩, ?_⟩
  · have hq : QAt b s j 0 0 (w3.setCell ⟨tb, 0, none⟩ (.string y)) := hr.but (g := tb) (fun e => hn e.symm) (fun i _ hi => h1 i hi)
    exact hq.inc 0
  · show ((w3.setCell ⟨tb, 0, none⟩ (.string y)).setCell ⟨b, 1, none⟩ (.int .i64 ((j : Int) + 1))).heap[tb]? = _
    rw [h2 tb hn]
    have := hT.t
    simp [World.setCell, Array.getElem?_modify, this]
  · show ((w3.setCell ⟨tb, 0, none⟩ (.string y)).setCell ⟨b, 1, none⟩ (.int .i64 ((j : Int) + 1))).heap[w.heap.size]? = _
    rw [h2 _ (by have := hr.lt; have := hK.size; intro e; have h3 := hT.r; have h4 : w3.heap[b]? = _ := hr; rw [e, h4] at h3; cases h3), h1 _ (by omega)]
    exact hT.r
  · refine (hK.below (((Below.refl _ _).setCell (p := ⟨tb, 0, none⟩) (by simp only; omega) _))).trans ((keeps_set _ _ _).below (Below.refl _ _).drew)

theorem extract_more (s : ByteArray) (q j : Nat) (hq : q ≤ j) (hj : j < s.size) : s.extract q j ++ s.extract j (j + 1) = s.extract q (j + 1) := by
  rw [ByteArray.extract_append_extract]
  congr 1 <;> omega

set_option maxHeartbeats 8000000 in
set_option maxRecDepth 100000 in
theorem qreads_upto : ∀ N n : Nat, n < N → QReadsAt n := by
  intro N
  induction N with
  | zero => intro n hn; omega
  | succ N ih =>
    intro n hn b s a p w hr hp hs ha hN
    have HI := hide ih; clear ih
    have hlb := hr.lt
    obtain ⟨m, rfl⟩ : ∃ m, n = m + 1 := ⟨n - 1, by omega⟩
    obtain ⟨g0, g1⟩ := treeW_heap w
    have hz := treeW_size w
    have hB := treeW_below w
    have hr0 := hr.below hB
    have hT0 : TT w (w.heap.size + 1) ⟨#[]⟩ (.slice none 0 0) (treeW w) := ⟨g1, g0⟩
    have n1 : w.heap.size + 1 ≠ b := by omega
    have n0 : w.heap.size ≠ b := by omega
    have hK0 : Keeps [b] w (treeW w) := Keeps.of_below hB
    clear g0 g1 hr hB
    by_cases h10 : 10 < a
    · have hd : (10 : Int) < (a : Int) := by omega
      go_enter Try.func53, Try.ntmps53
      go_wp2_with fail
      refine (qwrong_new b s p 0 (3 : Nat) (treeW w) hr0).mono ?_
      rintro e w1 ⟨rfl, hr1, hk1⟩
      have hT1 := hT0.keeps hk1 n1 n0
      have hK1 := hK0.trans hk1
      go_wp2_with fail
      refine (qblanks_idle b s p 3 p w1 (by omega) hr1).mono ?_
      rintro e w2 ⟨rfl, hr2, hk2⟩
      have hT2 := hT1.keeps hk2 n1 n0
      have hK2 := hK1.trans hk2
      clear hk1 hk2 hr1 hr0 hT0 hT1 hK0 hK1
      go_wp2_with fail
      go_loopg [] 1 (fun gk wr => wr = w2)
      case atStart => rfl
      case round =>
        subst hrel
        have e3 : (((3 : Nat) : Int) == 0) = false := by decide
        have e3 : (((3 : Nat) : Int) == 0) = false := by decide
        have e3 : (((3 : Nat) : Int) == 0) = false := by decide
        have e3 : (((3 : Nat) : Int) == 0) = false := by decide
        have e3 : (((3 : Nat) : Int) == 0) = false := by decide
        have e3 : (((3 : Nat) : Int) == 0) = false := by decide
        have e3 : (((3 : Nat) : Int) == 0) = false := by decide
        have c0 := hr2.c0
        have c1 := hr2.c1
        have c2 := hr2.c2
        have t0 := hT2.t0
        go_wp2_with fail
        go_quiet (fail)
        go_wp2_with fail
        clear c0 c1 c2 t0
        have hr3 := hr2.below (below_drewN (Below.refl _ _) nq)
        have hT3 := hT2.keeps (Keeps.of_below (C := [b]) (below_drewN (Below.refl _ _) nq)) n1 n0
        have hK3 := hK2.drawn nq
        generalize wr.drewN nq = w3 at hr3 hT3 hK3 ⊢
        clear hr2 hT2 hK2
        have c0 := hr3.c0
        have c1 := hr3.c1
        have c2 := hr3.c2
        have t0 := hT3.t0
        by_cases hps : p = s.size
        · have hpb : ((p : Int) == (s.size : Int)) = true := beq_iff_eq.2 (by omega)
          go_quiet (fail)
          go_wp2_with fail
          clear c0 c1 c2 t0
          have hr4 := hr3.below (below_drewN (Below.refl _ _) nq)
          have hT4 := hT3.keeps (Keeps.of_below (C := [b]) (below_drewN (Below.refl _ _) nq)) n1 n0
          have hK4 := hK3.drawn nq
          generalize w3.drewN nq = w4 at hr4 hT4 hK4 ⊢
          clear hr3 hT3 hK3
          refine (qwrong_idle b s p 3 p (5 : Nat) _ (by omega) hr4).mono ?_
          rintro e w5 ⟨rfl, hr5, hk5⟩
          have hT5 := hT4.keeps hk5 n1 n0
          have hK5 := hK4.trans hk5
          clear hr4 hT4 hK4 hk5
          go_wp2_with fail
          refine (qwrong_idle b s p 3 p (4 : Nat) _ (by omega) hr5).mono ?_
          rintro e w6 ⟨rfl, hr6, hk6⟩
          have hT6 := hT5.keeps hk6 n1 n0
          have hK6 := hK5.trans hk6
          clear hr5 hT5 hK5 hk6
          go_wp2_with fail
          refine (qis_idle b s p 3 p 40 _ (by omega) hr6).mono ?_
          rintro e w7 ⟨rfl, hr7, hk7⟩
          have hT7 := hT6.keeps hk7 n1 n0
          have hK7 := hK6.trans hk7
          clear hr6 hT6 hK6 hk7
          have t0 := hT7.t0
          have t1 := hT7.t1
          have r0 := hT7.r0
          have r1 := hT7.r1
          have fr := hT7.fr
          have HEND := hide (qbad_told (x0 := ⟨#[]⟩) (a0 := none) (k0 := .nil) (c0 := 0) hlb hp (by omega) hr7 hK7 (rdT_deep (N := m) h10))
          clear hr7 hT7 hK7
          go_wp2_with fail
          refine bodyPost_ret (v := .agg #[.string ⟨#[]⟩, .slice none 0 0]) (by simp [results, Try.results53, go_sem, *]) rfl HEND.out
        · have hpb : ((p : Int) == (s.size : Int)) = false := beq_eq_false_iff_ne.2 (by omega)
          go_quiet (fail)
          go_wp2_with fail
          clear c0 c1 c2 t0
          have hr4 := hr3.below (below_drewN (Below.refl _ _) nq)
          have hT4 := hT3.keeps (Keeps.of_below (C := [b]) (below_drewN (Below.refl _ _) nq)) n1 n0
          have hK4 := hK3.drawn nq
          generalize w3.drewN nq = w4 at hr4 hT4 hK4 ⊢
          clear hr3 hT3 hK3
          refine (qwrong_idle b s p 3 p (4 : Nat) _ (by omega) hr4).mono ?_
          rintro e w6 ⟨rfl, hr6, hk6⟩
          have hT6 := hT4.keeps hk6 n1 n0
          have hK6 := hK4.trans hk6
          clear hr4 hT4 hK4 hk6
          go_wp2_with fail
          refine (qis_idle b s p 3 p 40 _ (by omega) hr6).mono ?_
          rintro e w7 ⟨rfl, hr7, hk7⟩
          have hT7 := hT6.keeps hk7 n1 n0
          have hK7 := hK6.trans hk7
          clear hr6 hT6 hK6 hk7
          have t0 := hT7.t0
          have t1 := hT7.t1
          have r0 := hT7.r0
          have r1 := hT7.r1
          have fr := hT7.fr
          have HEND := hide (qbad_told (x0 := ⟨#[]⟩) (a0 := none) (k0 := .nil) (c0 := 0) hlb hp (by omega) hr7 hK7 (rdT_deep (N := m) h10))
          clear hr7 hT7 hK7
          go_wp2_with fail
          refine bodyPost_ret (v := .agg #[.string ⟨#[]⟩, .slice none 0 0]) (by simp [results, Try.results53, go_sem, *]) rfl HEND.out
    · have hd : ¬ (10 : Int) < (a : Int) := by omega
      have hwr : IntKind.i64.wrap ((a : Int) + 1) = (a : Int) + 1 := by rw [IntKind.wrap_i64]; omega
      go_enter Try.func53, Try.ntmps53
      go_wp2_with fail
      refine (qblanks_any b s p 0 (treeW w) hr0 hp (by unfold maxLen; omega)).mono ?_
      rintro e w1 ⟨q, rfl, hq1, hq2, hq3, hr1, hk1⟩
      have HQ := hide hq3
      have hT1 := hT0.keeps hk1 n1 n0
      have hK1 := hK0.trans hk1
      clear hk1 hr0 hT0 hK0 hq3
      go_wp2_with fail
      rename_i K hK
      have hcut : ∀ (u12 u13 u14 u15 u16 u17 u18 u19 u20 u21 u22 u23 u24 u25 u26 u27 u28 u29 u30 u31 u32 u33 u34 u35 u36 u37 u38 u39 u40 u41 u42 u43 u44 u45 u46 u47 u48 u49 u50 u51 u52 u53 u54 u55 u56 u57 u58 u59 u60 u61 u62 u63 u64 u65 u66 u67 u68 u69 u70 u71 u72 u73 u74 u75 u76 u77 u78 : Value) (j : Nat) (w3 : World), q ≤ j → j ≤ s.size → Hid (Letters s q j) → (∀ hlt : j < s.size, okByte s[j] = false) → QAt b s j 0 0 w3 → TT w (w.heap.size + 1) (s.extract q j) (.slice none 0 0) w3 → Keeps [b] w w3 →
          K { tmps := #[.pointer (some ⟨b, 0, none⟩), .int .i64 a, undef, undef, .pointer (some ⟨w.heap.size, 0, none⟩), .pointer (some ⟨w.heap.size + 1, 0, none⟩), .int .i64 a, .bool false, undef, undef, .pointer (some ⟨b, 0, none⟩), .tuple #[], u12, u13, u14, u15, u16, u17, u18, u19, u20, u21, u22, u23, u24, u25, u26, u27, u28, u29, u30, u31, u32, u33, u34, u35, u36, u37, u38, u39, u40, u41, u42, u43, u44, u45, u46, u47, u48, u49, u50, u51, u52, u53, u54, u55, u56, u57, u58, u59, u60, u61, u62, u63, u64, u65, u66, u67, u68, u69, u70, u71, u72, u73, u74, u75, u76, u77, u78, undef, undef, undef, undef, undef, undef, undef, undef, undef, undef, undef, undef, undef, undef, undef, undef, undef, undef, undef, undef, undef, undef, undef, undef, undef, undef, undef, undef, undef, undef, undef, undef, undef, undef, undef, undef, undef, undef, undef], defers := [] } w3 := by
        intro u12 u13 u14 u15 u16 u17 u18 u19 u20 u21 u22 u23 u24 u25 u26 u27 u28 u29 u30 u31 u32 u33 u34 u35 u36 u37 u38 u39 u40 u41 u42 u43 u44 u45 u46 u47 u48 u49 u50 u51 u52 u53 u54 u55 u56 u57 u58 u59 u60 u61 u62 u63 u64 u65 u66 u67 u68 u69 u70 u71 u72 u73 u74 u75 u76 u77 u78 j w3 hj1 hj2 hsk hstop hr3 hT3 hK3
        refine hK _ _ ?_
        clear hK
        have hxs : (s.extract q j).size ≤ s.size := by rw [ByteArray.size_extract]; omega
        have c0 := hr3.c0
        have c1 := hr3.c1
        have c2 := hr3.c2
        have t0 := hT3.t0
        by_cases hqj : q = j
        · have hx : s.extract q j = ⟨#[]⟩ := by rw [hqj]; simp; rfl
          rw [hx] at hT3 t0
          clear hx hxs
          go_wp2_with fail
          by_cases hlt : j < s.size
          · have hpb : ((j : Int) == (s.size : Int)) = false := beq_eq_false_iff_ne.2 (by omega)
            go_quiet (fail)
            go_wp2_with fail
            clear c0 c1 c2 t0
            have hr4 := hr3.below (below_drewN (Below.refl _ _) nq)
            have hT4 := hT3.keeps (Keeps.of_below (C := [b]) (below_drewN (Below.refl _ _) nq)) n1 n0
            have hK4 := hK3.drawn nq
            generalize w3.drewN nq = w4 at hr4 hT4 hK4 ⊢
            clear hr3 hT3 hK3
            refine (qwrong_new b s j 0 (4 : Nat) _ hr4).mono ?_
            rintro e w6 ⟨rfl, hr6, hk6⟩
            have hT6 := hT4.keeps hk6 n1 n0
            have hK6 := hK4.trans hk6
            clear hr4 hT4 hK4 hk6
            go_wp2_with fail
            refine (qis_idle b s j 4 j 40 _ (by omega) hr6).mono ?_
            rintro e w7 ⟨rfl, hr7, hk7⟩
            have hT7 := hT6.keeps hk7 n1 n0
            have hK7 := hK6.trans hk7
            clear hr6 hT6 hK6 hk7
            have t0 := hT7.t0
            have t1 := hT7.t1
            have r0 := hT7.r0
            have r1 := hT7.r1
            have fr := hT7.fr
            have HEND := hide (qbad_told (x0 := ⟨#[]⟩) (a0 := none) (k0 := .nil) (c0 := 0) hlb hj2 (by omega) hr7 hK7 (rdT_bad (N := m) h10 (rdL_text (s := s) (p := p) (j := j) (by rw [← hqj]; exact HQ.out) hlt (hstop hlt))))
            clear hr7 hT7 hK7
            go_wp2_with fail
            refine bodyPost_ret (v := .agg #[.string ⟨#[]⟩, .slice none 0 0]) (by simp [results, Try.results53, go_sem, *]) rfl HEND.out
          · have hpb : ((j : Int) == (s.size : Int)) = true := beq_iff_eq.2 (by omega)
            go_quiet (fail)
            go_wp2_with fail
            clear c0 c1 c2 t0
            have hr4 := hr3.below (below_drewN (Below.refl _ _) nq)
            have hT4 := hT3.keeps (Keeps.of_below (C := [b]) (below_drewN (Below.refl _ _) nq)) n1 n0
            have hK4 := hK3.drawn nq
            generalize w3.drewN nq = w4 at hr4 hT4 hK4 ⊢
            clear hr3 hT3 hK3
            refine (qwrong_new b s j 0 (5 : Nat) _ hr4).mono ?_
            rintro e w5 ⟨rfl, hr5, hk5⟩
            have hT5 := hT4.keeps hk5 n1 n0
            have hK5 := hK4.trans hk5
            clear hr4 hT4 hK4 hk5
            go_wp2_with fail
            refine (qwrong_idle b s j 5 j (4 : Nat) _ (by omega) hr5).mono ?_
            rintro e w6 ⟨rfl, hr6, hk6⟩
            have hT6 := hT5.keeps hk6 n1 n0
            have hK6 := hK5.trans hk6
            clear hr5 hT5 hK5 hk6
            go_wp2_with fail
            refine (qis_idle b s j 5 j 40 _ (by omega) hr6).mono ?_
            rintro e w7 ⟨rfl, hr7, hk7⟩
            have hT7 := hT6.keeps hk7 n1 n0
            have hK7 := hK6.trans hk7
            clear hr6 hT6 hK6 hk7
            have t0 := hT7.t0
            have t1 := hT7.t1
            have r0 := hT7.r0
            have r1 := hT7.r1
            have fr := hT7.fr
            have HEND := hide (qbad_told (x0 := ⟨#[]⟩) (a0 := none) (k0 := .nil) (c0 := 0) hlb hj2 (by omega) hr7 hK7 (rdT_bad (N := m) h10 (rdL_short (s := s) (p := p) (j := j) (by rw [← hqj]; exact HQ.out) (by omega))))
            clear hr7 hT7 hK7
            go_wp2_with fail
            refine bodyPost_ret (v := .agg #[.string ⟨#[]⟩, .slice none 0 0]) (by simp [results, Try.results53, go_sem, *]) rfl HEND.out
        · have hem : (s.extract q j).toList.isEmpty = false := by
            rw [ByteArray.toList_eq, List.isEmpty_eq_false_iff]
            intro e
            have := congrArg List.length e
            rw [Array.length_toList] at this
            have h2 : (s.extract q j).size = 0 := this
            rw [ByteArray.size_extract] at h2
            omega
          have HL := hide (rdL_ok hsk.out HQ.out hj1 hj2 hqj hstop)
          have hltj : q < j := by omega
          obtain ⟨x, hx⟩ : ∃ x, x = s.extract q j := ⟨_, rfl⟩
          rw [← hx] at hem hT3 t0 hxs HL
          clear hx hsk hstop hqj
          go_wp2_with fail
          clear c0 c1 c2 t0
          refine (qis_any b s j 0 40 _ hr3 hj2 (by unfold maxLen; omega)).mono ?_
          rintro e w4 ⟨y, q2, rfl, hq21, hq22, he, hy0, hy1, hr4, hk4⟩
          have hT4 := hT3.keeps hk4 n1 n0
          have hK4 := hK3.trans hk4
          clear hr3 hT3 hK3 hk4
          cases y with
          | false =>
            have HE := hide (rdT_leaf (N := m) h10 HL.out (by simpa using he))
            have HS := hide (hy0 rfl)
            obtain ⟨ka, cap, k', hv, hend, hkeep⟩ := qtree_told (B := w.heap.size + 1) (w := w) (wr := w4) (N := m + 1) (a := a) (p := p) (x := x) (L := []) (k := .nil) (by omega) hlb hs hxs (by omega) hq22 (KInv.start _ _ _) hr4 hK4 (by rw [HE.out, HS.out]) rfl
            have HEND := hide hend
            have HKEEP := hide hkeep
            have HV := hide hv
            have t0 := hT4.t0
            have t1 := hT4.t1
            have r0 := hT4.r0
            have r1 := hT4.r1
            have fr := hT4.fr
            clear he hy0 hy1 hend hkeep hr4 hK4 hv hT4
            go_wp2_with fail
            refine bodyPost_ret (v := .agg #[.string x, .slice none 0 0]) (by simp [results, Try.results53, go_sem, *]) rfl ⟨?_, HKEEP.out⟩
            have hend := HEND.out
            rw [← HV.out] at hend
            exact hend
          | true =>
            have HE := hide (rdT_kids (N := m) h10 HL.out (by simpa using he))
            have hlt2 := hy1 rfl
            clear he hy0 hy1 HL
            go_wp2_with fail
            go_loopg [] (s.size - q2 + 1) (fun gk wr => (∃ (L : List It) (v : Value) (p' M : Nat), gk = s.size - p' + 1 ∧ q2 ≤ p' ∧ p' ≤ s.size ∧ KInv 24 (w.heap.size + 1 + 1) wr v L ∧ TT w (w.heap.size + 1) x v wr ∧ QAt b s p' 0 0 wr ∧ Keeps [b] w wr ∧
                Hid (rdK m (a + 1) (rst s q2) = (rdK M (a + 1) (rst s p')).map (joinS L)) ∧ 2 * (s.size - p') + 2 ≤ M ∧ M ≤ m ∧ L.length ≤ p') ∨
              (∃ (c q' p' : Nat) (a0 : Option Addr) (c0 : Nat) (k0 : Fo), gk = 0 ∧ 0 < c ∧ q' ≤ s.size ∧ QAt b s p' c q' wr ∧ TT w (w.heap.size + 1) x (.slice a0 (flen k0) c0) wr ∧ Keeps [b] w wr ∧ Hid (rdT (m + 1) a (rst s p) = .bad c (rst s q'))))
            case atStart =>
              refine Or.inl ⟨[], .slice none 0 0, q2, m, rfl, Nat.le_refl _, hq22, KInv.start _ _ _, hT4, hr4, hK4, ?_, by omega, Nat.le_refl _, Nat.zero_le _⟩
              show _ = _
              have hbare := (bare_all m).2 (a + 1) (rst s q2)
              cases hq : rdK m (a + 1) (rst s q2) with
              | bad c r => rfl
              | ok f r =>
                rw [hq] at hbare
                have hf : strip f = f := hbare
                simp [Rd.map, joinS, joinF, hf]
            case round =>
              clear hT4 hr4 hK4
              rcases hrel with ⟨L, v, p', M, hgk, hp1, hp2, hKI, hTT, hra, hkk, hrun, hM, hMm, hLl⟩ | ⟨c, q', p', a0, c0, k0, hgk, hc, hq', hra, hTT, hkk, hrun⟩
              · obtain ⟨M', rfl⟩ : ∃ M', M = M' + 1 := ⟨M - 1, by omega⟩
                have t1 := hTT.t1
                have c2 := hra.c2
                have htl := lt_of_heap hTT.t
                have hoffs : ∀ g0, v.ownBlock = some g0 → g0 < wr.heap.size := fun g0 hg0 => (ownBlock_lt hKI.row hg0).2
                obtain ⟨i24, hi24, hz0, hz1', hz2⟩ := info_parts Try.infoTree
                cases hqT : rdT M' (a + 1) (rst s p') with
                | bad c r =>
                  have HQT := hide hqT
                  clear hqT
                  go_wp2_with fail
                  refine wp_region_any (by kernel_rfl) ?_
                  change wpAny _ _ _ _ _ _ _ (World.drew _)
                  refine wpAny_take (i := 0) (v := .pointer (some ⟨w.heap.size + 1, 1, none⟩)) rfl (by kernel_rfl) (by kernel_rfl) (by kernel_rfl) (fun _ _ _ h => h) (Or.inl ⟨by rfl, by intro w; go_simp⟩) ?_
                  refine wpAny_take (i := 2) (v := .pointer (some ⟨b, 0, none⟩)) rfl (by kernel_rfl) (by kernel_rfl) (by kernel_rfl) (fun _ _ _ h => h) (Or.inl ⟨by rfl, by intro w; go_simp⟩) ?_
                  refine wpAny_take (i := 3) (v := .int .i64 a) rfl (by kernel_rfl) (by kernel_rfl) (by kernel_rfl) (fun _ _ _ h => h) (Or.inl ⟨by rfl, by intro w; go_simp⟩) ?_
                  refine wpAny_take (i := 4) (v := .int .i64 (a + 1)) rfl (by kernel_rfl) (by kernel_rfl) (by kernel_rfl) (fun _ _ _ h => h) (Or.inl ⟨by rfl, by intro w; go_simp⟩) ?_
                  simp only [Act.put, List.setIfInBounds_toArray]
                  refine wpAny_ready (rs := [1, 5]) (by kernel_rfl) (by simp) ?_
                  refine AllReady.cons rfl (fun K hK => ?_) (AllReady.cons rfl (fun K hK => ?_) AllReady.nil)
                  · go_simp
                    refine hK _ _ ?_
                    clear hK K
                    refine wpAny_ready (rs := [5]) (by kernel_rfl) (by simp) ?_
                    refine AllReady.cons rfl (fun K hK => ?_) AllReady.nil
                    go_simp
                    refine (qreads_bad (HI.out M' (by omega)) (hra.below (Below.refl _ _).drew) hp2 hs (by omega) (by omega) HQT.out).mono ?_
                    rintro e w3 ⟨q3, p3, x3, ka', cap', k', hr3, hc3, hq3, rfl, hra3, hk3⟩
                    have hK3 := (hKI.but (g0 := b) (by omega) (fun i _ _ => rfl) : KInv 24 (w.heap.size + 1 + 1) wr.drew v L).keeps (by omega) hk3
                    have hTT3 := (hTT.keeps (Keeps.of_below (C := [b]) (Below.refl _ _).drew) n1 n0).keeps hk3 n1 n0
                    have hkw3 := (hkk.trans (Keeps.of_below (Below.refl _ _).drew)).trans hk3
                    have hz3 : wr.heap.size ≤ w3.heap.size := hk3.size
                    have t13 := hTT3.t1
                    have t14 : ∀ o, (w3.alloc o).cell? ⟨w.heap.size + 1, 1, none⟩ = some v := fun o => by rw [World.cell?_alloc_some _ _ _ (by rw [t13]; rfl)]; exact t13
                    have HK3 := hide hK3
                    have HTT3 := hide hTT3
                    clear hK3 hTT3
                    refine hK _ _ ?_
                    clear hK K
                    refine wpAny_ready (rs := [6]) (by kernel_rfl) (by simp) ?_
                    refine AllReady.cons rfl (fun K hK => ?_) AllReady.nil
                    go_simp
                    refine hK _ _ ?_
                    clear hK K
                    refine wpAny_ready (rs := [7]) (by kernel_rfl) (by simp) ?_
                    refine AllReady.cons rfl (fun K hK => ?_) AllReady.nil
                    refine step_append_lies _ rfl (.tmp 107) (.tmp 112) 22 rfl (w.heap.size + 1 + 1) 24 i24 _ 2 40 Try.underlying22 hi24 hz0 hz1' hz2 rfl (by decide) _ L.length (rowCells L) rfl (ownsRow_below HK3.out.row ((Below.refl _ _).alloc (Nat.le_refl _) _)) ⟨w3.heap.size, 0, none⟩ 1 1 (itCells (x3, ka', cap', k')) rfl rfl (own_news w3 24 (x3, ka', cap', k')) (own_one _) (by decide) (by unfold maxLen; omega) (by omega) (by simp; omega) (w3.heap.size + 1) (by simp) ?_
                    intro g cap2 w4 hown hgrow hat hlt4
                    obtain ⟨k0, f0, hT5, hR5, hO5, hk5⟩ := kids_junk (g := g) (n' := L.length + 1) (cap2 := cap2) (by omega) hlb HK3.out.row HTT3.out.t HTT3.out.r hra3 hkw3 hgrow
                    have hra5 : QAt b s p3 c q3 _ := hO5
                    have HT5 := hide (TT.mk (w := w) hT5 hR5)
                    have HA5 := hide hra5
                    have HKW5 := hide hk5
                    clear hT5 hR5 hO5 hra5 hk5 hown hgrow hat hra3 hk3 HK3 HTT3 hkw3 t13 t14
                    refine hK _ _ ?_
                    clear hK K
                    simp only [Act.put, List.setIfInBounds_toArray]
                    refine wpAny_ready (rs := [8]) (by kernel_rfl) (by simp) ?_
                    refine AllReady.cons rfl (fun K hK => ?_) AllReady.nil
                    go_simp
                    refine hK _ _ ?_
                    clear hK K
                    refine wpAny_ready (rs := [9]) (by kernel_rfl) (by simp) ?_
                    refine AllReady.cons rfl (fun K hK => ?_) AllReady.nil
                    go_simp
                    refine hK _ _ ?_
                    clear hK K
                    refine wpAny_done (by kernel_rfl) ?_ _
                    go_wp2_with fail
                    refine (qis_idle b s p3 c q3 41 _ hc3 HA5.out).mono ?_
                    rintro e w6 ⟨rfl, hr6, hk6⟩
                    have hT6 := HT5.out.keeps hk6 n1 n0
                    have hkw6 := HKW5.out.trans hk6
                    have HRUN := hide (show rdT (m + 1) a (rst s p) = .bad c (rst s q3) by
                      have h1 := HQT.out
                      rw [hr3] at h1
                      rw [HE.out, hrun.out, rdK_bad h1]
                      rfl)
                    go_wp2_with fail
                    go_roundg 0
                    case measure => omega
                    case rel => exact Or.inr ⟨c, q3, p3, some ⟨g, 0, none⟩, cap2, place 0 0 (L ++ [(x3, ka', cap', k')]), rfl, hc3, hq3, hr6, by rw [flen_place]; simpa using hT6, hkw6, HRUN⟩
                  · go_simp
                    refine (qreads_bad (HI.out M' (by omega)) (hra.below (Below.refl _ _).drew) hp2 hs (by omega) (by omega) HQT.out).mono ?_
                    rintro e w3 ⟨q3, p3, x3, ka', cap', k', hr3, hc3, hq3, rfl, hra3, hk3⟩
                    have hK3 := (hKI.but (g0 := b) (by omega) (fun i _ _ => rfl) : KInv 24 (w.heap.size + 1 + 1) wr.drew v L).keeps (by omega) hk3
                    have hTT3 := (hTT.keeps (Keeps.of_below (C := [b]) (Below.refl _ _).drew) n1 n0).keeps hk3 n1 n0
                    have hkw3 := (hkk.trans (Keeps.of_below (Below.refl _ _).drew)).trans hk3
                    have hz3 : wr.heap.size ≤ w3.heap.size := hk3.size
                    have t13 := hTT3.t1
                    have t14 : ∀ o, (w3.alloc o).cell? ⟨w.heap.size + 1, 1, none⟩ = some v := fun o => by rw [World.cell?_alloc_some _ _ _ (by rw [t13]; rfl)]; exact t13
                    have HK3 := hide hK3
                    have HTT3 := hide hTT3
                    clear hK3 hTT3
                    refine hK _ _ ?_
                    clear hK K
                    refine wpAny_ready (rs := [1, 6]) (by kernel_rfl) (by simp) ?_
                    refine AllReady.cons rfl (fun K hK => ?_) (AllReady.cons rfl (fun K hK => ?_) AllReady.nil)
                    · go_simp
                      refine hK _ _ ?_
                      clear hK K
                      refine wpAny_ready (rs := [6]) (by kernel_rfl) (by simp) ?_
                      refine AllReady.cons rfl (fun K hK => ?_) AllReady.nil
                      go_simp
                      refine hK _ _ ?_
                      clear hK K
                      refine wpAny_ready (rs := [7]) (by kernel_rfl) (by simp) ?_
                      refine AllReady.cons rfl (fun K hK => ?_) AllReady.nil
                      refine step_append_lies _ rfl (.tmp 107) (.tmp 112) 22 rfl (w.heap.size + 1 + 1) 24 i24 _ 2 40 Try.underlying22 hi24 hz0 hz1' hz2 rfl (by decide) _ L.length (rowCells L) rfl (ownsRow_below HK3.out.row ((Below.refl _ _).alloc (Nat.le_refl _) _)) ⟨w3.heap.size, 0, none⟩ 1 1 (itCells (x3, ka', cap', k')) rfl rfl (own_news w3 24 (x3, ka', cap', k')) (own_one _) (by decide) (by unfold maxLen; omega) (by omega) (by simp; omega) (w3.heap.size + 1) (by simp) ?_
                      intro g cap2 w4 hown hgrow hat hlt4
                      obtain ⟨k0, f0, hT5, hR5, hO5, hk5⟩ := kids_junk (g := g) (n' := L.length + 1) (cap2 := cap2) (by omega) hlb HK3.out.row HTT3.out.t HTT3.out.r hra3 hkw3 hgrow
                      have hra5 : QAt b s p3 c q3 _ := hO5
                      have HT5 := hide (TT.mk (w := w) hT5 hR5)
                      have HA5 := hide hra5
                      have HKW5 := hide hk5
                      clear hT5 hR5 hO5 hra5 hk5 hown hgrow hat hra3 hk3 HK3 HTT3 hkw3 t13 t14
                      refine hK _ _ ?_
                      clear hK K
                      simp only [Act.put, List.setIfInBounds_toArray]
                      refine wpAny_ready (rs := [8]) (by kernel_rfl) (by simp) ?_
                      refine AllReady.cons rfl (fun K hK => ?_) AllReady.nil
                      go_simp
                      refine hK _ _ ?_
                      clear hK K
                      refine wpAny_ready (rs := [9]) (by kernel_rfl) (by simp) ?_
                      refine AllReady.cons rfl (fun K hK => ?_) AllReady.nil
                      go_simp
                      refine hK _ _ ?_
                      clear hK K
                      refine wpAny_done (by kernel_rfl) ?_ _
                      go_wp2_with fail
                      refine (qis_idle b s p3 c q3 41 _ hc3 HA5.out).mono ?_
                      rintro e w6 ⟨rfl, hr6, hk6⟩
                      have hT6 := HT5.out.keeps hk6 n1 n0
                      have hkw6 := HKW5.out.trans hk6
                      have HRUN := hide (show rdT (m + 1) a (rst s p) = .bad c (rst s q3) by
                        have h1 := HQT.out
                        rw [hr3] at h1
                        rw [HE.out, hrun.out, rdK_bad h1]
                        rfl)
                      go_wp2_with fail
                      go_roundg 0
                      case measure => omega
                      case rel => exact Or.inr ⟨c, q3, p3, some ⟨g, 0, none⟩, cap2, place 0 0 (L ++ [(x3, ka', cap', k')]), rfl, hc3, hq3, hr6, by rw [flen_place]; simpa using hT6, hkw6, HRUN⟩
                    · go_simp
                      refine hK _ _ ?_
                      clear hK K
                      refine wpAny_ready (rs := [1]) (by kernel_rfl) (by simp) ?_
                      refine AllReady.cons rfl (fun K hK => ?_) AllReady.nil
                      go_simp
                      refine hK _ _ ?_
                      clear hK K
                      refine wpAny_ready (rs := [7]) (by kernel_rfl) (by simp) ?_
                      refine AllReady.cons rfl (fun K hK => ?_) AllReady.nil
                      refine step_append_lies _ rfl (.tmp 107) (.tmp 112) 22 rfl (w.heap.size + 1 + 1) 24 i24 _ 2 40 Try.underlying22 hi24 hz0 hz1' hz2 rfl (by decide) _ L.length (rowCells L) rfl (ownsRow_below HK3.out.row ((Below.refl _ _).alloc (Nat.le_refl _) _)) ⟨w3.heap.size, 0, none⟩ 1 1 (itCells (x3, ka', cap', k')) rfl rfl (own_news w3 24 (x3, ka', cap', k')) (own_one _) (by decide) (by unfold maxLen; omega) (by omega) (by simp; omega) (w3.heap.size + 1) (by simp) ?_
                      intro g cap2 w4 hown hgrow hat hlt4
                      obtain ⟨k0, f0, hT5, hR5, hO5, hk5⟩ := kids_junk (g := g) (n' := L.length + 1) (cap2 := cap2) (by omega) hlb HK3.out.row HTT3.out.t HTT3.out.r hra3 hkw3 hgrow
                      have hra5 : QAt b s p3 c q3 _ := hO5
                      have HT5 := hide (TT.mk (w := w) hT5 hR5)
                      have HA5 := hide hra5
                      have HKW5 := hide hk5
                      clear hT5 hR5 hO5 hra5 hk5 hown hgrow hat hra3 hk3 HK3 HTT3 hkw3 t13 t14
                      refine hK _ _ ?_
                      clear hK K
                      simp only [Act.put, List.setIfInBounds_toArray]
                      refine wpAny_ready (rs := [8]) (by kernel_rfl) (by simp) ?_
                      refine AllReady.cons rfl (fun K hK => ?_) AllReady.nil
                      go_simp
                      refine hK _ _ ?_
                      clear hK K
                      refine wpAny_ready (rs := [9]) (by kernel_rfl) (by simp) ?_
                      refine AllReady.cons rfl (fun K hK => ?_) AllReady.nil
                      go_simp
                      refine hK _ _ ?_
                      clear hK K
                      refine wpAny_done (by kernel_rfl) ?_ _
                      go_wp2_with fail
                      refine (qis_idle b s p3 c q3 41 _ hc3 HA5.out).mono ?_
                      rintro e w6 ⟨rfl, hr6, hk6⟩
                      have hT6 := HT5.out.keeps hk6 n1 n0
                      have hkw6 := HKW5.out.trans hk6
                      have HRUN := hide (show rdT (m + 1) a (rst s p) = .bad c (rst s q3) by
                        have h1 := HQT.out
                        rw [hr3] at h1
                        rw [HE.out, hrun.out, rdK_bad h1]
                        rfl)
                      go_wp2_with fail
                      go_roundg 0
                      case measure => omega
                      case rel => exact Or.inr ⟨c, q3, p3, some ⟨g, 0, none⟩, cap2, place 0 0 (L ++ [(x3, ka', cap', k')]), rfl, hc3, hq3, hr6, by rw [flen_place]; simpa using hT6, hkw6, HRUN⟩
                | ok y r =>
                  have HQT := hide hqT
                  clear hqT
                  go_wp2_with fail
                  refine wp_region_any (by kernel_rfl) ?_
                  change wpAny _ _ _ _ _ _ _ (World.drew _)
                  refine wpAny_take (i := 0) (v := .pointer (some ⟨w.heap.size + 1, 1, none⟩)) rfl (by kernel_rfl) (by kernel_rfl) (by kernel_rfl) (fun _ _ _ h => h) (Or.inl ⟨by rfl, by intro w; go_simp⟩) ?_
                  refine wpAny_take (i := 2) (v := .pointer (some ⟨b, 0, none⟩)) rfl (by kernel_rfl) (by kernel_rfl) (by kernel_rfl) (fun _ _ _ h => h) (Or.inl ⟨by rfl, by intro w; go_simp⟩) ?_
                  refine wpAny_take (i := 3) (v := .int .i64 a) rfl (by kernel_rfl) (by kernel_rfl) (by kernel_rfl) (fun _ _ _ h => h) (Or.inl ⟨by rfl, by intro w; go_simp⟩) ?_
                  refine wpAny_take (i := 4) (v := .int .i64 (a + 1)) rfl (by kernel_rfl) (by kernel_rfl) (by kernel_rfl) (fun _ _ _ h => h) (Or.inl ⟨by rfl, by intro w; go_simp⟩) ?_
                  simp only [Act.put, List.setIfInBounds_toArray]
                  refine wpAny_ready (rs := [1, 5]) (by kernel_rfl) (by simp) ?_
                  refine AllReady.cons rfl (fun K hK => ?_) (AllReady.cons rfl (fun K hK => ?_) AllReady.nil)
                  · go_simp
                    refine hK _ _ ?_
                    clear hK K
                    refine wpAny_ready (rs := [5]) (by kernel_rfl) (by simp) ?_
                    refine AllReady.cons rfl (fun K hK => ?_) AllReady.nil
                    go_simp
                    refine (qreads_ok (HI.out M' (by omega)) (hra.below (Below.refl _ _).drew) hp2 hs (by omega) (by omega) HQT.out).mono ?_
                    rintro e w3 ⟨ka', cap', k', q3, hr3, hlt3, hq3, rfl, hst3, ht3, hfr3, hpl3, hra3, hk3⟩
                    have HST := hide hst3
                    have HR3 := hide hr3
                    clear hst3 hr3
                    have hK3 := (hKI.but (g0 := b) (by omega) (fun i _ _ => rfl) : KInv 24 (w.heap.size + 1 + 1) wr.drew v L).keeps (by omega) hk3
                    have hTT3 := (hTT.keeps (Keeps.of_below (C := [b]) (Below.refl _ _).drew) n1 n0).keeps hk3 n1 n0
                    have hkw3 := (hkk.trans (Keeps.of_below (Below.refl _ _).drew)).trans hk3
                    have hz3 : wr.heap.size ≤ w3.heap.size := hk3.size
                    have t13 := hTT3.t1
                    have t14 : ∀ o, (w3.alloc o).cell? ⟨w.heap.size + 1, 1, none⟩ = some v := fun o => by rw [World.cell?_alloc_some _ _ _ (by rw [t13]; rfl)]; exact t13
                    have HK3 := hide hK3
                    have HTT3 := hide hTT3
                    clear hK3 hTT3
                    refine hK _ _ ?_
                    clear hK K
                    refine wpAny_ready (rs := [6]) (by kernel_rfl) (by simp) ?_
                    refine AllReady.cons rfl (fun K hK => ?_) AllReady.nil
                    go_simp
                    refine hK _ _ ?_
                    clear hK K
                    refine wpAny_ready (rs := [7]) (by kernel_rfl) (by simp) ?_
                    refine AllReady.cons rfl (fun K hK => ?_) AllReady.nil
                    refine step_append_lies _ rfl (.tmp 107) (.tmp 112) 22 rfl (w.heap.size + 1 + 1) 24 i24 _ 2 40 Try.underlying22 hi24 hz0 hz1' hz2 rfl (by decide) _ L.length (rowCells L) rfl (ownsRow_below HK3.out.row ((Below.refl _ _).alloc (Nat.le_refl _) _)) ⟨w3.heap.size, 0, none⟩ 1 1 (itCells (y.1, ka', cap', k')) rfl rfl (own_news w3 24 (y.1, ka', cap', k')) (own_one _) (by decide) (by unfold maxLen; omega) (by omega) (by simp; omega) (w3.heap.size + 1) (by simp) ?_
                    intro g cap2 w4 hown hgrow hat hlt4
                    obtain ⟨k0, f0, hK5, hT5, hR5, hO5, hk5⟩ := kids_step (q0 := wr.heap.size) rfl (by omega) hlb htl HK3.out hoffs HTT3.out.t HTT3.out.r hra3 hkw3 ht3 hpl3 hfr3 hown hgrow hat
                    have hra5 : QAt b s q3 0 0 _ := hO5
                    have HK5 := hide hK5
                    have HT5 := hide (TT.mk (w := w) hT5 hR5)
                    have HA5 := hide hra5
                    have HKW5 := hide hk5
                    clear hK5 hT5 hR5 hO5 hra5 hk5 hown hgrow hat ht3 hpl3 hfr3 hra3 hk3 HK3 HTT3 hkw3 t13 t14
                    refine hK _ _ ?_
                    clear hK K
                    simp only [Act.put, List.setIfInBounds_toArray]
                    refine wpAny_ready (rs := [8]) (by kernel_rfl) (by simp) ?_
                    refine AllReady.cons rfl (fun K hK => ?_) AllReady.nil
                    go_simp
                    refine hK _ _ ?_
                    clear hK K
                    refine wpAny_ready (rs := [9]) (by kernel_rfl) (by simp) ?_
                    refine AllReady.cons rfl (fun K hK => ?_) AllReady.nil
                    go_simp
                    refine hK _ _ ?_
                    clear hK K
                    refine wpAny_done (by kernel_rfl) ?_ _
                    go_wp2_with fail
                    refine (qis_any b s q3 0 41 _ HA5.out hq3 (by unfold maxLen; omega)).mono ?_
                    rintro e w6 ⟨y2, q4, rfl, h41, h42, he4, hy40, hy41, hr6, hk6⟩
                    have hT6 := HT5.out.keeps hk6 n1 n0
                    have hK6 := HK5.out.keeps (by omega) hk6
                    have hkw6 := HKW5.out.trans hk6
                    have hq := HQT.out
                    rw [HR3.out] at hq
                    have hbare := (bare_all M').1 (a + 1) (rst s p')
                    rw [hq] at hbare
                    have hb2 : strip y.2 = y.2 := hbare
                    cases y2 with
                    | false =>
                      have HRUN := hide (show rdK m (a + 1) (rst s q2) = (rdK M' (a + 1) (rst s q4)).map (joinS (L ++ [(y.1, ka', cap', k')])) by
                        rw [hrun.out, rdK_more hq (by simpa using he4), hy40 rfl, Rd.map_map]
                        congr 1
                        funext f
                        exact joinS_snoc L y.1 ka' cap' y.2 k' f HST.out hb2)
                      clear hq hbare
                      go_wp2_with fail
                      go_roundg (s.size - q4 + 1)
                      case measure => omega
                      case rel => exact Or.inl ⟨_, _, q4, M', rfl, by omega, h42, hK6, hT6, hr6, hkw6, HRUN, by omega, by omega, by simp; omega⟩
                    | true =>
                      have t0 := hT6.t0
                      have t1 := hT6.t1
                      have r0 := hT6.r0
                      have r1 := hT6.r1
                      have fr := hT6.fr
                      obtain ⟨ka, cap, k2, hv, hend, hkeep⟩ := qtree_told (B := w.heap.size + 1 + 1) (w := w) (wr := w6) (N := m + 1) (a := a) (p := p) (x := x) (L := L ++ [(y.1, ka', cap', k')]) (k := joinS L (.node 0 0 (y.1, none, 0) y.2 .nil)) (by omega) hlb hs hxs (by omega) h42 hK6 hr6 hkw6
                        (by rw [HE.out, hrun.out, rdK_end hq (by simpa using he4)]; rfl) (joinS_snoc L y.1 ka' cap' y.2 k' .nil HST.out hb2).symm
                      have HV := hide hv
                      have HEND := hide hend
                      have HKEEP := hide hkeep
                      clear hq hbare he4 hy40 hy41 hend hkeep hr6 hkw6 hK6 hk6 hT6 hv
                      go_wp2_with fail
                      refine bodyPost_ret (v := .agg #[.string x, .slice (some ⟨g, 0, none⟩) (L.length + 1) cap2]) (by simp [results, Try.results53, go_sem, *]) rfl ⟨?_, HKEEP.out⟩
                      have hend := HEND.out
                      rw [← HV.out] at hend
                      exact hend
                  · go_simp
                    refine (qreads_ok (HI.out M' (by omega)) (hra.below (Below.refl _ _).drew) hp2 hs (by omega) (by omega) HQT.out).mono ?_
                    rintro e w3 ⟨ka', cap', k', q3, hr3, hlt3, hq3, rfl, hst3, ht3, hfr3, hpl3, hra3, hk3⟩
                    have HST := hide hst3
                    have HR3 := hide hr3
                    clear hst3 hr3
                    have hK3 := (hKI.but (g0 := b) (by omega) (fun i _ _ => rfl) : KInv 24 (w.heap.size + 1 + 1) wr.drew v L).keeps (by omega) hk3
                    have hTT3 := (hTT.keeps (Keeps.of_below (C := [b]) (Below.refl _ _).drew) n1 n0).keeps hk3 n1 n0
                    have hkw3 := (hkk.trans (Keeps.of_below (Below.refl _ _).drew)).trans hk3
                    have hz3 : wr.heap.size ≤ w3.heap.size := hk3.size
                    have t13 := hTT3.t1
                    have t14 : ∀ o, (w3.alloc o).cell? ⟨w.heap.size + 1, 1, none⟩ = some v := fun o => by rw [World.cell?_alloc_some _ _ _ (by rw [t13]; rfl)]; exact t13
                    have HK3 := hide hK3
                    have HTT3 := hide hTT3
                    clear hK3 hTT3
                    refine hK _ _ ?_
                    clear hK K
                    refine wpAny_ready (rs := [1, 6]) (by kernel_rfl) (by simp) ?_
                    refine AllReady.cons rfl (fun K hK => ?_) (AllReady.cons rfl (fun K hK => ?_) AllReady.nil)
                    · go_simp
                      refine hK _ _ ?_
                      clear hK K
                      refine wpAny_ready (rs := [6]) (by kernel_rfl) (by simp) ?_
                      refine AllReady.cons rfl (fun K hK => ?_) AllReady.nil
                      go_simp
                      refine hK _ _ ?_
                      clear hK K
                      refine wpAny_ready (rs := [7]) (by kernel_rfl) (by simp) ?_
                      refine AllReady.cons rfl (fun K hK => ?_) AllReady.nil
                      refine step_append_lies _ rfl (.tmp 107) (.tmp 112) 22 rfl (w.heap.size + 1 + 1) 24 i24 _ 2 40 Try.underlying22 hi24 hz0 hz1' hz2 rfl (by decide) _ L.length (rowCells L) rfl (ownsRow_below HK3.out.row ((Below.refl _ _).alloc (Nat.le_refl _) _)) ⟨w3.heap.size, 0, none⟩ 1 1 (itCells (y.1, ka', cap', k')) rfl rfl (own_news w3 24 (y.1, ka', cap', k')) (own_one _) (by decide) (by unfold maxLen; omega) (by omega) (by simp; omega) (w3.heap.size + 1) (by simp) ?_
                      intro g cap2 w4 hown hgrow hat hlt4
                      obtain ⟨k0, f0, hK5, hT5, hR5, hO5, hk5⟩ := kids_step (q0 := wr.heap.size) rfl (by omega) hlb htl HK3.out hoffs HTT3.out.t HTT3.out.r hra3 hkw3 ht3 hpl3 hfr3 hown hgrow hat
                      have hra5 : QAt b s q3 0 0 _ := hO5
                      have HK5 := hide hK5
                      have HT5 := hide (TT.mk (w := w) hT5 hR5)
                      have HA5 := hide hra5
                      have HKW5 := hide hk5
                      clear hK5 hT5 hR5 hO5 hra5 hk5 hown hgrow hat ht3 hpl3 hfr3 hra3 hk3 HK3 HTT3 hkw3 t13 t14
                      refine hK _ _ ?_
                      clear hK K
                      simp only [Act.put, List.setIfInBounds_toArray]
                      refine wpAny_ready (rs := [8]) (by kernel_rfl) (by simp) ?_
                      refine AllReady.cons rfl (fun K hK => ?_) AllReady.nil
                      go_simp
                      refine hK _ _ ?_
                      clear hK K
                      refine wpAny_ready (rs := [9]) (by kernel_rfl) (by simp) ?_
                      refine AllReady.cons rfl (fun K hK => ?_) AllReady.nil
                      go_simp
                      refine hK _ _ ?_
                      clear hK K
                      refine wpAny_done (by kernel_rfl) ?_ _
                      go_wp2_with fail
                      refine (qis_any b s q3 0 41 _ HA5.out hq3 (by unfold maxLen; omega)).mono ?_
                      rintro e w6 ⟨y2, q4, rfl, h41, h42, he4, hy40, hy41, hr6, hk6⟩
                      have hT6 := HT5.out.keeps hk6 n1 n0
                      have hK6 := HK5.out.keeps (by omega) hk6
                      have hkw6 := HKW5.out.trans hk6
                      have hq := HQT.out
                      rw [HR3.out] at hq
                      have hbare := (bare_all M').1 (a + 1) (rst s p')
                      rw [hq] at hbare
                      have hb2 : strip y.2 = y.2 := hbare
                      cases y2 with
                      | false =>
                        have HRUN := hide (show rdK m (a + 1) (rst s q2) = (rdK M' (a + 1) (rst s q4)).map (joinS (L ++ [(y.1, ka', cap', k')])) by
                          rw [hrun.out, rdK_more hq (by simpa using he4), hy40 rfl, Rd.map_map]
                          congr 1
                          funext f
                          exact joinS_snoc L y.1 ka' cap' y.2 k' f HST.out hb2)
                        clear hq hbare
                        go_wp2_with fail
                        go_roundg (s.size - q4 + 1)
                        case measure => omega
                        case rel => exact Or.inl ⟨_, _, q4, M', rfl, by omega, h42, hK6, hT6, hr6, hkw6, HRUN, by omega, by omega, by simp; omega⟩
                      | true =>
                        have t0 := hT6.t0
                        have t1 := hT6.t1
                        have r0 := hT6.r0
                        have r1 := hT6.r1
                        have fr := hT6.fr
                        obtain ⟨ka, cap, k2, hv, hend, hkeep⟩ := qtree_told (B := w.heap.size + 1 + 1) (w := w) (wr := w6) (N := m + 1) (a := a) (p := p) (x := x) (L := L ++ [(y.1, ka', cap', k')]) (k := joinS L (.node 0 0 (y.1, none, 0) y.2 .nil)) (by omega) hlb hs hxs (by omega) h42 hK6 hr6 hkw6
                          (by rw [HE.out, hrun.out, rdK_end hq (by simpa using he4)]; rfl) (joinS_snoc L y.1 ka' cap' y.2 k' .nil HST.out hb2).symm
                        have HV := hide hv
                        have HEND := hide hend
                        have HKEEP := hide hkeep
                        clear hq hbare he4 hy40 hy41 hend hkeep hr6 hkw6 hK6 hk6 hT6 hv
                        go_wp2_with fail
                        refine bodyPost_ret (v := .agg #[.string x, .slice (some ⟨g, 0, none⟩) (L.length + 1) cap2]) (by simp [results, Try.results53, go_sem, *]) rfl ⟨?_, HKEEP.out⟩
                        have hend := HEND.out
                        rw [← HV.out] at hend
                        exact hend
                    · go_simp
                      refine hK _ _ ?_
                      clear hK K
                      refine wpAny_ready (rs := [1]) (by kernel_rfl) (by simp) ?_
                      refine AllReady.cons rfl (fun K hK => ?_) AllReady.nil
                      go_simp
                      refine hK _ _ ?_
                      clear hK K
                      refine wpAny_ready (rs := [7]) (by kernel_rfl) (by simp) ?_
                      refine AllReady.cons rfl (fun K hK => ?_) AllReady.nil
                      refine step_append_lies _ rfl (.tmp 107) (.tmp 112) 22 rfl (w.heap.size + 1 + 1) 24 i24 _ 2 40 Try.underlying22 hi24 hz0 hz1' hz2 rfl (by decide) _ L.length (rowCells L) rfl (ownsRow_below HK3.out.row ((Below.refl _ _).alloc (Nat.le_refl _) _)) ⟨w3.heap.size, 0, none⟩ 1 1 (itCells (y.1, ka', cap', k')) rfl rfl (own_news w3 24 (y.1, ka', cap', k')) (own_one _) (by decide) (by unfold maxLen; omega) (by omega) (by simp; omega) (w3.heap.size + 1) (by simp) ?_
                      intro g cap2 w4 hown hgrow hat hlt4
                      obtain ⟨k0, f0, hK5, hT5, hR5, hO5, hk5⟩ := kids_step (q0 := wr.heap.size) rfl (by omega) hlb htl HK3.out hoffs HTT3.out.t HTT3.out.r hra3 hkw3 ht3 hpl3 hfr3 hown hgrow hat
                      have hra5 : QAt b s q3 0 0 _ := hO5
                      have HK5 := hide hK5
                      have HT5 := hide (TT.mk (w := w) hT5 hR5)
                      have HA5 := hide hra5
                      have HKW5 := hide hk5
                      clear hK5 hT5 hR5 hO5 hra5 hk5 hown hgrow hat ht3 hpl3 hfr3 hra3 hk3 HK3 HTT3 hkw3 t13 t14
                      refine hK _ _ ?_
                      clear hK K
                      simp only [Act.put, List.setIfInBounds_toArray]
                      refine wpAny_ready (rs := [8]) (by kernel_rfl) (by simp) ?_
                      refine AllReady.cons rfl (fun K hK => ?_) AllReady.nil
                      go_simp
                      refine hK _ _ ?_
                      clear hK K
                      refine wpAny_ready (rs := [9]) (by kernel_rfl) (by simp) ?_
                      refine AllReady.cons rfl (fun K hK => ?_) AllReady.nil
                      go_simp
                      refine hK _ _ ?_
                      clear hK K
                      refine wpAny_done (by kernel_rfl) ?_ _
                      go_wp2_with fail
                      refine (qis_any b s q3 0 41 _ HA5.out hq3 (by unfold maxLen; omega)).mono ?_
                      rintro e w6 ⟨y2, q4, rfl, h41, h42, he4, hy40, hy41, hr6, hk6⟩
                      have hT6 := HT5.out.keeps hk6 n1 n0
                      have hK6 := HK5.out.keeps (by omega) hk6
                      have hkw6 := HKW5.out.trans hk6
                      have hq := HQT.out
                      rw [HR3.out] at hq
                      have hbare := (bare_all M').1 (a + 1) (rst s p')
                      rw [hq] at hbare
                      have hb2 : strip y.2 = y.2 := hbare
                      cases y2 with
                      | false =>
                        have HRUN := hide (show rdK m (a + 1) (rst s q2) = (rdK M' (a + 1) (rst s q4)).map (joinS (L ++ [(y.1, ka', cap', k')])) by
                          rw [hrun.out, rdK_more hq (by simpa using he4), hy40 rfl, Rd.map_map]
                          congr 1
                          funext f
                          exact joinS_snoc L y.1 ka' cap' y.2 k' f HST.out hb2)
                        clear hq hbare
                        go_wp2_with fail
                        go_roundg (s.size - q4 + 1)
                        case measure => omega
                        case rel => exact Or.inl ⟨_, _, q4, M', rfl, by omega, h42, hK6, hT6, hr6, hkw6, HRUN, by omega, by omega, by simp; omega⟩
                      | true =>
                        have t0 := hT6.t0
                        have t1 := hT6.t1
                        have r0 := hT6.r0
                        have r1 := hT6.r1
                        have fr := hT6.fr
                        obtain ⟨ka, cap, k2, hv, hend, hkeep⟩ := qtree_told (B := w.heap.size + 1 + 1) (w := w) (wr := w6) (N := m + 1) (a := a) (p := p) (x := x) (L := L ++ [(y.1, ka', cap', k')]) (k := joinS L (.node 0 0 (y.1, none, 0) y.2 .nil)) (by omega) hlb hs hxs (by omega) h42 hK6 hr6 hkw6
                          (by rw [HE.out, hrun.out, rdK_end hq (by simpa using he4)]; rfl) (joinS_snoc L y.1 ka' cap' y.2 k' .nil HST.out hb2).symm
                        have HV := hide hv
                        have HEND := hide hend
                        have HKEEP := hide hkeep
                        clear hq hbare he4 hy40 hy41 hend hkeep hr6 hkw6 hK6 hk6 hT6 hv
                        go_wp2_with fail
                        refine bodyPost_ret (v := .agg #[.string x, .slice (some ⟨g, 0, none⟩) (L.length + 1) cap2]) (by simp [results, Try.results53, go_sem, *]) rfl ⟨?_, HKEEP.out⟩
                        have hend := HEND.out
                        rw [← HV.out] at hend
                        exact hend
              · have c2 := hra.c2
                have hcb : ((c : Int) == 0) = false := beq_eq_false_iff_ne.2 (by omega)
                have t0 := hTT.t0
                have t1 := hTT.t1
                have r0 := hTT.r0
                have r1 := hTT.r1
                have fr := hTT.fr
                have HEND := hide (qbad_told (x0 := x) (a0 := a0) (k0 := k0) (c0 := c0) hlb hq' hc hra hkk hrun.out)
                clear hra hTT hkk hrun
                go_wp2_with fail
                refine bodyPost_ret (v := .agg #[.string x, .slice a0 (flen k0) c0]) (by simp [results, Try.results53, go_sem, *]) rfl HEND.out
      clear hK
      go_loopg [] (s.size - q) (fun gk wr => ∃ j : Nat, gk = s.size - j ∧ q ≤ j ∧ j ≤ s.size ∧ Hid (Letters s q j) ∧ QAt b s j 0 0 wr ∧ TT w (w.heap.size + 1) (s.extract q j) (.slice none 0 0) wr ∧ Keeps [b] w wr)
      case atStart => exact ⟨q, rfl, Nat.le_refl _, hq2, letters_start _ _, hr1, by rw [show s.extract q q = (⟨#[]⟩ : ByteArray) by simp; rfl]; exact hT1, hK1⟩
      case round =>
        obtain ⟨j, hgk, hj1, hj2, hsk, hr2, hT2, hK2⟩ := hrel
        have HC := hide hcut
        clear hr1 hT1 hK1 hcut
        have c0 := hr2.c0
        have c1 := hr2.c1
        have c2 := hr2.c2
        have t0 := hT2.t0
        by_cases hlt : j < s.size
        · by_cases h97 : 97 ≤ (s[j].toNat : Int)
          · have d97 : decide (97 ≤ (s[j].toNat : Int)) = true := decide_eq_true h97
            by_cases h122 : (s[j].toNat : Int) ≤ 122
            · have d122 : decide ((s[j].toNat : Int) ≤ 122) = true := decide_eq_true h122
              have HB := hide (letters_step hsk.out hj1 hlt (okByte_yes h97 h122))
              go_wp2_with fail
              go_quiet (fail)
              go_wp2_with fail
              clear c0 c1 c2 t0
              have hr3 := hr2.below (below_drewN (Below.refl _ _) nq)
              have hT3 := hT2.keeps (Keeps.of_below (C := [b]) (below_drewN (Below.refl _ _) nq)) n1 n0
              have hK3 := hK2.drawn nq
              generalize wr.drewN nq = w3 at hr3 hT3 hK3 ⊢
              clear hr2 hT2 hK2
              have c0 := hr3.c0
              have c1 := hr3.c1
              have c2 := hr3.c2
              have t0 := hT3.t0
              have fz := hr3.fz 1
              have ft := hT3.ft 0
              have hw1 : IntKind.i64.wrap ((j : Int) + 1) = (j : Int) + 1 := by rw [IntKind.wrap_i64]; omega
              have hx1 : (j : Int) + 1 ≤ (s.size : Int) := by omega
              have hx0 : (0 : Int) ≤ (j : Int) := by omega
              have hx2 : (0 : Int) ≤ (j : Int) + 1 := by omega
              have hx3 : (j : Int) ≤ (j : Int) + 1 := by omega
              refine wp_region_held_drew (S := fun w' => w'.cell? ⟨b, 0, none⟩ = some (.string s) ∧ w'.cell? ⟨b, 1, none⟩ = some (.int .i64 j)) (by kernel_rfl) ⟨c0, c1⟩ (fun hHeld => ?_)
              refine wpAnyH_take (i := 0) (v := .pointer (some ⟨w.heap.size + 1, 0, none⟩)) rfl (by kernel_rfl) (by kernel_rfl) (by kernel_rfl) (fun _ _ _ h => h) (Or.inl ⟨by rfl, by intro w hSw; go_simp⟩) (by assumption) ?_
              refine wpAnyH_take (i := 2) (v := .pointer (some ⟨b, 0, none⟩)) rfl (by kernel_rfl) (by kernel_rfl) (by kernel_rfl) (fun _ _ _ h => h) (Or.inl ⟨by rfl, by intro w hSw; go_simp⟩) (by assumption) ?_
              refine wpAnyH_take (i := 3) (v := .pointer (some ⟨b, 0, none⟩)) rfl (by kernel_rfl) (by kernel_rfl) (by kernel_rfl) (fun _ _ _ h => h) (Or.inl ⟨by rfl, by intro w hSw; go_simp⟩) (by assumption) ?_
              refine wpAnyH_take (i := 4) (v := .pointer (some ⟨b, 0, none⟩)) rfl (by kernel_rfl) (by kernel_rfl) (by kernel_rfl) (fun _ _ _ h => h) (Or.inl ⟨by rfl, by intro w hSw; go_simp⟩) (by assumption) ?_
              refine wpAnyH_take (i := 5) (v := .string s) rfl (by kernel_rfl) (by kernel_rfl) (by kernel_rfl) (fun _ _ _ h => h) (Or.inl ⟨by rfl, by intro w hSw; go_simp⟩) (by assumption) ?_
              refine wpAnyH_take (i := 6) (v := .pointer (some ⟨b, 0, none⟩)) rfl (by kernel_rfl) (by kernel_rfl) (by kernel_rfl) (fun _ _ _ h => h) (Or.inl ⟨by rfl, by intro w hSw; go_simp⟩) (by assumption) ?_
              refine wpAnyH_take (i := 7) (v := .pointer (some ⟨b, 0, none⟩)) rfl (by kernel_rfl) (by kernel_rfl) (by kernel_rfl) (fun _ _ _ h => h) (Or.inl ⟨by rfl, by intro w hSw; go_simp⟩) (by assumption) ?_
              refine wpAnyH_take (i := 8) (v := .pointer (some ⟨b, 1, none⟩)) rfl (by kernel_rfl) (by kernel_rfl) (by kernel_rfl) (fun _ _ _ h => h) (Or.inl ⟨by rfl, by intro w hSw; go_simp⟩) (by assumption) ?_
              refine wpAnyH_take (i := 9) (v := .int .i64 j) rfl (by kernel_rfl) (by kernel_rfl) (by kernel_rfl) (fun _ _ _ h => h) (Or.inl ⟨by rfl, by intro w hSw; go_simp⟩) (by assumption) ?_
              refine wpAnyH_take (i := 10) (v := .pointer (some ⟨b, 0, none⟩)) rfl (by kernel_rfl) (by kernel_rfl) (by kernel_rfl) (fun _ _ _ h => h) (Or.inl ⟨by rfl, by intro w hSw; go_simp⟩) (by assumption) ?_
              refine wpAnyH_take (i := 11) (v := .pointer (some ⟨b, 0, none⟩)) rfl (by kernel_rfl) (by kernel_rfl) (by kernel_rfl) (fun _ _ _ h => h) (Or.inl ⟨by rfl, by intro w hSw; go_simp⟩) (by assumption) ?_
              refine wpAnyH_take (i := 12) (v := .pointer (some ⟨b, 1, none⟩)) rfl (by kernel_rfl) (by kernel_rfl) (by kernel_rfl) (fun _ _ _ h => h) (Or.inl ⟨by rfl, by intro w hSw; go_simp⟩) (by assumption) ?_
              refine wpAnyH_take (i := 13) (v := .int .i64 j) rfl (by kernel_rfl) (by kernel_rfl) (by kernel_rfl) (fun _ _ _ h => h) (Or.inl ⟨by rfl, by intro w hSw; go_simp⟩) (by assumption) ?_
              refine wpAnyH_take (i := 14) (v := .int .i64 ((j : Int) + 1)) rfl (by kernel_rfl) (by kernel_rfl) (by kernel_rfl) (fun _ _ _ h => h) (Or.inl ⟨by rfl, by intro w hSw; go_simp⟩) (by assumption) ?_
              refine wpAnyH_take (i := 15) (v := .string (s.extract j (j + 1))) rfl (by kernel_rfl) (by kernel_rfl) (by kernel_rfl) (fun _ _ _ h => h) (Or.inl ⟨by rfl, by intro w hSw; go_simp⟩) (by assumption) ?_
              simp only [Act.put, List.setIfInBounds_toArray]
              refine wpAnyH_ready (rs := [1]) (by kernel_rfl) (by simp) ?_
              refine AllReadyH.cons rfl (fun K hK => ?_) AllReadyH.nil
              go_simp
              refine hK.out _ _ ⟨c0, c1⟩ (fun hHeld => ?_)
              clear hK K
              refine wpAnyH_ready (rs := [16]) (by kernel_rfl) (by simp) ?_
              refine AllReadyH.cons rfl (fun K hK => ?_) AllReadyH.nil
              go_simp
              go_wp2_with fail
              refine hK.out _ _ ⟨c0, c1⟩ (fun hHeld => ?_)
              clear hK K
              refine wpAnyH_ready (rs := [17]) (by kernel_rfl) (by simp) ?_
              refine AllReadyH.cons rfl (fun K hK => ?_) AllReadyH.nil
              go_simp
              refine hK.out _ _ ⟨c0, c1⟩ (fun hHeld => ?_)
              clear hK K
              refine wpAnyH_ready (rs := [18]) (by kernel_rfl) (by simp) ?_
              refine AllReadyH.cons rfl (fun K hK => ?_) AllReadyH.nil
              go_simp
              refine hK.out _ _ ⟨by go_simp, by go_simp⟩ (fun hHeld => ?_)
              clear hK K
              refine wpAnyH_done (by kernel_rfl) ?_ _
              go_wp2_with fail
              obtain ⟨hr4, hT4, hK4⟩ := letter_step (y := s.extract q (j + 1)) hr3 hT3 hK3 n1 (by omega)
              go_roundg (s.size - (j + 1))
              case measure => omega
              case rel => exact ⟨j + 1, rfl, by omega, by omega, HB, hr4, hT4, hK4⟩
            · have d122 : decide ((s[j].toNat : Int) ≤ 122) = false := decide_eq_false h122
              go_wp2_with fail
              go_quiet (fail)
              go_wp2_with fail
              clear c0 c1 c2 t0
              have hr3 := hr2.below (below_drewN (Below.refl _ _) nq)
              have hT3 := hT2.keeps (Keeps.of_below (C := [b]) (below_drewN (Below.refl _ _) nq)) n1 n0
              have hK3 := hK2.drawn nq
              generalize wr.drewN nq = w3 at hr3 hT3 hK3 ⊢
              clear hr2 hT2 hK2
              exact HC.out _ _ _ _ _ _ _ _ _ _ _ _ _ _ _ _ _ _ _ _ _ _ _ _ _ _ _ _ _ _ _ _ _ _ _ _ _ _ _ _ _ _ _ _ _ _ _ _ _ _ _ _ _ _ _ _ _ _ _ _ _ _ _ _ _ _ _ j w3 hj1 hj2 hsk (fun _ => okByte_high (by omega)) hr3 hT3 hK3
          · have d97 : decide (97 ≤ (s[j].toNat : Int)) = false := decide_eq_false h97
            go_wp2_with fail
            go_quiet (fail)
            go_wp2_with fail
            clear c0 c1 c2 t0
            have hr3 := hr2.below (below_drewN (Below.refl _ _) nq)
            have hT3 := hT2.keeps (Keeps.of_below (C := [b]) (below_drewN (Below.refl _ _) nq)) n1 n0
            have hK3 := hK2.drawn nq
            generalize wr.drewN nq = w3 at hr3 hT3 hK3 ⊢
            clear hr2 hT2 hK2
            exact HC.out _ _ _ _ _ _ _ _ _ _ _ _ _ _ _ _ _ _ _ _ _ _ _ _ _ _ _ _ _ _ _ _ _ _ _ _ _ _ _ _ _ _ _ _ _ _ _ _ _ _ _ _ _ _ _ _ _ _ _ _ _ _ _ _ _ _ _ j w3 hj1 hj2 hsk (fun _ => okByte_low (by omega)) hr3 hT3 hK3
        · go_wp2_with fail
          go_quiet (fail)
          go_wp2_with fail
          clear c0 c1 c2 t0
          have hr3 := hr2.below (below_drewN (Below.refl _ _) nq)
          have hT3 := hT2.keeps (Keeps.of_below (C := [b]) (below_drewN (Below.refl _ _) nq)) n1 n0
          have hK3 := hK2.drawn nq
          generalize wr.drewN nq = w3 at hr3 hT3 hK3 ⊢
          clear hr2 hT2 hK2
          exact HC.out _ _ _ _ _ _ _ _ _ _ _ _ _ _ _ _ _ _ _ _ _ _ _ _ _ _ _ _ _ _ _ _ _ _ _ _ _ _ _ _ _ _ _ _ _ _ _ _ _ _ _ _ _ _ _ _ _ _ _ _ _ _ _ _ _ _ _ j w3 hj1 hj2 hsk (fun h => absurd h hlt) hr3 hT3 hK3
end Go.Proofs.Ytafojlockiekfaa
