/- order.Of tells the nodes of a tree, or the code of tree.Check. Of the program's text. -/
/- order.Tree tells the tree of nodes that are a tree's, and a code of all others. Of the program's text. -/
/- order.ahead counts the nodes ahead that have the same parent. Of the program's text. -/
import Derived.Test.YtcknganggcbkjabProg
import Derived.Test.YtcknganggcbkjabGS15
import Derived.Test.YtcknganggcbkjabGS04
import Derived.Test.YtcknganggcbkjabGS16
import Derived.Test.YtcknganggcbkjabGS13
import Derived.Test.YtcknganggcbkjabGS14
import Derived.Deep.RegionHeld3
import Derived.Deep.QuietTactic
import Derived.BigQuiet
import Derived.WalkSmall
namespace Go.Proofs.Ytcknganggcbkjab
open Go.Deep Go.RowKit
set_option linter.unusedVariables false
set_option maxRecDepth 20000

/-- What Of comes to, where Check may tell the codes of P. -/
def OfEnd (P : Int → Prop) (s : ByteArray) (k : Fo) (B : Nat) (e : Ending) (w' : World) : Prop :=
  (∃ c, P c ∧ c ≠ 0 ∧ e = .returned (.tuple #[.slice none 0 0, .int .i64 c])) ∨
  (P 0 ∧ ∃ v, e = .returned (.tuple #[v, .int .i64 0]) ∧ w'.ownsRow B 35 3 v (fnodes k + 1) (ndCells (ndT 0 s k (-1))))

set_option maxHeartbeats 1000000 in
theorem of_of (P : Int → Prop) (s : ByteArray) (ka : Option Addr) (cap : Nat) (k : Fo) (w : World) (ht : TIn w s ka cap k) (hP : P 0 → faultT s k = 0)
    (hck : ∀ W, Below w.heap.size w W → Calls Try.prog 33 #[.agg #[.string s, .slice ka (flen k) cap]] W fun e w' => (∃ c, P c ∧ e = .returned (.int .i64 c)) ∧ Below W.heap.size W w') :
    Calls Try.prog 43 #[.agg #[.string s, .slice ka (flen k) cap]] w fun e w' => OfEnd P s k w.heap.size e w' ∧ Below w.heap.size w w' := by
  have hbx : Below w.heap.size w (w.alloc (Obj.cells #[Value.string s, Value.slice ka (flen k) cap] 24)) := (Below.refl _ _).alloc (Nat.le_refl _) _
  have HC := hide (hck _ hbx)
  clear hck
  go_enter Try.func43, Try.ntmps43
  go_wp2_with fail
  refine Calls.mono HC.out ?_
  rintro e w1 ⟨⟨c, hpc, rfl⟩, hb1⟩
  have hB1 := hbx.trans (hb1.mono (by simp))
  have e0 : w1.cell? ⟨w.heap.size, 0, none⟩ = some (.string s) := by rw [hb1.cell (by simp)]; go_simp
  have e1 : w1.cell? ⟨w.heap.size, 1, none⟩ = some (.slice ka (flen k) cap) := by rw [hb1.cell (by simp)]; go_simp
  clear hb1 hbx HC
  by_cases h0 : c = 0
  · subst h0
    have hf := hP hpc
    obtain ⟨hn, _, hbad⟩ := fault_zero hf
    have HA := hide (adds_N w (fnodes k + 1) k (by omega) s ka cap [] 0 (.slice none 0 0) w1 rfl ht hbad hB1 ⟨rfl, Or.inl ⟨rfl, rfl⟩⟩ (by omega))
    clear hf hbad hP
    go_wp2_with fail
    refine Calls.mono HA.out ?_
    rintro e w2 ⟨v', rfl, hrow, hg, _⟩
    have hB2 : Below w.heap.size w w2 := hB1.grown hg hB1.size (fun g h => by cases h)
    obtain ⟨va, vc, rfl, _, _⟩ := ownsN_form hrow
    have HR := hide hrow
    clear hrow hg HA
    go_wp2_with fail
    refine bodyPost_ret (v := .tuple #[.slice va (0 + fnodes k + 1) vc, .int .i64 0]) (by simp [results, Try.results43, go_sem]) rfl ⟨Or.inr ⟨hpc, _, rfl, ?_⟩, hB2⟩
    have := HR.out
    simpa using this
  · have hcb : (c == 0) = false := beq_eq_false_iff_ne.2 h0
    go_wp2_with fail
    exact bodyPost_ret (v := .tuple #[.slice none 0 0, .int .i64 c]) (by simp [results, Try.results43, go_sem]) rfl ⟨Or.inl ⟨c, hpc, h0, rfl⟩, hB1⟩

end Go.Proofs.Ytcknganggcbkjab
namespace Go.Proofs.Ytcknganggcbkjab
open Go.Deep Go.RowKit
set_option linter.unusedVariables false
set_option maxRecDepth 20000

theorem small_of_bad : ∀ k : Fo, badF k = false → SmallF k
  | .nil, _ => trivial
  | .node _ _ x k r, h => by
    simp only [badF, Bool.or_eq_false_iff, Bool.not_eq_false'] at h
    have := (labelB_size h.1.1).2
    exact ⟨by omega, small_of_bad k h.1.2, small_of_bad r h.2⟩
theorem NIn_of_owns {w : World} {B T : Nat} {va : Option Addr} {n vc : Nat} {L : List Nd} (h : w.ownsRow B T 3 (.slice va n vc) n (ndCells L)) (hl : ∀ x, x ∈ L → x.lab.size ≤ 6) : NIn w va L := by
  rcases h.2 with ⟨hv, h0⟩ | ⟨g, cap, cur, hv, _⟩
  · left
    have := h.1
    rw [ndCells_length] at this
    exact List.eq_nil_of_length_eq_zero (by omega)
  · right
    injection hv with h1 h2 h3
    subst h1
    refine ⟨g, 0, rfl, fun i x hx => ?_⟩
    obtain ⟨c0, c1, c2⟩ := ndCells_at L i x hx
    have hc : w.ownsRow B T 3 (.slice (some ⟨g, 0, none⟩) n vc) n (ndCells L) := h
    have := hl x (List.mem_of_getElem? hx)
    exact ⟨ownsRow_cell hc _ _ c0, by have := ownsRow_cell hc _ _ c1; rwa [← Nat.add_assoc] at this, by have := ownsRow_cell hc _ _ c2; rwa [← Nat.add_assoc] at this, by unfold maxLen; omega⟩

def OTreeEnd (L : List Nd) (e : Ending) (w' : World) : Prop :=
  (∃ c, c ≠ 0 ∧ (∀ s k, ¬ TOk L s k) ∧ e = .returned (.tuple #[.agg #[.string ⟨#[]⟩, .slice none 0 0], .int .i64 c])) ∨
  (∃ s ka cap k, TOk L s (strip k) ∧ e = .returned (.tuple #[.agg #[.string s, .slice ka (flen k) cap], .int .i64 0]) ∧ TIn w' s ka cap k ∧ FPlain w' k)

set_option maxHeartbeats 2000000 in
theorem otree_any (la : Option Addr) (lc : Nat) (L : List Nd) (w : World) (hL : NIn w la L) (h100 : L.length ≤ 100000) (hlc : L.length ≤ lc) (hlm : lc ≤ maxLen) :
    Calls Try.prog 106 #[.slice la L.length lc] w fun e w' => OTreeEnd L e w' ∧ Below w.heap.size w w' := by
  have hlm' := hlm
  unfold maxLen at hlm
  have hb0 : Below w.heap.size w (w.alloc (Obj.cells #[Value.string ⟨#[]⟩, Value.slice none 0 0] 24)) := (Below.refl _ _).alloc (Nat.le_refl _) _
  by_cases h0 : L.length = 0
  · have hbb : ((L.length : Int) == 0) = true := beq_iff_eq.2 (by omega)
    have HNO := hide (show ∀ s k, ¬ TOk L s k from fun s k h => by have := h.len; omega)
    clear h0
    go_enter Try.func106, Try.ntmps106
    go_wp2_with fail
    refine bodyPost_ret (v := .tuple #[.agg #[.string ⟨#[]⟩, .slice none 0 0], .int .i64 7]) (by simp [results, Try.results106, go_sem, *]) rfl ⟨Or.inl ⟨7, by decide, HNO.out, rfl⟩, ?_⟩
    exact hb0
  · have hbb : ((L.length : Int) == 0) = false := beq_eq_false_iff_ne.2 (by omega)
    by_cases h40 : 40 < L.length
    · have HNO := hide (show ∀ s k, ¬ TOk L s k from fun s k h => by have := h.len; omega)
      have hd : decide (40 < (L.length : Int)) = true := decide_eq_true (by omega)
      clear h40 h0
      go_enter Try.func106, Try.ntmps106
      go_wp2_with fail
      refine bodyPost_ret (v := .tuple #[.agg #[.string ⟨#[]⟩, .slice none 0 0], .int .i64 2]) (by simp [results, Try.results106, go_sem, *]) rfl ⟨Or.inl ⟨2, by decide, HNO.out, rfl⟩, ?_⟩
      exact hb0
    · have hd : decide (40 < (L.length : Int)) = false := decide_eq_false (by omega)
      have HGR := hide (grow_any la lc L _ (hL.below hb0) (by omega) (by omega) hlc hlm')
      go_enter Try.func106, Try.ntmps106
      go_wp2_with fail
      refine Calls.mono HGR.out ?_
      rintro e w1 ⟨hge, hb1⟩
      have hB1 := hb0.trans (hb1.mono (by simp))
      have hz1 : w.heap.size < w1.heap.size := by have := hb1.size; simp at this; omega
      have hR1 : w1.heap[w.heap.size]? = some (Obj.cells #[Value.string ⟨#[]⟩, Value.slice none 0 0] 24) := by rw [hb1.block _ (by simp)]; exact heap_alloc_new _ _
      clear HGR hb1 hb0
      rcases hge with ⟨hno, rfl⟩ | ⟨x, k, ka, cap, k', hgr, rfl, hst, ht, hpl⟩
      · have HNO := hide (show ∀ s k, ¬ TOk L s k from fun s k h => by have := h.1; rw [hno] at this; cases this)
        have hB2 : Below w.heap.size w (w1.alloc (Obj.cells #[Value.string ⟨#[]⟩, Value.slice none 0 0] 24)) := hB1.alloc (by omega) _
        have r0 : w1.cell? ⟨w.heap.size, 0, none⟩ = some (.string ⟨#[]⟩) := by rw [cell_of_row _ _ 0 _ _ _ hR1]; rfl
        have r1 : w1.cell? ⟨w.heap.size, 1, none⟩ = some (.slice none 0 0) := by rw [cell_of_row _ _ 1 _ _ _ hR1]; rfl
        have rf : ∀ o, w1.frozen? ⟨w.heap.size, o, none⟩ = false := fun o => by simp [World.frozen?, hR1]
        have f0 : (w1.alloc (Obj.cells #[Value.string ⟨#[]⟩, Value.slice none 0 0] 24)).frozen? ⟨w.heap.size, 0, none⟩ = false := by rw [World.frozen?_alloc_old _ _ _ (Nat.ne_of_lt hz1)]; exact rf 0
        have f1 : ((w1.setCell ⟨w.heap.size, 0, none⟩ (Value.string ⟨#[]⟩)).alloc (Obj.cells #[Value.string ⟨#[]⟩, Value.slice none 0 0] 24)).frozen? ⟨w.heap.size, 1, none⟩ = false := by rw [World.frozen?_alloc_old _ _ _ (by simp [World.setCell]; omega), World.frozen?_setCell]; exact rf 1
        clear hR1
        go_wp2_with fail
        refine bodyPost_ret (v := .tuple #[.agg #[.string ⟨#[]⟩, .slice none 0 0], .int .i64 15]) (by simp [results, Try.results106, go_sem, *]) rfl ⟨Or.inl ⟨15, by decide, HNO.out, rfl⟩, ?_⟩
        first
          | exact (hB2.setCell (by simp) _).setCell (by simp) _
          | exact ((hB1.setCell (by simp) _).setCell (by simp) _).alloc (by simp [World.setCell]; omega) _
      · have hnn : fnodes k' + 1 = L.length := by rw [← fnodes_strip, hst]; exact growP_nodes hgr
        have hbx : Below w1.heap.size w1 (w1.alloc (Obj.cells #[Value.string x, Value.slice ka (flen k') cap] 24)) := (Below.refl _ _).alloc (Nat.le_refl _) _
        have hof := of_of (fun c => c = faultT x k') x ka cap k' _ (ht.below hbx) (fun h => h.symm) (fun W hW => by
          refine (check_any x ka cap k' W ((ht.below hbx).below hW) ((hpl.below hbx).below hW) (by omega)).mono ?_
          rintro e w' ⟨rfl, hb⟩
          exact ⟨⟨_, rfl, rfl⟩, hb⟩)
        have HOF := hide hof
        have HGP := hide (show growP L = some (x, strip k') by rw [hst]; exact hgr)
        have hmn : fnodes k' + 1 ≤ 40 := by omega
        clear hof hgr hst hnn
        go_wp2_with fail
        refine Calls.mono HOF.out ?_
        rintro e w2 ⟨hoe, hb2⟩
        have hB12 := hbx.trans (hb2.mono (by simp))
        have hB2 := hB1.trans (hB12.mono hB1.size)
        have hz2 : w1.heap.size < w2.heap.size := by have := hb2.size; simp at this; omega
        have hR2 := (hB12.block w.heap.size hz1).trans hR1
        have t0 : w2.cell? ⟨w1.heap.size, 0, none⟩ = some (.string x) := by rw [hb2.cell (by simp)]; go_simp
        have t1 : w2.cell? ⟨w1.heap.size, 1, none⟩ = some (.slice ka (flen k') cap) := by rw [hb2.cell (by simp)]; go_simp
        have r0 : w2.cell? ⟨w.heap.size, 0, none⟩ = some (.string ⟨#[]⟩) := by rw [cell_of_row _ _ 0 _ _ _ hR2]; rfl
        have r1 : w2.cell? ⟨w.heap.size, 1, none⟩ = some (.slice none 0 0) := by rw [cell_of_row _ _ 1 _ _ _ hR2]; rfl
        have rf : ∀ o, w2.frozen? ⟨w.heap.size, o, none⟩ = false := fun o => by simp [World.frozen?, hR2]
        have ht2 := ht.below hB12
        have hpl2 := hpl.below hB12
        have HR2 := hide hR2
        clear HOF hb2 hbx hB12 ht hpl hB1 hR1 hR2
        rcases hoe with ⟨c, hc, hc0, rfl⟩ | ⟨hc, v, rfl, hrow⟩
        · have hcb : (c == 0) = false := beq_eq_false_iff_ne.2 hc0
          have HNO := hide (show ∀ s k, ¬ TOk L s k from fun s k h => by
            have h1 := h.1
            rw [HGP.out] at h1
            simp only [Option.some.injEq, Prod.mk.injEq] at h1
            have h2 := h.2.1
            rw [← h1.1, ← h1.2, faultT_strip] at h2
            exact hc0 (hc.trans h2))
          clear hc
          go_wp2_with fail
          refine bodyPost_ret (v := .tuple #[.agg #[.string ⟨#[]⟩, .slice none 0 0], .int .i64 15]) (by simp [results, Try.results106, go_sem, *]) rfl ⟨Or.inl ⟨15, by decide, HNO.out, rfl⟩, ?_⟩
          exact (hB2.setCell (by simp) _).setCell (by simp) _
        · have hf0 : faultT x k' = 0 := hc.symm
          obtain ⟨_, _, hbad⟩ := fault_zero hf0
          obtain ⟨va, vc, rfl, hvl, hvm⟩ := ownsN_form hrow
          have hN := NIn_of_owns hrow (ndT_labs hbad)
          have heq := eqN_any va la vc lc (ndT 0 x k' (-1)) L w2 hN (hL.below hB2) (by rw [ndT_length]; omega) (by unfold maxLen; omega)
          rw [ndT_length] at heq
          have HEQ := hide heq
          obtain ⟨hxs, hbf⟩ := badT_small hbad
          have HSM := hide (small_of_bad k' hbf)
          clear heq hN hrow hbad hbf hc
          unfold maxLen at hvm
          by_cases hsame : ndT 0 x k' (-1) = L
          · have hds : decide (ndT 0 x k' (-1) = L) = true := decide_eq_true hsame
            rw [hds] at HEQ
            have HOKK := hide (show TOk L x (strip k') from ⟨HGP.out, by rw [faultT_strip]; exact hf0, by rw [ndT_strip]; exact hsame⟩)
            clear hds hsame hf0
            go_wp2_with fail
            refine Calls.mono HEQ.out ?_
            rintro e w3 ⟨rfl, hb3⟩
            have hB3 := hB2.trans (hb3.mono hB2.size)
            have t0' := by have := hb3.cell (p := ⟨w1.heap.size, 0, none⟩) hz2; rw [t0] at this; exact this
            have t1' := by have := hb3.cell (p := ⟨w1.heap.size, 1, none⟩) hz2; rw [t1] at this; exact this
            have hown := own_any x ka cap k' w3 (ht2.below hb3) (hpl2.below hb3) (by omega) (by omega) HSM.out
            have HOW := hide hown
            have hR3 := (hb3.block w.heap.size (by omega)).trans HR2.out
            have HR3 := hide hR3
            clear hown t0 t1 r0 r1 rf HEQ HR2 hR3
            go_wp2_with fail
            refine Calls.mono HOW.out ?_
            rintro e w4 ⟨ka4, cap4, k4, rfl, hst4, ht4, hfr4, hpl4, hb4⟩
            have hz3 := hb3.size
            have hB4 := hB3.trans (hb4.mono hB3.size)
            have hR4 := (hb4.block w.heap.size (by omega)).trans HR3.out
            have r0 : w4.cell? ⟨w.heap.size, 0, none⟩ = some (.string ⟨#[]⟩) := by rw [cell_of_row _ _ 0 _ _ _ hR4]; rfl
            have r1 : w4.cell? ⟨w.heap.size, 1, none⟩ = some (.slice none 0 0) := by rw [cell_of_row _ _ 1 _ _ _ hR4]; rfl
            have rf : ∀ o, w4.frozen? ⟨w.heap.size, o, none⟩ = false := fun o => by simp [World.frozen?, hR4]
            have HST4 := hide hst4
            have hoff : FOff w.heap.size k4 := hfr4.off (by have := hb3.size; omega)
            clear hst4 hR4 HOW
            go_wp2_with fail
            have hbs : ∀ c, c < w4.heap.size → c ≠ w.heap.size → ((w4.setCell ⟨w.heap.size, 0, none⟩ (Value.string x)).setCell ⟨w.heap.size, 1, none⟩ (Value.slice ka4 (flen k4) cap4)).heap[c]? = w4.heap[c]? := fun c _ hc => by
              rw [Below.heap_setCell _ _ _ _ hc, Below.heap_setCell _ _ _ _ hc]
            refine bodyPost_ret (v := .tuple #[.agg #[.string x, .slice ka4 (flen k4) cap4], .int .i64 0]) (by simp [results, Try.results106, go_sem, *]) rfl ⟨Or.inr ⟨x, ka4, cap4, k4, by rw [HST4.out]; exact HOKK.out, rfl, TIn.but hbs hoff ht4, FPlain.but hbs hoff hpl4⟩, ?_⟩
            exact (hB4.setCell (by simp) _).setCell (by simp) _
          · have hds : decide (ndT 0 x k' (-1) = L) = false := decide_eq_false hsame
            rw [hds] at HEQ
            have HNO := hide (show ∀ s k, ¬ TOk L s k from fun s k h => by
              have h1 := h.1
              rw [HGP.out] at h1
              simp only [Option.some.injEq, Prod.mk.injEq] at h1
              have h2 := h.2.2
              rw [← h1.1, ← h1.2, ndT_strip] at h2
              exact hsame h2)
            clear hds hsame hf0
            go_wp2_with fail
            refine Calls.mono HEQ.out ?_
            rintro e w3 ⟨rfl, hb3⟩
            have hB3 := hB2.trans (hb3.mono hB2.size)
            have hR3 := (hb3.block w.heap.size (by omega)).trans HR2.out
            have r03 : w3.cell? ⟨w.heap.size, 0, none⟩ = some (.string ⟨#[]⟩) := by rw [cell_of_row _ _ 0 _ _ _ hR3]; rfl
            have r13 : w3.cell? ⟨w.heap.size, 1, none⟩ = some (.slice none 0 0) := by rw [cell_of_row _ _ 1 _ _ _ hR3]; rfl
            have rf3 : ∀ o, w3.frozen? ⟨w.heap.size, o, none⟩ = false := fun o => by simp [World.frozen?, hR3]
            clear hR3 HEQ
            go_wp2_with fail
            refine bodyPost_ret (v := .tuple #[.agg #[.string ⟨#[]⟩, .slice none 0 0], .int .i64 15]) (by simp [results, Try.results106, go_sem, *]) rfl ⟨Or.inl ⟨15, by decide, HNO.out, rfl⟩, ?_⟩
            exact (hB3.setCell (by simp) _).setCell (by simp) _
end Go.Proofs.Ytcknganggcbkjab
namespace Go.Proofs.Ytcknganggcbkjab
open Go.Deep Go.RowKit
set_option linter.unusedVariables false
set_option maxRecDepth 20000

/-- How many of the first have that parent. -/
def cnt (p : Int) : List Nd → Nat
  | [] => 0
  | x :: l => (if x.par = p then 1 else 0) + cnt p l
theorem cnt_append (p : Int) : ∀ a b : List Nd, cnt p (a ++ b) = cnt p a + cnt p b
  | [], b => by simp [cnt]
  | x :: a, b => by simp [cnt, cnt_append p a b]; omega
theorem cnt_le (p : Int) : ∀ a : List Nd, cnt p a ≤ a.length
  | [] => Nat.le_refl _
  | x :: a => by
    have := cnt_le p a
    simp only [cnt, List.length_cons]
    split <;> omega

set_option maxHeartbeats 1000000 in
theorem ahead_any (la : Option Addr) (lc : Nat) (L : List Nd) (n : Nat) (x : Nd) (w : World) (hL : NIn w la L) (hx : L[n]? = some x) (h100 : L.length ≤ 100000) (hlc : L.length ≤ lc) (hlm : lc ≤ maxLen) :
    Calls Try.prog 107 #[.slice la L.length lc, .int .i64 (n : Int)] w fun e w' => e = .returned (.int .i64 (cnt x.par (L.take n) : Int)) ∧ Below w.heap.size w w' := by
  unfold maxLen at hlm
  have hlt := (List.getElem?_eq_some_iff.1 hx).1
  rcases hL with rfl | ⟨b, o, rfl, hL⟩
  · simp at hlt
  obtain ⟨x0, x1, x2, _⟩ := hL n x hx
  have hbl : b < w.heap.size := World.block_lt_of_cell? _ _ x0
  go_enter Try.func107, Try.ntmps107
  go_wp2_with fail
  go_loopg [5, 12] n (fun gk v5 v12 wr => ∃ i : Nat, gk = n - i ∧ i ≤ n ∧ v12 = .int .i64 (i : Nat) ∧ v5 = .int .i64 (cnt x.par (L.take i) : Nat) ∧ Below w.heap.size w wr)
  case atStart => exact ⟨0, rfl, Nat.zero_le _, rfl, rfl, Below.refl _ _⟩
  case round =>
    obtain ⟨i, hgk, hi, rfl, rfl, hbr⟩ := hrel
    have hcl := cnt_le x.par (L.take i)
    have htl : (L.take i).length = i := by rw [List.length_take]; omega
    have hcl2 : cnt x.par (L.take i) ≤ 100000 := by omega
    by_cases hin : i < n
    · obtain ⟨y, hy⟩ : ∃ y, L[i]? = some y := ⟨_, List.getElem?_eq_getElem (by omega)⟩
      obtain ⟨y0, y1, y2, _⟩ := hL i y hy
      have y0' : wr.cell? ⟨b, o + i * 3, none⟩ = some (.string y.lab) := by rw [hbr.cell hbl]; exact y0
      have y1' : wr.cell? ⟨b, o + i * 3 + 1, none⟩ = some (.int .i64 y.par) := by rw [hbr.cell hbl]; exact y1
      have y2' : wr.cell? ⟨b, o + i * 3 + 2, none⟩ = some (.int .i64 y.left) := by rw [hbr.cell hbl]; exact y2
      have x1' : wr.cell? ⟨b, o + n * 3 + 1, none⟩ = some (.int .i64 x.par) := by rw [hbr.cell hbl]; exact x1
      have hbz : b < wr.heap.size := Nat.lt_of_lt_of_le hbl hbr.size
      have HC := hide (show cnt x.par (L.take (i + 1)) = cnt x.par (L.take i) + (if y.par = x.par then 1 else 0) by
        rw [List.take_succ_eq_append_getElem (by omega), cnt_append]
        have : L[i]'(by omega) = y := by
          rw [List.getElem?_eq_getElem (by omega)] at hy
          simpa using hy
        rw [this]
        simp [cnt])
      obtain ⟨C, hC⟩ : ∃ C, C = cnt x.par (L.take i) := ⟨_, rfl⟩
      rw [← hC] at HC hcl2 ⊢
      have xa : (wr.alloc (Obj.cells #[Value.string y.lab, Value.int .i64 y.par, Value.int .i64 y.left] 35)).cell? ⟨b, o + n * 3 + 1, none⟩ = some (.int .i64 x.par) := by rw [World.cell?_alloc_some _ _ _ (by rw [x1']; rfl)]; exact x1'
      have hB2 : Below w.heap.size w (wr.alloc (Obj.cells #[Value.string y.lab, Value.int .i64 y.par, Value.int .i64 y.left] 35)) := hbr.alloc hbr.size _
      clear hC hcl htl hy y0 y1 y2 hL
      by_cases he : y.par = x.par
      · have heb : (y.par == x.par) = true := beq_iff_eq.2 he
        have HCE := hide (show cnt x.par (L.take (i + 1)) = C + 1 by rw [HC.out, if_pos he])
        clear he
        go_wp2_with fail
        go_quiet (fail)
        go_wp2_with fail
        go_roundg (n - (i + 1))
        case measure => omega
        case rel => exact ⟨i + 1, rfl, by omega, by go_num, by rw [HCE.out]; go_num, below_drewN hB2 _⟩
      · have heb : (y.par == x.par) = false := beq_eq_false_iff_ne.2 he
        have HCE := hide (show cnt x.par (L.take (i + 1)) = C by rw [HC.out, if_neg he]; rfl)
        clear he
        go_wp2_with fail
        go_quiet (fail)
        go_wp2_with fail
        go_roundg (n - (i + 1))
        case measure => omega
        case rel => exact ⟨i + 1, rfl, by omega, by go_num, by rw [HCE.out], below_drewN hB2 _⟩
    · have hie : i = n := by omega
      subst hie
      go_wp2_with fail
      go_ret
      exact ⟨rfl, hbr⟩
end Go.Proofs.Ytcknganggcbkjab
