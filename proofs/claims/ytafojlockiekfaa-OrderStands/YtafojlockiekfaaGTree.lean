/- The tree that the parents of nodes tell has as many nodes; and what order.Tree tells, of lists alone. Of no program. -/
/- order.Tree tells the tree of nodes that are a tree's, and a code of all others. Of the program's text. -/
import Derived.Test.YtafojlockiekfaaGOrd
import Derived.Test.YtafojlockiekfaaFault
import Derived.Test.YtafojlockiekfaaPrint
import Derived.Test.YtafojlockiekfaaProg
import Derived.Test.YtafojlockiekfaaGGrow
import Derived.Test.YtafojlockiekfaaGAdd
import Derived.Test.YtafojlockiekfaaCheck
import Derived.Test.YtafojlockiekfaaOwn
import Derived.Test.YtafojlockiekfaaParse
namespace Go.Proofs.Ytafojlockiekfaa
open Go.Deep Go.RowKit
set_option linter.unusedVariables false
set_option maxRecDepth 20000

def gn (g : Gs) : Nat := fnodes (toFo g)
theorem gn_append : ∀ a b : Gs, gn (a ++ b) = gn a + gn b
  | [], b => by simp [gn, toFo, fnodes]
  | x :: a, b => by
    have := gn_append a b
    unfold gn at this ⊢
    simp only [List.cons_append, toFo, fnodes, this]
    omega
def tot (G : Nat → Gs) : Nat → Nat → Nat
  | _, 0 => 0
  | i, k + 1 => gn (G i) + tot G (i + 1) k
theorem tot_upd (G : Nat → Gs) (p : Nat) (l : Gs) : ∀ (k i : Nat), (p < i ∨ i + k ≤ p → tot (upd G p (G p ++ l)) i k = tot G i k) ∧ (i ≤ p → p < i + k → tot (upd G p (G p ++ l)) i k = tot G i k + gn l)
  | 0, i => ⟨fun _ => rfl, fun h1 h2 => by omega⟩
  | k + 1, i => by
    obtain ⟨h1, h2⟩ := tot_upd G p l k (i + 1)
    constructor
    · intro h
      have : upd G p (G p ++ l) i = G i := by unfold upd; rw [if_neg (by omega)]
      simp only [tot, this]
      rw [h1 (by omega)]
    · intro h3 h4
      by_cases hip : i = p
      · subst hip
        have : upd G i (G i ++ l) i = G i ++ l := by simp [upd]
        simp only [tot, this]
        rw [h1 (by omega), gn_append]
        omega
      · have : upd G p (G p ++ l) i = G i := by unfold upd; rw [if_neg hip]
        simp only [tot, this]
        rw [h2 (by omega) (by omega)]
        omega
theorem grows_tot (n : Nat) : ∀ (l : List Nd) (i : Nat) (G G' : Nat → Gs), grows n l i G = some G' → i + l.length ≤ n → tot G' (i + l.length) (n - (i + l.length)) = tot G i (n - i) + l.length
  | [], i, G, G', h, _ => by
    simp only [grows, Option.some.injEq] at h
    subst h
    simp
  | x :: l, i, G, G', h, hl => by
    simp only [grows] at h
    simp only [List.length_cons] at hl
    split at h
    · cases h
    · rename_i hx
      simp only [not_or] at hx
      have hp : i + 1 ≤ x.par.toNat ∧ x.par.toNat < n := by omega
      have h1 := grows_tot n l (i + 1) _ G' h (by omega)
      have h2 := (tot_upd G x.par.toNat [(x.lab, toFo (G i))] (n - (i + 1)) (i + 1)).2 hp.1 (by omega)
      have h3 : gn [(x.lab, toFo (G i))] = 1 + gn (G i) := by simp [gn, toFo, fnodes]; omega
      have h4 : tot G i (n - i) = gn (G i) + tot G (i + 1) (n - (i + 1)) := by
        rw [show n - i = (n - (i + 1)) + 1 by omega]
        rfl
      simp only [List.length_cons]
      rw [show i + (l.length + 1) = i + 1 + l.length by omega, h1, h2, h3, h4]
      omega
theorem growP_nodes {L : List Nd} {s : ByteArray} {k : Fo} (h : growP L = some (s, k)) : fnodes k + 1 = L.length := by
  unfold growP at h
  split at h
  · cases h
  · rename_i x hx
    have hlt := (List.getElem?_eq_some_iff.1 hx).1
    obtain ⟨n, hn⟩ : ∃ n, L.length = n + 1 := ⟨L.length - 1, by omega⟩
    rw [hn, Nat.add_sub_cancel] at h
    cases hg : grows (n + 1) (L.take n) 0 (fun _ => []) with
    | none => rw [hg] at h; simp at h
    | some G =>
      rw [hg] at h
      simp only [Option.map_some, Option.some.injEq, Prod.mk.injEq] at h
      have h1 := grows_tot (n + 1) (L.take n) 0 _ G hg (by rw [List.length_take]; omega)
      have hl : (L.take n).length = n := by rw [List.length_take]; omega
      have h0 : ∀ k i, tot (fun _ => []) i k = 0 := by
        intro k
        induction k with
        | zero => intro i; rfl
        | succ k ih => intro i; simp [tot, ih, gn, toFo, fnodes]
      rw [hl, h0, show n + 1 - (0 + n) = 1 by omega] at h1
      simp only [tot, Nat.zero_add, Nat.add_zero] at h1
      rw [← h.2]
      show gn (G n) + 1 = _
      omega

/-- These are the nodes of that good tree. -/
def TOk (L : List Nd) (s : ByteArray) (k : Fo) : Prop := growP L = some (s, k) ∧ faultT s k = 0 ∧ ndT 0 s k (-1) = L
theorem TOk.len {L : List Nd} {s : ByteArray} {k : Fo} (h : TOk L s k) : 0 < L.length ∧ L.length ≤ 40 := by
  obtain ⟨_, h2, h3⟩ := h
  have := (fault_zero h2).1
  rw [← h3, ndT_length]
  omega
theorem TOk.uniq {L : List Nd} {s s' : ByteArray} {k k' : Fo} (h : TOk L s k) (h' : TOk L s' k') : s = s' ∧ k = k' := by
  have := h.1.symm.trans h'.1
  simpa using this

end Go.Proofs.Ytafojlockiekfaa
namespace Go.Proofs.Ytafojlockiekfaa
open Go.Deep Go.RowKit
set_option linter.unusedVariables false
set_option maxRecDepth 20000

theorem small_of_bad : ∀ k : Fo, badF k = false → SmallF k
  | .nil, _ => trivial
  | .node _ _ x k r, h => by
    simp only [badF, Bool.or_eq_false_iff, Bool.not_eq_false'] at h
    have := (labelB_size h.1.1).2
    exact ⟨by omega, small_of_bad k h.1.2, small_of_bad r h.2⟩
theorem ndF_labs : ∀ (k : Fo) (b : Nat) (p : Int), badF k = false → ∀ x, x ∈ ndF b k p → x.lab.size ≤ 6
  | .nil, _, _, _, x, h => by simp [ndF] at h
  | .node _ _ y k r, b, p, hb, x, h => by
    simp only [badF, Bool.or_eq_false_iff, Bool.not_eq_false'] at hb
    simp only [ndF, List.mem_append, List.mem_cons] at h
    rcases h with h | rfl | h
    · exact ndF_labs k _ _ hb.1.2 x h
    · exact (labelB_size hb.1.1).2
    · exact ndF_labs r _ _ hb.2 x h
theorem ndT_labs {b : Nat} {s : ByteArray} {k : Fo} {p : Int} (h : badT s k = false) : ∀ x, x ∈ ndT b s k p → x.lab.size ≤ 6 := by
  obtain ⟨h1, h2⟩ := badT_small h
  intro x hx
  simp only [ndT, List.mem_append, List.mem_cons, List.not_mem_nil, or_false] at hx
  rcases hx with hx | rfl
  · exact ndF_labs k _ _ h2 x hx
  · exact h1
theorem NIn_of_owns {w : World} {B T : Nat} {va : Option Addr} {n vc : Nat} {L : List Nd} (h : w.ownsRow B T 3 (.slice va n vc) n (ndCells L)) (hl : ∀ x, x ∈ L → x.lab.size ≤ 6) : NIn w va L := by
  rcases h.2 with ⟨hv, h0⟩ | ⟨g, cap, cur, hv, _⟩
  · left
    have := h.1
    rw [ndCells_length] at this
    exact List.eq_nil_of_length_eq_zero (by omega)
  · right
    injection hv with h1 h2 h3
    subst h1
    refine ⟨g, 0, rfl, fun i x hx => ?_⟩
    obtain ⟨c0, c1, c2⟩ := ndCells_at L i x hx
    have hc : w.ownsRow B T 3 (.slice (some ⟨g, 0, none⟩) n vc) n (ndCells L) := h
    have := hl x (List.mem_of_getElem? hx)
    exact ⟨ownsRow_cell hc _ _ c0, by have := ownsRow_cell hc _ _ c1; rwa [← Nat.add_assoc] at this, by have := ownsRow_cell hc _ _ c2; rwa [← Nat.add_assoc] at this, by unfold maxLen; omega⟩

def OTreeEnd (L : List Nd) (e : Ending) (w' : World) : Prop :=
  (∃ c, c ≠ 0 ∧ (∀ s k, ¬ TOk L s k) ∧ e = .returned (.tuple #[.agg #[.string ⟨#[]⟩, .slice none 0 0], .int .i64 c])) ∨
  (∃ s ka cap k, TOk L s (strip k) ∧ e = .returned (.tuple #[.agg #[.string s, .slice ka (flen k) cap], .int .i64 0]) ∧ TIn w' s ka cap k ∧ FPlain w' k)

set_option maxHeartbeats 2000000 in
theorem otree_any (la : Option Addr) (lc : Nat) (L : List Nd) (w : World) (hL : NIn w la L) (h100 : L.length ≤ 100000) (hlc : L.length ≤ lc) (hlm : lc ≤ maxLen) :
    Calls Try.prog 32 #[.slice la L.length lc] w fun e w' => OTreeEnd L e w' ∧ Below w.heap.size w w' := by
  have hlm' := hlm
  unfold maxLen at hlm
  have hb0 : Below w.heap.size w (w.alloc (Obj.cells #[Value.string ⟨#[]⟩, Value.slice none 0 0] 24)) := (Below.refl _ _).alloc (Nat.le_refl _) _
  by_cases h0 : L.length = 0
  · have hbb : ((L.length : Int) == 0) = true := beq_iff_eq.2 (by omega)
    have HNO := hide (show ∀ s k, ¬ TOk L s k from fun s k h => by have := h.len; omega)
    clear h0
    go_enter Try.func32, Try.ntmps32
    go_wp2_with fail
    refine bodyPost_ret (v := .tuple #[.agg #[.string ⟨#[]⟩, .slice none 0 0], .int .i64 7]) (by simp [results, Try.results32, go_sem, *]) rfl ⟨Or.inl ⟨7, by decide, HNO.out, rfl⟩, ?_⟩
    exact hb0
  · have hbb : ((L.length : Int) == 0) = false := beq_eq_false_iff_ne.2 (by omega)
    by_cases h40 : 40 < L.length
    · have HNO := hide (show ∀ s k, ¬ TOk L s k from fun s k h => by have := h.len; omega)
      have hd : decide (40 < (L.length : Int)) = true := decide_eq_true (by omega)
      clear h40 h0
      go_enter Try.func32, Try.ntmps32
      go_wp2_with fail
      refine bodyPost_ret (v := .tuple #[.agg #[.string ⟨#[]⟩, .slice none 0 0], .int .i64 2]) (by simp [results, Try.results32, go_sem, *]) rfl ⟨Or.inl ⟨2, by decide, HNO.out, rfl⟩, ?_⟩
      exact hb0
    · have hd : decide (40 < (L.length : Int)) = false := decide_eq_false (by omega)
      have HGR := hide (grow_any la lc L _ (hL.below hb0) (by omega) (by omega) hlc hlm')
      go_enter Try.func32, Try.ntmps32
      go_wp2_with fail
      refine Calls.mono HGR.out ?_
      rintro e w1 ⟨hge, hb1⟩
      have hB1 := hb0.trans (hb1.mono (by simp))
      have hz1 : w.heap.size < w1.heap.size := by have := hb1.size; simp at this; omega
      have hR1 : w1.heap[w.heap.size]? = some (Obj.cells #[Value.string ⟨#[]⟩, Value.slice none 0 0] 24) := by rw [hb1.block _ (by simp)]; exact heap_alloc_new _ _
      clear HGR hb1 hb0
      rcases hge with ⟨hno, rfl⟩ | ⟨x, k, ka, cap, k', hgr, rfl, hst, ht, hpl⟩
      · have HNO := hide (show ∀ s k, ¬ TOk L s k from fun s k h => by have := h.1; rw [hno] at this; cases this)
        have hB2 : Below w.heap.size w (w1.alloc (Obj.cells #[Value.string ⟨#[]⟩, Value.slice none 0 0] 24)) := hB1.alloc (by omega) _
        have r0 : w1.cell? ⟨w.heap.size, 0, none⟩ = some (.string ⟨#[]⟩) := by rw [cell_of_row _ _ 0 _ _ _ hR1]; rfl
        have r1 : w1.cell? ⟨w.heap.size, 1, none⟩ = some (.slice none 0 0) := by rw [cell_of_row _ _ 1 _ _ _ hR1]; rfl
        have rf : ∀ o, w1.frozen? ⟨w.heap.size, o, none⟩ = false := fun o => by simp [World.frozen?, hR1]
        have f0 : (w1.alloc (Obj.cells #[Value.string ⟨#[]⟩, Value.slice none 0 0] 24)).frozen? ⟨w.heap.size, 0, none⟩ = false := by rw [World.frozen?_alloc_old _ _ _ (Nat.ne_of_lt hz1)]; exact rf 0
        have f1 : ((w1.setCell ⟨w.heap.size, 0, none⟩ (Value.string ⟨#[]⟩)).alloc (Obj.cells #[Value.string ⟨#[]⟩, Value.slice none 0 0] 24)).frozen? ⟨w.heap.size, 1, none⟩ = false := by rw [World.frozen?_alloc_old _ _ _ (by simp [World.setCell]; omega), World.frozen?_setCell]; exact rf 1
        clear hR1
        go_wp2_with fail
        refine bodyPost_ret (v := .tuple #[.agg #[.string ⟨#[]⟩, .slice none 0 0], .int .i64 15]) (by simp [results, Try.results32, go_sem, *]) rfl ⟨Or.inl ⟨15, by decide, HNO.out, rfl⟩, ?_⟩
        first
          | exact (hB2.setCell (by simp) _).setCell (by simp) _
          | exact ((hB1.setCell (by simp) _).setCell (by simp) _).alloc (by simp [World.setCell]; omega) _
      · have hnn : fnodes k' + 1 = L.length := by rw [← fnodes_strip, hst]; exact growP_nodes hgr
        have hbx : Below w1.heap.size w1 (w1.alloc (Obj.cells #[Value.string x, Value.slice ka (flen k') cap] 24)) := (Below.refl _ _).alloc (Nat.le_refl _) _
        have hof := of_of (fun c => c = faultT x k') x ka cap k' _ (ht.below hbx) (fun h => h.symm) (fun W hW => by
          refine (check_any x ka cap k' W ((ht.below hbx).below hW) ((hpl.below hbx).below hW) (by omega)).mono ?_
          rintro e w' ⟨rfl, hb⟩
          exact ⟨⟨_, rfl, rfl⟩, hb⟩)
        have HOF := hide hof
        have HGP := hide (show growP L = some (x, strip k') by rw [hst]; exact hgr)
        have hmn : fnodes k' + 1 ≤ 40 := by omega
        clear hof hgr hst hnn
        go_wp2_with fail
        refine Calls.mono HOF.out ?_
        rintro e w2 ⟨hoe, hb2⟩
        have hB12 := hbx.trans (hb2.mono (by simp))
        have hB2 := hB1.trans (hB12.mono hB1.size)
        have hz2 : w1.heap.size < w2.heap.size := by have := hb2.size; simp at this; omega
        have hR2 := (hB12.block w.heap.size hz1).trans hR1
        have t0 : w2.cell? ⟨w1.heap.size, 0, none⟩ = some (.string x) := by rw [hb2.cell (by simp)]; go_simp
        have t1 : w2.cell? ⟨w1.heap.size, 1, none⟩ = some (.slice ka (flen k') cap) := by rw [hb2.cell (by simp)]; go_simp
        have r0 : w2.cell? ⟨w.heap.size, 0, none⟩ = some (.string ⟨#[]⟩) := by rw [cell_of_row _ _ 0 _ _ _ hR2]; rfl
        have r1 : w2.cell? ⟨w.heap.size, 1, none⟩ = some (.slice none 0 0) := by rw [cell_of_row _ _ 1 _ _ _ hR2]; rfl
        have rf : ∀ o, w2.frozen? ⟨w.heap.size, o, none⟩ = false := fun o => by simp [World.frozen?, hR2]
        have ht2 := ht.below hB12
        have hpl2 := hpl.below hB12
        have HR2 := hide hR2
        clear HOF hb2 hbx hB12 ht hpl hB1 hR1 hR2
        rcases hoe with ⟨c, hc, hc0, rfl⟩ | ⟨hc, v, rfl, hrow⟩
        · have hcb : (c == 0) = false := beq_eq_false_iff_ne.2 hc0
          have HNO := hide (show ∀ s k, ¬ TOk L s k from fun s k h => by
            have h1 := h.1
            rw [HGP.out] at h1
            simp only [Option.some.injEq, Prod.mk.injEq] at h1
            have h2 := h.2.1
            rw [← h1.1, ← h1.2, faultT_strip] at h2
            exact hc0 (hc.trans h2))
          clear hc
          go_wp2_with fail
          refine bodyPost_ret (v := .tuple #[.agg #[.string ⟨#[]⟩, .slice none 0 0], .int .i64 15]) (by simp [results, Try.results32, go_sem, *]) rfl ⟨Or.inl ⟨15, by decide, HNO.out, rfl⟩, ?_⟩
          exact (hB2.setCell (by simp) _).setCell (by simp) _
        · have hf0 : faultT x k' = 0 := hc.symm
          obtain ⟨_, _, hbad⟩ := fault_zero hf0
          obtain ⟨va, vc, rfl, hvl, hvm⟩ := ownsN_form hrow
          have hN := NIn_of_owns hrow (ndT_labs hbad)
          have heq := eqN_any va la vc lc (ndT 0 x k' (-1)) L w2 hN (hL.below hB2) (by rw [ndT_length]; omega) (by unfold maxLen; omega)
          rw [ndT_length] at heq
          have HEQ := hide heq
          obtain ⟨hxs, hbf⟩ := badT_small hbad
          have HSM := hide (small_of_bad k' hbf)
          clear heq hN hrow hbad hbf hc
          unfold maxLen at hvm
          by_cases hsame : ndT 0 x k' (-1) = L
          · have hds : decide (ndT 0 x k' (-1) = L) = true := decide_eq_true hsame
            rw [hds] at HEQ
            have HOKK := hide (show TOk L x (strip k') from ⟨HGP.out, by rw [faultT_strip]; exact hf0, by rw [ndT_strip]; exact hsame⟩)
            clear hds hsame hf0
            go_wp2_with fail
            refine Calls.mono HEQ.out ?_
            rintro e w3 ⟨rfl, hb3⟩
            have hB3 := hB2.trans (hb3.mono hB2.size)
            have t0' := by have := hb3.cell (p := ⟨w1.heap.size, 0, none⟩) hz2; rw [t0] at this; exact this
            have t1' := by have := hb3.cell (p := ⟨w1.heap.size, 1, none⟩) hz2; rw [t1] at this; exact this
            have hown := own_any x ka cap k' w3 (ht2.below hb3) (hpl2.below hb3) (by omega) (by omega) HSM.out
            have HOW := hide hown
            have hR3 := (hb3.block w.heap.size (by omega)).trans HR2.out
            have HR3 := hide hR3
            clear hown t0 t1 r0 r1 rf HEQ HR2 hR3
            go_wp2_with fail
            refine Calls.mono HOW.out ?_
            rintro e w4 ⟨ka4, cap4, k4, rfl, hst4, ht4, hfr4, hpl4, hb4⟩
            have hz3 := hb3.size
            have hB4 := hB3.trans (hb4.mono hB3.size)
            have hR4 := (hb4.block w.heap.size (by omega)).trans HR3.out
            have r0 : w4.cell? ⟨w.heap.size, 0, none⟩ = some (.string ⟨#[]⟩) := by rw [cell_of_row _ _ 0 _ _ _ hR4]; rfl
            have r1 : w4.cell? ⟨w.heap.size, 1, none⟩ = some (.slice none 0 0) := by rw [cell_of_row _ _ 1 _ _ _ hR4]; rfl
            have rf : ∀ o, w4.frozen? ⟨w.heap.size, o, none⟩ = false := fun o => by simp [World.frozen?, hR4]
            have HST4 := hide hst4
            have hoff : FOff w.heap.size k4 := hfr4.off (by have := hb3.size; omega)
            clear hst4 hR4 HOW
            go_wp2_with fail
            have hbs : ∀ c, c < w4.heap.size → c ≠ w.heap.size → ((w4.setCell ⟨w.heap.size, 0, none⟩ (Value.string x)).setCell ⟨w.heap.size, 1, none⟩ (Value.slice ka4 (flen k4) cap4)).heap[c]? = w4.heap[c]? := fun c _ hc => by
              rw [Below.heap_setCell _ _ _ _ hc, Below.heap_setCell _ _ _ _ hc]
            refine bodyPost_ret (v := .tuple #[.agg #[.string x, .slice ka4 (flen k4) cap4], .int .i64 0]) (by simp [results, Try.results32, go_sem, *]) rfl ⟨Or.inr ⟨x, ka4, cap4, k4, by rw [HST4.out]; exact HOKK.out, rfl, TIn.but hbs hoff ht4, FPlain.but hbs hoff hpl4⟩, ?_⟩
            exact (hB4.setCell (by simp) _).setCell (by simp) _
          · have hds : decide (ndT 0 x k' (-1) = L) = false := decide_eq_false hsame
            rw [hds] at HEQ
            have HNO := hide (show ∀ s k, ¬ TOk L s k from fun s k h => by
              have h1 := h.1
              rw [HGP.out] at h1
              simp only [Option.some.injEq, Prod.mk.injEq] at h1
              have h2 := h.2.2
              rw [← h1.1, ← h1.2, ndT_strip] at h2
              exact hsame h2)
            clear hds hsame hf0
            go_wp2_with fail
            refine Calls.mono HEQ.out ?_
            rintro e w3 ⟨rfl, hb3⟩
            have hB3 := hB2.trans (hb3.mono hB2.size)
            have hR3 := (hb3.block w.heap.size (by omega)).trans HR2.out
            have r03 : w3.cell? ⟨w.heap.size, 0, none⟩ = some (.string ⟨#[]⟩) := by rw [cell_of_row _ _ 0 _ _ _ hR3]; rfl
            have r13 : w3.cell? ⟨w.heap.size, 1, none⟩ = some (.slice none 0 0) := by rw [cell_of_row _ _ 1 _ _ _ hR3]; rfl
            have rf3 : ∀ o, w3.frozen? ⟨w.heap.size, o, none⟩ = false := fun o => by simp [World.frozen?, hR3]
            clear hR3 HEQ
            go_wp2_with fail
            refine bodyPost_ret (v := .tuple #[.agg #[.string ⟨#[]⟩, .slice none 0 0], .int .i64 15]) (by simp [results, Try.results32, go_sem, *]) rfl ⟨Or.inl ⟨15, by decide, HNO.out, rfl⟩, ?_⟩
            exact (hB3.setCell (by simp) _).setCell (by simp) _
end Go.Proofs.Ytafojlockiekfaa
