/- slices.Reverse of a list of numbers that is owned turns it round. Of the program's text. -/
/- order.Path tells the numbers by which one comes up from a node to the root, turned round. Of the program's text. -/
/- How far apart two forests of numbered nodes are, and which nodes stay: numbers alone. Of no program. -/
import Derived.Test.YtcknganggcbkjabProg
import Derived.Test.YtcknganggcbkjabGS01
import Derived.Deep.LoopGhost
import Derived.Deep.RegionHeld3
import Derived.Deep.QuietTactic
import Derived.BigQuiet
import Derived.WalkSmall
import Derived.Test.YtcknganggcbkjabGS17
import Derived.Test.YtcknganggcbkjabGS15
import Derived.Deep.AppendLies
import Derived.Test.YtcknganggcbkjabGS00
namespace Go.Proofs.Ytcknganggcbkjab
open Go.Deep Go.RowKit
set_option linter.unusedVariables false
set_option maxRecDepth 20000

/-- A list that is turned round as far as i from both ends. -/
def RevAt (l : List Nat) (i : Nat) (M : List Nat) : Prop := M.length = l.length ∧ ∀ m, m < l.length → M[m]? = if m < i ∨ l.length ≤ m + i then l[l.length - 1 - m]? else l[m]?
theorem RevAt.start (l : List Nat) : RevAt l 0 l := ⟨rfl, fun m hm => by rw [if_neg (by omega)]⟩
theorem RevAt.step {l M : List Nat} {i a b : Nat} (h : RevAt l i M) (hi : i + 1 < l.length - i) (ha : M[i]? = some a) (hb : M[l.length - 1 - i]? = some b) : RevAt l (i + 1) ((M.set i b).set (l.length - 1 - i) a) := by
  refine ⟨by simp [h.1], fun m hm => ?_⟩
  have hai := h.2 i (by omega)
  rw [if_neg (by omega), ha] at hai
  have hbi := h.2 (l.length - 1 - i) (by omega)
  rw [if_neg (by omega), hb] at hbi
  rw [List.getElem?_set, List.getElem?_set]
  simp only [List.length_set, h.1]
  by_cases h1 : l.length - 1 - i = m
  · rw [if_pos h1, if_pos (by omega), if_pos (by omega), hai]
    congr 1
    omega
  · rw [if_neg h1]
    by_cases h2 : i = m
    · rw [if_pos h2, if_pos (by omega), if_pos (by omega), hbi, h2]
    · rw [if_neg h2, h.2 m hm]
      by_cases h3 : m < i ∨ l.length ≤ m + i
      · rw [if_pos h3, if_pos (by omega)]
      · rw [if_neg h3, if_neg (by omega)]
theorem RevAt.done {l M : List Nat} {i : Nat} (h : RevAt l i M) (hi : ¬ i + 1 < l.length - i) : M = l.reverse := by
  apply List.ext_getElem?
  intro m
  by_cases hm : m < l.length
  · rw [h.2 m hm, List.getElem?_reverse hm]
    split
    · rfl
    · rename_i hc
      simp only [not_or] at hc
      congr 1
      omega
  · rw [List.getElem?_eq_none (by rw [h.1]; omega), List.getElem?_eq_none (by simp; omega)]

set_option maxHeartbeats 8000000 in
theorem rev_any (B : Nat) (v : Value) (l : List Nat) (w : World) (hv : w.ownsRow B 3 1 v l.length (intCells l)) (hl : l.length ≤ 100000) :
    Calls Try.prog 108 #[v] w fun e w' => e = .returned (.tuple #[]) ∧ w'.ownsRow B 3 1 v l.length (intCells l.reverse) ∧ w.grownBy w' v.ownBlock := by
  obtain ⟨va, vc, rfl, hvc, hvm⟩ := ownsN_form hv
  unfold maxLen at hvm
  have HV := hide hv
  clear hv
  go_enter Try.func108, Try.ntmps108
  go_wp2_with fail
  go_loopg [2, 3] l.length (fun gk v2 v3 wr => ∃ (i : Nat) (M : List Nat), gk = l.length - i ∧ i ≤ l.length ∧ v2 = .int .i64 (i : Nat) ∧ v3 = .int .i64 ((l.length : Int) - 1 - (i : Int)) ∧ Hid (RevAt l i M) ∧ Hid (wr.ownsRow B 3 1 (Value.slice va l.length vc) l.length (intCells M)) ∧ Hid (w.grownBy wr (Value.slice va l.length vc).ownBlock))
  case atStart => exact ⟨0, l, rfl, Nat.zero_le _, rfl, by simp, RevAt.start l, HV.out, grownBy_refl _ _⟩
  case round =>
    obtain ⟨i, M, hgk, hi, rfl, rfl, hR, hown, hgr⟩ := hrel
    by_cases hlt : i + 1 < l.length - i
    · obtain ⟨j, hj⟩ : ∃ j, j = l.length - 1 - i := ⟨_, rfl⟩
      have hji : ((l.length : Int) - 1 - (i : Int)) = (j : Int) := by omega
      obtain ⟨g, c, hve, hgB, hgl, _, _⟩ := ownsN_some hown.out (by omega)
      injection hve with hve _ hvce
      subst hve hvce
      have hMl := hR.out.1
      obtain ⟨a, ha⟩ : ∃ a, M[i]? = some a := ⟨_, List.getElem?_eq_getElem (by omega)⟩
      obtain ⟨b, hb⟩ : ∃ b, M[j]? = some b := ⟨_, List.getElem?_eq_getElem (by omega)⟩
      have ca : wr.cell? ⟨g, i, none⟩ = some (.int .i64 (a : Int)) := by simpa using ownsRow_cell hown.out i _ (intCells_at ha)
      have cb : wr.cell? ⟨g, j, none⟩ = some (.int .i64 (b : Int)) := by simpa using ownsRow_cell hown.out j _ (intCells_at hb)
      have cf : ∀ o, wr.frozen? ⟨g, o, none⟩ = false := fun o => own_frozen hown.out o
      have hij : i < j := by omega
      have hjl : j < l.length := by omega
      have HJ := hide hj
      have HA := hide ha
      have HBb := hide hb
      have hne : ¬ i = j := by omega
      have hne2 : ¬ j = i := by omega
      have HFIN := hide (show RevAt l (i + 1) ((M.set i b).set (l.length - 1 - i) a) ∧ ((wr.setCell ⟨g, i, none⟩ (.int .i64 (b : Int))).setCell ⟨g, j, none⟩ (.int .i64 (a : Int))).ownsRow B 3 1 (Value.slice (some ⟨g, 0, none⟩) l.length vc) l.length (intCells ((M.set i b).set (l.length - 1 - i) a)) ∧ w.grownBy ((wr.setCell ⟨g, i, none⟩ (.int .i64 (b : Int))).setCell ⟨g, j, none⟩ (.int .i64 (a : Int))) (Value.slice (some ⟨g, 0, none⟩) l.length vc).ownBlock from
        ⟨hR.out.step hlt ha (by rw [← hj]; exact hb), by
          have h1 := own_setN (.int .i64 (a : Int)) (own_setN (.int .i64 (b : Int)) hown.out (j := i) (by omega)) (j := j) (by omega)
          rw [← hj]
          simpa [intCells, List.map_set] using h1, grownBy_trans (grownBy_trans hgr.out (grownBy_setCell wr g _ _) (Or.inl rfl)) (grownBy_setCell _ g _ _) (Or.inl rfl)⟩)
      rw [hji]
      clear hj ha hb hMl
      go_wp2_with fail
      refine wp_region_any (by kernel_rfl) ?_
      change wpAny _ _ _ _ _ _ _ (World.drew _)
      refine wpAny_take (i := 0) (v := .slice (some ⟨g, 0, none⟩) l.length vc) rfl (by kernel_rfl) (by kernel_rfl) (by kernel_rfl) (fun _ _ _ h => h) (Or.inl ⟨by simp [Region.wanted], by intro W; go_simp⟩) ?_
      refine wpAny_take (i := 1) (v := .int .i64 (i : Int)) rfl (by kernel_rfl) (by kernel_rfl) (by kernel_rfl) (fun _ _ _ h => h) (Or.inl ⟨by simp [Region.wanted], by intro W; go_simp⟩) ?_
      refine wpAny_take (i := 2) (v := .slice (some ⟨g, 0, none⟩) l.length vc) rfl (by kernel_rfl) (by kernel_rfl) (by kernel_rfl) (fun _ _ _ h => h) (Or.inl ⟨by simp [Region.wanted], by intro W; go_simp⟩) ?_
      refine wpAny_take (i := 3) (v := .int .i64 (j : Int)) rfl (by kernel_rfl) (by kernel_rfl) (by kernel_rfl) (fun _ _ _ h => h) (Or.inl ⟨by simp [Region.wanted], by intro W; go_simp⟩) ?_
      refine wpAny_take (i := 4) (v := .slice (some ⟨g, 0, none⟩) l.length vc) rfl (by kernel_rfl) (by kernel_rfl) (by kernel_rfl) (fun _ _ _ h => h) (Or.inl ⟨by simp [Region.wanted], by intro W; go_simp⟩) ?_
      refine wpAny_take (i := 5) (v := .int .i64 (j : Int)) rfl (by kernel_rfl) (by kernel_rfl) (by kernel_rfl) (fun _ _ _ h => h) (Or.inl ⟨by simp [Region.wanted], by intro W; go_simp⟩) ?_
      refine wpAny_take (i := 6) (v := .pointer (some ⟨g, j, none⟩)) rfl (by kernel_rfl) (by kernel_rfl) (by kernel_rfl) (fun _ _ _ h => h) (Or.inl ⟨by simp [Region.wanted], by intro W; go_simp; try (intro h; exfalso; omega)⟩) ?_
      refine wpAny_take (i := 8) (v := .slice (some ⟨g, 0, none⟩) l.length vc) rfl (by kernel_rfl) (by kernel_rfl) (by kernel_rfl) (fun _ _ _ h => h) (Or.inl ⟨by simp [Region.wanted], by intro W; go_simp⟩) ?_
      refine wpAny_take (i := 9) (v := .int .i64 (i : Int)) rfl (by kernel_rfl) (by kernel_rfl) (by kernel_rfl) (fun _ _ _ h => h) (Or.inl ⟨by simp [Region.wanted], by intro W; go_simp⟩) ?_
      refine wpAny_take (i := 10) (v := .pointer (some ⟨g, i, none⟩)) rfl (by kernel_rfl) (by kernel_rfl) (by kernel_rfl) (fun _ _ _ h => h) (Or.inl ⟨by simp [Region.wanted], by intro W; go_simp; try (intro h; exfalso; omega)⟩) ?_
      simp only [Act.put, List.setIfInBounds_toArray]
      refine wpAny_ready (rs := [7, 11]) (by kernel_rfl) (by simp) ?_
      refine AllReady.cons rfl (fun K hK => ?_) (AllReady.cons rfl (fun K hK => ?_) AllReady.nil)
      · go_simp
        refine hK _ _ ?_
        clear hK K
        refine wpAny_ready (rs := [11]) (by kernel_rfl) (by simp) ?_
        refine AllReady.cons rfl (fun K hK => ?_) AllReady.nil
        go_simp
        refine hK _ _ ?_
        clear hK K
        refine wpAny_take (i := 12) (v := .pointer (some ⟨g, i, none⟩)) rfl (by kernel_rfl) (by kernel_rfl) (by kernel_rfl) (fun _ _ _ h => h) (Or.inl ⟨by simp [Region.wanted], by intro W; go_simp; try (intro h; exfalso; omega)⟩) ?_
        refine wpAny_ready (rs := [13]) (by kernel_rfl) (by simp) ?_
        refine AllReady.cons rfl (fun K hK => ?_) AllReady.nil
        go_simp
        refine hK _ _ ?_
        clear hK K
        refine wpAny_take (i := 14) (v := .pointer (some ⟨g, j, none⟩)) rfl (by kernel_rfl) (by kernel_rfl) (by kernel_rfl) (fun _ _ _ h => h) (Or.inl ⟨by simp [Region.wanted], by intro W; go_simp; try (intro h; exfalso; omega)⟩) ?_
        refine wpAny_ready (rs := [15]) (by kernel_rfl) (by simp) ?_
        refine AllReady.cons rfl (fun K hK => ?_) AllReady.nil
        go_simp
        refine hK _ _ ?_
        clear hK K
        refine wpAny_done (by kernel_rfl) ?_ _
        go_wp2_with fail
        go_roundg (l.length - (i + 1))
        case measure => omega
        case rel => exact ⟨i + 1, _, rfl, by omega, by go_num, by go_num, HFIN.out.1, HFIN.out.2.1, (show World.grownBy _ _ _ from ⟨HFIN.out.2.2.os, HFIN.out.2.2.tape, HFIN.out.2.2.output, HFIN.out.2.2.size, HFIN.out.2.2.block⟩)⟩
      · go_simp
        refine hK _ _ ?_
        clear hK K
        refine wpAny_ready (rs := [7]) (by kernel_rfl) (by simp) ?_
        refine AllReady.cons rfl (fun K hK => ?_) AllReady.nil
        go_simp
        refine hK _ _ ?_
        clear hK K
        refine wpAny_take (i := 12) (v := .pointer (some ⟨g, i, none⟩)) rfl (by kernel_rfl) (by kernel_rfl) (by kernel_rfl) (fun _ _ _ h => h) (Or.inl ⟨by simp [Region.wanted], by intro W; go_simp; try (intro h; exfalso; omega)⟩) ?_
        refine wpAny_ready (rs := [13]) (by kernel_rfl) (by simp) ?_
        refine AllReady.cons rfl (fun K hK => ?_) AllReady.nil
        go_simp
        refine hK _ _ ?_
        clear hK K
        refine wpAny_take (i := 14) (v := .pointer (some ⟨g, j, none⟩)) rfl (by kernel_rfl) (by kernel_rfl) (by kernel_rfl) (fun _ _ _ h => h) (Or.inl ⟨by simp [Region.wanted], by intro W; go_simp; try (intro h; exfalso; omega)⟩) ?_
        refine wpAny_ready (rs := [15]) (by kernel_rfl) (by simp) ?_
        refine AllReady.cons rfl (fun K hK => ?_) AllReady.nil
        go_simp
        refine hK _ _ ?_
        clear hK K
        refine wpAny_done (by kernel_rfl) ?_ _
        go_wp2_with fail
        go_roundg (l.length - (i + 1))
        case measure => omega
        case rel => exact ⟨i + 1, _, rfl, by omega, by go_num, by go_num, HFIN.out.1, HFIN.out.2.1, (show World.grownBy _ _ _ from ⟨HFIN.out.2.2.os, HFIN.out.2.2.tape, HFIN.out.2.2.output, HFIN.out.2.2.size, HFIN.out.2.2.block⟩)⟩
    · have HD := hide (hR.out.done hlt)
      go_wp2_with fail
      go_end0
      refine ⟨rfl, ?_, hgr.out⟩
      rw [← HD.out]
      exact hown.out
end Go.Proofs.Ytcknganggcbkjab
namespace Go.Proofs.Ytcknganggcbkjab
open Go.Deep Go.RowKit
set_option linter.unusedVariables false
set_option maxRecDepth 20000

/-- From a node up, by so many steps at most: how many kids of the parent stand ahead. -/
def pathUp (L : List Nd) : Nat → Nat → List Nat
  | 0, _ => []
  | f + 1, n => match L[n]? with
    | none => []
    | some x => if x.par < 0 then [] else cnt x.par (L.take n) :: pathUp L f x.par.toNat
def pathP (L : List Nd) (n : Nat) : List Nat := (pathUp L L.length n).reverse

/-- Parents stand behind. -/
def UpOk (L : List Nd) : Prop := ∀ (i : Nat) (x : Nd), L[i]? = some x → x.par = -1 ∨ ((i : Int) < x.par ∧ x.par < (L.length : Int))
theorem ndF_up : ∀ (k : Fo) (b p : Nat), b + fnodes k ≤ p → ∀ i x, (ndF b k (p : Int))[i]? = some x → ((b + i : Nat) : Int) < x.par ∧ x.par ≤ (p : Int)
  | .nil, _, _, _, i, x, h => by simp [ndF] at h
  | .node _ _ y k r, b, p, hp, i, x, h => by
    simp only [fnodes] at hp
    simp only [ndF] at h
    by_cases h1 : i < fnodes k
    · rw [List.getElem?_append_left (by rw [ndF_length]; omega)] at h
      have := ndF_up k b (b + fnodes k) (Nat.le_refl _) i x h
      omega
    · rw [List.getElem?_append_right (by rw [ndF_length]; omega), ndF_length] at h
      by_cases h2 : i = fnodes k
      · subst h2
        simp at h
        subst h
        simp only
        omega
      · obtain ⟨j, hj⟩ : ∃ j, i - fnodes k = j + 1 := ⟨i - fnodes k - 1, by omega⟩
        rw [hj, List.getElem?_cons_succ] at h
        have := ndF_up r (b + fnodes k + 1) p (by omega) j x h
        omega
theorem ndT_up (s : ByteArray) (k : Fo) : UpOk (ndT 0 s k (-1)) := by
  intro i x h
  have hl := (List.getElem?_eq_some_iff.1 h).1
  rw [ndT_length] at hl ⊢
  unfold ndT at h
  by_cases h1 : i < fnodes k
  · rw [List.getElem?_append_left (by rw [ndF_length]; omega)] at h
    have := ndF_up k 0 (0 + fnodes k) (Nat.le_refl _) i x h
    right
    omega
  · rw [List.getElem?_append_right (by rw [ndF_length]; omega), ndF_length, show i - fnodes k = 0 by omega] at h
    simp at h
    subst h
    exact Or.inl rfl
theorem pathUp_len (L : List Nd) : ∀ (f n : Nat), (pathUp L f n).length ≤ f
  | 0, _ => Nat.le_refl _
  | f + 1, n => by
    unfold pathUp
    split
    · simp
    · split
      · simp
      · have := pathUp_len L f (Int.toNat (by assumption : Nd).par)
        simp only [List.length_cons]
        omega

set_option maxHeartbeats 2000000 in
theorem path_good (la : Option Addr) (lc : Nat) (L : List Nd) (s : ByteArray) (k : Fo) (n : Nat) (w : World) (hL : NIn w la L) (hok : TOk L s k) (hn : n < L.length) (hlc : L.length ≤ lc) (hlm : lc ≤ maxLen) :
    Calls Try.prog 90 #[.slice la L.length lc, .int .i64 (n : Int)] w fun e w' => ∃ v, e = .returned v ∧ w'.ownsRow w.heap.size 3 1 v (pathP L n).length (intCells (pathP L n)) ∧ Below w.heap.size w w' := by
  have hlm' := hlm
  unfold maxLen at hlm
  have hup : UpOk L := by have := ndT_up s k; rw [hok.2.2] at this; exact this
  have h40 := hok.len.2
  obtain ⟨iI, hiI, hi0, hi1, hi2⟩ := info_parts Try.infoInt
  have HT := hide (otree_any la lc L w hL (by omega) hlc hlm')
  have HOK := hide hok
  have HUP := hide hup
  clear hok hup
  go_enter Try.func90, Try.ntmps90
  go_wp2_with fail
  refine Calls.mono HT.out ?_
  rintro e w1 ⟨hte, hB1⟩
  obtain ⟨s1, ka1, cap1, k1, rfl⟩ : ∃ s1 ka1 cap1 k1, e = .returned (.tuple #[.agg #[.string s1, .slice ka1 (flen k1) cap1], .int .i64 0]) := by
    rcases hte with ⟨c, _, hno, _⟩ | ⟨s1, ka1, cap1, k1, _, rfl, _⟩
    · exact absurd HOK.out (hno s k)
    · exact ⟨s1, ka1, cap1, k1, rfl⟩
  clear hte HT
  have hdn : decide ((n : Int) < 0) = false := decide_eq_false (by omega)
  have hdl : decide ((L.length : Int) ≤ (n : Int)) = false := decide_eq_false (by omega)
  have hdl2 : decide (L.length ≤ n) = false := decide_eq_false (by omega)
  have hL1 := hL.below hB1
  clear hL
  go_wp2_with fail
  have hbw : Below w.heap.size w (w1.alloc (Obj.cells #[Value.string s1, Value.slice ka1 (flen k1) cap1] 24)) := hB1.alloc hB1.size _
  have hL2 := hL1.below ((Below.refl _ _).alloc (Nat.le_refl _) (Obj.cells #[Value.string s1, Value.slice ka1 (flen k1) cap1] 24))
  obtain ⟨W, hW⟩ : ∃ W, W = w1.alloc (Obj.cells #[Value.string s1, Value.slice ka1 (flen k1) cap1] 24) := ⟨_, rfl⟩
  rw [← hW] at hbw hL2 ⊢
  clear hW hL1 hB1
  rcases hL2 with hL2 | ⟨b, o, rfl, hL2⟩
  · rw [hL2] at hn; simp at hn
  have HL2 := hide hL2
  clear hL2
  go_loopg [1, 7] (L.length - n) (fun gk v1 v7 wr => ∃ (m f : Nat) (A : List Nat), gk = L.length - m ∧ m < L.length ∧ v1 = .int .i64 (m : Nat) ∧ L.length ≤ m + f ∧ A.length + f = L.length ∧ Hid (pathUp L L.length n = A ++ pathUp L f m) ∧ Hid (wr.ownsRow W.heap.size 3 1 v7 A.length (intCells A)) ∧ Below W.heap.size W wr)
  case atStart => exact ⟨n, L.length, [], rfl, hn, rfl, by omega, by simp, rfl, ⟨rfl, Or.inl ⟨rfl, rfl⟩⟩, Below.refl _ _⟩
  case round =>
    obtain ⟨m, f, A, hgk, hm, rfl, hmf, hAf, hrun, hown, hbr⟩ := hrel
    obtain ⟨x, hx⟩ : ∃ x, L[m]? = some x := ⟨_, List.getElem?_eq_getElem hm⟩
    obtain ⟨x0, x1, x2, _⟩ := HL2.out m x hx
    have hbl : b < W.heap.size := World.block_lt_of_cell? _ _ x0
    have x1' : wr.cell? ⟨b, o + m * 3 + 1, none⟩ = some (.int .i64 x.par) := by rw [hbr.cell hbl]; exact x1
    obtain ⟨f, rfl⟩ : ∃ f', f = f' + 1 := ⟨f - 1, by omega⟩
    obtain ⟨va, vc, hve, hvl, hvm⟩ := ownsN_form hown.out
    subst hve
    unfold maxLen at hvm
    have hzW := hbr.size
    have hup := HUP.out m x hx
    by_cases hneg : x.par < 0
    · have hd : decide (0 ≤ x.par) = false := decide_eq_false (by omega)
      have HP := hide (show pathP L n = A.reverse by
        unfold pathP
        rw [hrun.out, pathUp, hx]
        simp only
        rw [if_pos hneg, List.append_nil])
      have HRV := hide (rev_any W.heap.size (Value.slice va A.length vc) A wr hown.out (by omega))
      clear hneg hup
      go_wp2_with fail
      refine Calls.mono HRV.out ?_
      rintro e w5 ⟨rfl, hrow5, hg5⟩
      have hB5 : Below W.heap.size W w5 := hbr.grown hg5 hbr.size (fun g hg => (ownBlockN_lt hown.out hg).1)
      have HR5 := hide hrow5
      clear hrow5 hg5 HRV
      go_wp2_with fail
      go_ret
      refine ⟨Value.slice va A.length vc, rfl, ?_, hbw.trans (hB5.mono hbw.size)⟩
      rw [HP.out, List.length_reverse]
      have h5 := HR5.out
      rcases h5.2 with ⟨h6, h7⟩ | ⟨g, cap, cur, h6, h7, h8⟩
      · exact ⟨h5.1, Or.inl ⟨h6, h7⟩⟩
      · exact ⟨h5.1, Or.inr ⟨g, cap, cur, h6, Nat.le_trans hbw.size h7, h8⟩⟩
    · have hd : decide (0 ≤ x.par) = true := decide_eq_true (by omega)
      obtain ⟨q, hq⟩ : ∃ q : Nat, x.par = (q : Int) := ⟨x.par.toNat, by omega⟩
      have hmq : m < q ∧ q < L.length := by omega
      have HRUN := hide (show pathUp L L.length n = (A ++ [cnt x.par (L.take m)]) ++ pathUp L f q by
        rw [hrun.out, pathUp, hx]
        simp only
        rw [if_neg hneg, hq]
        simp)
      have hNr : NIn wr (some ⟨b, o, none⟩) L := NIn.below (Or.inr ⟨b, o, rfl, HL2.out⟩) hbr
      have hcn : cnt x.par (L.take m) ≤ 40 := by
        have := cnt_le x.par (L.take m)
        rw [List.length_take] at this
        omega
      have hah := ahead_any (some ⟨b, o, none⟩) lc L m x wr hNr hx (by omega) hlc hlm'
      obtain ⟨C, hC⟩ : ∃ C, C = cnt x.par (L.take m) := ⟨_, rfl⟩
      rw [← hC] at hah HRUN hcn
      have HAH := hide hah
      rw [hq] at x1'
      clear hah hC hq hneg hup hd hx hNr
      have hd : decide (0 ≤ (q : Int)) = true := decide_eq_true (by omega)
      go_wp2_with fail
      refine Calls.mono HAH.out ?_
      rintro e w5 ⟨rfl, hb5⟩
      have hr5 := ownsN_below hown.out hb5
      have hz5 := hb5.size
      have x15 : w5.cell? ⟨b, o + m * 3 + 1, none⟩ = some (.int .i64 (q : Int)) := by rw [hb5.cell (show b < wr.heap.size by omega)]; exact x1'
      go_wp2_with (at_builtin; refine wpList_append_lies _ rfl (.tmp 36) (.tmp 40) 42 rfl W.heap.size 3 iI _ 1 8 Try.underlying42 hiI hi0 hi1 hi2 rfl (by decide) _ A.length _ rfl (ownsN_below hr5 ((Below.refl _ _).alloc (Nat.le_refl _) _)) ⟨w5.heap.size, 0, none⟩ 1 1 [Value.int .i64 (C : Int)] rfl rfl (int_news w5 3 (C : Int)) (by simp [Value.oneCell']) (by decide) (by unfold maxLen; omega) (by omega) (by simp; omega) (w5.heap.size + 1) (by simp) ?_)
      intro g7 cap7 w7 hown7 hgrow7 hat7 hlt7
      have hB7 : Below W.heap.size W w7 := ((hbr.trans (hb5.mono hbr.size)).alloc (by omega) (Obj.cells #[Value.int .i64 (C : Int)] 3)).grown hgrow7 (by simp; omega) (fun g hg => (ownBlockN_lt hr5 hg).1)
      have x17 : w7.cell? ⟨b, o + m * 3 + 1, none⟩ = some (.int .i64 (q : Int)) := by
        have hh : w7.cell? ⟨b, o + m * 3 + 1, none⟩ = W.cell? ⟨b, o + m * 3 + 1, none⟩ := hB7.cell hbl
        have hh2 : wr.cell? ⟨b, o + m * 3 + 1, none⟩ = W.cell? ⟨b, o + m * 3 + 1, none⟩ := hbr.cell hbl
        rw [hh, ← hh2]
        exact x1'
      have HO7 := hide hown7
      clear hown7 hgrow7 hat7 hr5 x1 x15 hb5 x1'
      go_wp2_with fail
      go_roundg (L.length - q)
      case measure => omega
      case rel =>
        refine ⟨q, f, A ++ [C], rfl, hmq.2, rfl, by omega, by simp; omega, HRUN, ?_, hB7⟩
        show World.ownsRow _ _ _ _ _ _ _
        have := HO7.out
        simpa [intCells] using this
end Go.Proofs.Ytcknganggcbkjab
namespace Go.Proofs.Ytcknganggcbkjab.Dist
open Go.Deep Go.RowKit
set_option linter.unusedVariables false
set_option maxRecDepth 20000

/-- Nodes in order: each behind all beneath it (its lowest one is told), one beneath the other or apart. -/
structure Post (l : Nat → Nat) (n : Nat) : Prop where
  le : ∀ y, y < n → l y ≤ y
  lam : ∀ x y, x < y → y < n → l y ≤ x → l y ≤ l x
/-- From i0 to ahead of i: whole trees beside each other. -/
def Frst (l : Nat → Nat) (i0 i : Nat) : Prop := ∀ x, i0 ≤ x → x < i → i0 ≤ l x
theorem Frst.less {l : Nat → Nat} {i0 i j : Nat} (h : Frst l i0 i) (hj : j ≤ i) : Frst l i0 j := fun x h1 h2 => h x h1 (by omega)
theorem Frst.top {l : Nat → Nat} {n i : Nat} (hp : Post l n) (hi : 0 < i) (hn : i ≤ n) : Frst l (l (i - 1)) (i - 1) := fun x h1 h2 => hp.lam x (i - 1) h2 (by omega) h1
theorem Frst.tree {l : Nat → Nat} {n i : Nat} (hp : Post l n) (hi : 0 < i) (hn : i ≤ n) : Frst l (l (i - 1)) i := fun x h1 h2 => by
  by_cases h : x = i - 1
  · rw [h]
    exact Nat.le_refl _
  · exact hp.lam x (i - 1) (by omega) (by omega) h1

section
variable (la lb : Nat → Nat) (c : Nat → Nat → Nat)
def fd : Nat → Nat → Nat → Nat → Nat → Nat
  | 0, _, _, _, _ => 0
  | f + 1, i0, i, j0, j => if i ≤ i0 then j - j0 else if j ≤ j0 then i - i0 else
      min (min (fd f i0 (i - 1) j0 j + 1) (fd f i0 i j0 (j - 1) + 1)) (fd f i0 (la (i - 1)) j0 (lb (j - 1)) + fd f (la (i - 1)) (i - 1) (lb (j - 1)) (j - 1) + c (i - 1) (j - 1))
/-- The least that it costs to make the one forest the other one. -/
def D (i0 i j0 j : Nat) : Nat := fd la lb c ((i - i0) + (j - j0) + 1) i0 i j0 j
end
variable {la lb : Nat → Nat} {c : Nat → Nat → Nat} {n m : Nat}

theorem fd_more (ha : Post la n) (hb : Post lb m) : ∀ (f g i0 i j0 j : Nat), i ≤ n → j ≤ m → Frst la i0 i → Frst lb j0 j → (i - i0) + (j - j0) < f → (i - i0) + (j - j0) < g → fd la lb c f i0 i j0 j = fd la lb c g i0 i j0 j
  | 0, _, _, _, _, _, _, _, _, _, h, _ => by omega
  | _ + 1, 0, _, _, _, _, _, _, _, _, _, h => by omega
  | f + 1, g + 1, i0, i, j0, j, hi, hj, h1, h2, h3, h4 => by
    unfold fd
    by_cases e1 : i ≤ i0
    · rw [if_pos e1, if_pos e1]
    · rw [if_neg e1, if_neg e1]
      by_cases e2 : j ≤ j0
      · rw [if_pos e2, if_pos e2]
      · rw [if_neg e2, if_neg e2]
        have l1 := h1 (i - 1) (by omega) (by omega)
        have l2 := h2 (j - 1) (by omega) (by omega)
        have l3 := ha.le (i - 1) (by omega)
        have l4 := hb.le (j - 1) (by omega)
        rw [fd_more ha hb f g i0 (i - 1) j0 j (by omega) hj (h1.less (by omega)) h2 (by omega) (by omega),
          fd_more ha hb f g i0 i j0 (j - 1) hi (by omega) h1 (h2.less (by omega)) (by omega) (by omega),
          fd_more ha hb f g i0 (la (i - 1)) j0 (lb (j - 1)) (by omega) (by omega) (h1.less (by omega)) (h2.less (by omega)) (by omega) (by omega),
          fd_more ha hb f g (la (i - 1)) (i - 1) (lb (j - 1)) (j - 1) (by omega) (by omega) (Frst.top ha (by omega) hi) (Frst.top hb (by omega) hj) (by omega) (by omega)]

theorem D_left {i0 i j0 j : Nat} (h : i ≤ i0) : D la lb c i0 i j0 j = j - j0 := by
  unfold D fd
  rw [if_pos h]
theorem D_right {i0 i j0 j : Nat} (h : j ≤ j0) : D la lb c i0 i j0 j = i - i0 := by
  unfold D fd
  by_cases h1 : i ≤ i0
  · rw [if_pos h1]
    omega
  · rw [if_neg h1, if_pos h]
theorem D_step (ha : Post la n) (hb : Post lb m) {i0 i j0 j : Nat} (hi : i ≤ n) (hj : j ≤ m) (h1 : Frst la i0 i) (h2 : Frst lb j0 j) (e1 : i0 < i) (e2 : j0 < j) :
    D la lb c i0 i j0 j = min (min (D la lb c i0 (i - 1) j0 j + 1) (D la lb c i0 i j0 (j - 1) + 1)) (D la lb c i0 (la (i - 1)) j0 (lb (j - 1)) + D la lb c (la (i - 1)) (i - 1) (lb (j - 1)) (j - 1) + c (i - 1) (j - 1)) := by
  have l1 := h1 (i - 1) (by omega) (by omega)
  have l2 := h2 (j - 1) (by omega) (by omega)
  have l3 := ha.le (i - 1) (by omega)
  have l4 := hb.le (j - 1) (by omega)
  have s1 : ∀ f, (i - 1 - i0) + (j - j0) < f → fd la lb c f i0 (i - 1) j0 j = D la lb c i0 (i - 1) j0 j := fun f hf => fd_more ha hb f _ i0 (i - 1) j0 j (by omega) hj (h1.less (by omega)) h2 hf (by omega)
  have s2 : ∀ f, (i - i0) + (j - 1 - j0) < f → fd la lb c f i0 i j0 (j - 1) = D la lb c i0 i j0 (j - 1) := fun f hf => fd_more ha hb f _ i0 i j0 (j - 1) hi (by omega) h1 (h2.less (by omega)) hf (by omega)
  have s3 : ∀ f, (la (i - 1) - i0) + (lb (j - 1) - j0) < f → fd la lb c f i0 (la (i - 1)) j0 (lb (j - 1)) = D la lb c i0 (la (i - 1)) j0 (lb (j - 1)) := fun f hf => fd_more ha hb f _ i0 (la (i - 1)) j0 (lb (j - 1)) (by omega) (by omega) (h1.less (by omega)) (h2.less (by omega)) hf (by omega)
  have s4 : ∀ f, (i - 1 - la (i - 1)) + (j - 1 - lb (j - 1)) < f → fd la lb c f (la (i - 1)) (i - 1) (lb (j - 1)) (j - 1) = D la lb c (la (i - 1)) (i - 1) (lb (j - 1)) (j - 1) := fun f hf => fd_more ha hb f _ (la (i - 1)) (i - 1) (lb (j - 1)) (j - 1) (by omega) (by omega) (Frst.top ha (by omega) hi) (Frst.top hb (by omega) hj) hf (by omega)
  show fd la lb c ((i - i0) + (j - j0) + 1) i0 i j0 j = _
  unfold fd
  rw [if_neg (by omega), if_neg (by omega), s1 _ (by omega), s2 _ (by omega), s3 _ (by omega), s4 _ (by omega)]

/-- What is split in two costs no more than both parts. -/
theorem D_split (ha : Post la n) (hb : Post lb m) : ∀ (N i0 p i j0 q j : Nat), (i - p) + (j - q) < N → i0 ≤ p → p ≤ i → j0 ≤ q → q ≤ j → i ≤ n → j ≤ m → Frst la i0 i → Frst lb j0 j → Frst la p i → Frst lb q j →
    D la lb c i0 i j0 j ≤ D la lb c i0 p j0 q + D la lb c p i q j
  | 0, _, _, _, _, _, _, h, _, _, _, _, _, _, _, _, _, _ => by omega
  | N + 1, i0, p, i, j0, q, j, h, hp0, hp, hq0, hq, hi, hj, h1, h2, h3, h4 => by
    by_cases e1 : i ≤ p
    · have : i = p := by omega
      subst this
      rw [D_left (Nat.le_refl _)]
      by_cases e2 : j ≤ q
      · have : j = q := by omega
        subst this
        omega
      · have ih := D_split ha hb N i0 i i j0 q (j - 1) (by omega) hp0 (Nat.le_refl _) hq0 (by omega) hi (by omega) h1 (h2.less (by omega)) h3 (h4.less (by omega))
        rw [D_left (Nat.le_refl _)] at ih
        by_cases e3 : i ≤ i0
        · rw [D_left e3] at ih ⊢
          rw [D_left e3]
          omega
        · have := D_step (c := c) ha hb hi hj h1 h2 (by omega) (by omega)
          omega
    · by_cases e2 : j ≤ q
      · have : j = q := by omega
        subst this
        rw [D_right (Nat.le_refl _)]
        have ih := D_split ha hb N i0 p (i - 1) j0 j j (by omega) hp0 (by omega) hq0 (Nat.le_refl _) (by omega) hj (h1.less (by omega)) h2 (h3.less (by omega)) h4
        rw [D_right (Nat.le_refl _)] at ih
        by_cases e3 : j ≤ j0
        · rw [D_right e3] at ih ⊢
          rw [D_right e3]
          omega
        · have := D_step (c := c) ha hb hi hj h1 h2 (by omega) (by omega)
          omega
      · have l1 := h3 (i - 1) (by omega) (by omega)
        have l2 := h4 (j - 1) (by omega) (by omega)
        have l3 := ha.le (i - 1) (by omega)
        have l4 := hb.le (j - 1) (by omega)
        have d1 := D_step (c := c) ha hb hi hj h1 h2 (by omega) (by omega)
        have d2 := D_step (c := c) ha hb hi hj h3 h4 (by omega) (by omega)
        have i1 := D_split ha hb N i0 p (i - 1) j0 q j (by omega) hp0 (by omega) hq0 hq (by omega) hj (h1.less (by omega)) h2 (h3.less (by omega)) h4
        have i2 := D_split ha hb N i0 p i j0 q (j - 1) (by omega) hp0 hp hq0 (by omega) hi (by omega) h1 (h2.less (by omega)) h3 (h4.less (by omega))
        have i3 := D_split ha hb N i0 p (la (i - 1)) j0 q (lb (j - 1)) (by omega) hp0 (by omega) hq0 (by omega) (by omega) (by omega) (h1.less (by omega)) (h2.less (by omega)) (h3.less (by omega)) (h4.less (by omega))
        omega

/-- No less than one has more than the other one, no more than both. -/
theorem D_bounds (ha : Post la n) (hb : Post lb m) (hc : ∀ x y, c x y ≤ 1) : ∀ (N i0 i j0 j : Nat), (i - i0) + (j - j0) < N → i ≤ n → j ≤ m → Frst la i0 i → Frst lb j0 j →
    i - i0 ≤ D la lb c i0 i j0 j + (j - j0) ∧ j - j0 ≤ D la lb c i0 i j0 j + (i - i0) ∧ D la lb c i0 i j0 j ≤ (i - i0) + (j - j0)
  | 0, _, _, _, _, h, _, _, _, _ => by omega
  | N + 1, i0, i, j0, j, h, hi, hj, h1, h2 => by
    by_cases e1 : i ≤ i0
    · rw [D_left e1]
      omega
    · by_cases e2 : j ≤ j0
      · rw [D_right e2]
        omega
      · have l1 := h1 (i - 1) (by omega) (by omega)
        have l2 := h2 (j - 1) (by omega) (by omega)
        have l3 := ha.le (i - 1) (by omega)
        have l4 := hb.le (j - 1) (by omega)
        have d := D_step (c := c) ha hb hi hj h1 h2 (by omega) (by omega)
        have i1 := D_bounds ha hb hc N i0 (i - 1) j0 j (by omega) (by omega) hj (h1.less (by omega)) h2
        have i2 := D_bounds ha hb hc N i0 i j0 (j - 1) (by omega) hi (by omega) h1 (h2.less (by omega))
        have i3 := D_bounds ha hb hc N i0 (la (i - 1)) j0 (lb (j - 1)) (by omega) (by omega) (by omega) (h1.less (by omega)) (h2.less (by omega))
        have i4 := D_bounds ha hb hc N (la (i - 1)) (i - 1) (lb (j - 1)) (j - 1) (by omega) (by omega) (by omega) (Frst.top ha (by omega) hi) (Frst.top hb (by omega) hj)
        have := hc (i - 1) (j - 1)
        omega

section
variable (la lb : Nat → Nat) (c : Nat → Nat → Nat)
/-- Which nodes stay. -/
def bestF : Nat → Nat → Nat → Nat → Nat → List (Nat × Nat)
  | 0, _, _, _, _ => []
  | f + 1, i0, i, j0, j => if i ≤ i0 then [] else if j ≤ j0 then [] else
      if la (i - 1) = i0 ∧ lb (j - 1) = j0 ∧ D la lb c i0 (i - 1) j0 (j - 1) + c (i - 1) (j - 1) = D la lb c i0 i j0 j then bestF f i0 (i - 1) j0 (j - 1) ++ [(i - 1, j - 1)]
      else if ¬ (la (i - 1) = i0 ∧ lb (j - 1) = j0) ∧ D la lb c i0 (la (i - 1)) j0 (lb (j - 1)) + D la lb c (la (i - 1)) i (lb (j - 1)) j = D la lb c i0 i j0 j then bestF f i0 (la (i - 1)) j0 (lb (j - 1)) ++ bestF f (la (i - 1)) i (lb (j - 1)) j
      else if D la lb c i0 (i - 1) j0 j + 1 = D la lb c i0 i j0 j then bestF f i0 (i - 1) j0 j
      else bestF f i0 i j0 (j - 1)
end
/-- What pairs cost by their labels. -/
def names (c : Nat → Nat → Nat) : List (Nat × Nat) → Nat
  | [] => 0
  | p :: l => c p.1 p.2 + names c l
theorem names_append (c : Nat → Nat → Nat) : ∀ a b, names c (a ++ b) = names c a + names c b
  | [], b => by simp [names]
  | p :: a, b => by simp [names, names_append c a b]; omega
/-- One pair ahead of another one: both numbers less, and beneath it in both or in none. -/
def Ahead (la lb : Nat → Nat) (p q : Nat × Nat) : Prop := p.1 < q.1 ∧ p.2 < q.2 ∧ (la q.1 ≤ p.1 ↔ lb q.2 ≤ p.2)

set_option maxHeartbeats 4000000 in
theorem best_ok (ha : Post la n) (hb : Post lb m) : ∀ (f i0 i j0 j : Nat), (i - i0) + (j - j0) < f → i ≤ n → j ≤ m → Frst la i0 i → Frst lb j0 j →
    (∀ p, p ∈ bestF la lb c f i0 i j0 j → i0 ≤ p.1 ∧ p.1 < i ∧ j0 ≤ p.2 ∧ p.2 < j) ∧ (bestF la lb c f i0 i j0 j).Pairwise (Ahead la lb) ∧
    D la lb c i0 i j0 j + 2 * (bestF la lb c f i0 i j0 j).length = (i - i0) + (j - j0) + names c (bestF la lb c f i0 i j0 j)
  | 0, _, _, _, _, h, _, _, _, _ => by omega
  | f + 1, i0, i, j0, j, h, hi, hj, h1, h2 => by
    unfold bestF
    by_cases e1 : i ≤ i0
    · rw [if_pos e1, D_left e1]
      exact ⟨fun p hp => by simp at hp, List.Pairwise.nil, by simp [names]; omega⟩
    · rw [if_neg e1]
      by_cases e2 : j ≤ j0
      · rw [if_pos e2, D_right e2]
        exact ⟨fun p hp => by simp at hp, List.Pairwise.nil, by simp [names]; omega⟩
      · rw [if_neg e2]
        have l1 := h1 (i - 1) (by omega) (by omega)
        have l2 := h2 (j - 1) (by omega) (by omega)
        have l3 := ha.le (i - 1) (by omega)
        have l4 := hb.le (j - 1) (by omega)
        have d := D_step (c := c) ha hb hi hj h1 h2 (by omega) (by omega)
        by_cases b1 : la (i - 1) = i0 ∧ lb (j - 1) = j0 ∧ D la lb c i0 (i - 1) j0 (j - 1) + c (i - 1) (j - 1) = D la lb c i0 i j0 j
        · rw [if_pos b1]
          obtain ⟨r1, r2, r3⟩ := best_ok ha hb f i0 (i - 1) j0 (j - 1) (by omega) (by omega) (by omega) (h1.less (by omega)) (h2.less (by omega))
          refine ⟨fun p hp => ?_, ?_, ?_⟩
          · rcases List.mem_append.1 hp with hp | hp
            · have := r1 p hp
              omega
            · have : p = (i - 1, j - 1) := by simpa using hp
              subst this
              simp only
              omega
          · rw [List.pairwise_append]
            refine ⟨r2, List.pairwise_singleton _ _, fun p hp q hq => ?_⟩
            have : q = (i - 1, j - 1) := by simpa using hq
            subst this
            have := r1 p hp
            exact ⟨by simp only; omega, by simp only; omega, by simp only; omega⟩
          · rw [names_append, List.length_append]
            simp only [names, List.length_cons, List.length_nil]
            omega
        · rw [if_neg b1]
          by_cases b2 : ¬ (la (i - 1) = i0 ∧ lb (j - 1) = j0) ∧ D la lb c i0 (la (i - 1)) j0 (lb (j - 1)) + D la lb c (la (i - 1)) i (lb (j - 1)) j = D la lb c i0 i j0 j
          · rw [if_pos b2]
            have fa := Frst.tree ha (i := i) (by omega) hi
            have fb := Frst.tree hb (i := j) (by omega) hj
            obtain ⟨r1, r2, r3⟩ := best_ok ha hb f i0 (la (i - 1)) j0 (lb (j - 1)) (by omega) (by omega) (by omega) (h1.less (by omega)) (h2.less (by omega))
            obtain ⟨s1, s2, s3⟩ := best_ok ha hb f (la (i - 1)) i (lb (j - 1)) j (by omega) hi hj fa fb
            refine ⟨fun p hp => ?_, ?_, ?_⟩
            · rcases List.mem_append.1 hp with hp | hp
              · have := r1 p hp
                omega
              · have := s1 p hp
                omega
            · rw [List.pairwise_append]
              refine ⟨r2, s2, fun p hp q hq => ?_⟩
              have t1 := r1 p hp
              have t2 := s1 q hq
              have t3 := fa q.1 (by omega) (by omega)
              have t4 := fb q.2 (by omega) (by omega)
              exact ⟨by omega, by omega, by constructor <;> intro <;> omega⟩
            · rw [names_append, List.length_append]
              omega
          · rw [if_neg b2]
            have hthird : D la lb c i0 i j0 j ≠ D la lb c i0 (la (i - 1)) j0 (lb (j - 1)) + D la lb c (la (i - 1)) (i - 1) (lb (j - 1)) (j - 1) + c (i - 1) (j - 1) := fun e => by
              by_cases hone : la (i - 1) = i0 ∧ lb (j - 1) = j0
              · refine b1 ⟨hone.1, hone.2, ?_⟩
                rw [e, hone.1, hone.2, D_left (Nat.le_refl _)]
                omega
              · refine b2 ⟨hone, ?_⟩
                have fa := Frst.tree ha (i := i) (by omega) hi
                have fb := Frst.tree hb (i := j) (by omega) hj
                have sp := D_split (c := c) ha hb _ i0 (la (i - 1)) i j0 (lb (j - 1)) j (Nat.lt_succ_self _) l1 (by omega) l2 (by omega) hi hj h1 h2 fa fb
                have d2 := D_step (c := c) ha hb hi hj fa fb (by omega) (by omega)
                rw [D_left (i := la (i - 1)) (Nat.le_refl _)] at d2
                omega
            by_cases b3 : D la lb c i0 (i - 1) j0 j + 1 = D la lb c i0 i j0 j
            · rw [if_pos b3]
              obtain ⟨r1, r2, r3⟩ := best_ok ha hb f i0 (i - 1) j0 j (by omega) (by omega) hj (h1.less (by omega)) h2
              exact ⟨fun p hp => by have := r1 p hp; omega, r2, by omega⟩
            · rw [if_neg b3]
              obtain ⟨r1, r2, r3⟩ := best_ok ha hb f i0 i j0 (j - 1) (by omega) hi (by omega) h1 (h2.less (by omega))
              exact ⟨fun p hp => by have := r1 p hp; omega, r2, by omega⟩

end Go.Proofs.Ytcknganggcbkjab.Dist
