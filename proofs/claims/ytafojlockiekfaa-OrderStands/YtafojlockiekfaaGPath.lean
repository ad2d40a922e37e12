/- order.ahead counts the nodes ahead that have the same parent. Of the program's text. -/
/- slices.Reverse of a list of numbers that is owned turns it round. Of the program's text. -/
/- order.Path tells the numbers by which one comes up from a node to the root, turned round. Of the program's text. -/
/- SameInts of package pleachingref: are two lists of numbers the same? Of the program's text. -/
/- pleachinglaw.orderBegun answers true. Of the program's text. -/
import Derived.Test.YtafojlockiekfaaProg
import Derived.Test.YtafojlockiekfaaGGrow
import Derived.Deep.RegionHeld3
import Derived.Deep.QuietTactic
import Derived.BigQuiet
import Derived.WalkSmall
import Derived.Test.YtafojlockiekfaaGOrd
import Derived.Deep.LoopGhost
import Derived.Test.YtafojlockiekfaaGTree
import Derived.Test.YtafojlockiekfaaGAdd
import Derived.Deep.AppendLies
import Derived.Test.YtafojlockiekfaaAtRef
import Derived.Laws.StructEq
namespace Go.Proofs.Ytafojlockiekfaa
open Go.Deep Go.RowKit
set_option linter.unusedVariables false
set_option maxRecDepth 20000

/-- How many of the first have that parent. -/
def cnt (p : Int) : List Nd → Nat
  | [] => 0
  | x :: l => (if x.par = p then 1 else 0) + cnt p l
theorem cnt_append (p : Int) : ∀ a b : List Nd, cnt p (a ++ b) = cnt p a + cnt p b
  | [], b => by simp [cnt]
  | x :: a, b => by simp [cnt, cnt_append p a b]; omega
theorem cnt_le (p : Int) : ∀ a : List Nd, cnt p a ≤ a.length
  | [] => Nat.le_refl _
  | x :: a => by
    have := cnt_le p a
    simp only [cnt, List.length_cons]
    split <;> omega

set_option maxHeartbeats 1000000 in
theorem ahead_any (la : Option Addr) (lc : Nat) (L : List Nd) (n : Nat) (x : Nd) (w : World) (hL : NIn w la L) (hx : L[n]? = some x) (h100 : L.length ≤ 100000) (hlc : L.length ≤ lc) (hlm : lc ≤ maxLen) :
    Calls Try.prog 60 #[.slice la L.length lc, .int .i64 (n : Int)] w fun e w' => e = .returned (.int .i64 (cnt x.par (L.take n) : Int)) ∧ Below w.heap.size w w' := by
  unfold maxLen at hlm
  have hlt := (List.getElem?_eq_some_iff.1 hx).1
  rcases hL with rfl | ⟨b, o, rfl, hL⟩
  · simp at hlt
  obtain ⟨x0, x1, x2, _⟩ := hL n x hx
  have hbl : b < w.heap.size := World.block_lt_of_cell? _ _ x0
  go_enter Try.func60, Try.ntmps60
  go_wp2_with fail
  go_loopg [5, 12] n (fun gk v5 v12 wr => ∃ i : Nat, gk = n - i ∧ i ≤ n ∧ v12 = .int .i64 (i : Nat) ∧ v5 = .int .i64 (cnt x.par (L.take i) : Nat) ∧ Below w.heap.size w wr)
  case atStart => exact ⟨0, rfl, Nat.zero_le _, rfl, rfl, Below.refl _ _⟩
  case round =>
    obtain ⟨i, hgk, hi, rfl, rfl, hbr⟩ := hrel
    have hcl := cnt_le x.par (L.take i)
    have htl : (L.take i).length = i := by rw [List.length_take]; omega
    have hcl2 : cnt x.par (L.take i) ≤ 100000 := by omega
    by_cases hin : i < n
    · obtain ⟨y, hy⟩ : ∃ y, L[i]? = some y := ⟨_, List.getElem?_eq_getElem (by omega)⟩
      obtain ⟨y0, y1, y2, _⟩ := hL i y hy
      have y0' : wr.cell? ⟨b, o + i * 3, none⟩ = some (.string y.lab) := by rw [hbr.cell hbl]; exact y0
      have y1' : wr.cell? ⟨b, o + i * 3 + 1, none⟩ = some (.int .i64 y.par) := by rw [hbr.cell hbl]; exact y1
      have y2' : wr.cell? ⟨b, o + i * 3 + 2, none⟩ = some (.int .i64 y.left) := by rw [hbr.cell hbl]; exact y2
      have x1' : wr.cell? ⟨b, o + n * 3 + 1, none⟩ = some (.int .i64 x.par) := by rw [hbr.cell hbl]; exact x1
      have hbz : b < wr.heap.size := Nat.lt_of_lt_of_le hbl hbr.size
      have HC := hide (show cnt x.par (L.take (i + 1)) = cnt x.par (L.take i) + (if y.par = x.par then 1 else 0) by
        rw [List.take_succ_eq_append_getElem (by omega), cnt_append]
        have : L[i]'(by omega) = y := by
          rw [List.getElem?_eq_getElem (by omega)] at hy
          simpa using hy
        rw [this]
        simp [cnt])
      obtain ⟨C, hC⟩ : ∃ C, C = cnt x.par (L.take i) := ⟨_, rfl⟩
      rw [← hC] at HC hcl2 ⊢
      have xa : (wr.alloc (Obj.cells #[Value.string y.lab, Value.int .i64 y.par, Value.int .i64 y.left] 59)).cell? ⟨b, o + n * 3 + 1, none⟩ = some (.int .i64 x.par) := by rw [World.cell?_alloc_some _ _ _ (by rw [x1']; rfl)]; exact x1'
      have hB2 : Below w.heap.size w (wr.alloc (Obj.cells #[Value.string y.lab, Value.int .i64 y.par, Value.int .i64 y.left] 59)) := hbr.alloc hbr.size _
      clear hC hcl htl hy y0 y1 y2 hL
      by_cases he : y.par = x.par
      · have heb : (y.par == x.par) = true := beq_iff_eq.2 he
        have HCE := hide (show cnt x.par (L.take (i + 1)) = C + 1 by rw [HC.out, if_pos he])
        clear he
        go_wp2_with fail
        go_quiet (fail)
        go_wp2_with fail
        go_roundg (n - (i + 1))
        case measure => omega
        case rel => exact ⟨i + 1, rfl, by omega, by go_num, by rw [HCE.out]; go_num, below_drewN hB2 _⟩
      · have heb : (y.par == x.par) = false := beq_eq_false_iff_ne.2 he
        have HCE := hide (show cnt x.par (L.take (i + 1)) = C by rw [HC.out, if_neg he]; rfl)
        clear he
        go_wp2_with fail
        go_quiet (fail)
        go_wp2_with fail
        go_roundg (n - (i + 1))
        case measure => omega
        case rel => exact ⟨i + 1, rfl, by omega, by go_num, by rw [HCE.out], below_drewN hB2 _⟩
    · have hie : i = n := by omega
      subst hie
      go_wp2_with fail
      go_ret
      exact ⟨rfl, hbr⟩
end Go.Proofs.Ytafojlockiekfaa
namespace Go.Proofs.Ytafojlockiekfaa
open Go.Deep Go.RowKit
set_option linter.unusedVariables false
set_option maxRecDepth 20000

/-- A list that is turned round as far as i from both ends. -/
def RevAt (l : List Nat) (i : Nat) (M : List Nat) : Prop := M.length = l.length ∧ ∀ m, m < l.length → M[m]? = if m < i ∨ l.length ≤ m + i then l[l.length - 1 - m]? else l[m]?
theorem RevAt.start (l : List Nat) : RevAt l 0 l := ⟨rfl, fun m hm => by rw [if_neg (by omega)]⟩
theorem RevAt.step {l M : List Nat} {i a b : Nat} (h : RevAt l i M) (hi : i + 1 < l.length - i) (ha : M[i]? = some a) (hb : M[l.length - 1 - i]? = some b) : RevAt l (i + 1) ((M.set i b).set (l.length - 1 - i) a) := by
  refine ⟨by simp [h.1], fun m hm => ?_⟩
  have hai := h.2 i (by omega)
  rw [if_neg (by omega), ha] at hai
  have hbi := h.2 (l.length - 1 - i) (by omega)
  rw [if_neg (by omega), hb] at hbi
  rw [List.getElem?_set, List.getElem?_set]
  simp only [List.length_set, h.1]
  by_cases h1 : l.length - 1 - i = m
  · rw [if_pos h1, if_pos (by omega), if_pos (by omega), hai]
    congr 1
    omega
  · rw [if_neg h1]
    by_cases h2 : i = m
    · rw [if_pos h2, if_pos (by omega), if_pos (by omega), hbi, h2]
    · rw [if_neg h2, h.2 m hm]
      by_cases h3 : m < i ∨ l.length ≤ m + i
      · rw [if_pos h3, if_pos (by omega)]
      · rw [if_neg h3, if_neg (by omega)]
theorem RevAt.done {l M : List Nat} {i : Nat} (h : RevAt l i M) (hi : ¬ i + 1 < l.length - i) : M = l.reverse := by
  apply List.ext_getElem?
  intro m
  by_cases hm : m < l.length
  · rw [h.2 m hm, List.getElem?_reverse hm]
    split
    · rfl
    · rename_i hc
      simp only [not_or] at hc
      congr 1
      omega
  · rw [List.getElem?_eq_none (by rw [h.1]; omega), List.getElem?_eq_none (by simp; omega)]

set_option maxHeartbeats 8000000 in
theorem rev_any (B : Nat) (v : Value) (l : List Nat) (w : World) (hv : w.ownsRow B 3 1 v l.length (intCells l)) (hl : l.length ≤ 100000) :
    Calls Try.prog 61 #[v] w fun e w' => e = .returned (.tuple #[]) ∧ w'.ownsRow B 3 1 v l.length (intCells l.reverse) ∧ w.grownBy w' v.ownBlock := by
  obtain ⟨va, vc, rfl, hvc, hvm⟩ := ownsN_form hv
  unfold maxLen at hvm
  have HV := hide hv
  clear hv
  go_enter Try.func61, Try.ntmps61
  go_wp2_with fail
  go_loopg [2, 3] l.length (fun gk v2 v3 wr => ∃ (i : Nat) (M : List Nat), gk = l.length - i ∧ i ≤ l.length ∧ v2 = .int .i64 (i : Nat) ∧ v3 = .int .i64 ((l.length : Int) - 1 - (i : Int)) ∧ Hid (RevAt l i M) ∧ Hid (wr.ownsRow B 3 1 (Value.slice va l.length vc) l.length (intCells M)) ∧ Hid (w.grownBy wr (Value.slice va l.length vc).ownBlock))
  case atStart => exact ⟨0, l, rfl, Nat.zero_le _, rfl, by simp, RevAt.start l, HV.out, grownBy_refl _ _⟩
  case round =>
    obtain ⟨i, M, hgk, hi, rfl, rfl, hR, hown, hgr⟩ := hrel
    by_cases hlt : i + 1 < l.length - i
    · obtain ⟨j, hj⟩ : ∃ j, j = l.length - 1 - i := ⟨_, rfl⟩
      have hji : ((l.length : Int) - 1 - (i : Int)) = (j : Int) := by omega
      obtain ⟨g, c, hve, hgB, hgl, _, _⟩ := ownsN_some hown.out (by omega)
      injection hve with hve _ hvce
      subst hve hvce
      have hMl := hR.out.1
      obtain ⟨a, ha⟩ : ∃ a, M[i]? = some a := ⟨_, List.getElem?_eq_getElem (by omega)⟩
      obtain ⟨b, hb⟩ : ∃ b, M[j]? = some b := ⟨_, List.getElem?_eq_getElem (by omega)⟩
      have ca : wr.cell? ⟨g, i, none⟩ = some (.int .i64 (a : Int)) := by simpa using ownsRow_cell hown.out i _ (intCells_at ha)
      have cb : wr.cell? ⟨g, j, none⟩ = some (.int .i64 (b : Int)) := by simpa using ownsRow_cell hown.out j _ (intCells_at hb)
      have cf : ∀ o, wr.frozen? ⟨g, o, none⟩ = false := fun o => own_frozen hown.out o
      have hij : i < j := by omega
      have hjl : j < l.length := by omega
      have HJ := hide hj
      have HA := hide ha
      have HBb := hide hb
      have hne : ¬ i = j := by omega
      have hne2 : ¬ j = i := by omega
      have HFIN := hide (show RevAt l (i + 1) ((M.set i b).set (l.length - 1 - i) a) ∧ ((wr.setCell ⟨g, i, none⟩ (.int .i64 (b : Int))).setCell ⟨g, j, none⟩ (.int .i64 (a : Int))).ownsRow B 3 1 (Value.slice (some ⟨g, 0, none⟩) l.length vc) l.length (intCells ((M.set i b).set (l.length - 1 - i) a)) ∧ w.grownBy ((wr.setCell ⟨g, i, none⟩ (.int .i64 (b : Int))).setCell ⟨g, j, none⟩ (.int .i64 (a : Int))) (Value.slice (some ⟨g, 0, none⟩) l.length vc).ownBlock from
        ⟨hR.out.step hlt ha (by rw [← hj]; exact hb), by
          have h1 := own_setN (.int .i64 (a : Int)) (own_setN (.int .i64 (b : Int)) hown.out (j := i) (by omega)) (j := j) (by omega)
          rw [← hj]
          simpa [intCells, List.map_set] using h1, grownBy_trans (grownBy_trans hgr.out (grownBy_setCell wr g _ _) (Or.inl rfl)) (grownBy_setCell _ g _ _) (Or.inl rfl)⟩)
      rw [hji]
      clear hj ha hb hMl
      go_wp2_with fail
      refine wp_region_any (by kernel_rfl) ?_
      change wpAny _ _ _ _ _ _ _ (World.drew _)
      refine wpAny_take (i := 0) (v := .slice (some ⟨g, 0, none⟩) l.length vc) rfl (by kernel_rfl) (by kernel_rfl) (by kernel_rfl) (fun _ _ _ h => h) (Or.inl ⟨by simp [Region.wanted], by intro W; go_simp⟩) ?_
      refine wpAny_take (i := 1) (v := .int .i64 (i : Int)) rfl (by kernel_rfl) (by kernel_rfl) (by kernel_rfl) (fun _ _ _ h => h) (Or.inl ⟨by simp [Region.wanted], by intro W; go_simp⟩) ?_
      refine wpAny_take (i := 2) (v := .slice (some ⟨g, 0, none⟩) l.length vc) rfl (by kernel_rfl) (by kernel_rfl) (by kernel_rfl) (fun _ _ _ h => h) (Or.inl ⟨by simp [Region.wanted], by intro W; go_simp⟩) ?_
      refine wpAny_take (i := 3) (v := .int .i64 (j : Int)) rfl (by kernel_rfl) (by kernel_rfl) (by kernel_rfl) (fun _ _ _ h => h) (Or.inl ⟨by simp [Region.wanted], by intro W; go_simp⟩) ?_
      refine wpAny_take (i := 4) (v := .slice (some ⟨g, 0, none⟩) l.length vc) rfl (by kernel_rfl) (by kernel_rfl) (by kernel_rfl) (fun _ _ _ h => h) (Or.inl ⟨by simp [Region.wanted], by intro W; go_simp⟩) ?_
      refine wpAny_take (i := 5) (v := .int .i64 (j : Int)) rfl (by kernel_rfl) (by kernel_rfl) (by kernel_rfl) (fun _ _ _ h => h) (Or.inl ⟨by simp [Region.wanted], by intro W; go_simp⟩) ?_
      refine wpAny_take (i := 6) (v := .pointer (some ⟨g, j, none⟩)) rfl (by kernel_rfl) (by kernel_rfl) (by kernel_rfl) (fun _ _ _ h => h) (Or.inl ⟨by simp [Region.wanted], by intro W; go_simp; try (intro h; exfalso; omega)⟩) ?_
      refine wpAny_take (i := 8) (v := .slice (some ⟨g, 0, none⟩) l.length vc) rfl (by kernel_rfl) (by kernel_rfl) (by kernel_rfl) (fun _ _ _ h => h) (Or.inl ⟨by simp [Region.wanted], by intro W; go_simp⟩) ?_
      refine wpAny_take (i := 9) (v := .int .i64 (i : Int)) rfl (by kernel_rfl) (by kernel_rfl) (by kernel_rfl) (fun _ _ _ h => h) (Or.inl ⟨by simp [Region.wanted], by intro W; go_simp⟩) ?_
      refine wpAny_take (i := 10) (v := .pointer (some ⟨g, i, none⟩)) rfl (by kernel_rfl) (by kernel_rfl) (by kernel_rfl) (fun _ _ _ h => h) (Or.inl ⟨by simp [Region.wanted], by intro W; go_simp; try (intro h; exfalso; omega)⟩) ?_
      simp only [Act.put, List.setIfInBounds_toArray]
      refine wpAny_ready (rs := [7, 11]) (by kernel_rfl) (by simp) ?_
      refine AllReady.cons rfl (fun K hK => ?_) (AllReady.cons rfl (fun K hK => ?_) AllReady.nil)
      · go_simp
        refine hK _ _ ?_
        clear hK K
        refine wpAny_ready (rs := [11]) (by kernel_rfl) (by simp) ?_
        refine AllReady.cons rfl (fun K hK => ?_) AllReady.nil
        go_simp
        refine hK _ _ ?_
        clear hK K
        refine wpAny_take (i := 12) (v := .pointer (some ⟨g, i, none⟩)) rfl (by kernel_rfl) (by kernel_rfl) (by kernel_rfl) (fun _ _ _ h => h) (Or.inl ⟨by simp [Region.wanted], by intro W; go_simp; try (intro h; exfalso; omega)⟩) ?_
        refine wpAny_ready (rs := [13]) (by kernel_rfl) (by simp) ?_
        refine AllReady.cons rfl (fun K hK => ?_) AllReady.nil
        go_simp
        refine hK _ _ ?_
        clear hK K
        refine wpAny_take (i := 14) (v := .pointer (some ⟨g, j, none⟩)) rfl (by kernel_rfl) (by kernel_rfl) (by kernel_rfl) (fun _ _ _ h => h) (Or.inl ⟨by simp [Region.wanted], by intro W; go_simp; try (intro h; exfalso; omega)⟩) ?_
        refine wpAny_ready (rs := [15]) (by kernel_rfl) (by simp) ?_
        refine AllReady.cons rfl (fun K hK => ?_) AllReady.nil
        go_simp
        refine hK _ _ ?_
        clear hK K
        refine wpAny_done (by kernel_rfl) ?_ _
        go_wp2_with fail
        go_roundg (l.length - (i + 1))
        case measure => omega
        case rel => exact ⟨i + 1, _, rfl, by omega, by go_num, by go_num, HFIN.out.1, HFIN.out.2.1, (show World.grownBy _ _ _ from ⟨HFIN.out.2.2.os, HFIN.out.2.2.tape, HFIN.out.2.2.output, HFIN.out.2.2.size, HFIN.out.2.2.block⟩)⟩
      · go_simp
        refine hK _ _ ?_
        clear hK K
        refine wpAny_ready (rs := [7]) (by kernel_rfl) (by simp) ?_
        refine AllReady.cons rfl (fun K hK => ?_) AllReady.nil
        go_simp
        refine hK _ _ ?_
        clear hK K
        refine wpAny_take (i := 12) (v := .pointer (some ⟨g, i, none⟩)) rfl (by kernel_rfl) (by kernel_rfl) (by kernel_rfl) (fun _ _ _ h => h) (Or.inl ⟨by simp [Region.wanted], by intro W; go_simp; try (intro h; exfalso; omega)⟩) ?_
        refine wpAny_ready (rs := [13]) (by kernel_rfl) (by simp) ?_
        refine AllReady.cons rfl (fun K hK => ?_) AllReady.nil
        go_simp
        refine hK _ _ ?_
        clear hK K
        refine wpAny_take (i := 14) (v := .pointer (some ⟨g, j, none⟩)) rfl (by kernel_rfl) (by kernel_rfl) (by kernel_rfl) (fun _ _ _ h => h) (Or.inl ⟨by simp [Region.wanted], by intro W; go_simp; try (intro h; exfalso; omega)⟩) ?_
        refine wpAny_ready (rs := [15]) (by kernel_rfl) (by simp) ?_
        refine AllReady.cons rfl (fun K hK => ?_) AllReady.nil
        go_simp
        refine hK _ _ ?_
        clear hK K
        refine wpAny_done (by kernel_rfl) ?_ _
        go_wp2_with fail
        go_roundg (l.length - (i + 1))
        case measure => omega
        case rel => exact ⟨i + 1, _, rfl, by omega, by go_num, by go_num, HFIN.out.1, HFIN.out.2.1, (show World.grownBy _ _ _ from ⟨HFIN.out.2.2.os, HFIN.out.2.2.tape, HFIN.out.2.2.output, HFIN.out.2.2.size, HFIN.out.2.2.block⟩)⟩
    · have HD := hide (hR.out.done hlt)
      go_wp2_with fail
      go_end0
      refine ⟨rfl, ?_, hgr.out⟩
      rw [← HD.out]
      exact hown.out
end Go.Proofs.Ytafojlockiekfaa
namespace Go.Proofs.Ytafojlockiekfaa
open Go.Deep Go.RowKit
set_option linter.unusedVariables false
set_option maxRecDepth 20000

/-- From a node up, by so many steps at most: how many kids of the parent stand ahead. -/
def pathUp (L : List Nd) : Nat → Nat → List Nat
  | 0, _ => []
  | f + 1, n => match L[n]? with
    | none => []
    | some x => if x.par < 0 then [] else cnt x.par (L.take n) :: pathUp L f x.par.toNat
def pathP (L : List Nd) (n : Nat) : List Nat := (pathUp L L.length n).reverse

/-- Parents stand behind. -/
def UpOk (L : List Nd) : Prop := ∀ (i : Nat) (x : Nd), L[i]? = some x → x.par = -1 ∨ ((i : Int) < x.par ∧ x.par < (L.length : Int))
theorem ndF_up : ∀ (k : Fo) (b p : Nat), b + fnodes k ≤ p → ∀ i x, (ndF b k (p : Int))[i]? = some x → ((b + i : Nat) : Int) < x.par ∧ x.par ≤ (p : Int)
  | .nil, _, _, _, i, x, h => by simp [ndF] at h
  | .node _ _ y k r, b, p, hp, i, x, h => by
    simp only [fnodes] at hp
    simp only [ndF] at h
    by_cases h1 : i < fnodes k
    · rw [List.getElem?_append_left (by rw [ndF_length]; omega)] at h
      have := ndF_up k b (b + fnodes k) (Nat.le_refl _) i x h
      omega
    · rw [List.getElem?_append_right (by rw [ndF_length]; omega), ndF_length] at h
      by_cases h2 : i = fnodes k
      · subst h2
        simp at h
        subst h
        simp only
        omega
      · obtain ⟨j, hj⟩ : ∃ j, i - fnodes k = j + 1 := ⟨i - fnodes k - 1, by omega⟩
        rw [hj, List.getElem?_cons_succ] at h
        have := ndF_up r (b + fnodes k + 1) p (by omega) j x h
        omega
theorem ndT_up (s : ByteArray) (k : Fo) : UpOk (ndT 0 s k (-1)) := by
  intro i x h
  have hl := (List.getElem?_eq_some_iff.1 h).1
  rw [ndT_length] at hl ⊢
  unfold ndT at h
  by_cases h1 : i < fnodes k
  · rw [List.getElem?_append_left (by rw [ndF_length]; omega)] at h
    have := ndF_up k 0 (0 + fnodes k) (Nat.le_refl _) i x h
    right
    omega
  · rw [List.getElem?_append_right (by rw [ndF_length]; omega), ndF_length, show i - fnodes k = 0 by omega] at h
    simp at h
    subst h
    exact Or.inl rfl
theorem pathUp_len (L : List Nd) : ∀ (f n : Nat), (pathUp L f n).length ≤ f
  | 0, _ => Nat.le_refl _
  | f + 1, n => by
    unfold pathUp
    split
    · simp
    · split
      · simp
      · have := pathUp_len L f (Int.toNat (by assumption : Nd).par)
        simp only [List.length_cons]
        omega

set_option maxHeartbeats 2000000 in
theorem path_good (la : Option Addr) (lc : Nat) (L : List Nd) (s : ByteArray) (k : Fo) (n : Nat) (w : World) (hL : NIn w la L) (hok : TOk L s k) (hn : n < L.length) (hlc : L.length ≤ lc) (hlm : lc ≤ maxLen) :
    Calls Try.prog 38 #[.slice la L.length lc, .int .i64 (n : Int)] w fun e w' => ∃ v, e = .returned v ∧ w'.ownsRow w.heap.size 3 1 v (pathP L n).length (intCells (pathP L n)) ∧ Below w.heap.size w w' := by
  have hlm' := hlm
  unfold maxLen at hlm
  have hup : UpOk L := by have := ndT_up s k; rw [hok.2.2] at this; exact this
  have h40 := hok.len.2
  obtain ⟨iI, hiI, hi0, hi1, hi2⟩ := info_parts Try.infoInt
  have HT := hide (otree_any la lc L w hL (by omega) hlc hlm')
  have HOK := hide hok
  have HUP := hide hup
  clear hok hup
  go_enter Try.func38, Try.ntmps38
  go_wp2_with fail
  refine Calls.mono HT.out ?_
  rintro e w1 ⟨hte, hB1⟩
  obtain ⟨s1, ka1, cap1, k1, rfl⟩ : ∃ s1 ka1 cap1 k1, e = .returned (.tuple #[.agg #[.string s1, .slice ka1 (flen k1) cap1], .int .i64 0]) := by
    rcases hte with ⟨c, _, hno, _⟩ | ⟨s1, ka1, cap1, k1, _, rfl, _⟩
    · exact absurd HOK.out (hno s k)
    · exact ⟨s1, ka1, cap1, k1, rfl⟩
  clear hte HT
  have hdn : decide ((n : Int) < 0) = false := decide_eq_false (by omega)
  have hdl : decide ((L.length : Int) ≤ (n : Int)) = false := decide_eq_false (by omega)
  have hdl2 : decide (L.length ≤ n) = false := decide_eq_false (by omega)
  have hL1 := hL.below hB1
  clear hL
  go_wp2_with fail
  have hbw : Below w.heap.size w (w1.alloc (Obj.cells #[Value.string s1, Value.slice ka1 (flen k1) cap1] 24)) := hB1.alloc hB1.size _
  have hL2 := hL1.below ((Below.refl _ _).alloc (Nat.le_refl _) (Obj.cells #[Value.string s1, Value.slice ka1 (flen k1) cap1] 24))
  obtain ⟨W, hW⟩ : ∃ W, W = w1.alloc (Obj.cells #[Value.string s1, Value.slice ka1 (flen k1) cap1] 24) := ⟨_, rfl⟩
  rw [← hW] at hbw hL2 ⊢
  clear hW hL1 hB1
  rcases hL2 with hL2 | ⟨b, o, rfl, hL2⟩
  · rw [hL2] at hn; simp at hn
  have HL2 := hide hL2
  clear hL2
  go_loopg [1, 7] (L.length - n) (fun gk v1 v7 wr => ∃ (m f : Nat) (A : List Nat), gk = L.length - m ∧ m < L.length ∧ v1 = .int .i64 (m : Nat) ∧ L.length ≤ m + f ∧ A.length + f = L.length ∧ Hid (pathUp L L.length n = A ++ pathUp L f m) ∧ Hid (wr.ownsRow W.heap.size 3 1 v7 A.length (intCells A)) ∧ Below W.heap.size W wr)
  case atStart => exact ⟨n, L.length, [], rfl, hn, rfl, by omega, by simp, rfl, ⟨rfl, Or.inl ⟨rfl, rfl⟩⟩, Below.refl _ _⟩
  case round =>
    obtain ⟨m, f, A, hgk, hm, rfl, hmf, hAf, hrun, hown, hbr⟩ := hrel
    obtain ⟨x, hx⟩ : ∃ x, L[m]? = some x := ⟨_, List.getElem?_eq_getElem hm⟩
    obtain ⟨x0, x1, x2, _⟩ := HL2.out m x hx
    have hbl : b < W.heap.size := World.block_lt_of_cell? _ _ x0
    have x1' : wr.cell? ⟨b, o + m * 3 + 1, none⟩ = some (.int .i64 x.par) := by rw [hbr.cell hbl]; exact x1
    obtain ⟨f, rfl⟩ : ∃ f', f = f' + 1 := ⟨f - 1, by omega⟩
    obtain ⟨va, vc, hve, hvl, hvm⟩ := ownsN_form hown.out
    subst hve
    unfold maxLen at hvm
    have hzW := hbr.size
    have hup := HUP.out m x hx
    by_cases hneg : x.par < 0
    · have hd : decide (0 ≤ x.par) = false := decide_eq_false (by omega)
      have HP := hide (show pathP L n = A.reverse by
        unfold pathP
        rw [hrun.out, pathUp, hx]
        simp only
        rw [if_pos hneg, List.append_nil])
      have HRV := hide (rev_any W.heap.size (Value.slice va A.length vc) A wr hown.out (by omega))
      clear hneg hup
      go_wp2_with fail
      refine Calls.mono HRV.out ?_
      rintro e w5 ⟨rfl, hrow5, hg5⟩
      have hB5 : Below W.heap.size W w5 := hbr.grown hg5 hbr.size (fun g hg => (ownBlockN_lt hown.out hg).1)
      have HR5 := hide hrow5
      clear hrow5 hg5 HRV
      go_wp2_with fail
      go_ret
      refine ⟨Value.slice va A.length vc, rfl, ?_, hbw.trans (hB5.mono hbw.size)⟩
      rw [HP.out, List.length_reverse]
      have h5 := HR5.out
      rcases h5.2 with ⟨h6, h7⟩ | ⟨g, cap, cur, h6, h7, h8⟩
      · exact ⟨h5.1, Or.inl ⟨h6, h7⟩⟩
      · exact ⟨h5.1, Or.inr ⟨g, cap, cur, h6, Nat.le_trans hbw.size h7, h8⟩⟩
    · have hd : decide (0 ≤ x.par) = true := decide_eq_true (by omega)
      obtain ⟨q, hq⟩ : ∃ q : Nat, x.par = (q : Int) := ⟨x.par.toNat, by omega⟩
      have hmq : m < q ∧ q < L.length := by omega
      have HRUN := hide (show pathUp L L.length n = (A ++ [cnt x.par (L.take m)]) ++ pathUp L f q by
        rw [hrun.out, pathUp, hx]
        simp only
        rw [if_neg hneg, hq]
        simp)
      have hNr : NIn wr (some ⟨b, o, none⟩) L := NIn.below (Or.inr ⟨b, o, rfl, HL2.out⟩) hbr
      have hcn : cnt x.par (L.take m) ≤ 40 := by
        have := cnt_le x.par (L.take m)
        rw [List.length_take] at this
        omega
      have hah := ahead_any (some ⟨b, o, none⟩) lc L m x wr hNr hx (by omega) hlc hlm'
      obtain ⟨C, hC⟩ : ∃ C, C = cnt x.par (L.take m) := ⟨_, rfl⟩
      rw [← hC] at hah HRUN hcn
      have HAH := hide hah
      rw [hq] at x1'
      clear hah hC hq hneg hup hd hx hNr
      have hd : decide (0 ≤ (q : Int)) = true := decide_eq_true (by omega)
      go_wp2_with fail
      refine Calls.mono HAH.out ?_
      rintro e w5 ⟨rfl, hb5⟩
      have hr5 := ownsN_below hown.out hb5
      have hz5 := hb5.size
      have x15 : w5.cell? ⟨b, o + m * 3 + 1, none⟩ = some (.int .i64 (q : Int)) := by rw [hb5.cell (show b < wr.heap.size by omega)]; exact x1'
      go_wp2_with (at_builtin; refine wpList_append_lies _ rfl (.tmp 36) (.tmp 40) 25 rfl W.heap.size 3 iI _ 1 8 Try.underlying25 hiI hi0 hi1 hi2 rfl (by decide) _ A.length _ rfl (ownsN_below hr5 ((Below.refl _ _).alloc (Nat.le_refl _) _)) ⟨w5.heap.size, 0, none⟩ 1 1 [Value.int .i64 (C : Int)] rfl rfl (int_news w5 3 (C : Int)) (by simp [Value.oneCell']) (by decide) (by unfold maxLen; omega) (by omega) (by simp; omega) (w5.heap.size + 1) (by simp) ?_)
      intro g7 cap7 w7 hown7 hgrow7 hat7 hlt7
      have hB7 : Below W.heap.size W w7 := ((hbr.trans (hb5.mono hbr.size)).alloc (by omega) (Obj.cells #[Value.int .i64 (C : Int)] 3)).grown hgrow7 (by simp; omega) (fun g hg => (ownBlockN_lt hr5 hg).1)
      have x17 : w7.cell? ⟨b, o + m * 3 + 1, none⟩ = some (.int .i64 (q : Int)) := by
        have hh : w7.cell? ⟨b, o + m * 3 + 1, none⟩ = W.cell? ⟨b, o + m * 3 + 1, none⟩ := hB7.cell hbl
        have hh2 : wr.cell? ⟨b, o + m * 3 + 1, none⟩ = W.cell? ⟨b, o + m * 3 + 1, none⟩ := hbr.cell hbl
        rw [hh, ← hh2]
        exact x1'
      have HO7 := hide hown7
      clear hown7 hgrow7 hat7 hr5 x1 x15 hb5 x1'
      go_wp2_with fail
      go_roundg (L.length - q)
      case measure => omega
      case rel =>
        refine ⟨q, f, A ++ [C], rfl, hmq.2, rfl, by omega, by simp; omega, HRUN, ?_, hB7⟩
        show World.ownsRow _ _ _ _ _ _ _
        have := HO7.out
        simpa [intCells] using this
end Go.Proofs.Ytafojlockiekfaa
namespace Go.Proofs.Ytafojlockiekfaa
open Go.Deep Go.RowKit
set_option linter.unusedVariables false
set_option maxRecDepth 20000

def ints (l : List Nat) : List Int := l.map fun (n : Nat) => (n : Int)
theorem ints_length (l : List Nat) : (ints l).length = l.length := by simp [ints]
theorem ints_inj {a b : List Nat} (h : ints a = ints b) : a = b := by
  have : (ints a).map Int.toNat = (ints b).map Int.toNat := by rw [h]
  simpa [ints, Function.comp_def] using this
theorem PIn_of_owns {w : World} {B T : Nat} {va : Option Addr} {n vc : Nat} {l : List Nat} (h : w.ownsRow B T 1 (.slice va n vc) n (intCells l)) : PIn w va (ints l) := by
  rcases h.2 with ⟨hv, h0⟩ | ⟨g, cap, cur, hv, _⟩
  · left
    have := h.1
    simp only [intCells, List.length_map] at this
    have : l = [] := List.eq_nil_of_length_eq_zero (by omega)
    rw [this]; rfl
  · right
    injection hv with h1 h2 h3
    subst h1
    refine ⟨g, 0, rfl, fun i q hq => ?_⟩
    have hc : w.ownsRow B T 1 (.slice (some ⟨g, 0, none⟩) n vc) n (intCells l) := h
    refine ownsRow_cell hc i _ ?_
    simp only [ints, List.getElem?_map, Option.map_eq_some_iff] at hq
    obtain ⟨a, ha, rfl⟩ := hq
    exact intCells_at ha

set_option maxHeartbeats 1000000 in
theorem sameI_any (la lb : Option Addr) (lc mc : Nat) (L M : List Int) (w : World) (hL : PIn w la L) (hM : PIn w lb M) (hl : L.length ≤ 100000) (hm : M.length ≤ maxLen) :
    Calls Try.prog 37 #[.slice la L.length lc, .slice lb M.length mc] w fun e w' => e = .returned (.bool (decide (L = M))) ∧ Below w.heap.size w w' := by
  unfold maxLen at hm
  by_cases hlen : L.length = M.length
  · have hb : ((L.length : Int) == (M.length : Int)) = true := beq_iff_eq.2 (by omega)
    rw [← hlen]
    have HLE := hide hlen
    have hle1 : M.length ≤ L.length := by omega
    clear hlen
    go_enter Try.func37, Try.ntmps37
    go_wp2_with fail
    go_loopg [5] L.length (fun gk v wr => ∃ i : Nat, gk = L.length - i ∧ i ≤ L.length ∧ v = .int .i64 (i : Nat) ∧ Hid (L.take i = M.take i) ∧ Below w.heap.size w wr)
    case atStart => exact ⟨0, rfl, Nat.zero_le _, rfl, rfl, Below.refl _ _⟩
    case round =>
      obtain ⟨i, hgk, hi, rfl, hsame, hbr⟩ := hrel
      by_cases hlt : i < L.length
      · obtain ⟨x, hx⟩ : ∃ x, L[i]? = some x := ⟨_, List.getElem?_eq_getElem hlt⟩
        obtain ⟨y, hy⟩ : ∃ y, M[i]? = some y := ⟨_, List.getElem?_eq_getElem (by have := HLE.out; omega)⟩
        rcases hL with hL | ⟨b, o, rfl, hL⟩
        · rw [hL] at hlt; simp at hlt
        rcases hM with hM | ⟨c, q, rfl, hM⟩
        · rw [hM] at hy; simp at hy
        have x0 := hL i x hx
        have y0 := hM i y hy
        have hbl : b < w.heap.size := World.block_lt_of_cell? _ _ x0
        have hcl : c < w.heap.size := World.block_lt_of_cell? _ _ y0
        have x0' : wr.cell? ⟨b, o + i, none⟩ = some (.int .i64 x) := by rw [hbr.cell hbl]; exact x0
        have y0' : wr.cell? ⟨c, q + i, none⟩ = some (.int .i64 y) := by rw [hbr.cell hcl]; exact y0
        have HX := hide hx
        have HY := hide hy
        clear x0 y0 hL hM hx hy
        by_cases h1 : x = y
        · have h1b : (x == y) = true := beq_iff_eq.2 h1
          have HT := hide (show L.take (i + 1) = M.take (i + 1) by
            have h4 := HX.out
            have h5 := HY.out
            rw [List.getElem?_eq_getElem hlt] at h4
            have hlm : i < M.length := by have := HLE.out; omega
            rw [List.getElem?_eq_getElem hlm] at h5
            rw [List.take_succ_eq_append_getElem hlt, List.take_succ_eq_append_getElem hlm, hsame.out]
            have e1 : L[i] = x := by simpa using h4
            have e2 : M[i] = y := by simpa using h5
            rw [e1, e2, h1])
          clear h1
          go_wp2_with fail
          go_quiet (fail)
          go_wp2_with fail
          go_roundg (L.length - (i + 1))
          case measure => omega
          case rel => exact ⟨i + 1, rfl, by omega, by go_num, HT.out, below_drewN hbr _⟩
        · have h1b : (x == y) = false := beq_eq_false_iff_ne.2 h1
          have HV := hide (show decide (L = M) = false from decide_eq_false (fun e => h1 (by
            have h2 := HX.out
            rw [e, HY.out] at h2
            simpa using h2.symm)))
          clear h1
          go_wp2_with fail
          go_quiet (fail)
          go_wp2_with fail
          go_ret
          exact ⟨by rw [HV.out]; rfl, below_drewN hbr _⟩
      · have HV := hide (show decide (L = M) = true from decide_eq_true (by
          have h1 := hsame.out
          rw [List.take_of_length_le (by omega), List.take_of_length_le (by have := HLE.out; omega)] at h1
          exact h1))
        go_wp2_with fail
        go_ret
        exact ⟨by rw [HV.out]; rfl, hbr⟩
  · have hb : ((L.length : Int) == (M.length : Int)) = false := beq_eq_false_iff_ne.2 (by omega)
    have HNE := hide (show decide (L = M) = false from decide_eq_false (fun e => hlen (by rw [e])))
    clear hlen
    go_enter Try.func37, Try.ntmps37
    go_wp2_with fail
    go_ret
    exact ⟨by rw [HNE.out]; rfl, Below.refl _ _⟩

end Go.Proofs.Ytafojlockiekfaa
namespace Go.Proofs.Ytafojlockiekfaa
open Go.Deep Go.RowKit
set_option linter.unusedVariables false
set_option maxRecDepth 20000

def obK : Fo := .node 0 0 (⟨#[98]⟩, none, 0) .nil (.node 0 0 (⟨#[99]⟩, none, 0) (.node 0 0 (⟨#[100]⟩, none, 0) .nil .nil) .nil)
def obF (n : Nat) : Fo := .node (n + 1) 0 (⟨#[98]⟩, none, 0) .nil (.node (n + 1) 2 (⟨#[99]⟩, some ⟨n, 0, none⟩, 1) (.node n 0 (⟨#[100]⟩, none, 0) .nil .nil) .nil)
def obL : List Nd := [⟨⟨#[98]⟩, 3, 0⟩, ⟨⟨#[100]⟩, 2, 1⟩, ⟨⟨#[99]⟩, 3, 1⟩, ⟨⟨#[97]⟩, -1, 0⟩]
theorem obF_strip (n : Nat) : strip (obF n) = obK := rfl
theorem obK_fault : faultT ⟨#[97]⟩ obK = 0 := by kernel_rfl
theorem obF_fault (n : Nat) : faultT ⟨#[97]⟩ (obF n) = 0 := by rw [← faultT_strip, obF_strip]; exact obK_fault
theorem obK_nd : ndT 0 ⟨#[97]⟩ obK (-1) = obL := by rfl
theorem obF_nd (n : Nat) : ndT 0 ⟨#[97]⟩ (obF n) (-1) = obL := by rw [← ndT_strip, obF_strip]; exact obK_nd
theorem obL_ok : TOk obL ⟨#[97]⟩ obK := ⟨by rw [← obK_nd, growP_ndT]; rfl, obK_fault, obK_nd⟩
theorem obL_path : pathP obL 1 = [1, 0] := by rfl

set_option maxHeartbeats 1000000 in
theorem obegun_any (w : World) : Calls Try.prog 31 #[] w fun e w' => e = .returned (.bool true) ∧ Below w.heap.size w w' := by
  obtain ⟨W, hW⟩ : ∃ W, W = (w.alloc (Obj.cells #[Value.string ⟨#[100]⟩, Value.slice none 0 0] 24)).alloc (Obj.cells #[Value.string ⟨#[98]⟩, Value.slice none 0 0, Value.string ⟨#[99]⟩, Value.slice (some ⟨w.heap.size, 0, none⟩) 1 1] 24) := ⟨_, rfl⟩
  have hB : Below w.heap.size w W := by rw [hW]; exact ((Below.refl _ _).alloc (Nat.le_refl _) _).alloc (by simp) _
  have h0 : W.heap[w.heap.size]? = some (Obj.cells #[Value.string ⟨#[100]⟩, Value.slice none 0 0] 24) := by rw [hW, Below.heap_alloc _ _ _ (by simp)]; exact heap_alloc_new _ _
  have h1 : W.heap[w.heap.size + 1]? = some (Obj.cells #[Value.string ⟨#[98]⟩, Value.slice none 0 0, Value.string ⟨#[99]⟩, Value.slice (some ⟨w.heap.size, 0, none⟩) 1 1] 24) := by
    rw [hW, show w.heap.size + 1 = (w.alloc (Obj.cells #[Value.string ⟨#[100]⟩, Value.slice none 0 0] 24)).heap.size by simp]
    exact heap_alloc_new _ _
  have hsz : ∀ c : UInt8, (⟨#[c]⟩ : ByteArray).size ≤ maxLen := fun c => by show 1 ≤ maxLen; unfold maxLen; omega
  have hT : TIn W ⟨#[97]⟩ (some ⟨w.heap.size + 1, 0, none⟩) 2 (obF w.heap.size) := by
    have m0 : 0 ≤ maxLen := Nat.zero_le _
    have m1 : 1 ≤ maxLen := by unfold maxLen; omega
    have m2 : 2 ≤ maxLen := by unfold maxLen; omega
    refine ⟨hsz _, Nat.le_refl 2, m2, Or.inr ⟨w.heap.size + 1, 0, rfl, ?_⟩⟩
    refine ⟨rfl, rfl, by rw [cell_of_row _ _ 0 _ _ _ h1]; rfl, by rw [cell_of_row _ _ 1 _ _ _ h1]; rfl, hsz _, Nat.le_refl 0, m0, Or.inl rfl, ?_⟩
    refine ⟨rfl, rfl, by rw [cell_of_row _ _ 2 _ _ _ h1]; rfl, by rw [cell_of_row _ _ 3 _ _ _ h1]; rfl, hsz _, Nat.le_refl 1, m1, Or.inr ⟨w.heap.size, 0, rfl, ?_⟩, trivial⟩
    exact ⟨rfl, rfl, by rw [cell_of_row _ _ 0 _ _ _ h0]; rfl, by rw [cell_of_row _ _ 1 _ _ _ h0]; rfl, hsz _, Nat.le_refl 0, m0, Or.inl rfl, trivial⟩
  have hP : FPlain W (obF w.heap.size) := ⟨⟨_, _, h1⟩, trivial, ⟨_, _, h1⟩, ⟨⟨_, _, h0⟩, trivial, trivial⟩, trivial⟩
  have hof := of_of (fun c => c = faultT ⟨#[97]⟩ (obF w.heap.size)) ⟨#[97]⟩ (some ⟨w.heap.size + 1, 0, none⟩) 2 (obF w.heap.size) W hT (fun h => h.symm) (fun W' hW' => by
    refine (check_any _ _ _ _ W' (hT.below hW') (hP.below hW') (by show 1 + 3 ≤ 200; omega)).mono ?_
    rintro e w' ⟨rfl, hb⟩
    exact ⟨⟨_, rfl, rfl⟩, hb⟩)
  have HOF := hide hof
  have HW := hide hB
  clear hof hT hP h0 h1 hsz hB
  go_enter Try.func31, Try.ntmps31
  go_wp2_with fail
  rw [← hW]
  clear hW
  refine Calls.mono HOF.out ?_
  rintro e w2 ⟨hoe, hb2⟩
  obtain ⟨va, vc, hN, hvl, hvm, rfl⟩ : ∃ va vc, NIn w2 va obL ∧ 4 ≤ vc ∧ vc ≤ maxLen ∧ e = .returned (.tuple #[.slice va 4 vc, .int .i64 0]) := by
    rcases hoe with ⟨c, hc, hc0, _⟩ | ⟨_, v, rfl, hrow⟩
    · rw [obF_fault] at hc
      exact absurd hc hc0
    · obtain ⟨va, vc, rfl, hvl, hvm⟩ := ownsN_form hrow
      refine ⟨va, vc, ?_, hvl, hvm, rfl⟩
      have := NIn_of_owns hrow (ndT_labs (fault_zero (obF_fault w.heap.size)).2.2)
      rw [obF_nd] at this
      exact this
  clear hoe HOF
  have hB2 := HW.out.trans (hb2.mono HW.out.size)
  have hvm' := hvm
  unfold maxLen at hvm
  have HTR := hide (otree_any va vc obL w2 hN (by decide) hvl hvm')
  rw [show obL.length = 4 from rfl] at HTR
  go_wp2_with fail
  refine Calls.mono HTR.out ?_
  rintro e w3 ⟨hte, hb3⟩
  obtain ⟨s1, ka1, cap1, k1, hk1, rfl⟩ : ∃ s1 ka1 cap1 k1, flen k1 = 2 ∧ e = .returned (.tuple #[.agg #[.string s1, .slice ka1 (flen k1) cap1], .int .i64 0]) := by
    rcases hte with ⟨c, _, hno, _⟩ | ⟨s1, ka1, cap1, k1, hok, rfl, _⟩
    · exact absurd obL_ok (hno _ _)
    · refine ⟨s1, ka1, cap1, k1, ?_, rfl⟩
      have := (hok.uniq obL_ok).2
      rw [← flen_strip, this]
      rfl
  rw [hk1]
  clear hte HTR hk1
  have hB3 := hB2.trans (hb3.mono hB2.size)
  have hN3 := hN.below hb3
  have hbx : Below w3.heap.size w3 (w3.alloc (Obj.cells #[Value.string s1, Value.slice ka1 2 cap1] 24)) := (Below.refl _ _).alloc (Nat.le_refl _) _
  have hN4 := hN3.below hbx
  have hB4 := hB3.trans (hbx.mono hB3.size)
  rcases hN4 with hN4 | ⟨b, o, rfl, hN4⟩
  · exact absurd hN4 (by decide)
  obtain ⟨c10, c11, c12, _⟩ := hN4 1 _ rfl
  obtain ⟨c30, c31, c32, _⟩ := hN4 3 _ rfl
  have HN4 := hide hN4
  clear hN hN3 hN4 hb3 hb2
  have HPA := hide (path_good (some ⟨b, o, none⟩) vc obL ⟨#[97]⟩ obK 1 _ (Or.inr ⟨b, o, rfl, HN4.out⟩) obL_ok (by decide) hvl hvm')
  rw [show obL.length = 4 from rfl, show ((1 : Nat) : Int) = 1 from rfl] at HPA
  go_wp2_with fail
  refine Calls.mono HPA.out ?_
  rintro e w5 ⟨v5, rfl, hrow5, hb5⟩
  rw [obL_path] at hrow5
  obtain ⟨p5, q5, rfl, _, _⟩ := ownsN_form hrow5
  have hB5 := hB4.trans (hb5.mono hB4.size)
  have hb6 : Below w5.heap.size w5 (w5.alloc (Obj.cells #[Value.int .i64 1, Value.int .i64 0] 3)) := (Below.refl _ _).alloc (Nat.le_refl _) _
  have hI1 := (PIn_of_owns hrow5).below hb6
  have h6 : (w5.alloc (Obj.cells #[Value.int .i64 1, Value.int .i64 0] 3)).heap[w5.heap.size]? = some (Obj.cells #[Value.int .i64 1, Value.int .i64 0] 3) := heap_alloc_new _ _
  have hI2 : PIn (w5.alloc (Obj.cells #[Value.int .i64 1, Value.int .i64 0] 3)) (some ⟨w5.heap.size, 0, none⟩) [1, 0] := Or.inr ⟨w5.heap.size, 0, rfl, fun i q hq => by
    match i, hq with
    | 0, hq => simp at hq; subst hq; rw [cell_of_row _ _ _ _ _ _ h6]; rfl
    | 1, hq => simp at hq; subst hq; rw [cell_of_row _ _ _ _ _ _ h6]; rfl
    | i + 2, hq => simp at hq⟩
  have hsi := sameI_any p5 (some ⟨w5.heap.size, 0, none⟩) q5 2 (ints [1, 0]) [1, 0] _ hI1 hI2 (by decide) (by unfold maxLen; decide)
  have HSI := hide hsi
  have HB6 := hide (hB5.trans (hb6.mono hB5.size))
  clear hsi hI1 hI2 h6 hb6 hrow5 HPA hB5 hb5
  rw [show (ints [1, 0]).length = 2 from rfl, show ([1, 0] : List Int).length = 2 from rfl, show decide (ints [1, 0] = [1, 0]) = true from by decide] at HSI
  go_wp2_with fail
  refine Calls.mono HSI.out ?_
  rintro e w7 ⟨rfl, hb7⟩
  go_wp2_with fail
  go_ret
  exact ⟨rfl, HB6.out.trans (hb7.mono HB6.out.size)⟩
end Go.Proofs.Ytafojlockiekfaa
