/- slices.Grow and slices.Concat at lists of numbers. Of the program's text. -/
/- joined and swapped of package deed: lists of its own. Of the program's text. -/
/- The closure of package deed's name: the node has the label, and what undoes it is noted. Of the program's text. -/
import Derived.Test.YtcknganggcbkjabProg
import Derived.Test.YtcknganggcbkjabGS02
import Derived.Deep.LoopGhost
import Derived.WalkSmall
import Derived.Test.YtcknganggcbkjabGS23
import Derived.Test.YtcknganggcbkjabGS10
import Derived.Test.YtcknganggcbkjabGS04
import Derived.Deep.RegionHeld3
import Derived.Test.YtcknganggcbkjabGS09
import Derived.Test.YtcknganggcbkjabGS13
namespace Go.Proofs.Ytcknganggcbkjab.Deed
open Go.Deep Go.RowKit
set_option linter.unusedVariables false
set_option maxRecDepth 20000

theorem Try.infoInt : (Try.prog.info? 3).map (fun i => (i.zero, i.size, i.bytes)) = some (some (.int .i64 0), 1, 8) := by kernel_rfl

set_option maxHeartbeats 2000000 in
theorem growI_any (n : Nat) (hn : n ≤ 100000) (w : World) :
    Calls Try.prog 117 #[.slice none 0 0, .int .i64 (n : Int)] w fun e w' => ∃ va vc, e = .returned (.slice va 0 vc) ∧ w'.ownsRow w.heap.size 3 1 (.slice va 0 vc) 0 [] ∧ Below w.heap.size w w' := by
  obtain ⟨i0, hi0, hz0, hz1, hz2⟩ := info_parts Try.infoInt
  rcases Nat.eq_zero_or_pos n with h0 | h0
  · subst h0
    go_enter Try.func117, Try.ntmps117
    go_wp2_with fail
    go_ret
    exact ⟨none, 0, rfl, World.ownsRow_nil _ _ _ _, Below.refl _ _⟩
  · have hr := Go.Lib.run_append_nil_zeros (P := Try.prog) w 42 3 42 3 i0 _ .i64 .i64 Try.underlying42 Try.underlying3 hi0 hz0 n h0 (by rw [hz1]; decide) (by omega) (by rw [hz2]; omega)
    have hG := grownCap_le_maxLen w n 0 3 (by unfold maxLen; omega)
    have hGe := grownCap_ge w n 0 3
    obtain ⟨G, hGG⟩ : ∃ G, G = grownCap w n 0 3 := ⟨_, rfl⟩
    rw [← hGG] at hr hG hGe
    obtain ⟨cur, hcur⟩ : ∃ cur, cur = Builtin.zeroCells (.int .i64 0 : Value).cells n ++ Builtin.zeroCells (.int .i64 0 : Value).cells (G - n) := ⟨_, rfl⟩
    rw [← hcur] at hr
    have hcs : cur.size = G * 1 := by
      rw [hcur]
      simp [Builtin.zeroCells, Value.cells]
      omega
    clear hcur hGG
    have hp : (0 : Int) < (n : Int) := by omega
    have hG' := hG
    unfold maxLen at hG'
    go_enter Try.func117, Try.ntmps117
    go_wp2_with (at_builtin; refine Go.Lib.wpList_append_run _ rfl _ _ _ _ rfl _ _ rfl rfl _ _ hr ?_)
    go_ret
    refine ⟨_, G, rfl, owns_fresh (cur := cur) (Nat.le_refl _) (by show (w.alloc _).heap[w.heap.size]? = _; exact heap_alloc_new _ _) hG hcs, ?_⟩
    exact (Below.refl _ w).drew.alloc (by simp) _

set_option maxHeartbeats 4000000 in
theorem concatI_any (g cm : Nat) (srcs : List Src) (w : World) (fr : Nat × Nat) (hg : w.heap[g]? = some (.cells (srcs.map Src.val).toArray 42 fr)) (hs : ∀ s, s ∈ srcs → SrcIn w 1 s) (hm : srcs.length ≤ 10) (hn : tot srcs ≤ 100000) :
    Calls Try.prog 111 #[.slice (some ⟨g, 0, none⟩) srcs.length cm] w fun e w' => ∃ va vc, e = .returned (.slice va (tot srcs) vc) ∧ w'.ownsRow w.heap.size 3 1 (.slice va (tot srcs) vc) (tot srcs) (srcs.flatMap (·.xs)) ∧ Below w.heap.size w w' := by
  obtain ⟨i0, hi0, hz0, hz1, hz2⟩ := info_parts Try.infoInt
  have hcell : ∀ i s, srcs[i]? = some s → w.cell? ⟨g, i, none⟩ = some (.slice s.a s.n s.c) := fun i s hi => by
    rw [cell_of_row _ _ i _ _ _ hg]
    simp [hi, Src.val]
  have hgw : g < w.heap.size := by
    rcases Nat.lt_or_ge g w.heap.size with h | h
    · exact h
    · rw [Array.getElem?_eq_none h] at hg
      cases hg
  clear hg
  have HS := hide hs
  have HC := hide hcell
  clear hs hcell
  go_enter Try.func111, Try.ntmps111
  go_wp2_with fail
  go_loopg [3, 11] srcs.length (fun gk v3 v11 wr => ∃ i : Nat, gk = srcs.length - i ∧ i ≤ srcs.length ∧ v3 = .int .i64 (tot (srcs.take i) : Nat) ∧ v11 = .int .i64 (i : Nat) ∧ wr = w)
  case atStart => exact ⟨0, rfl, Nat.zero_le _, by simp [tot], rfl, rfl⟩
  case round =>
    obtain ⟨i, hgk, hi, rfl, rfl, hwr⟩ := hrel
    obtain ⟨wA, hwA⟩ : ∃ wA, wA = wr := ⟨_, rfl⟩
    rw [← hwA]
    have hwB : wA = w := hwA.trans hwr
    clear hwA hwr
    subst hwB
    by_cases hin : i < srcs.length
    · obtain ⟨sa, sn, sc, hc, B, hw, hneg, HT⟩ : ∃ sa sn sc, wA.cell? ⟨g, i, none⟩ = some (.slice sa sn sc) ∧ ∃ B : Nat, wrap64 ((tot (srcs.take i) : Int) + (sn : Int)) = (B : Int) ∧ decide ((B : Int) < 0) = false ∧ Hid (tot (srcs.take (i + 1)) = B) := by
        obtain ⟨s, hsi⟩ : ∃ s, srcs[i]? = some s := ⟨_, List.getElem?_eq_getElem hin⟩
        have ht : tot (srcs.take (i + 1)) = tot (srcs.take i) + s.n := by
          rw [List.take_succ_eq_append_getElem hin, tot_append, show srcs[i] = s by simpa [List.getElem?_eq_getElem hin] using hsi]
          simp [tot]
        have hle := tot_take srcs (i + 1)
        exact ⟨s.a, s.n, s.c, HC.out i s hsi, _, wrap_sum _ _ (by omega), by simp <;> omega, ht⟩
      obtain ⟨A, hA⟩ : ∃ A, A = tot (srcs.take i) := ⟨_, rfl⟩
      rw [← hA] at hw ⊢
      clear hA
      go_wp2_with fail
      go_roundg (srcs.length - (i + 1))
      case measure => omega
      case rel => exact ⟨i + 1, rfl, by omega, by rw [HT.out, hw], by go_num, rfl⟩
    · have hie : i = srcs.length := by omega
      subst hie
      rw [List.take_length]
      clear hgk
      go_wp2_with fail
      refine (growI_any (tot srcs) hn _).mono ?_
      rintro e w1 ⟨va0, vc0, rfl, hown0, hb0⟩
      have HO := hide hown0
      clear hown0
      go_wp2_with fail
      go_loopg [6, 27] srcs.length (fun gk v6 v27 wx => ∃ (i : Nat) (va : Option Addr) (vc : Nat), gk = srcs.length - i ∧ i ≤ srcs.length ∧ v6 = .slice va (tot (srcs.take i)) vc ∧ v27 = .int .i64 (i : Nat) ∧ wx.ownsRow wA.heap.size 3 1 (.slice va (tot (srcs.take i)) vc) (tot (srcs.take i)) ((srcs.take i).flatMap (·.xs)) ∧ Below wA.heap.size wA wx)
      case atStart => exact ⟨0, va0, vc0, rfl, Nat.zero_le _, by simp [tot], rfl, by simpa [tot] using HO.out, hb0⟩
      case round =>
        obtain ⟨wx, hwx⟩ : ∃ wx, wx = wr := ⟨_, rfl⟩
        subst hwx
        obtain ⟨i, va, vc, hgk, hi, rfl, rfl, hown, hb⟩ := hrel
        by_cases hin2 : i < srcs.length
        · obtain ⟨s, hsi⟩ : ∃ s, srcs[i]? = some s := ⟨_, List.getElem?_eq_getElem hin2⟩
          have hc : wx.cell? ⟨g, i, none⟩ = some (.slice s.a s.n s.c) := by rw [hb.cell hgw]; exact HC.out i s hsi
          have htk : srcs.take (i + 1) = srcs.take i ++ [s] := by rw [List.take_succ_eq_append_getElem hin2, show srcs[i] = s by simpa [List.getElem?_eq_getElem hin2] using hsi]
          have hle := tot_take srcs (i + 1)
          rw [htk, tot_append] at hle
          simp only [tot] at hle
          obtain ⟨va', vc', w', hr, hown', hb'⟩ := append_src (P := Try.prog) wx 42 3 i0 _ 1 8 Try.underlying42 hi0 hz0 hz1 hz2 rfl (by decide) hown ((HS.out s (List.mem_of_getElem? hsi)).below hb) (by unfold maxLen; omega) (by omega) hb.size
          have HK := hide (And.intro hown' (hb.trans hb'))
          have HT := hide htk
          unfold Src.val at hr
          clear hown' hb' htk hsi hown
          go_wp2_with (at_builtin; refine Go.Lib.wpList_append_run _ rfl _ _ _ _ rfl _ _ rfl rfl _ _ hr ?_)
          go_roundg (srcs.length - (i + 1))
          case measure => omega
          case rel =>
            refine ⟨i + 1, va', vc', rfl, by omega, ?_, by go_num, ?_, HK.out.2⟩
            · rw [HT.out, tot_append]
              simp [tot]
            · rw [HT.out, tot_append, List.flatMap_append]
              simpa [tot] using HK.out.1
        · have hie : i = srcs.length := by omega
          subst hie
          rw [List.take_length] at hown ⊢
          have HK := hide hown
          clear hown hgk
          go_wp2_with fail
          go_ret
          exact ⟨va, vc, rfl, HK.out, hb⟩
end Go.Proofs.Ytcknganggcbkjab.Deed
namespace Go.Proofs.Ytcknganggcbkjab.Deed
open Go.Deep Go.RowKit
set_option linter.unusedVariables false
set_option maxRecDepth 20000

theorem owns_lower {w : World} {B B' e size n : Nat} {v : Value} {xs : List Value} (h : w.ownsRow B e size v n xs) (hB : B' ≤ B) : w.ownsRow B' e size v n xs := by
  refine ⟨h.1, ?_⟩
  rcases h.2 with h2 | ⟨g, cap, cur, hv, hg, r⟩
  · exact Or.inl h2
  · exact Or.inr ⟨g, cap, cur, hv, by omega, r⟩
def ints (l : List Int) : List Value := l.map fun p => Value.int .i64 p
/-- A path as a list to be read. -/
theorem src_path {w : World} {pa : Option Addr} {l : List Int} (h : PIn w pa l) (c : Nat) : SrcIn w 1 ⟨pa, l.length, c, ints l⟩ := by
  refine ⟨by simp [ints], fun u hu => ?_, ?_⟩
  · simp only [ints, List.mem_map] at hu
    obtain ⟨p, _, rfl⟩ := hu
    rfl
  · rcases h with rfl | ⟨b, o, rfl, h⟩
    · exact Or.inl rfl
    · refine Or.inr ⟨_, rfl, fun j u hu => ?_⟩
      simp only [ints, List.getElem?_map, Option.map_eq_some_iff] at hu
      obtain ⟨p, hp, rfl⟩ := hu
      have := h j p hp
      by_cases e : j = 0
      · subst e
        simpa [Addr.add] using this
      · simpa [Addr.add, e] using this
theorem path_of {w : World} {B n vc : Nat} {va : Option Addr} {l : List Int} (h : w.ownsRow B 3 1 (.slice va n vc) n (ints l)) : PIn w va l ∧ n = l.length ∧ n ≤ vc ∧ vc ≤ maxLen := by
  have hn : n = l.length := by have := h.1; simp [ints] at this; omega
  refine ⟨?_, hn, ?_⟩
  · rcases h.2 with ⟨_, h0⟩ | ⟨g, cap, cur, hv, hg, hh, h1, h2, h3, h4⟩
    · exact Or.inl (List.eq_nil_of_length_eq_zero (by omega))
    · injection hv with hv _ _
      refine Or.inr ⟨g, 0, hv, fun i p hp => ?_⟩
      have hr := h
      rw [hv] at hr
      obtain ⟨va', vc', e, _, _⟩ := ownsN_form hr
      rw [cell_of_row _ _ (0 + i) _ _ _ hh, Nat.zero_add]
      have : (ints l)[i]? = some (.int .i64 p) := by simp [ints, hp]
      rw [← h4, List.getElem?_take] at this
      split at this
      · simpa using this
      · cases this
  · obtain ⟨va', vc', e, e1, e2⟩ := ownsN_form h
    injection e with _ _ e
    subst e
    exact ⟨e1, e2⟩

set_option maxHeartbeats 1000000 in
theorem joined_any (a1 a2 : Option Addr) (c1 c2 : Nat) (l1 l2 : List Int) (w : World) (h1 : PIn w a1 l1) (h2 : PIn w a2 l2) (hn : l1.length + l2.length ≤ 10000) :
    Calls Try.prog 99 #[.slice a1 l1.length c1, .slice a2 l2.length c2] w fun e w' => ∃ va vc, e = .returned (.slice va (l1 ++ l2).length vc) ∧ PIn w' va (l1 ++ l2) ∧ (l1 ++ l2).length ≤ vc ∧ vc ≤ maxLen ∧ (∀ a, va = some a → w.heap.size ≤ a.block ∧ a.block < w'.heap.size) ∧ Below w.heap.size w w' := by
  obtain ⟨srcs, hsr⟩ : ∃ srcs, srcs = [(⟨a1, l1.length, c1, ints l1⟩ : Src), ⟨a2, l2.length, c2, ints l2⟩] := ⟨_, rfl⟩
  have hbx : Below w.heap.size w (w.alloc (Obj.cells #[.slice a1 l1.length c1, .slice a2 l2.length c2] 42)) := (Below.refl _ _).alloc (Nat.le_refl _) _
  have HC := hide (show Calls Try.prog 111 #[.slice (some ⟨w.heap.size, 0, none⟩) 2 2] (w.alloc (Obj.cells #[.slice a1 l1.length c1, .slice a2 l2.length c2] 42)) fun e w' => ∃ va vc, e = .returned (.slice va (l1 ++ l2).length vc) ∧ PIn w' va (l1 ++ l2) ∧ (l1 ++ l2).length ≤ vc ∧ vc ≤ maxLen ∧ (∀ a, va = some a → w.heap.size ≤ a.block ∧ a.block < w'.heap.size) ∧ Below w.heap.size w w' by
    have := concatI_any w.heap.size 2 srcs (w.alloc (Obj.cells #[.slice a1 l1.length c1, .slice a2 l2.length c2] 42)) (0, 0) (by rw [hsr]; exact heap_alloc_new _ _) (fun s hs => by
      rw [hsr] at hs
      simp only [List.mem_cons, List.not_mem_nil, or_false] at hs
      rcases hs with rfl | rfl
      · exact (src_path h1 c1).below hbx
      · exact (src_path h2 c2).below hbx) (by rw [hsr]; simp) (by rw [hsr]; simp [tot]; omega)
    rw [hsr] at this
    refine Calls.mono this ?_
    rintro e w' ⟨va, vc, rfl, hown, hb⟩
    have hx : ([(⟨a1, l1.length, c1, ints l1⟩ : Src), ⟨a2, l2.length, c2, ints l2⟩] : List Src).flatMap (·.xs) = ints (l1 ++ l2) := by simp [ints]
    have ht : tot [(⟨a1, l1.length, c1, ints l1⟩ : Src), ⟨a2, l2.length, c2, ints l2⟩] = (l1 ++ l2).length := by simp [tot]
    rw [hx, ht] at hown
    obtain ⟨p1, p2, p3, p4⟩ := path_of hown
    refine ⟨va, vc, by rw [ht], p1, p3, p4, fun a ha => ?_, hbx.trans (hb.mono (by simp))⟩
    have := (ownBlockN_lt hown (g := a.block) (by rw [ha]; rfl))
    simp at this
    omega)
  clear hsr hbx h1 h2
  go_enter Try.func99, Try.ntmps99
  go_wp2_with fail
  refine Calls.mono HC.out ?_
  rintro e w' ⟨va, vc, rfl, p1, p2, p3, p4, p5⟩
  have HP := hide (And.intro p1 (And.intro p4 p5))
  clear p1 p4 p5
  go_wp2_with fail
  go_ret
  exact ⟨va, vc, by simp, HP.out.1, p2, p3, HP.out.2.1, HP.out.2.2⟩

theorem items_take : ∀ (n : Nat) (f : Fo), itemsF (ftake n f) = (itemsF f).take n
  | 0, _ => by simp [ftake, itemsF]
  | _ + 1, .nil => by simp [ftake, itemsF]
  | n + 1, .node _ _ _ _ r => by simp [ftake, itemsF, items_take n r]
theorem items_drop : ∀ (n : Nat) (f : Fo), itemsF (fdrop n f) = (itemsF f).drop n
  | 0, _ => by simp [fdrop]
  | _ + 1, .nil => by simp [fdrop, itemsF]
  | n + 1, .node _ _ _ _ r => by simp [fdrop, itemsF, items_drop n r]
theorem src_row {w : World} {a : Option Addr} {k : Fo} (h : KIn w a k) (c : Nat) : SrcIn w 2 ⟨a, flen k, c, rowCells (itemsF k)⟩ := by
  refine ⟨by rw [rowCells_length, itemsF_length], rowCells_one _, ?_⟩
  rcases h with rfl | ⟨b, o, rfl, h⟩
  · exact Or.inl rfl
  · refine Or.inr ⟨_, rfl, fun j u hu => ?_⟩
    have := h.row j u hu
    by_cases e : j = 0
    · subst e
      simpa [Addr.add] using this
    · simpa [Addr.add, e] using this
/-- Some kids of a list as a list to be read. -/
theorem src_kids {w : World} {ka : Option Addr} {k : Fo} (h : KIn w ka k) (cap i m c : Nat) (hl : flen k ≤ cap) (hm : i + m ≤ flen k) : SrcIn w 2 ⟨subA ka cap i, m, c, rowCells (((itemsF k).drop i).take m)⟩ := by
  have := src_row (KIn.part h cap i m hl) c
  rw [flen_take _ _ (by rw [flen_drop]; omega), items_take, items_drop] at this
  exact this

set_option maxHeartbeats 2000000 in
theorem swapped_any (ka : Option Addr) (cap : Nat) (k : Fo) (i n : Nat) (o : Src) (w : World) (hk : KIn w ka k) (hl : flen k ≤ cap) (hc : cap ≤ maxLen) (hin : i + n ≤ flen k) (ho : SrcIn w 2 o) (hs : flen k + o.n ≤ 10000) :
    Calls Try.prog 101 #[.slice ka (flen k) cap, .int .i64 (i : Int), .int .i64 (n : Int), o.val] w fun e w' => ∃ va vc, e = .returned (.slice va (i + (o.n + (flen k - (i + n)))) vc) ∧ w'.ownsRow w.heap.size 24 2 (.slice va (i + (o.n + (flen k - (i + n)))) vc) (i + (o.n + (flen k - (i + n)))) (rowCells ((itemsF k).take i) ++ (o.xs ++ rowCells ((itemsF k).drop (i + n)))) ∧ Below w.heap.size w w' := by
  unfold Src.val
  unfold maxLen at hc
  have sl1 := slice_h ka (flen k) cap i (by omega)
  have sl2 := slice_l ka (flen k) cap (i + n) hin
  simp only [Int.natCast_add] at sl2
  have hw : IntKind.i64.wrap ((i : Int) + (n : Int)) = (i : Int) + (n : Int) := wrap_sum' i n (by omega)
  obtain ⟨W, hW⟩ : ∃ W, W = (w.alloc (Obj.cells #[.slice (subA ka cap 0) i cap, .slice o.a o.n o.c, .slice (subA ka cap (i + n)) (flen k - (i + n)) (cap - (i + n))] 22)).drew := ⟨_, rfl⟩
  have HC := hide (show Calls Try.prog 103 #[.slice (some ⟨w.heap.size, 0, none⟩) 3 3] W fun e w' => ∃ va vc, e = .returned (.slice va (i + (o.n + (flen k - (i + n)))) vc) ∧ w'.ownsRow w.heap.size 24 2 (.slice va (i + (o.n + (flen k - (i + n)))) vc) (i + (o.n + (flen k - (i + n)))) (rowCells ((itemsF k).take i) ++ (o.xs ++ rowCells ((itemsF k).drop (i + n)))) ∧ Below w.heap.size w w' by
    have hbx : Below w.heap.size w W := by rw [hW]; exact ((Below.refl _ w).alloc (Nat.le_refl _) _).drew
    have s1 := (src_kids hk cap 0 i cap hl (by omega)).below hbx
    have s3 := (src_kids hk cap (i + n) (flen k - (i + n)) (cap - (i + n)) hl (by omega)).below hbx
    simp only [List.drop_zero] at s1
    rw [List.take_of_length_le (by rw [List.length_drop, itemsF_length]; omega)] at s3
    have := concatT_any w.heap.size 3 [⟨subA ka cap 0, i, cap, rowCells ((itemsF k).take i)⟩, o, ⟨subA ka cap (i + n), flen k - (i + n), cap - (i + n), rowCells ((itemsF k).drop (i + n))⟩] W (0, 0) (by rw [hW]; exact heap_alloc_new w _) (fun s hs => by
      simp only [List.mem_cons, List.not_mem_nil, or_false] at hs
      rcases hs with rfl | rfl | rfl
      · exact s1
      · exact ho.below hbx
      · exact s3) (by simp) (by simp [tot]; omega)
    refine Calls.mono this ?_
    rintro e w' ⟨va, vc, rfl, hown, hb⟩
    have hx : ([⟨subA ka cap 0, i, cap, rowCells ((itemsF k).take i)⟩, o, ⟨subA ka cap (i + n), flen k - (i + n), cap - (i + n), rowCells ((itemsF k).drop (i + n))⟩] : List Src).flatMap (·.xs) = rowCells ((itemsF k).take i) ++ (o.xs ++ rowCells ((itemsF k).drop (i + n))) := by simp
    have ht : tot [⟨subA ka cap 0, i, cap, rowCells ((itemsF k).take i)⟩, o, ⟨subA ka cap (i + n), flen k - (i + n), cap - (i + n), rowCells ((itemsF k).drop (i + n))⟩] = i + (o.n + (flen k - (i + n))) := by simp [tot]
    rw [hx, ht] at hown
    exact ⟨va, vc, by rw [ht], owns_lower hown hbx.size, hbx.trans (hb.mono hbx.size)⟩)
  clear hk ho
  go_enter Try.func101, Try.ntmps101
  go_wp2_with fail
  go_region_held3 (fun w' => True)
    (trivial)
    ((go_at_call 103; rw [← hW]; refine Calls.mono HC.out ?_; rintro e w1 ⟨va, vc, rfl, p1, p2⟩; have HP1 := hide p1; clear p1))
  go_wp2_with fail
  go_ret
  exact ⟨va, vc, rfl, HP1.out, p2⟩
end Go.Proofs.Ytcknganggcbkjab.Deed
namespace Go.Proofs.Ytcknganggcbkjab.Deed
open Go.Deep Go.RowKit
set_option linter.unusedVariables false
set_option maxRecDepth 20000

set_option maxHeartbeats 2000000 in
theorem lookN_any (m : Nd) (c1 c2 : Nat) (d : Dd) (pa : Option Addr) (pc : Nat) (w : World) (hm : NodIn w m) (hp : BPlain w m.b) (hk : FPlain w m.k) (h1 : BackIs w c1 d pa pc) (h2 : BackIs w c2 noDd none 0) (hd : DIn w d pa pc) (n1 : m.b ≠ c1) (n2 : m.b ≠ c2) (n3 : c1 ≠ c2) (o1 : FOff m.b m.k) (o2 : FOff c2 m.k) (hl : d.path.length ≤ 60) (hs : d.lab.size ≤ 100) :
    Calls Try.prog 98 #[.pointer (some ⟨m.b, m.o, none⟩), .pointer (some ⟨c1, 0, none⟩), .pointer (some ⟨c2, 0, none⟩)] w fun e w' => e = .returned (.int .i64 0) ∧ Turn w w' m c2 (d.lab, m.ka, m.cap, m.k) ⟨1, d.path, 0, 0, m.s⟩ := by
  obtain ⟨k0, k1, k2, k3, k4, kf, _⟩ := h1
  have H2 := hide h2
  obtain ⟨z0, z1, z2, z3, z4, zf, _⟩ := h2
  have HM := hide hm
  obtain ⟨m0, m1, mt⟩ := hm
  unfold noDd at z0 z1 z2 z3 z4
  simp only at z0 z1 z2 z3 z4
  have lm : m.b < w.heap.size := World.block_lt_of_cell? _ _ m0
  have l1 : c1 < w.heap.size := World.block_lt_of_cell? _ _ k0
  have l2 : c2 < w.heap.size := World.block_lt_of_cell? _ _ z0
  have mf : ∀ o, w.frozen? ⟨m.b, o, none⟩ = false := fun o => by
    obtain ⟨c, e, h⟩ := hp
    simp [World.frozen?, h]
  have HJ := hide (fun W (h : Below w.heap.size w W) => joined_any pa none pc 0 d.path [] W (hd.path.below h) (Or.inl rfl) (by simp; omega))
  simp only [List.append_nil, List.length_nil] at HJ
  have HK := hide (And.intro hp (And.intro hk (And.intro mt (And.intro hd (And.intro o1 o2)))))
  clear hp hk mt hd o1 o2
  have hn2 : ¬ c2 ∈ [c1, m.b] := by simp; omega
  have HK0 := hide (show Kp [c1, m.b] w w.drew from (Kp.refl (by simp; omega)).drew)
  have HS := hide (fun (W : World) (h : Kp [c1, m.b] w W) => And.intro (h.cell (by simp) k1) (h.cell (by simp) m0))
  have HB0 := hide (show Below w.heap.size w w.drew from (Below.refl _ _).drew)
  go_enter Try.func98, Try.ntmps98
  go_wp2_with fail
  go_region_held3 (fun w' => w'.cell? ⟨c1, 1, none⟩ = some (.slice pa d.path.length pc) ∧ w'.cell? ⟨m.b, m.o, none⟩ = some (.string m.s))
    ((refine HS.out _ ?_; (repeat refine Kp.set ?_ hn2); first | exact HK1.out | exact HK0.out))
    ((go_at_call 99; refine Calls.mono (HJ.out _ HB0.out) ?_; rintro e w1 ⟨va, vc, rfl, p1, p2, p3, p4, hb1⟩
      have hbW : Below w.heap.size w w1 := HB0.out.trans hb1
      have y1 : w1.cell? ⟨c1, 1, none⟩ = some (.slice pa d.path.length pc) := by (rw [hbW.cell l1]; exact k1)
      have y4 : w1.cell? ⟨c1, 4, none⟩ = some (.string d.lab) := by (rw [hbW.cell l1]; exact k4)
      have p0 : w1.cell? ⟨m.b, m.o, none⟩ = some (.string m.s) := by (rw [hbW.cell lm]; exact m0)
      have pf : ∀ o, w1.frozen? ⟨m.b, o, none⟩ = false := fun o => by (rw [hbW.frozen lm]; exact mf o)
      have x0 : w1.cell? ⟨c2, 0, none⟩ = some (.int .i64 0) := by (rw [hbW.cell l2]; exact z0)
      have x1 : w1.cell? ⟨c2, 1, none⟩ = some (.slice none 0 0) := by (rw [hbW.cell l2]; exact z1)
      have x2 : w1.cell? ⟨c2, 2, none⟩ = some (.int .i64 0) := by (rw [hbW.cell l2]; exact z2)
      have x3 : w1.cell? ⟨c2, 3, none⟩ = some (.int .i64 0) := by (rw [hbW.cell l2]; exact z3)
      have x4 : w1.cell? ⟨c2, 4, none⟩ = some (.string ⟨#[]⟩) := by (rw [hbW.cell l2]; exact z4)
      have xf : ∀ o, w1.frozen? ⟨c2, o, none⟩ = false := fun o => by (rw [hbW.frozen l2]; exact zf o)
      have HK1 := hide (show Kp [c1, m.b] w w1 from HK0.out.below hb1)
      have HP := hide (And.intro p1 (And.intro p2 (And.intro p3 (And.intro p4 hbW))))
      have HX := hide (H2.out.block (w' := w1) (hbW.block c2 l2))
      clear p1 p2 p3 p4 hb1 hbW))
  go_wp2_with fail
  have hbk := set3 (set5 HX.out noDd none 0) 1 d.path m.s va vc
  have hof := (((((((Off.refl c2 w1).set (o := 0) (v := .int .i64 0)).set (o := 1) (v := .slice none 0 0)).set (o := 2) (v := .int .i64 0)).set (o := 3) (v := .int .i64 0)).set (o := 4) (v := .string ⟨#[]⟩)).set (o := 0) (v := .int .i64 1)).set (o := 1) (v := .slice va d.path.length vc) |>.set (o := 4) (v := .string m.s)
  have hbl : ∀ B, B ≤ c2 → B ≤ w1.heap.size → Below B w1 ((((((((w1.setCell ⟨c2, 0, none⟩ (.int .i64 0)).setCell ⟨c2, 1, none⟩ (.slice none 0 0)).setCell ⟨c2, 2, none⟩ (.int .i64 0)).setCell ⟨c2, 3, none⟩ (.int .i64 0)).setCell ⟨c2, 4, none⟩ (.string ⟨#[]⟩)).setCell ⟨c2, 0, none⟩ (.int .i64 1)).setCell ⟨c2, 1, none⟩ (.slice va d.path.length vc)).setCell ⟨c2, 4, none⟩ (.string m.s)) := fun B h1 _ => (((((((Below.refl B w1).setCell h1 _).setCell h1 _).setCell h1 _).setCell h1 _).setCell h1 _).setCell h1 _).setCell h1 _ |>.setCell h1 _
  unfold noDd at hbk
  simp only [List.length_nil] at hbk
  obtain ⟨w8, hw8⟩ : ∃ w8, w8 = (((((((w1.setCell ⟨c2, 0, none⟩ (.int .i64 0)).setCell ⟨c2, 1, none⟩ (.slice none 0 0)).setCell ⟨c2, 2, none⟩ (.int .i64 0)).setCell ⟨c2, 3, none⟩ (.int .i64 0)).setCell ⟨c2, 4, none⟩ (.string ⟨#[]⟩)).setCell ⟨c2, 0, none⟩ (.int .i64 1)).setCell ⟨c2, 1, none⟩ (.slice va d.path.length vc)).setCell ⟨c2, 4, none⟩ (.string m.s) := ⟨_, rfl⟩
  rw [← hw8] at hbk hof hbl ⊢
  clear hw8
  refine (clone_any d.lab _ (by omega)).mono ?_
  rintro e w2 ⟨rfl, hb2⟩
  have e8 : w8.heap[m.b]? = w.heap[m.b]? := by rw [hof.same m.b (Nat.lt_of_lt_of_le lm HP.out.2.2.2.2.size) n2, HP.out.2.2.2.2.block m.b lm]
  have l8 : w.heap.size ≤ w8.heap.size := Nat.le_trans HP.out.2.2.2.2.size hof.size
  have e2 : w2.heap[m.b]? = w.heap[m.b]? := by rw [hb2.block m.b (by omega), e8]
  have r0 : w2.cell? ⟨m.b, m.o, none⟩ = some (.string m.s) := cellN e2 m0
  have r1 : w2.cell? ⟨m.b, m.o + 1, none⟩ = some (.slice m.ka (flen m.k) m.cap) := cellN e2 m1
  have rf : ∀ o, w2.frozen? ⟨m.b, o, none⟩ = false := fun o => by rw [World.frozen?_of_block (w := w) (a := ⟨m.b, o, none⟩) e2]; exact mf o
  have HB := hide (And.intro hbk (And.intro hof (And.intro hbl hb2)))
  have HE := hide e2
  have HR := hide (And.intro r0 r1)
  clear hbk hof hbl hb2 e8 e2 r1 k0 k1 k2 k3 k4 kf z0 z1 z2 z3 z4 zf m0 m1 mf y1 y4 p0 pf x0 x1 x2 x3 x4 xf
  go_wp2_with fail
  go_ret
  refine ⟨rfl, ?_⟩
  obtain ⟨hp, hk, mt, hd, o1, o2⟩ := HK.out
  obtain ⟨hbk, hof, hbl, hb2⟩ := HB.out
  obtain ⟨q1, q2, q3, q4, q5⟩ := HP.out
  have hof3 : Off m.b w8 (w2.setCell ⟨m.b, m.o, none⟩ (.string d.lab)) := ((Off.refl m.b w8).below hb2).set
  obtain ⟨t1, t2⟩ := kids_two mt.kids hk o1 o2 q5 hof hof3
  refine turn_of HM.out hp hk l2 n2 o1 o2 q5 hof hbl hbk q1 q4 q2 q3 mt.size hof3 (fun B h1 h2 => (hb2.mono h2).setCell h1 _) (fun o h1 h2 => ?_) (fun h => plain_set1 (h.below hb2)) ⟨cset_same HR.out.1, ?_, ⟨hd.lab, mt.len, mt.cap, t1⟩⟩ (fun B _ h => h) t2 (fun c _ h => h)
  · rw [cset_other (by omega)]
    exact hb2.cell (p := ⟨m.b, o, none⟩) (show m.b < w8.heap.size by have := hof.size; have := q5.size; omega)
  · show (w2.setCell ⟨m.b, m.o, none⟩ (.string d.lab)).cell? ⟨m.b, m.o + 1, none⟩ = _
    rw [cset_other (by omega)]
    exact HR.out.2
end Go.Proofs.Ytcknganggcbkjab.Deed
