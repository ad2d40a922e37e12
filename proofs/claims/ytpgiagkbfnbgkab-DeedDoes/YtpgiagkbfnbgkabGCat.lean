/- Lists that are put behind each other: what append comes to where the other list lies in memory, or is empty. Of no program. -/
/- slices.Grow and slices.Concat at lists of trees. Of the program's text. -/
/- slices.Grow and slices.Concat at lists of numbers. Of the program's text. -/
/- joined and swapped of package deed: lists of its own. Of the program's text. -/
import Derived.Test.YtpgiagkbfnbgkabOrdM
import Derived.Laws.OwnMore
import Derived.Lib.AppendZeros
import Derived.Test.YtpgiagkbfnbgkabProg
import Derived.Deep.LoopGhost
import Derived.WalkSmall
import Derived.Test.YtpgiagkbfnbgkabOwnRef
import Derived.Test.YtpgiagkbfnbgkabDone
import Derived.Test.YtpgiagkbfnbgkabPathIn
import Derived.Deep.RegionHeld3
namespace Go.Proofs.Ytpgiagkbfnbgkab.Deed
open Go.Deep Go.RowKit
set_option linter.unusedVariables false
set_option maxRecDepth 20000

/-- A list to be read: where, how long, its capacity, its cells. -/
structure Src where
  a : Option Addr
  n : Nat
  c : Nat
  xs : List Value
def Src.val (s : Src) : Value := .slice s.a s.n s.c
structure SrcIn (w : World) (size : Nat) (s : Src) : Prop where
  len : s.xs.length = s.n * size
  one : ∀ u ∈ s.xs, u.oneCell' = true
  lie : s.n = 0 ∨ ∃ ad, s.a = some ad ∧ ∀ j u, s.xs[j]? = some u → w.cell? (ad.add j) = some u
theorem SrcIn.below {w w' : World} {size : Nat} {s : Src} (h : SrcIn w size s) (hb : Below w.heap.size w w') : SrcIn w' size s := by
  refine ⟨h.len, h.one, ?_⟩
  rcases h.lie with h0 | ⟨ad, e, h0⟩
  · exact Or.inl h0
  · refine Or.inr ⟨ad, e, fun j u hu => ?_⟩
    have h1 := h0 j u hu
    rw [hb.cell (World.block_lt_of_cell? _ _ h1)]
    exact h1
def tot : List Src → Nat
  | [] => 0
  | s :: l => s.n + tot l
theorem tot_append : ∀ (a b : List Src), tot (a ++ b) = tot a + tot b
  | [], b => by simp [tot]
  | s :: a, b => by simp [tot, tot_append a b]; omega
theorem tot_take (l : List Src) (i : Nat) : tot (l.take i) ≤ tot l := by
  have := tot_append (l.take i) (l.drop i)
  rw [List.take_append_drop] at this
  omega

theorem wrap_sum (a b : Nat) (h : a + b ≤ 1000000) : wrap64 ((a : Int) + (b : Int)) = ((a + b : Nat) : Int) := by
  unfold wrap64
  omega
theorem wrap_sum' (a b : Nat) (h : a + b ≤ 1000000) : IntKind.i64.wrap ((a : Int) + (b : Int)) = (a : Int) + (b : Int) := by
  rw [IntKind.wrap_i64]
  omega
theorem append_none0 {P : Program} {w : World} (base : Nat) (t ty e : TypeId) (i : TypeInfo) (size : Nat) (ht : P.underlying t = some (.slice e)) (hi : P.info? e = some i)
    (v : Value) (n : Nat) (xs : List Value) (hown : w.ownsRow base e size v n xs) (c : Nat) :
    (Builtin.append_ #[t, t] ty #[v, .slice none 0 c]).run P w = .ok v w := by
  rcases hown.2 with ⟨rfl, rfl⟩ | ⟨g, cap, cur, rfl, _, _, hnc, _⟩
  · simp [Builtin.append_, run_underlying ht, sizeOf, typeInfo, hi, Builtin.lenOf, Builtin.firstCells]
  · simp [Builtin.append_, run_underlying ht, sizeOf, typeInfo, hi, Builtin.lenOf, Builtin.firstCells, hnc, storeCells]

theorem append_src {P : Program} (w : World) (t e : TypeId) (i : TypeInfo) (z : Value) (size bytes : Nat) (ht : P.underlying t = some (.slice e)) (hi : P.info? e = some i) (hz : i.zero = some z)
    (hsize : i.size = size) (hby : i.bytes = bytes) (hzs : z.cells.size = size) (hsz : 0 < size) {B n vc : Nat} {va : Option Addr} {xs : List Value} (hown : w.ownsRow B e size (.slice va n vc) n xs) {s : Src} (hs : SrcIn w size s) (h63 : n + s.n ≤ maxLen) (hbytes : (n + s.n) * bytes ≤ 140737488355328) (hB : B ≤ w.heap.size) :
    ∃ va' vc' w', (Builtin.append_ #[t, t] t #[.slice va n vc, s.val]).run P w = .ok (.slice va' (n + s.n) vc') w' ∧ w'.ownsRow B e size (.slice va' (n + s.n) vc') (n + s.n) (xs ++ s.xs) ∧ Below B w w' := by
  obtain ⟨a, m, c, ys⟩ := s
  obtain ⟨hlen, hone, hlie⟩ := hs
  simp only at hlen hone hlie h63 hbytes
  have hb : ∀ k, (Value.slice va n vc).ownBlock = some k → B ≤ k := fun k hk => (ownBlockN_lt hown hk).1
  cases a with
  | none =>
    have h0 : m = 0 := by
      rcases hlie with h0 | ⟨ad, e, _⟩
      · exact h0
      · cases e
    subst h0
    have : ys = [] := List.length_eq_zero_iff.1 (by simpa using hlen)
    subst this
    refine ⟨va, vc, w, append_none0 B t t e i size ht hi _ n xs hown c, by simpa using hown, Below.refl _ _⟩
  | some ad =>
    obtain ⟨v', w', hr, hown', hgrow, _, _⟩ := run_append_own_at (P := P) w B t t e i z size bytes ht hi hz hsize hby hzs hsz (.slice va n vc) n xs hown ad m c ys hlen (fun j u hu => by
      rcases hlie with h0 | ⟨ad', e, h0⟩
      · subst h0
        have : ys = [] := List.length_eq_zero_iff.1 (by simpa using hlen)
        subst this
        simp at hu
      · injection e with e
        subst e
        exact h0 j u hu) hone h63 hbytes hB
    obtain ⟨va', vc', rfl, _, _⟩ := ownsN_form hown'
    exact ⟨va', vc', w', hr, hown', (Below.refl _ _).grown hgrow hB hb⟩

/-- A row that has room, and nothing in it yet. -/
theorem owns_fresh {w : World} {B e size g cap : Nat} {cur : Array Value} (hB : B ≤ g) (hg : w.heap[g]? = some (.cells cur e (0, 0))) (hc : cap ≤ maxLen) (hs : cur.size = cap * size) : w.ownsRow B e size (.slice (some ⟨g, 0, none⟩) 0 cap) 0 [] :=
  ⟨by simp, Or.inr ⟨g, cap, cur, rfl, hB, hg, Nat.zero_le _, hc, hs, by simp⟩⟩

end Go.Proofs.Ytpgiagkbfnbgkab.Deed
namespace Go.Proofs.Ytpgiagkbfnbgkab.Deed
open Go.Deep Go.RowKit
set_option linter.unusedVariables false
set_option maxRecDepth 20000


set_option maxHeartbeats 2000000 in
theorem growT_any (n : Nat) (hn : n ≤ 100000) (w : World) :
    Calls Try.prog 85 #[.slice none 0 0, .int .i64 (n : Int)] w fun e w' => ∃ va vc, e = .returned (.slice va 0 vc) ∧ w'.ownsRow w.heap.size 24 2 (.slice va 0 vc) 0 [] ∧ Below w.heap.size w w' := by
  obtain ⟨i0, hi0, hz0, hz1, hz2⟩ := info_parts Try.infoTree
  rcases Nat.eq_zero_or_pos n with h0 | h0
  · subst h0
    go_enter Try.func85, Try.ntmps85
    go_wp2_with fail
    go_ret
    exact ⟨none, 0, rfl, World.ownsRow_nil _ _ _ _, Below.refl _ _⟩
  · have hr := Go.Lib.run_append_nil_zeros (P := Try.prog) w 22 3 22 24 i0 _ .i64 .i64 Try.underlying22 Try.underlying3 hi0 hz0 n h0 (by rw [hz1]; decide) (by omega) (by rw [hz2]; omega)
    have hG := grownCap_le_maxLen w n 0 24 (by unfold maxLen; omega)
    have hGe := grownCap_ge w n 0 24
    obtain ⟨G, hGG⟩ : ∃ G, G = grownCap w n 0 24 := ⟨_, rfl⟩
    rw [← hGG] at hr hG hGe
    obtain ⟨cur, hcur⟩ : ∃ cur, cur = Builtin.zeroCells (.agg #[.string ⟨#[]⟩, .slice none 0 0] : Value).cells n ++ Builtin.zeroCells (.agg #[.string ⟨#[]⟩, .slice none 0 0] : Value).cells (G - n) := ⟨_, rfl⟩
    rw [← hcur] at hr
    have hcs : cur.size = G * 2 := by
      rw [hcur]
      simp [Builtin.zeroCells, Value.cells]
      omega
    clear hcur hGG
    have hp : (0 : Int) < (n : Int) := by omega
    have hG' := hG
    unfold maxLen at hG'
    go_enter Try.func85, Try.ntmps85
    go_wp2_with (at_builtin; refine Go.Lib.wpList_append_run _ rfl _ _ _ _ rfl _ _ rfl rfl _ _ hr ?_)
    go_ret
    refine ⟨_, G, rfl, owns_fresh (cur := cur) (Nat.le_refl _) (by show (w.alloc _).heap[w.heap.size]? = _; exact heap_alloc_new _ _) hG hcs, ?_⟩
    exact (Below.refl _ w).drew.alloc (by simp) _

set_option maxHeartbeats 4000000 in
theorem concatT_any (g cm : Nat) (srcs : List Src) (w : World) (fr : Nat × Nat) (hg : w.heap[g]? = some (.cells (srcs.map Src.val).toArray 22 fr)) (hs : ∀ s, s ∈ srcs → SrcIn w 2 s) (hm : srcs.length ≤ 10) (hn : tot srcs ≤ 100000) :
    Calls Try.prog 79 #[.slice (some ⟨g, 0, none⟩) srcs.length cm] w fun e w' => ∃ va vc, e = .returned (.slice va (tot srcs) vc) ∧ w'.ownsRow w.heap.size 24 2 (.slice va (tot srcs) vc) (tot srcs) (srcs.flatMap (·.xs)) ∧ Below w.heap.size w w' := by
  obtain ⟨i0, hi0, hz0, hz1, hz2⟩ := info_parts Try.infoTree
  have hcell : ∀ i s, srcs[i]? = some s → w.cell? ⟨g, i, none⟩ = some (.slice s.a s.n s.c) := fun i s hi => by
    rw [cell_of_row _ _ i _ _ _ hg]
    simp [hi, Src.val]
  have hgw : g < w.heap.size := by
    rcases Nat.lt_or_ge g w.heap.size with h | h
    · exact h
    · rw [Array.getElem?_eq_none h] at hg
      cases hg
  clear hg
  have HS := hide hs
  have HC := hide hcell
  clear hs hcell
  go_enter Try.func79, Try.ntmps79
  go_wp2_with fail
  go_loopg [3, 11] srcs.length (fun gk v3 v11 wr => ∃ i : Nat, gk = srcs.length - i ∧ i ≤ srcs.length ∧ v3 = .int .i64 (tot (srcs.take i) : Nat) ∧ v11 = .int .i64 (i : Nat) ∧ wr = w)
  case atStart => exact ⟨0, rfl, Nat.zero_le _, by simp [tot], rfl, rfl⟩
  case round =>
    obtain ⟨i, hgk, hi, rfl, rfl, hwr⟩ := hrel
    obtain ⟨wA, hwA⟩ : ∃ wA, wA = wr := ⟨_, rfl⟩
    rw [← hwA]
    have hwB : wA = w := hwA.trans hwr
    clear hwA hwr
    subst hwB
    by_cases hin : i < srcs.length
    · obtain ⟨sa, sn, sc, hc, B, hw, hneg, HT⟩ : ∃ sa sn sc, wA.cell? ⟨g, i, none⟩ = some (.slice sa sn sc) ∧ ∃ B : Nat, wrap64 ((tot (srcs.take i) : Int) + (sn : Int)) = (B : Int) ∧ decide ((B : Int) < 0) = false ∧ Hid (tot (srcs.take (i + 1)) = B) := by
        obtain ⟨s, hsi⟩ : ∃ s, srcs[i]? = some s := ⟨_, List.getElem?_eq_getElem hin⟩
        have ht : tot (srcs.take (i + 1)) = tot (srcs.take i) + s.n := by
          rw [List.take_succ_eq_append_getElem hin, tot_append, show srcs[i] = s by simpa [List.getElem?_eq_getElem hin] using hsi]
          simp [tot]
        have hle := tot_take srcs (i + 1)
        exact ⟨s.a, s.n, s.c, HC.out i s hsi, _, wrap_sum _ _ (by omega), by simp <;> omega, ht⟩
      obtain ⟨A, hA⟩ : ∃ A, A = tot (srcs.take i) := ⟨_, rfl⟩
      rw [← hA] at hw ⊢
      clear hA
      go_wp2_with fail
      go_roundg (srcs.length - (i + 1))
      case measure => omega
      case rel => exact ⟨i + 1, rfl, by omega, by rw [HT.out, hw], by go_num, rfl⟩
    · have hie : i = srcs.length := by omega
      subst hie
      rw [List.take_length]
      clear hgk
      go_wp2_with fail
      refine (growT_any (tot srcs) hn _).mono ?_
      rintro e w1 ⟨va0, vc0, rfl, hown0, hb0⟩
      have HO := hide hown0
      clear hown0
      go_wp2_with fail
      go_loopg [6, 27] srcs.length (fun gk v6 v27 wx => ∃ (i : Nat) (va : Option Addr) (vc : Nat), gk = srcs.length - i ∧ i ≤ srcs.length ∧ v6 = .slice va (tot (srcs.take i)) vc ∧ v27 = .int .i64 (i : Nat) ∧ wx.ownsRow wA.heap.size 24 2 (.slice va (tot (srcs.take i)) vc) (tot (srcs.take i)) ((srcs.take i).flatMap (·.xs)) ∧ Below wA.heap.size wA wx)
      case atStart => exact ⟨0, va0, vc0, rfl, Nat.zero_le _, by simp [tot], rfl, by simpa [tot] using HO.out, hb0⟩
      case round =>
        obtain ⟨wx, hwx⟩ : ∃ wx, wx = wr := ⟨_, rfl⟩
        subst hwx
        obtain ⟨i, va, vc, hgk, hi, rfl, rfl, hown, hb⟩ := hrel
        by_cases hin2 : i < srcs.length
        · obtain ⟨s, hsi⟩ : ∃ s, srcs[i]? = some s := ⟨_, List.getElem?_eq_getElem hin2⟩
          have hc : wx.cell? ⟨g, i, none⟩ = some (.slice s.a s.n s.c) := by rw [hb.cell hgw]; exact HC.out i s hsi
          have htk : srcs.take (i + 1) = srcs.take i ++ [s] := by rw [List.take_succ_eq_append_getElem hin2, show srcs[i] = s by simpa [List.getElem?_eq_getElem hin2] using hsi]
          have hle := tot_take srcs (i + 1)
          rw [htk, tot_append] at hle
          simp only [tot] at hle
          obtain ⟨va', vc', w', hr, hown', hb'⟩ := append_src (P := Try.prog) wx 22 24 i0 _ 2 40 Try.underlying22 hi0 hz0 hz1 hz2 rfl (by decide) hown ((HS.out s (List.mem_of_getElem? hsi)).below hb) (by unfold maxLen; omega) (by omega) hb.size
          have HK := hide (And.intro hown' (hb.trans hb'))
          have HT := hide htk
          unfold Src.val at hr
          clear hown' hb' htk hsi hown
          go_wp2_with (at_builtin; refine Go.Lib.wpList_append_run _ rfl _ _ _ _ rfl _ _ rfl rfl _ _ hr ?_)
          go_roundg (srcs.length - (i + 1))
          case measure => omega
          case rel =>
            refine ⟨i + 1, va', vc', rfl, by omega, ?_, by go_num, ?_, HK.out.2⟩
            · rw [HT.out, tot_append]
              simp [tot]
            · rw [HT.out, tot_append, List.flatMap_append]
              simpa [tot] using HK.out.1
        · have hie : i = srcs.length := by omega
          subst hie
          rw [List.take_length] at hown ⊢
          have HK := hide hown
          clear hown hgk
          go_wp2_with fail
          go_ret
          exact ⟨va, vc, rfl, HK.out, hb⟩
end Go.Proofs.Ytpgiagkbfnbgkab.Deed
namespace Go.Proofs.Ytpgiagkbfnbgkab.Deed
open Go.Deep Go.RowKit
set_option linter.unusedVariables false
set_option maxRecDepth 20000

theorem Try.infoInt : (Try.prog.info? 3).map (fun i => (i.zero, i.size, i.bytes)) = some (some (.int .i64 0), 1, 8) := by kernel_rfl

set_option maxHeartbeats 2000000 in
theorem growI_any (n : Nat) (hn : n ≤ 100000) (w : World) :
    Calls Try.prog 88 #[.slice none 0 0, .int .i64 (n : Int)] w fun e w' => ∃ va vc, e = .returned (.slice va 0 vc) ∧ w'.ownsRow w.heap.size 3 1 (.slice va 0 vc) 0 [] ∧ Below w.heap.size w w' := by
  obtain ⟨i0, hi0, hz0, hz1, hz2⟩ := info_parts Try.infoInt
  rcases Nat.eq_zero_or_pos n with h0 | h0
  · subst h0
    go_enter Try.func88, Try.ntmps88
    go_wp2_with fail
    go_ret
    exact ⟨none, 0, rfl, World.ownsRow_nil _ _ _ _, Below.refl _ _⟩
  · have hr := Go.Lib.run_append_nil_zeros (P := Try.prog) w 42 3 42 3 i0 _ .i64 .i64 Try.underlying42 Try.underlying3 hi0 hz0 n h0 (by rw [hz1]; decide) (by omega) (by rw [hz2]; omega)
    have hG := grownCap_le_maxLen w n 0 3 (by unfold maxLen; omega)
    have hGe := grownCap_ge w n 0 3
    obtain ⟨G, hGG⟩ : ∃ G, G = grownCap w n 0 3 := ⟨_, rfl⟩
    rw [← hGG] at hr hG hGe
    obtain ⟨cur, hcur⟩ : ∃ cur, cur = Builtin.zeroCells (.int .i64 0 : Value).cells n ++ Builtin.zeroCells (.int .i64 0 : Value).cells (G - n) := ⟨_, rfl⟩
    rw [← hcur] at hr
    have hcs : cur.size = G * 1 := by
      rw [hcur]
      simp [Builtin.zeroCells, Value.cells]
      omega
    clear hcur hGG
    have hp : (0 : Int) < (n : Int) := by omega
    have hG' := hG
    unfold maxLen at hG'
    go_enter Try.func88, Try.ntmps88
    go_wp2_with (at_builtin; refine Go.Lib.wpList_append_run _ rfl _ _ _ _ rfl _ _ rfl rfl _ _ hr ?_)
    go_ret
    refine ⟨_, G, rfl, owns_fresh (cur := cur) (Nat.le_refl _) (by show (w.alloc _).heap[w.heap.size]? = _; exact heap_alloc_new _ _) hG hcs, ?_⟩
    exact (Below.refl _ w).drew.alloc (by simp) _

set_option maxHeartbeats 4000000 in
theorem concatI_any (g cm : Nat) (srcs : List Src) (w : World) (fr : Nat × Nat) (hg : w.heap[g]? = some (.cells (srcs.map Src.val).toArray 42 fr)) (hs : ∀ s, s ∈ srcs → SrcIn w 1 s) (hm : srcs.length ≤ 10) (hn : tot srcs ≤ 100000) :
    Calls Try.prog 84 #[.slice (some ⟨g, 0, none⟩) srcs.length cm] w fun e w' => ∃ va vc, e = .returned (.slice va (tot srcs) vc) ∧ w'.ownsRow w.heap.size 3 1 (.slice va (tot srcs) vc) (tot srcs) (srcs.flatMap (·.xs)) ∧ Below w.heap.size w w' := by
  obtain ⟨i0, hi0, hz0, hz1, hz2⟩ := info_parts Try.infoInt
  have hcell : ∀ i s, srcs[i]? = some s → w.cell? ⟨g, i, none⟩ = some (.slice s.a s.n s.c) := fun i s hi => by
    rw [cell_of_row _ _ i _ _ _ hg]
    simp [hi, Src.val]
  have hgw : g < w.heap.size := by
    rcases Nat.lt_or_ge g w.heap.size with h | h
    · exact h
    · rw [Array.getElem?_eq_none h] at hg
      cases hg
  clear hg
  have HS := hide hs
  have HC := hide hcell
  clear hs hcell
  go_enter Try.func84, Try.ntmps84
  go_wp2_with fail
  go_loopg [3, 11] srcs.length (fun gk v3 v11 wr => ∃ i : Nat, gk = srcs.length - i ∧ i ≤ srcs.length ∧ v3 = .int .i64 (tot (srcs.take i) : Nat) ∧ v11 = .int .i64 (i : Nat) ∧ wr = w)
  case atStart => exact ⟨0, rfl, Nat.zero_le _, by simp [tot], rfl, rfl⟩
  case round =>
    obtain ⟨i, hgk, hi, rfl, rfl, hwr⟩ := hrel
    obtain ⟨wA, hwA⟩ : ∃ wA, wA = wr := ⟨_, rfl⟩
    rw [← hwA]
    have hwB : wA = w := hwA.trans hwr
    clear hwA hwr
    subst hwB
    by_cases hin : i < srcs.length
    · obtain ⟨sa, sn, sc, hc, B, hw, hneg, HT⟩ : ∃ sa sn sc, wA.cell? ⟨g, i, none⟩ = some (.slice sa sn sc) ∧ ∃ B : Nat, wrap64 ((tot (srcs.take i) : Int) + (sn : Int)) = (B : Int) ∧ decide ((B : Int) < 0) = false ∧ Hid (tot (srcs.take (i + 1)) = B) := by
        obtain ⟨s, hsi⟩ : ∃ s, srcs[i]? = some s := ⟨_, List.getElem?_eq_getElem hin⟩
        have ht : tot (srcs.take (i + 1)) = tot (srcs.take i) + s.n := by
          rw [List.take_succ_eq_append_getElem hin, tot_append, show srcs[i] = s by simpa [List.getElem?_eq_getElem hin] using hsi]
          simp [tot]
        have hle := tot_take srcs (i + 1)
        exact ⟨s.a, s.n, s.c, HC.out i s hsi, _, wrap_sum _ _ (by omega), by simp <;> omega, ht⟩
      obtain ⟨A, hA⟩ : ∃ A, A = tot (srcs.take i) := ⟨_, rfl⟩
      rw [← hA] at hw ⊢
      clear hA
      go_wp2_with fail
      go_roundg (srcs.length - (i + 1))
      case measure => omega
      case rel => exact ⟨i + 1, rfl, by omega, by rw [HT.out, hw], by go_num, rfl⟩
    · have hie : i = srcs.length := by omega
      subst hie
      rw [List.take_length]
      clear hgk
      go_wp2_with fail
      refine (growI_any (tot srcs) hn _).mono ?_
      rintro e w1 ⟨va0, vc0, rfl, hown0, hb0⟩
      have HO := hide hown0
      clear hown0
      go_wp2_with fail
      go_loopg [6, 27] srcs.length (fun gk v6 v27 wx => ∃ (i : Nat) (va : Option Addr) (vc : Nat), gk = srcs.length - i ∧ i ≤ srcs.length ∧ v6 = .slice va (tot (srcs.take i)) vc ∧ v27 = .int .i64 (i : Nat) ∧ wx.ownsRow wA.heap.size 3 1 (.slice va (tot (srcs.take i)) vc) (tot (srcs.take i)) ((srcs.take i).flatMap (·.xs)) ∧ Below wA.heap.size wA wx)
      case atStart => exact ⟨0, va0, vc0, rfl, Nat.zero_le _, by simp [tot], rfl, by simpa [tot] using HO.out, hb0⟩
      case round =>
        obtain ⟨wx, hwx⟩ : ∃ wx, wx = wr := ⟨_, rfl⟩
        subst hwx
        obtain ⟨i, va, vc, hgk, hi, rfl, rfl, hown, hb⟩ := hrel
        by_cases hin2 : i < srcs.length
        · obtain ⟨s, hsi⟩ : ∃ s, srcs[i]? = some s := ⟨_, List.getElem?_eq_getElem hin2⟩
          have hc : wx.cell? ⟨g, i, none⟩ = some (.slice s.a s.n s.c) := by rw [hb.cell hgw]; exact HC.out i s hsi
          have htk : srcs.take (i + 1) = srcs.take i ++ [s] := by rw [List.take_succ_eq_append_getElem hin2, show srcs[i] = s by simpa [List.getElem?_eq_getElem hin2] using hsi]
          have hle := tot_take srcs (i + 1)
          rw [htk, tot_append] at hle
          simp only [tot] at hle
          obtain ⟨va', vc', w', hr, hown', hb'⟩ := append_src (P := Try.prog) wx 42 3 i0 _ 1 8 Try.underlying42 hi0 hz0 hz1 hz2 rfl (by decide) hown ((HS.out s (List.mem_of_getElem? hsi)).below hb) (by unfold maxLen; omega) (by omega) hb.size
          have HK := hide (And.intro hown' (hb.trans hb'))
          have HT := hide htk
          unfold Src.val at hr
          clear hown' hb' htk hsi hown
          go_wp2_with (at_builtin; refine Go.Lib.wpList_append_run _ rfl _ _ _ _ rfl _ _ rfl rfl _ _ hr ?_)
          go_roundg (srcs.length - (i + 1))
          case measure => omega
          case rel =>
            refine ⟨i + 1, va', vc', rfl, by omega, ?_, by go_num, ?_, HK.out.2⟩
            · rw [HT.out, tot_append]
              simp [tot]
            · rw [HT.out, tot_append, List.flatMap_append]
              simpa [tot] using HK.out.1
        · have hie : i = srcs.length := by omega
          subst hie
          rw [List.take_length] at hown ⊢
          have HK := hide hown
          clear hown hgk
          go_wp2_with fail
          go_ret
          exact ⟨va, vc, rfl, HK.out, hb⟩
end Go.Proofs.Ytpgiagkbfnbgkab.Deed
namespace Go.Proofs.Ytpgiagkbfnbgkab.Deed
open Go.Deep Go.RowKit
set_option linter.unusedVariables false
set_option maxRecDepth 20000

theorem owns_lower {w : World} {B B' e size n : Nat} {v : Value} {xs : List Value} (h : w.ownsRow B e size v n xs) (hB : B' ≤ B) : w.ownsRow B' e size v n xs := by
  refine ⟨h.1, ?_⟩
  rcases h.2 with h2 | ⟨g, cap, cur, hv, hg, r⟩
  · exact Or.inl h2
  · exact Or.inr ⟨g, cap, cur, hv, by omega, r⟩
def ints (l : List Int) : List Value := l.map fun p => Value.int .i64 p
/-- A path as a list to be read. -/
theorem src_path {w : World} {pa : Option Addr} {l : List Int} (h : PIn w pa l) (c : Nat) : SrcIn w 1 ⟨pa, l.length, c, ints l⟩ := by
  refine ⟨by simp [ints], fun u hu => ?_, ?_⟩
  · simp only [ints, List.mem_map] at hu
    obtain ⟨p, _, rfl⟩ := hu
    rfl
  · rcases h with rfl | ⟨b, o, rfl, h⟩
    · exact Or.inl rfl
    · refine Or.inr ⟨_, rfl, fun j u hu => ?_⟩
      simp only [ints, List.getElem?_map, Option.map_eq_some_iff] at hu
      obtain ⟨p, hp, rfl⟩ := hu
      have := h j p hp
      by_cases e : j = 0
      · subst e
        simpa [Addr.add] using this
      · simpa [Addr.add, e] using this
theorem path_of {w : World} {B n vc : Nat} {va : Option Addr} {l : List Int} (h : w.ownsRow B 3 1 (.slice va n vc) n (ints l)) : PIn w va l ∧ n = l.length ∧ n ≤ vc ∧ vc ≤ maxLen := by
  have hn : n = l.length := by have := h.1; simp [ints] at this; omega
  refine ⟨?_, hn, ?_⟩
  · rcases h.2 with ⟨_, h0⟩ | ⟨g, cap, cur, hv, hg, hh, h1, h2, h3, h4⟩
    · exact Or.inl (List.eq_nil_of_length_eq_zero (by omega))
    · injection hv with hv _ _
      refine Or.inr ⟨g, 0, hv, fun i p hp => ?_⟩
      have hr := h
      rw [hv] at hr
      obtain ⟨va', vc', e, _, _⟩ := ownsN_form hr
      rw [cell_of_row _ _ (0 + i) _ _ _ hh, Nat.zero_add]
      have : (ints l)[i]? = some (.int .i64 p) := by simp [ints, hp]
      rw [← h4, List.getElem?_take] at this
      split at this
      · simpa using this
      · cases this
  · obtain ⟨va', vc', e, e1, e2⟩ := ownsN_form h
    injection e with _ _ e
    subst e
    exact ⟨e1, e2⟩

set_option maxHeartbeats 1000000 in
theorem joined_any (a1 a2 : Option Addr) (c1 c2 : Nat) (l1 l2 : List Int) (w : World) (h1 : PIn w a1 l1) (h2 : PIn w a2 l2) (hn : l1.length + l2.length ≤ 10000) :
    Calls Try.prog 75 #[.slice a1 l1.length c1, .slice a2 l2.length c2] w fun e w' => ∃ va vc, e = .returned (.slice va (l1 ++ l2).length vc) ∧ PIn w' va (l1 ++ l2) ∧ (l1 ++ l2).length ≤ vc ∧ vc ≤ maxLen ∧ (∀ a, va = some a → w.heap.size ≤ a.block ∧ a.block < w'.heap.size) ∧ Below w.heap.size w w' := by
  obtain ⟨srcs, hsr⟩ : ∃ srcs, srcs = [(⟨a1, l1.length, c1, ints l1⟩ : Src), ⟨a2, l2.length, c2, ints l2⟩] := ⟨_, rfl⟩
  have hbx : Below w.heap.size w (w.alloc (Obj.cells #[.slice a1 l1.length c1, .slice a2 l2.length c2] 42)) := (Below.refl _ _).alloc (Nat.le_refl _) _
  have HC := hide (show Calls Try.prog 84 #[.slice (some ⟨w.heap.size, 0, none⟩) 2 2] (w.alloc (Obj.cells #[.slice a1 l1.length c1, .slice a2 l2.length c2] 42)) fun e w' => ∃ va vc, e = .returned (.slice va (l1 ++ l2).length vc) ∧ PIn w' va (l1 ++ l2) ∧ (l1 ++ l2).length ≤ vc ∧ vc ≤ maxLen ∧ (∀ a, va = some a → w.heap.size ≤ a.block ∧ a.block < w'.heap.size) ∧ Below w.heap.size w w' by
    have := concatI_any w.heap.size 2 srcs (w.alloc (Obj.cells #[.slice a1 l1.length c1, .slice a2 l2.length c2] 42)) (0, 0) (by rw [hsr]; exact heap_alloc_new _ _) (fun s hs => by
      rw [hsr] at hs
      simp only [List.mem_cons, List.not_mem_nil, or_false] at hs
      rcases hs with rfl | rfl
      · exact (src_path h1 c1).below hbx
      · exact (src_path h2 c2).below hbx) (by rw [hsr]; simp) (by rw [hsr]; simp [tot]; omega)
    rw [hsr] at this
    refine Calls.mono this ?_
    rintro e w' ⟨va, vc, rfl, hown, hb⟩
    have hx : ([(⟨a1, l1.length, c1, ints l1⟩ : Src), ⟨a2, l2.length, c2, ints l2⟩] : List Src).flatMap (·.xs) = ints (l1 ++ l2) := by simp [ints]
    have ht : tot [(⟨a1, l1.length, c1, ints l1⟩ : Src), ⟨a2, l2.length, c2, ints l2⟩] = (l1 ++ l2).length := by simp [tot]
    rw [hx, ht] at hown
    obtain ⟨p1, p2, p3, p4⟩ := path_of hown
    refine ⟨va, vc, by rw [ht], p1, p3, p4, fun a ha => ?_, hbx.trans (hb.mono (by simp))⟩
    have := (ownBlockN_lt hown (g := a.block) (by rw [ha]; rfl))
    simp at this
    omega)
  clear hsr hbx h1 h2
  go_enter Try.func75, Try.ntmps75
  go_wp2_with fail
  refine Calls.mono HC.out ?_
  rintro e w' ⟨va, vc, rfl, p1, p2, p3, p4, p5⟩
  have HP := hide (And.intro p1 (And.intro p4 p5))
  clear p1 p4 p5
  go_wp2_with fail
  go_ret
  exact ⟨va, vc, by simp, HP.out.1, p2, p3, HP.out.2.1, HP.out.2.2⟩

theorem items_take : ∀ (n : Nat) (f : Fo), itemsF (ftake n f) = (itemsF f).take n
  | 0, _ => by simp [ftake, itemsF]
  | _ + 1, .nil => by simp [ftake, itemsF]
  | n + 1, .node _ _ _ _ r => by simp [ftake, itemsF, items_take n r]
theorem items_drop : ∀ (n : Nat) (f : Fo), itemsF (fdrop n f) = (itemsF f).drop n
  | 0, _ => by simp [fdrop]
  | _ + 1, .nil => by simp [fdrop, itemsF]
  | n + 1, .node _ _ _ _ r => by simp [fdrop, itemsF, items_drop n r]
theorem src_row {w : World} {a : Option Addr} {k : Fo} (h : KIn w a k) (c : Nat) : SrcIn w 2 ⟨a, flen k, c, rowCells (itemsF k)⟩ := by
  refine ⟨by rw [rowCells_length, itemsF_length], rowCells_one _, ?_⟩
  rcases h with rfl | ⟨b, o, rfl, h⟩
  · exact Or.inl rfl
  · refine Or.inr ⟨_, rfl, fun j u hu => ?_⟩
    have := h.row j u hu
    by_cases e : j = 0
    · subst e
      simpa [Addr.add] using this
    · simpa [Addr.add, e] using this
/-- Some kids of a list as a list to be read. -/
theorem src_kids {w : World} {ka : Option Addr} {k : Fo} (h : KIn w ka k) (cap i m c : Nat) (hl : flen k ≤ cap) (hm : i + m ≤ flen k) : SrcIn w 2 ⟨subA ka cap i, m, c, rowCells (((itemsF k).drop i).take m)⟩ := by
  have := src_row (KIn.part h cap i m hl) c
  rw [flen_take _ _ (by rw [flen_drop]; omega), items_take, items_drop] at this
  exact this

set_option maxHeartbeats 2000000 in
theorem swapped_any (ka : Option Addr) (cap : Nat) (k : Fo) (i n : Nat) (o : Src) (w : World) (hk : KIn w ka k) (hl : flen k ≤ cap) (hc : cap ≤ maxLen) (hin : i + n ≤ flen k) (ho : SrcIn w 2 o) (hs : flen k + o.n ≤ 10000) :
    Calls Try.prog 77 #[.slice ka (flen k) cap, .int .i64 (i : Int), .int .i64 (n : Int), o.val] w fun e w' => ∃ va vc, e = .returned (.slice va (i + (o.n + (flen k - (i + n)))) vc) ∧ w'.ownsRow w.heap.size 24 2 (.slice va (i + (o.n + (flen k - (i + n)))) vc) (i + (o.n + (flen k - (i + n)))) (rowCells ((itemsF k).take i) ++ (o.xs ++ rowCells ((itemsF k).drop (i + n)))) ∧ Below w.heap.size w w' := by
  unfold Src.val
  unfold maxLen at hc
  have sl1 := slice_h ka (flen k) cap i (by omega)
  have sl2 := slice_l ka (flen k) cap (i + n) hin
  simp only [Int.natCast_add] at sl2
  have hw : IntKind.i64.wrap ((i : Int) + (n : Int)) = (i : Int) + (n : Int) := wrap_sum' i n (by omega)
  obtain ⟨W, hW⟩ : ∃ W, W = (w.alloc (Obj.cells #[.slice (subA ka cap 0) i cap, .slice o.a o.n o.c, .slice (subA ka cap (i + n)) (flen k - (i + n)) (cap - (i + n))] 22)).drew := ⟨_, rfl⟩
  have HC := hide (show Calls Try.prog 79 #[.slice (some ⟨w.heap.size, 0, none⟩) 3 3] W fun e w' => ∃ va vc, e = .returned (.slice va (i + (o.n + (flen k - (i + n)))) vc) ∧ w'.ownsRow w.heap.size 24 2 (.slice va (i + (o.n + (flen k - (i + n)))) vc) (i + (o.n + (flen k - (i + n)))) (rowCells ((itemsF k).take i) ++ (o.xs ++ rowCells ((itemsF k).drop (i + n)))) ∧ Below w.heap.size w w' by
    have hbx : Below w.heap.size w W := by rw [hW]; exact ((Below.refl _ w).alloc (Nat.le_refl _) _).drew
    have s1 := (src_kids hk cap 0 i cap hl (by omega)).below hbx
    have s3 := (src_kids hk cap (i + n) (flen k - (i + n)) (cap - (i + n)) hl (by omega)).below hbx
    simp only [List.drop_zero] at s1
    rw [List.take_of_length_le (by rw [List.length_drop, itemsF_length]; omega)] at s3
    have := concatT_any w.heap.size 3 [⟨subA ka cap 0, i, cap, rowCells ((itemsF k).take i)⟩, o, ⟨subA ka cap (i + n), flen k - (i + n), cap - (i + n), rowCells ((itemsF k).drop (i + n))⟩] W (0, 0) (by rw [hW]; exact heap_alloc_new w _) (fun s hs => by
      simp only [List.mem_cons, List.not_mem_nil, or_false] at hs
      rcases hs with rfl | rfl | rfl
      · exact s1
      · exact ho.below hbx
      · exact s3) (by simp) (by simp [tot]; omega)
    refine Calls.mono this ?_
    rintro e w' ⟨va, vc, rfl, hown, hb⟩
    have hx : ([⟨subA ka cap 0, i, cap, rowCells ((itemsF k).take i)⟩, o, ⟨subA ka cap (i + n), flen k - (i + n), cap - (i + n), rowCells ((itemsF k).drop (i + n))⟩] : List Src).flatMap (·.xs) = rowCells ((itemsF k).take i) ++ (o.xs ++ rowCells ((itemsF k).drop (i + n))) := by simp
    have ht : tot [⟨subA ka cap 0, i, cap, rowCells ((itemsF k).take i)⟩, o, ⟨subA ka cap (i + n), flen k - (i + n), cap - (i + n), rowCells ((itemsF k).drop (i + n))⟩] = i + (o.n + (flen k - (i + n))) := by simp [tot]
    rw [hx, ht] at hown
    exact ⟨va, vc, by rw [ht], owns_lower hown hbx.size, hbx.trans (hb.mono hbx.size)⟩)
  clear hk ho
  go_enter Try.func77, Try.ntmps77
  go_wp2_with fail
  go_region_held3 (fun w' => True)
    (trivial)
    ((go_at_call 79; rw [← hW]; refine Calls.mono HC.out ?_; rintro e w1 ⟨va, vc, rfl, p1, p2⟩; have HP1 := hide p1; clear p1))
  go_wp2_with fail
  go_ret
  exact ⟨va, vc, rfl, HP1.out, p2⟩
end Go.Proofs.Ytpgiagkbfnbgkab.Deed
