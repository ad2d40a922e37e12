/- What change of package deed comes to: a deed done in place, and the deed that undoes it. Of no program. -/
/- slices.Grow and slices.Concat at lists of numbers. Of the program's text. -/
import Derived.Test.YtkoohfkomlmhoacGreatDoorKDP23
import Derived.Test.YtkoohfkomlmhoacGreatDoorProg
import Derived.Deep.LoopGhost
import Derived.WalkSmall
import Derived.Test.YtkoohfkomlmhoacGreatDoorKDP10
namespace Go.Proofs.YtkoohfkomlmhoacGreatDoor.Deed
open Go.Deep Go.RowKit
set_option linter.unusedVariables false
set_option maxRecDepth 20000

theorem NodIn.below {w w' : World} {n : Nd} (h : NodIn w n) (hb : Below w.heap.size w w') : NodIn w' n :=
  ⟨by rw [hb.cell (World.block_lt_of_cell? _ _ h.c0)]; exact h.c0, by rw [hb.cell (World.block_lt_of_cell? _ _ h.c1)]; exact h.c1, h.tin.below hb⟩
end Go.Proofs.YtkoohfkomlmhoacGreatDoor.Deed
namespace Go.Proofs.YtkoohfkomlmhoacGreatDoor.Deed
open Go.Deep Go.RowKit
set_option linter.unusedVariables false
set_option maxRecDepth 20000

theorem Tryz.infoInt : (Tryz.prog.info? 3).map (fun i => (i.zero, i.size, i.bytes)) = some (some (.int .i64 0), 1, 8) := by kernel_rfl

set_option maxHeartbeats 2000000 in
theorem growI_any (n : Nat) (hn : n ≤ 100000) (w : World) :
    Calls Tryz.prog 167 #[.slice none 0 0, .int .i64 (n : Int)] w fun e w' => ∃ va vc, e = .returned (.slice va 0 vc) ∧ w'.ownsRow w.heap.size 3 1 (.slice va 0 vc) 0 [] ∧ Below w.heap.size w w' := by
  obtain ⟨i0, hi0, hz0, hz1, hz2⟩ := info_parts Tryz.infoInt
  rcases Nat.eq_zero_or_pos n with h0 | h0
  · subst h0
    go_enter Tryz.func167, Tryz.ntmps167
    go_wp2_with fail
    go_ret
    exact ⟨none, 0, rfl, World.ownsRow_nil _ _ _ _, Below.refl _ _⟩
  · have hr := Go.Lib.run_append_nil_zeros (P := Tryz.prog) w 23 3 23 3 i0 _ .i64 .i64 Tryz.underlying23 Tryz.underlying3 hi0 hz0 n h0 (by rw [hz1]; decide) (by omega) (by rw [hz2]; omega)
    have hG := grownCap_le_maxLen w n 0 3 (by unfold maxLen; omega)
    have hGe := grownCap_ge w n 0 3
    obtain ⟨G, hGG⟩ : ∃ G, G = grownCap w n 0 3 := ⟨_, rfl⟩
    rw [← hGG] at hr hG hGe
    obtain ⟨cur, hcur⟩ : ∃ cur, cur = Builtin.zeroCells (.int .i64 0 : Value).cells n ++ Builtin.zeroCells (.int .i64 0 : Value).cells (G - n) := ⟨_, rfl⟩
    rw [← hcur] at hr
    have hcs : cur.size = G * 1 := by
      rw [hcur]
      simp [Builtin.zeroCells, Value.cells]
      omega
    clear hcur hGG
    have hp : (0 : Int) < (n : Int) := by omega
    have hG' := hG
    unfold maxLen at hG'
    go_enter Tryz.func167, Tryz.ntmps167
    go_wp2_with (at_builtin; refine Go.Lib.wpList_append_run _ rfl _ _ _ _ rfl _ _ rfl rfl _ _ hr ?_)
    go_ret
    refine ⟨_, G, rfl, owns_fresh (cur := cur) (Nat.le_refl _) (by show (w.alloc _).heap[w.heap.size]? = _; exact heap_alloc_new _ _) hG hcs, ?_⟩
    exact (Below.refl _ w).drew.alloc (by simp) _

set_option maxHeartbeats 4000000 in
theorem concatI_any (g cm : Nat) (srcs : List Src) (w : World) (fr : Nat × Nat) (hg : w.heap[g]? = some (.cells (srcs.map Src.val).toArray 23 fr)) (hs : ∀ s, s ∈ srcs → SrcIn w 1 s) (hm : srcs.length ≤ 10) (hn : tot srcs ≤ 100000) :
    Calls Tryz.prog 159 #[.slice (some ⟨g, 0, none⟩) srcs.length cm] w fun e w' => ∃ va vc, e = .returned (.slice va (tot srcs) vc) ∧ w'.ownsRow w.heap.size 3 1 (.slice va (tot srcs) vc) (tot srcs) (srcs.flatMap (·.xs)) ∧ Below w.heap.size w w' := by
  obtain ⟨i0, hi0, hz0, hz1, hz2⟩ := info_parts Tryz.infoInt
  have hcell : ∀ i s, srcs[i]? = some s → w.cell? ⟨g, i, none⟩ = some (.slice s.a s.n s.c) := fun i s hi => by
    rw [cell_of_row _ _ i _ _ _ hg]
    simp [hi, Src.val]
  have hgw : g < w.heap.size := by
    rcases Nat.lt_or_ge g w.heap.size with h | h
    · exact h
    · rw [Array.getElem?_eq_none h] at hg
      cases hg
  clear hg
  have HS := hide hs
  have HC := hide hcell
  clear hs hcell
  go_enter Tryz.func159, Tryz.ntmps159
  go_wp2_with fail
  go_loopg [3, 11] srcs.length (fun gk v3 v11 wr => ∃ i : Nat, gk = srcs.length - i ∧ i ≤ srcs.length ∧ v3 = .int .i64 (tot (srcs.take i) : Nat) ∧ v11 = .int .i64 (i : Nat) ∧ wr = w)
  case atStart => exact ⟨0, rfl, Nat.zero_le _, by simp [tot], rfl, rfl⟩
  case round =>
    obtain ⟨i, hgk, hi, rfl, rfl, hwr⟩ := hrel
    obtain ⟨wA, hwA⟩ : ∃ wA, wA = wr := ⟨_, rfl⟩
    rw [← hwA]
    have hwB : wA = w := hwA.trans hwr
    clear hwA hwr
    subst hwB
    by_cases hin : i < srcs.length
    · obtain ⟨sa, sn, sc, hc, B, hw, hneg, HT⟩ : ∃ sa sn sc, wA.cell? ⟨g, i, none⟩ = some (.slice sa sn sc) ∧ ∃ B : Nat, wrap64 ((tot (srcs.take i) : Int) + (sn : Int)) = (B : Int) ∧ decide ((B : Int) < 0) = false ∧ Hid (tot (srcs.take (i + 1)) = B) := by
        obtain ⟨s, hsi⟩ : ∃ s, srcs[i]? = some s := ⟨_, List.getElem?_eq_getElem hin⟩
        have ht : tot (srcs.take (i + 1)) = tot (srcs.take i) + s.n := by
          rw [List.take_succ_eq_append_getElem hin, tot_append, show srcs[i] = s by simpa [List.getElem?_eq_getElem hin] using hsi]
          simp [tot]
        have hle := tot_take srcs (i + 1)
        exact ⟨s.a, s.n, s.c, HC.out i s hsi, _, wrap_sum _ _ (by omega), by simp <;> omega, ht⟩
      obtain ⟨A, hA⟩ : ∃ A, A = tot (srcs.take i) := ⟨_, rfl⟩
      rw [← hA] at hw ⊢
      clear hA
      go_wp2_with fail
      go_roundg (srcs.length - (i + 1))
      case measure => omega
      case rel => exact ⟨i + 1, rfl, by omega, by rw [HT.out, hw], by go_num, rfl⟩
    · have hie : i = srcs.length := by omega
      subst hie
      rw [List.take_length]
      clear hgk
      go_wp2_with fail
      refine (growI_any (tot srcs) hn _).mono ?_
      rintro e w1 ⟨va0, vc0, rfl, hown0, hb0⟩
      have HO := hide hown0
      clear hown0
      go_wp2_with fail
      go_loopg [6, 27] srcs.length (fun gk v6 v27 wx => ∃ (i : Nat) (va : Option Addr) (vc : Nat), gk = srcs.length - i ∧ i ≤ srcs.length ∧ v6 = .slice va (tot (srcs.take i)) vc ∧ v27 = .int .i64 (i : Nat) ∧ wx.ownsRow wA.heap.size 3 1 (.slice va (tot (srcs.take i)) vc) (tot (srcs.take i)) ((srcs.take i).flatMap (·.xs)) ∧ Below wA.heap.size wA wx)
      case atStart => exact ⟨0, va0, vc0, rfl, Nat.zero_le _, by simp [tot], rfl, by simpa [tot] using HO.out, hb0⟩
      case round =>
        obtain ⟨wx, hwx⟩ : ∃ wx, wx = wr := ⟨_, rfl⟩
        subst hwx
        obtain ⟨i, va, vc, hgk, hi, rfl, rfl, hown, hb⟩ := hrel
        by_cases hin2 : i < srcs.length
        · obtain ⟨s, hsi⟩ : ∃ s, srcs[i]? = some s := ⟨_, List.getElem?_eq_getElem hin2⟩
          have hc : wx.cell? ⟨g, i, none⟩ = some (.slice s.a s.n s.c) := by rw [hb.cell hgw]; exact HC.out i s hsi
          have htk : srcs.take (i + 1) = srcs.take i ++ [s] := by rw [List.take_succ_eq_append_getElem hin2, show srcs[i] = s by simpa [List.getElem?_eq_getElem hin2] using hsi]
          have hle := tot_take srcs (i + 1)
          rw [htk, tot_append] at hle
          simp only [tot] at hle
          obtain ⟨va', vc', w', hr, hown', hb'⟩ := append_src (P := Tryz.prog) wx 23 3 i0 _ 1 8 Tryz.underlying23 hi0 hz0 hz1 hz2 rfl (by decide) hown ((HS.out s (List.mem_of_getElem? hsi)).below hb) (by unfold maxLen; omega) (by omega) hb.size
          have HK := hide (And.intro hown' (hb.trans hb'))
          have HT := hide htk
          unfold Src.val at hr
          clear hown' hb' htk hsi hown
          go_wp2_with (at_builtin; refine Go.Lib.wpList_append_run _ rfl _ _ _ _ rfl _ _ rfl rfl _ _ hr ?_)
          go_roundg (srcs.length - (i + 1))
          case measure => omega
          case rel =>
            refine ⟨i + 1, va', vc', rfl, by omega, ?_, by go_num, ?_, HK.out.2⟩
            · rw [HT.out, tot_append]
              simp [tot]
            · rw [HT.out, tot_append, List.flatMap_append]
              simpa [tot] using HK.out.1
        · have hie : i = srcs.length := by omega
          subst hie
          rw [List.take_length] at hown ⊢
          have HK := hide hown
          clear hown hgk
          go_wp2_with fail
          go_ret
          exact ⟨va, vc, rfl, HK.out, hb⟩
end Go.Proofs.YtkoohfkomlmhoacGreatDoor.Deed
