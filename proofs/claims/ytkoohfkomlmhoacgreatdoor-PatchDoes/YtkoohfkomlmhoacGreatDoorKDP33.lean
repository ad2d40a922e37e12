/- What the good end of Do wants. Of no program. -/
/- joined and swapped of package deed: lists of its own. Of the program's text. -/
import Derived.BigQuiet
import Derived.Deep.RegionHeld3
import Derived.Test.YtkoohfkomlmhoacGreatDoorKDP31
import Derived.Test.YtkoohfkomlmhoacGreatDoorKDP32
import Derived.Test.YtkoohfkomlmhoacGreatDoorProg
import Derived.Deep.LoopGhost
import Derived.WalkSmall
import Derived.Test.YtkoohfkomlmhoacGreatDoorKDP10
import Derived.Test.YtkoohfkomlmhoacGreatDoorKDP20
import Derived.Test.YtkoohfkomlmhoacGreatDoorKDP29
import Derived.Test.YtkoohfkomlmhoacGreatDoorKDP04
namespace Go.Proofs.YtkoohfkomlmhoacGreatDoor.Deed
open Go.Deep Go.RowKit
set_option linter.unusedVariables false
set_option maxRecDepth 20000

theorem BackIs.drew {w : World} {c : Nat} {d : Dd} {pa : Option Addr} {pc : Nat} (h : BackIs w c d pa pc) : BackIs w.drew c d pa pc := h.block rfl
end Go.Proofs.YtkoohfkomlmhoacGreatDoor.Deed
namespace Go.Proofs.YtkoohfkomlmhoacGreatDoor.Deed
open Go.Deep Go.RowKit
set_option linter.unusedVariables false
set_option maxRecDepth 20000

theorem owns_lower {w : World} {B B' e size n : Nat} {v : Value} {xs : List Value} (h : w.ownsRow B e size v n xs) (hB : B' ≤ B) : w.ownsRow B' e size v n xs := by
  refine ⟨h.1, ?_⟩
  rcases h.2 with h2 | ⟨g, cap, cur, hv, hg, r⟩
  · exact Or.inl h2
  · exact Or.inr ⟨g, cap, cur, hv, by omega, r⟩
def ints (l : List Int) : List Value := l.map fun p => Value.int .i64 p
/-- A path as a list to be read. -/
theorem src_path {w : World} {pa : Option Addr} {l : List Int} (h : PIn w pa l) (c : Nat) : SrcIn w 1 ⟨pa, l.length, c, ints l⟩ := by
  refine ⟨by simp [ints], fun u hu => ?_, ?_⟩
  · simp only [ints, List.mem_map] at hu
    obtain ⟨p, _, rfl⟩ := hu
    rfl
  · rcases h with rfl | ⟨b, o, rfl, h⟩
    · exact Or.inl rfl
    · refine Or.inr ⟨_, rfl, fun j u hu => ?_⟩
      simp only [ints, List.getElem?_map, Option.map_eq_some_iff] at hu
      obtain ⟨p, hp, rfl⟩ := hu
      have := h j p hp
      by_cases e : j = 0
      · subst e
        simpa [Addr.add] using this
      · simpa [Addr.add, e] using this
theorem path_of {w : World} {B n vc : Nat} {va : Option Addr} {l : List Int} (h : w.ownsRow B 3 1 (.slice va n vc) n (ints l)) : PIn w va l ∧ n = l.length ∧ n ≤ vc ∧ vc ≤ maxLen := by
  have hn : n = l.length := by have := h.1; simp [ints] at this; omega
  refine ⟨?_, hn, ?_⟩
  · rcases h.2 with ⟨_, h0⟩ | ⟨g, cap, cur, hv, hg, hh, h1, h2, h3, h4⟩
    · exact Or.inl (List.eq_nil_of_length_eq_zero (by omega))
    · injection hv with hv _ _
      refine Or.inr ⟨g, 0, hv, fun i p hp => ?_⟩
      have hr := h
      rw [hv] at hr
      obtain ⟨va', vc', e, _, _⟩ := ownsN_form hr
      rw [cell_of_row _ _ (0 + i) _ _ _ hh, Nat.zero_add]
      have : (ints l)[i]? = some (.int .i64 p) := by simp [ints, hp]
      rw [← h4, List.getElem?_take] at this
      split at this
      · simpa using this
      · cases this
  · obtain ⟨va', vc', e, e1, e2⟩ := ownsN_form h
    injection e with _ _ e
    subst e
    exact ⟨e1, e2⟩

set_option maxHeartbeats 1000000 in
theorem joined_any (a1 a2 : Option Addr) (c1 c2 : Nat) (l1 l2 : List Int) (w : World) (h1 : PIn w a1 l1) (h2 : PIn w a2 l2) (hn : l1.length + l2.length ≤ 10000) :
    Calls Tryz.prog 142 #[.slice a1 l1.length c1, .slice a2 l2.length c2] w fun e w' => ∃ va vc, e = .returned (.slice va (l1 ++ l2).length vc) ∧ PIn w' va (l1 ++ l2) ∧ (l1 ++ l2).length ≤ vc ∧ vc ≤ maxLen ∧ (∀ a, va = some a → w.heap.size ≤ a.block ∧ a.block < w'.heap.size) ∧ Below w.heap.size w w' := by
  obtain ⟨srcs, hsr⟩ : ∃ srcs, srcs = [(⟨a1, l1.length, c1, ints l1⟩ : Src), ⟨a2, l2.length, c2, ints l2⟩] := ⟨_, rfl⟩
  have hbx : Below w.heap.size w (w.alloc (Obj.cells #[.slice a1 l1.length c1, .slice a2 l2.length c2] 23)) := (Below.refl _ _).alloc (Nat.le_refl _) _
  have HC := hide (show Calls Tryz.prog 159 #[.slice (some ⟨w.heap.size, 0, none⟩) 2 2] (w.alloc (Obj.cells #[.slice a1 l1.length c1, .slice a2 l2.length c2] 23)) fun e w' => ∃ va vc, e = .returned (.slice va (l1 ++ l2).length vc) ∧ PIn w' va (l1 ++ l2) ∧ (l1 ++ l2).length ≤ vc ∧ vc ≤ maxLen ∧ (∀ a, va = some a → w.heap.size ≤ a.block ∧ a.block < w'.heap.size) ∧ Below w.heap.size w w' by
    have := concatI_any w.heap.size 2 srcs (w.alloc (Obj.cells #[.slice a1 l1.length c1, .slice a2 l2.length c2] 23)) (0, 0) (by rw [hsr]; exact heap_alloc_new _ _) (fun s hs => by
      rw [hsr] at hs
      simp only [List.mem_cons, List.not_mem_nil, or_false] at hs
      rcases hs with rfl | rfl
      · exact (src_path h1 c1).below hbx
      · exact (src_path h2 c2).below hbx) (by rw [hsr]; simp) (by rw [hsr]; simp [tot]; omega)
    rw [hsr] at this
    refine Calls.mono this ?_
    rintro e w' ⟨va, vc, rfl, hown, hb⟩
    have hx : ([(⟨a1, l1.length, c1, ints l1⟩ : Src), ⟨a2, l2.length, c2, ints l2⟩] : List Src).flatMap (·.xs) = ints (l1 ++ l2) := by simp [ints]
    have ht : tot [(⟨a1, l1.length, c1, ints l1⟩ : Src), ⟨a2, l2.length, c2, ints l2⟩] = (l1 ++ l2).length := by simp [tot]
    rw [hx, ht] at hown
    obtain ⟨p1, p2, p3, p4⟩ := path_of hown
    refine ⟨va, vc, by rw [ht], p1, p3, p4, fun a ha => ?_, hbx.trans (hb.mono (by simp))⟩
    have := (ownBlockN_lt hown (g := a.block) (by rw [ha]; rfl))
    simp at this
    omega)
  clear hsr hbx h1 h2
  go_enter Tryz.func142, Tryz.ntmps142
  go_wp2_with fail
  refine Calls.mono HC.out ?_
  rintro e w' ⟨va, vc, rfl, p1, p2, p3, p4, p5⟩
  have HP := hide (And.intro p1 (And.intro p4 p5))
  clear p1 p4 p5
  go_wp2_with fail
  go_ret
  exact ⟨va, vc, by simp, HP.out.1, p2, p3, HP.out.2.1, HP.out.2.2⟩

end Go.Proofs.YtkoohfkomlmhoacGreatDoor.Deed
