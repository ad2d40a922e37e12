/- Rows of memory of whatever width that a call owns: what grows, what stays. Of no program. -/
/- SameInts of package pleachingref: are two lists of numbers the same? Of the program's text. -/
import Derived.WalkSmall
import Derived.Test.YtkoohfkomlmhoacGreatDoorKDP01
import Derived.Test.YtkoohfkomlmhoacGreatDoorKDP04
import Derived.Test.YtkoohfkomlmhoacGreatDoorKDP05
import Derived.Test.YtkoohfkomlmhoacGreatDoorProg
import Derived.WalkSpells
import Derived.Deep.LoopGhost
import Derived.Deep.RegionHeld3
import Derived.Deep.QuietTactic
import Derived.BigQuiet
import Derived.Test.YtkoohfkomlmhoacGreatDoorKDP00
import Derived.Test.YtkoohfkomlmhoacGreatDoorKDP02
namespace Go.Proofs.YtkoohfkomlmhoacGreatDoor
open Go.Deep Go.RowKit
set_option linter.unusedVariables false
set_option maxRecDepth 20000

theorem grownBy_of_below {a b : World} (h : Below a.heap.size a b) (r : Option Nat) : a.grownBy b r := ⟨h.os, h.tape, h.output, h.size, fun k hk _ => h.block k hk⟩
theorem grownBy_refl (a : World) (r : Option Nat) : a.grownBy a r := grownBy_of_below (Below.refl _ _) r
theorem grownBy_trans {a b c : World} {r r' : Option Nat} (h : a.grownBy b r) (h' : b.grownBy c r') (hr : r' = r ∨ ∀ g, r' = some g → a.heap.size ≤ g) : a.grownBy c r :=
  ⟨h'.os.trans h.os, h'.tape.trans h.tape, h'.output.trans h.output, Nat.le_trans h.size h'.size, fun k hk hn => by
    rw [h'.block k (Nat.lt_of_lt_of_le hk h.size) (fun e => by
      rcases hr with hr | hr
      · exact hn (e.trans hr)
      · have := hr k e.symm
        omega)]
    exact h.block k hk hn⟩
theorem ownsN_block {w w' : World} {B T sz n : Nat} {v : Value} {xs : List Value} (h : w.ownsRow B T sz v n xs) (hb : ∀ g, v.ownBlock = some g → w'.heap[g]? = w.heap[g]?) : w'.ownsRow B T sz v n xs := by
  obtain ⟨h1, h2⟩ := h
  refine ⟨h1, ?_⟩
  rcases h2 with h2 | ⟨g, cap, cur, hv, hg, hh, r⟩
  · exact Or.inl h2
  · exact Or.inr ⟨g, cap, cur, hv, hg, by rw [hb g (by rw [hv]; rfl)]; exact hh, r⟩
theorem ownBlockN_lt {w : World} {B T sz n g : Nat} {v : Value} {xs : List Value} (h : w.ownsRow B T sz v n xs) (hg : v.ownBlock = some g) : B ≤ g ∧ g < w.heap.size := by
  rcases h.2 with ⟨h2, _⟩ | ⟨g', cap, cur, hv, hb, hh, r⟩
  · subst h2; cases hg
  · subst hv
    simp only [Value.ownBlock, Option.some.injEq] at hg
    subst hg
    refine ⟨hb, ?_⟩
    rcases Nat.lt_or_ge g' w.heap.size with h | h
    · exact h
    · rw [Array.getElem?_eq_none h] at hh; cases hh
theorem ownsN_below {w w' : World} {B T sz n : Nat} {v : Value} {xs : List Value} (h : w.ownsRow B T sz v n xs) (hb : Below w.heap.size w w') : w'.ownsRow B T sz v n xs :=
  ownsN_block h fun g hg => hb.block g (ownBlockN_lt h hg).2
/-- Another row has grown; this one is none of it. -/
theorem ownsN_grown {w w' : World} {B T sz n : Nat} {v : Value} {xs : List Value} {r : Option Nat} (h : w.ownsRow B T sz v n xs) (hg : w.grownBy w' r) (hr : ∀ g, v.ownBlock = some g → r ≠ some g) : w'.ownsRow B T sz v n xs :=
  ownsN_block h fun g hg' => hg.block g (ownBlockN_lt h hg').2 (fun e => hr g hg' e.symm)
theorem ownsN_form {w : World} {B T sz n : Nat} {v : Value} {xs : List Value} (h : w.ownsRow B T sz v n xs) : ∃ va vc, v = .slice va n vc ∧ n ≤ vc ∧ vc ≤ maxLen := by
  rcases h.2 with ⟨h2, h0⟩ | ⟨g', cap, cur, hv, hb, hh, h1, h2, _⟩
  · exact ⟨none, 0, by rw [h2, h0], by omega, by unfold maxLen; omega⟩
  · exact ⟨_, cap, hv, h1, h2⟩
theorem ownsN_some {w : World} {B T sz n : Nat} {v : Value} {xs : List Value} (h : w.ownsRow B T sz v n xs) (hn : 0 < n) : ∃ g vc, v = .slice (some ⟨g, 0, none⟩) n vc ∧ B ≤ g ∧ g < w.heap.size ∧ n ≤ vc ∧ vc ≤ maxLen := by
  rcases h.2 with ⟨h2, h0⟩ | ⟨g', cap, cur, hv, hb, hh, h1, h2, _⟩
  · omega
  · exact ⟨g', cap, hv, hb, (ownBlockN_lt h (by rw [hv]; rfl)).2, h1, h2⟩
/-- One cell of the row is written. -/
theorem own_setN {w : World} {B T sz n g cap j : Nat} {xs : List Value} (u : Value) (h : w.ownsRow B T sz (.slice (some ⟨g, 0, none⟩) n cap) n xs) (hj : j < n * sz) :
    (w.setCell ⟨g, j, none⟩ u).ownsRow B T sz (.slice (some ⟨g, 0, none⟩) n cap) n (xs.set j u) := by
  refine ⟨by simp [h.1], Or.inr ?_⟩
  rcases h.2 with ⟨h0, _⟩ | ⟨g', cap', cur, hv, hb, hh, h1, h2, h3, h4⟩
  · cases h0
  · simp only [Value.slice.injEq, Option.some.injEq, Addr.mk.injEq] at hv
    obtain ⟨⟨rfl, _, _⟩, _, rfl⟩ := hv
    refine ⟨g, cap, cur.setIfInBounds j u, rfl, hb, ?_, h1, h2, by simp [h3], ?_⟩
    · simp [World.setCell, Array.getElem?_modify, hh]
    · rw [← h4]
      simp [List.take_set]
/-- No cell of such a row is frozen. -/
theorem own_frozen {w : World} {B T sz n g cap : Nat} {xs : List Value} (h : w.ownsRow B T sz (.slice (some ⟨g, 0, none⟩) n cap) n xs) (j : Nat) : w.frozen? ⟨g, j, none⟩ = false := by
  rcases h.2 with ⟨h0, _⟩ | ⟨g', cap', cur, hv, hb, hh, _⟩
  · cases h0
  · simp only [Value.slice.injEq, Option.some.injEq, Addr.mk.injEq] at hv
    obtain ⟨⟨rfl, _, _⟩, _, rfl⟩ := hv
    simp [World.frozen?, hh]

def intCells (l : List Nat) : List Value := l.map fun (n : Nat) => Value.int .i64 (n : Int)
theorem intCells_at {l : List Nat} {i n : Nat} (h : l[i]? = some n) : (intCells l)[i]? = some (.int .i64 (n : Int)) := by simp [intCells, h]

end Go.Proofs.YtkoohfkomlmhoacGreatDoor
namespace Go.Proofs.YtkoohfkomlmhoacGreatDoor
open Go.Deep Go.RowKit
set_option linter.unusedVariables false
set_option maxRecDepth 20000

def ints (l : List Nat) : List Int := l.map fun (n : Nat) => (n : Int)
theorem ints_length (l : List Nat) : (ints l).length = l.length := by simp [ints]
theorem PIn_of_owns {w : World} {B T : Nat} {va : Option Addr} {n vc : Nat} {l : List Nat} (h : w.ownsRow B T 1 (.slice va n vc) n (intCells l)) : PIn w va (ints l) := by
  rcases h.2 with ⟨hv, h0⟩ | ⟨g, cap, cur, hv, _⟩
  · left
    have := h.1
    simp only [intCells, List.length_map] at this
    have : l = [] := List.eq_nil_of_length_eq_zero (by omega)
    rw [this]; rfl
  · right
    injection hv with h1 h2 h3
    subst h1
    refine ⟨g, 0, rfl, fun i q hq => ?_⟩
    have hc : w.ownsRow B T 1 (.slice (some ⟨g, 0, none⟩) n vc) n (intCells l) := h
    refine ownsRow_cell hc i _ ?_
    simp only [ints, List.getElem?_map, Option.map_eq_some_iff] at hq
    obtain ⟨a, ha, rfl⟩ := hq
    exact intCells_at ha

set_option maxHeartbeats 1000000 in
theorem sameI_any (la lb : Option Addr) (lc mc : Nat) (L M : List Int) (w : World) (hL : PIn w la L) (hM : PIn w lb M) (hl : L.length ≤ 100000) (hm : M.length ≤ maxLen) :
    Calls Tryz.prog 14 #[.slice la L.length lc, .slice lb M.length mc] w fun e w' => e = .returned (.bool (decide (L = M))) ∧ Below w.heap.size w w' := by
  unfold maxLen at hm
  by_cases hlen : L.length = M.length
  · have hb : ((L.length : Int) == (M.length : Int)) = true := beq_iff_eq.2 (by omega)
    rw [← hlen]
    have HLE := hide hlen
    have hle1 : M.length ≤ L.length := by omega
    clear hlen
    go_enter Tryz.func14, Tryz.ntmps14
    go_wp2_with fail
    go_loopg [5] L.length (fun gk v wr => ∃ i : Nat, gk = L.length - i ∧ i ≤ L.length ∧ v = .int .i64 (i : Nat) ∧ Hid (L.take i = M.take i) ∧ Below w.heap.size w wr)
    case atStart => exact ⟨0, rfl, Nat.zero_le _, rfl, rfl, Below.refl _ _⟩
    case round =>
      obtain ⟨i, hgk, hi, rfl, hsame, hbr⟩ := hrel
      by_cases hlt : i < L.length
      · obtain ⟨x, hx⟩ : ∃ x, L[i]? = some x := ⟨_, List.getElem?_eq_getElem hlt⟩
        obtain ⟨y, hy⟩ : ∃ y, M[i]? = some y := ⟨_, List.getElem?_eq_getElem (by have := HLE.out; omega)⟩
        rcases hL with hL | ⟨b, o, rfl, hL⟩
        · rw [hL] at hlt; simp at hlt
        rcases hM with hM | ⟨c, q, rfl, hM⟩
        · rw [hM] at hy; simp at hy
        have x0 := hL i x hx
        have y0 := hM i y hy
        have hbl : b < w.heap.size := World.block_lt_of_cell? _ _ x0
        have hcl : c < w.heap.size := World.block_lt_of_cell? _ _ y0
        have x0' : wr.cell? ⟨b, o + i, none⟩ = some (.int .i64 x) := by rw [hbr.cell hbl]; exact x0
        have y0' : wr.cell? ⟨c, q + i, none⟩ = some (.int .i64 y) := by rw [hbr.cell hcl]; exact y0
        have HX := hide hx
        have HY := hide hy
        clear x0 y0 hL hM hx hy
        by_cases h1 : x = y
        · have h1b : (x == y) = true := beq_iff_eq.2 h1
          have HT := hide (show L.take (i + 1) = M.take (i + 1) by
            have h4 := HX.out
            have h5 := HY.out
            rw [List.getElem?_eq_getElem hlt] at h4
            have hlm : i < M.length := by have := HLE.out; omega
            rw [List.getElem?_eq_getElem hlm] at h5
            rw [List.take_succ_eq_append_getElem hlt, List.take_succ_eq_append_getElem hlm, hsame.out]
            have e1 : L[i] = x := by simpa using h4
            have e2 : M[i] = y := by simpa using h5
            rw [e1, e2, h1])
          clear h1
          go_wp2_with fail
          go_quiet (fail)
          go_wp2_with fail
          go_roundg (L.length - (i + 1))
          case measure => omega
          case rel => exact ⟨i + 1, rfl, by omega, by go_num, HT.out, below_drewN hbr _⟩
        · have h1b : (x == y) = false := beq_eq_false_iff_ne.2 h1
          have HV := hide (show decide (L = M) = false from decide_eq_false (fun e => h1 (by
            have h2 := HX.out
            rw [e, HY.out] at h2
            simpa using h2.symm)))
          clear h1
          go_wp2_with fail
          go_quiet (fail)
          go_wp2_with fail
          go_ret
          exact ⟨by rw [HV.out]; rfl, below_drewN hbr _⟩
      · have HV := hide (show decide (L = M) = true from decide_eq_true (by
          have h1 := hsame.out
          rw [List.take_of_length_le (by omega), List.take_of_length_le (by have := HLE.out; omega)] at h1
          exact h1))
        go_wp2_with fail
        go_ret
        exact ⟨by rw [HV.out]; rfl, hbr⟩
  · have hb : ((L.length : Int) == (M.length : Int)) = false := beq_eq_false_iff_ne.2 (by omega)
    have HNE := hide (show decide (L = M) = false from decide_eq_false (fun e => hlen (by rw [e])))
    clear hlen
    go_enter Tryz.func14, Tryz.ntmps14
    go_wp2_with fail
    go_ret
    exact ⟨by rw [HNE.out]; rfl, Below.refl _ _⟩

end Go.Proofs.YtkoohfkomlmhoacGreatDoor
