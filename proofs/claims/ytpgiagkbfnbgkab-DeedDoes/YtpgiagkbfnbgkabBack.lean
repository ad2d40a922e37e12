/- tree.comesBack of a way whose lists are all others answers false. Of the program's text. -/
import Derived.Test.YtpgiagkbfnbgkabProg
import Derived.Test.YtpgiagkbfnbgkabFo2
import Derived.Test.YtpgiagkbfnbgkabBits
import Derived.WalkSpells
import Derived.Deep.QuietTactic
import Derived.BigQuiet
import Derived.WalkSmall
import Derived.LaidEqlPtr
namespace Go.Proofs.Ytpgiagkbfnbgkab
open Go.Deep Go.RowKit
set_option linter.unusedVariables false
set_option maxRecDepth 20000

/-- A step of a way: the list's first place, length and capacity, the number that comes next. -/
abbrev St := Addr × Nat × Nat × Nat
def stCells (s : St) : List Value := [.slice (some s.1) s.2.1 s.2.2.1, .int .i64 s.2.2.2]
def wayCells : List St → List Value
  | [] => []
  | s :: l => stCells s ++ wayCells l

theorem wayCells_length : ∀ l : List St, (wayCells l).length = l.length * 2
  | [] => rfl
  | a :: l => by simp [wayCells, stCells, wayCells_length l]; omega
theorem wayCells_append : ∀ (l : List St) (s : St), wayCells (l ++ [s]) = wayCells l ++ stCells s
  | [], s => by simp [wayCells]
  | a :: l, s => by simp [wayCells, wayCells_append l s]
theorem wayCells_at : ∀ (l : List St) (i : Nat) (s : St), l[i]? = some s → (wayCells l)[i * 2]? = some (.slice (some s.1) s.2.1 s.2.2.1) ∧ (wayCells l)[i * 2 + 1]? = some (.int .i64 s.2.2.2)
  | [], i, s, h => by simp at h
  | a :: l, 0, s, h => by
    have : a = s := by simpa using h
    subst this
    simp [wayCells, stCells]
  | a :: l, i + 1, s, h => by
    have := wayCells_at l i s (by simpa using h)
    rw [show (i + 1) * 2 = i * 2 + 2 by omega]
    simpa [wayCells, stCells] using this

theorem Try.infoTree' : (Try.prog.info? 24).map (fun i => (i.zero, i.size, i.bytes)) = some (some (.agg #[.string ⟨#[]⟩, .slice none 0 0]), 2, 40) := by kernel_rfl

set_option maxHeartbeats 400000 in
theorem back_any (l : List St) (g cap : Nat) (w : World) (hl : l.length ≤ 256) (h0 : 0 < l.length) (hc : l.length ≤ cap) (hcell : ∀ j u, (wayCells l)[j]? = some u → w.cell? ⟨g, 0 + j, none⟩ = some u)
    (hplain : ∀ s, s ∈ l → BPlain w s.1.block) (hpos : ∀ s, s ∈ l → 0 < s.2.1) (hcap : ∀ s, s ∈ l → s.2.1 ≤ s.2.2.1 ∧ s.2.2.1 ≤ maxLen)
    (hdiff : ∀ (i j : Nat) (s t : St), i < j → l[i]? = some s → l[j]? = some t → ¬ (s.2.1 = t.2.1 ∧ s.1 = t.1)) :
    Calls Try.prog 68 #[.slice (some ⟨g, 0, none⟩) l.length cap] w fun e w' => e = .returned (.bool false) ∧ Below w.heap.size w w' := by
  by_cases h3 : l.length < 3
  · go_enter Try.func68, Try.ntmps68
    go_wp2_with fail
    go_ret
    exact ⟨rfl, Below.refl _ _⟩
  · obtain ⟨q, hq⟩ : ∃ q, l.length = q + 2 := ⟨l.length - 2, by omega⟩
    rw [hq]
    have HQ := hide hq
    have hq1 : 1 ≤ q := by omega
    have hq2 : q ≤ 254 := by omega
    clear hq h3
    obtain ⟨L1, L8, L2⟩ := bitLen_bd' q (by omega) (by omega)
    go_enter Try.func68, Try.ntmps68
    go_wp2_with fail
    rw [show ((q : Int) + 2 - 1 - 1) = (q : Int) by omega, show ((q : Int) + 2 - 1) = ((q + 1 : Nat) : Int) by omega]
    refine (len_any (q : Int) _ (by omega) (by omega)).mono ?_
    rintro e w1 ⟨rfl, rfl⟩
    rw [Int.toNat_natCast]
    obtain ⟨m, hm⟩ : ∃ m, Lib.bitLen q = m + 1 := ⟨Lib.bitLen q - 1, by omega⟩
    rw [hm] at L2 L8 ⊢
    have hm7 : m ≤ 7 := by omega
    have hmq : 2 ^ m ≤ q := by simpa using L2
    clear L1 L2 L8 hm
    rw [show (((m + 1 : Nat) : Int)) = (m : Int) + 1 by omega]
    go_wp2_with fail
    obtain ⟨M, hM, hM1, hM2⟩ : ∃ M : Nat, wrap64 (2 ^ m) = (M : Int) ∧ 1 ≤ M ∧ M ≤ q := by
      refine ⟨2 ^ m, ?_, Nat.one_le_two_pow, hmq⟩
      have e : ((2 : Int) ^ m) = ((2 ^ m : Nat) : Int) := by simp
      rw [e]
      generalize (2 : Nat) ^ m = f at *
      unfold wrap64
      omega
    rw [hM]
    clear hM hmq hm7
    obtain ⟨x, hx⟩ : ∃ x, l[M]? = some x := ⟨_, List.getElem?_eq_getElem (by have := HQ.out; omega)⟩
    obtain ⟨y, hy⟩ : ∃ y, l[q + 1]? = some y := ⟨_, List.getElem?_eq_getElem (by have := HQ.out; omega)⟩
    have hd := hdiff M (q + 1) x y (by omega) hx hy
    have px := hpos x (List.mem_of_getElem? hx)
    have py := hpos y (List.mem_of_getElem? hy)
    obtain ⟨cx, mx⟩ := hcap x (List.mem_of_getElem? hx)
    obtain ⟨cy, my⟩ := hcap y (List.mem_of_getElem? hy)
    have hcx : w1.cell? ⟨g, M * 2, none⟩ = some (.slice (some x.1) x.2.1 x.2.2.1) := by simpa using hcell _ _ (wayCells_at l M x hx).1
    have hcy : w1.cell? ⟨g, (q + 1) * 2, none⟩ = some (.slice (some y.1) y.2.1 y.2.2.1) := by simpa using hcell _ _ (wayCells_at l (q + 1) y hy).1
    have bx := hplain x (List.mem_of_getElem? hx)
    have bY := hplain y (List.mem_of_getElem? hy)
    obtain ⟨xa, xl, xc, xn⟩ := x
    obtain ⟨ya, yl, yc, yn⟩ := y
    simp only at hd px py cx cy mx my hcx hcy bx bY
    unfold maxLen at mx my
    have HD := hide hd
    clear hd hx hy hdiff hcell hpos hcap hplain
    by_cases hlen : xl = yl
    · have he : ((xl : Int) == (yl : Int)) = true := by rw [hlen]; simp
      have hne : ¬ xa = ya := fun e => HD.out ⟨hlen, e⟩
      have hpe : ∀ n, (binOp .eql 71 (.pointer (some xa)) (.pointer (some ya))).run Try.prog (w1.drewN n) = .ok (.bool false) (w1.drewN n) := fun n => by
        obtain ⟨i24, hi24, hz0, hz1, hz2⟩ := info_parts Try.infoTree'
        obtain ⟨c1, e1, b1⟩ := bx
        obtain ⟨c2, e2, b2⟩ := bY
        exact run_eql_ptr_other _ Try.underlying71 hi24 (by rw [hz1]; decide) hne b1 b2
      clear hlen hne bx bY
      go_quiet (fail)
      go_wp2_with fail
      go_quiet (fail)
      go_wp2_with fail
      go_ret
      exact ⟨rfl, below_drewN (below_drewN (Below.refl _ _) _) _⟩
    · have he : ((xl : Int) == (yl : Int)) = false := beq_eq_false_iff_ne.2 (by omega)
      clear hlen bx bY
      go_quiet (fail)
      go_wp2_with fail
      go_quiet (fail)
      go_wp2_with fail
      go_ret
      exact ⟨rfl, below_drewN (below_drewN (Below.refl _ _) _) _⟩

end Go.Proofs.Ytpgiagkbfnbgkab
