/- Bytes as a string. Of no program. -/
/- PathText of package pleachingref: the text of a path. Of the program's text. -/
import Derived.WalkKit
import Derived.Test.YtkoohfkomlmhoacDoorProg
import Derived.Test.YtkoohfkomlmhoacDoorShelf
import Derived.Lib.AppendIntMem
import Derived.Lib.ItoaLen
import Derived.Deep.LoopGhost
import Derived.WalkSmall
import Derived.Test.YtkoohfkomlmhoacDoorKLP06
namespace Go.Proofs.YtkoohfkomlmhoacDoor
set_option linter.unusedVariables false

/-- Bytes as a string. -/
abbrev str (l : List UInt8) : ByteArray := ⟨l.toArray⟩
theorem str_append (a b : List UInt8) : str a ++ str b = str (a ++ b) := by
  apply ByteArray.ext
  simp
theorem str_size (l : List UInt8) : (str l).size = l.length := by
  show l.toArray.size = _
  simp
end Go.Proofs.YtkoohfkomlmhoacDoor
namespace Go.Proofs.YtkoohfkomlmhoacDoor.Pat
open Go.Deep Go.RowKit Deed
set_option linter.unusedVariables false
set_option maxRecDepth 20000

/-- The library's variables lie where they are read: the powers of ten as laid, a number, and two that are whatever errors. -/
structure Tab (w : World) : Prop where
  pow : Lib.TabIs Tryd.prog w "internal/strconv.uint64pow10" .u64 Lib.pow10Tab
  most : ∃ m, w.cell? ⟨0, 0, none⟩ = some (.int .i64 m)
  bad : ∃ ev, w.cell? ⟨4, 0, none⟩ = some ev ∧ (ev = .nilIface ∨ ∃ te pe, ev = .iface te pe)
  far : ∃ ev, w.cell? ⟨5, 0, none⟩ = some ev ∧ (ev = .nilIface ∨ ∃ te pe, ev = .iface te pe)
theorem pow_below {w w' : World} (h : Lib.TabIs Tryd.prog w "internal/strconv.uint64pow10" .u64 Lib.pow10Tab) (hb : Below w.heap.size w w') : Lib.TabIs Tryd.prog w' "internal/strconv.uint64pow10" .u64 Lib.pow10Tab := by
  unfold Lib.TabIs World.var? at *
  cases hg : Tryd.prog.globalNamed "internal/strconv.uint64pow10" with
  | none => simp [hg] at h
  | some g =>
    simp only [hg, Option.bind_some] at h ⊢
    have hlt : g < w.heap.size := by
      rcases Nat.lt_or_ge g w.heap.size with h1 | h1
      · exact h1
      · rw [Array.getElem?_eq_none h1] at h
        cases h
    rw [hb.block g hlt]
    exact h
theorem Tab.below {w w' : World} (h : Tab w) (hb : Below w.heap.size w w') : Tab w' := by
  obtain ⟨h1, ⟨m, h2⟩, ⟨e, h3, h4⟩, ⟨f, h5, h6⟩⟩ := h
  exact ⟨pow_below h1 hb, ⟨m, by rw [hb.cell (World.block_lt_of_cell? _ _ h2)]; exact h2⟩, ⟨e, by rw [hb.cell (World.block_lt_of_cell? _ _ h3)]; exact h3, h4⟩, ⟨f, by rw [hb.cell (World.block_lt_of_cell? _ _ h5)]; exact h5, h6⟩⟩
/-- An int of 64 bits. -/
def In64 (n : Int) : Prop := -9223372036854775808 ≤ n ∧ n ≤ 9223372036854775807
theorem itoa_any (n : Int) (hn : In64 n) (w : World) (ht : Tab w) :
    Calls Tryd.prog 39 #[.int .i64 n] w fun e w' => e = .returned (.string (str (Lib.itoa n))) ∧ Below w.heap.size w w' := by
  refine (Tryd.strconv_Itoa n hn.1 hn.2 w ht.pow).mono ?_
  rintro e w' ⟨rfl, k, os, rfl⟩
  exact ⟨rfl, Lib.below_grow _ _ (Nat.le_refl _) _ _⟩
/-- The numbers ahead of one, with dots behind each but the last. -/
def dotted (L : List Int) : List UInt8 := joinP 46 (L.map Lib.itoa)
theorem join_snoc (c : UInt8) : ∀ (ps : List (List UInt8)) (p : List UInt8), ps ≠ [] → joinP c (ps ++ [p]) = joinP c ps ++ c :: p
  | [], p, h => absurd rfl h
  | [q], p, _ => rfl
  | q :: r :: ps, p, _ => by
    have ih := join_snoc c (r :: ps) p (by simp)
    simp only [List.cons_append] at ih ⊢
    rw [joinP, joinP, ih]
    simp
theorem dotted_len (L : List Int) (h : ∀ n, n ∈ L → In64 n) : (dotted L).length ≤ L.length * 22 := by
  have key : ∀ ps : List (List UInt8), (∀ p, p ∈ ps → p.length ≤ 21) → (joinP 46 ps).length ≤ ps.length * 22 := fun ps => by
    induction ps with
    | nil => intro _; simp [joinP]
    | cons p ps ih =>
      intro hp
      have h1 := hp p (by simp)
      have h2 := ih (fun q hq => hp q (by simp [hq]))
      cases ps with
      | nil => simp only [joinP, List.length_cons, List.length_nil]; omega
      | cons q qs =>
        simp only [joinP, List.length_append, List.length_cons] at h2 ⊢
        omega
  have := key (L.map Lib.itoa) (fun p hp => by
    obtain ⟨n, hn, rfl⟩ := List.mem_map.1 hp
    exact Lib.itoa_length_le n (h n hn).1 (h n hn).2)
  rwa [List.length_map] at this
end Go.Proofs.YtkoohfkomlmhoacDoor.Pat
