/- Path of package patch: the text of a path. Of the program's text. -/
/- Line of package patch: the line of a deed. Of the program's text. -/
import Derived.Test.YtkoohfkomlmhoacGreatDoorProg
import Derived.Test.YtkoohfkomlmhoacGreatDoorKDP08
import Derived.Test.YtkoohfkomlmhoacGreatDoorKDP25
import Derived.Deep.RegionHeld3
import Derived.Laws.Entries
import Derived.Test.YtkoohfkomlmhoacGreatDoorKDP17
import Derived.Test.YtkoohfkomlmhoacGreatDoorKDP16
namespace Go.Proofs.YtkoohfkomlmhoacGreatDoor.Pat
open Go.Deep Go.RowKit Deed
set_option linter.unusedVariables false
set_option maxRecDepth 20000

theorem sbCells (s : ByteArray) : Lib.strCells s = Lib.byteCells s.data.toList := by
  simp [Lib.strCells, Lib.byteCells]
theorem sbCells_str (l : List UInt8) : Lib.strCells (str l) = Lib.byteCells l := by rw [sbCells]
theorem byteCells_app (a b : List UInt8) : Lib.byteCells (a ++ b) = Lib.byteCells a ++ Lib.byteCells b := by simp [Lib.byteCells]
/-- What is written of a path when i numbers are. -/
theorem dotted_take {L : List Int} {i : Nat} {n : Int} (h : L[i]? = some n) : dotted (L.take (i + 1)) = dotted (L.take i) ++ ((if i = 0 then [] else [46]) ++ Lib.itoa n) := by
  have hl := (List.getElem?_eq_some_iff.1 h).1
  have e : L.take (i + 1) = L.take i ++ [n] := by
    rw [List.take_succ_eq_append_getElem hl]
    congr 2
    rw [List.getElem?_eq_getElem hl] at h
    exact Option.some.inj h
  rw [e]
  unfold dotted
  rw [List.map_append]
  by_cases h0 : i = 0
  · subst h0
    simp [joinP]
  · rw [if_neg h0, List.map_cons, List.map_nil, join_snoc 46 _ _ (by simp; exact ⟨fun e => h0 (by omega), fun e => by rw [e] at hl; simp at hl⟩)]
    rfl
theorem dotted_len' (L : List Int) (i : Nat) (h : ∀ n, n ∈ L → In64 n) (hl : L.length ≤ 10000) : (dotted (L.take i)).length ≤ 220000 := by
  have h1 := dotted_len (L.take i) (fun n hn => h n (List.mem_of_mem_take hn))
  have h2 : (L.take i).length ≤ 10000 := by rw [List.length_take]; omega
  generalize (L.take i).length = k at h1 h2
  omega

set_option maxHeartbeats 2000000 in
theorem ppath_any (la : Option Addr) (lc : Nat) (L : List Int) (w : World) (hL : PIn w la L) (hl : L.length ≤ 10000) (hr : ∀ n, n ∈ L → In64 n) (ht : Tab w) :
    Calls Tryz.prog 15 #[.slice la L.length lc] w fun e w' => e = .returned (.string (str (pathTxt L))) ∧ Below w.heap.size w w' := by
  by_cases h0 : L.length = 0
  · have hb : ((L.length : Int) == 0) = true := beq_iff_eq.2 (by omega)
    have HE := hide (show pathTxt L = [45] by rw [List.length_eq_zero_iff.1 h0]; rfl)
    clear h0
    go_enter Tryz.func15, Tryz.ntmps15
    go_wp2_with fail
    go_ret
    exact ⟨by rw [HE.out]; rfl, Below.refl _ _⟩
  · have hb : ((L.length : Int) == 0) = false := beq_eq_false_iff_ne.2 (by omega)
    obtain ⟨b, o, rfl, hcells⟩ : ∃ b o, la = some ⟨b, o, none⟩ ∧ ∀ (i : Nat) p, L[i]? = some p → w.cell? ⟨b, o + i, none⟩ = some (.int .i64 p) := by
      rcases hL with h1 | ⟨b, o, e, h1⟩
      · rw [h1] at h0; simp at h0
      · exact ⟨b, o, e, h1⟩
    obtain ⟨W, hW⟩ : ∃ W, W = w.alloc (Obj.cells #[.pointer none, .slice none 0 0] 58) := ⟨_, rfl⟩
    have hB : Below w.heap.size w W := by rw [hW]; exact (Below.refl _ _).alloc (Nat.le_refl _) _
    have hI : Sb.IsW w.heap.size w.heap.size (Lib.byteCells []) W := by rw [hW]; exact Lib.fresh_isBuilder _ _ w
    have HC := hide hcells
    have HT := hide ht
    have HR := hide hr
    have HI := hide hI
    have HB := hide hB
    have HE := hide (show pathTxt L = dotted (L.take L.length) by
      unfold pathTxt dotted
      rw [if_neg (fun e => by rw [e] at h0; simp at h0), List.take_length])
    have hlen := fun i => dotted_len' L i hr hl
    clear hcells ht hr hI hB h0 hL
    go_enter Tryz.func15, Tryz.ntmps15
    go_wp2_with fail
    rw [← hW]
    clear hW
    go_loopg [11] L.length (fun gk v11 wr => ∃ (i : Nat), gk = L.length - i ∧ i ≤ L.length ∧ v11 = .int .i64 (i : Nat) ∧ Hid (Sb.IsW w.heap.size w.heap.size (Lib.byteCells (dotted (L.take i))) wr) ∧ Below w.heap.size w wr)
    case atStart => exact ⟨0, rfl, Nat.zero_le _, rfl, HI.out, HB.out⟩
    case round =>
      obtain ⟨i, hgk, hi, rfl, hw, hbr⟩ := hrel
      have hlen1 := hlen i
      have hz := hbr.size
      by_cases hlt : i < L.length
      · obtain ⟨n, hn⟩ : ∃ n, L[i]? = some n := ⟨_, List.getElem?_eq_getElem hlt⟩
        have hin := HR.out n (List.mem_of_getElem? hn)
        have hc0 := HC.out i n hn
        have hbl : b < w.heap.size := World.block_lt_of_cell? _ _ hc0
        have hc : wr.cell? ⟨b, o + i, none⟩ = some (.int .i64 n) := by rw [hbr.cell hbl]; exact hc0
        have hD := dotted_take hn
        have hil := Lib.itoa_length_le n hin.1 hin.2
        clear hc0
        by_cases h0 : i = 0
        · subst h0
          rw [if_pos rfl, List.nil_append] at hD
          rw [Nat.add_zero] at hc
          have HD := hide hD
          have HIT := hide (itoa_any n hin wr (HT.out.below hbr))
          clear hD hn
          go_wp2_with fail
          refine Calls.mono HIT.out ?_
          rintro e w1 ⟨rfl, hb1⟩
          have hw1 : Sb.IsW w.heap.size w.heap.size (Lib.byteCells (dotted (L.take 0))) w1 := Sb.isW_below hw.out hb1
          have HWS := hide (Sb.writeString_any w.heap.size w.heap.size _ (str (Lib.itoa n)) w1 hw1 (by rw [Lib.byteCells_length, str_size]; omega) (by have := hb1.size; omega))
          have HB1 := hide (hbr.trans (hb1.mono hz))
          clear hb1 hw1
          go_wp2_with fail
          refine Calls.mono HWS.out ?_
          rintro e w2 ⟨rfl, hw2, hb2, _⟩
          go_wp2_with fail
          go_roundg (L.length - 1)
          case measure => omega
          case rel =>
            refine ⟨1, rfl, by omega, by go_num, ?_, HB1.out.trans hb2⟩
            rw [sbCells_str, ← byteCells_app, ← HD.out] at hw2
            exact Or.inr hw2
        · have hi0 : (0 : Int) < (i : Int) := by omega
          rw [if_neg h0] at hD
          have HD := hide hD
          have HWB := hide (Sb.writeByte_any w.heap.size w.heap.size _ 46 wr hw.out (by rw [Lib.byteCells_length]; omega) hz)
          clear hD hn h0
          go_wp2_with fail
          refine Calls.mono HWB.out ?_
          rintro e w0 ⟨rfl, hw0, hb0, _⟩
          have hbw0 := hbr.trans hb0
          have HIT := hide (itoa_any n hin w0 (HT.out.below hbw0))
          have hz0 := hbw0.size
          go_wp2_with fail
          refine Calls.mono HIT.out ?_
          rintro e w1 ⟨rfl, hb1⟩
          have hw1 := Sb.isW_below (Or.inr hw0) hb1
          have HWS := hide (Sb.writeString_any w.heap.size w.heap.size _ (str (Lib.itoa n)) w1 hw1 (by rw [List.length_append, Lib.byteCells_length, str_size]; simp only [List.length_cons, List.length_nil]; omega) (by have := hb1.size; omega))
          have HB1 := hide (hbw0.trans (hb1.mono hz0))
          clear hb1 hw1 hw0 hb0 hbw0
          go_wp2_with fail
          refine Calls.mono HWS.out ?_
          rintro e w2 ⟨rfl, hw2, hb2, _⟩
          go_wp2_with fail
          go_roundg (L.length - (i + 1))
          case measure => omega
          case rel =>
            refine ⟨i + 1, rfl, by omega, by go_num, ?_, HB1.out.trans hb2⟩
            have e46 : Lib.byteCells [46] = [Value.int .u8 46] := rfl
            rw [sbCells_str, ← e46, List.append_assoc, ← byteCells_app, ← byteCells_app, ← HD.out] at hw2
            exact Or.inr hw2
      · have hiL : i = L.length := by omega
        have HS := hide (Tryz.Builder_String_any w.heap.size w.heap.size _ wr hw.out hz)
        rw [hiL, ← HE.out] at HS
        clear hiL
        go_wp2_with fail
        refine Calls.mono HS.out ?_
        rintro e w1 hpost
        obtain ⟨rfl, hb1⟩ := hpost
        go_wp2_with fail
        go_ret
        exact ⟨rfl, hbr.trans hb1⟩
end Go.Proofs.YtkoohfkomlmhoacGreatDoor.Pat
namespace Go.Proofs.YtkoohfkomlmhoacGreatDoor.Pat
open Go.Deep Go.RowKit Deed
set_option linter.unusedVariables false
set_option maxRecDepth 20000

set_option maxHeartbeats 1000000 in
theorem tooGreat1_any (x : Int) (w : World) : Calls Tryz.prog 80 #[.int .i64 x] w fun e w' => e = .returned (.bool (decide (999 < x))) ∧ ∃ q, w' = w.drewN q := by
  go_enter Tryz.func80, Tryz.ntmps80
  go_wp2_with fail
  go_ret
  exact ⟨rfl, 0, rfl⟩
set_option maxHeartbeats 1000000 in
theorem tooGreat_any (la : Option Addr) (lc : Nat) (L : List Int) (w : World) (hL : PIn w la L) (hl : L.length ≤ maxLen) :
    Calls Tryz.prog 43 #[.slice la L.length lc] w fun e w' => e = .returned (.bool (L.any fun p => decide (999 < p))) ∧ Below w.heap.size w w' := by
  unfold maxLen at hl
  have key : Calls Tryz.prog 79 #[.slice la L.length lc, .func (.func 80) #[] #[]] w fun e w' => e = .returned (.bool (L.any fun p => decide (999 < p))) ∧ Below w.heap.size w w' := by
    rcases hL with h0 | ⟨b, o, rfl, hc⟩
    · subst h0
      refine (Tryz.slices_ContainsFunc_empty (α := Int) la lc _ w).mono ?_
      rintro e w' ⟨rfl, rfl⟩
      exact ⟨rfl, Below.refl _ _⟩
    · refine (Tryz.slices_ContainsFunc (α := Int) (fun z => Value.int .i64 z) (fun p => decide (999 < p)) 80 #[] (enters_of Tryz.func80 (by kernel_rfl) rfl) b o L.length lc L w (fun W x _ => tooGreat1_any x W) (Nat.le_refl _) (by omega) (fun j hj => hc j _ (by simp [hj]))).mono ?_
      rintro e w' ⟨rfl, q, rfl⟩
      exact ⟨by rw [List.take_length], below_drewN (Below.refl _ _) _⟩
  have HK := hide key
  clear key
  go_enter Tryz.func43, Tryz.ntmps43
  go_wp2_with fail
  refine Calls.mono HK.out ?_
  rintro e w1 ⟨rfl, hb1⟩
  have HB := hide hb1
  clear hb1
  go_wp2_with fail
  go_ret
  exact ⟨rfl, HB.out⟩
/-- Words in a row, with one blank between. -/
theorem joined_any (g : Nat) (xs : List ByteArray) (w : World) (hc : ∀ (j : Nat) x, xs[j]? = some x → w.cell? ⟨g, j, none⟩ = some (.string x)) (hg : g < w.heap.size) (hn : xs.length ≤ 100) (hl : (joinP 32 (xs.map (·.data.toList))).length ≤ 140737488355328) :
    Calls Tryz.prog 81 #[.slice (some ⟨g, 0, none⟩) xs.length xs.length] w fun e w' => e = .returned (.string (str (joinP 32 (xs.map (·.data.toList))))) ∧ Below w.heap.size w w' := by
  have HJ := hide ((Tryz.strings_Join g 0 xs.length xs ⟨#[32]⟩ w (fun j x h => by rw [Nat.zero_add]; exact hc j x h) hg (by omega) (Nat.le_refl _) (by rw [show (⟨#[32]⟩ : ByteArray).data.toList = [32] from rfl, join_is]; exact hl)).mono fun e w' (h : e = .returned (.string (str (Lib.join (xs.map (·.data.toList)) [32]))) ∧ Below w.heap.size w w') => (⟨by rw [h.1, join_is], h.2⟩ : e = .returned (.string (str (joinP 32 (xs.map (·.data.toList))))) ∧ Below w.heap.size w w'))
  obtain ⟨T, hT⟩ : ∃ T, T = joinP 32 (xs.map (·.data.toList)) := ⟨_, rfl⟩
  rw [← hT] at HJ ⊢
  clear hT hl hc
  go_enter Tryz.func81, Tryz.ntmps81
  go_wp2_with fail
  refine Calls.mono HJ.out ?_
  rintro e w1 ⟨rfl, hb1⟩
  have HB := hide hb1
  clear hb1
  go_wp2_with fail
  go_ret
  exact ⟨rfl, HB.out⟩
theorem str_news_at {w : World} {T : TypeId} {cs : Array Value} {j : Nat} {v : Value} (h : cs[j]? = some v) : (w.alloc (Obj.cells cs T)).cell? ⟨w.heap.size, j, none⟩ = some v := by
  rw [cell_of_row _ _ j _ _ _ (heap_alloc_new w _)]
  exact h
end Go.Proofs.YtkoohfkomlmhoacGreatDoor.Pat
