/- The methods of strings.Builder by which one that lies in a block of its own is written. Of the program's text. -/
/- Path of package patch: the text of a path. Of the program's text. -/
import Derived.Test.YtkoohfkomlmhoacDoorProg
import Derived.Lib.Builder
import Derived.Lib.AppendStr
import Derived.Lib.UnsafeStr
import Derived.Lib.Strings
import Derived.Laws.Externs
import Derived.Laws.Entries
import Derived.Deep.QuietTactic
import Derived.BigQuiet
import Derived.WalkSmall
import Derived.Test.YtkoohfkomlmhoacDoorKBP11
import Derived.Test.YtkoohfkomlmhoacDoorKBP00
import Derived.Test.YtkoohfkomlmhoacDoorKBP08
namespace Go.Proofs.YtkoohfkomlmhoacDoor.Sb
open Go.RowKit
set_option linter.unusedVariables false
set_option maxRecDepth 20000

theorem Tryd.sizeBuilderB : (Tryd.prog.info? 46).map (·.size) = some 2 := by kernel_rfl
theorem Tryd.liesBuilderB : liesAt Tryd.prog Tryd.prog.depth 46 (2 / Tryd.prog.cellsOf 46) 0 46 1 = true := by kernel_rfl
abbrev IsW (B b : Nat) (bs : List Value) (w : World) : Prop := Lib.IsBuilder 46 5 B b bs w
abbrev WAt (B b : Nat) (bs : List Value) (w : World) : Prop := Lib.BuilderAt 46 5 B b (.pointer (some ⟨b, 0, none⟩)) bs w

set_option maxHeartbeats 1000000 in
set_option maxRecDepth 100000 in
theorem copyCheck_used (b : Nat) (w : World) (h0 : w.cell? ⟨b, 0, none⟩ = some (.pointer (some ⟨b, 0, none⟩))) :
    Calls Tryd.prog 26 #[.pointer (some ⟨b, 0, none⟩)] w fun e w' => e = .returned (.tuple #[]) ∧ w' = w := by
  obtain ⟨j, hj, _⟩ := Option.map_eq_some_iff.1 Tryd.sizeBuilderB
  have hne := Lib.run_neq_ptr_same (P := Tryd.prog) w ⟨b, 0, none⟩ Tryd.underlying43 hj
  go_enter Tryd.func26, Tryd.ntmps26
  go_wp2
  go_end0
  exact ⟨rfl, rfl⟩

set_option maxHeartbeats 1000000 in
set_option maxRecDepth 100000 in
theorem copyCheck_fresh (b : Nat) (w : World) (h0 : w.cell? ⟨b, 0, none⟩ = some (.pointer none)) (hsh : w.shape? b = some (46, 2)) (hfz : w.frozen? ⟨b, 0, none⟩ = false) :
    Calls Tryd.prog 26 #[.pointer (some ⟨b, 0, none⟩)] w fun e w' => e = .returned (.tuple #[]) ∧ w' = w.setCell ⟨b, 0, none⟩ (.pointer (some ⟨b, 0, none⟩)) := by
  obtain ⟨j, hj, hjs⟩ := Option.map_eq_some_iff.1 Tryd.sizeBuilderB
  have hto := Lib.run_to_unsafe (P := Tryd.prog) w ⟨b, 0, none⟩ Tryd.underlying43 Tryd.underlying77 hj (by rw [hjs]; decide) hsh (Nat.zero_lt_succ 1)
  have hfrom := Lib.run_from_unsafe (P := Tryd.prog) w ⟨b, 0, none⟩ Tryd.underlying77 Tryd.underlying43 hj hsh Tryd.liesBuilderB
  have hesc : ∀ x w, (callFunc 45 #[x]).run Tryd.prog w = .ok (.value x) w := fun x w => by
    rw [run_callFunc_extern Tryd.func45 (by kernel_rfl) (by kernel_rfl) (by kernel_rfl) (e := Extern.AbiNoEscape.same) (by kernel_rfl), Lib.run_noEscape]
    rfl
  go_enter Tryd.func26, Tryd.ntmps26
  go_wp2
  go_end0
  exact ⟨rfl, rfl⟩

/-- Behind an operation on the writer in block b all is as it was, but that block and its buffer's row. -/
def WKeep (b : Nat) (w w' : World) : Prop := ∀ i, i < w.heap.size → i ≠ b → (∀ p v, w.heap[b]? = some (.cells #[p, v] 46) → v.ownBlock ≠ some i) → w'.heap[i]? = w.heap[i]?

theorem copyCheck_any (B b : Nat) (bs : List Value) (w : World) (h : IsW B b bs w) :
    Calls Tryd.prog 26 #[.pointer (some ⟨b, 0, none⟩)] w fun e w' => e = .returned (.tuple #[]) ∧ WAt B b bs w' ∧ Below B w w' ∧ (∀ i, i ≠ b → w'.heap[i]? = w.heap[i]?) ∧ w'.heap.size = w.heap.size ∧ (∀ p v, w.heap[b]? = some (.cells #[p, v] 46) → ∃ p', w'.heap[b]? = some (.cells #[p', v] 46)) := by
  rcases h with h | h
  · refine (copyCheck_fresh b w h.cell0 h.shape h.frozen0).mono ?_
    rintro e w' ⟨rfl, rfl⟩
    refine ⟨rfl, h.used _, (Below.refl B w).setCell (p := ⟨b, 0, none⟩) h.1 _, fun i hi => Below.heap_setCell _ _ _ _ hi, by simp [World.setCell], fun p v hv => ⟨.pointer (some ⟨b, 0, none⟩), ?_⟩⟩
    simp [World.setCell, Array.getElem?_modify, hv]
  · refine (copyCheck_used b w h.cell0).mono ?_
    rintro e w' ⟨rfl, rfl⟩
    exact ⟨rfl, h, Below.refl B _, fun _ _ => rfl, rfl, fun p v hv => ⟨p, hv⟩⟩

set_option maxHeartbeats 2000000 in
set_option maxRecDepth 100000 in
theorem writeByte_any (B b : Nat) (bs : List Value) (c : Int) (w : World) (h : IsW B b bs w) (hlen : bs.length + 1 ≤ 140737488355328) (hBw : B ≤ w.heap.size) :
    Calls Tryd.prog 15 #[.pointer (some ⟨b, 0, none⟩), .int .u8 c] w fun e w' => e = .returned .nilIface ∧ WAt B b (bs ++ [.int .u8 c]) w' ∧ Below B w w' ∧ WKeep b w w' := by
  obtain ⟨i0, hi, hz0, hz1, hz2⟩ := info_parts Tryd.infoByte
  go_enter Tryd.func15, Tryd.ntmps15
  go_wp2_with fail
  refine (copyCheck_any B b bs _ h).mono ?_
  rintro e w1 ⟨rfl, h1, hb1, ho1, hs1, hv1⟩
  obtain ⟨hB, v, hbk, hown, hne⟩ := h1
  have c0 : w1.cell? ⟨b, 0, none⟩ = some (.pointer (some ⟨b, 0, none⟩)) := by rw [Lib.cell_of_heap hbk]; rfl
  have c1 : w1.cell? ⟨b, 1, none⟩ = some v := by rw [Lib.cell_of_heap hbk]; rfl
  have HO := hide ho1
  have HV := hide hv1
  have HS := hide hs1
  clear ho1 hv1 hs1
  go_wp2_with (at_builtin; refine wpList_append_own _ rfl _ _ 44 rfl B 5 i0 (.int .u8 0) 1 1 Tryd.underlying44 hi hz0 hz1 hz2 rfl (by decide) _ _ _ rfl (hown.alloc _) ⟨w1.heap.size, 0, none⟩ 1 1 [.int .u8 c] rfl rfl ?c1 ?c2 ?c3 ?c4 ?c5 ?_)
  case c1 =>
    intro j u hj
    match j, hj with
    | 0, hj => simp at hj; subst hj; simp [Addr.add]
  case c2 => intro u hu; simp at hu; subst hu; rfl
  case c3 => unfold maxLen; omega
  case c4 => omega
  case c5 => have := hb1.size; simp; omega
  intro v' w2 hown' hgrow _
  have hlt : b < w1.heap.size := by
    rcases Nat.lt_or_ge b w1.heap.size with h' | h'
    · exact h'
    · simp [Array.getElem?_eq_none h'] at hbk
  have hb2 : w2.heap[b]? = some (.cells #[.pointer (some ⟨b, 0, none⟩), v] 46 (0, 0)) := by
    rw [hgrow.block b (by simp; omega) (fun e => hne e.symm), Lib.alloc_old w1 _ b hlt]
    exact hbk
  have d1 : w2.cell? ⟨b, 1, none⟩ = some v := by rw [Lib.cell_of_heap hb2]; rfl
  have f1 : w2.frozen? ⟨b, 1, none⟩ = false := Lib.frozen_of_heap hb2 1
  obtain ⟨g, cap, rfl⟩ : ∃ g cap, v' = .slice (some ⟨g, 0, none⟩) (bs.length + 1) cap := by
    rcases hown'.2 with ⟨_, h0⟩ | ⟨g, cap, cur, hv, _⟩
    · omega
    · exact ⟨g, cap, hv⟩
  go_wp2
  go_ret
  refine ⟨rfl, ?_, ?_, ?_⟩
  · exact Lib.BuilderAt.put (T := 46) (e := 5) hB hb2 (bs' := bs ++ [.int .u8 c]) (by simpa using hown') (by decide)
  · exact ((hb1.alloc (by have := hb1.size; omega) _).grown hgrow (by have := hb1.size; simp; omega) (fun k hk => (hown.lt k hk).1)).setCell (p := ⟨b, 1, none⟩) hB _
  · intro i hi hib hrow
    have hs1 := HS.out
    obtain ⟨hB0, v0, hv0⟩ : ∃ p0 v0, w.heap[b]? = some (.cells #[p0, v0] 46) := by
      rcases h with ⟨_, v0, hv0, _⟩ | ⟨_, v0, hv0, _⟩
      · exact ⟨_, v0, hv0⟩
      · exact ⟨_, v0, hv0⟩
    obtain ⟨p', hp'⟩ := HV.out _ _ hv0
    rw [hbk] at hp'
    simp at hp'
    rw [Below.heap_setCell _ _ _ _ hib, hgrow.block i (by simp; omega) (fun e => hrow _ _ hv0 (by rw [← hp'.2]; exact e.symm)), Lib.alloc_old w1 _ i (by omega)]
    exact HO.out i hib

set_option maxHeartbeats 2000000 in
set_option maxRecDepth 100000 in
theorem writeString_any (B b : Nat) (bs : List Value) (s : ByteArray) (w : World) (h : IsW B b bs w) (hlen : bs.length + s.size ≤ 140737488355328) (hBw : B ≤ w.heap.size) :
    Calls Tryd.prog 14 #[.pointer (some ⟨b, 0, none⟩), .string s] w fun e w' => e = .returned (.tuple #[.int .i64 s.size, .nilIface]) ∧ WAt B b (bs ++ Lib.strCells s) w' ∧ Below B w w' ∧ WKeep b w w' := by
  obtain ⟨i0, hi, hz0, hz1, hz2⟩ := info_parts Tryd.infoByte
  go_enter Tryd.func14, Tryd.ntmps14
  go_wp2_with fail
  refine (copyCheck_any B b bs _ h).mono ?_
  rintro e w1 ⟨rfl, h1, hb1, ho1, hs1, hv1⟩
  obtain ⟨hB, v, hbk, hown, hne⟩ := h1
  have c0 : w1.cell? ⟨b, 0, none⟩ = some (.pointer (some ⟨b, 0, none⟩)) := by rw [Lib.cell_of_heap hbk]; rfl
  have c1 : w1.cell? ⟨b, 1, none⟩ = some v := by rw [Lib.cell_of_heap hbk]; rfl
  have HO := hide ho1
  have HV := hide hv1
  have HS := hide hs1
  clear ho1 hv1 hs1
  go_wp2_with (at_builtin; refine Lib.wpList_append_own_string _ rfl _ _ 44 9 rfl B 5 i0 Tryd.underlying44 Tryd.underlying9 hi hz0 hz1 hz2 _ _ _ rfl hown s rfl ?c3 ?c4 ?c5 ?_)
  case c3 => unfold maxLen; omega
  case c4 => omega
  case c5 => have := hb1.size; omega
  intro v' w2 hown' hgrow _
  have hlt : b < w1.heap.size := by
    rcases Nat.lt_or_ge b w1.heap.size with h' | h'
    · exact h'
    · simp [Array.getElem?_eq_none h'] at hbk
  have hb2 : w2.heap[b]? = some (.cells #[.pointer (some ⟨b, 0, none⟩), v] 46 (0, 0)) := by
    rw [hgrow.block b hlt (fun e => hne e.symm)]
    exact hbk
  have d1 : w2.cell? ⟨b, 1, none⟩ = some v := by rw [Lib.cell_of_heap hb2]; rfl
  have f1 : w2.frozen? ⟨b, 1, none⟩ = false := Lib.frozen_of_heap hb2 1
  obtain ⟨ao, n', cap, rfl⟩ : ∃ ao n' cap, v' = .slice ao n' cap := by
    rcases hown'.2 with ⟨hv, _⟩ | ⟨g, cap, cur, hv, _⟩
    · exact ⟨_, _, _, hv⟩
    · exact ⟨_, _, _, hv⟩
  go_wp2
  go_ret2
  refine ⟨rfl, ?_, ?_, ?_⟩
  · exact Lib.BuilderAt.put (T := 46) (e := 5) hB hb2 (bs' := bs ++ Lib.strCells s) (by simpa [Lib.strCells_length] using hown') (by decide)
  · exact (hb1.grown hgrow (by have := hb1.size; omega) (fun k hk => (hown.lt k hk).1)).setCell (p := ⟨b, 1, none⟩) hB _
  · intro i hi hib hrow
    have hs1 := HS.out
    obtain ⟨hB0, v0, hv0⟩ : ∃ p0 v0, w.heap[b]? = some (.cells #[p0, v0] 46) := by
      rcases h with ⟨_, v0, hv0, _⟩ | ⟨_, v0, hv0, _⟩
      · exact ⟨_, v0, hv0⟩
      · exact ⟨_, v0, hv0⟩
    obtain ⟨p', hp'⟩ := HV.out _ _ hv0
    rw [hbk] at hp'
    simp at hp'
    rw [Below.heap_setCell _ _ _ _ hib, hgrow.block i (by omega) (fun e => hrow _ _ hv0 (by rw [← hp'.2]; exact e.symm))]
    exact HO.out i hib

theorem isW_same {B b : Nat} {bs : List Value} {w w' : World} (h : IsW B b bs w) (hs : ∀ i, i < w.heap.size → w'.heap[i]? = w.heap[i]?) : IsW B b bs w' := by
  have key : ∀ p, Lib.BuilderAt 46 5 B b p bs w → Lib.BuilderAt 46 5 B b p bs w' := fun p h => by
    have hlt := h.lt
    obtain ⟨h1, v, hv, hown, hne⟩ := h
    refine ⟨h1, v, by rw [hs b hlt]; exact hv, ?_, hne⟩
    obtain ⟨g1, g2⟩ := hown
    refine ⟨g1, ?_⟩
    rcases g2 with g2 | ⟨g, cap, cur, e, hg, hh, r⟩
    · exact Or.inl g2
    · have hlg : g < w.heap.size := by
        rcases Nat.lt_or_ge g w.heap.size with h | h
        · exact h
        · rw [Array.getElem?_eq_none h] at hh; cases hh
      exact Or.inr ⟨g, cap, cur, e, hg, by rw [hs g hlg]; exact hh, r⟩
  rcases h with h | h
  · exact Or.inl (key _ h)
  · exact Or.inr (key _ h)
theorem isW_below {B b : Nat} {bs : List Value} {w w' : World} (h : IsW B b bs w) (hb : Below w.heap.size w w') : IsW B b bs w' := isW_same h fun i hi => hb.block i hi
end Go.Proofs.YtkoohfkomlmhoacDoor.Sb
namespace Go.Proofs.YtkoohfkomlmhoacDoor.Pat
open Go.Deep Go.RowKit Deed
set_option linter.unusedVariables false
set_option maxRecDepth 20000

theorem sbCells (s : ByteArray) : Lib.strCells s = Lib.byteCells s.data.toList := by
  simp [Lib.strCells, Lib.byteCells]
theorem sbCells_str (l : List UInt8) : Lib.strCells (str l) = Lib.byteCells l := by rw [sbCells]
theorem byteCells_app (a b : List UInt8) : Lib.byteCells (a ++ b) = Lib.byteCells a ++ Lib.byteCells b := by simp [Lib.byteCells]
/-- What is written of a path when i numbers are. -/
theorem dotted_take {L : List Int} {i : Nat} {n : Int} (h : L[i]? = some n) : dotted (L.take (i + 1)) = dotted (L.take i) ++ ((if i = 0 then [] else [46]) ++ Lib.itoa n) := by
  have hl := (List.getElem?_eq_some_iff.1 h).1
  have e : L.take (i + 1) = L.take i ++ [n] := by
    rw [List.take_succ_eq_append_getElem hl]
    congr 2
    rw [List.getElem?_eq_getElem hl] at h
    exact Option.some.inj h
  rw [e]
  unfold dotted
  rw [List.map_append]
  by_cases h0 : i = 0
  · subst h0
    simp [joinP]
  · rw [if_neg h0, List.map_cons, List.map_nil, join_snoc 46 _ _ (by simp; exact ⟨fun e => h0 (by omega), fun e => by rw [e] at hl; simp at hl⟩)]
    rfl
theorem dotted_len' (L : List Int) (i : Nat) (h : ∀ n, n ∈ L → In64 n) (hl : L.length ≤ 10000) : (dotted (L.take i)).length ≤ 220000 := by
  have h1 := dotted_len (L.take i) (fun n hn => h n (List.mem_of_mem_take hn))
  have h2 : (L.take i).length ≤ 10000 := by rw [List.length_take]; omega
  generalize (L.take i).length = k at h1 h2
  omega

set_option maxHeartbeats 2000000 in
theorem ppath_any (la : Option Addr) (lc : Nat) (L : List Int) (w : World) (hL : PIn w la L) (hl : L.length ≤ 10000) (hr : ∀ n, n ∈ L → In64 n) (ht : Tab w) :
    Calls Tryd.prog 38 #[.slice la L.length lc] w fun e w' => e = .returned (.string (str (pathTxt L))) ∧ Below w.heap.size w w' := by
  by_cases h0 : L.length = 0
  · have hb : ((L.length : Int) == 0) = true := beq_iff_eq.2 (by omega)
    have HE := hide (show pathTxt L = [45] by rw [List.length_eq_zero_iff.1 h0]; rfl)
    clear h0
    go_enter Tryd.func38, Tryd.ntmps38
    go_wp2_with fail
    go_ret
    exact ⟨by rw [HE.out]; rfl, Below.refl _ _⟩
  · have hb : ((L.length : Int) == 0) = false := beq_eq_false_iff_ne.2 (by omega)
    obtain ⟨b, o, rfl, hcells⟩ : ∃ b o, la = some ⟨b, o, none⟩ ∧ ∀ (i : Nat) p, L[i]? = some p → w.cell? ⟨b, o + i, none⟩ = some (.int .i64 p) := by
      rcases hL with h1 | ⟨b, o, e, h1⟩
      · rw [h1] at h0; simp at h0
      · exact ⟨b, o, e, h1⟩
    obtain ⟨W, hW⟩ : ∃ W, W = w.alloc (Obj.cells #[.pointer none, .slice none 0 0] 46) := ⟨_, rfl⟩
    have hB : Below w.heap.size w W := by rw [hW]; exact (Below.refl _ _).alloc (Nat.le_refl _) _
    have hI : Sb.IsW w.heap.size w.heap.size (Lib.byteCells []) W := by rw [hW]; exact Lib.fresh_isBuilder _ _ w
    have HC := hide hcells
    have HT := hide ht
    have HR := hide hr
    have HI := hide hI
    have HB := hide hB
    have HE := hide (show pathTxt L = dotted (L.take L.length) by
      unfold pathTxt dotted
      rw [if_neg (fun e => by rw [e] at h0; simp at h0), List.take_length])
    have hlen := fun i => dotted_len' L i hr hl
    clear hcells ht hr hI hB h0 hL
    go_enter Tryd.func38, Tryd.ntmps38
    go_wp2_with fail
    rw [← hW]
    clear hW
    go_loopg [11] L.length (fun gk v11 wr => ∃ (i : Nat), gk = L.length - i ∧ i ≤ L.length ∧ v11 = .int .i64 (i : Nat) ∧ Hid (Sb.IsW w.heap.size w.heap.size (Lib.byteCells (dotted (L.take i))) wr) ∧ Below w.heap.size w wr)
    case atStart => exact ⟨0, rfl, Nat.zero_le _, rfl, HI.out, HB.out⟩
    case round =>
      obtain ⟨i, hgk, hi, rfl, hw, hbr⟩ := hrel
      have hlen1 := hlen i
      have hz := hbr.size
      by_cases hlt : i < L.length
      · obtain ⟨n, hn⟩ : ∃ n, L[i]? = some n := ⟨_, List.getElem?_eq_getElem hlt⟩
        have hin := HR.out n (List.mem_of_getElem? hn)
        have hc0 := HC.out i n hn
        have hbl : b < w.heap.size := World.block_lt_of_cell? _ _ hc0
        have hc : wr.cell? ⟨b, o + i, none⟩ = some (.int .i64 n) := by rw [hbr.cell hbl]; exact hc0
        have hD := dotted_take hn
        have hil := Lib.itoa_length_le n hin.1 hin.2
        clear hc0
        by_cases h0 : i = 0
        · subst h0
          rw [if_pos rfl, List.nil_append] at hD
          rw [Nat.add_zero] at hc
          have HD := hide hD
          have HIT := hide (itoa_any n hin wr (HT.out.below hbr))
          clear hD hn
          go_wp2_with fail
          refine Calls.mono HIT.out ?_
          rintro e w1 ⟨rfl, hb1⟩
          have hw1 : Sb.IsW w.heap.size w.heap.size (Lib.byteCells (dotted (L.take 0))) w1 := Sb.isW_below hw.out hb1
          have HWS := hide (Sb.writeString_any w.heap.size w.heap.size _ (str (Lib.itoa n)) w1 hw1 (by rw [Lib.byteCells_length, str_size]; omega) (by have := hb1.size; omega))
          have HB1 := hide (hbr.trans (hb1.mono hz))
          clear hb1 hw1
          go_wp2_with fail
          refine Calls.mono HWS.out ?_
          rintro e w2 ⟨rfl, hw2, hb2, _⟩
          go_wp2_with fail
          go_roundg (L.length - 1)
          case measure => omega
          case rel =>
            refine ⟨1, rfl, by omega, by go_num, ?_, HB1.out.trans hb2⟩
            rw [sbCells_str, ← byteCells_app, ← HD.out] at hw2
            exact Or.inr hw2
        · have hi0 : (0 : Int) < (i : Int) := by omega
          rw [if_neg h0] at hD
          have HD := hide hD
          have HWB := hide (Sb.writeByte_any w.heap.size w.heap.size _ 46 wr hw.out (by rw [Lib.byteCells_length]; omega) hz)
          clear hD hn h0
          go_wp2_with fail
          refine Calls.mono HWB.out ?_
          rintro e w0 ⟨rfl, hw0, hb0, _⟩
          have hbw0 := hbr.trans hb0
          have HIT := hide (itoa_any n hin w0 (HT.out.below hbw0))
          have hz0 := hbw0.size
          go_wp2_with fail
          refine Calls.mono HIT.out ?_
          rintro e w1 ⟨rfl, hb1⟩
          have hw1 := Sb.isW_below (Or.inr hw0) hb1
          have HWS := hide (Sb.writeString_any w.heap.size w.heap.size _ (str (Lib.itoa n)) w1 hw1 (by rw [List.length_append, Lib.byteCells_length, str_size]; simp only [List.length_cons, List.length_nil]; omega) (by have := hb1.size; omega))
          have HB1 := hide (hbw0.trans (hb1.mono hz0))
          clear hb1 hw1 hw0 hb0 hbw0
          go_wp2_with fail
          refine Calls.mono HWS.out ?_
          rintro e w2 ⟨rfl, hw2, hb2, _⟩
          go_wp2_with fail
          go_roundg (L.length - (i + 1))
          case measure => omega
          case rel =>
            refine ⟨i + 1, rfl, by omega, by go_num, ?_, HB1.out.trans hb2⟩
            have e46 : Lib.byteCells [46] = [Value.int .u8 46] := rfl
            rw [sbCells_str, ← e46, List.append_assoc, ← byteCells_app, ← byteCells_app, ← HD.out] at hw2
            exact Or.inr hw2
      · have hiL : i = L.length := by omega
        have HS := hide (Tryd.Builder_String_any w.heap.size w.heap.size _ wr hw.out hz)
        rw [hiL, ← HE.out] at HS
        clear hiL
        go_wp2_with fail
        refine Calls.mono HS.out ?_
        rintro e w1 hpost
        obtain ⟨rfl, hb1⟩ := hpost
        go_wp2_with fail
        go_ret
        exact ⟨rfl, hbr.trans hb1⟩
end Go.Proofs.YtkoohfkomlmhoacDoor.Pat
