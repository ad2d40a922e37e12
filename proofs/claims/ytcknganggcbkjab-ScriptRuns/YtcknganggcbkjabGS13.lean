/- tree.Size of a tree that lies in memory is the number of its nodes, and tree.Check its code. Of the program's text. -/
/- strings.Clone of a string is that string, and nothing that was there has turned. Of the program's text. -/
/- tree.ownNode makes, of a node that lies in memory, one with a list of kids of its own, which hold the same. Of the program's text. -/
import Derived.Test.YtcknganggcbkjabProg
import Derived.Test.YtcknganggcbkjabGS03
import Derived.Test.YtcknganggcbkjabGS12
import Derived.Lib.Strings
import Derived.Lib.Walk
import Derived.Lib.BufferWrite
import Derived.Lib.UnsafeStr
import Derived.Lib.Hide
import Derived.Laws.MakeOwn
import Derived.WalkKit
import Derived.Test.YtcknganggcbkjabZOwnInv
import Derived.Test.YtcknganggcbkjabGS06
import Derived.Laws.CopyRow
import Derived.Laws.Rows
namespace Go.Proofs.Ytcknganggcbkjab
open Go.Deep Go.RowKit
set_option linter.unusedVariables false
set_option maxRecDepth 20000

theorem runN_all : ∀ (l : List (ByteArray × Nat)) (σ : Nt), σ.1 + l.length ≤ 40 → runN σ l = (l.foldl ntStep σ, true)
  | [], _, _ => rfl
  | x :: l, σ, h => by
    simp only [List.length_cons] at h
    rw [runN, if_pos (by simp only [ntStep]; omega), runN_all l (ntStep σ x) (by simp only [ntStep]; omega)]
    rfl
theorem runN_many : ∀ (l : List (ByteArray × Nat)) (σ : Nt), σ.1 ≤ 40 → 40 < σ.1 + l.length → (runN σ l).2 = false
  | [], σ, h, h' => by simp at h'; omega
  | x :: l, σ, h, h' => by
    simp only [List.length_cons] at h'
    rw [runN]
    split
    · rename_i hs
      exact runN_many l (ntStep σ x) hs (by simp only [ntStep]; omega)
    · rfl

theorem foldl_deep : ∀ (l : List (ByteArray × Nat)) (σ : Nt), (10 < (l.foldl ntStep σ).2.1) ↔ (10 < σ.2.1 ∨ (l.any fun x => decide (10 < (x.2 : Int))) = true)
  | [], σ => by simp
  | x :: l, σ => by
    rw [List.foldl_cons, foldl_deep l, List.any_cons, Bool.or_eq_true, decide_eq_true_eq]
    have : (10 < (ntStep σ x).2.1) ↔ (10 < σ.2.1 ∨ 10 < (x.2 : Int)) := by
      show 10 < max σ.2.1 (x.2 : Int) ↔ _
      rw [Int.max_def]
      split <;> omega
    rw [this, or_assoc]
theorem foldl_good : ∀ (l : List (ByteArray × Nat)) (σ : Nt), (l.foldl ntStep σ).2.2 = (σ.2.2 && l.all fun x => labelB x.1)
  | [], σ => by simp
  | x :: l, σ => by
    rw [List.foldl_cons, foldl_good l, List.all_cons, ← Bool.and_assoc]
    rfl
theorem pre_deep : ∀ (k : Fo) (d : Nat), ((pre k d).any fun x => decide (10 < (x.2 : Int))) = deepF k (d : Int)
  | .nil, _ => rfl
  | .node _ _ x k r, d => by
    have h1 := pre_deep k (d + 1)
    have h2 := pre_deep r d
    rw [show (((d + 1 : Nat) : Int)) = (d : Int) + 1 by omega] at h1
    simp only [pre, List.any_cons, List.any_append, deepF, h1, h2, Bool.or_assoc]
theorem pre_good : ∀ (k : Fo) (d : Nat), ((pre k d).all fun x => labelB x.1) = !badF k
  | .nil, _ => rfl
  | .node _ _ x k r, d => by
    simp [pre, badF, pre_good k, pre_good r, Bool.and_assoc]

theorem run_end (s : ByteArray) (k : Fo) (σ : Nt) (r : Bool) (h : runN (0, 0, true) ((s, 0) :: pre k 1) = (σ, r)) :
    r = decide (1 + fnodes k ≤ 40) ∧ (r = true → decide (10 < σ.2.1) = deepT k 0 ∧ σ.2.2 = !badT s k) := by
  have hl : ((s, 0) :: pre k 1).length = 1 + fnodes k := by simp [pre_length]; omega
  by_cases hn : 1 + fnodes k ≤ 40
  · rw [runN_all _ _ (by rw [hl]; simp; omega)] at h
    simp only [Prod.mk.injEq] at h
    obtain ⟨rfl, rfl⟩ := h
    refine ⟨by simp [hn], fun _ => ⟨?_, ?_⟩⟩
    · rw [Bool.eq_iff_iff, decide_eq_true_eq, foldl_deep, List.any_cons, pre_deep]
      simp [deepT]
    · rw [foldl_good, List.all_cons, pre_good]
      simp [badT]
  · have := runN_many ((s, 0) :: pre k 1) (0, 0, true) (by decide) (by rw [hl]; simp; omega)
    rw [h] at this
    simp only at this
    subst this
    exact ⟨by simp [hn], fun h => by cases h⟩

set_option maxHeartbeats 400000 in
theorem check_gen (s : ByteArray) (ka : Option Addr) (cap : Nat) (k : Fo) (w : World) (ht : TIn w s ka cap k) (hp : FPlain w k) (hn : 1 + fnodes k ≤ 5000) (hh : fhigh k ≤ 199) :
    Calls Try.prog 33 #[.agg #[.string s, .slice ka (flen k) cap]] w fun e w' => e = .returned (.int .i64 (faultT s k)) ∧ Below w.heap.size w w' := by
  have hbox : Below w.heap.size w ((((w.alloc (Obj.cells #[Value.string s, Value.slice ka (flen k) cap] 24)).alloc (Obj.cells #[Value.int .i64 0] 3)).alloc (Obj.cells #[Value.int .i64 0] 3)).alloc (Obj.cells #[Value.bool true] 4)) :=
    ((((Below.refl _ _).alloc (Nat.le_refl _) _).alloc (by simp) _).alloc (by simp; omega) _).alloc (by simp; omega) _
  go_enter Try.func33, Try.ntmps33
  go_wp2_with fail
  have hC : ∀ x, x ∈ [w.heap.size + 1, w.heap.size + 1 + 1, w.heap.size + 1 + 1 + 1] → w.heap.size ≤ x := fun x hx => by
    simp at hx
    omega
  refine (walkC_any (w.heap.size + 1) (w.heap.size + 1 + 1) (w.heap.size + 1 + 1 + 1) s ka cap k _ (ht.below hbox) (hp.below hbox) hn hh (fun x hx => ht.kids.off (hC x hx)) ⟨by go_simp, by go_simp, by go_simp, by go_simp, by go_simp, by go_simp, by simp only [ne_eq]; omega, by simp only [ne_eq]; omega, by simp only [ne_eq]; omega, by decide, by decide⟩).mono ?_
  rintro e w1 ⟨σ, r, rfl, hrun, hs1, hk1⟩
  obtain ⟨hr1, hr2⟩ := run_end s k σ r hrun
  have hb := hk1.to_below hbox hC
  have hc2 := hs1.c2
  have hc3 := hs1.c3
  by_cases h40 : 1 + fnodes k ≤ 40
  · rw [decide_eq_true h40] at hr1
    subst hr1
    obtain ⟨hd, hg⟩ := hr2 rfl
    have HD := hide hd
    have HG := hide hg
    clear hd hg hr2 hrun
    by_cases h10 : 10 < σ.2.1
    · go_wp2_with fail
      go_ret
      refine ⟨ret_int ?_, hb⟩
      have h1 := HD.out
      rw [decide_eq_true h10] at h1
      unfold faultT
      rw [if_neg (by omega), if_pos h1.symm]
    · have h1 := HD.out
      rw [decide_eq_false h10] at h1
      have H1 := hide h1
      clear h1
      cases hg2 : σ.2.2
      · rw [hg2] at hc3
        have HG2 := hide hg2
        clear hg2
        go_wp2_with fail
        go_ret
        refine ⟨ret_int ?_, hb⟩
        have h2 := HG.out
        rw [HG2.out] at h2
        unfold faultT
        rw [if_neg (by omega), if_neg (by rw [← H1.out]; decide), if_pos (by simpa using h2)]
      · rw [hg2] at hc3
        have HG2 := hide hg2
        clear hg2
        go_wp2_with fail
        go_ret
        refine ⟨ret_int ?_, hb⟩
        have h2 := HG.out
        rw [HG2.out] at h2
        unfold faultT
        rw [if_neg (by omega), if_neg (by rw [← H1.out]; decide), if_neg (by simpa using h2)]
  · rw [decide_eq_false h40] at hr1
    subst hr1
    clear hr2 hrun
    go_wp2_with fail
    go_ret
    exact ⟨ret_int (by unfold faultT; rw [if_pos (by omega)]), hb⟩

theorem check_any (s : ByteArray) (ka : Option Addr) (cap : Nat) (k : Fo) (w : World) (ht : TIn w s ka cap k) (hp : FPlain w k) (hn : 1 + fnodes k ≤ 200) :
    Calls Try.prog 33 #[.agg #[.string s, .slice ka (flen k) cap]] w fun e w' => e = .returned (.int .i64 (faultT s k)) ∧ Below w.heap.size w w' :=
  check_gen s ka cap k w ht hp (by omega) (by have := fhigh_le_nodes k; omega)

end Go.Proofs.Ytcknganggcbkjab
namespace Go.Proofs.Ytcknganggcbkjab
open Go.RowKit
set_option linter.unusedVariables false
set_option maxRecDepth 20000

theorem Try.infoByte : (Try.prog.info? 5).map (fun i => (i.zero, i.size, i.bytes)) = some (some (.int .u8 0), 1, 1) := by kernel_rfl

set_option maxHeartbeats 1000000 in
set_option maxRecDepth 100000 in
theorem slClone_any (s : ByteArray) (w : World) (hlim : s.size ≤ 281474976710656) :
    Calls Try.prog 110 #[.string s] w fun e w' => e = .returned (.string s) ∧ Below w.heap.size w w' := by
  by_cases h0 : s.size = 0
  · have hs : s = ⟨#[]⟩ := ByteArray.ext (Array.eq_empty_of_size_eq_zero h0)
    subst hs
    go_enter Try.func110, Try.ntmps110
    go_wp2
    go_ret
    exact ⟨rfl, Below.refl _ _⟩
  · obtain ⟨i0, hi, hz0, hz1, hz2⟩ := info_parts Try.infoByte
    have hinfo : (Try.prog.info? 5).map (·.size) = some 1 := by rw [hi]; simp [hz1]
    have hco : Try.prog.cellsOf 5 = 1 := by simp [Program.cellsOf, hi, hz1]
    obtain ⟨M, hM⟩ : ∃ M, M = madeCells (Value.int .u8 0).cells (((s.size : Nat) : Int).toNat * i0.size) := ⟨_, rfl⟩
    have hMs : M.size = s.size := by rw [hM, size_madeCells, hz1]; simp
    have hmk : ∀ W : World, (Instr.makeSlice 148 (.int .i64 (s.size : Int)) (.int .i64 (s.size : Int))).run Try.prog W = .ok (.slice (some ⟨W.heap.size, 0, none⟩) s.size s.size) (W.alloc (.cells M 5)) := fun W => by
      have h := run_make (P := Try.prog) W 148 5 i0 (.int .u8 0) Try.underlying148 hi hz0 .i64 .i64 (s.size : Int) (s.size : Int) (by omega) (by omega) (by rw [hz2]; omega) (by omega)
      rw [← hM] at h
      simpa using h
    clear hM
    have hcp := Lib.run_copy_row_string (P := Try.prog) (w.alloc (.cells M 5)) 148 9 3 5 w.heap.size 0 s.size s.size s M 5 Try.underlying148 hinfo (heap_alloc_new w _) (Nat.le_refl _) (by omega)
    obtain ⟨Y, hY⟩ : ∃ Y, Y = (M.toList.take 0 ++ Lib.byteCells s.data.toList ++ M.toList.drop (0 + s.size)).toArray := ⟨_, rfl⟩
    rw [← hY] at hcp
    have hYl : Y.toList = Lib.byteCells s.data.toList := by
      rw [hY, List.toList_toArray, List.take_zero, List.nil_append, List.drop_of_length_le (by rw [Array.length_toList]; omega), List.append_nil]
    have hYs : Y.size = s.size := by rw [← Array.length_toList, hYl, Lib.byteCells_length, ← Lib.size_eq]
    have hgY : ((w.alloc (.cells M 5)).setRow w.heap.size Y).heap[w.heap.size]? = some (.cells Y 5 (0, 0)) := setRow_heap _ _ M _ 5 (0, 0) (heap_alloc_new w _)
    have hne : s.data.toList ≠ [] := fun e => h0 (by rw [Lib.size_eq, e]; rfl)
    have hUS := Lib.run_unsafeString_row (P := Try.prog) ((w.alloc (.cells M 5)).setRow w.heap.size Y) 149 3 9 5 Try.underlying149 hco w.heap.size Y.size (by unfold World.shape?; rw [hgY]) s.data.toList hne (by rw [← Lib.size_eq]; omega) (by rw [← Lib.size_eq]; omega)
      (fun j x hx => Lib.cells_of_row hgY Y.size j _ (by rw [List.take_of_length_le (by rw [Array.length_toList]; exact Nat.le_refl _), hYl]; simp [Lib.byteCells, hx]))
    rw [← Lib.size_eq] at hUS
    clear hY
    go_enter Try.func110, Try.ntmps110
    go_wp2
    go_ret
    have hb1 : Below w.heap.size w (w.alloc (.cells M 5)) := (Below.refl _ w).alloc (Nat.le_refl _) _
    have hb2 : Below w.heap.size (w.alloc (.cells M 5)) ((w.alloc (.cells M 5)).setRow w.heap.size Y) := ⟨rfl, rfl, rfl, by simp, fun k hk => setRow_other _ _ _ _ (by omega)⟩
    exact ⟨rfl, Lib.below_freeze (hb1.trans hb2) (p := ⟨w.heap.size, 0, none⟩) (Nat.le_refl _) _⟩

set_option maxHeartbeats 400000 in
theorem clone_any (s : ByteArray) (w : World) (hlim : s.size ≤ 281474976710656) :
    Calls Try.prog 95 #[.string s] w fun e w' => e = .returned (.string s) ∧ Below w.heap.size w w' := by
  go_enter Try.func95, Try.ntmps95
  go_wp2_with fail
  refine (slClone_any _ _ hlim).mono ?_
  rintro e w1 ⟨rfl, hb1⟩
  go_wp2_with fail
  go_ret
  exact ⟨rfl, hb1⟩

end Go.Proofs.Ytcknganggcbkjab
namespace Go.Proofs.Ytcknganggcbkjab
open Go.Deep Go.RowKit
set_option linter.unusedVariables false
set_option maxRecDepth 20000

/-- copy of n elements of two cells each into a row of the call's own. -/
theorem run_copy_row2 {P : Program} (w : World) (dT sT ty elem : TypeId) (g n dCap : Nat) (a : Addr) (sCap : Nat) (cur : Array Value) (t : TypeId) (cs : List Value)
    (hu : P.underlying dT = some (.slice elem)) (hs : (P.info? elem).map (·.size) = some 2)
    (hg : w.heap[g]? = some (.cells cur t (0, 0))) (hn : cs.length = n * 2)
    (hsrc : ∀ j v, cs[j]? = some v → w.cell? (a.add j) = some v) (hfit : cs.length = cur.size) (h1 : ∀ v ∈ cs, v.oneCell' = true) :
    (Builtin.copy_ #[dT, sT] ty #[.slice (some ⟨g, 0, none⟩) n dCap, .slice (some a) n sCap]).run P w = .ok (goInt n) (w.setRow g cs.toArray) := by
  have hl := run_loadCells_list (P := P) w a cs hsrc
  have hst := run_storeCells_at P g 0 t cs 0 cur w hg (by simp; omega) h1
  cases hq : P.info? elem with
  | none => simp [hq] at hs
  | some i =>
    have hi : i.size = 2 := by simpa [hq] using hs
    rw [hn] at hl
    simp [Builtin.copy_, run_underlying hu, Builtin.lenOf, Builtin.firstCells, sizeOf, typeInfo, hq, hi, hl, hst]
    rw [List.drop_of_length_le (by simp; omega), List.append_nil]

set_option maxHeartbeats 400000 in
theorem ownNode_any (s : ByteArray) (ka : Option Addr) (cap : Nat) (k : Fo) (w : World) (ht : TIn w s ka cap k) (hs : s.size ≤ 1000) (hn : fnodes k ≤ 1000) :
    Calls Try.prog 83 #[.agg #[.string s, .slice ka (flen k) cap]] w fun e w' =>
      ((flen k = 0 ∧ e = .returned (.agg #[.string s, .slice none 0 0])) ∨ (0 < flen k ∧ ∃ g, e = .returned (.agg #[.string s, .slice (some ⟨g, 0, none⟩) (flen k) (flen k)]) ∧ w.heap.size ≤ g ∧ w'.heap[g]? = some (.cells (rowCells (itemsF k)).toArray 24 (0, 0)))) ∧ Below w.heap.size w w' := by
  have hbox : Below w.heap.size w ((w.alloc (Obj.cells #[Value.string s, Value.slice ka (flen k) cap] 24)).alloc (Obj.cells #[Value.string ⟨#[]⟩, Value.slice none 0 0] 24)) :=
    ((Below.refl _ _).alloc (Nat.le_refl _) _).alloc (by simp) _
  have hlk := flen_le_nodes k
  obtain ⟨i24, hi24, hz0, hz1, hz2⟩ := info_parts Try.infoTree
  by_cases hk0 : flen k = 0
  · rw [hk0] at hbox ⊢
    go_enter Try.func83, Try.ntmps83
    go_wp2_with fail
    refine (clone_any s _ (by omega)).mono ?_
    rintro e w1 ⟨rfl, hb1⟩
    have hc0 : w1.cell? ⟨w.heap.size, 0, none⟩ = some (.string s) := by (rw [hb1.cell (by simp; omega)]; go_simp)
    have hc1 : w1.cell? ⟨w.heap.size, 1, none⟩ = some (.slice ka 0 cap) := by (rw [hb1.cell (by simp; omega)]; go_simp)
    have hd0 : w1.cell? ⟨w.heap.size + 1, 0, none⟩ = some (.string ⟨#[]⟩) := by (rw [hb1.cell (by simp)]; go_simp)
    have hd1 : w1.cell? ⟨w.heap.size + 1, 1, none⟩ = some (.slice none 0 0) := by (rw [hb1.cell (by simp)]; go_simp)
    have hf0 : w1.frozen? ⟨w.heap.size + 1, 0, none⟩ = false := by (rw [hb1.frozen (by simp)]; go_simp)
    have hf1 : w1.frozen? ⟨w.heap.size + 1, 1, none⟩ = false := by (rw [hb1.frozen (by simp)]; go_simp)
    have hz1' : w.heap.size + 1 < w1.heap.size := by have := hb1.size; simp at this; omega
    have hz1'' : w.heap.size < w1.heap.size := by omega
    have hbW := hbox.trans (hb1.mono (by simp; omega))
    go_wp2_with fail
    refine bodyPost_ret (v := .agg #[.string s, .slice none 0 0]) (by simp [results, Try.results83, go_sem, *]) rfl ⟨Or.inl ⟨by first | exact trivial | rfl, rfl⟩, ?_⟩
    exact (((hbW.setCell (by simp) _).setCell (by simp) _).alloc (by simp [World.setCell]; omega) _)
  · rcases ht.kids with hk | ⟨kb, ko, rfl, hk⟩
    · rw [hk] at hk0; simp [flen] at hk0
    obtain ⟨M, hM⟩ : ∃ M, M = madeCells (Value.agg #[.string ⟨#[]⟩, .slice none 0 0]).cells (((flen k : Nat) : Int).toNat * i24.size) := ⟨_, rfl⟩
    have hMs : M.size = flen k * 2 := by rw [hM, size_madeCells, hz1]; simp
    have hmk : ∀ W : World, (Instr.makeSlice 22 (.int .i64 (flen k : Int)) (.int .i64 (flen k : Int))).run Try.prog W = .ok (.slice (some ⟨W.heap.size, 0, none⟩) (flen k) (flen k)) (W.alloc (.cells M 24)) := fun W => by
      have h := run_make (P := Try.prog) W 22 24 i24 _ Try.underlying22 hi24 hz0 .i64 .i64 (flen k : Int) (flen k : Int) (by omega) (by omega) (by rw [hz2]; omega) (by omega)
      rw [← hM] at h
      simpa using h
    clear hM
    go_enter Try.func83, Try.ntmps83
    go_wp2_with fail
    refine (clone_any s _ (by omega)).mono ?_
    rintro e w1 ⟨rfl, hb1⟩
    have hc0 : w1.cell? ⟨w.heap.size, 0, none⟩ = some (.string s) := by (rw [hb1.cell (by simp; omega)]; go_simp)
    have hc1 : w1.cell? ⟨w.heap.size, 1, none⟩ = some (.slice (some ⟨kb, ko, none⟩) (flen k) cap) := by (rw [hb1.cell (by simp; omega)]; go_simp)
    have hd0 : w1.cell? ⟨w.heap.size + 1, 0, none⟩ = some (.string ⟨#[]⟩) := by (rw [hb1.cell (by simp)]; go_simp)
    have hd1 : w1.cell? ⟨w.heap.size + 1, 1, none⟩ = some (.slice none 0 0) := by (rw [hb1.cell (by simp)]; go_simp)
    have hf0 : w1.frozen? ⟨w.heap.size + 1, 0, none⟩ = false := by (rw [hb1.frozen (by simp)]; go_simp)
    have hf1 : w1.frozen? ⟨w.heap.size + 1, 1, none⟩ = false := by (rw [hb1.frozen (by simp)]; go_simp)
    have hz1' : w.heap.size + 1 < w1.heap.size := by have := hb1.size; simp at this; omega
    have hz1'' : w.heap.size < w1.heap.size := by omega
    have hbW := hbox.trans (hb1.mono (by simp; omega))
    obtain ⟨w2, hw2⟩ : ∃ w2, w2 = ((w1.alloc (Obj.cells #[Value.string s, Value.slice (some ⟨w1.heap.size + 1, 0, none⟩) (flen k) (flen k)] 24)).alloc (Obj.cells M 24)).setRow (w1.heap.size + 1) (rowCells (itemsF k)).toArray := ⟨_, rfl⟩
    have hgM : ((w1.alloc (Obj.cells #[Value.string s, Value.slice (some ⟨w1.heap.size + 1, 0, none⟩) (flen k) (flen k)] 24)).alloc (Obj.cells M 24)).heap[w1.heap.size + 1]? = some (.cells M 24 (0, 0)) := by
      have e : (w1.alloc (Obj.cells #[Value.string s, Value.slice (some ⟨w1.heap.size + 1, 0, none⟩) (flen k) (flen k)] 24)).heap.size = w1.heap.size + 1 := by simp
      have h := heap_alloc_new (w1.alloc (Obj.cells #[Value.string s, Value.slice (some ⟨w1.heap.size + 1, 0, none⟩) (flen k) (flen k)] 24)) (Obj.cells M 24)
      rw [e] at h
      exact h
    have hW2 : Below w.heap.size w ((w1.alloc (Obj.cells #[Value.string s, Value.slice (some ⟨w1.heap.size + 1, 0, none⟩) (flen k) (flen k)] 24)).alloc (Obj.cells M 24)) := (hbW.alloc (by omega) _).alloc (by simp; omega) _
    have hcp : (Builtin.copy_ #[22, 22] 3 #[.slice (some ⟨w1.heap.size + 1, 0, none⟩) (flen k) (flen k), .slice (some ⟨kb, ko, none⟩) (flen k) cap]).run Try.prog ((w1.alloc (Obj.cells #[Value.string s, Value.slice (some ⟨w1.heap.size + 1, 0, none⟩) (flen k) (flen k)] 24)).alloc (Obj.cells M 24)) = .ok (goInt (flen k)) w2 := by
      rw [hw2]
      refine run_copy_row2 _ 22 22 3 24 (w1.heap.size + 1) (flen k) (flen k) ⟨kb, ko, none⟩ cap M 24 _ Try.underlying22 (by rw [hi24]; simp [hz1]) hgM (by rw [rowCells_length, itemsF_length]) (fun j v hv => ?_) (by rw [rowCells_length, itemsF_length, hMs]) (rowCells_one _)
      have h1 := hk.row j v hv
      rw [Addr.add_lit, hW2.cell (World.block_lt_of_cell? _ _ h1)]
      exact h1
    have hb2 : Below w1.heap.size ((w1.alloc (Obj.cells #[Value.string s, Value.slice (some ⟨w1.heap.size + 1, 0, none⟩) (flen k) (flen k)] 24)).alloc (Obj.cells M 24)) w2 := by
      rw [hw2]
      exact ⟨rfl, rfl, rfl, by simp [World.setRow], fun q hq => setRow_other _ _ _ _ (by omega)⟩
    have hb3 : Below w1.heap.size w1 w2 := (((Below.refl _ _).alloc (Nat.le_refl _) _).alloc (by simp) _).trans hb2
    have hr2 : w2.heap[w1.heap.size + 1]? = some (.cells (rowCells (itemsF k)).toArray 24 (0, 0)) := by rw [hw2]; exact setRow_heap _ _ M _ _ _ hgM
    have ho0 : w2.cell? ⟨w1.heap.size, 0, none⟩ = some (.string s) := by
      have : w2.heap[w1.heap.size]? = some (Obj.cells #[Value.string s, Value.slice (some ⟨w1.heap.size + 1, 0, none⟩) (flen k) (flen k)] 24) := by
        rw [hw2, setRow_other _ _ _ _ (by omega), Below.heap_alloc _ _ _ (by simp)]
        exact heap_alloc_new _ _
      rw [cell_of_row w2 w1.heap.size 0 _ _ _ this]; rfl
    have ho1 : w2.cell? ⟨w1.heap.size, 1, none⟩ = some (.slice (some ⟨w1.heap.size + 1, 0, none⟩) (flen k) (flen k)) := by
      have : w2.heap[w1.heap.size]? = some (Obj.cells #[Value.string s, Value.slice (some ⟨w1.heap.size + 1, 0, none⟩) (flen k) (flen k)] 24) := by
        rw [hw2, setRow_other _ _ _ _ (by omega), Below.heap_alloc _ _ _ (by simp)]
        exact heap_alloc_new _ _
      rw [cell_of_row w2 w1.heap.size 1 _ _ _ this]; rfl
    have hd0' : w2.cell? ⟨w.heap.size + 1, 0, none⟩ = some (.string ⟨#[]⟩) := by rw [hb3.cell hz1']; exact hd0
    have hd1' : w2.cell? ⟨w.heap.size + 1, 1, none⟩ = some (.slice none 0 0) := by rw [hb3.cell hz1']; exact hd1
    have hf0' : w2.frozen? ⟨w.heap.size + 1, 0, none⟩ = false := by rw [hb3.frozen hz1']; exact hf0
    have hf1' : w2.frozen? ⟨w.heap.size + 1, 1, none⟩ = false := by rw [hb3.frozen hz1']; exact hf1
    have HR2 := hide hr2
    clear hw2 hgM hr2
    go_wp2_with fail
    refine bodyPost_ret (v := .agg #[.string s, .slice (some ⟨w1.heap.size + 1, 0, none⟩) (flen k) (flen k)]) (by simp [results, Try.results83, go_sem, *]) rfl ⟨Or.inr ⟨by omega, _, rfl, by omega, ?_⟩, ?_⟩
    · rw [Below.heap_setCell _ _ _ _ (by simp; omega), Below.heap_setCell _ _ _ _ (by simp; omega)]
      exact HR2.out
    · exact ((hbW.trans (hb3.mono (by omega))).setCell (by simp) _).setCell (by simp) _

end Go.Proofs.Ytcknganggcbkjab
