/- tree.ownNode makes, of a node that lies in memory, one with a list of kids of its own, which hold the same. Of the program's text. -/
import Derived.Test.YtpgiagkbfnbgkabProg
import Derived.Test.YtpgiagkbfnbgkabClone
import Derived.Test.YtpgiagkbfnbgkabOwnInv
import Derived.Test.YtpgiagkbfnbgkabOwnRef
import Derived.Laws.CopyRow
import Derived.Laws.Rows
namespace Go.Proofs.Ytpgiagkbfnbgkab
open Go.Deep Go.RowKit
set_option linter.unusedVariables false
set_option maxRecDepth 20000

/-- copy of n elements of two cells each into a row of the call's own. -/
theorem run_copy_row2 {P : Program} (w : World) (dT sT ty elem : TypeId) (g n dCap : Nat) (a : Addr) (sCap : Nat) (cur : Array Value) (t : TypeId) (cs : List Value)
    (hu : P.underlying dT = some (.slice elem)) (hs : (P.info? elem).map (·.size) = some 2)
    (hg : w.heap[g]? = some (.cells cur t (0, 0))) (hn : cs.length = n * 2)
    (hsrc : ∀ j v, cs[j]? = some v → w.cell? (a.add j) = some v) (hfit : cs.length = cur.size) (h1 : ∀ v ∈ cs, v.oneCell' = true) :
    (Builtin.copy_ #[dT, sT] ty #[.slice (some ⟨g, 0, none⟩) n dCap, .slice (some a) n sCap]).run P w = .ok (goInt n) (w.setRow g cs.toArray) := by
  have hl := run_loadCells_list (P := P) w a cs hsrc
  have hst := run_storeCells_at P g 0 t cs 0 cur w hg (by simp; omega) h1
  cases hq : P.info? elem with
  | none => simp [hq] at hs
  | some i =>
    have hi : i.size = 2 := by simpa [hq] using hs
    rw [hn] at hl
    simp [Builtin.copy_, run_underlying hu, Builtin.lenOf, Builtin.firstCells, sizeOf, typeInfo, hq, hi, hl, hst]
    rw [List.drop_of_length_le (by simp; omega), List.append_nil]

set_option maxHeartbeats 400000 in
theorem ownNode_any (s : ByteArray) (ka : Option Addr) (cap : Nat) (k : Fo) (w : World) (ht : TIn w s ka cap k) (hs : s.size ≤ 1000) (hn : fnodes k ≤ 1000) :
    Calls Try.prog 62 #[.agg #[.string s, .slice ka (flen k) cap]] w fun e w' =>
      ((flen k = 0 ∧ e = .returned (.agg #[.string s, .slice none 0 0])) ∨ (0 < flen k ∧ ∃ g, e = .returned (.agg #[.string s, .slice (some ⟨g, 0, none⟩) (flen k) (flen k)]) ∧ w.heap.size ≤ g ∧ w'.heap[g]? = some (.cells (rowCells (itemsF k)).toArray 24 (0, 0)))) ∧ Below w.heap.size w w' := by
  have hbox : Below w.heap.size w ((w.alloc (Obj.cells #[Value.string s, Value.slice ka (flen k) cap] 24)).alloc (Obj.cells #[Value.string ⟨#[]⟩, Value.slice none 0 0] 24)) :=
    ((Below.refl _ _).alloc (Nat.le_refl _) _).alloc (by simp) _
  have hlk := flen_le_nodes k
  obtain ⟨i24, hi24, hz0, hz1, hz2⟩ := info_parts Try.infoTree
  by_cases hk0 : flen k = 0
  · rw [hk0] at hbox ⊢
    go_enter Try.func62, Try.ntmps62
    go_wp2_with fail
    refine (clone_any s _ (by omega)).mono ?_
    rintro e w1 ⟨rfl, hb1⟩
    have hc0 : w1.cell? ⟨w.heap.size, 0, none⟩ = some (.string s) := by (rw [hb1.cell (by simp; omega)]; go_simp)
    have hc1 : w1.cell? ⟨w.heap.size, 1, none⟩ = some (.slice ka 0 cap) := by (rw [hb1.cell (by simp; omega)]; go_simp)
    have hd0 : w1.cell? ⟨w.heap.size + 1, 0, none⟩ = some (.string ⟨#[]⟩) := by (rw [hb1.cell (by simp)]; go_simp)
    have hd1 : w1.cell? ⟨w.heap.size + 1, 1, none⟩ = some (.slice none 0 0) := by (rw [hb1.cell (by simp)]; go_simp)
    have hf0 : w1.frozen? ⟨w.heap.size + 1, 0, none⟩ = false := by (rw [hb1.frozen (by simp)]; go_simp)
    have hf1 : w1.frozen? ⟨w.heap.size + 1, 1, none⟩ = false := by (rw [hb1.frozen (by simp)]; go_simp)
    have hz1' : w.heap.size + 1 < w1.heap.size := by have := hb1.size; simp at this; omega
    have hz1'' : w.heap.size < w1.heap.size := by omega
    have hbW := hbox.trans (hb1.mono (by simp; omega))
    go_wp2_with fail
    refine bodyPost_ret (v := .agg #[.string s, .slice none 0 0]) (by simp [results, Try.results62, go_sem, *]) rfl ⟨Or.inl ⟨by first | exact trivial | rfl, rfl⟩, ?_⟩
    exact (((hbW.setCell (by simp) _).setCell (by simp) _).alloc (by simp [World.setCell]; omega) _)
  · rcases ht.kids with hk | ⟨kb, ko, rfl, hk⟩
    · rw [hk] at hk0; simp [flen] at hk0
    obtain ⟨M, hM⟩ : ∃ M, M = madeCells (Value.agg #[.string ⟨#[]⟩, .slice none 0 0]).cells (((flen k : Nat) : Int).toNat * i24.size) := ⟨_, rfl⟩
    have hMs : M.size = flen k * 2 := by rw [hM, size_madeCells, hz1]; simp
    have hmk : ∀ W : World, (Instr.makeSlice 22 (.int .i64 (flen k : Int)) (.int .i64 (flen k : Int))).run Try.prog W = .ok (.slice (some ⟨W.heap.size, 0, none⟩) (flen k) (flen k)) (W.alloc (.cells M 24)) := fun W => by
      have h := run_make (P := Try.prog) W 22 24 i24 _ Try.underlying22 hi24 hz0 .i64 .i64 (flen k : Int) (flen k : Int) (by omega) (by omega) (by rw [hz2]; omega) (by omega)
      rw [← hM] at h
      simpa using h
    clear hM
    go_enter Try.func62, Try.ntmps62
    go_wp2_with fail
    refine (clone_any s _ (by omega)).mono ?_
    rintro e w1 ⟨rfl, hb1⟩
    have hc0 : w1.cell? ⟨w.heap.size, 0, none⟩ = some (.string s) := by (rw [hb1.cell (by simp; omega)]; go_simp)
    have hc1 : w1.cell? ⟨w.heap.size, 1, none⟩ = some (.slice (some ⟨kb, ko, none⟩) (flen k) cap) := by (rw [hb1.cell (by simp; omega)]; go_simp)
    have hd0 : w1.cell? ⟨w.heap.size + 1, 0, none⟩ = some (.string ⟨#[]⟩) := by (rw [hb1.cell (by simp)]; go_simp)
    have hd1 : w1.cell? ⟨w.heap.size + 1, 1, none⟩ = some (.slice none 0 0) := by (rw [hb1.cell (by simp)]; go_simp)
    have hf0 : w1.frozen? ⟨w.heap.size + 1, 0, none⟩ = false := by (rw [hb1.frozen (by simp)]; go_simp)
    have hf1 : w1.frozen? ⟨w.heap.size + 1, 1, none⟩ = false := by (rw [hb1.frozen (by simp)]; go_simp)
    have hz1' : w.heap.size + 1 < w1.heap.size := by have := hb1.size; simp at this; omega
    have hz1'' : w.heap.size < w1.heap.size := by omega
    have hbW := hbox.trans (hb1.mono (by simp; omega))
    obtain ⟨w2, hw2⟩ : ∃ w2, w2 = ((w1.alloc (Obj.cells #[Value.string s, Value.slice (some ⟨w1.heap.size + 1, 0, none⟩) (flen k) (flen k)] 24)).alloc (Obj.cells M 24)).setRow (w1.heap.size + 1) (rowCells (itemsF k)).toArray := ⟨_, rfl⟩
    have hgM : ((w1.alloc (Obj.cells #[Value.string s, Value.slice (some ⟨w1.heap.size + 1, 0, none⟩) (flen k) (flen k)] 24)).alloc (Obj.cells M 24)).heap[w1.heap.size + 1]? = some (.cells M 24 (0, 0)) := by
      have e : (w1.alloc (Obj.cells #[Value.string s, Value.slice (some ⟨w1.heap.size + 1, 0, none⟩) (flen k) (flen k)] 24)).heap.size = w1.heap.size + 1 := by simp
      have h := heap_alloc_new (w1.alloc (Obj.cells #[Value.string s, Value.slice (some ⟨w1.heap.size + 1, 0, none⟩) (flen k) (flen k)] 24)) (Obj.cells M 24)
      rw [e] at h
      exact h
    have hW2 : Below w.heap.size w ((w1.alloc (Obj.cells #[Value.string s, Value.slice (some ⟨w1.heap.size + 1, 0, none⟩) (flen k) (flen k)] 24)).alloc (Obj.cells M 24)) := (hbW.alloc (by omega) _).alloc (by simp; omega) _
    have hcp : (Builtin.copy_ #[22, 22] 3 #[.slice (some ⟨w1.heap.size + 1, 0, none⟩) (flen k) (flen k), .slice (some ⟨kb, ko, none⟩) (flen k) cap]).run Try.prog ((w1.alloc (Obj.cells #[Value.string s, Value.slice (some ⟨w1.heap.size + 1, 0, none⟩) (flen k) (flen k)] 24)).alloc (Obj.cells M 24)) = .ok (goInt (flen k)) w2 := by
      rw [hw2]
      refine run_copy_row2 _ 22 22 3 24 (w1.heap.size + 1) (flen k) (flen k) ⟨kb, ko, none⟩ cap M 24 _ Try.underlying22 (by rw [hi24]; simp [hz1]) hgM (by rw [rowCells_length, itemsF_length]) (fun j v hv => ?_) (by rw [rowCells_length, itemsF_length, hMs]) (rowCells_one _)
      have h1 := hk.row j v hv
      rw [Addr.add_lit, hW2.cell (World.block_lt_of_cell? _ _ h1)]
      exact h1
    have hb2 : Below w1.heap.size ((w1.alloc (Obj.cells #[Value.string s, Value.slice (some ⟨w1.heap.size + 1, 0, none⟩) (flen k) (flen k)] 24)).alloc (Obj.cells M 24)) w2 := by
      rw [hw2]
      exact ⟨rfl, rfl, rfl, by simp [World.setRow], fun q hq => setRow_other _ _ _ _ (by omega)⟩
    have hb3 : Below w1.heap.size w1 w2 := (((Below.refl _ _).alloc (Nat.le_refl _) _).alloc (by simp) _).trans hb2
    have hr2 : w2.heap[w1.heap.size + 1]? = some (.cells (rowCells (itemsF k)).toArray 24 (0, 0)) := by rw [hw2]; exact setRow_heap _ _ M _ _ _ hgM
    have ho0 : w2.cell? ⟨w1.heap.size, 0, none⟩ = some (.string s) := by
      have : w2.heap[w1.heap.size]? = some (Obj.cells #[Value.string s, Value.slice (some ⟨w1.heap.size + 1, 0, none⟩) (flen k) (flen k)] 24) := by
        rw [hw2, setRow_other _ _ _ _ (by omega), Below.heap_alloc _ _ _ (by simp)]
        exact heap_alloc_new _ _
      rw [cell_of_row w2 w1.heap.size 0 _ _ _ this]; rfl
    have ho1 : w2.cell? ⟨w1.heap.size, 1, none⟩ = some (.slice (some ⟨w1.heap.size + 1, 0, none⟩) (flen k) (flen k)) := by
      have : w2.heap[w1.heap.size]? = some (Obj.cells #[Value.string s, Value.slice (some ⟨w1.heap.size + 1, 0, none⟩) (flen k) (flen k)] 24) := by
        rw [hw2, setRow_other _ _ _ _ (by omega), Below.heap_alloc _ _ _ (by simp)]
        exact heap_alloc_new _ _
      rw [cell_of_row w2 w1.heap.size 1 _ _ _ this]; rfl
    have hd0' : w2.cell? ⟨w.heap.size + 1, 0, none⟩ = some (.string ⟨#[]⟩) := by rw [hb3.cell hz1']; exact hd0
    have hd1' : w2.cell? ⟨w.heap.size + 1, 1, none⟩ = some (.slice none 0 0) := by rw [hb3.cell hz1']; exact hd1
    have hf0' : w2.frozen? ⟨w.heap.size + 1, 0, none⟩ = false := by rw [hb3.frozen hz1']; exact hf0
    have hf1' : w2.frozen? ⟨w.heap.size + 1, 1, none⟩ = false := by rw [hb3.frozen hz1']; exact hf1
    have HR2 := hide hr2
    clear hw2 hgM hr2
    go_wp2_with fail
    refine bodyPost_ret (v := .agg #[.string s, .slice (some ⟨w1.heap.size + 1, 0, none⟩) (flen k) (flen k)]) (by simp [results, Try.results62, go_sem, *]) rfl ⟨Or.inr ⟨by omega, _, rfl, by omega, ?_⟩, ?_⟩
    · rw [Below.heap_setCell _ _ _ _ (by simp; omega), Below.heap_setCell _ _ _ _ (by simp; omega)]
      exact HR2.out
    · exact ((hbW.trans (hb3.mono (by omega))).setCell (by simp) _).setCell (by simp) _

end Go.Proofs.Ytpgiagkbfnbgkab
