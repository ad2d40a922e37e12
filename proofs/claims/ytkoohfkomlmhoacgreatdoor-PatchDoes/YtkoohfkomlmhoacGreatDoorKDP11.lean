/- strings.Clone of a string is that string, and nothing that was there has turned. Of the program's text. -/
/- order.add puts the nodes of a tree behind others. Of the program's text. -/
import Derived.Test.YtkoohfkomlmhoacGreatDoorProg
import Derived.Lib.Strings
import Derived.Lib.Walk
import Derived.Lib.BufferWrite
import Derived.Lib.UnsafeStr
import Derived.Lib.Hide
import Derived.Laws.MakeOwn
import Derived.WalkKit
import Derived.WalkSpells
import Derived.Deep.LoopGhost
import Derived.Deep.RegionHeld3
import Derived.BigQuiet
import Derived.WalkSmall
import Derived.Deep.AppendLies
import Derived.Test.YtkoohfkomlmhoacGreatDoorKDP06
import Derived.Test.YtkoohfkomlmhoacGreatDoorKDP00
import Derived.Test.YtkoohfkomlmhoacGreatDoorKDP02
namespace Go.Proofs.YtkoohfkomlmhoacGreatDoor
open Go.RowKit
set_option linter.unusedVariables false
set_option maxRecDepth 20000

theorem Tryz.infoByte : (Tryz.prog.info? 5).map (fun i => (i.zero, i.size, i.bytes)) = some (some (.int .u8 0), 1, 1) := by kernel_rfl

set_option maxHeartbeats 1000000 in
set_option maxRecDepth 100000 in
theorem slClone_any (s : ByteArray) (w : World) (hlim : s.size ≤ 281474976710656) :
    Calls Tryz.prog 77 #[.string s] w fun e w' => e = .returned (.string s) ∧ Below w.heap.size w w' := by
  by_cases h0 : s.size = 0
  · have hs : s = ⟨#[]⟩ := ByteArray.ext (Array.eq_empty_of_size_eq_zero h0)
    subst hs
    go_enter Tryz.func77, Tryz.ntmps77
    go_wp2
    go_ret
    exact ⟨rfl, Below.refl _ _⟩
  · obtain ⟨i0, hi, hz0, hz1, hz2⟩ := info_parts Tryz.infoByte
    have hinfo : (Tryz.prog.info? 5).map (·.size) = some 1 := by rw [hi]; simp [hz1]
    have hco : Tryz.prog.cellsOf 5 = 1 := by simp [Program.cellsOf, hi, hz1]
    obtain ⟨M, hM⟩ : ∃ M, M = madeCells (Value.int .u8 0).cells (((s.size : Nat) : Int).toNat * i0.size) := ⟨_, rfl⟩
    have hMs : M.size = s.size := by rw [hM, size_madeCells, hz1]; simp
    have hmk : ∀ W : World, (Instr.makeSlice 56 (.int .i64 (s.size : Int)) (.int .i64 (s.size : Int))).run Tryz.prog W = .ok (.slice (some ⟨W.heap.size, 0, none⟩) s.size s.size) (W.alloc (.cells M 5)) := fun W => by
      have h := run_make (P := Tryz.prog) W 56 5 i0 (.int .u8 0) Tryz.underlying56 hi hz0 .i64 .i64 (s.size : Int) (s.size : Int) (by omega) (by omega) (by rw [hz2]; omega) (by omega)
      rw [← hM] at h
      simpa using h
    clear hM
    have hcp := Lib.run_copy_row_string (P := Tryz.prog) (w.alloc (.cells M 5)) 56 9 3 5 w.heap.size 0 s.size s.size s M 5 Tryz.underlying56 hinfo (heap_alloc_new w _) (Nat.le_refl _) (by omega)
    obtain ⟨Y, hY⟩ : ∃ Y, Y = (M.toList.take 0 ++ Lib.byteCells s.data.toList ++ M.toList.drop (0 + s.size)).toArray := ⟨_, rfl⟩
    rw [← hY] at hcp
    have hYl : Y.toList = Lib.byteCells s.data.toList := by
      rw [hY, List.toList_toArray, List.take_zero, List.nil_append, List.drop_of_length_le (by rw [Array.length_toList]; omega), List.append_nil]
    have hYs : Y.size = s.size := by rw [← Array.length_toList, hYl, Lib.byteCells_length, ← Lib.size_eq]
    have hgY : ((w.alloc (.cells M 5)).setRow w.heap.size Y).heap[w.heap.size]? = some (.cells Y 5 (0, 0)) := setRow_heap _ _ M _ 5 (0, 0) (heap_alloc_new w _)
    have hne : s.data.toList ≠ [] := fun e => h0 (by rw [Lib.size_eq, e]; rfl)
    have hUS := Lib.run_unsafeString_row (P := Tryz.prog) ((w.alloc (.cells M 5)).setRow w.heap.size Y) 103 3 9 5 Tryz.underlying103 hco w.heap.size Y.size (by unfold World.shape?; rw [hgY]) s.data.toList hne (by rw [← Lib.size_eq]; omega) (by rw [← Lib.size_eq]; omega)
      (fun j x hx => Lib.cells_of_row hgY Y.size j _ (by rw [List.take_of_length_le (by rw [Array.length_toList]; exact Nat.le_refl _), hYl]; simp [Lib.byteCells, hx]))
    rw [← Lib.size_eq] at hUS
    clear hY
    go_enter Tryz.func77, Tryz.ntmps77
    go_wp2
    go_ret
    have hb1 : Below w.heap.size w (w.alloc (.cells M 5)) := (Below.refl _ w).alloc (Nat.le_refl _) _
    have hb2 : Below w.heap.size (w.alloc (.cells M 5)) ((w.alloc (.cells M 5)).setRow w.heap.size Y) := ⟨rfl, rfl, rfl, by simp, fun k hk => setRow_other _ _ _ _ (by omega)⟩
    exact ⟨rfl, Lib.below_freeze (hb1.trans hb2) (p := ⟨w.heap.size, 0, none⟩) (Nat.le_refl _) _⟩

set_option maxHeartbeats 400000 in
theorem clone_any (s : ByteArray) (w : World) (hlim : s.size ≤ 281474976710656) :
    Calls Tryz.prog 40 #[.string s] w fun e w' => e = .returned (.string s) ∧ Below w.heap.size w w' := by
  go_enter Tryz.func40, Tryz.ntmps40
  go_wp2_with fail
  refine (slClone_any _ _ hlim).mono ?_
  rintro e w1 ⟨rfl, hb1⟩
  go_wp2_with fail
  go_ret
  exact ⟨rfl, hb1⟩

end Go.Proofs.YtkoohfkomlmhoacGreatDoor
namespace Go.Proofs.YtkoohfkomlmhoacGreatDoor
open Go.Deep Go.RowKit
set_option linter.unusedVariables false
set_option maxRecDepth 20000

theorem Tryz.infoInt : (Tryz.prog.info? 3).map (fun i => (i.zero, i.size, i.bytes)) = some (some (.int .i64 0), 1, 8) := by kernel_rfl

theorem int_news (w : World) (T : TypeId) (x : Int) (j : Nat) (u : Value) (h : ([Value.int .i64 x] : List Value)[j]? = some u) : (w.alloc (Obj.cells #[.int .i64 x] T)).cell? ((⟨w.heap.size, 0, none⟩ : Addr).add j) = some u := by
  refine World.news_of_block (cs := #[.int .i64 x]) (t := T) (fr := (0, 0)) ?_ j u h
  show (w.heap.push _)[w.heap.size]? = _
  simp
/-- What the first loop keeps. -/
structure AInv (B : Nat) (w wr : World) (k : Fo) (L : List Nd) (n : Nat) (v v0 v6 : Value) (j : Nat) (D : List Nd) (rs : List Nat) : Prop where
  row : wr.ownsRow B 126 3 v0 (n + D.length) (ndCells (L ++ D))
  kids : wr.ownsRow B 3 1 v6 j (intCells rs)
  nodes : ndF n k (-1) = D ++ ndF (n + D.length) (fdrop j k) (-1)
  root : roots n k = rs ++ roots (n + D.length) (fdrop j k)
  many : D.length + fnodes (fdrop j k) = fnodes k
  rlen : rs.length = j
  apart : ∀ g, v0.ownBlock = some g → v6.ownBlock ≠ some g
  new6 : ∀ g, v6.ownBlock = some g → w.heap.size ≤ g
  own0 : v0.ownBlock = v.ownBlock ∨ ∀ g, v0.ownBlock = some g → w.heap.size ≤ g
  grown : w.grownBy wr v.ownBlock

theorem AInv.step {B : Nat} {w wr : World} {k : Fo} {L : List Nd} {n : Nat} {v v0 v6 : Value} {j : Nat} {D : List Nd} {rs : List Nat} (h : AInv B w wr k L n v v0 v6 j D rs) {b' o' : Nat} {x : ByteArray × Option Addr × Nat} {kk : Fo} (he : fdrop j k = .node b' o' x kk (fdrop (j + 1) k))
    {w1 : World} (hw1 : Below wr.heap.size wr w1) {w2 w3 : World} {v0' : Value} {obi : Obj} {g6 cap6 : Nat}
    (hrow2 : w2.ownsRow B 126 3 v0' (n + D.length + fnodes kk + 1) (ndCells (L ++ D ++ ndT (n + D.length) x.1 kk (-1)))) (hg2 : w1.grownBy w2 v0.ownBlock) (hown2 : v0'.ownBlock = v0.ownBlock ∨ ∀ g, v0'.ownBlock = some g → w1.heap.size ≤ g)
    (hown6 : w3.ownsRow B 3 1 (.slice (some ⟨g6, 0, none⟩) (j + 1) cap6) (j + 1) (intCells rs ++ [.int .i64 ((n + D.length + fnodes kk : Nat) : Int)])) (hgrow6 : (w2.alloc obi).grownBy w3 v6.ownBlock) (hat6 : v6.ownBlock = some g6 ∨ g6 = w2.heap.size + 1) :
    AInv B w w3 k L n v v0' (.slice (some ⟨g6, 0, none⟩) (j + 1) cap6) (j + 1) (D ++ ndT (n + D.length) x.1 kk (-1)) (rs ++ [n + D.length + fnodes kk]) := by
  have hlen : (D ++ ndT (n + D.length) x.1 kk (-1)).length = D.length + fnodes kk + 1 := by rw [List.length_append, ndT_length]; omega
  have hmany := h.many
  rw [he] at hmany
  simp only [fnodes] at hmany
  have hs1 := hw1.size
  have hs2 := hg2.size
  have hs3 := hgrow6.size
  have hs0 := h.grown.size
  have hz : (w2.alloc obi).heap.size = w2.heap.size + 1 := by simp
  have hne : ∀ g, v0'.ownBlock = some g → v6.ownBlock ≠ some g := fun g hg h6 => by
    rcases hown2 with e | e
    · exact h.apart g (e ▸ hg) h6
    · have := e g hg
      have := (ownBlockN_lt h.kids h6).2
      omega
  refine ⟨?_, ?_, ?_, ?_, ?_, by simp [h.rlen], ?_, ?_, ?_, ?_⟩
  · rw [hlen, ← List.append_assoc, show n + (D.length + fnodes kk + 1) = n + D.length + fnodes kk + 1 by omega]
    exact ownsN_grown (ownsN_below hrow2 ((Below.refl _ _).alloc (Nat.le_refl _) _)) hgrow6 hne
  · rw [show intCells (rs ++ [n + D.length + fnodes kk]) = intCells rs ++ [.int .i64 ((n + D.length + fnodes kk : Nat) : Int)] by simp [intCells]]
    exact hown6
  · rw [h.nodes, ndF_step he, hlen, List.append_assoc, show n + D.length + fnodes kk + 1 = n + (D.length + fnodes kk + 1) by omega]
  · rw [h.root, roots_step he, hlen, List.append_assoc, show n + D.length + fnodes kk + 1 = n + (D.length + fnodes kk + 1) by omega]
    rfl
  · rw [hlen]; omega
  · intro g hg hg6
    simp only [Value.ownBlock, Option.some.injEq] at hg6
    subst hg6
    rcases hat6 with e | e
    · exact hne g6 hg e
    · have := (ownBlockN_lt hrow2 hg).2
      omega
  · intro g hg
    simp only [Value.ownBlock, Option.some.injEq] at hg
    subst hg
    rcases hat6 with e | e
    · exact h.new6 g6 e
    · omega
  · rcases hown2 with e | e
    · rw [e]; exact h.own0
    · exact Or.inr fun g hg => by have := e g hg; omega
  · refine grownBy_trans (grownBy_trans (grownBy_trans (h.grown) (grownBy_of_below hw1 none) (Or.inr fun g hg => by cases hg)) hg2 h.own0) (grownBy_trans (grownBy_of_below ((Below.refl _ _).alloc (Nat.le_refl _) _) v6.ownBlock) hgrow6 (Or.inl rfl)) (Or.inr fun g hg => h.new6 g hg)

end Go.Proofs.YtkoohfkomlmhoacGreatDoor
