/- Nodes of package dist tells the nodes of both trees, in new memory. Of the program's text. -/
import Derived.Test.YtpjlajjbioploabProg
import Derived.Test.YtpjlajjbioploabDFace
import Derived.Test.YtpjlajjbioploabDOf
import Derived.Lib.SliceRun
namespace Go.Proofs.Ytpjlajjbioploab.Dist
open Go.Deep Go.RowKit
set_option linter.unusedVariables false
set_option maxRecDepth 20000

theorem ndCells_get : ∀ (L : List Nd) (j : Nat) (u : Value), (ndCells L)[j]? = some u → ∃ i x, L[i]? = some x ∧ ((j = i * 3 ∧ u = .string x.lab) ∨ (j = i * 3 + 1 ∧ u = .int .i64 x.par) ∨ (j = i * 3 + 2 ∧ u = .int .i64 x.left))
  | [], j, u, h => by simp [ndCells] at h
  | a :: L, 0, u, h => ⟨0, a, rfl, Or.inl ⟨rfl, by simp [ndCells, ndCell] at h; exact h.symm⟩⟩
  | a :: L, 1, u, h => ⟨0, a, rfl, Or.inr (Or.inl ⟨rfl, by simp [ndCells, ndCell] at h; exact h.symm⟩)⟩
  | a :: L, 2, u, h => ⟨0, a, rfl, Or.inr (Or.inr ⟨rfl, by simp [ndCells, ndCell] at h; exact h.symm⟩)⟩
  | a :: L, j + 3, u, h => by
    obtain ⟨i, x, hx, hh⟩ := ndCells_get L j u (by simpa [ndCells, ndCell] using h)
    refine ⟨i + 1, x, by simpa using hx, ?_⟩
    rcases hh with ⟨e, h⟩ | ⟨e, h⟩ | ⟨e, h⟩
    · exact Or.inl ⟨by omega, h⟩
    · exact Or.inr (Or.inl ⟨by omega, h⟩)
    · exact Or.inr (Or.inr ⟨by omega, h⟩)
theorem NAt.cells {w : World} {b o : Nat} {L : List Nd} (h : NAt w b o L) (j : Nat) (u : Value) (hu : (ndCells L)[j]? = some u) : w.cell? ((⟨b, o, none⟩ : Addr).add j) = some u := by
  have key : w.cell? ⟨b, o + j, none⟩ = some u := by
    obtain ⟨i, x, hx, hh⟩ := ndCells_get L j u hu
    obtain ⟨h0, h1, h2⟩ := h i x hx
    rcases hh with ⟨rfl, rfl⟩ | ⟨rfl, rfl⟩ | ⟨rfl, rfl⟩
    · exact h0
    · rw [← Nat.add_assoc]; exact h1
    · rw [← Nat.add_assoc]; exact h2
  by_cases e : j = 0
  · subst e
    simpa [Addr.add] using key
  · simpa [Addr.add, e] using key
theorem ndCells_one : ∀ (L : List Nd) (u : Value), u ∈ ndCells L → u.oneCell' = true
  | [], u, h => by simp [ndCells] at h
  | x :: L, u, h => by
    simp only [ndCells, List.mem_append] at h
    rcases h with h | h
    · exact nd_one x u h
    · exact ndCells_one L u h

def NodesPost (L : List Nd) (w : World) (e : Ending) (w' : World) : Prop := ∃ g c, e = .returned (.slice (some ⟨g, 0, none⟩) L.length c) ∧ L.length ≤ c ∧ c ≤ maxLen ∧ w.heap.size ≤ g ∧ NAt w' g 0 L ∧ Below w.heap.size w w'

set_option maxHeartbeats 800000 in
theorem cloneN_any (L : List Nd) (b o c : Nat) (w : World) (hL : NAt w b o L) (hp : 0 < L.length) (h40 : L.length ≤ 40) :
    Calls Try.prog 20 #[.slice (some ⟨b, o, none⟩) L.length c] w (NodesPost L w) := by
  obtain ⟨iN, hiN, hn0, hn1, hn2⟩ := info_parts Try.infoNode
  have qT : ∀ (w : World) (a : Option Addr) (n c n' c' : Nat), (binOp .eql 30 (.slice a n c) (.slice none n' c')).run Try.prog w = .ok (.bool a.isNone) w := fun w a n c n' c' => Lib.run_eql_slice_nil w _ _ a n c n' c' Try.underlying30
  have hb : b < w.heap.size := by
    obtain ⟨x, hx⟩ : ∃ x, L[0]? = some x := ⟨_, List.getElem?_eq_getElem hp⟩
    exact World.block_lt_of_cell? _ _ (hL 0 x hx).1
  have hL1 : NAt (w.alloc (Obj.cells #[] 35)) b o L := hL.of_block (blk_alloc_lt _ _ _ hb)
  have hnew : (w.alloc (Obj.cells #[] 35)).ownsRow w.heap.size 35 3 (.slice (some ⟨w.heap.size, 0, none⟩) 0 0) 0 [] := ⟨rfl, Or.inr ⟨w.heap.size, 0, #[], rfl, Nat.le_refl _, heap_alloc_new _ _, Nat.le_refl _, by unfold maxLen; omega, rfl, rfl⟩⟩
  go_enter Try.func20, Try.ntmps20
  go_wp2_with (at_builtin; refine wpList_append_lies _ rfl (.tmp 5) (.tmp 6) 30 rfl w.heap.size 35 iN _ 3 32 Try.underlying30 hiN hn0 hn1 hn2 rfl (by decide) _ 0 _ rfl hnew ⟨b, o, none⟩ L.length c (ndCells L) rfl (ndCells_length L) hL1.cells (ndCells_one L) hp (by unfold maxLen; omega) (by omega) (by simp) (w.heap.size + 1) (by simp) ?_)
  intro g cap w2 hown hgrow hat hlt
  have hB : Below w.heap.size w w2 := ((Below.refl _ _).alloc (Nat.le_refl _) _).grown hgrow (by simp) (fun g hg => by
    have : w.heap.size = g := by simpa [Value.ownBlock] using hg
    omega)
  have hown' : w2.ownsRow w.heap.size 35 3 (.slice (some ⟨g, 0, none⟩) L.length cap) L.length (ndCells L) := by simpa using hown
  obtain ⟨_, hcl, hcm⟩ := ownsN_form hown'
  have HN := hide (NAt_of_owns hown')
  have HB := hide hB
  have hg := (ownBlockN_lt hown' rfl).1
  have HC := hide (show L.length ≤ cap ∧ cap ≤ maxLen by
    obtain ⟨va, vc, hv, h1, h2⟩ := ownsN_form hown'
    injection hv with e1 e2 e3
    subst e3
    exact ⟨h1, h2⟩)
  clear hown hown' hgrow hat hB hcl hcm
  go_wp2_with fail
  go_ret
  exact ⟨g, cap, rfl, HC.out.1, HC.out.2, hg, HN.out, HB.out⟩

set_option maxHeartbeats 1000000 in
theorem nodes_any (T : Tab) (f : Nat → Nat → Nat) (w : World) (hT : TabIn w T f) :
    Calls Try.prog 8 #[.pointer (some ⟨T.t, 0, none⟩)] w fun e w' => ∃ g1 c1 g2 c2, e = .returned (.tuple #[.slice (some ⟨g1, 0, none⟩) T.A.length c1, .slice (some ⟨g2, 0, none⟩) T.B.length c2]) ∧ T.A.length ≤ c1 ∧ c1 ≤ maxLen ∧ T.B.length ≤ c2 ∧ c2 ≤ maxLen ∧ NAt w' g1 0 T.A ∧ NAt w' g2 0 T.B ∧ Below w.heap.size w w' := by
  have HE := hide (empty_any T f w hT)
  have hk : ∀ W : World, Below w.heap.size w W → Below w.heap.size w W ∧ W.cell? ⟨T.t, 0, none⟩ = some (.slice (some ⟨T.ba, T.oa, none⟩) T.A.length T.ca) ∧ W.cell? ⟨T.t, 1, none⟩ = some (.slice (some ⟨T.bb, T.ob, none⟩) T.B.length T.cb) := fun W hW => ⟨hW, (hT.below hW).c0, (hT.below hW).c1⟩
  have HC1 : Hid (∀ W : World, (Below w.heap.size w W ∧ W.cell? ⟨T.t, 0, none⟩ = some (.slice (some ⟨T.ba, T.oa, none⟩) T.A.length T.ca) ∧ W.cell? ⟨T.t, 1, none⟩ = some (.slice (some ⟨T.bb, T.ob, none⟩) T.B.length T.cb)) →
      Calls Try.prog 20 #[.slice (some ⟨T.ba, T.oa, none⟩) T.A.length T.ca] W fun e w' => ∃ g c, e = .returned (.slice (some ⟨g, 0, none⟩) T.A.length c) ∧ Hid (T.A.length ≤ c ∧ c ≤ maxLen ∧ NAt w' g 0 T.A ∧ Below W.heap.size W w') ∧ (Below w.heap.size w w' ∧ w'.cell? ⟨T.t, 0, none⟩ = some (.slice (some ⟨T.ba, T.oa, none⟩) T.A.length T.ca) ∧ w'.cell? ⟨T.t, 1, none⟩ = some (.slice (some ⟨T.bb, T.ob, none⟩) T.B.length T.cb))) := hide fun W hW => (cloneN_any T.A T.ba T.oa T.ca W (hT.below hW.1).na hT.okA.pos hT.okA.many).mono fun e w' ⟨g, c, h1, h2, h3, h4, h5, h6⟩ => ⟨g, c, h1, hide ⟨h2, h3, h5, h6⟩, hk w' (hW.1.trans (h6.mono hW.1.size))⟩
  have HC2 : Hid (∀ W : World, (Below w.heap.size w W ∧ W.cell? ⟨T.t, 0, none⟩ = some (.slice (some ⟨T.ba, T.oa, none⟩) T.A.length T.ca) ∧ W.cell? ⟨T.t, 1, none⟩ = some (.slice (some ⟨T.bb, T.ob, none⟩) T.B.length T.cb)) →
      Calls Try.prog 20 #[.slice (some ⟨T.bb, T.ob, none⟩) T.B.length T.cb] W fun e w' => ∃ g c, e = .returned (.slice (some ⟨g, 0, none⟩) T.B.length c) ∧ Hid (T.B.length ≤ c ∧ c ≤ maxLen ∧ NAt w' g 0 T.B ∧ Below W.heap.size W w') ∧ (Below w.heap.size w w' ∧ w'.cell? ⟨T.t, 0, none⟩ = some (.slice (some ⟨T.ba, T.oa, none⟩) T.A.length T.ca) ∧ w'.cell? ⟨T.t, 1, none⟩ = some (.slice (some ⟨T.bb, T.ob, none⟩) T.B.length T.cb))) := hide fun W hW => (cloneN_any T.B T.bb T.ob T.cb W (hT.below hW.1).nb hT.okB.pos hT.okB.many).mono fun e w' ⟨g, c, h1, h2, h3, h4, h5, h6⟩ => ⟨g, c, h1, hide ⟨h2, h3, h5, h6⟩, hk w' (hW.1.trans (h6.mono hW.1.size))⟩
  have HK := hide (hk w.drew (Below.refl _ _).drew)
  have HAP := hide hT.okA.pos
  clear hk
  have hA4 := hT.okA.many
  have hB4 := hT.okB.many
  clear hT
  go_enter Try.func8, Try.ntmps8
  go_wp2_with fail
  refine Calls.mono HE.out ?_
  rintro e w1 ⟨rfl, rfl⟩
  obtain ⟨w, hww⟩ : ∃ w, w = w1 := ⟨_, rfl⟩
  subst hww
  go_wp2_with fail
  go_region_held3 (fun w' => Below w.heap.size w w' ∧ w'.cell? ⟨T.t, 0, none⟩ = some (.slice (some ⟨T.ba, T.oa, none⟩) T.A.length T.ca) ∧ w'.cell? ⟨T.t, 1, none⟩ = some (.slice (some ⟨T.bb, T.ob, none⟩) T.B.length T.cb))
    (first | assumption | exact HK.out)
    (first
      | (go_at_call_of 20 T.ba; refine (HC1.out _ (by assumption)).mono ?_; rintro e w2 ⟨g1, c1, rfl, H1, hS1⟩)
      | (go_at_call_of 20 T.bb; refine (HC2.out _ (by assumption)).mono ?_; rintro e w3 ⟨g2, c2, rfl, H2, hS2⟩))
  go_wp2_with fail
  refine bodyPost_ret (v := .tuple #[.slice (some ⟨g1, 0, none⟩) T.A.length c1, .slice (some ⟨g2, 0, none⟩) T.B.length c2]) (by simp [results, Try.results8, go_sem]) rfl ?_
  obtain ⟨a1, a2, a3, a4⟩ := H1.out
  obtain ⟨b1, b2, b3, b4⟩ := H2.out
  have hlt : g1 < w2.heap.size := by
    obtain ⟨x, hx⟩ : ∃ x, T.A[0]? = some x := ⟨_, List.getElem?_eq_getElem HAP.out⟩
    exact World.block_lt_of_cell? _ _ (a3 0 x hx).1
  exact ⟨g1, c1, g2, c2, rfl, a1, a2, b1, b2, a3.of_block (b4.block _ hlt), b3, hS2.1⟩
end Go.Proofs.Ytpjlajjbioploab.Dist
