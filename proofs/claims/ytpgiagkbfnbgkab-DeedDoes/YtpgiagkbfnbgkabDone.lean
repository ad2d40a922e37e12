/- done of package pleachingref does a deed at what is left of its path. Of the program's text. -/
import Derived.Test.YtpgiagkbfnbgkabProg
import Derived.Test.YtpgiagkbfnbgkabDoneP
import Derived.Test.YtpgiagkbfnbgkabDeedRef
import Derived.Deep.RegionHeld3
namespace Go.Proofs.Ytpgiagkbfnbgkab.Deed
open Go.Deep Go.RowKit
set_option linter.unusedVariables false
set_option maxRecDepth 20000

/-- What done comes to: a code, and where it is 0 the tree, in new memory. -/
def DoneEnd (r : Int × ByteArray × Fo) (w : World) (e : Ending) (w' : World) : Prop := ∃ s' ka' cap' k', e = .returned (.tuple #[.agg #[.string s', .slice ka' (flen k') cap'], .int .i64 r.1]) ∧ (r.1 = 0 → s' = r.2.1 ∧ strip k' = r.2.2 ∧ TIn w' s' ka' cap' k' ∧ FFrom w.heap.size k' ∧ FPlain w' k') ∧ Below w.heap.size w w'

theorem TIn.set {w : World} {g o : Nat} {v : Value} {s : ByteArray} {ka : Option Addr} {cap : Nat} {k : Fo} (h : TIn w s ka cap k) (ho : FOff g k) : TIn (w.setCell ⟨g, o, none⟩ v) s ka cap k :=
  TIn.but (g := g) (fun b _ hb => Below.heap_setCell _ _ _ _ hb) ho h
theorem FPlain.set {w : World} {g o : Nat} {v : Value} {k : Fo} (h : FPlain w k) (ho : FOff g k) : FPlain (w.setCell ⟨g, o, none⟩ v) k :=
  FPlain.but (g := g) (fun b _ hb => Below.heap_setCell _ _ _ _ hb) ho h

set_option maxHeartbeats 1000000 in
theorem done_name (d : Dd) (hk1 : d.kind = 1) (s : ByteArray) (ka : Option Addr) (cap : Nat) (k : Fo) (pa pb : Option Addr) (pc qc : Nat) (w : World) (ht : TIn w s ka cap k) (hn : fnodes k < 99999) (hl : d.lab.size ≤ maxLen) :
    Calls Try.prog 45 #[.agg #[.string s, .slice ka (flen k) cap], ddV d pa pc, .slice pb 0 qc] w (DoneEnd (doneR d [] s k) w) := by
  rw [doneR_name hk1]
  unfold ddV
  rw [hk1]
  obtain ⟨W, hW⟩ : ∃ W, W = (((w.alloc (Obj.cells #[Value.string s, Value.slice ka (flen k) cap] 24)).alloc (Obj.cells #[.int .i64 1, .slice pa d.path.length pc, .int .i64 d.pos, .int .i64 d.many, .string d.lab] 44)).alloc (Obj.cells #[Value.string ⟨#[]⟩, Value.slice none 0 0] 24)).alloc (Obj.cells #[Value.string d.lab, Value.slice none 0 0] 24) := ⟨_, rfl⟩
  have hB : Below w.heap.size w W := by
    rw [hW]
    exact (((Below.refl _ _).alloc (Nat.le_refl _) _).alloc (by simp) _).alloc (by simp <;> omega) _ |>.alloc (by simp <;> omega) _
  have hWs : W.heap.size = w.heap.size + 1 + 1 + 1 + 1 := by rw [hW]; simp
  have b2 : W.heap[w.heap.size + 1 + 1]? = some (Obj.cells #[Value.string ⟨#[]⟩, Value.slice none 0 0] 24) := by
    rw [hW, Below.heap_alloc _ _ _ (by simp), show w.heap.size + 1 + 1 = ((w.alloc (Obj.cells #[Value.string s, Value.slice ka (flen k) cap] 24)).alloc (Obj.cells #[.int .i64 1, .slice pa d.path.length pc, .int .i64 d.pos, .int .i64 d.many, .string d.lab] 44)).heap.size by simp]
    exact heap_alloc_new _ _
  have b3 : W.heap[w.heap.size + 1 + 1 + 1]? = some (Obj.cells #[Value.string d.lab, Value.slice none 0 0] 24) := by
    rw [hW, show w.heap.size + 1 + 1 + 1 = (((w.alloc (Obj.cells #[Value.string s, Value.slice ka (flen k) cap] 24)).alloc (Obj.cells #[.int .i64 1, .slice pa d.path.length pc, .int .i64 d.pos, .int .i64 d.many, .string d.lab] 44)).alloc (Obj.cells #[Value.string ⟨#[]⟩, Value.slice none 0 0] 24)).heap.size by simp]
    exact heap_alloc_new _ _
  have HO := hide (ownListK_any k ka cap W hn (ht.kids.below hB))
  have HB := hide hB
  have HB2 := hide b2
  have HB3 := hide b3
  have HWS := hide hWs
  clear hB b2 b3 hWs ht
  go_enter Try.func45, Try.ntmps45
  go_wp2_with fail
  rw [← hW]
  clear hW
  refine Calls.mono HO.out ?_
  rintro e w5 ⟨va, vc, L, rfl, hK, hLk, hb5⟩
  have hws := HWS.out
  have c20 : w5.heap[w.heap.size + 1 + 1]? = some (Obj.cells #[Value.string ⟨#[]⟩, Value.slice none 0 0] 24) := by rw [hb5.block _ (by omega)]; exact HB2.out
  have c30 : w5.heap[w.heap.size + 1 + 1 + 1]? = some (Obj.cells #[Value.string d.lab, Value.slice none 0 0] 24) := by rw [hb5.block _ (by omega)]; exact HB3.out
  have q20 : w5.cell? ⟨w.heap.size + 1 + 1, 0, none⟩ = some (.string ⟨#[]⟩) := by rw [cell_of_row _ _ 0 _ _ _ c20]; rfl
  have q21 : w5.cell? ⟨w.heap.size + 1 + 1, 1, none⟩ = some (.slice none 0 0) := by rw [cell_of_row _ _ 1 _ _ _ c20]; rfl
  have q30 : w5.cell? ⟨w.heap.size + 1 + 1 + 1, 0, none⟩ = some (.string d.lab) := by rw [cell_of_row _ _ 0 _ _ _ c30]; rfl
  have q31 : w5.cell? ⟨w.heap.size + 1 + 1 + 1, 1, none⟩ = some (.slice none 0 0) := by rw [cell_of_row _ _ 1 _ _ _ c30]; rfl
  have f20 : w5.frozen? ⟨w.heap.size + 1 + 1, 0, none⟩ = false := by simp [World.frozen?, c20]
  have f21 : w5.frozen? ⟨w.heap.size + 1 + 1, 1, none⟩ = false := by simp [World.frozen?, c20]
  have f31 : w5.frozen? ⟨w.heap.size + 1 + 1 + 1, 1, none⟩ = false := by simp [World.frozen?, c30]
  have hz5 : w.heap.size + 1 + 1 + 1 + 1 ≤ w5.heap.size := by have := hb5.size; omega
  obtain ⟨ka', cap', k', hv, hst, hlc, hcm, hkin, hfr, hpl, _⟩ := hK.done2
  rw [hws] at hfr
  have HE := hide (show TIn w5 d.lab ka' cap' k' from ⟨hl, hlc, hcm, hkin⟩)
  have HS := hide (show strip k' = strip k by rw [hst, hLk, toFo_gs])
  have HFR := hide hfr
  have HPL := hide hpl
  have HB5 := hide (HB.out.trans (hb5.mono (by omega)))
  rw [hv]
  clear hK hLk hb5 hws c20 c30 hst hlc hcm hkin hfr hpl hv HO HB2 HB3 HWS
  go_wp2_with fail
  have o2 : FOff (w.heap.size + 1 + 1) k' := HFR.out.off (by omega)
  have o3 : FOff (w.heap.size + 1 + 1 + 1) k' := HFR.out.off (by omega)
  refine bodyPost_ret (v := .tuple #[.agg #[.string d.lab, .slice ka' (flen k') cap'], .int .i64 0]) (by simp [results, Try.results45, go_sem, *]) rfl ⟨d.lab, ka', cap', k', rfl, fun _ => ⟨rfl, HS.out, TIn.set (TIn.set (TIn.set HE.out o3) o2) o2, HFR.out.mono (by omega), FPlain.set (FPlain.set (FPlain.set HPL.out o3) o2) o2⟩, ?_⟩
  exact ((HB5.out.setCell (by simp <;> omega) _).setCell (by simp <;> omega) _).setCell (by simp <;> omega) _

theorem boxes4 (w : World) (o0 o1 o2 o3 : Obj) : ((((w.alloc o0).alloc o1).alloc o2).alloc o3).heap.size = w.heap.size + 1 + 1 + 1 + 1 ∧ Below w.heap.size w ((((w.alloc o0).alloc o1).alloc o2).alloc o3) ∧ ((((w.alloc o0).alloc o1).alloc o2).alloc o3).heap[w.heap.size]? = some o0 ∧ ((((w.alloc o0).alloc o1).alloc o2).alloc o3).heap[w.heap.size + 1]? = some o1 ∧ ((((w.alloc o0).alloc o1).alloc o2).alloc o3).heap[w.heap.size + 1 + 1]? = some o2 ∧ ((((w.alloc o0).alloc o1).alloc o2).alloc o3).heap[w.heap.size + 1 + 1 + 1]? = some o3 := by
  refine ⟨by simp, (((Below.refl _ _).alloc (Nat.le_refl _) _).alloc (by simp) _).alloc (by simp <;> omega) _ |>.alloc (by simp <;> omega) _, ?_, ?_, ?_, ?_⟩
  · rw [Below.heap_alloc _ _ _ (by simp <;> omega), Below.heap_alloc _ _ _ (by simp <;> omega), Below.heap_alloc _ _ _ (by simp)]
    exact heap_alloc_new _ _
  · rw [Below.heap_alloc _ _ _ (by simp <;> omega), Below.heap_alloc _ _ _ (by simp), show w.heap.size + 1 = (w.alloc o0).heap.size by simp]
    exact heap_alloc_new _ _
  · rw [Below.heap_alloc _ _ _ (by simp), show w.heap.size + 1 + 1 = ((w.alloc o0).alloc o1).heap.size by simp]
    exact heap_alloc_new _ _
  · rw [show w.heap.size + 1 + 1 + 1 = (((w.alloc o0).alloc o1).alloc o2).heap.size by simp]
    exact heap_alloc_new _ _
/-- A list of one's own and the trees of another one behind: append. -/
theorem append_K {B B2 : Nat} {w : World} {va va2 : Option Addr} {vc vc2 : Nat} {L L2 : List It} (h : KInv 24 B w (.slice va L.length vc) L) (h2 : KInv 24 B2 w (.slice va2 L2.length vc2) L2) (hB : B ≤ B2) (hlt : ∀ g, (Value.slice va L.length vc).ownBlock = some g → g < B2) (hBw : B ≤ w.heap.size) (hlen : L.length + L2.length ≤ 1000000) :
    ∃ va' vc' w', (Builtin.append_ #[22, 22] 22 #[.slice va L.length vc, .slice va2 L2.length vc2]).run Try.prog w = .ok (.slice va' (L ++ L2).length vc') w' ∧ KInv 24 B w' (.slice va' (L ++ L2).length vc') (L ++ L2) ∧ w.grownBy w' (Value.slice va L.length vc).ownBlock ∧ ((Value.slice va' (L ++ L2).length vc').ownBlock = (Value.slice va L.length vc).ownBlock ∨ ∀ g, (Value.slice va' (L ++ L2).length vc').ownBlock = some g → g = w.heap.size) := by
  obtain ⟨i24, hi24, hz0, hz1, hz2⟩ := info_parts Try.infoTree
  rcases Nat.eq_zero_or_pos L2.length with h0 | h0
  · have : L2 = [] := List.eq_nil_of_length_eq_zero h0
    subst this
    cases va2 with
    | none =>
      have hc : vc2 = 0 := by
        rcases h2.row.2 with ⟨e, _⟩ | ⟨g, c, cur, e, _⟩
        · injection e
        · injection e with e1; cases e1
      subst hc
      refine ⟨va, vc, w, ?_, by simpa using h, grownBy_refl _ _, Or.inl (by simp)⟩
      have := run_append_owned_none (P := Try.prog) (w := w) B 22 22 24 i24 2 Try.underlying22 hi24 (.slice va L.length vc) L.length (rowCells L) h.row
      simpa using this
    | some ad =>
      obtain ⟨v', w', hr, hown, hgrow, _, hat⟩ := run_append_own_at (P := Try.prog) w B 22 22 24 i24 _ 2 40 Try.underlying22 hi24 hz0 hz1 hz2 rfl (by decide) (.slice va L.length vc) L.length (rowCells L) h.row ad 0 vc2 [] rfl (fun j u hu => by simp at hu) (fun u hu => by simp at hu) (by unfold maxLen; omega) (by omega) hBw
      obtain ⟨va', vc', rfl, _, _⟩ := ownsN_form hown
      have hk : KInv 24 B w' (.slice va' (L ++ []).length vc') (L ++ []) := by
        simp only [List.append_nil]
        refine ⟨fun it hi => ?_, by simpa using hown⟩
        obtain ⟨e1, e2, e3, e4⟩ := h.each it hi
        refine ⟨?_, e2, ?_, fun g hg => ?_⟩
        · cases hv : (Value.slice va L.length vc).ownBlock with
          | none => exact TIn.but (g := w.heap.size) (fun b hlt _ => hgrow.block b hlt (by rw [hv]; simp)) (e1.kids.off (Nat.le_refl _)) e1
          | some g0 => exact TIn.but (g := g0) (fun b hlt hne => hgrow.block b hlt (by rw [hv]; simpa using hne)) (e4 g0 hv) e1
        · cases hv : (Value.slice va L.length vc).ownBlock with
          | none => exact FPlain.but (g := w.heap.size) (fun b hlt _ => hgrow.block b hlt (by rw [hv]; simp)) (e1.kids.off (Nat.le_refl _)) e3
          | some g0 => exact FPlain.but (g := g0) (fun b hlt hne => hgrow.block b hlt (by rw [hv]; simpa using hne)) (e4 g0 hv) e3
        · rcases hat with hat | hat
          · exact e4 g (hat.symm.trans hg)
          · have : some w.heap.size = some g := hat.symm.trans hg
            injection this with this
            exact e1.kids.off (by omega)
      refine ⟨va', vc', w', by simpa using hr, hk, hgrow, ?_⟩
      rcases hat with hat | hat
      · exact Or.inl (by simpa [Value.ownBlock] using hat)
      · exact Or.inr fun g hg => by
          have : some w.heap.size = some g := hat.symm.trans (by simpa [Value.ownBlock] using hg)
          injection this with this
          exact this.symm
  · obtain ⟨g2, c2, hv2, hg2, hg2l, _, _⟩ := ownsN_some h2.row h0
    rw [hv2]
    have hr2 := h2.row
    rw [hv2] at hr2
    obtain ⟨g, cap, w', hr, hown, hgrow, hat, _⟩ := run_append_lies (P := Try.prog) w 22 22 B 24 i24 _ 2 40 Try.underlying22 hi24 hz0 hz1 hz2 rfl (by decide) (.slice va L.length vc) L.length (rowCells L) h.row ⟨g2, 0, none⟩ L2.length c2 (rowCells L2) (rowCells_length L2) (fun j u hu => by
      have := ownsRow_cell hr2 j u hu
      by_cases e : j = 0
      · subst e
        simpa [Addr.add] using this
      · simpa [Addr.add, e] using this) (rowCells_one L2) h0 (by unfold maxLen; omega) (by omega) hBw w.heap.size rfl
    have hk := KInv.join h (fun it hi => ⟨(h2.each it hi).1, (h2.each it hi).2.1.mono hB, (h2.each it hi).2.2.1, fun g hg => (h2.each it hi).2.1.off (hlt g hg)⟩) hown hgrow hat
    refine ⟨some ⟨g, 0, none⟩, cap, w', by rw [List.length_append]; exact hr, by rw [List.length_append]; exact hk, hgrow, ?_⟩
    rcases hat with hat | hat
    · exact Or.inl hat.symm
    · refine Or.inr fun g' hg' => ?_
      simp only [Value.ownBlock, Option.some.injEq] at hg'
      omega

/-- Where a part of a list of kids begins. -/
def subA (ka : Option Addr) (cap i : Nat) : Option Addr := if cap = i then ka else ka.map (·.add (i * 2))
theorem KIn.part {w : World} {ka : Option Addr} {k : Fo} (h : KIn w ka k) (cap i n : Nat) (hl : flen k ≤ cap) : KIn w (subA ka cap i) (ftake n (fdrop i k)) := by
  rcases h with rfl | ⟨b, o, rfl, h⟩
  · left
    cases i <;> cases n <;> rfl
  · by_cases e : cap = i
    · left
      rw [fdrop_end i k (by omega)]
      cases n <;> rfl
    · right
      refine ⟨b, o + i * 2, ?_, FIn.take n (FIn.drop i h)⟩
      unfold subA
      rw [if_neg e]
      by_cases e2 : i = 0
      · subst e2
        simp [Addr.add]
      · have : ¬ i * 2 = 0 := by omega
        simp [Addr.add, this]
theorem slice_lh (ka : Option Addr) (len cap i j : Nat) (h1 : i ≤ j) (h2 : j ≤ cap) (w : World) : (Instr.slice 22 (.slice ka len cap) (some (.int .i64 (i : Int))) (some (.int .i64 (j : Int))) none).run Try.prog w = .ok (.slice (subA ka cap i) (j - i) (cap - i)) w := by
  rw [run_slice_lh w 22 _ _ _ Try.underlying22 .i64 .i64 (i : Int) (j : Int) (by omega) (by omega) (by omega)]
  simp only [sliced, Int.toNat_natCast]
  rfl
theorem slice_h (ka : Option Addr) (len cap j : Nat) (h2 : j ≤ cap) (w : World) : (Instr.slice 22 (.slice ka len cap) none (some (.int .i64 (j : Int))) none).run Try.prog w = .ok (.slice (subA ka cap 0) j cap) w := by
  rw [run_slice_h w 22 _ _ _ Try.underlying22 .i64 (j : Int) (by omega) (by omega)]
  simp only [sliced, Int.toNat_natCast]
  rfl
theorem slice_l (ka : Option Addr) (len cap i : Nat) (h2 : i ≤ len) (w : World) : (Instr.slice 22 (.slice ka len cap) (some (.int .i64 (i : Int))) none none).run Try.prog w = .ok (.slice (subA ka cap i) (len - i) (cap - i)) w := by
  rw [run_slice_l w 22 _ _ _ Try.underlying22 .i64 (i : Int) (by omega) (by omega)]
  simp only [sliced, Int.toNat_natCast]
  rfl

theorem cellA {w : World} {a : Addr} {v : Value} (h : w.cell? a = some v) (o : Obj) : (w.alloc o).cell? a = some v := by rw [World.cell?_alloc_some _ _ _ (by rw [h]; rfl)]; exact h
theorem cellS {w : World} {a b : Addr} {v u : Value} (h : w.cell? a = some v) (hb : a.block ≠ b.block) : (w.setCell b u).cell? a = some v := by
  rw [World.cell?_of_block (w := w) (blk_setCell_other _ _ _ _ hb)]
  exact h

end Go.Proofs.Ytpgiagkbfnbgkab.Deed
