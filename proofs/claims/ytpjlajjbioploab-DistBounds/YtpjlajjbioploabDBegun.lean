/- pleachinglaw.distBegun answers true. Of the program's text. -/
import Derived.Test.YtpjlajjbioploabProg
import Derived.Test.YtpjlajjbioploabDNodes
import Derived.Test.YtpjlajjbioploabCheck
namespace Go.Proofs.Ytpjlajjbioploab.Dist
open Go.Deep Go.RowKit
set_option linter.unusedVariables false
set_option maxRecDepth 20000

def daK : Fo := .node 0 0 (⟨#[98]⟩, none, 0) (.node 0 0 (⟨#[99]⟩, none, 0) .nil .nil) .nil
def dbK : Fo := .node 0 0 (⟨#[99]⟩, none, 0) .nil (.node 0 0 (⟨#[100]⟩, none, 0) .nil .nil)
def daF (n : Nat) : Fo := .node (n + 1) 0 (⟨#[98]⟩, some ⟨n, 0, none⟩, 1) (.node n 0 (⟨#[99]⟩, none, 0) .nil .nil) .nil
def dbF (n : Nat) : Fo := .node (n + 1 + 1 + 1) 0 (⟨#[99]⟩, none, 0) .nil (.node (n + 1 + 1 + 1) 2 (⟨#[100]⟩, none, 0) .nil .nil)
def daL : List Nd := [⟨⟨#[99]⟩, 1, 0⟩, ⟨⟨#[98]⟩, 2, 0⟩, ⟨⟨#[97]⟩, -1, 0⟩]
def dbL : List Nd := [⟨⟨#[99]⟩, 2, 0⟩, ⟨⟨#[100]⟩, 2, 1⟩, ⟨⟨#[97]⟩, -1, 0⟩]
theorem daK_fault : faultT ⟨#[97]⟩ daK = 0 := by kernel_rfl
theorem dbK_fault : faultT ⟨#[97]⟩ dbK = 0 := by kernel_rfl
theorem daF_fault (n : Nat) : faultT ⟨#[97]⟩ (daF n) = 0 := by rw [← faultT_strip, show strip (daF n) = daK from rfl]; exact daK_fault
theorem dbF_fault (n : Nat) : faultT ⟨#[97]⟩ (dbF n) = 0 := by rw [← faultT_strip, show strip (dbF n) = dbK from rfl]; exact dbK_fault
theorem daF_nd (n : Nat) : ndT 0 ⟨#[97]⟩ (daF n) (-1) = daL := by rw [← ndT_strip]; rfl
theorem dbF_nd (n : Nat) : ndT 0 ⟨#[97]⟩ (dbF n) (-1) = dbL := by rw [← ndT_strip]; rfl
theorem dab_cost : costP daL dbL = 2 := by kernel_rfl
theorem dab_best : (bestP daL dbL).length = 2 := by kernel_rfl
theorem dab_pair : TD daL dbL 0 0 = 0 := by kernel_rfl

set_option maxHeartbeats 1000000 in
theorem dbegun_any (w : World) : Calls Try.prog 5 #[] w fun e w' => e = .returned (.bool true) ∧ Below w.heap.size w w' := by
  obtain ⟨W, hW⟩ : ∃ W, W = ((((w.alloc (Obj.cells #[Value.string ⟨#[99]⟩, Value.slice none 0 0] 24)).alloc (Obj.cells #[Value.string ⟨#[98]⟩, Value.slice (some ⟨w.heap.size, 0, none⟩) 1 1] 24)).alloc (Obj.cells #[Value.string ⟨#[97]⟩, Value.slice (some ⟨w.heap.size + 1, 0, none⟩) 1 1] 24)).alloc (Obj.cells #[Value.string ⟨#[99]⟩, Value.slice none 0 0, Value.string ⟨#[100]⟩, Value.slice none 0 0] 24)).alloc (Obj.cells #[Value.string ⟨#[97]⟩, Value.slice (some ⟨w.heap.size + 1 + 1 + 1, 0, none⟩) 2 2] 24) := ⟨_, rfl⟩
  have hB : Below w.heap.size w W := by
    rw [hW]
    exact ((((Below.refl _ _).alloc (Nat.le_refl _) _).alloc (by simp) _).alloc (by simp <;> omega) _).alloc (by simp <;> omega) _ |>.alloc (by simp <;> omega) _
  have h0 : W.heap[w.heap.size]? = some (Obj.cells #[Value.string ⟨#[99]⟩, Value.slice none 0 0] 24) := by
    rw [hW, Below.heap_alloc _ _ _ (by simp <;> omega), Below.heap_alloc _ _ _ (by simp <;> omega), Below.heap_alloc _ _ _ (by simp <;> omega), Below.heap_alloc _ _ _ (by simp)]
    exact heap_alloc_new _ _
  have h1 : W.heap[w.heap.size + 1]? = some (Obj.cells #[Value.string ⟨#[98]⟩, Value.slice (some ⟨w.heap.size, 0, none⟩) 1 1] 24) := by
    rw [hW, Below.heap_alloc _ _ _ (by simp <;> omega), Below.heap_alloc _ _ _ (by simp <;> omega), Below.heap_alloc _ _ _ (by simp), show w.heap.size + 1 = (w.alloc (Obj.cells #[Value.string ⟨#[99]⟩, Value.slice none 0 0] 24)).heap.size by simp]
    exact heap_alloc_new _ _
  have h3 : W.heap[w.heap.size + 1 + 1 + 1]? = some (Obj.cells #[Value.string ⟨#[99]⟩, Value.slice none 0 0, Value.string ⟨#[100]⟩, Value.slice none 0 0] 24) := by
    rw [hW, Below.heap_alloc _ _ _ (by simp), show w.heap.size + 1 + 1 + 1 = (((w.alloc (Obj.cells #[Value.string ⟨#[99]⟩, Value.slice none 0 0] 24)).alloc (Obj.cells #[Value.string ⟨#[98]⟩, Value.slice (some ⟨w.heap.size, 0, none⟩) 1 1] 24)).alloc (Obj.cells #[Value.string ⟨#[97]⟩, Value.slice (some ⟨w.heap.size + 1, 0, none⟩) 1 1] 24)).heap.size by simp]
    exact heap_alloc_new _ _
  have hsz : ∀ c : UInt8, (⟨#[c]⟩ : ByteArray).size ≤ maxLen := fun c => by show 1 ≤ maxLen; unfold maxLen; omega
  have m0 : 0 ≤ maxLen := Nat.zero_le _
  have m1 : 1 ≤ maxLen := by unfold maxLen; omega
  have m2 : 2 ≤ maxLen := by unfold maxLen; omega
  have hTA : TIn W ⟨#[97]⟩ (some ⟨w.heap.size + 1, 0, none⟩) 1 (daF w.heap.size) := by
    refine ⟨hsz _, Nat.le_refl 1, m1, Or.inr ⟨w.heap.size + 1, 0, rfl, ?_⟩⟩
    refine ⟨rfl, rfl, by rw [cell_of_row _ _ 0 _ _ _ h1]; rfl, by rw [cell_of_row _ _ 1 _ _ _ h1]; rfl, hsz _, Nat.le_refl 1, m1, Or.inr ⟨w.heap.size, 0, rfl, ?_⟩, trivial⟩
    exact ⟨rfl, rfl, by rw [cell_of_row _ _ 0 _ _ _ h0]; rfl, by rw [cell_of_row _ _ 1 _ _ _ h0]; rfl, hsz _, Nat.le_refl 0, m0, Or.inl rfl, trivial⟩
  have hPA : FPlain W (daF w.heap.size) := ⟨⟨_, _, h1⟩, ⟨⟨_, _, h0⟩, trivial, trivial⟩, trivial⟩
  have hTB : TIn W ⟨#[97]⟩ (some ⟨w.heap.size + 1 + 1 + 1, 0, none⟩) 2 (dbF w.heap.size) := by
    refine ⟨hsz _, Nat.le_refl 2, m2, Or.inr ⟨w.heap.size + 1 + 1 + 1, 0, rfl, ?_⟩⟩
    refine ⟨rfl, rfl, by rw [cell_of_row _ _ 0 _ _ _ h3]; rfl, by rw [cell_of_row _ _ 1 _ _ _ h3]; rfl, hsz _, Nat.le_refl 0, m0, Or.inl rfl, ?_⟩
    exact ⟨rfl, rfl, by rw [cell_of_row _ _ 2 _ _ _ h3]; rfl, by rw [cell_of_row _ _ 3 _ _ _ h3]; rfl, hsz _, Nat.le_refl 0, m0, Or.inl rfl, trivial⟩
  have hPB : FPlain W (dbF w.heap.size) := ⟨⟨_, _, h3⟩, trivial, ⟨⟨_, _, h3⟩, trivial, trivial⟩⟩
  have hof := distof_of (fun c => c = faultT ⟨#[97]⟩ (daF w.heap.size)) (fun c => c = faultT ⟨#[97]⟩ (dbF w.heap.size)) ⟨#[97]⟩ ⟨#[97]⟩ (some ⟨w.heap.size + 1, 0, none⟩) (some ⟨w.heap.size + 1 + 1 + 1, 0, none⟩) 1 2 (daF w.heap.size) (dbF w.heap.size) W (fun h => h.symm) (fun h => h.symm)
    (fun W1 hW1 => of_of _ _ _ _ _ W1 (hTA.below hW1) (fun h => h.symm) fun W' hW' => (check_any _ _ _ _ W' ((hTA.below hW1).below hW') ((hPA.below hW1).below hW') (by show 1 + 2 ≤ 200; omega)).mono fun e w' ⟨he, hb⟩ => ⟨⟨_, rfl, he⟩, hb⟩)
    (fun W1 hW1 => of_of _ _ _ _ _ W1 (hTB.below hW1) (fun h => h.symm) fun W' hW' => (check_any _ _ _ _ W' ((hTB.below hW1).below hW') ((hPB.below hW1).below hW') (by show 1 + 2 ≤ 200; omega)).mono fun e w' ⟨he, hb⟩ => ⟨⟨_, rfl, he⟩, hb⟩)
  rw [daF_nd, dbF_nd] at hof
  have HOF := hide hof
  have HW := hide hB
  clear hof hTA hTB hPA hPB h0 h1 h3 hsz hB m0 m1 m2
  go_enter Try.func5, Try.ntmps5
  go_wp2_with fail
  rw [← hW]
  clear hW
  refine Calls.mono HOF.out ?_
  rintro e w2 ⟨hoe, hb2⟩
  rcases hoe with ⟨c, hc, hc0, _⟩ | ⟨_, _, T, hTA, hTB, rfl, htab⟩
  · rw [daF_fault, dbF_fault] at hc
    rcases hc with hc | ⟨_, hc⟩ <;> exact absurd hc hc0
  have htab' : TabIn w2 T (TD T.A T.B) := by rw [hTA, hTB]; exact htab
  have HB2 := hide (HW.out.trans (hb2.mono HW.out.size))
  have hco := cost_any T w2 htab'
  rw [hTA, hTB, dab_cost] at hco
  have HCO := hide hco
  have HTB := hide htab'
  have HA := hide hTA
  have HBB := hide hTB
  clear hco htab htab' hTA hTB hb2 HOF HW
  go_wp2_with fail
  refine Calls.mono HCO.out ?_
  rintro e w3 ⟨rfl, hb3⟩
  have htab3 := HTB.out.below hb3
  have hbe := dbest_any T w3 htab3
  have HB3 := hide (HB2.out.trans (hb3.mono HB2.out.size))
  have HBE := hide hbe
  have HT3 := hide htab3
  clear hbe htab3 hb3 HCO HTB
  go_wp2_with fail
  refine Calls.mono HBE.out ?_
  rintro e w4 ⟨v, rfl, hrow, hb4⟩
  have hlen : (bestP T.A T.B).length = 2 := by rw [HA.out, HBB.out]; exact dab_best
  rw [hlen] at hrow
  obtain ⟨va, vc, rfl, hvl, hvm⟩ := ownsN_form hrow
  have hT4 := HT3.out.below hb4
  have hp := pair_any T _ 0 0 w4 hT4 hT4.okA.pos hT4.okB.pos
  rw [HA.out, HBB.out, dab_pair] at hp
  have HP := hide hp
  have HQ := hide (pair_neg T _ (-1) 0 w4 hT4 (by decide))
  have HB4 := hide (HB3.out.trans (hb4.mono HB3.out.size))
  clear hp hrow hb4 hT4 hlen HBE HT3
  go_wp2_with fail
  refine Calls.mono HP.out ?_
  rintro e w5 ⟨rfl, rfl⟩
  go_wp2_with fail
  refine Calls.mono HQ.out ?_
  rintro e w5 ⟨rfl, rfl⟩
  go_wp2_with fail
  go_ret
  exact ⟨rfl, HB4.out⟩
end Go.Proofs.Ytpjlajjbioploab.Dist
