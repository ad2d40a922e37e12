/- Do of package deed, where the tree is none, or the deed is none. Of the program's text. -/
/- Do of package deed, whatever the tree and the deed. Of the program's text. -/
/- Trees that are the same but for where they lie, and trees that are not great. Of no program. -/
/- pleachinglaw.deedBegun answers true. Of the program's text. -/
import Derived.Test.YtpgiagkbfnbgkabGBad
import Derived.Test.YtpgiagkbfnbgkabGChk
import Derived.Test.YtpgiagkbfnbgkabCheck
import Derived.Test.YtpgiagkbfnbgkabGMem
import Derived.Test.YtpgiagkbfnbgkabGRem
import Derived.Test.YtpgiagkbfnbgkabGOwnL
import Derived.Deep.RegionHeld3
import Derived.Test.YtpgiagkbfnbgkabGSame
import Derived.Test.YtpgiagkbfnbgkabFault
namespace Go.Proofs.Ytpgiagkbfnbgkab.Deed
open Go.Deep Go.RowKit
set_option linter.unusedVariables false
set_option maxRecDepth 20000

set_option maxHeartbeats 2000000 in
theorem pdo_bad1 (d : Dd) (s : ByteArray) (ka : Option Addr) (cap : Nat) (k : Fo) (pa : Option Addr) (pc : Nat) (w : World) (ht : TIn w s ka cap k) (hp : FPlain w k) (hn : 1 + fnodes k ≤ 200) (h : faultT s k ≠ 0) :
    Calls Try.prog 20 #[.agg #[.string s, .slice ka (flen k) cap], ddV d pa pc] w (DoEnd (doP d s k) w) := by
  unfold doP
  rw [if_pos h]
  unfold ddV
  obtain ⟨c, hc⟩ : ∃ c, c = faultT s k := ⟨_, rfl⟩
  have hb : (c == 0) = false := beq_eq_false_iff_ne.2 (by rw [hc]; exact h)
  have hb2 : (c != 0) = true := by simp [bne, hb]
  rw [← hc]
  obtain ⟨W, hW⟩ : ∃ W, W = (((w.alloc (Obj.cells #[Value.string s, Value.slice ka (flen k) cap] 24)).alloc (Obj.cells #[.int .i64 d.kind, .slice pa d.path.length pc, .int .i64 d.pos, .int .i64 d.many, .string d.lab] 44)).alloc (Obj.cells #[Value.string ⟨#[]⟩, Value.slice none 0 0] 24)).alloc (Obj.cells #[.int .i64 0, .slice none 0 0, .int .i64 0, .int .i64 0, .string ⟨#[]⟩] 44) := ⟨_, rfl⟩
  obtain ⟨hWs, hB, c0, c1, c2, c3⟩ := boxes4 w (Obj.cells #[Value.string s, Value.slice ka (flen k) cap] 24) (Obj.cells #[.int .i64 d.kind, .slice pa d.path.length pc, .int .i64 d.pos, .int .i64 d.many, .string d.lab] 44) (Obj.cells #[Value.string ⟨#[]⟩, Value.slice none 0 0] 24) (Obj.cells #[.int .i64 0, .slice none 0 0, .int .i64 0, .int .i64 0, .string ⟨#[]⟩] 44)
  rw [← hW] at hWs hB c0 c1 c2 c3
  have HF := hide (check_any s ka cap k W (ht.below hB) (hp.below hB) hn)
  have HC := hide (And.intro hWs (And.intro hB (And.intro c2 c3)))
  rw [← hc] at HF
  clear hWs hB c0 c1 c2 c3 ht hp hn h hc
  go_enter Try.func20, Try.ntmps20
  go_wp2_with fail
  rw [← hW]
  clear hW
  refine Calls.mono HF.out ?_
  rintro e w1 ⟨rfl, hb1⟩
  have hws := HC.out.1
  have e2 : w1.heap[w.heap.size + 1 + 1]? = _ := (hb1.block _ (by omega)).trans HC.out.2.2.1
  have e3 : w1.heap[w.heap.size + 1 + 1 + 1]? = _ := (hb1.block _ (by omega)).trans HC.out.2.2.2
  have q20 : w1.cell? ⟨w.heap.size + 1 + 1, 0, none⟩ = some (.string ⟨#[]⟩) := by rw [cell_of_row _ _ 0 _ _ _ e2]; rfl
  have q21 : w1.cell? ⟨w.heap.size + 1 + 1, 1, none⟩ = some (.slice none 0 0) := by rw [cell_of_row _ _ 1 _ _ _ e2]; rfl
  have f2 : ∀ o, w1.frozen? ⟨w.heap.size + 1 + 1, o, none⟩ = false := fun o => by simp [World.frozen?, e2]
  have f3 : ∀ o, w1.frozen? ⟨w.heap.size + 1 + 1 + 1, o, none⟩ = false := fun o => by simp [World.frozen?, e3]
  have q30 : w1.cell? ⟨w.heap.size + 1 + 1 + 1, 0, none⟩ = some (.int .i64 0) := by rw [cell_of_row _ _ 0 _ _ _ e3]; rfl
  have q31 : w1.cell? ⟨w.heap.size + 1 + 1 + 1, 1, none⟩ = some (.slice none 0 0) := by rw [cell_of_row _ _ 1 _ _ _ e3]; rfl
  have q32 : w1.cell? ⟨w.heap.size + 1 + 1 + 1, 2, none⟩ = some (.int .i64 0) := by rw [cell_of_row _ _ 2 _ _ _ e3]; rfl
  have q33 : w1.cell? ⟨w.heap.size + 1 + 1 + 1, 3, none⟩ = some (.int .i64 0) := by rw [cell_of_row _ _ 3 _ _ _ e3]; rfl
  have q34 : w1.cell? ⟨w.heap.size + 1 + 1 + 1, 4, none⟩ = some (.string ⟨#[]⟩) := by rw [cell_of_row _ _ 4 _ _ _ e3]; rfl
  have HB := hide (HC.out.2.1.trans (hb1.mono (by omega)))
  clear e2 e3 hb1 hws HC HF
  go_wp2_with fail
  refine bodyPost_ret (v := .tuple #[.agg #[.string ⟨#[]⟩, .slice none 0 0], .agg #[.int .i64 0, .slice none 0 0, .int .i64 0, .int .i64 0, .string ⟨#[]⟩], .int .i64 c]) (by simp [results, Try.results20, go_sem, *]) rfl (DoEnd.bad ?_)
  exact ((((((HB.out.setCell (by simp only; omega) _).setCell (by simp only; omega) _).setCell (by simp only; omega) _).setCell (by simp only; omega) _).setCell (by simp only; omega) _).setCell (by simp only; omega) _).setCell (by simp only; omega) _

set_option maxHeartbeats 2000000 in
theorem pdo_bad2 (d : Dd) (s : ByteArray) (ka : Option Addr) (cap : Nat) (k : Fo) (pa : Option Addr) (pc : Nat) (w : World) (ht : TIn w s ka cap k) (hp : FPlain w k) (hn : 1 + fnodes k ≤ 200) (hd : DIn w d pa pc) (h1 : faultT s k = 0) (h : deedFault d ≠ 0) :
    Calls Try.prog 20 #[.agg #[.string s, .slice ka (flen k) cap], ddV d pa pc] w (DoEnd (doP d s k) w) := by
  unfold doP
  rw [if_neg (fun h' => h' h1), if_pos h]
  obtain ⟨c, hc⟩ : ∃ c, c = deedFault d := ⟨_, rfl⟩
  have hb : (c == 0) = false := beq_eq_false_iff_ne.2 (by rw [hc]; exact h)
  have hb2 : (c != 0) = true := by simp [bne, hb]
  rw [← hc]
  obtain ⟨W, hW⟩ : ∃ W, W = (((w.alloc (Obj.cells #[Value.string s, Value.slice ka (flen k) cap] 24)).alloc (Obj.cells #[.int .i64 d.kind, .slice pa d.path.length pc, .int .i64 d.pos, .int .i64 d.many, .string d.lab] 44)).alloc (Obj.cells #[Value.string ⟨#[]⟩, Value.slice none 0 0] 24)).alloc (Obj.cells #[.int .i64 0, .slice none 0 0, .int .i64 0, .int .i64 0, .string ⟨#[]⟩] 44) := ⟨_, rfl⟩
  obtain ⟨hWs, hB, c0, c1, c2, c3⟩ := boxes4 w (Obj.cells #[Value.string s, Value.slice ka (flen k) cap] 24) (Obj.cells #[.int .i64 d.kind, .slice pa d.path.length pc, .int .i64 d.pos, .int .i64 d.many, .string d.lab] 44) (Obj.cells #[Value.string ⟨#[]⟩, Value.slice none 0 0] 24) (Obj.cells #[.int .i64 0, .slice none 0 0, .int .i64 0, .int .i64 0, .string ⟨#[]⟩] 44)
  rw [← hW] at hWs hB c0 c1 c2 c3
  have hf := check_any s ka cap k W (ht.below hB) (hp.below hB) hn
  rw [h1] at hf
  have HF := hide hf
  have hD : ∀ W', Below W.heap.size W W' → Calls Try.prog 22 #[ddV d pa pc] W' fun e w' => e = .returned (.int .i64 c) ∧ Below W'.heap.size W' w' := fun W' h => by
    rw [hc]
    exact dcheck_any d pa pc W' (hd.below (hB.trans (h.mono (by omega))))
  unfold ddV at hD
  have HD := hide hD
  have HC := hide (And.intro hWs (And.intro hB (And.intro c1 (And.intro c2 c3))))
  clear hWs hB c0 c1 c2 c3 ht hp hn h hc hf hD hd h1
  unfold ddV
  go_enter Try.func20, Try.ntmps20
  go_wp2_with fail
  rw [← hW]
  clear hW
  refine Calls.mono HF.out ?_
  rintro e w1 ⟨rfl, hb1⟩
  have hws := HC.out.1
  have e1 : w1.heap[w.heap.size + 1]? = _ := (hb1.block _ (by omega)).trans HC.out.2.2.1
  have d0 : w1.cell? ⟨w.heap.size + 1, 0, none⟩ = some (.int .i64 d.kind) := by rw [cell_of_row _ _ 0 _ _ _ e1]; rfl
  have d1 : w1.cell? ⟨w.heap.size + 1, 1, none⟩ = some (.slice pa d.path.length pc) := by rw [cell_of_row _ _ 1 _ _ _ e1]; rfl
  have d2 : w1.cell? ⟨w.heap.size + 1, 2, none⟩ = some (.int .i64 d.pos) := by rw [cell_of_row _ _ 2 _ _ _ e1]; rfl
  have d3 : w1.cell? ⟨w.heap.size + 1, 3, none⟩ = some (.int .i64 d.many) := by rw [cell_of_row _ _ 3 _ _ _ e1]; rfl
  have d4 : w1.cell? ⟨w.heap.size + 1, 4, none⟩ = some (.string d.lab) := by rw [cell_of_row _ _ 4 _ _ _ e1]; rfl
  have HB1 := hide hb1
  clear e1 hb1 hws HF
  go_wp2_with fail
  refine Calls.mono (HD.out _ HB1.out) ?_
  rintro e w2 ⟨rfl, hb2'⟩
  have hb12 : Below W.heap.size W w2 := HB1.out.trans (hb2'.mono HB1.out.size)
  have hws := HC.out.1
  have e2 : w2.heap[w.heap.size + 1 + 1]? = _ := (hb12.block _ (by omega)).trans HC.out.2.2.2.1
  have e3 : w2.heap[w.heap.size + 1 + 1 + 1]? = _ := (hb12.block _ (by omega)).trans HC.out.2.2.2.2
  have q20 : w2.cell? ⟨w.heap.size + 1 + 1, 0, none⟩ = some (.string ⟨#[]⟩) := by rw [cell_of_row _ _ 0 _ _ _ e2]; rfl
  have q21 : w2.cell? ⟨w.heap.size + 1 + 1, 1, none⟩ = some (.slice none 0 0) := by rw [cell_of_row _ _ 1 _ _ _ e2]; rfl
  have f2 : ∀ o, w2.frozen? ⟨w.heap.size + 1 + 1, o, none⟩ = false := fun o => by simp [World.frozen?, e2]
  have f3 : ∀ o, w2.frozen? ⟨w.heap.size + 1 + 1 + 1, o, none⟩ = false := fun o => by simp [World.frozen?, e3]
  have q30 : w2.cell? ⟨w.heap.size + 1 + 1 + 1, 0, none⟩ = some (.int .i64 0) := by rw [cell_of_row _ _ 0 _ _ _ e3]; rfl
  have q31 : w2.cell? ⟨w.heap.size + 1 + 1 + 1, 1, none⟩ = some (.slice none 0 0) := by rw [cell_of_row _ _ 1 _ _ _ e3]; rfl
  have q32 : w2.cell? ⟨w.heap.size + 1 + 1 + 1, 2, none⟩ = some (.int .i64 0) := by rw [cell_of_row _ _ 2 _ _ _ e3]; rfl
  have q33 : w2.cell? ⟨w.heap.size + 1 + 1 + 1, 3, none⟩ = some (.int .i64 0) := by rw [cell_of_row _ _ 3 _ _ _ e3]; rfl
  have q34 : w2.cell? ⟨w.heap.size + 1 + 1 + 1, 4, none⟩ = some (.string ⟨#[]⟩) := by rw [cell_of_row _ _ 4 _ _ _ e3]; rfl
  have HB := hide (HC.out.2.1.trans (hb12.mono (by omega)))
  clear e2 e3 hb12 hb2' hws HC HD HB1 d0 d1 d2 d3 d4
  go_wp2_with fail
  refine bodyPost_ret (v := .tuple #[.agg #[.string ⟨#[]⟩, .slice none 0 0], .agg #[.int .i64 0, .slice none 0 0, .int .i64 0, .int .i64 0, .string ⟨#[]⟩], .int .i64 c]) (by simp [results, Try.results20, go_sem, *]) rfl (DoEnd.bad ?_)
  exact ((((((HB.out.setCell (by simp only; omega) _).setCell (by simp only; omega) _).setCell (by simp only; omega) _).setCell (by simp only; omega) _).setCell (by simp only; omega) _).setCell (by simp only; omega) _).setCell (by simp only; omega) _

end Go.Proofs.Ytpgiagkbfnbgkab.Deed
namespace Go.Proofs.Ytpgiagkbfnbgkab.Deed
open Go.Deep Go.RowKit
set_option linter.unusedVariables false
set_option maxRecDepth 20000

set_option maxHeartbeats 4000000 in
theorem pdo_rest (d : Dd) (s : ByteArray) (ka : Option Addr) (cap : Nat) (k : Fo) (pa : Option Addr) (pc : Nat) (w : World) (ht : TIn w s ka cap k) (hp : FPlain w k) (hn : 1 + fnodes k ≤ 200) (hs : s.size ≤ 1000) (hsm : SmallF k) (hd : DIn w d pa pc) (hpl : d.path.length ≤ 60) (hdl : d.lab.size ≤ 100) (h1 : faultT s k = 0) (h2 : deedFault d = 0) :
    Calls Try.prog 20 #[.agg #[.string s, .slice ka (flen k) cap], ddV d pa pc] w (DoEndN (d.kind = 3 ∧ d.path = []) (doP d s k) w) := by
  obtain ⟨W, hW⟩ : ∃ W, W = (((w.alloc (Obj.cells #[Value.string s, Value.slice ka (flen k) cap] 24)).alloc (Obj.cells #[.int .i64 d.kind, .slice pa d.path.length pc, .int .i64 d.pos, .int .i64 d.many, .string d.lab] 44)).alloc (Obj.cells #[Value.string ⟨#[]⟩, Value.slice none 0 0] 24)).alloc (Obj.cells #[.int .i64 0, .slice none 0 0, .int .i64 0, .int .i64 0, .string ⟨#[]⟩] 44) := ⟨_, rfl⟩
  obtain ⟨hWs, hB, c0, c1, c2, c3⟩ := boxes4 w (Obj.cells #[Value.string s, Value.slice ka (flen k) cap] 24) (Obj.cells #[.int .i64 d.kind, .slice pa d.path.length pc, .int .i64 d.pos, .int .i64 d.many, .string d.lab] 44) (Obj.cells #[Value.string ⟨#[]⟩, Value.slice none 0 0] 24) (Obj.cells #[.int .i64 0, .slice none 0 0, .int .i64 0, .int .i64 0, .string ⟨#[]⟩] 44)
  rw [← hW] at hWs hB c0 c1 c2 c3
  have hf := check_any s ka cap k W (ht.below hB) (hp.below hB) hn
  rw [h1] at hf
  have HF := hide hf
  have hD : ∀ W', Below W.heap.size W W' → Calls Try.prog 22 #[ddV d pa pc] W' fun e w' => e = .returned (.int .i64 0) ∧ Below W'.heap.size W' w' := fun W' h => by
    rw [← h2]
    exact dcheck_any d pa pc W' (hd.below (hB.trans (h.mono (by omega))))
  unfold ddV at hD
  have HD := hide hD
  have hO : ∀ W', Below W.heap.size W W' → Calls Try.prog 43 #[.agg #[.string s, .slice ka (flen k) cap]] W' _ := fun W' h => own_nd s ka cap k W' (ht.below (hB.trans (h.mono (by omega)))) (hp.below (hB.trans (h.mono (by omega)))) hn hs hsm
  have HO := hide hO
  have HC := hide (And.intro hB (And.intro c0 (And.intro c1 (And.intro c2 c3))))
  have HX := hide (And.intro hd (And.intro h1 h2))
  clear hB c0 c1 c2 c3 ht hp hf hD hd h1 h2 hO
  unfold ddV
  go_enter Try.func20, Try.ntmps20
  go_wp2_with fail
  rw [← hW]
  clear hW
  refine Calls.mono HF.out ?_
  rintro e w1 ⟨rfl, hb1⟩
  have e1 : w1.heap[w.heap.size + 1]? = _ := (hb1.block _ (by omega)).trans HC.out.2.2.1
  have d0 : w1.cell? ⟨w.heap.size + 1, 0, none⟩ = some (.int .i64 d.kind) := by rw [cell_of_row _ _ 0 _ _ _ e1]; rfl
  have d1 : w1.cell? ⟨w.heap.size + 1, 1, none⟩ = some (.slice pa d.path.length pc) := by rw [cell_of_row _ _ 1 _ _ _ e1]; rfl
  have d2 : w1.cell? ⟨w.heap.size + 1, 2, none⟩ = some (.int .i64 d.pos) := by rw [cell_of_row _ _ 2 _ _ _ e1]; rfl
  have d3 : w1.cell? ⟨w.heap.size + 1, 3, none⟩ = some (.int .i64 d.many) := by rw [cell_of_row _ _ 3 _ _ _ e1]; rfl
  have d4 : w1.cell? ⟨w.heap.size + 1, 4, none⟩ = some (.string d.lab) := by rw [cell_of_row _ _ 4 _ _ _ e1]; rfl
  have HB1 := hide hb1
  clear e1 hb1 HF
  go_wp2_with fail
  refine Calls.mono (HD.out _ HB1.out) ?_
  rintro e w2 ⟨rfl, hb2'⟩
  have hb2 : Below W.heap.size W w2 := HB1.out.trans (hb2'.mono HB1.out.size)
  have e0 : w2.heap[w.heap.size]? = _ := (hb2.block _ (by omega)).trans HC.out.2.1
  have a0 : w2.cell? ⟨w.heap.size, 0, none⟩ = some (.string s) := by rw [cell_of_row _ _ 0 _ _ _ e0]; rfl
  have a1 : w2.cell? ⟨w.heap.size, 1, none⟩ = some (.slice ka (flen k) cap) := by rw [cell_of_row _ _ 1 _ _ _ e0]; rfl
  have HB2 := hide hb2
  clear e0 hb2' hb2 d0 d1 d2 d3 d4 HD HB1
  go_wp2_with fail
  refine Calls.mono (HO.out _ HB2.out) ?_
  rintro e w3 ⟨ka', cap', k', rfl, hst, htk, hfr, hpk, hnd, hb3'⟩
  have hb3 : Below W.heap.size W w3 := HB2.out.trans (hb3'.mono HB2.out.size)
  have s2 := HB2.out.size
  have s3 := hb3.size
  obtain ⟨V, hV⟩ : ∃ V, V = w3.alloc (Obj.cells #[Value.string s, Value.slice ka' (flen k') cap'] 24) := ⟨_, rfl⟩
  have bV : Below W.heap.size W V := by rw [hV]; exact hb3.alloc s3 _
  have b3V : Below w3.heap.size w3 V := by rw [hV]; exact (Below.refl _ _).alloc (Nat.le_refl _) _
  have sV : V.heap.size = w3.heap.size + 1 := by rw [hV]; simp
  have nV : V.heap[w3.heap.size]? = some (Obj.cells #[Value.string s, Value.slice ka' (flen k') cap'] 24) := by rw [hV]; exact heap_alloc_new _ _
  have e1 : V.heap[w.heap.size + 1]? = _ := (bV.block _ (by omega)).trans HC.out.2.2.1
  have d0 : V.cell? ⟨w.heap.size + 1, 0, none⟩ = some (.int .i64 d.kind) := by rw [cell_of_row _ _ 0 _ _ _ e1]; rfl
  have d1 : V.cell? ⟨w.heap.size + 1, 1, none⟩ = some (.slice pa d.path.length pc) := by rw [cell_of_row _ _ 1 _ _ _ e1]; rfl
  have d2 : V.cell? ⟨w.heap.size + 1, 2, none⟩ = some (.int .i64 d.pos) := by rw [cell_of_row _ _ 2 _ _ _ e1]; rfl
  have d3 : V.cell? ⟨w.heap.size + 1, 3, none⟩ = some (.int .i64 d.many) := by rw [cell_of_row _ _ 3 _ _ _ e1]; rfl
  have d4 : V.cell? ⟨w.heap.size + 1, 4, none⟩ = some (.string d.lab) := by rw [cell_of_row _ _ 4 _ _ _ e1]; rfl
  have hfn := fnodes_of_strip hst
  obtain ⟨hab1, hab2⟩ : NodIn V ⟨w3.heap.size, 0, s, ka', cap', k'⟩ ∧ NodOne ⟨w3.heap.size, 0, s, ka', cap', k'⟩ := by
    refine ⟨⟨?_, ?_, htk.below b3V⟩, ⟨fun h => ?_, hnd⟩⟩
    · simp only
      rw [cell_of_row _ _ 0 _ _ _ nV]; rfl
    · simp only
      rw [cell_of_row _ _ (0 + 1) _ _ _ nV]; rfl
    · have := ab_lt htk.kids _ h
      simp at this
  have hcg := change_any ⟨w3.heap.size, 0, s, ka', cap', k'⟩ d pa pc V hab1 hab2 ⟨_, _, nV⟩ (hpk.below b3V) (HX.out.1.below (HC.out.1.trans (bV.mono (by omega)))) HX.out.2.2 (by simp only; omega) hpl hdl
  unfold ddV at hcg
  simp only at hcg
  have HCG := hide hcg
  have HV := hide (And.intro bV (And.intro hst (And.intro hfr (And.intro hfn hnd))))
  clear hcg bV b3V nV e1 hab1 hab2 hst htk hfr hpk hnd hb3' hb3 hfn HO a0 a1
  rw [hV] at d0 d1 d2 d3 d4
  go_wp2_with fail
  rw [← hV]
  clear hV d0 d1 d2 d3 d4
  refine Calls.mono HCG.out ?_
  intro e w5 he
  obtain ⟨hbV, hst, hfr, hfn, hnd⟩ := HV.out
  have hw5 : ∀ q, q < w.heap.size + 4 → w5.heap[q]? = W.heap[q]? := fun q hq => by
    rw [← hbV.block q (by omega)]
    rcases he with ⟨_, _, h3⟩ | ⟨n', pa', pc', _, _, _, _, _, _, _, _, _, _, h11, _⟩
    · exact h3.block _ (by omega)
    · exact h11 _ (by omega) (by simp only; omega) (hfr.off (by omega))
  have hst2 : doneP d s (strip k') = doneP d s (strip k) := by rw [hst]
  rcases he with ⟨hne, he, hb5⟩ | ⟨n', pa', pc', hdn, he, hnb, hno, hni, hnp, hnB, hdi, hpb, _, _, hnd3⟩
  · subst he
    simp only at hne ⊢
    have hcode : (doneP d s (strip k')).1 = (doneP d s k).1 := by rw [hst2, (doneP_str d s k).1]
    rw [hcode] at hne ⊢
    have HR := hide (show doP d s k = ((doneP d s k).1, (⟨#[]⟩, .nil), ⟨0, [], 0, 0, ⟨#[]⟩⟩) by
      unfold doP
      rw [if_neg (fun h' => h' HX.out.2.1), if_neg (fun h' => h' HX.out.2.2), if_pos hne])
    obtain ⟨c, hc⟩ : ∃ c, c = (doneP d s k).1 := ⟨_, rfl⟩
    rw [← hc] at hne HR ⊢
    have hbb : (c == 0) = false := beq_eq_false_iff_ne.2 hne
    have hbb2 : (c != 0) = true := by simp [bne, hbb]
    have e2 : w5.heap[w.heap.size + 1 + 1]? = _ := (hw5 _ (by omega)).trans HC.out.2.2.2.1
    have e3 : w5.heap[w.heap.size + 1 + 1 + 1]? = _ := (hw5 _ (by omega)).trans HC.out.2.2.2.2
    have HB := hide (show Below w.heap.size w w5 from HC.out.1.trans ((hbV.mono (by omega)).trans (hb5.mono (by omega))))
    have sz5 : V.heap.size ≤ w5.heap.size := hb5.size
    clear hcode hst2 hc hne hbV hst hfr hfn hw5 hb5 HCG HV
    obtain ⟨U, hU⟩ : ∃ U, U = w5.alloc (Obj.cells #[.int .i64 0, .slice none 0 0, .int .i64 0, .int .i64 0, .string ⟨#[]⟩] 44) := ⟨_, rfl⟩
    have bU : Below w.heap.size w U := by rw [hU]; exact HB.out.alloc (by omega) _
    have f2' : U.heap[w.heap.size + 1 + 1]? = _ := (by rw [hU]; exact Below.heap_alloc _ _ _ (by omega) : U.heap[w.heap.size + 1 + 1]? = w5.heap[w.heap.size + 1 + 1]?).trans e2
    have f3' : U.heap[w.heap.size + 1 + 1 + 1]? = _ := (by rw [hU]; exact Below.heap_alloc _ _ _ (by omega) : U.heap[w.heap.size + 1 + 1 + 1]? = w5.heap[w.heap.size + 1 + 1 + 1]?).trans e3
    have q20 : U.cell? ⟨w.heap.size + 1 + 1, 0, none⟩ = some (.string ⟨#[]⟩) := by rw [cell_of_row _ _ 0 _ _ _ f2']; rfl
    have q21 : U.cell? ⟨w.heap.size + 1 + 1, 1, none⟩ = some (.slice none 0 0) := by rw [cell_of_row _ _ 1 _ _ _ f2']; rfl
    have f2 : ∀ o, U.frozen? ⟨w.heap.size + 1 + 1, o, none⟩ = false := fun o => by simp [World.frozen?, f2']
    have f3 : ∀ o, U.frozen? ⟨w.heap.size + 1 + 1 + 1, o, none⟩ = false := fun o => by simp [World.frozen?, f3']
    have q30 : U.cell? ⟨w.heap.size + 1 + 1 + 1, 0, none⟩ = some (.int .i64 0) := by rw [cell_of_row _ _ 0 _ _ _ f3']; rfl
    have q31 : U.cell? ⟨w.heap.size + 1 + 1 + 1, 1, none⟩ = some (.slice none 0 0) := by rw [cell_of_row _ _ 1 _ _ _ f3']; rfl
    have q32 : U.cell? ⟨w.heap.size + 1 + 1 + 1, 2, none⟩ = some (.int .i64 0) := by rw [cell_of_row _ _ 2 _ _ _ f3']; rfl
    have q33 : U.cell? ⟨w.heap.size + 1 + 1 + 1, 3, none⟩ = some (.int .i64 0) := by rw [cell_of_row _ _ 3 _ _ _ f3']; rfl
    have q34 : U.cell? ⟨w.heap.size + 1 + 1 + 1, 4, none⟩ = some (.string ⟨#[]⟩) := by rw [cell_of_row _ _ 4 _ _ _ f3']; rfl
    have HU := hide bU
    clear e2 e3 f2' f3' bU HB HC HX
    unfold ddV noDd
    simp only [List.length_nil]
    rw [hU] at q20 q21 f2 f3 q30 q31 q32 q33 q34
    go_wp2_with fail
    rw [HR.out]
    refine bodyPost_ret (v := .tuple #[.agg #[.string ⟨#[]⟩, .slice none 0 0], .agg #[.int .i64 0, .slice none 0 0, .int .i64 0, .int .i64 0, .string ⟨#[]⟩], .int .i64 c]) (by simp [results, Try.results20, go_sem, *]) rfl (DoEndN.bad ?_)
    rw [← hU]
    exact ((((((HU.out.setCell (by simp only; omega) _).setCell (by simp only; omega) _).setCell (by simp only; omega) _).setCell (by simp only; omega) _).setCell (by simp only; omega) _).setCell (by simp only; omega) _).setCell (by simp only; omega) _
  · subst he
    simp only at hdn hnb hno hnB hdi hnd3 ⊢
    have HND := hide (show d.kind = 3 ∧ d.path = [] → (ab n'.k).Nodup from fun h => hnd3 h.1 h.2 hnd)
    clear hnd3 hnd
    have hfz := (fault_zero HX.out.2.1).1
    have hdk : doneP d s k = (0, n'.s, strip n'.k) := by
      have h0 : (doneP d s k).1 = 0 := by rw [← (doneP_str d s k).1, ← hst2, hdn]
      rw [← (doneP_str d s k).2 h0, ← hst2, hdn]
    have hbk : backP d s (strip k') = backP d s k := by rw [hst, backP_strip]
    rw [hbk] at hdi ⊢
    have hfew := doneP_few d s (strip k') n'.s (strip n'.k) hdn
    rw [fnodes_strip, fnodes_strip] at hfew
    obtain ⟨bk, hbk2⟩ : ∃ bk, bk = backP d s k := ⟨_, rfl⟩
    rw [← hbk2] at hdi ⊢
    obtain ⟨hfrB, hbB⟩ := hnB W.heap.size (by omega) (by omega) (hfr.mono (by omega))
    have sz5 := hbB.size
    have sV5 : V.heap.size ≤ w5.heap.size := by
      have := (hnB 0 (Nat.zero_le _) (Nat.zero_le _) (hfr.mono (Nat.zero_le _))).2.size
      exact this
    obtain ⟨U, hU⟩ : ∃ U, U = w5.alloc (Obj.cells #[.int .i64 bk.kind, .slice pa' bk.path.length pc', .int .i64 bk.pos, .int .i64 bk.many, .string bk.lab] 44) := ⟨_, rfl⟩
    have b5U : Below w5.heap.size w5 U := by rw [hU]; exact (Below.refl _ _).alloc (Nat.le_refl _) _
    have sU : U.heap.size = w5.heap.size + 1 := by rw [hU]; simp
    have nU : U.heap[w5.heap.size]? = some (Obj.cells #[.int .i64 bk.kind, .slice pa' bk.path.length pc', .int .i64 bk.pos, .int .i64 bk.many, .string bk.lab] 44) := by rw [hU]; exact heap_alloc_new _ _
    have hniU := hni.below b5U
    have u0 := hniU.c0
    have u1 := hniU.c1
    rw [hnb, hno] at u0 u1
    rw [Nat.zero_add] at u1
    have HCK := hide (check_any n'.s n'.ka n'.cap n'.k U hniU.tin (hnp.below b5U) (by omega))
    have HW5 := hide (And.intro hw5 (And.intro hfrB (And.intro hbB (And.intro hniU (And.intro (hnp.below b5U) (And.intro (hdi.below b5U) (And.intro hpb (And.intro nU (And.intro hdk (And.intro hbk2 (And.intro hbV b5U)))))))))))
    have l3 : w3.heap.size < w5.heap.size := by omega
    clear hst2 hdn hnb hno hni hnp hnB hdi hpb hdk hbk hbk2 hfew hfz hfrB hbB b5U nU hniU hw5 hbV hst hfr hfn HCG HV
    obtain ⟨c, hc⟩ : ∃ c, c = faultT n'.s n'.k := ⟨_, rfl⟩
    rw [← hc] at HCK
    unfold ddV
    rw [hU] at u0 u1
    go_wp2_with fail
    rw [← hU]
    rw [← hU] at u0 u1
    clear hU
    refine Calls.mono HCK.out ?_
    rintro e w6 ⟨rfl, hb6⟩
    obtain ⟨hw5, hfrB, hbB, hniU, hnpU, hdiU, hpb, nU, hdk, hbk2, hbV, b5U⟩ := HW5.out
    have s6 := hb6.size
    have hb56 : ∀ q, q < w.heap.size + 4 → w6.heap[q]? = W.heap[q]? := fun q hq => by
      rw [hb6.block q (by omega), b5U.block q (by omega), hw5 q hq]
    have e2 : w6.heap[w.heap.size + 1 + 1]? = _ := (hb56 _ (by omega)).trans HC.out.2.2.2.1
    have e3 : w6.heap[w.heap.size + 1 + 1 + 1]? = _ := (hb56 _ (by omega)).trans HC.out.2.2.2.2
    have q20 : w6.cell? ⟨w.heap.size + 1 + 1, 0, none⟩ = some (.string ⟨#[]⟩) := by rw [cell_of_row _ _ 0 _ _ _ e2]; rfl
    have q21 : w6.cell? ⟨w.heap.size + 1 + 1, 1, none⟩ = some (.slice none 0 0) := by rw [cell_of_row _ _ 1 _ _ _ e2]; rfl
    have f2 : ∀ o, w6.frozen? ⟨w.heap.size + 1 + 1, o, none⟩ = false := fun o => by simp [World.frozen?, e2]
    have f3 : ∀ o, w6.frozen? ⟨w.heap.size + 1 + 1 + 1, o, none⟩ = false := fun o => by simp [World.frozen?, e3]
    have q30 : w6.cell? ⟨w.heap.size + 1 + 1 + 1, 0, none⟩ = some (.int .i64 0) := by rw [cell_of_row _ _ 0 _ _ _ e3]; rfl
    have q31 : w6.cell? ⟨w.heap.size + 1 + 1 + 1, 1, none⟩ = some (.slice none 0 0) := by rw [cell_of_row _ _ 1 _ _ _ e3]; rfl
    have q32 : w6.cell? ⟨w.heap.size + 1 + 1 + 1, 2, none⟩ = some (.int .i64 0) := by rw [cell_of_row _ _ 2 _ _ _ e3]; rfl
    have q33 : w6.cell? ⟨w.heap.size + 1 + 1 + 1, 3, none⟩ = some (.int .i64 0) := by rw [cell_of_row _ _ 3 _ _ _ e3]; rfl
    have q34 : w6.cell? ⟨w.heap.size + 1 + 1 + 1, 4, none⟩ = some (.string ⟨#[]⟩) := by rw [cell_of_row _ _ 4 _ _ _ e3]; rfl
    have hBW : Below w.heap.size w w6 := HC.out.1.trans ((hbV.mono (by omega)).trans ((hbB.mono (by omega)).trans ((b5U.mono (by omega)).trans (hb6.mono (by omega)))))
    by_cases hc0 : c = 0
    · have HR := hide (show doP d s k = (0, (n'.s, strip n'.k), bk) by
        rw [hbk2]
        exact doP_of HX.out.2.1 HX.out.2.2 hdk (by simp only; rw [faultT_strip, ← hc]; exact hc0))
      subst hc0
      have v0 : w6.cell? ⟨w3.heap.size, 0, none⟩ = some (.string n'.s) := by rw [hb6.cell (show w3.heap.size < U.heap.size by omega)]; exact u0
      have v1 : w6.cell? ⟨w3.heap.size, 1, none⟩ = some (.slice n'.ka (flen n'.k) n'.cap) := by rw [hb6.cell (show w3.heap.size < U.heap.size by omega)]; exact u1
      have n6 := (hb6.block w5.heap.size (by omega)).trans nU
      have y0 : w6.cell? ⟨w5.heap.size, 0, none⟩ = some (.int .i64 bk.kind) := by rw [cell_of_row _ _ 0 _ _ _ n6]; rfl
      have y1 : w6.cell? ⟨w5.heap.size, 1, none⟩ = some (.slice pa' bk.path.length pc') := by rw [cell_of_row _ _ 1 _ _ _ n6]; rfl
      have y2 : w6.cell? ⟨w5.heap.size, 2, none⟩ = some (.int .i64 bk.pos) := by rw [cell_of_row _ _ 2 _ _ _ n6]; rfl
      have y3 : w6.cell? ⟨w5.heap.size, 3, none⟩ = some (.int .i64 bk.many) := by rw [cell_of_row _ _ 3 _ _ _ n6]; rfl
      have y4 : w6.cell? ⟨w5.heap.size, 4, none⟩ = some (.string bk.lab) := by rw [cell_of_row _ _ 4 _ _ _ n6]; rfl
      have o2 : FOff (w.heap.size + 1 + 1) n'.k := hfrB.off (by omega)
      have o3 : FOff (w.heap.size + 1 + 1 + 1) n'.k := hfrB.off (by omega)
      have HT := hide (And.intro (hniU.tin.below hb6) (And.intro (hfrB.mono (show w.heap.size ≤ W.heap.size by omega)) (And.intro (hnpU.below hb6) (And.intro (hdiU.below hb6) (And.intro o2 (And.intro o3 hBW))))))
      have HPB := hide hpb
      clear hc hw5 hfrB hbB hniU hnpU hdiU hpb nU hdk hbk2 hbV b5U hb56 hb6 e2 e3 hBW n6 o2 o3 u0 u1 HCK HW5 HC HX
      go_wp2_with fail
      go_region
      go_wp2_with fail
      rw [HR.out]
      refine bodyPost_ret (v := .tuple #[.agg #[.string n'.s, .slice n'.ka (flen n'.k) n'.cap], .agg #[.int .i64 bk.kind, .slice pa' bk.path.length pc', .int .i64 bk.pos, .int .i64 bk.many, .string bk.lab], .int .i64 0]) (by simp [results, Try.results20, go_sem, *]) rfl ?_
      obtain ⟨t1, t2, t3, t4, t5, t6, t7⟩ := HT.out
      exact doEnd_goodN t1 t2 t3 t4 t5 t6 t7 (by omega) (by omega) HND.out (Or.inr fun a ha => ⟨by have := HPB.out a ha; omega, by have := HPB.out a ha; omega⟩)
    · have HR := hide (show doP d s k = (c, (⟨#[]⟩, .nil), ⟨0, [], 0, 0, ⟨#[]⟩⟩) by
        unfold doP
        rw [if_neg (fun h' => h' HX.out.2.1), if_neg (fun h' => h' HX.out.2.2), if_neg (by rw [hdk]; simp), hdk, if_pos (by simp only; rw [faultT_strip, ← hc]; exact hc0)]
        simp only
        rw [faultT_strip, ← hc])
      have hbb : (c == 0) = false := beq_eq_false_iff_ne.2 hc0
      have hbb2 : (c != 0) = true := by simp [bne, hbb]
      have HU := hide hBW
      clear hc hc0 hw5 hfrB hbB hniU hnpU hdiU hpb nU hdk hbk2 hbV b5U hb56 hb6 e2 e3 hBW u0 u1 HCK HW5 HC HX
      go_wp2_with fail
      rw [HR.out]
      refine bodyPost_ret (v := .tuple #[.agg #[.string ⟨#[]⟩, .slice none 0 0], .agg #[.int .i64 0, .slice none 0 0, .int .i64 0, .int .i64 0, .string ⟨#[]⟩], .int .i64 c]) (by simp [results, Try.results20, go_sem, *]) rfl (DoEndN.bad ?_)
      exact ((((((HU.out.setCell (by simp only; omega) _).setCell (by simp only; omega) _).setCell (by simp only; omega) _).setCell (by simp only; omega) _).setCell (by simp only; omega) _).setCell (by simp only; omega) _).setCell (by simp only; omega) _

/-- Do, whatever the tree and the deed. -/
theorem pdo_any (d : Dd) (s : ByteArray) (ka : Option Addr) (cap : Nat) (k : Fo) (pa : Option Addr) (pc : Nat) (w : World) (ht : TIn w s ka cap k) (hp : FPlain w k) (hn : 1 + fnodes k ≤ 200) (hs : s.size ≤ 1000) (hsm : SmallF k) (hd : DIn w d pa pc) (hpl : d.path.length ≤ 60) (hdl : d.lab.size ≤ 100) :
    Calls Try.prog 20 #[.agg #[.string s, .slice ka (flen k) cap], ddV d pa pc] w (DoEnd (doP d s k) w) := by
  by_cases h1 : faultT s k = 0
  · by_cases h2 : deedFault d = 0
    · exact (pdo_rest d s ka cap k pa pc w ht hp hn hs hsm hd hpl hdl h1 h2).mono fun e w' h => h.plain
    · exact pdo_bad2 d s ka cap k pa pc w ht hp hn hd h1 h2
  · exact pdo_bad1 d s ka cap k pa pc w ht hp hn h1
end Go.Proofs.Ytpgiagkbfnbgkab.Deed
namespace Go.Proofs.Ytpgiagkbfnbgkab.Deed
open Go.Deep Go.RowKit
set_option linter.unusedVariables false
set_option maxRecDepth 20000

theorem sameF_refl : ∀ f : Fo, sameF f f = true
  | .nil => rfl
  | .node _ _ x k r => by simp [sameF, sameF_refl k, sameF_refl r]
theorem sameF_strip_left : ∀ (f g : Fo), sameF (strip f) g = sameF f g
  | .nil, .nil => rfl
  | .nil, .node _ _ _ _ _ => rfl
  | .node _ _ _ _ _, .nil => rfl
  | .node _ _ x k r, .node _ _ y l q => by simp [sameF, strip, sameF_strip_left k l, sameF_strip_left r q]
theorem sameT_of_strip {s : ByteArray} {f g : Fo} (e : strip f = strip g) : sameT s f s g = true := by
  unfold sameT
  rw [← sameF_strip_left f g, e, sameF_strip_left, sameF_refl]
  simp
theorem longF_strip : ∀ f : Fo, longF (strip f) = longF f
  | .nil => rfl
  | .node _ _ x k r => by simp [longF, strip, longF_strip k, longF_strip r]
theorem longF_small : ∀ {f : Fo}, longF f = false → SmallF f
  | .nil, _ => trivial
  | .node _ _ x k r, h => by
    simp only [longF, Bool.or_eq_false_iff, decide_eq_false_iff_not] at h
    exact ⟨by omega, longF_small h.1.2, longF_small h.2⟩
theorem great_long {s : ByteArray} {k : Fo} (h : greatT s k = false) : s.size ≤ 1000 ∧ longF k = false := by
  unfold greatT longT at h
  simp only [Bool.or_eq_false_iff, decide_eq_false_iff_not] at h
  exact ⟨by omega, h.2.2⟩
theorem small_of {k k' : Fo} (h : longF k = false) (e : strip k' = strip k) : SmallF k' := longF_small (by rw [← longF_strip, e, longF_strip]; exact h)

end Go.Proofs.Ytpgiagkbfnbgkab.Deed
namespace Go.Proofs.Ytpgiagkbfnbgkab.Deed
open Go.Deep Go.RowKit
set_option linter.unusedVariables false
set_option maxRecDepth 20000

def bgK : Fo := .node 0 0 (⟨#[98]⟩, none, 0) (.node 0 0 (⟨#[99]⟩, none, 0) .nil .nil) .nil
def bgX : Fo := .node 0 0 (⟨#[99]⟩, none, 0) .nil .nil
def bgF (n : Nat) : Fo := .node (n + 1) 0 (⟨#[98]⟩, some ⟨n, 0, none⟩, 1) (.node n 0 (⟨#[99]⟩, none, 0) .nil .nil) .nil
theorem bgF_strip (n : Nat) : strip (bgF n) = bgK := rfl
theorem bg_do1 : doP ⟨2, [0], 0, 0, ⟨#[]⟩⟩ ⟨#[97]⟩ bgK = (0, (⟨#[97]⟩, bgX), ⟨3, [], 0, 1, ⟨#[98]⟩⟩) := by kernel_rfl
theorem bg_do2 : doP ⟨3, [], 0, 1, ⟨#[98]⟩⟩ ⟨#[97]⟩ bgX = (0, (⟨#[97]⟩, bgK), ⟨2, [0], 0, 0, ⟨#[]⟩⟩) := by kernel_rfl
theorem bg_root : deedFault ⟨2, [], 0, 0, ⟨#[]⟩⟩ = 8 := by kernel_rfl

set_option maxHeartbeats 2000000 in
theorem begun_any (w : World) : Calls Try.prog 17 #[] w fun e w' => e = .returned (.bool true) ∧ Below w.heap.size w w' := by
  obtain ⟨W, hW⟩ : ∃ W, W = (((w.alloc (Obj.cells #[Value.string ⟨#[99]⟩, Value.slice none 0 0] 24)).alloc (Obj.cells #[Value.string ⟨#[98]⟩, Value.slice (some ⟨w.heap.size, 0, none⟩) 1 1] 24)).alloc (Obj.cells #[Value.string ⟨#[97]⟩, Value.slice (some ⟨w.heap.size + 1, 0, none⟩) 1 1] 24)).alloc (Obj.cells #[.int .i64 0] 3) := ⟨_, rfl⟩
  obtain ⟨sW, hB, h0, h1, h2, h3⟩ := boxes4 w (Obj.cells #[Value.string ⟨#[99]⟩, Value.slice none 0 0] 24) (Obj.cells #[Value.string ⟨#[98]⟩, Value.slice (some ⟨w.heap.size, 0, none⟩) 1 1] 24) (Obj.cells #[Value.string ⟨#[97]⟩, Value.slice (some ⟨w.heap.size + 1, 0, none⟩) 1 1] 24) (Obj.cells #[.int .i64 0] 3)
  rw [← hW] at sW hB h0 h1 h2 h3
  have hsz : ∀ c : UInt8, (⟨#[c]⟩ : ByteArray).size ≤ maxLen := fun c => by show 1 ≤ maxLen; unfold maxLen; omega
  have m0 : 0 ≤ maxLen := Nat.zero_le _
  have m1 : 1 ≤ maxLen := by unfold maxLen; omega
  have hT : TIn W ⟨#[97]⟩ (some ⟨w.heap.size + 1, 0, none⟩) 1 (bgF w.heap.size) := by
    refine ⟨hsz _, Nat.le_refl 1, m1, Or.inr ⟨w.heap.size + 1, 0, rfl, ?_⟩⟩
    refine ⟨rfl, rfl, by rw [cell_of_row _ _ 0 _ _ _ h1]; rfl, by rw [cell_of_row _ _ 1 _ _ _ h1]; rfl, hsz _, Nat.le_refl 1, m1, Or.inr ⟨w.heap.size, 0, rfl, ?_⟩, trivial⟩
    exact ⟨rfl, rfl, by rw [cell_of_row _ _ 0 _ _ _ h0]; rfl, by rw [cell_of_row _ _ 1 _ _ _ h0]; rfl, hsz _, Nat.le_refl 0, m0, Or.inl rfl, trivial⟩
  have hP : FPlain W (bgF w.heap.size) := ⟨⟨_, _, h1⟩, ⟨⟨_, _, h0⟩, trivial, trivial⟩, trivial⟩
  have hD : DIn W ⟨2, [0], 0, 0, ⟨#[]⟩⟩ (some ⟨w.heap.size + 1 + 1 + 1, 0, none⟩) 1 := ⟨Or.inr ⟨_, _, rfl, fun i p hp => by
    match i, hp with
    | 0, hp => simp at hp; subst hp; rw [cell_of_row _ _ (0 + 0) _ _ _ h3]; rfl
    | _ + 1, hp => simp at hp⟩, Nat.le_refl 1, m1, m0⟩
  have hdo := pdo_any ⟨2, [0], 0, 0, ⟨#[]⟩⟩ ⟨#[97]⟩ (some ⟨w.heap.size + 1, 0, none⟩) 1 (bgF w.heap.size) (some ⟨w.heap.size + 1 + 1 + 1, 0, none⟩) 1 W hT hP (by show 1 + 2 ≤ 200; omega) (by show 1 ≤ 1000; omega) ⟨by show 1 ≤ 1000; omega, ⟨by show 1 ≤ 1000; omega, trivial, trivial⟩, trivial⟩ hD (by show 1 ≤ 60; omega) (by show 0 ≤ 100; omega)
  rw [doP_congr _ _ (show strip (bgF w.heap.size) = strip bgK from rfl), bg_do1] at hdo
  have HDO := hide hdo
  unfold ddV at HDO
  simp only [List.length_cons, List.length_nil, Nat.zero_add] at HDO
  have HT := hide (And.intro hT (And.intro hB h2))
  clear hdo hT hP hD hB h0 h1 h2 h3 hsz m0 m1
  go_enter Try.func17, Try.ntmps17
  go_wp2_with fail
  rw [← hW]
  clear hW
  refine Calls.mono HDO.out ?_
  rintro e w1 ⟨sx, kax, capx, kx, pax, pcx, rfl, rfl, hstx, htx, hfrx, hpx, hdx, hb1⟩
  simp only at hstx htx hdx ⊢
  have hfx : flen kx = 1 := flen_of_strip (g := bgX) hstx
  obtain ⟨bx, ox, xx, rfl, e1, e2⟩ : ∃ bx ox xx, kx = .node bx ox xx .nil .nil ∧ xx.1 = ⟨#[99]⟩ ∧ kax = some ⟨bx, ox, none⟩ := by
    cases kx with
    | nil => simp [flen] at hfx
    | node b o x kk r =>
      simp only [strip, bgX, BT.node.injEq, Prod.mk.injEq] at hstx
      obtain ⟨_, _, ⟨h1, _, _⟩, h2, h3⟩ := hstx
      have hk0 : kk = .nil := by cases kk with
        | nil => rfl
        | node _ _ _ _ _ => simp [strip] at h2
      have hr0 : r = .nil := by cases r with
        | nil => rfl
        | node _ _ _ _ _ => simp [strip] at h3
      subst hk0 hr0
      rcases htx.kids with h | ⟨kb, ko, e, hf⟩
      · cases h
      · have hb : b = kb := hf.1
        have ho : o = ko := hf.2.1
        exact ⟨b, o, x, rfl, h1, by rw [e, hb, ho]⟩
  have hcx : w1.cell? ⟨bx, ox, none⟩ = some (.string ⟨#[99]⟩) := by
    rcases htx.kids with h | ⟨kb, ko, e, hf⟩
    · cases h
    · rw [← e1]
      rw [e2] at e
      injection e with e
      injection e with e3 e4
      rw [e3, e4]
      exact hf.head.1
  subst e2
  clear hfx
  obtain ⟨V, hV⟩ : ∃ V, V = (w1.alloc (Obj.cells #[Value.string ⟨#[97]⟩, Value.slice (some ⟨bx, ox, none⟩) 1 capx] 24)).alloc (Obj.cells #[.int .i64 3, .slice pax 0 pcx, .int .i64 0, .int .i64 1, .string ⟨#[98]⟩] 44) := ⟨_, rfl⟩
  obtain ⟨sV, bV, v0, v1⟩ := boxes2 w1 (Obj.cells #[Value.string ⟨#[97]⟩, Value.slice (some ⟨bx, ox, none⟩) 1 capx] 24) (Obj.cells #[.int .i64 3, .slice pax 0 pcx, .int .i64 0, .int .i64 1, .string ⟨#[98]⟩] 44)
  rw [← hV] at sV bV v0 v1
  have hdo := pdo_rest ⟨3, [], 0, 1, ⟨#[98]⟩⟩ ⟨#[97]⟩ (some ⟨bx, ox, none⟩) capx (.node bx ox xx .nil .nil) pax pcx V (htx.below bV) (hpx.below bV) (by show 1 + 1 ≤ 200; omega) (by show 1 ≤ 1000; omega) ⟨by rw [e1]; show 1 ≤ 1000; omega, trivial, trivial⟩ (hdx.below bV) (by show 0 ≤ 60; omega) (by show 1 ≤ 100; omega) (by rw [← faultT_strip, hstx]; kernel_rfl) (by kernel_rfl)
  rw [doP_congr _ _ (show strip (BT.node bx ox xx .nil .nil : Fo) = strip bgX from hstx), bg_do2] at hdo
  have HDO2 := hide hdo
  unfold ddV at HDO2
  simp only [List.length_nil, flen, Nat.zero_add] at HDO2
  have hcV : V.cell? ⟨bx, ox, none⟩ = some (.string ⟨#[99]⟩) := by
    rw [bV.cell (World.block_lt_of_cell? _ _ hcx)]
    exact hcx
  have lbx : bx < w1.heap.size := World.block_lt_of_cell? _ _ hcx
  have a0 : V.cell? ⟨w1.heap.size, 0, none⟩ = some (.string ⟨#[97]⟩) := by rw [cell_of_row _ _ 0 _ _ _ v0]; rfl
  have a1 : V.cell? ⟨w1.heap.size, 1, none⟩ = some (.slice (some ⟨bx, ox, none⟩) 1 capx) := by rw [cell_of_row _ _ 1 _ _ _ v0]; rfl
  have b0 : V.cell? ⟨w1.heap.size + 1, 0, none⟩ = some (.int .i64 3) := by rw [cell_of_row _ _ 0 _ _ _ v1]; rfl
  have b1 : V.cell? ⟨w1.heap.size + 1, 1, none⟩ = some (.slice pax 0 pcx) := by rw [cell_of_row _ _ 1 _ _ _ v1]; rfl
  have b2 : V.cell? ⟨w1.heap.size + 1, 2, none⟩ = some (.int .i64 0) := by rw [cell_of_row _ _ 2 _ _ _ v1]; rfl
  have b3 : V.cell? ⟨w1.heap.size + 1, 3, none⟩ = some (.int .i64 1) := by rw [cell_of_row _ _ 3 _ _ _ v1]; rfl
  have b4 : V.cell? ⟨w1.heap.size + 1, 4, none⟩ = some (.string ⟨#[98]⟩) := by rw [cell_of_row _ _ 4 _ _ _ v1]; rfl
  have HX := hide (And.intro hb1 (And.intro bV htx.cap))
  have hcapx := htx.cap
  have hlenx := htx.len
  unfold maxLen at hcapx
  simp only [flen] at hlenx
  clear hdo hstx htx hfrx hpx hdx hb1 bV v0 v1 e1 hcx
  unfold ddV
  simp only [List.length_nil, flen, Nat.zero_add]
  rw [hV] at a0 a1 b0 b1 b2 b3 b4
  go_wp2_with fail
  rw [← hV]
  rw [← hV] at a0 a1 b0 b1 b2 b3 b4
  clear hV
  refine Calls.mono HDO2.out ?_
  rintro e w2 ⟨sy, kay, capy, ky, pay, pcy, rfl, rfl, hsty, hty, hfry, hpy, hdy, hb2, hndy⟩
  simp only at hsty hty hdy ⊢
  have hnd := hndy (by simp)
  obtain ⟨U, hU⟩ : ∃ U, U = (w2.alloc (Obj.cells #[Value.string ⟨#[97]⟩, Value.slice kay (flen ky) capy] 24)).alloc (Obj.cells #[.int .i64 2, .slice pay 1 pcy, .int .i64 0, .int .i64 0, .string ⟨#[]⟩] 44) := ⟨_, rfl⟩
  obtain ⟨sU, bU, u0, u1⟩ := boxes2 w2 (Obj.cells #[Value.string ⟨#[97]⟩, Value.slice kay (flen ky) capy] 24) (Obj.cells #[.int .i64 2, .slice pay 1 pcy, .int .i64 0, .int .i64 0, .string ⟨#[]⟩] 44)
  rw [← hU] at sU bU u0 u1
  have s2 := hb2.size
  have bVU : Below V.heap.size V U := hb2.trans (bU.mono s2)
  have hlW : W.heap.size ≤ V.heap.size := by have := HX.out.1.size; omega
  have bWU : Below W.heap.size W U := HX.out.1.trans ((HX.out.2.1.mono HX.out.1.size).trans (bVU.mono hlW))
  have c0 : U.cell? ⟨w2.heap.size, 0, none⟩ = some (.string ⟨#[97]⟩) := by rw [cell_of_row _ _ 0 _ _ _ u0]; rfl
  have c1 : U.cell? ⟨w2.heap.size, 1, none⟩ = some (.slice kay (flen ky) capy) := by rw [cell_of_row _ _ 1 _ _ _ u0]; rfl
  have t2 : U.heap[w.heap.size + 1 + 1]? = _ := (bWU.block _ (by omega)).trans HT.out.2.2
  have c2 : U.cell? ⟨w.heap.size + 1 + 1, 0, none⟩ = some (.string ⟨#[97]⟩) := by rw [cell_of_row _ _ 0 _ _ _ t2]; rfl
  have c3 : U.cell? ⟨w.heap.size + 1 + 1, 1, none⟩ = some (.slice (some ⟨w.heap.size + 1, 0, none⟩) 1 1) := by rw [cell_of_row _ _ 1 _ _ _ t2]; rfl
  have g1 : U.cell? ⟨w1.heap.size, 1, none⟩ = some (.slice (some ⟨bx, ox, none⟩) 1 capx) := by rw [bVU.cell (show w1.heap.size < V.heap.size by omega)]; exact a1
  have g2 : U.cell? ⟨w1.heap.size + 1, 0, none⟩ = some (.int .i64 3) := by rw [bVU.cell (show w1.heap.size + 1 < V.heap.size by omega)]; exact b0
  have g3 : U.cell? ⟨w1.heap.size + 1, 3, none⟩ = some (.int .i64 1) := by rw [bVU.cell (show w1.heap.size + 1 < V.heap.size by omega)]; exact b3
  have g4 : U.cell? ⟨bx, ox, none⟩ = some (.string ⟨#[99]⟩) := by rw [bVU.cell (show bx < V.heap.size by omega)]; exact hcV
  have hsame := same_any ⟨#[97]⟩ kay capy ky ⟨#[97]⟩ (some ⟨w.heap.size + 1, 0, none⟩) 1 (bgF w.heap.size) U (hty.below bU) (HT.out.1.below bWU) (hpy.below bU) hnd (by rw [← fnodes_strip, hsty]; show 1 + 2 ≤ 200; omega)
  rw [sameT_of_strip (s := ⟨#[97]⟩) (f := ky) (g := bgF w.heap.size) (hsty.trans rfl)] at hsame
  have HSM := hide hsame
  have hck : ∀ U', Calls Try.prog 22 #[ddV ⟨2, [], 0, 0, ⟨#[]⟩⟩ none 0] U' fun e w' => e = .returned (.int .i64 8) ∧ Below U'.heap.size U' w' := fun U' => by
    rw [← bg_root]
    exact dcheck_any ⟨2, [], 0, 0, ⟨#[]⟩⟩ none 0 U' ⟨Or.inl rfl, Nat.le_refl _, Nat.zero_le _, Nat.zero_le _⟩
  unfold ddV at hck
  simp only [List.length_nil] at hck
  have HCK := hide hck
  have HW := hide (show Below w.heap.size w U from HT.out.2.1.trans (bWU.mono (by omega)))
  have hly : flen (bgF w.heap.size) = 1 := rfl
  rw [hly] at HSM
  clear hsame hck hsty hty hfry hpy hdy hb2 hndy hnd bU u0 u1 bVU bWU t2 a0 a1 b0 b1 b2 b3 b4 hcV HT HX HDO HDO2 hly
  unfold ddV
  simp only [List.length_cons, List.length_nil, Nat.zero_add]
  rw [hU] at c0 c1 c2 c3 g1 g2 g3 g4
  go_wp2_with fail
  rw [← hU]
  clear hU c0 c1 c2 c3 g1 g2 g3 g4
  refine Calls.mono HSM.out ?_
  rintro e w3 ⟨rfl, hb3⟩
  go_wp2_with fail
  refine Calls.mono (HCK.out _) ?_
  rintro e w4 ⟨rfl, hb4⟩
  go_wp2_with fail
  go_ret
  exact ⟨rfl, HW.out.trans ((hb3.mono HW.out.size).trans (hb4.mono (Nat.le_trans HW.out.size hb3.size)))⟩
end Go.Proofs.Ytpgiagkbfnbgkab.Deed
