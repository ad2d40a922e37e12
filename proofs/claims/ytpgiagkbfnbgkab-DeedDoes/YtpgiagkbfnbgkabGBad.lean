/- Do of package pleachingref, where its code is not 0. Of the program's text. -/
/- The good end of Do: what is answered lies in its boxes; and the node at a path, as At answers it. Of no program. -/
import Derived.Test.YtpgiagkbfnbgkabDoneAny
import Derived.Test.YtpgiagkbfnbgkabFault
import Derived.Test.YtpgiagkbfnbgkabGTurn
namespace Go.Proofs.Ytpgiagkbfnbgkab.Deed
open Go.Deep Go.RowKit
set_option linter.unusedVariables false
set_option maxRecDepth 20000

/-- What Do comes to. -/
def DoEnd (r : Int × (ByteArray × Fo) × Dd) (w : World) (e : Ending) (w' : World) : Prop := ∃ s' ka' cap' k' pa' pc', e = .returned (.tuple #[.agg #[.string s', .slice ka' (flen k') cap'], ddV r.2.2 pa' pc', .int .i64 r.1]) ∧ s' = r.2.1.1 ∧ strip k' = r.2.1.2 ∧ TIn w' s' ka' cap' k' ∧ FFrom w.heap.size k' ∧ FPlain w' k' ∧ DIn w' r.2.2 pa' pc' ∧ Below w.heap.size w w'

theorem tIn_none (w : World) : TIn w ⟨#[]⟩ none 0 .nil := ⟨by decide, Nat.le_refl _, by decide, Or.inl rfl⟩
theorem dIn_none (w : World) : DIn w ⟨0, [], 0, 0, ⟨#[]⟩⟩ none 0 := ⟨Or.inl rfl, Nat.le_refl _, by decide, by decide⟩
theorem DoEnd.bad {c : Int} {w w' : World} (h : Below w.heap.size w w') : DoEnd (c, (⟨#[]⟩, .nil), ⟨0, [], 0, 0, ⟨#[]⟩⟩) w (.returned (.tuple #[.agg #[.string ⟨#[]⟩, .slice none 0 0], .agg #[.int .i64 0, .slice none 0 0, .int .i64 0, .int .i64 0, .string ⟨#[]⟩], .int .i64 c])) w' :=
  ⟨⟨#[]⟩, none, 0, .nil, none, 0, rfl, rfl, rfl, tIn_none _, trivial, trivial, dIn_none _, h⟩

set_option maxHeartbeats 2000000 in
theorem do_bad1 (d : Dd) (s : ByteArray) (ka : Option Addr) (cap : Nat) (k : Fo) (pa : Option Addr) (pc : Nat) (w : World) (ht : TIn w s ka cap k) (h : faultT s k ≠ 0) :
    Calls Try.prog 21 #[.agg #[.string s, .slice ka (flen k) cap], ddV d pa pc] w (DoEnd (doP d s k) w) := by
  unfold doP
  rw [if_pos h]
  unfold ddV
  obtain ⟨c, hc⟩ : ∃ c, c = faultT s k := ⟨_, rfl⟩
  have hb : (c == 0) = false := beq_eq_false_iff_ne.2 (by rw [hc]; exact h)
  have hb2 : (c != 0) = true := by simp [bne, hb]
  rw [← hc]
  obtain ⟨W, hW⟩ : ∃ W, W = (((w.alloc (Obj.cells #[Value.string s, Value.slice ka (flen k) cap] 24)).alloc (Obj.cells #[.int .i64 d.kind, .slice pa d.path.length pc, .int .i64 d.pos, .int .i64 d.many, .string d.lab] 44)).alloc (Obj.cells #[Value.string ⟨#[]⟩, Value.slice none 0 0] 24)).alloc (Obj.cells #[.int .i64 0, .slice none 0 0, .int .i64 0, .int .i64 0, .string ⟨#[]⟩] 44) := ⟨_, rfl⟩
  obtain ⟨hWs, hB, c0, c1, c2, c3⟩ := boxes4 w (Obj.cells #[Value.string s, Value.slice ka (flen k) cap] 24) (Obj.cells #[.int .i64 d.kind, .slice pa d.path.length pc, .int .i64 d.pos, .int .i64 d.many, .string d.lab] 44) (Obj.cells #[Value.string ⟨#[]⟩, Value.slice none 0 0] 24) (Obj.cells #[.int .i64 0, .slice none 0 0, .int .i64 0, .int .i64 0, .string ⟨#[]⟩] 44)
  rw [← hW] at hWs hB c0 c1 c2 c3
  have HF := hide (treeFault_any s ka cap k W (ht.below hB))
  have HC := hide (And.intro hWs (And.intro hB (And.intro c2 c3)))
  rw [← hc] at HF
  clear hWs hB c0 c1 c2 c3 ht h hc
  go_enter Try.func21, Try.ntmps21
  go_wp2_with fail
  rw [← hW]
  clear hW
  refine Calls.mono HF.out ?_
  rintro e w1 ⟨rfl, hb1⟩
  have hws := HC.out.1
  have e2 : w1.heap[w.heap.size + 1 + 1]? = _ := (hb1.block _ (by omega)).trans HC.out.2.2.1
  have e3 : w1.heap[w.heap.size + 1 + 1 + 1]? = _ := (hb1.block _ (by omega)).trans HC.out.2.2.2
  have q20 : w1.cell? ⟨w.heap.size + 1 + 1, 0, none⟩ = some (.string ⟨#[]⟩) := by rw [cell_of_row _ _ 0 _ _ _ e2]; rfl
  have q21 : w1.cell? ⟨w.heap.size + 1 + 1, 1, none⟩ = some (.slice none 0 0) := by rw [cell_of_row _ _ 1 _ _ _ e2]; rfl
  have f2 : ∀ o, w1.frozen? ⟨w.heap.size + 1 + 1, o, none⟩ = false := fun o => by simp [World.frozen?, e2]
  have f3 : ∀ o, w1.frozen? ⟨w.heap.size + 1 + 1 + 1, o, none⟩ = false := fun o => by simp [World.frozen?, e3]
  have q30 : w1.cell? ⟨w.heap.size + 1 + 1 + 1, 0, none⟩ = some (.int .i64 0) := by rw [cell_of_row _ _ 0 _ _ _ e3]; rfl
  have q31 : w1.cell? ⟨w.heap.size + 1 + 1 + 1, 1, none⟩ = some (.slice none 0 0) := by rw [cell_of_row _ _ 1 _ _ _ e3]; rfl
  have q32 : w1.cell? ⟨w.heap.size + 1 + 1 + 1, 2, none⟩ = some (.int .i64 0) := by rw [cell_of_row _ _ 2 _ _ _ e3]; rfl
  have q33 : w1.cell? ⟨w.heap.size + 1 + 1 + 1, 3, none⟩ = some (.int .i64 0) := by rw [cell_of_row _ _ 3 _ _ _ e3]; rfl
  have q34 : w1.cell? ⟨w.heap.size + 1 + 1 + 1, 4, none⟩ = some (.string ⟨#[]⟩) := by rw [cell_of_row _ _ 4 _ _ _ e3]; rfl
  have HB := hide (HC.out.2.1.trans (hb1.mono (by omega)))
  clear e2 e3 hb1 hws HC HF
  go_wp2_with fail
  refine bodyPost_ret (v := .tuple #[.agg #[.string ⟨#[]⟩, .slice none 0 0], .agg #[.int .i64 0, .slice none 0 0, .int .i64 0, .int .i64 0, .string ⟨#[]⟩], .int .i64 c]) (by simp [results, Try.results21, go_sem, *]) rfl (DoEnd.bad ?_)
  exact ((((((HB.out.setCell (by simp only; omega) _).setCell (by simp only; omega) _).setCell (by simp only; omega) _).setCell (by simp only; omega) _).setCell (by simp only; omega) _).setCell (by simp only; omega) _).setCell (by simp only; omega) _

set_option maxHeartbeats 2000000 in
theorem do_bad2 (d : Dd) (s : ByteArray) (ka : Option Addr) (cap : Nat) (k : Fo) (pa : Option Addr) (pc : Nat) (w : World) (ht : TIn w s ka cap k) (hd : DIn w d pa pc) (h1 : faultT s k = 0) (h : deedFault d ≠ 0) :
    Calls Try.prog 21 #[.agg #[.string s, .slice ka (flen k) cap], ddV d pa pc] w (DoEnd (doP d s k) w) := by
  unfold doP
  rw [if_neg (fun h' => h' h1), if_pos h]
  obtain ⟨c, hc⟩ : ∃ c, c = deedFault d := ⟨_, rfl⟩
  have hb : (c == 0) = false := beq_eq_false_iff_ne.2 (by rw [hc]; exact h)
  have hb2 : (c != 0) = true := by simp [bne, hb]
  rw [← hc]
  obtain ⟨W, hW⟩ : ∃ W, W = (((w.alloc (Obj.cells #[Value.string s, Value.slice ka (flen k) cap] 24)).alloc (Obj.cells #[.int .i64 d.kind, .slice pa d.path.length pc, .int .i64 d.pos, .int .i64 d.many, .string d.lab] 44)).alloc (Obj.cells #[Value.string ⟨#[]⟩, Value.slice none 0 0] 24)).alloc (Obj.cells #[.int .i64 0, .slice none 0 0, .int .i64 0, .int .i64 0, .string ⟨#[]⟩] 44) := ⟨_, rfl⟩
  obtain ⟨hWs, hB, c0, c1, c2, c3⟩ := boxes4 w (Obj.cells #[Value.string s, Value.slice ka (flen k) cap] 24) (Obj.cells #[.int .i64 d.kind, .slice pa d.path.length pc, .int .i64 d.pos, .int .i64 d.many, .string d.lab] 44) (Obj.cells #[Value.string ⟨#[]⟩, Value.slice none 0 0] 24) (Obj.cells #[.int .i64 0, .slice none 0 0, .int .i64 0, .int .i64 0, .string ⟨#[]⟩] 44)
  rw [← hW] at hWs hB c0 c1 c2 c3
  have hf := treeFault_any s ka cap k W (ht.below hB)
  rw [h1] at hf
  have HF := hide hf
  have hD : ∀ W', Below W.heap.size W W' → Calls Try.prog 23 #[ddV d pa pc] W' fun e w' => e = .returned (.int .i64 c) ∧ Below W'.heap.size W' w' := fun W' h => by
    rw [hc]
    exact refDF_any d pa pc W' (hd.below (hB.trans (h.mono (by omega))))
  unfold ddV at hD
  have HD := hide hD
  have HC := hide (And.intro hWs (And.intro hB (And.intro c1 (And.intro c2 c3))))
  clear hWs hB c0 c1 c2 c3 ht h hc hf hD hd h1
  unfold ddV
  go_enter Try.func21, Try.ntmps21
  go_wp2_with fail
  rw [← hW]
  clear hW
  refine Calls.mono HF.out ?_
  rintro e w1 ⟨rfl, hb1⟩
  have hws := HC.out.1
  have e1 : w1.heap[w.heap.size + 1]? = _ := (hb1.block _ (by omega)).trans HC.out.2.2.1
  have d0 : w1.cell? ⟨w.heap.size + 1, 0, none⟩ = some (.int .i64 d.kind) := by rw [cell_of_row _ _ 0 _ _ _ e1]; rfl
  have d1 : w1.cell? ⟨w.heap.size + 1, 1, none⟩ = some (.slice pa d.path.length pc) := by rw [cell_of_row _ _ 1 _ _ _ e1]; rfl
  have d2 : w1.cell? ⟨w.heap.size + 1, 2, none⟩ = some (.int .i64 d.pos) := by rw [cell_of_row _ _ 2 _ _ _ e1]; rfl
  have d3 : w1.cell? ⟨w.heap.size + 1, 3, none⟩ = some (.int .i64 d.many) := by rw [cell_of_row _ _ 3 _ _ _ e1]; rfl
  have d4 : w1.cell? ⟨w.heap.size + 1, 4, none⟩ = some (.string d.lab) := by rw [cell_of_row _ _ 4 _ _ _ e1]; rfl
  have HB1 := hide hb1
  clear e1 hb1 hws HF
  go_wp2_with fail
  refine Calls.mono (HD.out _ HB1.out) ?_
  rintro e w2 ⟨rfl, hb2'⟩
  have hb12 : Below W.heap.size W w2 := HB1.out.trans (hb2'.mono HB1.out.size)
  have hws := HC.out.1
  have e2 : w2.heap[w.heap.size + 1 + 1]? = _ := (hb12.block _ (by omega)).trans HC.out.2.2.2.1
  have e3 : w2.heap[w.heap.size + 1 + 1 + 1]? = _ := (hb12.block _ (by omega)).trans HC.out.2.2.2.2
  have q20 : w2.cell? ⟨w.heap.size + 1 + 1, 0, none⟩ = some (.string ⟨#[]⟩) := by rw [cell_of_row _ _ 0 _ _ _ e2]; rfl
  have q21 : w2.cell? ⟨w.heap.size + 1 + 1, 1, none⟩ = some (.slice none 0 0) := by rw [cell_of_row _ _ 1 _ _ _ e2]; rfl
  have f2 : ∀ o, w2.frozen? ⟨w.heap.size + 1 + 1, o, none⟩ = false := fun o => by simp [World.frozen?, e2]
  have f3 : ∀ o, w2.frozen? ⟨w.heap.size + 1 + 1 + 1, o, none⟩ = false := fun o => by simp [World.frozen?, e3]
  have q30 : w2.cell? ⟨w.heap.size + 1 + 1 + 1, 0, none⟩ = some (.int .i64 0) := by rw [cell_of_row _ _ 0 _ _ _ e3]; rfl
  have q31 : w2.cell? ⟨w.heap.size + 1 + 1 + 1, 1, none⟩ = some (.slice none 0 0) := by rw [cell_of_row _ _ 1 _ _ _ e3]; rfl
  have q32 : w2.cell? ⟨w.heap.size + 1 + 1 + 1, 2, none⟩ = some (.int .i64 0) := by rw [cell_of_row _ _ 2 _ _ _ e3]; rfl
  have q33 : w2.cell? ⟨w.heap.size + 1 + 1 + 1, 3, none⟩ = some (.int .i64 0) := by rw [cell_of_row _ _ 3 _ _ _ e3]; rfl
  have q34 : w2.cell? ⟨w.heap.size + 1 + 1 + 1, 4, none⟩ = some (.string ⟨#[]⟩) := by rw [cell_of_row _ _ 4 _ _ _ e3]; rfl
  have HB := hide (HC.out.2.1.trans (hb12.mono (by omega)))
  clear e2 e3 hb12 hb2' hws HC HD HB1 d0 d1 d2 d3 d4
  go_wp2_with fail
  refine bodyPost_ret (v := .tuple #[.agg #[.string ⟨#[]⟩, .slice none 0 0], .agg #[.int .i64 0, .slice none 0 0, .int .i64 0, .int .i64 0, .string ⟨#[]⟩], .int .i64 c]) (by simp [results, Try.results21, go_sem, *]) rfl (DoEnd.bad ?_)
  exact ((((((HB.out.setCell (by simp only; omega) _).setCell (by simp only; omega) _).setCell (by simp only; omega) _).setCell (by simp only; omega) _).setCell (by simp only; omega) _).setCell (by simp only; omega) _).setCell (by simp only; omega) _

end Go.Proofs.Ytpgiagkbfnbgkab.Deed
namespace Go.Proofs.Ytpgiagkbfnbgkab.Deed
open Go.Deep Go.RowKit
set_option linter.unusedVariables false
set_option maxRecDepth 20000

/-- What Do comes to, and, where that is asked, that no two lists of it share memory. -/
def DoEndN (nd : Prop) (r : Int × (ByteArray × Fo) × Dd) (w : World) (e : Ending) (w' : World) : Prop := ∃ s' ka' cap' k' pa' pc', e = .returned (.tuple #[.agg #[.string s', .slice ka' (flen k') cap'], ddV r.2.2 pa' pc', .int .i64 r.1]) ∧ s' = r.2.1.1 ∧ strip k' = r.2.1.2 ∧ TIn w' s' ka' cap' k' ∧ FFrom w.heap.size k' ∧ FPlain w' k' ∧ DIn w' r.2.2 pa' pc' ∧ Below w.heap.size w w' ∧ (nd → (ab k').Nodup)
theorem DoEndN.plain {nd : Prop} {r : Int × (ByteArray × Fo) × Dd} {w : World} {e : Ending} {w' : World} (h : DoEndN nd r w e w') : DoEnd r w e w' := by
  obtain ⟨s', ka', cap', k', pa', pc', h1, h2, h3, h4, h5, h6, h7, h8, _⟩ := h
  exact ⟨s', ka', cap', k', pa', pc', h1, h2, h3, h4, h5, h6, h7, h8⟩
theorem DoEndN.bad {nd : Prop} {c : Int} {w w' : World} (h : Below w.heap.size w w') : DoEndN nd (c, (⟨#[]⟩, .nil), ⟨0, [], 0, 0, ⟨#[]⟩⟩) w (.returned (.tuple #[.agg #[.string ⟨#[]⟩, .slice none 0 0], .agg #[.int .i64 0, .slice none 0 0, .int .i64 0, .int .i64 0, .string ⟨#[]⟩], .int .i64 c])) w' :=
  ⟨⟨#[]⟩, none, 0, .nil, none, 0, rfl, rfl, rfl, tIn_none _, trivial, trivial, dIn_none _, h, fun _ => List.nodup_nil⟩

/-- The results are laid into their boxes. -/
theorem doEnd_goodN {w w6 : World} {b2 b3 : Nat} {bk : Dd} {s : ByteArray} {ka : Option Addr} {cap : Nat} {k : Fo} {pa : Option Addr} {pc : Nat} (t1 : TIn w6 s ka cap k) (t2 : FFrom w.heap.size k) (t3 : FPlain w6 k) (t4 : DIn w6 bk pa pc) (t5 : FOff b2 k) (t6 : FOff b3 k) (t7 : Below w.heap.size w w6) (h2 : w.heap.size ≤ b2) (h3 : w.heap.size ≤ b3) {nd : Prop} (hnd : nd → (ab k).Nodup) (hpb : bk.path = [] ∨ ∀ a, pa = some a → a.block ≠ b2 ∧ a.block ≠ b3) :
    DoEndN nd (0, (s, strip k), bk) w (.returned (.tuple #[.agg #[.string s, .slice ka (flen k) cap], .agg #[.int .i64 bk.kind, .slice pa bk.path.length pc, .int .i64 bk.pos, .int .i64 bk.many, .string bk.lab], .int .i64 0]))
      (((((((w6.setCell ⟨b2, 0, none⟩ (.string s)).setCell ⟨b2, 1, none⟩ (.slice ka (flen k) cap)).setCell ⟨b3, 0, none⟩ (.int .i64 bk.kind)).setCell ⟨b3, 1, none⟩ (.slice pa bk.path.length pc)).setCell ⟨b3, 2, none⟩ (.int .i64 bk.pos)).setCell ⟨b3, 3, none⟩ (.int .i64 bk.many)).setCell ⟨b3, 4, none⟩ (.string bk.lab)).drew := by
  obtain ⟨V, hV⟩ : ∃ V, V = ((((((w6.setCell ⟨b2, 0, none⟩ (.string s)).setCell ⟨b2, 1, none⟩ (.slice ka (flen k) cap)).setCell ⟨b3, 0, none⟩ (.int .i64 bk.kind)).setCell ⟨b3, 1, none⟩ (.slice pa bk.path.length pc)).setCell ⟨b3, 2, none⟩ (.int .i64 bk.pos)).setCell ⟨b3, 3, none⟩ (.int .i64 bk.many)).setCell ⟨b3, 4, none⟩ (.string bk.lab) := ⟨_, rfl⟩
  have hsame : ∀ q, q ≠ b2 → q ≠ b3 → V.heap[q]? = w6.heap[q]? := fun q q2 q3 => by
    rw [hV]
    rw [Below.heap_setCell _ _ _ _ q3, Below.heap_setCell _ _ _ _ q3, Below.heap_setCell _ _ _ _ q3, Below.heap_setCell _ _ _ _ q3, Below.heap_setCell _ _ _ _ q3, Below.heap_setCell _ _ _ _ q2, Below.heap_setCell _ _ _ _ q2]
  have r1 : TIn V s ka cap k := by rw [hV]; exact TIn.set (TIn.set (TIn.set (TIn.set (TIn.set (TIn.set (TIn.set t1 t5) t5) t6) t6) t6) t6) t6
  have r3 : FPlain V k := by rw [hV]; exact FPlain.set (FPlain.set (FPlain.set (FPlain.set (FPlain.set (FPlain.set (FPlain.set t3 t5) t5) t6) t6) t6) t6) t6
  have r7 : Below w.heap.size w V := by rw [hV]; exact ((((((t7.setCell h2 _).setCell h2 _).setCell h3 _).setCell h3 _).setCell h3 _).setCell h3 _).setCell h3 _
  rw [← hV]
  clear hV
  have rd : Below V.heap.size V V.drew := (Below.refl _ _).drew
  exact ⟨s, ka, cap, k, pa, pc, rfl, rfl, rfl, r1.below rd, t2, r3.below rd, ⟨(show PIn V pa bk.path from by
    rcases hpb with h | h
    · exact Or.inl h
    · exact PIn.block t4.path fun a ha => hsame _ (h a ha).1 (h a ha).2).below rd, t4.len, t4.cap, t4.lab⟩, r7.drew, hnd⟩

/-- The results are laid into their boxes. -/
theorem doEnd_good {w w6 : World} {b2 b3 : Nat} {bk : Dd} {s : ByteArray} {ka : Option Addr} {cap : Nat} {k : Fo} {pa : Option Addr} {pc : Nat} (t1 : TIn w6 s ka cap k) (t2 : FFrom w.heap.size k) (t3 : FPlain w6 k) (t4 : DIn w6 bk pa pc) (t5 : FOff b2 k) (t6 : FOff b3 k) (t7 : Below w.heap.size w w6) (h2 : w.heap.size ≤ b2) (h3 : w.heap.size ≤ b3) (hpb : bk.path = [] ∨ ∀ a, pa = some a → a.block ≠ b2 ∧ a.block ≠ b3) :
    DoEnd (0, (s, strip k), bk) w (.returned (.tuple #[.agg #[.string s, .slice ka (flen k) cap], .agg #[.int .i64 bk.kind, .slice pa bk.path.length pc, .int .i64 bk.pos, .int .i64 bk.many, .string bk.lab], .int .i64 0]))
      (((((((w6.setCell ⟨b2, 0, none⟩ (.string s)).setCell ⟨b2, 1, none⟩ (.slice ka (flen k) cap)).setCell ⟨b3, 0, none⟩ (.int .i64 bk.kind)).setCell ⟨b3, 1, none⟩ (.slice pa bk.path.length pc)).setCell ⟨b3, 2, none⟩ (.int .i64 bk.pos)).setCell ⟨b3, 3, none⟩ (.int .i64 bk.many)).setCell ⟨b3, 4, none⟩ (.string bk.lab)).drew :=
  DoEndN.plain (doEnd_goodN (nd := False) t1 t2 t3 t4 t5 t6 t7 h2 h3 (fun h => h.elim) hpb)

theorem atM_cons (p : Nat) (ps : List Nat) (s : ByteArray) (k : Fo) : atM (p :: ps) s k = match (gsF k)[p]? with
    | none => none
    | some x => atM ps x.1 x.2 := rfl
theorem atT_atM : ∀ (ps : List Int) (s : ByteArray) (ka : Option Addr) (cap : Nat) (k : Fo), (∀ p, p ∈ ps → 0 ≤ p) → ∃ xa xc b, atV (atT (s, ka, cap, k) ps) = .tuple #[.agg #[.string ((atM (nats ps) s k).getD (⟨#[]⟩, .nil)).1, .slice xa (flen ((atM (nats ps) s k).getD (⟨#[]⟩, .nil)).2) xc], .bool b]
  | [], s, ka, cap, k, _ => ⟨ka, cap, true, rfl⟩
  | p :: ps, s, ka, cap, k, h => by
    obtain ⟨p, rfl⟩ := Int.eq_ofNat_of_zero_le (h p (List.mem_cons_self ..))
    have e0 : nats ((p : Int) :: ps) = p :: nats ps := by simp [nats]
    rw [e0]
    by_cases hlt : p < flen k
    · obtain ⟨b', o', x, kk, he⟩ := fdrop_node p k hlt
      rw [atT_in hlt he]
      obtain ⟨xa, xc, b, h1⟩ := atT_atM ps x.1 x.2.1 x.2.2 kk (fun q hq => h q (List.mem_cons_of_mem _ hq))
      refine ⟨xa, xc, b, ?_⟩
      rw [h1]
      have e1 : atM (p :: nats ps) s k = atM (nats ps) x.1 (strip kk) := by
        rw [atM_cons, gs_node he]
      rw [e1, (atM_strip _ _ _).1, (atM_strip _ _ _).2]
    · have e1 : atM (p :: nats ps) s k = none := by
        rw [atM_cons, List.getElem?_eq_none (by rw [gs_len]; omega)]
      rw [atT_out (by simp only; omega), e1]
      exact ⟨none, 0, false, rfl⟩

end Go.Proofs.Ytpgiagkbfnbgkab.Deed
