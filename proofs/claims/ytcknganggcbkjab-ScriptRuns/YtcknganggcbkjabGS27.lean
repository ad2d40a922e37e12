/- The good end of Do: what is answered lies in its boxes; and the node at a path, as At answers it. Of no program. -/
/- Do of package deed, whatever the tree and the deed. Of the program's text. -/
/- thin of package script. Of the program's text. -/
import Derived.Test.YtcknganggcbkjabGS21
import Derived.Test.YtcknganggcbkjabGS09
import Derived.Test.YtcknganggcbkjabGS22
import Derived.Test.YtcknganggcbkjabGS26
import Derived.Test.YtcknganggcbkjabGS14
import Derived.Deep.RegionHeld3
import Derived.Test.YtcknganggcbkjabProg
import Derived.Test.YtcknganggcbkjabGS20
import Derived.Test.YtcknganggcbkjabGS12
import Derived.Test.YtcknganggcbkjabGS17
import Derived.Test.YtcknganggcbkjabGS18
import Derived.Deep.LoopGhost
import Derived.WalkSmall
namespace Go.Proofs.Ytcknganggcbkjab.Deed
open Go.Deep Go.RowKit
set_option linter.unusedVariables false
set_option maxRecDepth 20000

/-- What Do comes to, and, where that is asked, that no two lists of it share memory. -/
def DoEndN (nd : Prop) (fr : Addr → Prop) (r : Int × (ByteArray × Fo) × Dd) (w : World) (e : Ending) (w' : World) : Prop := ∃ s' ka' cap' k' pa' pc', e = .returned (.tuple #[.agg #[.string s', .slice ka' (flen k') cap'], ddV r.2.2 pa' pc', .int .i64 r.1]) ∧ s' = r.2.1.1 ∧ strip k' = r.2.1.2 ∧ TIn w' s' ka' cap' k' ∧ FFrom w.heap.size k' ∧ FPlain w' k' ∧ DIn w' r.2.2 pa' pc' ∧ Below w.heap.size w w' ∧ (nd → (ab k').Nodup) ∧ (r.2.2.path ≠ [] → ∀ a, pa' = some a → fr a)
theorem DoEndN.plain {nd : Prop} {fr : Addr → Prop} {r : Int × (ByteArray × Fo) × Dd} {w : World} {e : Ending} {w' : World} (h : DoEndN nd fr r w e w') : DoEnd r w e w' := by
  obtain ⟨s', ka', cap', k', pa', pc', h1, h2, h3, h4, h5, h6, h7, h8, _⟩ := h
  exact ⟨s', ka', cap', k', pa', pc', h1, h2, h3, h4, h5, h6, h7, h8⟩
theorem DoEndN.bad {nd : Prop} {fr : Addr → Prop} {c : Int} {w w' : World} (h : Below w.heap.size w w') : DoEndN nd fr (c, (⟨#[]⟩, .nil), ⟨0, [], 0, 0, ⟨#[]⟩⟩) w (.returned (.tuple #[.agg #[.string ⟨#[]⟩, .slice none 0 0], .agg #[.int .i64 0, .slice none 0 0, .int .i64 0, .int .i64 0, .string ⟨#[]⟩], .int .i64 c])) w' :=
  ⟨⟨#[]⟩, none, 0, .nil, none, 0, rfl, rfl, rfl, tIn_none _, trivial, trivial, dIn_none _, h, fun _ => List.nodup_nil, fun _ a h => by cases h⟩

/-- In new memory, or in the path that was handed in. -/
def RQ (w : World) (d : Dd) (pa : Option Addr) (a : Addr) : Prop := w.heap.size ≤ a.block ∨ (d.path ≠ [] ∧ ∃ a0, pa = some a0 ∧ a.block = a0.block)

/-- The results are laid into their boxes. -/
theorem doEnd_goodN {w w6 : World} {b2 b3 : Nat} {bk : Dd} {s : ByteArray} {ka : Option Addr} {cap : Nat} {k : Fo} {pa : Option Addr} {pc : Nat} (t1 : TIn w6 s ka cap k) (t2 : FFrom w.heap.size k) (t3 : FPlain w6 k) (t4 : DIn w6 bk pa pc) (t5 : FOff b2 k) (t6 : FOff b3 k) (t7 : Below w.heap.size w w6) (h2 : w.heap.size ≤ b2) (h3 : w.heap.size ≤ b3) {nd : Prop} {fr : Addr → Prop} (hnd : nd → (ab k).Nodup) (hfr : bk.path ≠ [] → ∀ a, pa = some a → fr a) (hpb : bk.path = [] ∨ ∀ a, pa = some a → a.block ≠ b2 ∧ a.block ≠ b3) :
    DoEndN nd fr (0, (s, strip k), bk) w (.returned (.tuple #[.agg #[.string s, .slice ka (flen k) cap], .agg #[.int .i64 bk.kind, .slice pa bk.path.length pc, .int .i64 bk.pos, .int .i64 bk.many, .string bk.lab], .int .i64 0]))
      (((((((w6.setCell ⟨b2, 0, none⟩ (.string s)).setCell ⟨b2, 1, none⟩ (.slice ka (flen k) cap)).setCell ⟨b3, 0, none⟩ (.int .i64 bk.kind)).setCell ⟨b3, 1, none⟩ (.slice pa bk.path.length pc)).setCell ⟨b3, 2, none⟩ (.int .i64 bk.pos)).setCell ⟨b3, 3, none⟩ (.int .i64 bk.many)).setCell ⟨b3, 4, none⟩ (.string bk.lab)).drew := by
  obtain ⟨V, hV⟩ : ∃ V, V = ((((((w6.setCell ⟨b2, 0, none⟩ (.string s)).setCell ⟨b2, 1, none⟩ (.slice ka (flen k) cap)).setCell ⟨b3, 0, none⟩ (.int .i64 bk.kind)).setCell ⟨b3, 1, none⟩ (.slice pa bk.path.length pc)).setCell ⟨b3, 2, none⟩ (.int .i64 bk.pos)).setCell ⟨b3, 3, none⟩ (.int .i64 bk.many)).setCell ⟨b3, 4, none⟩ (.string bk.lab) := ⟨_, rfl⟩
  have hsame : ∀ q, q ≠ b2 → q ≠ b3 → V.heap[q]? = w6.heap[q]? := fun q q2 q3 => by
    rw [hV]
    rw [Below.heap_setCell _ _ _ _ q3, Below.heap_setCell _ _ _ _ q3, Below.heap_setCell _ _ _ _ q3, Below.heap_setCell _ _ _ _ q3, Below.heap_setCell _ _ _ _ q3, Below.heap_setCell _ _ _ _ q2, Below.heap_setCell _ _ _ _ q2]
  have r1 : TIn V s ka cap k := by rw [hV]; exact TIn.set (TIn.set (TIn.set (TIn.set (TIn.set (TIn.set (TIn.set t1 t5) t5) t6) t6) t6) t6) t6
  have r3 : FPlain V k := by rw [hV]; exact FPlain.set (FPlain.set (FPlain.set (FPlain.set (FPlain.set (FPlain.set (FPlain.set t3 t5) t5) t6) t6) t6) t6) t6
  have r7 : Below w.heap.size w V := by rw [hV]; exact ((((((t7.setCell h2 _).setCell h2 _).setCell h3 _).setCell h3 _).setCell h3 _).setCell h3 _).setCell h3 _
  rw [← hV]
  clear hV
  have rd : Below V.heap.size V V.drew := (Below.refl _ _).drew
  exact ⟨s, ka, cap, k, pa, pc, rfl, rfl, rfl, r1.below rd, t2, r3.below rd, ⟨(show PIn V pa bk.path from by
    rcases hpb with h | h
    · exact Or.inl h
    · exact PIn.block t4.path fun a ha => hsame _ (h a ha).1 (h a ha).2).below rd, t4.len, t4.cap, t4.lab⟩, r7.drew, hnd, hfr⟩

/-- The results are laid into their boxes. -/
theorem doEnd_good {w w6 : World} {b2 b3 : Nat} {bk : Dd} {s : ByteArray} {ka : Option Addr} {cap : Nat} {k : Fo} {pa : Option Addr} {pc : Nat} (t1 : TIn w6 s ka cap k) (t2 : FFrom w.heap.size k) (t3 : FPlain w6 k) (t4 : DIn w6 bk pa pc) (t5 : FOff b2 k) (t6 : FOff b3 k) (t7 : Below w.heap.size w w6) (h2 : w.heap.size ≤ b2) (h3 : w.heap.size ≤ b3) (hpb : bk.path = [] ∨ ∀ a, pa = some a → a.block ≠ b2 ∧ a.block ≠ b3) :
    DoEnd (0, (s, strip k), bk) w (.returned (.tuple #[.agg #[.string s, .slice ka (flen k) cap], .agg #[.int .i64 bk.kind, .slice pa bk.path.length pc, .int .i64 bk.pos, .int .i64 bk.many, .string bk.lab], .int .i64 0]))
      (((((((w6.setCell ⟨b2, 0, none⟩ (.string s)).setCell ⟨b2, 1, none⟩ (.slice ka (flen k) cap)).setCell ⟨b3, 0, none⟩ (.int .i64 bk.kind)).setCell ⟨b3, 1, none⟩ (.slice pa bk.path.length pc)).setCell ⟨b3, 2, none⟩ (.int .i64 bk.pos)).setCell ⟨b3, 3, none⟩ (.int .i64 bk.many)).setCell ⟨b3, 4, none⟩ (.string bk.lab)).drew :=
  DoEndN.plain (doEnd_goodN (nd := False) (fr := fun _ => True) t1 t2 t3 t4 t5 t6 t7 h2 h3 (fun h => h.elim) (fun _ _ _ => trivial) hpb)

theorem atM_cons (p : Nat) (ps : List Nat) (s : ByteArray) (k : Fo) : atM (p :: ps) s k = match (gsF k)[p]? with
    | none => none
    | some x => atM ps x.1 x.2 := rfl
theorem atT_atM : ∀ (ps : List Int) (s : ByteArray) (ka : Option Addr) (cap : Nat) (k : Fo), (∀ p, p ∈ ps → 0 ≤ p) → ∃ xa xc b, atV (atT (s, ka, cap, k) ps) = .tuple #[.agg #[.string ((atM (nats ps) s k).getD (⟨#[]⟩, .nil)).1, .slice xa (flen ((atM (nats ps) s k).getD (⟨#[]⟩, .nil)).2) xc], .bool b]
  | [], s, ka, cap, k, _ => ⟨ka, cap, true, rfl⟩
  | p :: ps, s, ka, cap, k, h => by
    obtain ⟨p, rfl⟩ := Int.eq_ofNat_of_zero_le (h p (List.mem_cons_self ..))
    have e0 : nats ((p : Int) :: ps) = p :: nats ps := by simp [nats]
    rw [e0]
    by_cases hlt : p < flen k
    · obtain ⟨b', o', x, kk, he⟩ := fdrop_node p k hlt
      rw [atT_in hlt he]
      obtain ⟨xa, xc, b, h1⟩ := atT_atM ps x.1 x.2.1 x.2.2 kk (fun q hq => h q (List.mem_cons_of_mem _ hq))
      refine ⟨xa, xc, b, ?_⟩
      rw [h1]
      have e1 : atM (p :: nats ps) s k = atM (nats ps) x.1 (strip kk) := by
        rw [atM_cons, gs_node he]
      rw [e1, (atM_strip _ _ _).1, (atM_strip _ _ _).2]
    · have e1 : atM (p :: nats ps) s k = none := by
        rw [atM_cons, List.getElem?_eq_none (by rw [gs_len]; omega)]
      rw [atT_out (by simp only; omega), e1]
      exact ⟨none, 0, false, rfl⟩

end Go.Proofs.Ytcknganggcbkjab.Deed
namespace Go.Proofs.Ytcknganggcbkjab.Deed
open Go.Deep Go.RowKit
set_option linter.unusedVariables false
set_option maxRecDepth 20000

set_option maxHeartbeats 4000000 in
theorem pdo_rest (d : Dd) (s : ByteArray) (ka : Option Addr) (cap : Nat) (k : Fo) (pa : Option Addr) (pc : Nat) (w : World) (ht : TIn w s ka cap k) (hp : FPlain w k) (hn : 1 + fnodes k ≤ 200) (hs : s.size ≤ 1000) (hsm : SmallF k) (hd : DIn w d pa pc) (hpl : d.path.length ≤ 60) (hdl : d.lab.size ≤ 100) (h1 : faultT s k = 0) (h2 : deedFault d = 0) :
    Calls Try.prog 25 #[.agg #[.string s, .slice ka (flen k) cap], ddV d pa pc] w (DoEndN (d.kind = 3 ∧ d.path = []) (fun a => w.heap.size ≤ a.block) (doP d s k) w) := by
  obtain ⟨W, hW⟩ : ∃ W, W = (((w.alloc (Obj.cells #[Value.string s, Value.slice ka (flen k) cap] 24)).alloc (Obj.cells #[.int .i64 d.kind, .slice pa d.path.length pc, .int .i64 d.pos, .int .i64 d.many, .string d.lab] 44)).alloc (Obj.cells #[Value.string ⟨#[]⟩, Value.slice none 0 0] 24)).alloc (Obj.cells #[.int .i64 0, .slice none 0 0, .int .i64 0, .int .i64 0, .string ⟨#[]⟩] 44) := ⟨_, rfl⟩
  obtain ⟨hWs, hB, c0, c1, c2, c3⟩ := boxes4 w (Obj.cells #[Value.string s, Value.slice ka (flen k) cap] 24) (Obj.cells #[.int .i64 d.kind, .slice pa d.path.length pc, .int .i64 d.pos, .int .i64 d.many, .string d.lab] 44) (Obj.cells #[Value.string ⟨#[]⟩, Value.slice none 0 0] 24) (Obj.cells #[.int .i64 0, .slice none 0 0, .int .i64 0, .int .i64 0, .string ⟨#[]⟩] 44)
  rw [← hW] at hWs hB c0 c1 c2 c3
  have hf := check_any s ka cap k W (ht.below hB) (hp.below hB) hn
  rw [h1] at hf
  have HF := hide hf
  have hD : ∀ W', Below W.heap.size W W' → Calls Try.prog 27 #[ddV d pa pc] W' fun e w' => e = .returned (.int .i64 0) ∧ Below W'.heap.size W' w' := fun W' h => by
    rw [← h2]
    exact dcheck_any d pa pc W' (hd.below (hB.trans (h.mono (by omega))))
  unfold ddV at hD
  have HD := hide hD
  have hO : ∀ W', Below W.heap.size W W' → Calls Try.prog 54 #[.agg #[.string s, .slice ka (flen k) cap]] W' _ := fun W' h => own_nd s ka cap k W' (ht.below (hB.trans (h.mono (by omega)))) (hp.below (hB.trans (h.mono (by omega)))) hn hs hsm
  have HO := hide hO
  have HC := hide (And.intro hB (And.intro c0 (And.intro c1 (And.intro c2 c3))))
  have HX := hide (And.intro hd (And.intro h1 h2))
  clear hB c0 c1 c2 c3 ht hp hf hD hd h1 h2 hO
  unfold ddV
  go_enter Try.func25, Try.ntmps25
  go_wp2_with fail
  rw [← hW]
  clear hW
  refine Calls.mono HF.out ?_
  rintro e w1 ⟨rfl, hb1⟩
  have e1 : w1.heap[w.heap.size + 1]? = _ := (hb1.block _ (by omega)).trans HC.out.2.2.1
  have d0 : w1.cell? ⟨w.heap.size + 1, 0, none⟩ = some (.int .i64 d.kind) := by rw [cell_of_row _ _ 0 _ _ _ e1]; rfl
  have d1 : w1.cell? ⟨w.heap.size + 1, 1, none⟩ = some (.slice pa d.path.length pc) := by rw [cell_of_row _ _ 1 _ _ _ e1]; rfl
  have d2 : w1.cell? ⟨w.heap.size + 1, 2, none⟩ = some (.int .i64 d.pos) := by rw [cell_of_row _ _ 2 _ _ _ e1]; rfl
  have d3 : w1.cell? ⟨w.heap.size + 1, 3, none⟩ = some (.int .i64 d.many) := by rw [cell_of_row _ _ 3 _ _ _ e1]; rfl
  have d4 : w1.cell? ⟨w.heap.size + 1, 4, none⟩ = some (.string d.lab) := by rw [cell_of_row _ _ 4 _ _ _ e1]; rfl
  have HB1 := hide hb1
  clear e1 hb1 HF
  go_wp2_with fail
  refine Calls.mono (HD.out _ HB1.out) ?_
  rintro e w2 ⟨rfl, hb2'⟩
  have hb2 : Below W.heap.size W w2 := HB1.out.trans (hb2'.mono HB1.out.size)
  have e0 : w2.heap[w.heap.size]? = _ := (hb2.block _ (by omega)).trans HC.out.2.1
  have a0 : w2.cell? ⟨w.heap.size, 0, none⟩ = some (.string s) := by rw [cell_of_row _ _ 0 _ _ _ e0]; rfl
  have a1 : w2.cell? ⟨w.heap.size, 1, none⟩ = some (.slice ka (flen k) cap) := by rw [cell_of_row _ _ 1 _ _ _ e0]; rfl
  have HB2 := hide hb2
  clear e0 hb2' hb2 d0 d1 d2 d3 d4 HD HB1
  go_wp2_with fail
  refine Calls.mono (HO.out _ HB2.out) ?_
  rintro e w3 ⟨ka', cap', k', rfl, hst, htk, hfr, hpk, hnd, hb3'⟩
  have hb3 : Below W.heap.size W w3 := HB2.out.trans (hb3'.mono HB2.out.size)
  have s2 := HB2.out.size
  have s3 := hb3.size
  obtain ⟨V, hV⟩ : ∃ V, V = w3.alloc (Obj.cells #[Value.string s, Value.slice ka' (flen k') cap'] 24) := ⟨_, rfl⟩
  have bV : Below W.heap.size W V := by rw [hV]; exact hb3.alloc s3 _
  have b3V : Below w3.heap.size w3 V := by rw [hV]; exact (Below.refl _ _).alloc (Nat.le_refl _) _
  have sV : V.heap.size = w3.heap.size + 1 := by rw [hV]; simp
  have nV : V.heap[w3.heap.size]? = some (Obj.cells #[Value.string s, Value.slice ka' (flen k') cap'] 24) := by rw [hV]; exact heap_alloc_new _ _
  have e1 : V.heap[w.heap.size + 1]? = _ := (bV.block _ (by omega)).trans HC.out.2.2.1
  have d0 : V.cell? ⟨w.heap.size + 1, 0, none⟩ = some (.int .i64 d.kind) := by rw [cell_of_row _ _ 0 _ _ _ e1]; rfl
  have d1 : V.cell? ⟨w.heap.size + 1, 1, none⟩ = some (.slice pa d.path.length pc) := by rw [cell_of_row _ _ 1 _ _ _ e1]; rfl
  have d2 : V.cell? ⟨w.heap.size + 1, 2, none⟩ = some (.int .i64 d.pos) := by rw [cell_of_row _ _ 2 _ _ _ e1]; rfl
  have d3 : V.cell? ⟨w.heap.size + 1, 3, none⟩ = some (.int .i64 d.many) := by rw [cell_of_row _ _ 3 _ _ _ e1]; rfl
  have d4 : V.cell? ⟨w.heap.size + 1, 4, none⟩ = some (.string d.lab) := by rw [cell_of_row _ _ 4 _ _ _ e1]; rfl
  have hfn := fnodes_of_strip hst
  obtain ⟨hab1, hab2⟩ : NodIn V ⟨w3.heap.size, 0, s, ka', cap', k'⟩ ∧ NodOne ⟨w3.heap.size, 0, s, ka', cap', k'⟩ := by
    refine ⟨⟨?_, ?_, htk.below b3V⟩, ⟨fun h => ?_, hnd⟩⟩
    · simp only
      rw [cell_of_row _ _ 0 _ _ _ nV]; rfl
    · simp only
      rw [cell_of_row _ _ (0 + 1) _ _ _ nV]; rfl
    · have := ab_lt htk.kids _ h
      simp at this
  have hcg := change_any ⟨w3.heap.size, 0, s, ka', cap', k'⟩ d pa pc V hab1 hab2 ⟨_, _, nV⟩ (hpk.below b3V) (HX.out.1.below (HC.out.1.trans (bV.mono (by omega)))) HX.out.2.2 (by simp only; omega) hpl hdl
  unfold ddV at hcg
  simp only at hcg
  have HCG := hide hcg
  have HV := hide (And.intro bV (And.intro hst (And.intro hfr (And.intro hfn hnd))))
  clear hcg bV b3V nV e1 hab1 hab2 hst htk hfr hpk hnd hb3' hb3 hfn HO a0 a1
  rw [hV] at d0 d1 d2 d3 d4
  go_wp2_with fail
  rw [← hV]
  clear hV d0 d1 d2 d3 d4
  refine Calls.mono HCG.out ?_
  intro e w5 he
  obtain ⟨hbV, hst, hfr, hfn, hnd⟩ := HV.out
  have hw5 : ∀ q, q < w.heap.size + 4 → w5.heap[q]? = W.heap[q]? := fun q hq => by
    rw [← hbV.block q (by omega)]
    rcases he with ⟨_, _, h3⟩ | ⟨n', pa', pc', _, _, _, _, _, _, _, _, _, _, h11, _⟩
    · exact h3.block _ (by omega)
    · exact h11 _ (by omega) (by simp only; omega) (hfr.off (by omega))
  have hst2 : doneP d s (strip k') = doneP d s (strip k) := by rw [hst]
  rcases he with ⟨hne, he, hb5⟩ | ⟨n', pa', pc', hdn, he, hnb, hno, hni, hnp, hnB, hdi, hpb, _, _, hnd3⟩
  · subst he
    simp only at hne ⊢
    have hcode : (doneP d s (strip k')).1 = (doneP d s k).1 := by rw [hst2, (doneP_str d s k).1]
    rw [hcode] at hne ⊢
    have HR := hide (show doP d s k = ((doneP d s k).1, (⟨#[]⟩, .nil), ⟨0, [], 0, 0, ⟨#[]⟩⟩) by
      unfold doP
      rw [if_neg (fun h' => h' HX.out.2.1), if_neg (fun h' => h' HX.out.2.2), if_pos hne])
    obtain ⟨c, hc⟩ : ∃ c, c = (doneP d s k).1 := ⟨_, rfl⟩
    rw [← hc] at hne HR ⊢
    have hbb : (c == 0) = false := beq_eq_false_iff_ne.2 hne
    have hbb2 : (c != 0) = true := by simp [bne, hbb]
    have e2 : w5.heap[w.heap.size + 1 + 1]? = _ := (hw5 _ (by omega)).trans HC.out.2.2.2.1
    have e3 : w5.heap[w.heap.size + 1 + 1 + 1]? = _ := (hw5 _ (by omega)).trans HC.out.2.2.2.2
    have HB := hide (show Below w.heap.size w w5 from HC.out.1.trans ((hbV.mono (by omega)).trans (hb5.mono (by omega))))
    have sz5 : V.heap.size ≤ w5.heap.size := hb5.size
    clear hcode hst2 hc hne hbV hst hfr hfn hw5 hb5 HCG HV
    obtain ⟨U, hU⟩ : ∃ U, U = w5.alloc (Obj.cells #[.int .i64 0, .slice none 0 0, .int .i64 0, .int .i64 0, .string ⟨#[]⟩] 44) := ⟨_, rfl⟩
    have bU : Below w.heap.size w U := by rw [hU]; exact HB.out.alloc (by omega) _
    have f2' : U.heap[w.heap.size + 1 + 1]? = _ := (by rw [hU]; exact Below.heap_alloc _ _ _ (by omega) : U.heap[w.heap.size + 1 + 1]? = w5.heap[w.heap.size + 1 + 1]?).trans e2
    have f3' : U.heap[w.heap.size + 1 + 1 + 1]? = _ := (by rw [hU]; exact Below.heap_alloc _ _ _ (by omega) : U.heap[w.heap.size + 1 + 1 + 1]? = w5.heap[w.heap.size + 1 + 1 + 1]?).trans e3
    have q20 : U.cell? ⟨w.heap.size + 1 + 1, 0, none⟩ = some (.string ⟨#[]⟩) := by rw [cell_of_row _ _ 0 _ _ _ f2']; rfl
    have q21 : U.cell? ⟨w.heap.size + 1 + 1, 1, none⟩ = some (.slice none 0 0) := by rw [cell_of_row _ _ 1 _ _ _ f2']; rfl
    have f2 : ∀ o, U.frozen? ⟨w.heap.size + 1 + 1, o, none⟩ = false := fun o => by simp [World.frozen?, f2']
    have f3 : ∀ o, U.frozen? ⟨w.heap.size + 1 + 1 + 1, o, none⟩ = false := fun o => by simp [World.frozen?, f3']
    have q30 : U.cell? ⟨w.heap.size + 1 + 1 + 1, 0, none⟩ = some (.int .i64 0) := by rw [cell_of_row _ _ 0 _ _ _ f3']; rfl
    have q31 : U.cell? ⟨w.heap.size + 1 + 1 + 1, 1, none⟩ = some (.slice none 0 0) := by rw [cell_of_row _ _ 1 _ _ _ f3']; rfl
    have q32 : U.cell? ⟨w.heap.size + 1 + 1 + 1, 2, none⟩ = some (.int .i64 0) := by rw [cell_of_row _ _ 2 _ _ _ f3']; rfl
    have q33 : U.cell? ⟨w.heap.size + 1 + 1 + 1, 3, none⟩ = some (.int .i64 0) := by rw [cell_of_row _ _ 3 _ _ _ f3']; rfl
    have q34 : U.cell? ⟨w.heap.size + 1 + 1 + 1, 4, none⟩ = some (.string ⟨#[]⟩) := by rw [cell_of_row _ _ 4 _ _ _ f3']; rfl
    have HU := hide bU
    clear e2 e3 f2' f3' bU HB HC HX
    unfold ddV noDd
    simp only [List.length_nil]
    rw [hU] at q20 q21 f2 f3 q30 q31 q32 q33 q34
    go_wp2_with fail
    rw [HR.out]
    refine bodyPost_ret (v := .tuple #[.agg #[.string ⟨#[]⟩, .slice none 0 0], .agg #[.int .i64 0, .slice none 0 0, .int .i64 0, .int .i64 0, .string ⟨#[]⟩], .int .i64 c]) (by simp [results, Try.results25, go_sem, *]) rfl (DoEndN.bad ?_)
    rw [← hU]
    exact ((((((HU.out.setCell (by simp only; omega) _).setCell (by simp only; omega) _).setCell (by simp only; omega) _).setCell (by simp only; omega) _).setCell (by simp only; omega) _).setCell (by simp only; omega) _).setCell (by simp only; omega) _
  · subst he
    simp only at hdn hnb hno hnB hdi hnd3 ⊢
    have HND := hide (show d.kind = 3 ∧ d.path = [] → (ab n'.k).Nodup from fun h => hnd3 h.1 h.2 hnd)
    clear hnd3 hnd
    have hfz := (fault_zero HX.out.2.1).1
    have hdk : doneP d s k = (0, n'.s, strip n'.k) := by
      have h0 : (doneP d s k).1 = 0 := by rw [← (doneP_str d s k).1, ← hst2, hdn]
      rw [← (doneP_str d s k).2 h0, ← hst2, hdn]
    have hbk : backP d s (strip k') = backP d s k := by rw [hst, backP_strip]
    rw [hbk] at hdi ⊢
    have hfew := doneP_few d s (strip k') n'.s (strip n'.k) hdn
    rw [fnodes_strip, fnodes_strip] at hfew
    obtain ⟨bk, hbk2⟩ : ∃ bk, bk = backP d s k := ⟨_, rfl⟩
    rw [← hbk2] at hdi ⊢
    obtain ⟨hfrB, hbB⟩ := hnB W.heap.size (by omega) (by omega) (hfr.mono (by omega))
    have sz5 := hbB.size
    have sV5 : V.heap.size ≤ w5.heap.size := by
      have := (hnB 0 (Nat.zero_le _) (Nat.zero_le _) (hfr.mono (Nat.zero_le _))).2.size
      exact this
    obtain ⟨U, hU⟩ : ∃ U, U = w5.alloc (Obj.cells #[.int .i64 bk.kind, .slice pa' bk.path.length pc', .int .i64 bk.pos, .int .i64 bk.many, .string bk.lab] 44) := ⟨_, rfl⟩
    have b5U : Below w5.heap.size w5 U := by rw [hU]; exact (Below.refl _ _).alloc (Nat.le_refl _) _
    have sU : U.heap.size = w5.heap.size + 1 := by rw [hU]; simp
    have nU : U.heap[w5.heap.size]? = some (Obj.cells #[.int .i64 bk.kind, .slice pa' bk.path.length pc', .int .i64 bk.pos, .int .i64 bk.many, .string bk.lab] 44) := by rw [hU]; exact heap_alloc_new _ _
    have hniU := hni.below b5U
    have u0 := hniU.c0
    have u1 := hniU.c1
    rw [hnb, hno] at u0 u1
    rw [Nat.zero_add] at u1
    have HCK := hide (check_any n'.s n'.ka n'.cap n'.k U hniU.tin (hnp.below b5U) (by omega))
    have HW5 := hide (And.intro hw5 (And.intro hfrB (And.intro hbB (And.intro hniU (And.intro (hnp.below b5U) (And.intro (hdi.below b5U) (And.intro hpb (And.intro nU (And.intro hdk (And.intro hbk2 (And.intro hbV b5U)))))))))))
    have l3 : w3.heap.size < w5.heap.size := by omega
    clear hst2 hdn hnb hno hni hnp hnB hdi hpb hdk hbk hbk2 hfew hfz hfrB hbB b5U nU hniU hw5 hbV hst hfr hfn HCG HV
    obtain ⟨c, hc⟩ : ∃ c, c = faultT n'.s n'.k := ⟨_, rfl⟩
    rw [← hc] at HCK
    unfold ddV
    rw [hU] at u0 u1
    go_wp2_with fail
    rw [← hU]
    rw [← hU] at u0 u1
    clear hU
    refine Calls.mono HCK.out ?_
    rintro e w6 ⟨rfl, hb6⟩
    obtain ⟨hw5, hfrB, hbB, hniU, hnpU, hdiU, hpb, nU, hdk, hbk2, hbV, b5U⟩ := HW5.out
    have s6 := hb6.size
    have hb56 : ∀ q, q < w.heap.size + 4 → w6.heap[q]? = W.heap[q]? := fun q hq => by
      rw [hb6.block q (by omega), b5U.block q (by omega), hw5 q hq]
    have e2 : w6.heap[w.heap.size + 1 + 1]? = _ := (hb56 _ (by omega)).trans HC.out.2.2.2.1
    have e3 : w6.heap[w.heap.size + 1 + 1 + 1]? = _ := (hb56 _ (by omega)).trans HC.out.2.2.2.2
    have q20 : w6.cell? ⟨w.heap.size + 1 + 1, 0, none⟩ = some (.string ⟨#[]⟩) := by rw [cell_of_row _ _ 0 _ _ _ e2]; rfl
    have q21 : w6.cell? ⟨w.heap.size + 1 + 1, 1, none⟩ = some (.slice none 0 0) := by rw [cell_of_row _ _ 1 _ _ _ e2]; rfl
    have f2 : ∀ o, w6.frozen? ⟨w.heap.size + 1 + 1, o, none⟩ = false := fun o => by simp [World.frozen?, e2]
    have f3 : ∀ o, w6.frozen? ⟨w.heap.size + 1 + 1 + 1, o, none⟩ = false := fun o => by simp [World.frozen?, e3]
    have q30 : w6.cell? ⟨w.heap.size + 1 + 1 + 1, 0, none⟩ = some (.int .i64 0) := by rw [cell_of_row _ _ 0 _ _ _ e3]; rfl
    have q31 : w6.cell? ⟨w.heap.size + 1 + 1 + 1, 1, none⟩ = some (.slice none 0 0) := by rw [cell_of_row _ _ 1 _ _ _ e3]; rfl
    have q32 : w6.cell? ⟨w.heap.size + 1 + 1 + 1, 2, none⟩ = some (.int .i64 0) := by rw [cell_of_row _ _ 2 _ _ _ e3]; rfl
    have q33 : w6.cell? ⟨w.heap.size + 1 + 1 + 1, 3, none⟩ = some (.int .i64 0) := by rw [cell_of_row _ _ 3 _ _ _ e3]; rfl
    have q34 : w6.cell? ⟨w.heap.size + 1 + 1 + 1, 4, none⟩ = some (.string ⟨#[]⟩) := by rw [cell_of_row _ _ 4 _ _ _ e3]; rfl
    have hBW : Below w.heap.size w w6 := HC.out.1.trans ((hbV.mono (by omega)).trans ((hbB.mono (by omega)).trans ((b5U.mono (by omega)).trans (hb6.mono (by omega)))))
    by_cases hc0 : c = 0
    · have HR := hide (show doP d s k = (0, (n'.s, strip n'.k), bk) by
        rw [hbk2]
        exact doP_of HX.out.2.1 HX.out.2.2 hdk (by simp only; rw [faultT_strip, ← hc]; exact hc0))
      subst hc0
      have v0 : w6.cell? ⟨w3.heap.size, 0, none⟩ = some (.string n'.s) := by rw [hb6.cell (show w3.heap.size < U.heap.size by omega)]; exact u0
      have v1 : w6.cell? ⟨w3.heap.size, 1, none⟩ = some (.slice n'.ka (flen n'.k) n'.cap) := by rw [hb6.cell (show w3.heap.size < U.heap.size by omega)]; exact u1
      have n6 := (hb6.block w5.heap.size (by omega)).trans nU
      have y0 : w6.cell? ⟨w5.heap.size, 0, none⟩ = some (.int .i64 bk.kind) := by rw [cell_of_row _ _ 0 _ _ _ n6]; rfl
      have y1 : w6.cell? ⟨w5.heap.size, 1, none⟩ = some (.slice pa' bk.path.length pc') := by rw [cell_of_row _ _ 1 _ _ _ n6]; rfl
      have y2 : w6.cell? ⟨w5.heap.size, 2, none⟩ = some (.int .i64 bk.pos) := by rw [cell_of_row _ _ 2 _ _ _ n6]; rfl
      have y3 : w6.cell? ⟨w5.heap.size, 3, none⟩ = some (.int .i64 bk.many) := by rw [cell_of_row _ _ 3 _ _ _ n6]; rfl
      have y4 : w6.cell? ⟨w5.heap.size, 4, none⟩ = some (.string bk.lab) := by rw [cell_of_row _ _ 4 _ _ _ n6]; rfl
      have o2 : FOff (w.heap.size + 1 + 1) n'.k := hfrB.off (by omega)
      have o3 : FOff (w.heap.size + 1 + 1 + 1) n'.k := hfrB.off (by omega)
      have HT := hide (And.intro (hniU.tin.below hb6) (And.intro (hfrB.mono (show w.heap.size ≤ W.heap.size by omega)) (And.intro (hnpU.below hb6) (And.intro (hdiU.below hb6) (And.intro o2 (And.intro o3 hBW))))))
      have HPB := hide hpb
      clear hc hw5 hfrB hbB hniU hnpU hdiU hpb nU hdk hbk2 hbV b5U hb56 hb6 e2 e3 hBW n6 o2 o3 u0 u1 HCK HW5 HC HX
      go_wp2_with fail
      go_region
      go_wp2_with fail
      rw [HR.out]
      refine bodyPost_ret (v := .tuple #[.agg #[.string n'.s, .slice n'.ka (flen n'.k) n'.cap], .agg #[.int .i64 bk.kind, .slice pa' bk.path.length pc', .int .i64 bk.pos, .int .i64 bk.many, .string bk.lab], .int .i64 0]) (by simp [results, Try.results25, go_sem, *]) rfl ?_
      obtain ⟨t1, t2, t3, t4, t5, t6, t7⟩ := HT.out
      exact doEnd_goodN t1 t2 t3 t4 t5 t6 t7 (by omega) (by omega) HND.out (fun _ a ha => by have := HPB.out a ha; omega) (Or.inr fun a ha => ⟨by have := HPB.out a ha; omega, by have := HPB.out a ha; omega⟩)
    · have HR := hide (show doP d s k = (c, (⟨#[]⟩, .nil), ⟨0, [], 0, 0, ⟨#[]⟩⟩) by
        unfold doP
        rw [if_neg (fun h' => h' HX.out.2.1), if_neg (fun h' => h' HX.out.2.2), if_neg (by rw [hdk]; simp), hdk, if_pos (by simp only; rw [faultT_strip, ← hc]; exact hc0)]
        simp only
        rw [faultT_strip, ← hc])
      have hbb : (c == 0) = false := beq_eq_false_iff_ne.2 hc0
      have hbb2 : (c != 0) = true := by simp [bne, hbb]
      have HU := hide hBW
      clear hc hc0 hw5 hfrB hbB hniU hnpU hdiU hpb nU hdk hbk2 hbV b5U hb56 hb6 e2 e3 hBW u0 u1 HCK HW5 HC HX
      go_wp2_with fail
      rw [HR.out]
      refine bodyPost_ret (v := .tuple #[.agg #[.string ⟨#[]⟩, .slice none 0 0], .agg #[.int .i64 0, .slice none 0 0, .int .i64 0, .int .i64 0, .string ⟨#[]⟩], .int .i64 c]) (by simp [results, Try.results25, go_sem, *]) rfl (DoEndN.bad ?_)
      exact ((((((HU.out.setCell (by simp only; omega) _).setCell (by simp only; omega) _).setCell (by simp only; omega) _).setCell (by simp only; omega) _).setCell (by simp only; omega) _).setCell (by simp only; omega) _).setCell (by simp only; omega) _

/-- Do, whatever the tree and the deed. -/
theorem pdo_any (d : Dd) (s : ByteArray) (ka : Option Addr) (cap : Nat) (k : Fo) (pa : Option Addr) (pc : Nat) (w : World) (ht : TIn w s ka cap k) (hp : FPlain w k) (hn : 1 + fnodes k ≤ 200) (hs : s.size ≤ 1000) (hsm : SmallF k) (hd : DIn w d pa pc) (hpl : d.path.length ≤ 60) (hdl : d.lab.size ≤ 100) :
    Calls Try.prog 25 #[.agg #[.string s, .slice ka (flen k) cap], ddV d pa pc] w (DoEnd (doP d s k) w) := by
  by_cases h1 : faultT s k = 0
  · by_cases h2 : deedFault d = 0
    · exact (pdo_rest d s ka cap k pa pc w ht hp hn hs hsm hd hpl hdl h1 h2).mono fun e w' h => h.plain
    · exact pdo_bad2 d s ka cap k pa pc w ht hp hn hd h1 h2
  · exact pdo_bad1 d s ka cap k pa pc w ht hp hn h1
/-- Done, the path of what undoes it lies in new memory. -/
theorem pdo_good (d : Dd) (s : ByteArray) (ka : Option Addr) (cap : Nat) (k : Fo) (pa : Option Addr) (pc : Nat) (w : World) (ht : TIn w s ka cap k) (hp : FPlain w k) (hn : 1 + fnodes k ≤ 200) (hs : s.size ≤ 1000) (hsm : SmallF k) (hd : DIn w d pa pc) (hpl : d.path.length ≤ 60) (hdl : d.lab.size ≤ 100) (h0 : (doP d s k).1 = 0) :
    Calls Try.prog 25 #[.agg #[.string s, .slice ka (flen k) cap], ddV d pa pc] w (DoEndN (d.kind = 3 ∧ d.path = []) (fun a => w.heap.size ≤ a.block) (doP d s k) w) := by
  have h1 : faultT s k = 0 := by
    by_cases h : faultT s k = 0
    · exact h
    · exfalso
      unfold doP at h0
      rw [if_pos h] at h0
      exact h h0
  have h2 : deedFault d = 0 := by
    by_cases h : deedFault d = 0
    · exact h
    · exfalso
      unfold doP at h0
      rw [if_neg (by simp [h1]), if_pos h] at h0
      exact h h0
  exact pdo_rest d s ka cap k pa pc w ht hp hn hs hsm hd hpl hdl h1 h2
end Go.Proofs.Ytcknganggcbkjab.Deed
namespace Go.Proofs.Ytcknganggcbkjab.Scr
open Go.Deep Go.RowKit Deed
set_option linter.unusedVariables false
set_option maxRecDepth 20000

/-- What thin tells. -/
def ThinEnd (X : Th) (w : World) (e : Ending) (w' : World) : Prop := ∃ x ka cap kk va vc ua uc A K, e = .returned (.tuple #[.agg #[.string x, .slice ka (flen kk) cap], .slice va (List.length (α := Deed.Pd) A) vc, .slice ua (List.length (α := Deed.Pd) K) uc]) ∧ X.t = (x, strip kk) ∧ dds A = X.away ∧ dds K = X.back.reverse ∧ TIn w' x ka cap kk ∧ FPlain w' kk ∧ Row w.heap.size w' (.slice va A.length vc) A ∧ Row w.heap.size w' (.slice ua K.length uc) K ∧ Below w.heap.size w w'
/-- The nodes of a good tree, in memory of one's own. -/
theorem of_good (s : ByteArray) (ka : Option Addr) (cap : Nat) (k : Fo) (w : World) (ht : TIn w s ka cap k) (hp : FPlain w k) (hf : faultT s k = 0) :
    Calls Try.prog 43 #[.agg #[.string s, .slice ka (flen k) cap]] w fun e w' => ∃ va vc, e = .returned (.tuple #[.slice va (fnodes k + 1) vc, .int .i64 0]) ∧ fnodes k + 1 ≤ vc ∧ vc ≤ maxLen ∧ w'.ownsRow w.heap.size 35 3 (.slice va (fnodes k + 1) vc) (fnodes k + 1) (ndCells (ndT 0 s k (-1))) ∧ Below w.heap.size w w' := by
  refine (of_of (fun c => c = 0) s ka cap k w ht (fun _ => hf) fun W hW => ?_).mono ?_
  · have h := check_any s ka cap k W (ht.below hW) (hp.below hW) (by have := (fault_zero hf).1; omega)
    rw [hf] at h
    exact h.mono fun e w' h => ⟨⟨0, rfl, h.1⟩, h.2⟩
  · rintro e w' ⟨h | ⟨_, v, rfl, hrow⟩, hb⟩
    · obtain ⟨c, h1, h2, _⟩ := h
      exact absurd h1 h2
    · obtain ⟨va, vc, rfl, h1, h2⟩ := ownsN_form hrow
      exact ⟨va, vc, rfl, h1, h2, hrow, hb⟩
theorem labs_small {s : ByteArray} {k : Fo} (h : faultT s k = 0) : ∀ x, x ∈ ndT 0 s k (-1) → x.lab.size ≤ 6 := ndT_labs (fault_zero h).2.2
/-- The path of a node, by the nodes. -/
theorem path_nd (s : ByteArray) (k : Fo) (va : Option Addr) (vc B : Nat) (n : Nat) (w : World) (hf : faultT s k = 0) (hr : w.ownsRow B 35 3 (.slice va (fnodes k + 1) vc) (fnodes k + 1) (ndCells (ndT 0 s k (-1)))) (hc1 : fnodes k + 1 ≤ vc) (hc2 : vc ≤ maxLen) (hn : n < fnodes k + 1) :
    Calls Try.prog 90 #[.slice va (fnodes k + 1) vc, .int .i64 (n : Int)] w fun e w' => ∃ pa pc, e = .returned (.slice pa (ints (pathP (ndT 0 s k (-1)) n)).length pc) ∧ DIn w' ⟨2, ints (pathP (ndT 0 s k (-1)) n), 0, 0, ⟨#[]⟩⟩ pa pc ∧ (∀ a, pa = some a → w.heap.size ≤ a.block) ∧ (ints (pathP (ndT 0 s k (-1)) n)).length ≤ 40 ∧ Below w.heap.size w w' := by
  have hl : (ndT 0 s k (-1)).length = fnodes k + 1 := ndT_length _ _ _ _
  have hok : TOk (ndT 0 s k (-1)) s (strip k) := ⟨growP_ndT s k, by rw [faultT_strip]; exact hf, ndT_strip _ _ _ _⟩
  have h := path_good va vc (ndT 0 s k (-1)) s (strip k) n w (NIn_of_owns hr (labs_small hf)) hok (by omega) (by omega) hc2
  rw [hl] at h
  refine h.mono ?_
  rintro e w' ⟨v, rfl, ho, hb⟩
  obtain ⟨pa, pc, rfl, h1, h2⟩ := ownsN_form ho
  have hpl : (pathP (ndT 0 s k (-1)) n).length ≤ 40 := by
    unfold pathP
    rw [List.length_reverse]
    have := pathUp_len (ndT 0 s k (-1)) (ndT 0 s k (-1)).length n
    have := (fault_zero hf).1
    omega
  exact ⟨pa, pc, by simp [ints], ⟨PIn_of_owns ho, by simpa [ints] using h1, h2, (show ByteArray.size ⟨#[]⟩ ≤ maxLen by decide)⟩, fun a ha => (ownBlockN_lt ho (g := a.block) (by rw [ha]; rfl)).1, by simpa [ints] using hpl, hb⟩

end Go.Proofs.Ytcknganggcbkjab.Scr
