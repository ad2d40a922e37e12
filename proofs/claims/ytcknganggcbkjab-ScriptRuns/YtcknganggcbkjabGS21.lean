/- done of package pleachingref, whatever the good deed. Of the program's text. -/
/- Do of package pleachingref, where its code is not 0. Of the program's text. -/
/- Check of package deed. Of the program's text. -/
import Derived.Test.YtcknganggcbkjabGS20
import Derived.Test.YtcknganggcbkjabGS03
import Derived.Test.YtcknganggcbkjabGS05
namespace Go.Proofs.Ytcknganggcbkjab.Deed
open Go.Deep Go.RowKit
set_option linter.unusedVariables false
set_option maxRecDepth 20000

theorem done_any (d : Dd) (hk : d.kind = 1 ∨ d.kind = 2 ∨ d.kind = 3) (hp0 : 0 ≤ d.pos) (hm0 : 0 ≤ d.many) (hm1 : d.many ≤ 9223372036854775807) (hl : d.lab.size ≤ maxLen) :
    ∀ rest : List Int, (∀ q, q ∈ rest → 0 ≤ q) → (d.kind = 2 → rest ≠ []) → DoneAt d rest
  | [], _, h2 => by
    intro s ka cap k pa pb pc qc w ht hn hpi hq1 hq2
    rcases hk with h1 | h1 | h1
    · exact done_name d h1 s ka cap k pa pb pc qc w ht hn hl
    · exact absurd rfl (h2 h1)
    · by_cases hok : d.pos.toNat + d.many.toNat ≤ flen k
      · exact done_ins d h1 hp0 hm0 s ka cap k pa pb pc qc w ht hn hl hok
      · exact done_far d h1 hp0 hm0 hm1 s ka cap k pa pb pc qc w ht hn hok
  | p :: ps, hq, h2 => by
    obtain ⟨p, rfl⟩ := Int.eq_ofNat_of_zero_le (hq p (List.mem_cons_self ..))
    by_cases hL : isLast d ((p : Int) :: ps)
    · have h1 : d.kind = 2 := by
        rcases Decidable.em (d.kind = 2) with h | h
        · exact h
        · unfold isLast at hL
          rw [if_neg h] at hL
          cases hL
      have h0 : ps = [] := by
        unfold isLast at hL
        rw [if_pos h1] at hL
        exact List.eq_nil_of_length_eq_zero (by simpa using hL)
      subst h0
      intro s ka cap k pa pb pc qc w ht hn hpi hq1 hq2
      rcases hpi with hpi | ⟨gb, go', rfl, hpi⟩
      · cases hpi
      exact done_del d h1 p s ka cap k pa gb go' pc qc w ht hn (by have := hpi 0 (p : Int) rfl; simpa using this)
    · refine done_step d p ps hL ?_
      refine done_any d hk hp0 hm0 hm1 hl ps (fun q h => hq q (List.mem_cons_of_mem _ h)) (fun h e => ?_)
      subst e
      exact hL (by unfold isLast; rw [if_pos h]; rfl)

end Go.Proofs.Ytcknganggcbkjab.Deed
namespace Go.Proofs.Ytcknganggcbkjab.Deed
open Go.Deep Go.RowKit
set_option linter.unusedVariables false
set_option maxRecDepth 20000

/-- What Do comes to. -/
def DoEnd (r : Int × (ByteArray × Fo) × Dd) (w : World) (e : Ending) (w' : World) : Prop := ∃ s' ka' cap' k' pa' pc', e = .returned (.tuple #[.agg #[.string s', .slice ka' (flen k') cap'], ddV r.2.2 pa' pc', .int .i64 r.1]) ∧ s' = r.2.1.1 ∧ strip k' = r.2.1.2 ∧ TIn w' s' ka' cap' k' ∧ FFrom w.heap.size k' ∧ FPlain w' k' ∧ DIn w' r.2.2 pa' pc' ∧ Below w.heap.size w w'

theorem tIn_none (w : World) : TIn w ⟨#[]⟩ none 0 .nil := ⟨by decide, Nat.le_refl _, by decide, Or.inl rfl⟩
theorem dIn_none (w : World) : DIn w ⟨0, [], 0, 0, ⟨#[]⟩⟩ none 0 := ⟨Or.inl rfl, Nat.le_refl _, by decide, by decide⟩
theorem DoEnd.bad {c : Int} {w w' : World} (h : Below w.heap.size w w') : DoEnd (c, (⟨#[]⟩, .nil), ⟨0, [], 0, 0, ⟨#[]⟩⟩) w (.returned (.tuple #[.agg #[.string ⟨#[]⟩, .slice none 0 0], .agg #[.int .i64 0, .slice none 0 0, .int .i64 0, .int .i64 0, .string ⟨#[]⟩], .int .i64 c])) w' :=
  ⟨⟨#[]⟩, none, 0, .nil, none, 0, rfl, rfl, rfl, tIn_none _, trivial, trivial, dIn_none _, h⟩

set_option maxHeartbeats 2000000 in
theorem do_bad1 (d : Dd) (s : ByteArray) (ka : Option Addr) (cap : Nat) (k : Fo) (pa : Option Addr) (pc : Nat) (w : World) (ht : TIn w s ka cap k) (h : faultT s k ≠ 0) :
    Calls Try.prog 26 #[.agg #[.string s, .slice ka (flen k) cap], ddV d pa pc] w (DoEnd (doP d s k) w) := by
  unfold doP
  rw [if_pos h]
  unfold ddV
  obtain ⟨c, hc⟩ : ∃ c, c = faultT s k := ⟨_, rfl⟩
  have hb : (c == 0) = false := beq_eq_false_iff_ne.2 (by rw [hc]; exact h)
  have hb2 : (c != 0) = true := by simp [bne, hb]
  rw [← hc]
  obtain ⟨W, hW⟩ : ∃ W, W = (((w.alloc (Obj.cells #[Value.string s, Value.slice ka (flen k) cap] 24)).alloc (Obj.cells #[.int .i64 d.kind, .slice pa d.path.length pc, .int .i64 d.pos, .int .i64 d.many, .string d.lab] 44)).alloc (Obj.cells #[Value.string ⟨#[]⟩, Value.slice none 0 0] 24)).alloc (Obj.cells #[.int .i64 0, .slice none 0 0, .int .i64 0, .int .i64 0, .string ⟨#[]⟩] 44) := ⟨_, rfl⟩
  obtain ⟨hWs, hB, c0, c1, c2, c3⟩ := boxes4 w (Obj.cells #[Value.string s, Value.slice ka (flen k) cap] 24) (Obj.cells #[.int .i64 d.kind, .slice pa d.path.length pc, .int .i64 d.pos, .int .i64 d.many, .string d.lab] 44) (Obj.cells #[Value.string ⟨#[]⟩, Value.slice none 0 0] 24) (Obj.cells #[.int .i64 0, .slice none 0 0, .int .i64 0, .int .i64 0, .string ⟨#[]⟩] 44)
  rw [← hW] at hWs hB c0 c1 c2 c3
  have HF := hide (treeFault_any s ka cap k W (ht.below hB))
  have HC := hide (And.intro hWs (And.intro hB (And.intro c2 c3)))
  rw [← hc] at HF
  clear hWs hB c0 c1 c2 c3 ht h hc
  go_enter Try.func26, Try.ntmps26
  go_wp2_with fail
  rw [← hW]
  clear hW
  refine Calls.mono HF.out ?_
  rintro e w1 ⟨rfl, hb1⟩
  have hws := HC.out.1
  have e2 : w1.heap[w.heap.size + 1 + 1]? = _ := (hb1.block _ (by omega)).trans HC.out.2.2.1
  have e3 : w1.heap[w.heap.size + 1 + 1 + 1]? = _ := (hb1.block _ (by omega)).trans HC.out.2.2.2
  have q20 : w1.cell? ⟨w.heap.size + 1 + 1, 0, none⟩ = some (.string ⟨#[]⟩) := by rw [cell_of_row _ _ 0 _ _ _ e2]; rfl
  have q21 : w1.cell? ⟨w.heap.size + 1 + 1, 1, none⟩ = some (.slice none 0 0) := by rw [cell_of_row _ _ 1 _ _ _ e2]; rfl
  have f2 : ∀ o, w1.frozen? ⟨w.heap.size + 1 + 1, o, none⟩ = false := fun o => by simp [World.frozen?, e2]
  have f3 : ∀ o, w1.frozen? ⟨w.heap.size + 1 + 1 + 1, o, none⟩ = false := fun o => by simp [World.frozen?, e3]
  have q30 : w1.cell? ⟨w.heap.size + 1 + 1 + 1, 0, none⟩ = some (.int .i64 0) := by rw [cell_of_row _ _ 0 _ _ _ e3]; rfl
  have q31 : w1.cell? ⟨w.heap.size + 1 + 1 + 1, 1, none⟩ = some (.slice none 0 0) := by rw [cell_of_row _ _ 1 _ _ _ e3]; rfl
  have q32 : w1.cell? ⟨w.heap.size + 1 + 1 + 1, 2, none⟩ = some (.int .i64 0) := by rw [cell_of_row _ _ 2 _ _ _ e3]; rfl
  have q33 : w1.cell? ⟨w.heap.size + 1 + 1 + 1, 3, none⟩ = some (.int .i64 0) := by rw [cell_of_row _ _ 3 _ _ _ e3]; rfl
  have q34 : w1.cell? ⟨w.heap.size + 1 + 1 + 1, 4, none⟩ = some (.string ⟨#[]⟩) := by rw [cell_of_row _ _ 4 _ _ _ e3]; rfl
  have HB := hide (HC.out.2.1.trans (hb1.mono (by omega)))
  clear e2 e3 hb1 hws HC HF
  go_wp2_with fail
  refine bodyPost_ret (v := .tuple #[.agg #[.string ⟨#[]⟩, .slice none 0 0], .agg #[.int .i64 0, .slice none 0 0, .int .i64 0, .int .i64 0, .string ⟨#[]⟩], .int .i64 c]) (by simp [results, Try.results26, go_sem, *]) rfl (DoEnd.bad ?_)
  exact ((((((HB.out.setCell (by simp only; omega) _).setCell (by simp only; omega) _).setCell (by simp only; omega) _).setCell (by simp only; omega) _).setCell (by simp only; omega) _).setCell (by simp only; omega) _).setCell (by simp only; omega) _

set_option maxHeartbeats 2000000 in
theorem do_bad2 (d : Dd) (s : ByteArray) (ka : Option Addr) (cap : Nat) (k : Fo) (pa : Option Addr) (pc : Nat) (w : World) (ht : TIn w s ka cap k) (hd : DIn w d pa pc) (h1 : faultT s k = 0) (h : deedFault d ≠ 0) :
    Calls Try.prog 26 #[.agg #[.string s, .slice ka (flen k) cap], ddV d pa pc] w (DoEnd (doP d s k) w) := by
  unfold doP
  rw [if_neg (fun h' => h' h1), if_pos h]
  obtain ⟨c, hc⟩ : ∃ c, c = deedFault d := ⟨_, rfl⟩
  have hb : (c == 0) = false := beq_eq_false_iff_ne.2 (by rw [hc]; exact h)
  have hb2 : (c != 0) = true := by simp [bne, hb]
  rw [← hc]
  obtain ⟨W, hW⟩ : ∃ W, W = (((w.alloc (Obj.cells #[Value.string s, Value.slice ka (flen k) cap] 24)).alloc (Obj.cells #[.int .i64 d.kind, .slice pa d.path.length pc, .int .i64 d.pos, .int .i64 d.many, .string d.lab] 44)).alloc (Obj.cells #[Value.string ⟨#[]⟩, Value.slice none 0 0] 24)).alloc (Obj.cells #[.int .i64 0, .slice none 0 0, .int .i64 0, .int .i64 0, .string ⟨#[]⟩] 44) := ⟨_, rfl⟩
  obtain ⟨hWs, hB, c0, c1, c2, c3⟩ := boxes4 w (Obj.cells #[Value.string s, Value.slice ka (flen k) cap] 24) (Obj.cells #[.int .i64 d.kind, .slice pa d.path.length pc, .int .i64 d.pos, .int .i64 d.many, .string d.lab] 44) (Obj.cells #[Value.string ⟨#[]⟩, Value.slice none 0 0] 24) (Obj.cells #[.int .i64 0, .slice none 0 0, .int .i64 0, .int .i64 0, .string ⟨#[]⟩] 44)
  rw [← hW] at hWs hB c0 c1 c2 c3
  have hf := treeFault_any s ka cap k W (ht.below hB)
  rw [h1] at hf
  have HF := hide hf
  have hD : ∀ W', Below W.heap.size W W' → Calls Try.prog 28 #[ddV d pa pc] W' fun e w' => e = .returned (.int .i64 c) ∧ Below W'.heap.size W' w' := fun W' h => by
    rw [hc]
    exact refDF_any d pa pc W' (hd.below (hB.trans (h.mono (by omega))))
  unfold ddV at hD
  have HD := hide hD
  have HC := hide (And.intro hWs (And.intro hB (And.intro c1 (And.intro c2 c3))))
  clear hWs hB c0 c1 c2 c3 ht h hc hf hD hd h1
  unfold ddV
  go_enter Try.func26, Try.ntmps26
  go_wp2_with fail
  rw [← hW]
  clear hW
  refine Calls.mono HF.out ?_
  rintro e w1 ⟨rfl, hb1⟩
  have hws := HC.out.1
  have e1 : w1.heap[w.heap.size + 1]? = _ := (hb1.block _ (by omega)).trans HC.out.2.2.1
  have d0 : w1.cell? ⟨w.heap.size + 1, 0, none⟩ = some (.int .i64 d.kind) := by rw [cell_of_row _ _ 0 _ _ _ e1]; rfl
  have d1 : w1.cell? ⟨w.heap.size + 1, 1, none⟩ = some (.slice pa d.path.length pc) := by rw [cell_of_row _ _ 1 _ _ _ e1]; rfl
  have d2 : w1.cell? ⟨w.heap.size + 1, 2, none⟩ = some (.int .i64 d.pos) := by rw [cell_of_row _ _ 2 _ _ _ e1]; rfl
  have d3 : w1.cell? ⟨w.heap.size + 1, 3, none⟩ = some (.int .i64 d.many) := by rw [cell_of_row _ _ 3 _ _ _ e1]; rfl
  have d4 : w1.cell? ⟨w.heap.size + 1, 4, none⟩ = some (.string d.lab) := by rw [cell_of_row _ _ 4 _ _ _ e1]; rfl
  have HB1 := hide hb1
  clear e1 hb1 hws HF
  go_wp2_with fail
  refine Calls.mono (HD.out _ HB1.out) ?_
  rintro e w2 ⟨rfl, hb2'⟩
  have hb12 : Below W.heap.size W w2 := HB1.out.trans (hb2'.mono HB1.out.size)
  have hws := HC.out.1
  have e2 : w2.heap[w.heap.size + 1 + 1]? = _ := (hb12.block _ (by omega)).trans HC.out.2.2.2.1
  have e3 : w2.heap[w.heap.size + 1 + 1 + 1]? = _ := (hb12.block _ (by omega)).trans HC.out.2.2.2.2
  have q20 : w2.cell? ⟨w.heap.size + 1 + 1, 0, none⟩ = some (.string ⟨#[]⟩) := by rw [cell_of_row _ _ 0 _ _ _ e2]; rfl
  have q21 : w2.cell? ⟨w.heap.size + 1 + 1, 1, none⟩ = some (.slice none 0 0) := by rw [cell_of_row _ _ 1 _ _ _ e2]; rfl
  have f2 : ∀ o, w2.frozen? ⟨w.heap.size + 1 + 1, o, none⟩ = false := fun o => by simp [World.frozen?, e2]
  have f3 : ∀ o, w2.frozen? ⟨w.heap.size + 1 + 1 + 1, o, none⟩ = false := fun o => by simp [World.frozen?, e3]
  have q30 : w2.cell? ⟨w.heap.size + 1 + 1 + 1, 0, none⟩ = some (.int .i64 0) := by rw [cell_of_row _ _ 0 _ _ _ e3]; rfl
  have q31 : w2.cell? ⟨w.heap.size + 1 + 1 + 1, 1, none⟩ = some (.slice none 0 0) := by rw [cell_of_row _ _ 1 _ _ _ e3]; rfl
  have q32 : w2.cell? ⟨w.heap.size + 1 + 1 + 1, 2, none⟩ = some (.int .i64 0) := by rw [cell_of_row _ _ 2 _ _ _ e3]; rfl
  have q33 : w2.cell? ⟨w.heap.size + 1 + 1 + 1, 3, none⟩ = some (.int .i64 0) := by rw [cell_of_row _ _ 3 _ _ _ e3]; rfl
  have q34 : w2.cell? ⟨w.heap.size + 1 + 1 + 1, 4, none⟩ = some (.string ⟨#[]⟩) := by rw [cell_of_row _ _ 4 _ _ _ e3]; rfl
  have HB := hide (HC.out.2.1.trans (hb12.mono (by omega)))
  clear e2 e3 hb12 hb2' hws HC HD HB1 d0 d1 d2 d3 d4
  go_wp2_with fail
  refine bodyPost_ret (v := .tuple #[.agg #[.string ⟨#[]⟩, .slice none 0 0], .agg #[.int .i64 0, .slice none 0 0, .int .i64 0, .int .i64 0, .string ⟨#[]⟩], .int .i64 c]) (by simp [results, Try.results26, go_sem, *]) rfl (DoEnd.bad ?_)
  exact ((((((HB.out.setCell (by simp only; omega) _).setCell (by simp only; omega) _).setCell (by simp only; omega) _).setCell (by simp only; omega) _).setCell (by simp only; omega) _).setCell (by simp only; omega) _).setCell (by simp only; omega) _

end Go.Proofs.Ytcknganggcbkjab.Deed
namespace Go.Proofs.Ytcknganggcbkjab.Deed
open Go.Deep Go.RowKit
set_option linter.unusedVariables false
set_option maxRecDepth 20000

theorem below0 (p : Int) (w : World) : Calls Try.prog 88 #[.int .i64 p] w fun e w' => e = .returned (.bool (decide (p < 0))) ∧ w' = w := by
  go_enter Try.func88, Try.ntmps88
  go_wp2_with fail
  go_ret
  exact ⟨rfl, rfl⟩

set_option maxHeartbeats 1000000 in
theorem indexF_any (a : Option Addr) (c : Nat) (l : List Int) (w : World) (h : PIn w a l) (hl : l.length ≤ maxLen) :
    Calls Try.prog 104 #[.slice a l.length c, .func (.func 88) #[] #[]] w fun e w' => ∃ r : Int, e = .returned (.int .i64 r) ∧ decide (0 ≤ r) = l.any (fun p => decide (p < 0)) ∧ w' = w := by
  unfold maxLen at hl
  go_enter Try.func104, Try.ntmps104
  go_wp2_with fail
  go_loopg [8] l.length (fun gk v wr => ∃ i : Nat, gk = l.length - i ∧ i ≤ l.length ∧ v = .int .i64 (i : Nat) ∧ Hid ((l.take i).any (fun p => decide (p < 0)) = false) ∧ wr = w)
  case atStart => exact ⟨0, rfl, Nat.zero_le _, rfl, by show _ = _; simp, rfl⟩
  case round =>
    obtain ⟨i, hgk, hi, rfl, hsame, hwr⟩ := hrel
    obtain ⟨wA, hwA⟩ : ∃ wA, wA = wr := ⟨_, rfl⟩
    rw [← hwA]
    have hwB : wA = w := hwA.trans hwr
    clear hwA hwr
    subst hwB
    by_cases hlt : i < l.length
    · obtain ⟨x, hx⟩ : ∃ x, l[i]? = some x := ⟨_, List.getElem?_eq_getElem hlt⟩
      obtain ⟨b, o, rfl, hL⟩ : ∃ b o, a = some ⟨b, o, none⟩ ∧ wA.cell? ⟨b, o + i, none⟩ = some (.int .i64 x) := by
        rcases h with h | ⟨b, o, rfl, h⟩
        · rw [h] at hlt; simp at hlt
        · exact ⟨b, o, rfl, h i x hx⟩
      have e1 : l[i] = x := by simpa [List.getElem?_eq_getElem hlt] using hx
      have htk : (l.take (i + 1)).any (fun p => decide (p < 0)) = decide (x < 0) := by
        rw [List.take_succ_eq_append_getElem hlt, List.any_append, hsame.out, e1]
        simp
      cases hb : decide (x < 0)
      · have HT := hide (htk.trans hb)
        clear hx htk h e1
        go_wp2_with fail
        refine Calls.mono (below0 x _) ?_
        rintro e w1 ⟨rfl, rfl⟩
        rw [hb]
        go_wp2_with fail
        go_roundg (l.length - (i + 1))
        case measure => omega
        case rel => exact ⟨i + 1, rfl, by omega, by go_num, HT, rfl⟩
      · have HA := hide (show l.any (fun p => decide (p < 0)) = true by
          rw [← List.take_append_drop (i + 1) l, List.any_append, htk, hb]
          rfl)
        clear hx htk h e1
        go_wp2_with fail
        refine Calls.mono (below0 x _) ?_
        rintro e w1 ⟨rfl, rfl⟩
        rw [hb]
        go_wp2_with fail
        go_ret
        exact ⟨(i : Int), rfl, by rw [HA.out]; simp, rfl⟩
    · have HA := hide (show l.any (fun p => decide (p < 0)) = false by
        have := hsame.out
        rwa [List.take_of_length_le (by omega)] at this)
      clear h
      go_wp2_with fail
      go_ret
      exact ⟨-1, rfl, by rw [HA.out]; rfl, rfl⟩

set_option maxHeartbeats 1000000 in
theorem anyB_any (a : Option Addr) (c : Nat) (l : List Int) (w : World) (h : PIn w a l) (hl : l.length ≤ maxLen) :
    Calls Try.prog 59 #[.slice a l.length c] w fun e w' => e = .returned (.bool (l.any (fun p => decide (p < 0)))) ∧ w' = w := by
  have HI := hide (indexF_any a c l w h hl)
  have hc : Calls Try.prog 87 #[.slice a l.length c, .func (.func 88) #[] #[]] w fun e w' => e = .returned (.bool (l.any (fun p => decide (p < 0)))) ∧ w' = w := by
    clear h
    go_enter Try.func87, Try.ntmps87
    go_wp2_with fail
    refine Calls.mono HI.out ?_
    rintro e w1 ⟨r, rfl, hr, rfl⟩
    have HR := hide hr
    clear hr
    go_wp2_with fail
    go_ret
    exact ⟨by rw [← HR.out]; rfl, rfl⟩
  have HC := hide hc
  clear hc HI h
  go_enter Try.func59, Try.ntmps59
  go_wp2_with fail
  refine Calls.mono HC.out ?_
  rintro e w1 ⟨rfl, rfl⟩
  go_wp2_with fail
  go_ret
  exact ⟨rfl, rfl⟩
end Go.Proofs.Ytcknganggcbkjab.Deed
