/- What the good end of Do wants. Of no program. -/
/- Do of package pleachingref, where the tree is one and the deed is one. Of the program's text. -/
/- Do of package pleachingref, where the tree is one and the deed is one. Of the program's text. -/
import Derived.Test.YtcknganggcbkjabGS27
import Derived.Test.YtcknganggcbkjabGS23
import Derived.Test.YtcknganggcbkjabGS24
import Derived.BigQuiet
import Derived.Deep.RegionHeld3
namespace Go.Proofs.Ytcknganggcbkjab.Deed
open Go.Deep Go.RowKit
set_option linter.unusedVariables false
set_option maxRecDepth 20000

theorem BackIs.drew {w : World} {c : Nat} {d : Dd} {pa : Option Addr} {pc : Nat} (h : BackIs w c d pa pc) : BackIs w.drew c d pa pc := h.block rfl
theorem below_set5 {B c : Nat} {w0 w : World} {v0 v1 v2 v3 v4 : Value} (h : Below B w0 w) (hc : B ≤ c) : Below B w0 (((((w.setCell ⟨c, 0, none⟩ v0).setCell ⟨c, 1, none⟩ v1).setCell ⟨c, 2, none⟩ v2).setCell ⟨c, 3, none⟩ v3).setCell ⟨c, 4, none⟩ v4) := ((((h.setCell hc _).setCell hc _).setCell hc _).setCell hc _).setCell hc _
theorem label_small {s : ByteArray} (h : labelB s = true) : s.size ≤ maxLen := by
  rcases Nat.lt_or_ge 6 s.size with h1 | h1
  · rw [labelB_great h1] at h
    cases h
  · exact Nat.le_trans h1 (by decide)
theorem wrap_lenM {a : Nat} (h : a + 1 ≤ maxLen) : wrap64 (((a + 1 : Nat) : Int) - 1) = (a : Int) := by
  unfold maxLen at h
  unfold wrap64
  omega
theorem path_far {w : World} {pa : Option Addr} {l : List Int} {b2 b3 : Nat} (h : PIn w pa l) (h2 : w.heap.size ≤ b2) (h3 : w.heap.size ≤ b3) : l = [] ∨ ∀ a, pa = some a → a.block ≠ b2 ∧ a.block ≠ b3 := by
  cases l with
  | nil => exact Or.inl rfl
  | cons p ps =>
    rcases h with h | ⟨b, o, e, h⟩
    · cases h
    · refine Or.inr fun a ha => ?_
      have hl := World.block_lt_of_cell? _ _ (h 0 p rfl)
      rw [e] at ha
      injection ha with ha
      subst ha
      simp only at hl ⊢
      omega

end Go.Proofs.Ytcknganggcbkjab.Deed
namespace Go.Proofs.Ytcknganggcbkjab.Deed
open Go.Deep Go.RowKit
set_option linter.unusedVariables false
set_option maxRecDepth 20000

set_option maxHeartbeats 2000000 in
theorem do_rest1 (d : Dd) (s : ByteArray) (ka : Option Addr) (cap : Nat) (k : Fo) (pa : Option Addr) (pc : Nat) (w : World) (ht : TIn w s ka cap k) (hd : DIn w d pa pc) (hkk : d.kind = 1) (hm1 : d.many ≤ 9223372036854775807) (h1 : faultT s k = 0) (h2 : deedFault d = 0) :
    Calls Try.prog 26 #[.agg #[.string s, .slice ka (flen k) cap], ddV d pa pc] w (DoEndN False (RQ w d pa) (doP d s k) w) := by
  obtain ⟨W, hW⟩ : ∃ W, W = (((w.alloc (Obj.cells #[Value.string s, Value.slice ka (flen k) cap] 24)).alloc (Obj.cells #[.int .i64 d.kind, .slice pa d.path.length pc, .int .i64 d.pos, .int .i64 d.many, .string d.lab] 44)).alloc (Obj.cells #[Value.string ⟨#[]⟩, Value.slice none 0 0] 24)).alloc (Obj.cells #[.int .i64 0, .slice none 0 0, .int .i64 0, .int .i64 0, .string ⟨#[]⟩] 44) := ⟨_, rfl⟩
  obtain ⟨hWs, hB, c0, c1, c2, c3⟩ := boxes4 w (Obj.cells #[Value.string s, Value.slice ka (flen k) cap] 24) (Obj.cells #[.int .i64 d.kind, .slice pa d.path.length pc, .int .i64 d.pos, .int .i64 d.many, .string d.lab] 44) (Obj.cells #[Value.string ⟨#[]⟩, Value.slice none 0 0] 24) (Obj.cells #[.int .i64 0, .slice none 0 0, .int .i64 0, .int .i64 0, .string ⟨#[]⟩] 44)
  rw [← hW] at hWs hB c0 c1 c2 c3
  have hf := treeFault_any s ka cap k W (ht.below hB)
  rw [h1] at hf
  have HF := hide hf
  have hD : ∀ W', Below W.heap.size W W' → Calls Try.prog 28 #[ddV d pa pc] W' fun e w' => e = .returned (.int .i64 0) ∧ Below W'.heap.size W' w' := fun W' h => by
    rw [← h2]
    exact refDF_any d pa pc W' (hd.below (hB.trans (h.mono (by omega))))
  unfold ddV at hD
  have HD := hide hD
  obtain ⟨g1, g2, g3, g4, g5, g6, g7, g8⟩ := deedFault_zero h2
  have hO : ∀ W', Below W.heap.size W W' → Calls Try.prog 56 #[.agg #[.string s, .slice ka (flen k) cap], ddV d pa pc, .slice pa d.path.length pc] W' (DoneEnd (doneP d s k) W') := fun W' h => by
    have hb : Below w.heap.size w W' := hB.trans (h.mono (by omega))
    have := done_any d g1 g4 g5 hm1 hd.lab d.path (fun q hq => by
      have := List.any_eq_false.1 g6 q hq
      simpa using this) (fun h => g8 h) s ka cap k pa pa pc pc W' (ht.below hb) (by have := (fault_zero h1).1; omega) (hd.path.below hb) hd.len hd.cap
    rw [doneR_all] at this
    exact this
  unfold ddV at hO
  have HO := hide hO
  have hA : ∀ W', Below W.heap.size W W' → Calls Try.prog 57 #[.agg #[.string s, .slice ka (flen k) cap], .slice pa d.path.length pc] W' fun e w' => e = .returned (atV (atT (s, ka, cap, k) d.path)) ∧ Below W'.heap.size W' w' := fun W' h => by
    have hb : Below w.heap.size w W' := hB.trans (h.mono (by omega))
    exact refAt_any d.path s ka cap k pa pc W' (ht.below hb) (hd.path.below hb) hd.len hd.cap
  have HA := hide hA
  have HC := hide (And.intro hB (And.intro c0 (And.intro c1 (And.intro c2 c3))))
  have HX := hide (And.intro hd (And.intro h1 h2))
  have HKD := hide hkk
  clear hkk
  clear hB c0 c1 c2 c3 ht hf hD hd h1 h2 hO hA g1 g2 g3 g4 g5 g6 g7 g8 hm1
  unfold ddV
  go_enter Try.func26, Try.ntmps26
  go_wp2_with fail
  rw [← hW]
  clear hW
  refine Calls.mono HF.out ?_
  rintro e w1 ⟨rfl, hb1⟩
  have e1 : w1.heap[w.heap.size + 1]? = _ := (hb1.block _ (by omega)).trans HC.out.2.2.1
  have d0 : w1.cell? ⟨w.heap.size + 1, 0, none⟩ = some (.int .i64 d.kind) := by rw [cell_of_row _ _ 0 _ _ _ e1]; rfl
  have d1 : w1.cell? ⟨w.heap.size + 1, 1, none⟩ = some (.slice pa d.path.length pc) := by rw [cell_of_row _ _ 1 _ _ _ e1]; rfl
  have d2 : w1.cell? ⟨w.heap.size + 1, 2, none⟩ = some (.int .i64 d.pos) := by rw [cell_of_row _ _ 2 _ _ _ e1]; rfl
  have d3 : w1.cell? ⟨w.heap.size + 1, 3, none⟩ = some (.int .i64 d.many) := by rw [cell_of_row _ _ 3 _ _ _ e1]; rfl
  have d4 : w1.cell? ⟨w.heap.size + 1, 4, none⟩ = some (.string d.lab) := by rw [cell_of_row _ _ 4 _ _ _ e1]; rfl
  have HB1 := hide hb1
  clear e1 hb1 HF
  go_wp2_with fail
  refine Calls.mono (HD.out _ HB1.out) ?_
  rintro e w2 ⟨rfl, hb2'⟩
  have hb2 : Below W.heap.size W w2 := HB1.out.trans (hb2'.mono HB1.out.size)
  have e0 : w2.heap[w.heap.size]? = _ := (hb2.block _ (by omega)).trans HC.out.2.1
  have e1 : w2.heap[w.heap.size + 1]? = _ := (hb2.block _ (by omega)).trans HC.out.2.2.1
  clear d0 d1 d2 d3 d4
  have a0 : w2.cell? ⟨w.heap.size, 0, none⟩ = some (.string s) := by rw [cell_of_row _ _ 0 _ _ _ e0]; rfl
  have a1 : w2.cell? ⟨w.heap.size, 1, none⟩ = some (.slice ka (flen k) cap) := by rw [cell_of_row _ _ 1 _ _ _ e0]; rfl
  have d0 : w2.cell? ⟨w.heap.size + 1, 0, none⟩ = some (.int .i64 d.kind) := by rw [cell_of_row _ _ 0 _ _ _ e1]; rfl
  have d1 : w2.cell? ⟨w.heap.size + 1, 1, none⟩ = some (.slice pa d.path.length pc) := by rw [cell_of_row _ _ 1 _ _ _ e1]; rfl
  have d2 : w2.cell? ⟨w.heap.size + 1, 2, none⟩ = some (.int .i64 d.pos) := by rw [cell_of_row _ _ 2 _ _ _ e1]; rfl
  have d3 : w2.cell? ⟨w.heap.size + 1, 3, none⟩ = some (.int .i64 d.many) := by rw [cell_of_row _ _ 3 _ _ _ e1]; rfl
  have d4 : w2.cell? ⟨w.heap.size + 1, 4, none⟩ = some (.string d.lab) := by rw [cell_of_row _ _ 4 _ _ _ e1]; rfl
  have HB2 := hide hb2
  clear e0 e1 hb2' hb2 HD HB1
  go_wp2_with fail
  refine Calls.mono (HO.out _ HB2.out) ?_
  rintro e w3 ⟨s', ka', cap', k', rfl, hok, hb3'⟩
  have hb3 : Below W.heap.size W w3 := HB2.out.trans (hb3'.mono HB2.out.size)
  have s2 := HB2.out.size
  have s3 := hb3.size
  obtain ⟨c, hc⟩ : ∃ c, c = (doneP d s k).1 := ⟨_, rfl⟩
  rw [← hc] at hok ⊢
  obtain ⟨U, hU⟩ : ∃ U, U = w3.alloc (Obj.cells #[Value.string s', Value.slice ka' (flen k') cap'] 24) := ⟨_, rfl⟩
  have bU : Below W.heap.size W U := by rw [hU]; exact hb3.alloc s3 _
  have b3U : Below w3.heap.size w3 U := by rw [hU]; exact (Below.refl _ _).alloc (Nat.le_refl _) _
  have sU : U.heap.size = w3.heap.size + 1 := by rw [hU]; simp
  have nU : U.heap[w3.heap.size]? = some (Obj.cells #[Value.string s', Value.slice ka' (flen k') cap'] 24) := by rw [hU]; exact heap_alloc_new _ _
  clear a0 a1 d0 d1 d2 d3 d4 HO
  by_cases hc0 : c = 0
  · subst hc0
    obtain ⟨hs', hst, htk, hfr, hpk⟩ := hok rfl
    have HCK := hide (treeFault_any s' ka' cap' k' U (htk.below b3U))
    have u0 : U.cell? ⟨w3.heap.size, 0, none⟩ = some (.string s') := by rw [cell_of_row _ _ 0 _ _ _ nU]; rfl
    have u1 : U.cell? ⟨w3.heap.size, 1, none⟩ = some (.slice ka' (flen k') cap') := by rw [cell_of_row _ _ 1 _ _ _ nU]; rfl
    obtain ⟨c2, hc2⟩ : ∃ c2, c2 = faultT s' k' := ⟨_, rfl⟩
    rw [← hc2] at HCK
    have hdk : doneP d s k = (0, s', strip k') := by
      rw [hs', hst]
      exact Prod.ext hc.symm rfl
    have HT := hide (And.intro hdk (And.intro (htk.below b3U) (And.intro hfr (And.intro (hpk.below b3U) (And.intro hc2 (And.intro bU nU))))))
    clear hok hs' hst htk hfr hpk hdk bU b3U nU hb3 hb3' hc hc2
    rw [hU] at u0 u1
    go_wp2_with fail
    rw [← hU]
    clear hU u0 u1
    refine Calls.mono HCK.out ?_
    rintro e w4 ⟨rfl, hb4⟩
    obtain ⟨hdk, htU, hfr, hpU, hc2, bU, nU⟩ := HT.out
    have s4 := hb4.size
    have b4 : Below W.heap.size W w4 := bU.trans (hb4.mono (by omega))
    by_cases hc20 : c2 = 0
    · subst hc20
      have e0 : w4.heap[w.heap.size]? = _ := (b4.block _ (by omega)).trans HC.out.2.1
      have e1 : w4.heap[w.heap.size + 1]? = _ := (b4.block _ (by omega)).trans HC.out.2.2.1
      have a0 : w4.cell? ⟨w.heap.size, 0, none⟩ = some (.string s) := by rw [cell_of_row _ _ 0 _ _ _ e0]; rfl
      have a1 : w4.cell? ⟨w.heap.size, 1, none⟩ = some (.slice ka (flen k) cap) := by rw [cell_of_row _ _ 1 _ _ _ e0]; rfl
      have d1 : w4.cell? ⟨w.heap.size + 1, 1, none⟩ = some (.slice pa d.path.length pc) := by rw [cell_of_row _ _ 1 _ _ _ e1]; rfl
      have HAT := hide (HA.out w4 b4)
      obtain ⟨xa, xc, bb, hat⟩ := atT_atM d.path s ka cap k (fun q hq => by
        have := List.any_eq_false.1 (deedFault_zero HX.out.2.2).2.2.2.2.2.1 q hq
        simpa using this)
      rw [hat] at HAT
      obtain ⟨lb, hlb⟩ : ∃ lb, lb = ((atM (nats d.path) s k).getD (⟨#[]⟩, .nil)).1 := ⟨_, rfl⟩
      obtain ⟨mm, hmm⟩ : ∃ mm, mm = flen ((atM (nats d.path) s k).getD (⟨#[]⟩, .nil)).2 := ⟨_, rfl⟩
      rw [← hlb, ← hmm] at HAT
      have HG := hide (show doP d s k = (0, (s', strip k'), backP d s k) from doP_of HX.out.2.1 HX.out.2.2 hdk (by simp only; rw [faultT_strip]; exact hc2.symm))
      have HS := hide (And.intro htU (And.intro hfr (And.intro hpU (And.intro bU (And.intro nU (And.intro hb4 b4))))))
      have HL := hide (And.intro hlb hmm)
      clear hat hdk htU hfr hpU bU nU hb4 e0 e1 hc2 hlb hmm HT HCK HA
      go_wp2_with fail
      refine Calls.mono HAT.out ?_
      rintro e w5 ⟨rfl, hb5⟩
      have s5 := hb5.size
      have b5 : Below W.heap.size W w5 := b4.trans (hb5.mono (by omega))
      obtain ⟨Y, hY⟩ : ∃ Y, Y = (w5.alloc (Obj.cells #[Value.string lb, Value.slice xa mm xc] 24)).alloc (Obj.cells #[.int .i64 1, .slice pa d.path.length pc, .int .i64 0, .int .i64 0, .string lb] 44) := ⟨_, rfl⟩
      obtain ⟨sY, b5Y, ny1, ny2⟩ := boxes2 w5 (Obj.cells #[Value.string lb, Value.slice xa mm xc] 24) (Obj.cells #[.int .i64 1, .slice pa d.path.length pc, .int .i64 0, .int .i64 0, .string lb] 44)
      rw [← hY] at sY b5Y ny1 ny2
      have bY : Below W.heap.size W Y := b5.trans (b5Y.mono (by omega))
      have e1 : Y.heap[w.heap.size + 1]? = _ := (bY.block _ (by omega)).trans HC.out.2.2.1
      have e2 : Y.heap[w.heap.size + 1 + 1]? = _ := (bY.block _ (by omega)).trans HC.out.2.2.2.1
      have e3 : Y.heap[w.heap.size + 1 + 1 + 1]? = _ := (bY.block _ (by omega)).trans HC.out.2.2.2.2
      have x1 : (w5.alloc (Obj.cells #[Value.string lb, Value.slice xa mm xc] 24)).cell? ⟨w.heap.size + 1, 1, none⟩ = some (.slice pa d.path.length pc) := by
        refine cellA ?_ _
        rw [hb5.cell (show w.heap.size + 1 < w4.heap.size by omega)]
        exact d1
      have y0 : Y.cell? ⟨w.heap.size + 1, 0, none⟩ = some (.int .i64 d.kind) := by rw [cell_of_row _ _ 0 _ _ _ e1]; rfl
      have y1 : Y.cell? ⟨w.heap.size + 1, 1, none⟩ = some (.slice pa d.path.length pc) := by rw [cell_of_row _ _ 1 _ _ _ e1]; rfl
      have y2 : Y.cell? ⟨w.heap.size + 1, 2, none⟩ = some (.int .i64 d.pos) := by rw [cell_of_row _ _ 2 _ _ _ e1]; rfl
      have z0 : Y.cell? ⟨w5.heap.size, 0, none⟩ = some (.string lb) := by rw [cell_of_row _ _ 0 _ _ _ ny1]; rfl
      have z1 : Y.cell? ⟨w5.heap.size, 1, none⟩ = some (.slice xa mm xc) := by rw [cell_of_row _ _ 1 _ _ _ ny1]; rfl
      have nu : Y.heap[w3.heap.size]? = _ := (b5Y.block _ (by omega)).trans ((hb5.block _ (by omega)).trans ((HS.out.2.2.2.2.2.1.block _ (by omega)).trans HS.out.2.2.2.2.1))
      have o0 : Y.cell? ⟨w3.heap.size, 0, none⟩ = some (.string s') := by rw [cell_of_row _ _ 0 _ _ _ nu]; rfl
      have o1 : Y.cell? ⟨w3.heap.size, 1, none⟩ = some (.slice ka' (flen k') cap') := by rw [cell_of_row _ _ 1 _ _ _ nu]; rfl
      have HBK := hide (show BackIs Y (w5.heap.size + 1) ⟨1, d.path, 0, 0, lb⟩ pa pc from BackIs.of (d := ⟨1, d.path, 0, 0, lb⟩) ny2)
      have HY := hide (And.intro bY (And.intro b5Y (And.intro e1 (And.intro e2 (And.intro e3 (And.intro hb5 nu))))))
      have q20 : Y.cell? ⟨w.heap.size + 1 + 1, 0, none⟩ = some (.string ⟨#[]⟩) := by rw [cell_of_row _ _ 0 _ _ _ e2]; rfl
      have q21 : Y.cell? ⟨w.heap.size + 1 + 1, 1, none⟩ = some (.slice none 0 0) := by rw [cell_of_row _ _ 1 _ _ _ e2]; rfl
      have f2 : ∀ o, Y.frozen? ⟨w.heap.size + 1 + 1, o, none⟩ = false := fun o => by simp [World.frozen?, e2]
      have f3 : ∀ o, Y.frozen? ⟨w.heap.size + 1 + 1 + 1, o, none⟩ = false := fun o => by simp [World.frozen?, e3]
      have q30 : Y.cell? ⟨w.heap.size + 1 + 1 + 1, 0, none⟩ = some (.int .i64 0) := by rw [cell_of_row _ _ 0 _ _ _ e3]; rfl
      have q31 : Y.cell? ⟨w.heap.size + 1 + 1 + 1, 1, none⟩ = some (.slice none 0 0) := by rw [cell_of_row _ _ 1 _ _ _ e3]; rfl
      have q32 : Y.cell? ⟨w.heap.size + 1 + 1 + 1, 2, none⟩ = some (.int .i64 0) := by rw [cell_of_row _ _ 2 _ _ _ e3]; rfl
      have q33 : Y.cell? ⟨w.heap.size + 1 + 1 + 1, 3, none⟩ = some (.int .i64 0) := by rw [cell_of_row _ _ 3 _ _ _ e3]; rfl
      have q34 : Y.cell? ⟨w.heap.size + 1 + 1 + 1, 4, none⟩ = some (.string ⟨#[]⟩) := by rw [cell_of_row _ _ 4 _ _ _ e3]; rfl
      have hlbs : lb.size ≤ maxLen := by
        rw [HL.out.1]
        cases hx : atM (nats d.path) s k with
        | none => exact (show ByteArray.size ⟨#[]⟩ ≤ maxLen by decide)
        | some x =>
          have := good_at _ _ _ _ (fault_zero HX.out.2.1).2.2 hx
          exact label_small this
      have hPY : ∀ Y', Below (w5.heap.size + 1) Y Y' → Below w.heap.size w Y' := fun Y' h => HC.out.1.trans ((bY.mono (by omega)).trans (h.mono (by omega)))
      have HFIN := hide (show ∀ (Y' : World) (bk : Dd) (pa' : Option Addr) (pc' : Nat), Below (w5.heap.size + 1) Y Y' → DIn Y' bk pa' pc' → (bk.path = [] ∨ ∀ a, pa' = some a → a.block ≠ w.heap.size + 1 + 1 ∧ a.block ≠ w.heap.size + 1 + 1 + 1) → (bk.path ≠ [] → ∀ a, pa' = some a → RQ w d pa a) → DoEndN False (RQ w d pa) (0, (s', strip k'), bk) w (.returned (.tuple #[.agg #[.string s', .slice ka' (flen k') cap'], .agg #[.int .i64 bk.kind, .slice pa' bk.path.length pc', .int .i64 bk.pos, .int .i64 bk.many, .string bk.lab], .int .i64 0]))
        (((((((Y'.setCell ⟨w.heap.size + 1 + 1, 0, none⟩ (.string s')).setCell ⟨w.heap.size + 1 + 1, 1, none⟩ (.slice ka' (flen k') cap')).setCell ⟨w.heap.size + 1 + 1 + 1, 0, none⟩ (.int .i64 bk.kind)).setCell ⟨w.heap.size + 1 + 1 + 1, 1, none⟩ (.slice pa' bk.path.length pc')).setCell ⟨w.heap.size + 1 + 1 + 1, 2, none⟩ (.int .i64 bk.pos)).setCell ⟨w.heap.size + 1 + 1 + 1, 3, none⟩ (.int .i64 bk.many)).setCell ⟨w.heap.size + 1 + 1 + 1, 4, none⟩ (.string bk.lab)).drew from fun Y' bk pa' pc' hY' hdi hpb hrq => by
        have h5Y : Below w5.heap.size w5 Y' := b5Y.trans (hY'.mono (by omega))
        exact doEnd_goodN (((HS.out.1.below HS.out.2.2.2.2.2.1).below hb5).below h5Y) (HS.out.2.1.mono (by omega)) (((HS.out.2.2.1.below HS.out.2.2.2.2.2.1).below hb5).below h5Y) hdi (HS.out.2.1.off (by omega)) (HS.out.2.1.off (by omega)) (hPY Y' hY') (by omega) (by omega) (fun h => h.elim) hrq hpb)
      have HPY := hide hPY
      have HLB := hide hlbs
      have HCELL := hide (show ∀ (Y' : World), Below (w5.heap.size + 1) Y Y' → ((Y'.cell? ⟨w.heap.size + 1, 0, none⟩ = some (.int .i64 d.kind) ∧ Y'.cell? ⟨w3.heap.size, 0, none⟩ = some (.string s') ∧ Y'.cell? ⟨w3.heap.size, 1, none⟩ = some (.slice ka' (flen k') cap')) ∧ (Y'.cell? ⟨w.heap.size + 1 + 1, 0, none⟩ = some (.string ⟨#[]⟩) ∧ Y'.cell? ⟨w.heap.size + 1 + 1, 1, none⟩ = some (.slice none 0 0) ∧ Y'.cell? ⟨w.heap.size + 1 + 1 + 1, 0, none⟩ = some (.int .i64 0) ∧ Y'.cell? ⟨w.heap.size + 1 + 1 + 1, 1, none⟩ = some (.slice none 0 0) ∧ Y'.cell? ⟨w.heap.size + 1 + 1 + 1, 2, none⟩ = some (.int .i64 0) ∧ Y'.cell? ⟨w.heap.size + 1 + 1 + 1, 3, none⟩ = some (.int .i64 0) ∧ Y'.cell? ⟨w.heap.size + 1 + 1 + 1, 4, none⟩ = some (.string ⟨#[]⟩)) ∧ (∀ o, Y'.frozen? ⟨w.heap.size + 1 + 1, o, none⟩ = false) ∧ (∀ o, Y'.frozen? ⟨w.heap.size + 1 + 1 + 1, o, none⟩ = false)) from fun Y' h => by
        have l1 : w.heap.size + 1 < w5.heap.size + 1 := by omega
        have l2 : w.heap.size + 1 + 1 < w5.heap.size + 1 := by omega
        have l3 : w.heap.size + 1 + 1 + 1 < w5.heap.size + 1 := by omega
        have l4 : w3.heap.size < w5.heap.size + 1 := by omega
        exact ⟨⟨(h.cell l1).trans y0, (h.cell l4).trans o0, (h.cell l4).trans o1⟩, ⟨(h.cell l2).trans q20, (h.cell l2).trans q21, (h.cell l3).trans q30, (h.cell l3).trans q31, (h.cell l3).trans q32, (h.cell l3).trans q33, (h.cell l3).trans q34⟩, fun o => (h.frozen l2).trans (f2 o), fun o => (h.frozen l3).trans (f3 o)⟩)
      obtain ⟨g1, g2, g3, g4, g5, g6, g7, g8⟩ := deedFault_zero HX.out.2.2
      have HG8 := hide g8
      have HG6 := hide g6
      have HP4 := hide g4
      clear g2 g3 g4 g5 g6 g7 g8 bY b5Y ny1 ny2 e1 e2 e3 hb5 nu a0 a1 d1 HAT b4 b5 hPY hlbs
      have hk := HKD.out
      rw [hk] at y0
      obtain ⟨r0, r1, r2, r3, r4, rf, _⟩ := HBK.out
      simp only at r0 r1 r2 r3 r4
      have HR := hide (show doP d s k = (0, (s', strip k'), ⟨1, d.path, 0, 0, lb⟩) by
        rw [HG.out]
        unfold backP
        rw [if_pos hk, ← HL.out.1])
      clear hk
      rw [hY] at y0
      go_wp2_with fail
      rw [← hY]
      rw [← hY] at y0
      clear hY x1
      go_region
      go_wp2_with fail
      rw [HR.out]
      refine bodyPost_ret (v := .tuple #[.agg #[.string s', .slice ka' (flen k') cap'], .agg #[.int .i64 1, .slice pa d.path.length pc, .int .i64 0, .int .i64 0, .string lb], .int .i64 0]) (by simp [results, Try.results26, go_sem, *]) rfl ?_
      exact HFIN.out Y ⟨1, d.path, 0, 0, lb⟩ pa pc (Below.refl _ _) ⟨HX.out.1.path.below (HPY.out Y (Below.refl _ _)), HX.out.1.len, HX.out.1.cap, HLB.out⟩ (path_far HX.out.1.path (by omega) (by omega)) (fun hp a ha => Or.inr ⟨hp, a, ha, rfl⟩)
    · have e2 : w4.heap[w.heap.size + 1 + 1]? = _ := (b4.block _ (by omega)).trans HC.out.2.2.2.1
      have e3 : w4.heap[w.heap.size + 1 + 1 + 1]? = _ := (b4.block _ (by omega)).trans HC.out.2.2.2.2
      have HR := hide (show doP d s k = (c2, (⟨#[]⟩, .nil), ⟨0, [], 0, 0, ⟨#[]⟩⟩) by
        unfold doP
        rw [if_neg (fun h' => h' HX.out.2.1), if_neg (fun h' => h' HX.out.2.2), if_neg (by rw [hdk]; simp), hdk, if_pos (by simp only; rw [faultT_strip, ← hc2]; exact hc20)]
        simp only
        rw [faultT_strip, ← hc2])
      have hbb : (c2 == 0) = false := beq_eq_false_iff_ne.2 hc20
      have hbb2 : (c2 != 0) = true := by simp [bne, hbb]
      have HU := hide (show Below w.heap.size w w4 from HC.out.1.trans (b4.mono (by omega)))
      have q20 : w4.cell? ⟨w.heap.size + 1 + 1, 0, none⟩ = some (.string ⟨#[]⟩) := by rw [cell_of_row _ _ 0 _ _ _ e2]; rfl
      have q21 : w4.cell? ⟨w.heap.size + 1 + 1, 1, none⟩ = some (.slice none 0 0) := by rw [cell_of_row _ _ 1 _ _ _ e2]; rfl
      have f2 : ∀ o, w4.frozen? ⟨w.heap.size + 1 + 1, o, none⟩ = false := fun o => by simp [World.frozen?, e2]
      have f3 : ∀ o, w4.frozen? ⟨w.heap.size + 1 + 1 + 1, o, none⟩ = false := fun o => by simp [World.frozen?, e3]
      have q30 : w4.cell? ⟨w.heap.size + 1 + 1 + 1, 0, none⟩ = some (.int .i64 0) := by rw [cell_of_row _ _ 0 _ _ _ e3]; rfl
      have q31 : w4.cell? ⟨w.heap.size + 1 + 1 + 1, 1, none⟩ = some (.slice none 0 0) := by rw [cell_of_row _ _ 1 _ _ _ e3]; rfl
      have q32 : w4.cell? ⟨w.heap.size + 1 + 1 + 1, 2, none⟩ = some (.int .i64 0) := by rw [cell_of_row _ _ 2 _ _ _ e3]; rfl
      have q33 : w4.cell? ⟨w.heap.size + 1 + 1 + 1, 3, none⟩ = some (.int .i64 0) := by rw [cell_of_row _ _ 3 _ _ _ e3]; rfl
      have q34 : w4.cell? ⟨w.heap.size + 1 + 1 + 1, 4, none⟩ = some (.string ⟨#[]⟩) := by rw [cell_of_row _ _ 4 _ _ _ e3]; rfl
      clear e2 e3 hc20 hc2 hdk htU hfr hpU bU nU hb4 b4 HT HCK HC HX HA
      go_wp2_with fail
      rw [HR.out]
      refine bodyPost_ret (v := .tuple #[.agg #[.string ⟨#[]⟩, .slice none 0 0], .agg #[.int .i64 0, .slice none 0 0, .int .i64 0, .int .i64 0, .string ⟨#[]⟩], .int .i64 c2]) (by simp [results, Try.results26, go_sem, *]) rfl (DoEndN.bad ?_)
      exact ((((((HU.out.setCell (by simp only; omega) _).setCell (by simp only; omega) _).setCell (by simp only; omega) _).setCell (by simp only; omega) _).setCell (by simp only; omega) _).setCell (by simp only; omega) _).setCell (by simp only; omega) _
  · have e2 : U.heap[w.heap.size + 1 + 1]? = _ := (bU.block _ (by omega)).trans HC.out.2.2.2.1
    have e3 : U.heap[w.heap.size + 1 + 1 + 1]? = _ := (bU.block _ (by omega)).trans HC.out.2.2.2.2
    have HR := hide (show doP d s k = (c, (⟨#[]⟩, .nil), ⟨0, [], 0, 0, ⟨#[]⟩⟩) by
      unfold doP
      rw [if_neg (fun h' => h' HX.out.2.1), if_neg (fun h' => h' HX.out.2.2), ← hc, if_pos hc0])
    have hbb : (c == 0) = false := beq_eq_false_iff_ne.2 hc0
    have hbb2 : (c != 0) = true := by simp [bne, hbb]
    have HU := hide (show Below w.heap.size w U from HC.out.1.trans (bU.mono (by omega)))
    have q20 : U.cell? ⟨w.heap.size + 1 + 1, 0, none⟩ = some (.string ⟨#[]⟩) := by rw [cell_of_row _ _ 0 _ _ _ e2]; rfl
    have q21 : U.cell? ⟨w.heap.size + 1 + 1, 1, none⟩ = some (.slice none 0 0) := by rw [cell_of_row _ _ 1 _ _ _ e2]; rfl
    have f2 : ∀ o, U.frozen? ⟨w.heap.size + 1 + 1, o, none⟩ = false := fun o => by simp [World.frozen?, e2]
    have f3 : ∀ o, U.frozen? ⟨w.heap.size + 1 + 1 + 1, o, none⟩ = false := fun o => by simp [World.frozen?, e3]
    have q30 : U.cell? ⟨w.heap.size + 1 + 1 + 1, 0, none⟩ = some (.int .i64 0) := by rw [cell_of_row _ _ 0 _ _ _ e3]; rfl
    have q31 : U.cell? ⟨w.heap.size + 1 + 1 + 1, 1, none⟩ = some (.slice none 0 0) := by rw [cell_of_row _ _ 1 _ _ _ e3]; rfl
    have q32 : U.cell? ⟨w.heap.size + 1 + 1 + 1, 2, none⟩ = some (.int .i64 0) := by rw [cell_of_row _ _ 2 _ _ _ e3]; rfl
    have q33 : U.cell? ⟨w.heap.size + 1 + 1 + 1, 3, none⟩ = some (.int .i64 0) := by rw [cell_of_row _ _ 3 _ _ _ e3]; rfl
    have q34 : U.cell? ⟨w.heap.size + 1 + 1 + 1, 4, none⟩ = some (.string ⟨#[]⟩) := by rw [cell_of_row _ _ 4 _ _ _ e3]; rfl
    clear e2 e3 hc0 hc hok bU b3U nU hb3 hb3' HC HX HA
    rw [hU] at q20 q21 f2 f3 q30 q31 q32 q33 q34
    go_wp2_with fail
    rw [HR.out]
    refine bodyPost_ret (v := .tuple #[.agg #[.string ⟨#[]⟩, .slice none 0 0], .agg #[.int .i64 0, .slice none 0 0, .int .i64 0, .int .i64 0, .string ⟨#[]⟩], .int .i64 c]) (by simp [results, Try.results26, go_sem, *]) rfl (DoEndN.bad ?_)
    rw [← hU]
    exact ((((((HU.out.setCell (by simp only; omega) _).setCell (by simp only; omega) _).setCell (by simp only; omega) _).setCell (by simp only; omega) _).setCell (by simp only; omega) _).setCell (by simp only; omega) _).setCell (by simp only; omega) _
end Go.Proofs.Ytcknganggcbkjab.Deed
namespace Go.Proofs.Ytcknganggcbkjab.Deed
open Go.Deep Go.RowKit
set_option linter.unusedVariables false
set_option maxRecDepth 20000

set_option maxHeartbeats 2000000 in
theorem do_rest2 (d : Dd) (s : ByteArray) (ka : Option Addr) (cap : Nat) (k : Fo) (pa : Option Addr) (pc : Nat) (w : World) (ht : TIn w s ka cap k) (hd : DIn w d pa pc) (hkk : d.kind = 2) (hm1 : d.many ≤ 9223372036854775807) (h1 : faultT s k = 0) (h2 : deedFault d = 0) :
    Calls Try.prog 26 #[.agg #[.string s, .slice ka (flen k) cap], ddV d pa pc] w (DoEndN False (RQ w d pa) (doP d s k) w) := by
  have HDP := hide ((deedFault_zero h2).2.2.2.2.2.2.2 hkk)
  obtain ⟨W, hW⟩ : ∃ W, W = (((w.alloc (Obj.cells #[Value.string s, Value.slice ka (flen k) cap] 24)).alloc (Obj.cells #[.int .i64 d.kind, .slice pa d.path.length pc, .int .i64 d.pos, .int .i64 d.many, .string d.lab] 44)).alloc (Obj.cells #[Value.string ⟨#[]⟩, Value.slice none 0 0] 24)).alloc (Obj.cells #[.int .i64 0, .slice none 0 0, .int .i64 0, .int .i64 0, .string ⟨#[]⟩] 44) := ⟨_, rfl⟩
  obtain ⟨hWs, hB, c0, c1, c2, c3⟩ := boxes4 w (Obj.cells #[Value.string s, Value.slice ka (flen k) cap] 24) (Obj.cells #[.int .i64 d.kind, .slice pa d.path.length pc, .int .i64 d.pos, .int .i64 d.many, .string d.lab] 44) (Obj.cells #[Value.string ⟨#[]⟩, Value.slice none 0 0] 24) (Obj.cells #[.int .i64 0, .slice none 0 0, .int .i64 0, .int .i64 0, .string ⟨#[]⟩] 44)
  rw [← hW] at hWs hB c0 c1 c2 c3
  have hf := treeFault_any s ka cap k W (ht.below hB)
  rw [h1] at hf
  have HF := hide hf
  have hD : ∀ W', Below W.heap.size W W' → Calls Try.prog 28 #[ddV d pa pc] W' fun e w' => e = .returned (.int .i64 0) ∧ Below W'.heap.size W' w' := fun W' h => by
    rw [← h2]
    exact refDF_any d pa pc W' (hd.below (hB.trans (h.mono (by omega))))
  unfold ddV at hD
  have HD := hide hD
  obtain ⟨g1, g2, g3, g4, g5, g6, g7, g8⟩ := deedFault_zero h2
  have hO : ∀ W', Below W.heap.size W W' → Calls Try.prog 56 #[.agg #[.string s, .slice ka (flen k) cap], ddV d pa pc, .slice pa d.path.length pc] W' (DoneEnd (doneP d s k) W') := fun W' h => by
    have hb : Below w.heap.size w W' := hB.trans (h.mono (by omega))
    have := done_any d g1 g4 g5 hm1 hd.lab d.path (fun q hq => by
      have := List.any_eq_false.1 g6 q hq
      simpa using this) (fun h => g8 h) s ka cap k pa pa pc pc W' (ht.below hb) (by have := (fault_zero h1).1; omega) (hd.path.below hb) hd.len hd.cap
    rw [doneR_all] at this
    exact this
  unfold ddV at hO
  have HO := hide hO
  have hA : ∀ W', Below W.heap.size W W' → Calls Try.prog 57 #[.agg #[.string s, .slice ka (flen k) cap], .slice pa d.path.length pc] W' fun e w' => e = .returned (atV (atT (s, ka, cap, k) d.path)) ∧ Below W'.heap.size W' w' := fun W' h => by
    have hb : Below w.heap.size w W' := hB.trans (h.mono (by omega))
    exact refAt_any d.path s ka cap k pa pc W' (ht.below hb) (hd.path.below hb) hd.len hd.cap
  have HA := hide hA
  have HC := hide (And.intro hB (And.intro c0 (And.intro c1 (And.intro c2 c3))))
  have HX := hide (And.intro hd (And.intro h1 h2))
  have HKD := hide hkk
  clear hkk
  clear hB c0 c1 c2 c3 ht hf hD hd h1 h2 hO hA g1 g2 g3 g4 g5 g6 g7 g8 hm1
  unfold ddV
  go_enter Try.func26, Try.ntmps26
  go_wp2_with fail
  rw [← hW]
  clear hW
  refine Calls.mono HF.out ?_
  rintro e w1 ⟨rfl, hb1⟩
  have e1 : w1.heap[w.heap.size + 1]? = _ := (hb1.block _ (by omega)).trans HC.out.2.2.1
  have d0 : w1.cell? ⟨w.heap.size + 1, 0, none⟩ = some (.int .i64 d.kind) := by rw [cell_of_row _ _ 0 _ _ _ e1]; rfl
  have d1 : w1.cell? ⟨w.heap.size + 1, 1, none⟩ = some (.slice pa d.path.length pc) := by rw [cell_of_row _ _ 1 _ _ _ e1]; rfl
  have d2 : w1.cell? ⟨w.heap.size + 1, 2, none⟩ = some (.int .i64 d.pos) := by rw [cell_of_row _ _ 2 _ _ _ e1]; rfl
  have d3 : w1.cell? ⟨w.heap.size + 1, 3, none⟩ = some (.int .i64 d.many) := by rw [cell_of_row _ _ 3 _ _ _ e1]; rfl
  have d4 : w1.cell? ⟨w.heap.size + 1, 4, none⟩ = some (.string d.lab) := by rw [cell_of_row _ _ 4 _ _ _ e1]; rfl
  have HB1 := hide hb1
  clear e1 hb1 HF
  go_wp2_with fail
  refine Calls.mono (HD.out _ HB1.out) ?_
  rintro e w2 ⟨rfl, hb2'⟩
  have hb2 : Below W.heap.size W w2 := HB1.out.trans (hb2'.mono HB1.out.size)
  have e0 : w2.heap[w.heap.size]? = _ := (hb2.block _ (by omega)).trans HC.out.2.1
  have e1 : w2.heap[w.heap.size + 1]? = _ := (hb2.block _ (by omega)).trans HC.out.2.2.1
  clear d0 d1 d2 d3 d4
  have a0 : w2.cell? ⟨w.heap.size, 0, none⟩ = some (.string s) := by rw [cell_of_row _ _ 0 _ _ _ e0]; rfl
  have a1 : w2.cell? ⟨w.heap.size, 1, none⟩ = some (.slice ka (flen k) cap) := by rw [cell_of_row _ _ 1 _ _ _ e0]; rfl
  have d0 : w2.cell? ⟨w.heap.size + 1, 0, none⟩ = some (.int .i64 d.kind) := by rw [cell_of_row _ _ 0 _ _ _ e1]; rfl
  have d1 : w2.cell? ⟨w.heap.size + 1, 1, none⟩ = some (.slice pa d.path.length pc) := by rw [cell_of_row _ _ 1 _ _ _ e1]; rfl
  have d2 : w2.cell? ⟨w.heap.size + 1, 2, none⟩ = some (.int .i64 d.pos) := by rw [cell_of_row _ _ 2 _ _ _ e1]; rfl
  have d3 : w2.cell? ⟨w.heap.size + 1, 3, none⟩ = some (.int .i64 d.many) := by rw [cell_of_row _ _ 3 _ _ _ e1]; rfl
  have d4 : w2.cell? ⟨w.heap.size + 1, 4, none⟩ = some (.string d.lab) := by rw [cell_of_row _ _ 4 _ _ _ e1]; rfl
  have HB2 := hide hb2
  clear e0 e1 hb2' hb2 HD HB1
  go_wp2_with fail
  refine Calls.mono (HO.out _ HB2.out) ?_
  rintro e w3 ⟨s', ka', cap', k', rfl, hok, hb3'⟩
  have hb3 : Below W.heap.size W w3 := HB2.out.trans (hb3'.mono HB2.out.size)
  have s2 := HB2.out.size
  have s3 := hb3.size
  obtain ⟨c, hc⟩ : ∃ c, c = (doneP d s k).1 := ⟨_, rfl⟩
  rw [← hc] at hok ⊢
  obtain ⟨U, hU⟩ : ∃ U, U = w3.alloc (Obj.cells #[Value.string s', Value.slice ka' (flen k') cap'] 24) := ⟨_, rfl⟩
  have bU : Below W.heap.size W U := by rw [hU]; exact hb3.alloc s3 _
  have b3U : Below w3.heap.size w3 U := by rw [hU]; exact (Below.refl _ _).alloc (Nat.le_refl _) _
  have sU : U.heap.size = w3.heap.size + 1 := by rw [hU]; simp
  have nU : U.heap[w3.heap.size]? = some (Obj.cells #[Value.string s', Value.slice ka' (flen k') cap'] 24) := by rw [hU]; exact heap_alloc_new _ _
  clear a0 a1 d0 d1 d2 d3 d4 HO
  by_cases hc0 : c = 0
  · subst hc0
    obtain ⟨hs', hst, htk, hfr, hpk⟩ := hok rfl
    have HCK := hide (treeFault_any s' ka' cap' k' U (htk.below b3U))
    have u0 : U.cell? ⟨w3.heap.size, 0, none⟩ = some (.string s') := by rw [cell_of_row _ _ 0 _ _ _ nU]; rfl
    have u1 : U.cell? ⟨w3.heap.size, 1, none⟩ = some (.slice ka' (flen k') cap') := by rw [cell_of_row _ _ 1 _ _ _ nU]; rfl
    obtain ⟨c2, hc2⟩ : ∃ c2, c2 = faultT s' k' := ⟨_, rfl⟩
    rw [← hc2] at HCK
    have hdk : doneP d s k = (0, s', strip k') := by
      rw [hs', hst]
      exact Prod.ext hc.symm rfl
    have HT := hide (And.intro hdk (And.intro (htk.below b3U) (And.intro hfr (And.intro (hpk.below b3U) (And.intro hc2 (And.intro bU nU))))))
    clear hok hs' hst htk hfr hpk hdk bU b3U nU hb3 hb3' hc hc2
    rw [hU] at u0 u1
    go_wp2_with fail
    rw [← hU]
    clear hU u0 u1
    refine Calls.mono HCK.out ?_
    rintro e w4 ⟨rfl, hb4⟩
    obtain ⟨hdk, htU, hfr, hpU, hc2, bU, nU⟩ := HT.out
    have s4 := hb4.size
    have b4 : Below W.heap.size W w4 := bU.trans (hb4.mono (by omega))
    by_cases hc20 : c2 = 0
    · subst hc20
      have e0 : w4.heap[w.heap.size]? = _ := (b4.block _ (by omega)).trans HC.out.2.1
      have e1 : w4.heap[w.heap.size + 1]? = _ := (b4.block _ (by omega)).trans HC.out.2.2.1
      have a0 : w4.cell? ⟨w.heap.size, 0, none⟩ = some (.string s) := by rw [cell_of_row _ _ 0 _ _ _ e0]; rfl
      have a1 : w4.cell? ⟨w.heap.size, 1, none⟩ = some (.slice ka (flen k) cap) := by rw [cell_of_row _ _ 1 _ _ _ e0]; rfl
      have d1 : w4.cell? ⟨w.heap.size + 1, 1, none⟩ = some (.slice pa d.path.length pc) := by rw [cell_of_row _ _ 1 _ _ _ e1]; rfl
      have HAT := hide (HA.out w4 b4)
      obtain ⟨xa, xc, bb, hat⟩ := atT_atM d.path s ka cap k (fun q hq => by
        have := List.any_eq_false.1 (deedFault_zero HX.out.2.2).2.2.2.2.2.1 q hq
        simpa using this)
      rw [hat] at HAT
      obtain ⟨lb, hlb⟩ : ∃ lb, lb = ((atM (nats d.path) s k).getD (⟨#[]⟩, .nil)).1 := ⟨_, rfl⟩
      obtain ⟨mm, hmm⟩ : ∃ mm, mm = flen ((atM (nats d.path) s k).getD (⟨#[]⟩, .nil)).2 := ⟨_, rfl⟩
      rw [← hlb, ← hmm] at HAT
      have HG := hide (show doP d s k = (0, (s', strip k'), backP d s k) from doP_of HX.out.2.1 HX.out.2.2 hdk (by simp only; rw [faultT_strip]; exact hc2.symm))
      have HS := hide (And.intro htU (And.intro hfr (And.intro hpU (And.intro bU (And.intro nU (And.intro hb4 b4))))))
      have HL := hide (And.intro hlb hmm)
      clear hat hdk htU hfr hpU bU nU hb4 e0 e1 hc2 hlb hmm HT HCK HA
      go_wp2_with fail
      refine Calls.mono HAT.out ?_
      rintro e w5 ⟨rfl, hb5⟩
      have s5 := hb5.size
      have b5 : Below W.heap.size W w5 := b4.trans (hb5.mono (by omega))
      obtain ⟨Y, hY⟩ : ∃ Y, Y = (w5.alloc (Obj.cells #[Value.string lb, Value.slice xa mm xc] 24)).alloc (Obj.cells #[.int .i64 1, .slice pa d.path.length pc, .int .i64 0, .int .i64 0, .string lb] 44) := ⟨_, rfl⟩
      obtain ⟨sY, b5Y, ny1, ny2⟩ := boxes2 w5 (Obj.cells #[Value.string lb, Value.slice xa mm xc] 24) (Obj.cells #[.int .i64 1, .slice pa d.path.length pc, .int .i64 0, .int .i64 0, .string lb] 44)
      rw [← hY] at sY b5Y ny1 ny2
      have bY : Below W.heap.size W Y := b5.trans (b5Y.mono (by omega))
      have e1 : Y.heap[w.heap.size + 1]? = _ := (bY.block _ (by omega)).trans HC.out.2.2.1
      have e2 : Y.heap[w.heap.size + 1 + 1]? = _ := (bY.block _ (by omega)).trans HC.out.2.2.2.1
      have e3 : Y.heap[w.heap.size + 1 + 1 + 1]? = _ := (bY.block _ (by omega)).trans HC.out.2.2.2.2
      have x1 : (w5.alloc (Obj.cells #[Value.string lb, Value.slice xa mm xc] 24)).cell? ⟨w.heap.size + 1, 1, none⟩ = some (.slice pa d.path.length pc) := by
        refine cellA ?_ _
        rw [hb5.cell (show w.heap.size + 1 < w4.heap.size by omega)]
        exact d1
      have y0 : Y.cell? ⟨w.heap.size + 1, 0, none⟩ = some (.int .i64 d.kind) := by rw [cell_of_row _ _ 0 _ _ _ e1]; rfl
      have y1 : Y.cell? ⟨w.heap.size + 1, 1, none⟩ = some (.slice pa d.path.length pc) := by rw [cell_of_row _ _ 1 _ _ _ e1]; rfl
      have y2 : Y.cell? ⟨w.heap.size + 1, 2, none⟩ = some (.int .i64 d.pos) := by rw [cell_of_row _ _ 2 _ _ _ e1]; rfl
      have z0 : Y.cell? ⟨w5.heap.size, 0, none⟩ = some (.string lb) := by rw [cell_of_row _ _ 0 _ _ _ ny1]; rfl
      have z1 : Y.cell? ⟨w5.heap.size, 1, none⟩ = some (.slice xa mm xc) := by rw [cell_of_row _ _ 1 _ _ _ ny1]; rfl
      have nu : Y.heap[w3.heap.size]? = _ := (b5Y.block _ (by omega)).trans ((hb5.block _ (by omega)).trans ((HS.out.2.2.2.2.2.1.block _ (by omega)).trans HS.out.2.2.2.2.1))
      have o0 : Y.cell? ⟨w3.heap.size, 0, none⟩ = some (.string s') := by rw [cell_of_row _ _ 0 _ _ _ nu]; rfl
      have o1 : Y.cell? ⟨w3.heap.size, 1, none⟩ = some (.slice ka' (flen k') cap') := by rw [cell_of_row _ _ 1 _ _ _ nu]; rfl
      have HBK := hide (show BackIs Y (w5.heap.size + 1) ⟨1, d.path, 0, 0, lb⟩ pa pc from BackIs.of (d := ⟨1, d.path, 0, 0, lb⟩) ny2)
      have HY := hide (And.intro bY (And.intro b5Y (And.intro e1 (And.intro e2 (And.intro e3 (And.intro hb5 nu))))))
      have q20 : Y.cell? ⟨w.heap.size + 1 + 1, 0, none⟩ = some (.string ⟨#[]⟩) := by rw [cell_of_row _ _ 0 _ _ _ e2]; rfl
      have q21 : Y.cell? ⟨w.heap.size + 1 + 1, 1, none⟩ = some (.slice none 0 0) := by rw [cell_of_row _ _ 1 _ _ _ e2]; rfl
      have f2 : ∀ o, Y.frozen? ⟨w.heap.size + 1 + 1, o, none⟩ = false := fun o => by simp [World.frozen?, e2]
      have f3 : ∀ o, Y.frozen? ⟨w.heap.size + 1 + 1 + 1, o, none⟩ = false := fun o => by simp [World.frozen?, e3]
      have q30 : Y.cell? ⟨w.heap.size + 1 + 1 + 1, 0, none⟩ = some (.int .i64 0) := by rw [cell_of_row _ _ 0 _ _ _ e3]; rfl
      have q31 : Y.cell? ⟨w.heap.size + 1 + 1 + 1, 1, none⟩ = some (.slice none 0 0) := by rw [cell_of_row _ _ 1 _ _ _ e3]; rfl
      have q32 : Y.cell? ⟨w.heap.size + 1 + 1 + 1, 2, none⟩ = some (.int .i64 0) := by rw [cell_of_row _ _ 2 _ _ _ e3]; rfl
      have q33 : Y.cell? ⟨w.heap.size + 1 + 1 + 1, 3, none⟩ = some (.int .i64 0) := by rw [cell_of_row _ _ 3 _ _ _ e3]; rfl
      have q34 : Y.cell? ⟨w.heap.size + 1 + 1 + 1, 4, none⟩ = some (.string ⟨#[]⟩) := by rw [cell_of_row _ _ 4 _ _ _ e3]; rfl
      have hlbs : lb.size ≤ maxLen := by
        rw [HL.out.1]
        cases hx : atM (nats d.path) s k with
        | none => exact (show ByteArray.size ⟨#[]⟩ ≤ maxLen by decide)
        | some x =>
          have := good_at _ _ _ _ (fault_zero HX.out.2.1).2.2 hx
          exact label_small this
      have hPY : ∀ Y', Below (w5.heap.size + 1) Y Y' → Below w.heap.size w Y' := fun Y' h => HC.out.1.trans ((bY.mono (by omega)).trans (h.mono (by omega)))
      have HFIN := hide (show ∀ (Y' : World) (bk : Dd) (pa' : Option Addr) (pc' : Nat), Below (w5.heap.size + 1) Y Y' → DIn Y' bk pa' pc' → (bk.path = [] ∨ ∀ a, pa' = some a → a.block ≠ w.heap.size + 1 + 1 ∧ a.block ≠ w.heap.size + 1 + 1 + 1) → (bk.path ≠ [] → ∀ a, pa' = some a → RQ w d pa a) → DoEndN False (RQ w d pa) (0, (s', strip k'), bk) w (.returned (.tuple #[.agg #[.string s', .slice ka' (flen k') cap'], .agg #[.int .i64 bk.kind, .slice pa' bk.path.length pc', .int .i64 bk.pos, .int .i64 bk.many, .string bk.lab], .int .i64 0]))
        (((((((Y'.setCell ⟨w.heap.size + 1 + 1, 0, none⟩ (.string s')).setCell ⟨w.heap.size + 1 + 1, 1, none⟩ (.slice ka' (flen k') cap')).setCell ⟨w.heap.size + 1 + 1 + 1, 0, none⟩ (.int .i64 bk.kind)).setCell ⟨w.heap.size + 1 + 1 + 1, 1, none⟩ (.slice pa' bk.path.length pc')).setCell ⟨w.heap.size + 1 + 1 + 1, 2, none⟩ (.int .i64 bk.pos)).setCell ⟨w.heap.size + 1 + 1 + 1, 3, none⟩ (.int .i64 bk.many)).setCell ⟨w.heap.size + 1 + 1 + 1, 4, none⟩ (.string bk.lab)).drew from fun Y' bk pa' pc' hY' hdi hpb hrq => by
        have h5Y : Below w5.heap.size w5 Y' := b5Y.trans (hY'.mono (by omega))
        exact doEnd_goodN (((HS.out.1.below HS.out.2.2.2.2.2.1).below hb5).below h5Y) (HS.out.2.1.mono (by omega)) (((HS.out.2.2.1.below HS.out.2.2.2.2.2.1).below hb5).below h5Y) hdi (HS.out.2.1.off (by omega)) (HS.out.2.1.off (by omega)) (hPY Y' hY') (by omega) (by omega) (fun h => h.elim) hrq hpb)
      have HPY := hide hPY
      have HLB := hide hlbs
      have HCELL := hide (show ∀ (Y' : World), Below (w5.heap.size + 1) Y Y' → ((Y'.cell? ⟨w.heap.size + 1, 0, none⟩ = some (.int .i64 d.kind) ∧ Y'.cell? ⟨w3.heap.size, 0, none⟩ = some (.string s') ∧ Y'.cell? ⟨w3.heap.size, 1, none⟩ = some (.slice ka' (flen k') cap')) ∧ (Y'.cell? ⟨w.heap.size + 1 + 1, 0, none⟩ = some (.string ⟨#[]⟩) ∧ Y'.cell? ⟨w.heap.size + 1 + 1, 1, none⟩ = some (.slice none 0 0) ∧ Y'.cell? ⟨w.heap.size + 1 + 1 + 1, 0, none⟩ = some (.int .i64 0) ∧ Y'.cell? ⟨w.heap.size + 1 + 1 + 1, 1, none⟩ = some (.slice none 0 0) ∧ Y'.cell? ⟨w.heap.size + 1 + 1 + 1, 2, none⟩ = some (.int .i64 0) ∧ Y'.cell? ⟨w.heap.size + 1 + 1 + 1, 3, none⟩ = some (.int .i64 0) ∧ Y'.cell? ⟨w.heap.size + 1 + 1 + 1, 4, none⟩ = some (.string ⟨#[]⟩)) ∧ (∀ o, Y'.frozen? ⟨w.heap.size + 1 + 1, o, none⟩ = false) ∧ (∀ o, Y'.frozen? ⟨w.heap.size + 1 + 1 + 1, o, none⟩ = false)) from fun Y' h => by
        have l1 : w.heap.size + 1 < w5.heap.size + 1 := by omega
        have l2 : w.heap.size + 1 + 1 < w5.heap.size + 1 := by omega
        have l3 : w.heap.size + 1 + 1 + 1 < w5.heap.size + 1 := by omega
        have l4 : w3.heap.size < w5.heap.size + 1 := by omega
        exact ⟨⟨(h.cell l1).trans y0, (h.cell l4).trans o0, (h.cell l4).trans o1⟩, ⟨(h.cell l2).trans q20, (h.cell l2).trans q21, (h.cell l3).trans q30, (h.cell l3).trans q31, (h.cell l3).trans q32, (h.cell l3).trans q33, (h.cell l3).trans q34⟩, fun o => (h.frozen l2).trans (f2 o), fun o => (h.frozen l3).trans (f3 o)⟩)
      obtain ⟨g1, g2, g3, g4, g5, g6, g7, g8⟩ := deedFault_zero HX.out.2.2
      have HG8 := hide g8
      have HG6 := hide g6
      have HP4 := hide g4
      clear g2 g3 g4 g5 g6 g7 g8 bY b5Y ny1 ny2 e1 e2 e3 hb5 nu a0 a1 d1 HAT b4 b5 hPY hlbs
      have hk := HKD.out
      rw [hk] at y0
      obtain ⟨q, i, hq⟩ : ∃ q i, d.path = q ++ [i] := ⟨_, _, last_split (HG8.out hk)⟩
      have h6 := HG6.out
      rw [hq] at h6
      obtain ⟨p, rfl⟩ := Int.eq_ofNat_of_zero_le (show 0 ≤ i by simpa using (any_append h6).2)
      obtain ⟨b, o, rfl, hpi⟩ : ∃ b o, pa = some ⟨b, o, none⟩ ∧ ∀ i p, d.path[i]? = some p → w.cell? ⟨b, o + i, none⟩ = some (.int .i64 p) := by
        rcases HX.out.1.path with h | h
        · rw [hq] at h
          simp at h
        · exact h
      have hpl : d.path.length = q.length + 1 := by rw [hq]; simp
      have hpp := hpi q.length (p : Int) (by rw [hq]; simp)
      have hbl : b < w.heap.size := World.block_lt_of_cell? _ _ hpp
      have hpY : Y.cell? ⟨b, o + q.length, none⟩ = some (.int .i64 (p : Int)) := by rw [(HPY.out Y (Below.refl _ _)).cell hbl]; exact hpp
      have hpc := HX.out.1.len
      have hpm := HX.out.1.cap
      have hw := wrap_lenM (a := q.length) (by omega)
      rw [← hpl] at hw
      have hlt : q.length < d.path.length := by omega
      unfold maxLen at hpm
      have hsl : ∀ wx, (Instr.slice 42 (.slice (some ⟨b, o, none⟩) d.path.length pc) none (some (.int .i64 (q.length : Int))) none).run Try.prog wx = .ok (.slice (some ⟨b, o, none⟩) q.length pc) wx := fun wx => by
        rw [run_slice_h wx 42 _ _ _ Try.underlying42 .i64 (q.length : Int) (by omega) (by omega)]
        simp [go_sem, sliced, Addr.add]
      have HQ := hide (show PIn w (some ⟨b, o, none⟩) q from Or.inr ⟨b, o, rfl, fun i x hx => hpi i x (by rw [hq, List.getElem?_append_left (List.getElem?_eq_some_iff.1 hx).1]; exact hx)⟩)
      have HR := hide (show doP d s k = (0, (s', strip k'), ⟨3, q, (p : Int), (mm : Int), lb⟩) by
        rw [HG.out]
        unfold backP
        rw [if_neg (by omega), if_pos hk, ← HL.out.1, ← HL.out.2, hq]
        simp)
      have hlq : q.length ≤ pc := by omega
      obtain ⟨r0, r1, r2, r3, r4, rf, _⟩ := HBK.out
      simp only at r0 r1 r2 r3 r4
      have HKK := hide hk
      clear hk hpi hpp hq h6 hpl hpc
      rw [hY] at y0 y1
      go_wp2_with fail
      rw [← hY]
      rw [← hY] at y0 y1
      clear hY x1
      have HKY := hide (show Kp [w.heap.size + 1, b, w5.heap.size] Y Y.drew from (Kp.refl (by simp; omega)).drew)
      have HSY := hide (fun (V : World) (h : Kp [w.heap.size + 1, b, w5.heap.size] Y V) => And.intro (h.cell (by simp) y1) (And.intro (h.cell (by simp) hpY) (And.intro (h.cell (by simp) z0) (h.cell (by simp) z1))))
      have gn : ¬ w5.heap.size + 1 ∈ [w.heap.size + 1, b, w5.heap.size] := by simp; omega
      go_region_held3 (fun w' => w'.cell? ⟨w.heap.size + 1, 1, none⟩ = some (.slice (some ⟨b, o, none⟩) d.path.length pc) ∧ w'.cell? ⟨b, o + q.length, none⟩ = some (.int .i64 (p : Int)) ∧ w'.cell? ⟨w5.heap.size, 0, none⟩ = some (.string lb) ∧ w'.cell? ⟨w5.heap.size, 1, none⟩ = some (.slice xa mm xc))
        ((refine HSY.out _ ?_; (repeat (first | refine Kp.set ?_ gn | refine Kp.drew ?_)); first | exact HKY.out | exact Kp.refl HKY.out.lt))
        (fail)
      have hbk := set5 HBK.out ⟨3, q, (p : Int), (mm : Int), lb⟩ (some ⟨b, o, none⟩) pc
      simp only at hbk
      obtain ⟨Z, hZ⟩ : ∃ Z, Z = (((((Y.setCell ⟨w5.heap.size + 1, 0, none⟩ (.int .i64 3)).setCell ⟨w5.heap.size + 1, 1, none⟩ (.slice (some ⟨b, o, none⟩) q.length pc)).setCell ⟨w5.heap.size + 1, 2, none⟩ (.int .i64 (p : Int))).setCell ⟨w5.heap.size + 1, 3, none⟩ (.int .i64 (mm : Int))).setCell ⟨w5.heap.size + 1, 4, none⟩ (.string lb)).drew := ⟨_, rfl⟩
      have bZ : Below (w5.heap.size + 1) Y Z := by rw [hZ]; exact (below_set5 (Below.refl _ Y) (Nat.le_refl _)).drew
      have hbZ : BackIs Z (w5.heap.size + 1) ⟨3, q, (p : Int), (mm : Int), lb⟩ (some ⟨b, o, none⟩) pc := by rw [hZ]; exact hbk.drew
      rw [← hZ]
      clear hZ hbk r0 r1 r2 r3 r4 rf y0 y1 y2 o0 o1 q20 q21 f2 f3 q30 q31 q32 q33 q34 z0 z1
      obtain ⟨⟨y0, o0, o1⟩, ⟨q20, q21, q30, q31, q32, q33, q34⟩, f2, f3⟩ := HCELL.out Z bZ
      obtain ⟨r0, r1, r2, r3, r4, rf, _⟩ := hbZ
      simp only at r0 r1 r2 r3 r4
      rw [HKK.out] at y0
      have HBZ := hide bZ
      clear bZ
      go_wp2_with fail
      go_region
      go_wp2_with fail
      rw [HR.out]
      refine bodyPost_ret (v := .tuple #[.agg #[.string s', .slice ka' (flen k') cap'], .agg #[.int .i64 3, .slice (some ⟨b, o, none⟩) q.length pc, .int .i64 (p : Int), .int .i64 (mm : Int), .string lb], .int .i64 0]) (by simp [results, Try.results26, go_sem, *]) rfl ?_
      exact HFIN.out Z ⟨3, q, (p : Int), (mm : Int), lb⟩ (some ⟨b, o, none⟩) pc HBZ.out ⟨HQ.out.below (HPY.out Z HBZ.out), hlq, HX.out.1.cap, HLB.out⟩ (path_far HQ.out (by omega) (by omega)) (fun _ a ha => Or.inr ⟨HDP.out, a, ha, rfl⟩)
    · have e2 : w4.heap[w.heap.size + 1 + 1]? = _ := (b4.block _ (by omega)).trans HC.out.2.2.2.1
      have e3 : w4.heap[w.heap.size + 1 + 1 + 1]? = _ := (b4.block _ (by omega)).trans HC.out.2.2.2.2
      have HR := hide (show doP d s k = (c2, (⟨#[]⟩, .nil), ⟨0, [], 0, 0, ⟨#[]⟩⟩) by
        unfold doP
        rw [if_neg (fun h' => h' HX.out.2.1), if_neg (fun h' => h' HX.out.2.2), if_neg (by rw [hdk]; simp), hdk, if_pos (by simp only; rw [faultT_strip, ← hc2]; exact hc20)]
        simp only
        rw [faultT_strip, ← hc2])
      have hbb : (c2 == 0) = false := beq_eq_false_iff_ne.2 hc20
      have hbb2 : (c2 != 0) = true := by simp [bne, hbb]
      have HU := hide (show Below w.heap.size w w4 from HC.out.1.trans (b4.mono (by omega)))
      have q20 : w4.cell? ⟨w.heap.size + 1 + 1, 0, none⟩ = some (.string ⟨#[]⟩) := by rw [cell_of_row _ _ 0 _ _ _ e2]; rfl
      have q21 : w4.cell? ⟨w.heap.size + 1 + 1, 1, none⟩ = some (.slice none 0 0) := by rw [cell_of_row _ _ 1 _ _ _ e2]; rfl
      have f2 : ∀ o, w4.frozen? ⟨w.heap.size + 1 + 1, o, none⟩ = false := fun o => by simp [World.frozen?, e2]
      have f3 : ∀ o, w4.frozen? ⟨w.heap.size + 1 + 1 + 1, o, none⟩ = false := fun o => by simp [World.frozen?, e3]
      have q30 : w4.cell? ⟨w.heap.size + 1 + 1 + 1, 0, none⟩ = some (.int .i64 0) := by rw [cell_of_row _ _ 0 _ _ _ e3]; rfl
      have q31 : w4.cell? ⟨w.heap.size + 1 + 1 + 1, 1, none⟩ = some (.slice none 0 0) := by rw [cell_of_row _ _ 1 _ _ _ e3]; rfl
      have q32 : w4.cell? ⟨w.heap.size + 1 + 1 + 1, 2, none⟩ = some (.int .i64 0) := by rw [cell_of_row _ _ 2 _ _ _ e3]; rfl
      have q33 : w4.cell? ⟨w.heap.size + 1 + 1 + 1, 3, none⟩ = some (.int .i64 0) := by rw [cell_of_row _ _ 3 _ _ _ e3]; rfl
      have q34 : w4.cell? ⟨w.heap.size + 1 + 1 + 1, 4, none⟩ = some (.string ⟨#[]⟩) := by rw [cell_of_row _ _ 4 _ _ _ e3]; rfl
      clear e2 e3 hc20 hc2 hdk htU hfr hpU bU nU hb4 b4 HT HCK HC HX HA
      go_wp2_with fail
      rw [HR.out]
      refine bodyPost_ret (v := .tuple #[.agg #[.string ⟨#[]⟩, .slice none 0 0], .agg #[.int .i64 0, .slice none 0 0, .int .i64 0, .int .i64 0, .string ⟨#[]⟩], .int .i64 c2]) (by simp [results, Try.results26, go_sem, *]) rfl (DoEndN.bad ?_)
      exact ((((((HU.out.setCell (by simp only; omega) _).setCell (by simp only; omega) _).setCell (by simp only; omega) _).setCell (by simp only; omega) _).setCell (by simp only; omega) _).setCell (by simp only; omega) _).setCell (by simp only; omega) _
  · have e2 : U.heap[w.heap.size + 1 + 1]? = _ := (bU.block _ (by omega)).trans HC.out.2.2.2.1
    have e3 : U.heap[w.heap.size + 1 + 1 + 1]? = _ := (bU.block _ (by omega)).trans HC.out.2.2.2.2
    have HR := hide (show doP d s k = (c, (⟨#[]⟩, .nil), ⟨0, [], 0, 0, ⟨#[]⟩⟩) by
      unfold doP
      rw [if_neg (fun h' => h' HX.out.2.1), if_neg (fun h' => h' HX.out.2.2), ← hc, if_pos hc0])
    have hbb : (c == 0) = false := beq_eq_false_iff_ne.2 hc0
    have hbb2 : (c != 0) = true := by simp [bne, hbb]
    have HU := hide (show Below w.heap.size w U from HC.out.1.trans (bU.mono (by omega)))
    have q20 : U.cell? ⟨w.heap.size + 1 + 1, 0, none⟩ = some (.string ⟨#[]⟩) := by rw [cell_of_row _ _ 0 _ _ _ e2]; rfl
    have q21 : U.cell? ⟨w.heap.size + 1 + 1, 1, none⟩ = some (.slice none 0 0) := by rw [cell_of_row _ _ 1 _ _ _ e2]; rfl
    have f2 : ∀ o, U.frozen? ⟨w.heap.size + 1 + 1, o, none⟩ = false := fun o => by simp [World.frozen?, e2]
    have f3 : ∀ o, U.frozen? ⟨w.heap.size + 1 + 1 + 1, o, none⟩ = false := fun o => by simp [World.frozen?, e3]
    have q30 : U.cell? ⟨w.heap.size + 1 + 1 + 1, 0, none⟩ = some (.int .i64 0) := by rw [cell_of_row _ _ 0 _ _ _ e3]; rfl
    have q31 : U.cell? ⟨w.heap.size + 1 + 1 + 1, 1, none⟩ = some (.slice none 0 0) := by rw [cell_of_row _ _ 1 _ _ _ e3]; rfl
    have q32 : U.cell? ⟨w.heap.size + 1 + 1 + 1, 2, none⟩ = some (.int .i64 0) := by rw [cell_of_row _ _ 2 _ _ _ e3]; rfl
    have q33 : U.cell? ⟨w.heap.size + 1 + 1 + 1, 3, none⟩ = some (.int .i64 0) := by rw [cell_of_row _ _ 3 _ _ _ e3]; rfl
    have q34 : U.cell? ⟨w.heap.size + 1 + 1 + 1, 4, none⟩ = some (.string ⟨#[]⟩) := by rw [cell_of_row _ _ 4 _ _ _ e3]; rfl
    clear e2 e3 hc0 hc hok bU b3U nU hb3 hb3' HC HX HA
    rw [hU] at q20 q21 f2 f3 q30 q31 q32 q33 q34
    go_wp2_with fail
    rw [HR.out]
    refine bodyPost_ret (v := .tuple #[.agg #[.string ⟨#[]⟩, .slice none 0 0], .agg #[.int .i64 0, .slice none 0 0, .int .i64 0, .int .i64 0, .string ⟨#[]⟩], .int .i64 c]) (by simp [results, Try.results26, go_sem, *]) rfl (DoEndN.bad ?_)
    rw [← hU]
    exact ((((((HU.out.setCell (by simp only; omega) _).setCell (by simp only; omega) _).setCell (by simp only; omega) _).setCell (by simp only; omega) _).setCell (by simp only; omega) _).setCell (by simp only; omega) _).setCell (by simp only; omega) _
end Go.Proofs.Ytcknganggcbkjab.Deed
