/- Do of package pleachingref, where the tree is one and the deed is one. Of the program's text. -/
/- Do of package pleachingref, whatever the tree and the deed; greatDeed of package pleachinglaw. Of the program's text. -/
/- Run of package pleachingref. Of the program's text. -/
import Derived.Test.YtcknganggcbkjabGS36
import Derived.Test.YtcknganggcbkjabGS23
import Derived.Test.YtcknganggcbkjabGS24
import Derived.BigQuiet
import Derived.Deep.RegionHeld3
import Derived.Test.YtcknganggcbkjabProg
import Derived.Test.YtcknganggcbkjabGS35
import Derived.Deep.LoopGhost
import Derived.Deep.DeepCutAuto
import Derived.WalkSmall
namespace Go.Proofs.Ytcknganggcbkjab.Deed
open Go.Deep Go.RowKit
set_option linter.unusedVariables false
set_option maxRecDepth 20000

theorem PIn.drewP {w : World} {pa : Option Addr} {l : List Int} (h : PIn w pa l) : PIn w.drew pa l := h.below (Below.refl _ w).drew
/-- A path behind nothing. -/
theorem append_path {w : World} {pa : Option Addr} {l : List Int} (pc : Nat) (h : PIn w pa l) (hl : l.length ≤ 60) : ∃ va vc w', (Builtin.append_ #[42, 42] 42 #[.slice none 0 0, .slice pa l.length pc]).run Try.prog w = .ok (.slice va l.length vc) w' ∧ w'.ownsRow w.heap.size 3 1 (.slice va l.length vc) l.length (ints l) ∧ Below w.heap.size w w' := by
  obtain ⟨i0, hi0, hz0, hz1, hz2⟩ := info_parts Try.infoInt
  have := append_src (P := Try.prog) w 42 3 i0 _ 1 8 Try.underlying42 hi0 hz0 hz1 hz2 rfl (by decide) (World.ownsRow_nil w w.heap.size 3 1) (src_path h pc) (by unfold maxLen; simp only; omega) (by simp only; omega) (Nat.le_refl _)
  unfold Src.val at this
  simpa using this
/-- And one number more. -/
theorem append_more {w w1 : World} {B vc g : Nat} {va : Option Addr} {l : List Int} {p : Int} (h : w.ownsRow B 3 1 (.slice va l.length vc) l.length (ints l)) (hl : l.length ≤ 60) (hB : B ≤ w.heap.size) (hb : Below w.heap.size w w1) (hg : w1.heap[g]? = some (Obj.cells #[.int .i64 p] 3)) : ∃ va' vc' w', (Builtin.append_ #[42, 42] 42 #[.slice va l.length vc, .slice (some ⟨g, 0, none⟩) 1 1]).run Try.prog w1 = .ok (.slice va' (l.length + 1) vc') w' ∧ w'.ownsRow B 3 1 (.slice va' (l.length + 1) vc') (l.length + 1) (ints (l ++ [p])) ∧ Below B w1 w' := by
  obtain ⟨i0, hi0, hz0, hz1, hz2⟩ := info_parts Try.infoInt
  have := append_src (P := Try.prog) w1 42 3 i0 _ 1 8 Try.underlying42 hi0 hz0 hz1 hz2 rfl (by decide) (ownsN_below h hb) (s := ⟨some ⟨g, 0, none⟩, 1, 1, [.int .i64 p]⟩) ⟨rfl, fun u hu => by simp at hu; subst hu; rfl, Or.inr ⟨_, rfl, World.news_of_block hg⟩⟩ (by unfold maxLen; simp only; omega) (by simp only; omega) (Nat.le_trans hB hb.size)
  unfold Src.val at this
  simp only at this
  have e : ints l ++ [Value.int .i64 p] = ints (l ++ [p]) := by simp [ints]
  rw [e] at this
  exact this

set_option maxHeartbeats 2000000 in
theorem do_rest3 (d : Dd) (s : ByteArray) (ka : Option Addr) (cap : Nat) (k : Fo) (pa : Option Addr) (pc : Nat) (w : World) (ht : TIn w s ka cap k) (hd : DIn w d pa pc) (hkk : d.kind = 3) (hlp : d.path.length ≤ 60) (hm1 : d.many ≤ 9223372036854775807) (h1 : faultT s k = 0) (h2 : deedFault d = 0) :
    Calls Try.prog 26 #[.agg #[.string s, .slice ka (flen k) cap], ddV d pa pc] w (DoEndN False (RQ w d pa) (doP d s k) w) := by
  obtain ⟨W, hW⟩ : ∃ W, W = (((w.alloc (Obj.cells #[Value.string s, Value.slice ka (flen k) cap] 24)).alloc (Obj.cells #[.int .i64 d.kind, .slice pa d.path.length pc, .int .i64 d.pos, .int .i64 d.many, .string d.lab] 44)).alloc (Obj.cells #[Value.string ⟨#[]⟩, Value.slice none 0 0] 24)).alloc (Obj.cells #[.int .i64 0, .slice none 0 0, .int .i64 0, .int .i64 0, .string ⟨#[]⟩] 44) := ⟨_, rfl⟩
  obtain ⟨hWs, hB, c0, c1, c2, c3⟩ := boxes4 w (Obj.cells #[Value.string s, Value.slice ka (flen k) cap] 24) (Obj.cells #[.int .i64 d.kind, .slice pa d.path.length pc, .int .i64 d.pos, .int .i64 d.many, .string d.lab] 44) (Obj.cells #[Value.string ⟨#[]⟩, Value.slice none 0 0] 24) (Obj.cells #[.int .i64 0, .slice none 0 0, .int .i64 0, .int .i64 0, .string ⟨#[]⟩] 44)
  rw [← hW] at hWs hB c0 c1 c2 c3
  have hf := treeFault_any s ka cap k W (ht.below hB)
  rw [h1] at hf
  have HF := hide hf
  have hD : ∀ W', Below W.heap.size W W' → Calls Try.prog 28 #[ddV d pa pc] W' fun e w' => e = .returned (.int .i64 0) ∧ Below W'.heap.size W' w' := fun W' h => by
    rw [← h2]
    exact refDF_any d pa pc W' (hd.below (hB.trans (h.mono (by omega))))
  unfold ddV at hD
  have HD := hide hD
  obtain ⟨g1, g2, g3, g4, g5, g6, g7, g8⟩ := deedFault_zero h2
  have hO : ∀ W', Below W.heap.size W W' → Calls Try.prog 56 #[.agg #[.string s, .slice ka (flen k) cap], ddV d pa pc, .slice pa d.path.length pc] W' (DoneEnd (doneP d s k) W') := fun W' h => by
    have hb : Below w.heap.size w W' := hB.trans (h.mono (by omega))
    have := done_any d g1 g4 g5 hm1 hd.lab d.path (fun q hq => by
      have := List.any_eq_false.1 g6 q hq
      simpa using this) (fun h => g8 h) s ka cap k pa pa pc pc W' (ht.below hb) (by have := (fault_zero h1).1; omega) (hd.path.below hb) hd.len hd.cap
    rw [doneR_all] at this
    exact this
  unfold ddV at hO
  have HO := hide hO
  have hA : ∀ W', Below W.heap.size W W' → Calls Try.prog 57 #[.agg #[.string s, .slice ka (flen k) cap], .slice pa d.path.length pc] W' fun e w' => e = .returned (atV (atT (s, ka, cap, k) d.path)) ∧ Below W'.heap.size W' w' := fun W' h => by
    have hb : Below w.heap.size w W' := hB.trans (h.mono (by omega))
    exact refAt_any d.path s ka cap k pa pc W' (ht.below hb) (hd.path.below hb) hd.len hd.cap
  have HA := hide hA
  have HC := hide (And.intro hB (And.intro c0 (And.intro c1 (And.intro c2 c3))))
  have HX := hide (And.intro hd (And.intro h1 h2))
  have HKD := hide hkk
  clear hkk
  clear hB c0 c1 c2 c3 ht hf hD hd h1 h2 hO hA g1 g2 g3 g4 g5 g6 g7 g8 hm1
  unfold ddV
  go_enter Try.func26, Try.ntmps26
  go_wp2_with fail
  rw [← hW]
  clear hW
  refine Calls.mono HF.out ?_
  rintro e w1 ⟨rfl, hb1⟩
  have e1 : w1.heap[w.heap.size + 1]? = _ := (hb1.block _ (by omega)).trans HC.out.2.2.1
  have d0 : w1.cell? ⟨w.heap.size + 1, 0, none⟩ = some (.int .i64 d.kind) := by rw [cell_of_row _ _ 0 _ _ _ e1]; rfl
  have d1 : w1.cell? ⟨w.heap.size + 1, 1, none⟩ = some (.slice pa d.path.length pc) := by rw [cell_of_row _ _ 1 _ _ _ e1]; rfl
  have d2 : w1.cell? ⟨w.heap.size + 1, 2, none⟩ = some (.int .i64 d.pos) := by rw [cell_of_row _ _ 2 _ _ _ e1]; rfl
  have d3 : w1.cell? ⟨w.heap.size + 1, 3, none⟩ = some (.int .i64 d.many) := by rw [cell_of_row _ _ 3 _ _ _ e1]; rfl
  have d4 : w1.cell? ⟨w.heap.size + 1, 4, none⟩ = some (.string d.lab) := by rw [cell_of_row _ _ 4 _ _ _ e1]; rfl
  have HB1 := hide hb1
  clear e1 hb1 HF
  go_wp2_with fail
  refine Calls.mono (HD.out _ HB1.out) ?_
  rintro e w2 ⟨rfl, hb2'⟩
  have hb2 : Below W.heap.size W w2 := HB1.out.trans (hb2'.mono HB1.out.size)
  have e0 : w2.heap[w.heap.size]? = _ := (hb2.block _ (by omega)).trans HC.out.2.1
  have e1 : w2.heap[w.heap.size + 1]? = _ := (hb2.block _ (by omega)).trans HC.out.2.2.1
  clear d0 d1 d2 d3 d4
  have a0 : w2.cell? ⟨w.heap.size, 0, none⟩ = some (.string s) := by rw [cell_of_row _ _ 0 _ _ _ e0]; rfl
  have a1 : w2.cell? ⟨w.heap.size, 1, none⟩ = some (.slice ka (flen k) cap) := by rw [cell_of_row _ _ 1 _ _ _ e0]; rfl
  have d0 : w2.cell? ⟨w.heap.size + 1, 0, none⟩ = some (.int .i64 d.kind) := by rw [cell_of_row _ _ 0 _ _ _ e1]; rfl
  have d1 : w2.cell? ⟨w.heap.size + 1, 1, none⟩ = some (.slice pa d.path.length pc) := by rw [cell_of_row _ _ 1 _ _ _ e1]; rfl
  have d2 : w2.cell? ⟨w.heap.size + 1, 2, none⟩ = some (.int .i64 d.pos) := by rw [cell_of_row _ _ 2 _ _ _ e1]; rfl
  have d3 : w2.cell? ⟨w.heap.size + 1, 3, none⟩ = some (.int .i64 d.many) := by rw [cell_of_row _ _ 3 _ _ _ e1]; rfl
  have d4 : w2.cell? ⟨w.heap.size + 1, 4, none⟩ = some (.string d.lab) := by rw [cell_of_row _ _ 4 _ _ _ e1]; rfl
  have HB2 := hide hb2
  clear e0 e1 hb2' hb2 HD HB1
  go_wp2_with fail
  refine Calls.mono (HO.out _ HB2.out) ?_
  rintro e w3 ⟨s', ka', cap', k', rfl, hok, hb3'⟩
  have hb3 : Below W.heap.size W w3 := HB2.out.trans (hb3'.mono HB2.out.size)
  have s2 := HB2.out.size
  have s3 := hb3.size
  obtain ⟨c, hc⟩ : ∃ c, c = (doneP d s k).1 := ⟨_, rfl⟩
  rw [← hc] at hok ⊢
  obtain ⟨U, hU⟩ : ∃ U, U = w3.alloc (Obj.cells #[Value.string s', Value.slice ka' (flen k') cap'] 24) := ⟨_, rfl⟩
  have bU : Below W.heap.size W U := by rw [hU]; exact hb3.alloc s3 _
  have b3U : Below w3.heap.size w3 U := by rw [hU]; exact (Below.refl _ _).alloc (Nat.le_refl _) _
  have sU : U.heap.size = w3.heap.size + 1 := by rw [hU]; simp
  have nU : U.heap[w3.heap.size]? = some (Obj.cells #[Value.string s', Value.slice ka' (flen k') cap'] 24) := by rw [hU]; exact heap_alloc_new _ _
  clear a0 a1 d0 d1 d2 d3 d4 HO
  by_cases hc0 : c = 0
  · subst hc0
    obtain ⟨hs', hst, htk, hfr, hpk⟩ := hok rfl
    have HCK := hide (treeFault_any s' ka' cap' k' U (htk.below b3U))
    have u0 : U.cell? ⟨w3.heap.size, 0, none⟩ = some (.string s') := by rw [cell_of_row _ _ 0 _ _ _ nU]; rfl
    have u1 : U.cell? ⟨w3.heap.size, 1, none⟩ = some (.slice ka' (flen k') cap') := by rw [cell_of_row _ _ 1 _ _ _ nU]; rfl
    obtain ⟨c2, hc2⟩ : ∃ c2, c2 = faultT s' k' := ⟨_, rfl⟩
    rw [← hc2] at HCK
    have hdk : doneP d s k = (0, s', strip k') := by
      rw [hs', hst]
      exact Prod.ext hc.symm rfl
    have HT := hide (And.intro hdk (And.intro (htk.below b3U) (And.intro hfr (And.intro (hpk.below b3U) (And.intro hc2 (And.intro bU nU))))))
    clear hok hs' hst htk hfr hpk hdk bU b3U nU hb3 hb3' hc hc2
    rw [hU] at u0 u1
    go_wp2_with fail
    rw [← hU]
    clear hU u0 u1
    refine Calls.mono HCK.out ?_
    rintro e w4 ⟨rfl, hb4⟩
    obtain ⟨hdk, htU, hfr, hpU, hc2, bU, nU⟩ := HT.out
    have s4 := hb4.size
    have b4 : Below W.heap.size W w4 := bU.trans (hb4.mono (by omega))
    by_cases hc20 : c2 = 0
    · subst hc20
      have e0 : w4.heap[w.heap.size]? = _ := (b4.block _ (by omega)).trans HC.out.2.1
      have e1 : w4.heap[w.heap.size + 1]? = _ := (b4.block _ (by omega)).trans HC.out.2.2.1
      have a0 : w4.cell? ⟨w.heap.size, 0, none⟩ = some (.string s) := by rw [cell_of_row _ _ 0 _ _ _ e0]; rfl
      have a1 : w4.cell? ⟨w.heap.size, 1, none⟩ = some (.slice ka (flen k) cap) := by rw [cell_of_row _ _ 1 _ _ _ e0]; rfl
      have d1 : w4.cell? ⟨w.heap.size + 1, 1, none⟩ = some (.slice pa d.path.length pc) := by rw [cell_of_row _ _ 1 _ _ _ e1]; rfl
      have HAT := hide (HA.out w4 b4)
      obtain ⟨xa, xc, bb, hat⟩ := atT_atM d.path s ka cap k (fun q hq => by
        have := List.any_eq_false.1 (deedFault_zero HX.out.2.2).2.2.2.2.2.1 q hq
        simpa using this)
      rw [hat] at HAT
      obtain ⟨lb, hlb⟩ : ∃ lb, lb = ((atM (nats d.path) s k).getD (⟨#[]⟩, .nil)).1 := ⟨_, rfl⟩
      obtain ⟨mm, hmm⟩ : ∃ mm, mm = flen ((atM (nats d.path) s k).getD (⟨#[]⟩, .nil)).2 := ⟨_, rfl⟩
      rw [← hlb, ← hmm] at HAT
      have HG := hide (show doP d s k = (0, (s', strip k'), backP d s k) from doP_of HX.out.2.1 HX.out.2.2 hdk (by simp only; rw [faultT_strip]; exact hc2.symm))
      have HS := hide (And.intro htU (And.intro hfr (And.intro hpU (And.intro bU (And.intro nU (And.intro hb4 b4))))))
      have HL := hide (And.intro hlb hmm)
      clear hat hdk htU hfr hpU bU nU hb4 e0 e1 hc2 hlb hmm HT HCK HA
      go_wp2_with fail
      refine Calls.mono HAT.out ?_
      rintro e w5 ⟨rfl, hb5⟩
      have s5 := hb5.size
      have b5 : Below W.heap.size W w5 := b4.trans (hb5.mono (by omega))
      obtain ⟨Y, hY⟩ : ∃ Y, Y = (w5.alloc (Obj.cells #[Value.string lb, Value.slice xa mm xc] 24)).alloc (Obj.cells #[.int .i64 1, .slice pa d.path.length pc, .int .i64 0, .int .i64 0, .string lb] 44) := ⟨_, rfl⟩
      obtain ⟨sY, b5Y, ny1, ny2⟩ := boxes2 w5 (Obj.cells #[Value.string lb, Value.slice xa mm xc] 24) (Obj.cells #[.int .i64 1, .slice pa d.path.length pc, .int .i64 0, .int .i64 0, .string lb] 44)
      rw [← hY] at sY b5Y ny1 ny2
      have bY : Below W.heap.size W Y := b5.trans (b5Y.mono (by omega))
      have e1 : Y.heap[w.heap.size + 1]? = _ := (bY.block _ (by omega)).trans HC.out.2.2.1
      have e2 : Y.heap[w.heap.size + 1 + 1]? = _ := (bY.block _ (by omega)).trans HC.out.2.2.2.1
      have e3 : Y.heap[w.heap.size + 1 + 1 + 1]? = _ := (bY.block _ (by omega)).trans HC.out.2.2.2.2
      have x1 : (w5.alloc (Obj.cells #[Value.string lb, Value.slice xa mm xc] 24)).cell? ⟨w.heap.size + 1, 1, none⟩ = some (.slice pa d.path.length pc) := by
        refine cellA ?_ _
        rw [hb5.cell (show w.heap.size + 1 < w4.heap.size by omega)]
        exact d1
      have y0 : Y.cell? ⟨w.heap.size + 1, 0, none⟩ = some (.int .i64 d.kind) := by rw [cell_of_row _ _ 0 _ _ _ e1]; rfl
      have y1 : Y.cell? ⟨w.heap.size + 1, 1, none⟩ = some (.slice pa d.path.length pc) := by rw [cell_of_row _ _ 1 _ _ _ e1]; rfl
      have y2 : Y.cell? ⟨w.heap.size + 1, 2, none⟩ = some (.int .i64 d.pos) := by rw [cell_of_row _ _ 2 _ _ _ e1]; rfl
      have z0 : Y.cell? ⟨w5.heap.size, 0, none⟩ = some (.string lb) := by rw [cell_of_row _ _ 0 _ _ _ ny1]; rfl
      have z1 : Y.cell? ⟨w5.heap.size, 1, none⟩ = some (.slice xa mm xc) := by rw [cell_of_row _ _ 1 _ _ _ ny1]; rfl
      have nu : Y.heap[w3.heap.size]? = _ := (b5Y.block _ (by omega)).trans ((hb5.block _ (by omega)).trans ((HS.out.2.2.2.2.2.1.block _ (by omega)).trans HS.out.2.2.2.2.1))
      have o0 : Y.cell? ⟨w3.heap.size, 0, none⟩ = some (.string s') := by rw [cell_of_row _ _ 0 _ _ _ nu]; rfl
      have o1 : Y.cell? ⟨w3.heap.size, 1, none⟩ = some (.slice ka' (flen k') cap') := by rw [cell_of_row _ _ 1 _ _ _ nu]; rfl
      have HBK := hide (show BackIs Y (w5.heap.size + 1) ⟨1, d.path, 0, 0, lb⟩ pa pc from BackIs.of (d := ⟨1, d.path, 0, 0, lb⟩) ny2)
      have HY := hide (And.intro bY (And.intro b5Y (And.intro e1 (And.intro e2 (And.intro e3 (And.intro hb5 nu))))))
      have q20 : Y.cell? ⟨w.heap.size + 1 + 1, 0, none⟩ = some (.string ⟨#[]⟩) := by rw [cell_of_row _ _ 0 _ _ _ e2]; rfl
      have q21 : Y.cell? ⟨w.heap.size + 1 + 1, 1, none⟩ = some (.slice none 0 0) := by rw [cell_of_row _ _ 1 _ _ _ e2]; rfl
      have f2 : ∀ o, Y.frozen? ⟨w.heap.size + 1 + 1, o, none⟩ = false := fun o => by simp [World.frozen?, e2]
      have f3 : ∀ o, Y.frozen? ⟨w.heap.size + 1 + 1 + 1, o, none⟩ = false := fun o => by simp [World.frozen?, e3]
      have q30 : Y.cell? ⟨w.heap.size + 1 + 1 + 1, 0, none⟩ = some (.int .i64 0) := by rw [cell_of_row _ _ 0 _ _ _ e3]; rfl
      have q31 : Y.cell? ⟨w.heap.size + 1 + 1 + 1, 1, none⟩ = some (.slice none 0 0) := by rw [cell_of_row _ _ 1 _ _ _ e3]; rfl
      have q32 : Y.cell? ⟨w.heap.size + 1 + 1 + 1, 2, none⟩ = some (.int .i64 0) := by rw [cell_of_row _ _ 2 _ _ _ e3]; rfl
      have q33 : Y.cell? ⟨w.heap.size + 1 + 1 + 1, 3, none⟩ = some (.int .i64 0) := by rw [cell_of_row _ _ 3 _ _ _ e3]; rfl
      have q34 : Y.cell? ⟨w.heap.size + 1 + 1 + 1, 4, none⟩ = some (.string ⟨#[]⟩) := by rw [cell_of_row _ _ 4 _ _ _ e3]; rfl
      have hlbs : lb.size ≤ maxLen := by
        rw [HL.out.1]
        cases hx : atM (nats d.path) s k with
        | none => exact (show ByteArray.size ⟨#[]⟩ ≤ maxLen by decide)
        | some x =>
          have := good_at _ _ _ _ (fault_zero HX.out.2.1).2.2 hx
          exact label_small this
      have hPY : ∀ Y', Below (w5.heap.size + 1) Y Y' → Below w.heap.size w Y' := fun Y' h => HC.out.1.trans ((bY.mono (by omega)).trans (h.mono (by omega)))
      have HFIN := hide (show ∀ (Y' : World) (bk : Dd) (pa' : Option Addr) (pc' : Nat), Below (w5.heap.size + 1) Y Y' → DIn Y' bk pa' pc' → (bk.path = [] ∨ ∀ a, pa' = some a → a.block ≠ w.heap.size + 1 + 1 ∧ a.block ≠ w.heap.size + 1 + 1 + 1) → (bk.path ≠ [] → ∀ a, pa' = some a → RQ w d pa a) → DoEndN False (RQ w d pa) (0, (s', strip k'), bk) w (.returned (.tuple #[.agg #[.string s', .slice ka' (flen k') cap'], .agg #[.int .i64 bk.kind, .slice pa' bk.path.length pc', .int .i64 bk.pos, .int .i64 bk.many, .string bk.lab], .int .i64 0]))
        (((((((Y'.setCell ⟨w.heap.size + 1 + 1, 0, none⟩ (.string s')).setCell ⟨w.heap.size + 1 + 1, 1, none⟩ (.slice ka' (flen k') cap')).setCell ⟨w.heap.size + 1 + 1 + 1, 0, none⟩ (.int .i64 bk.kind)).setCell ⟨w.heap.size + 1 + 1 + 1, 1, none⟩ (.slice pa' bk.path.length pc')).setCell ⟨w.heap.size + 1 + 1 + 1, 2, none⟩ (.int .i64 bk.pos)).setCell ⟨w.heap.size + 1 + 1 + 1, 3, none⟩ (.int .i64 bk.many)).setCell ⟨w.heap.size + 1 + 1 + 1, 4, none⟩ (.string bk.lab)).drew from fun Y' bk pa' pc' hY' hdi hpb hrq => by
        have h5Y : Below w5.heap.size w5 Y' := b5Y.trans (hY'.mono (by omega))
        exact doEnd_goodN (((HS.out.1.below HS.out.2.2.2.2.2.1).below hb5).below h5Y) (HS.out.2.1.mono (by omega)) (((HS.out.2.2.1.below HS.out.2.2.2.2.2.1).below hb5).below h5Y) hdi (HS.out.2.1.off (by omega)) (HS.out.2.1.off (by omega)) (hPY Y' hY') (by omega) (by omega) (fun h => h.elim) hrq hpb)
      have HPY := hide hPY
      have HLB := hide hlbs
      have HCELL := hide (show ∀ (Y' : World), Below (w5.heap.size + 1) Y Y' → ((Y'.cell? ⟨w.heap.size + 1, 0, none⟩ = some (.int .i64 d.kind) ∧ Y'.cell? ⟨w3.heap.size, 0, none⟩ = some (.string s') ∧ Y'.cell? ⟨w3.heap.size, 1, none⟩ = some (.slice ka' (flen k') cap')) ∧ (Y'.cell? ⟨w.heap.size + 1 + 1, 0, none⟩ = some (.string ⟨#[]⟩) ∧ Y'.cell? ⟨w.heap.size + 1 + 1, 1, none⟩ = some (.slice none 0 0) ∧ Y'.cell? ⟨w.heap.size + 1 + 1 + 1, 0, none⟩ = some (.int .i64 0) ∧ Y'.cell? ⟨w.heap.size + 1 + 1 + 1, 1, none⟩ = some (.slice none 0 0) ∧ Y'.cell? ⟨w.heap.size + 1 + 1 + 1, 2, none⟩ = some (.int .i64 0) ∧ Y'.cell? ⟨w.heap.size + 1 + 1 + 1, 3, none⟩ = some (.int .i64 0) ∧ Y'.cell? ⟨w.heap.size + 1 + 1 + 1, 4, none⟩ = some (.string ⟨#[]⟩)) ∧ (∀ o, Y'.frozen? ⟨w.heap.size + 1 + 1, o, none⟩ = false) ∧ (∀ o, Y'.frozen? ⟨w.heap.size + 1 + 1 + 1, o, none⟩ = false)) from fun Y' h => by
        have l1 : w.heap.size + 1 < w5.heap.size + 1 := by omega
        have l2 : w.heap.size + 1 + 1 < w5.heap.size + 1 := by omega
        have l3 : w.heap.size + 1 + 1 + 1 < w5.heap.size + 1 := by omega
        have l4 : w3.heap.size < w5.heap.size + 1 := by omega
        exact ⟨⟨(h.cell l1).trans y0, (h.cell l4).trans o0, (h.cell l4).trans o1⟩, ⟨(h.cell l2).trans q20, (h.cell l2).trans q21, (h.cell l3).trans q30, (h.cell l3).trans q31, (h.cell l3).trans q32, (h.cell l3).trans q33, (h.cell l3).trans q34⟩, fun o => (h.frozen l2).trans (f2 o), fun o => (h.frozen l3).trans (f3 o)⟩)
      obtain ⟨g1, g2, g3, g4, g5, g6, g7, g8⟩ := deedFault_zero HX.out.2.2
      have HG8 := hide g8
      have HG6 := hide g6
      have HP4 := hide g4
      clear g2 g3 g4 g5 g6 g7 g8 bY b5Y ny1 ny2 e1 e2 e3 hb5 nu a0 a1 d1 HAT b4 b5 hPY hlbs
      have hk := HKD.out
      rw [hk] at y0
      have HR := hide (show doP d s k = (0, (s', strip k'), ⟨2, d.path ++ [d.pos], 0, 0, ⟨#[]⟩⟩) by
        rw [HG.out]
        unfold backP
        rw [if_neg (by omega), if_neg (by omega)])
      have HKK := hide hk
      clear hk
      rw [hY] at y0
      go_wp2_with fail
      rw [← hY]
      rw [← hY] at y0
      clear hY x1
      have hPI : PIn Y pa d.path := HX.out.1.path.below (HPY.out Y (Below.refl _ _))
      obtain ⟨va1, vc1, wa, ha1, ha2, ha3⟩ := append_path pc (PIn.drewP hPI) hlp
      obtain ⟨va2, vc2, wb, hb1, hb2, hb3⟩ := append_more (p := d.pos) ha2 hlp (show Y.drew.heap.size ≤ wa.heap.size from ha3.size) ((Below.refl wa.heap.size wa).alloc (Nat.le_refl _) (Obj.cells #[.int .i64 d.pos] 3)) (heap_alloc_new wa _)
      obtain ⟨va3, vc3, wc, hc1, hc2, hc3⟩ := append_path pc (hPI.below ((Below.refl _ Y).alloc (Nat.le_refl _) (Obj.cells #[.int .i64 d.pos] 3)).drew) hlp
      obtain ⟨va4, vc4, wd, hd1, hd2, hd3⟩ := append_more (p := d.pos) hc2 hlp hc3.size (Below.refl _ wc) ((hc3.block Y.heap.size (show Y.heap.size < (Y.alloc _).heap.size by simp)).trans (heap_alloc_new Y (Obj.cells #[.int .i64 d.pos] 3)))
      have hYA : Below Y.heap.size Y wa := (Below.refl _ Y).drew.trans ha3
      have hYB : Below Y.heap.size Y wb := hYA.trans ((((Below.refl wa.heap.size wa).alloc (Nat.le_refl _) (Obj.cells #[.int .i64 d.pos] 3)).mono ha3.size).trans (hb3.mono (show Y.heap.size ≤ Y.drew.heap.size from Nat.le_refl _)))
      have hYC : Below Y.heap.size Y wc := ((Below.refl _ Y).alloc (Nat.le_refl _) (Obj.cells #[.int .i64 d.pos] 3)).drew.trans (hc3.mono (show Y.heap.size ≤ (Y.alloc _).heap.size by simp))
      have hYD : Below Y.heap.size Y wd := hYC.trans (hd3.mono (show Y.heap.size ≤ (Y.alloc _).heap.size by simp))
      have hl1 : w.heap.size + 1 < Y.heap.size := by omega
      have hl2 : w5.heap.size + 1 < Y.heap.size := by omega
      have HKY := hide (show Kp [w.heap.size + 1] Y Y.drew from (Kp.refl (by simp; omega)).drew)
      have HKA := hide (show Kp [w.heap.size + 1] Y wa from (Kp.refl (by simp; omega)).below hYA)
      have HKB := hide (show Kp [w.heap.size + 1] Y wb from (Kp.refl (by simp; omega)).below hYB)
      have HKC := hide (show Kp [w.heap.size + 1] Y wc from (Kp.refl (by simp; omega)).below hYC)
      have HKD2 := hide (show Kp [w.heap.size + 1] Y wd from (Kp.refl (by simp; omega)).below hYD)
      have gn : ¬ w5.heap.size + 1 ∈ [w.heap.size + 1] := by simp; omega
      have hfin : ∀ (V : World) (va : Option Addr) (vc : Nat), Below Y.heap.size Y V → V.ownsRow Y.heap.size 3 1 (.slice va (d.path.length + 1) vc) (d.path.length + 1) (ints (d.path ++ [d.pos])) → Below (w5.heap.size + 1) Y (((((V.setCell ⟨w5.heap.size + 1, 0, none⟩ (.int .i64 2)).setCell ⟨w5.heap.size + 1, 1, none⟩ (.slice va (d.path.length + 1) vc)).setCell ⟨w5.heap.size + 1, 2, none⟩ (.int .i64 0)).setCell ⟨w5.heap.size + 1, 3, none⟩ (.int .i64 0)).setCell ⟨w5.heap.size + 1, 4, none⟩ (.string ⟨#[]⟩)) ∧ BackIs (((((V.setCell ⟨w5.heap.size + 1, 0, none⟩ (.int .i64 2)).setCell ⟨w5.heap.size + 1, 1, none⟩ (.slice va (d.path.length + 1) vc)).setCell ⟨w5.heap.size + 1, 2, none⟩ (.int .i64 0)).setCell ⟨w5.heap.size + 1, 3, none⟩ (.int .i64 0)).setCell ⟨w5.heap.size + 1, 4, none⟩ (.string ⟨#[]⟩)) (w5.heap.size + 1) ⟨2, d.path ++ [d.pos], 0, 0, ⟨#[]⟩⟩ va vc ∧ DIn (((((V.setCell ⟨w5.heap.size + 1, 0, none⟩ (.int .i64 2)).setCell ⟨w5.heap.size + 1, 1, none⟩ (.slice va (d.path.length + 1) vc)).setCell ⟨w5.heap.size + 1, 2, none⟩ (.int .i64 0)).setCell ⟨w5.heap.size + 1, 3, none⟩ (.int .i64 0)).setCell ⟨w5.heap.size + 1, 4, none⟩ (.string ⟨#[]⟩)) ⟨2, d.path ++ [d.pos], 0, 0, ⟨#[]⟩⟩ va vc ∧ (∀ a, va = some a → Y.heap.size ≤ a.block) := fun V va vc hV ho => by
        have hbk := set5 (HBK.out.block (hV.block _ hl2)) ⟨2, d.path ++ [d.pos], 0, 0, ⟨#[]⟩⟩ va vc
        simp only [List.length_append, List.length_cons, List.length_nil, Nat.zero_add] at hbk
        obtain ⟨p1, p2, p3, p4⟩ := path_of ho
        have hva : ∀ a, va = some a → Y.heap.size ≤ a.block := fun a ha => (ownBlockN_lt ho (g := a.block) (by rw [ha]; rfl)).1
        refine ⟨below_set5 (hV.mono (by omega)) (Nat.le_refl _), hbk, ⟨PIn.block p1 fun a ha => ?_, by simpa using p3, p4, (show ByteArray.size ⟨#[]⟩ ≤ maxLen by decide)⟩, hva⟩
        have hne : a.block ≠ w5.heap.size + 1 := by have := hva a ha; omega
        rw [Below.heap_setCell _ _ _ _ hne, Below.heap_setCell _ _ _ _ hne, Below.heap_setCell _ _ _ _ hne, Below.heap_setCell _ _ _ _ hne, Below.heap_setCell _ _ _ _ hne]
      obtain ⟨fb1, fb2, fb3, fb4⟩ := hfin wb va2 vc2 hYB hb2
      obtain ⟨fd1, fd2, fd3, fd4⟩ := hfin wd va4 vc4 hYD (owns_lower hd2 (show Y.heap.size ≤ (Y.alloc _).heap.size by simp))
      have BB := HBK.out.block (w' := wb) (hYB.block _ hl2)
      have BD := HBK.out.block (w' := wd) (hYD.block _ hl2)
      have HFB := hide (And.intro fb1 (And.intro fb2 (And.intro fb3 fb4)))
      have HFD := hide (And.intro fd1 (And.intro fd2 (And.intro fd3 fd4)))
      have HA1 := hide ha1
      have HB1 := hide hb1
      have HC1 := hide hc1
      rw [sY] at hd1
      have HD1 := hide hd1
      obtain ⟨j0, j1, j2, j3, j4, jf, _⟩ := BB
      obtain ⟨l0, l1, l2, l3, l4, lf, _⟩ := BD
      simp only at j0 j1 j2 j3 j4 l0 l1 l2 l3 l4
      clear ha1 ha2 ha3 hb1 hb2 hb3 hc1 hc2 hc3 hd1 hd2 hd3 hYA hYB hYC hYD hfin fb1 fb2 fb3 fb4 fd1 fd2 fd3 fd4 hPI
      refine wp_region_held_drew (S := fun V => Kp [w.heap.size + 1] Y V) (by kernel_rfl) HKY.out ?_
      intro hS0
      refine wpAnyH_take (i := 0) (v := .slice none 0 0) rfl (by kernel_rfl) (by kernel_rfl) (by kernel_rfl) (fun _ _ _ h => h) (Or.inl ⟨by rfl, by intro V hSw; go_simp⟩) (by assumption) ?_
      refine wpAnyH_take (i := 1) (v := .pointer (some ⟨w.heap.size + 1, 1, none⟩)) rfl (by kernel_rfl) (by kernel_rfl) (by kernel_rfl) (fun _ _ _ h => h) (Or.inl ⟨by rfl, by intro V hSw; go_simp⟩) (by assumption) ?_
      refine wpAnyH_take (i := 2) (v := .slice pa d.path.length pc) rfl (by kernel_rfl) (by kernel_rfl) (by kernel_rfl) (fun _ _ _ h => h) (Or.inl ⟨by rfl, by intro V hSw; have hs := hSw.cell (by simp) y1; go_simp⟩) (by assumption) ?_
      refine wpAnyH_take (i := 4) (v := .pointer (some ⟨w.heap.size + 1, 2, none⟩)) rfl (by kernel_rfl) (by kernel_rfl) (by kernel_rfl) (fun _ _ _ h => h) (Or.inl ⟨by rfl, by intro V hSw; go_simp⟩) (by assumption) ?_
      refine wpAnyH_take (i := 5) (v := .int .i64 d.pos) rfl (by kernel_rfl) (by kernel_rfl) (by kernel_rfl) (fun _ _ _ h => h) (Or.inl ⟨by rfl, by intro V hSw; have hs := hSw.cell (by simp) y2; go_simp⟩) (by assumption) ?_
      try simp only [Act.put, List.setIfInBounds_toArray]
      refine wpAnyH_ready (rs := [3, 6]) (by kernel_rfl) (by simp) ?_
      refine AllReadyH.cons rfl (fun KK hK => ?_) (AllReadyH.cons rfl (fun KK hK => ?_) AllReadyH.nil)
      · refine step_append_run rfl _ _ _ rfl rfl HA1.out rfl rfl ?_
        refine hK.out _ _ HKA.out (fun hHeld => ?_)
        clear hK KK
        try simp only [Act.put]
        refine wpAnyH_ready (rs := [6]) (by kernel_rfl) (by simp) ?_
        refine AllReadyH.cons rfl (fun KK hK => ?_) AllReadyH.nil
        go_simp
        refine hK.out _ _ HKA.out.alloc (fun hHeld => ?_)
        clear hK KK
        try simp only [Act.put, List.setIfInBounds_toArray]
        refine wpAnyH_ready (rs := [7]) (by kernel_rfl) (by simp) ?_
        refine AllReadyH.cons rfl (fun KK hK => ?_) AllReadyH.nil
        refine step_append_run rfl _ _ _ rfl rfl HB1.out rfl rfl ?_
        refine hK.out _ _ HKB.out (fun hHeld => ?_)
        clear hK KK
        try simp only [Act.put]
        refine wpAnyH_take (i := 8) (v := .agg #[.int .i64 2, .slice va2 (d.path.length + 1) vc2, .int .i64 0, .int .i64 0, .string ⟨#[]⟩]) rfl (by kernel_rfl) (by kernel_rfl) (by kernel_rfl) (fun _ _ _ h => h) (Or.inl ⟨by rfl, by intro V hSw; go_simp⟩) (by assumption) ?_
        try simp only [Act.put, List.setIfInBounds_toArray]
        refine wpAnyH_ready (rs := [9]) (by kernel_rfl) (by simp) ?_
        refine AllReadyH.cons rfl (fun KK hK => ?_) AllReadyH.nil
        go_simp
        refine hK.out _ _ (((((HKB.out.set gn).set gn).set gn).set gn).set gn) (fun hHeld => ?_)
        clear hK KK
        refine wpAnyH_done (by kernel_rfl) ?_ _
        obtain ⟨Z, hZ⟩ : ∃ Z, Z = (((((wb.setCell ⟨w5.heap.size + 1, 0, none⟩ (.int .i64 2)).setCell ⟨w5.heap.size + 1, 1, none⟩ (.slice va2 (d.path.length + 1) vc2)).setCell ⟨w5.heap.size + 1, 2, none⟩ (.int .i64 0)).setCell ⟨w5.heap.size + 1, 3, none⟩ (.int .i64 0)).setCell ⟨w5.heap.size + 1, 4, none⟩ (.string ⟨#[]⟩)) := ⟨_, rfl⟩
        obtain ⟨bZ, hbZ, hdZ, hvZ⟩ := HFB.out
        rw [← hZ] at bZ hbZ hdZ ⊢
        clear hZ y0 y1 y2 o0 o1 q20 q21 f2 f3 q30 q31 q32 q33 q34 z0 z1 j0 j1 j2 j3 j4 jf l0 l1 l2 l3 l4 lf hS0 hHeld
        obtain ⟨⟨y0, o0, o1⟩, ⟨q20, q21, q30, q31, q32, q33, q34⟩, f2, f3⟩ := HCELL.out Z bZ
        obtain ⟨r0, r1, r2, r3, r4, rf, _⟩ := hbZ
        simp only [List.length_append, List.length_cons, List.length_nil, Nat.zero_add] at r0 r1 r2 r3 r4
        have HZ := hide (And.intro bZ (And.intro hdZ hvZ))
        clear bZ hdZ hvZ HKA HKB HKC HKD2 HKY HA1 HB1 HC1 HD1
        go_wp2_with fail
        go_region
        go_wp2_with fail
        rw [HR.out]
        refine bodyPost_ret (v := .tuple #[.agg #[.string s', .slice ka' (flen k') cap'], .agg #[.int .i64 2, .slice va2 (d.path.length + 1) vc2, .int .i64 0, .int .i64 0, .string ⟨#[]⟩], .int .i64 0]) (by simp [results, Try.results26, go_sem, *]) rfl ?_
        have hf := HFIN.out Z ⟨2, d.path ++ [d.pos], 0, 0, ⟨#[]⟩⟩ va2 vc2 HZ.out.1 HZ.out.2.1 (Or.inr fun a ha => ⟨by have := HZ.out.2.2 a ha; omega, by have := HZ.out.2.2 a ha; omega⟩) (fun _ a ha => Or.inl (by have := HZ.out.2.2 a ha; omega))
        simp only [List.length_append, List.length_cons, List.length_nil, Nat.zero_add] at hf
        exact hf
      · go_simp
        refine hK.out _ _ (HKY.out.lt |> fun h => (Kp.refl h).alloc.drew) (fun hHeld => ?_)
        clear hK KK
        try simp only [Act.put, List.setIfInBounds_toArray]
        refine wpAnyH_ready (rs := [3]) (by kernel_rfl) (by simp) ?_
        refine AllReadyH.cons rfl (fun KK hK => ?_) AllReadyH.nil
        refine step_append_run rfl _ _ _ rfl rfl HC1.out rfl rfl ?_
        refine hK.out _ _ HKC.out (fun hHeld => ?_)
        clear hK KK
        try simp only [Act.put]
        refine wpAnyH_ready (rs := [7]) (by kernel_rfl) (by simp) ?_
        refine AllReadyH.cons rfl (fun KK hK => ?_) AllReadyH.nil
        refine step_append_run rfl _ _ _ rfl rfl HD1.out rfl rfl ?_
        refine hK.out _ _ HKD2.out (fun hHeld => ?_)
        clear hK KK
        try simp only [Act.put]
        refine wpAnyH_take (i := 8) (v := .agg #[.int .i64 2, .slice va4 (d.path.length + 1) vc4, .int .i64 0, .int .i64 0, .string ⟨#[]⟩]) rfl (by kernel_rfl) (by kernel_rfl) (by kernel_rfl) (fun _ _ _ h => h) (Or.inl ⟨by rfl, by intro V hSw; go_simp⟩) (by assumption) ?_
        try simp only [Act.put, List.setIfInBounds_toArray]
        refine wpAnyH_ready (rs := [9]) (by kernel_rfl) (by simp) ?_
        refine AllReadyH.cons rfl (fun KK hK => ?_) AllReadyH.nil
        go_simp
        refine hK.out _ _ (((((HKD2.out.set gn).set gn).set gn).set gn).set gn) (fun hHeld => ?_)
        clear hK KK
        refine wpAnyH_done (by kernel_rfl) ?_ _
        obtain ⟨Z, hZ⟩ : ∃ Z, Z = (((((wd.setCell ⟨w5.heap.size + 1, 0, none⟩ (.int .i64 2)).setCell ⟨w5.heap.size + 1, 1, none⟩ (.slice va4 (d.path.length + 1) vc4)).setCell ⟨w5.heap.size + 1, 2, none⟩ (.int .i64 0)).setCell ⟨w5.heap.size + 1, 3, none⟩ (.int .i64 0)).setCell ⟨w5.heap.size + 1, 4, none⟩ (.string ⟨#[]⟩)) := ⟨_, rfl⟩
        obtain ⟨bZ, hbZ, hdZ, hvZ⟩ := HFD.out
        rw [← hZ] at bZ hbZ hdZ ⊢
        clear hZ y0 y1 y2 o0 o1 q20 q21 f2 f3 q30 q31 q32 q33 q34 z0 z1 j0 j1 j2 j3 j4 jf l0 l1 l2 l3 l4 lf hS0 hHeld
        obtain ⟨⟨y0, o0, o1⟩, ⟨q20, q21, q30, q31, q32, q33, q34⟩, f2, f3⟩ := HCELL.out Z bZ
        obtain ⟨r0, r1, r2, r3, r4, rf, _⟩ := hbZ
        simp only [List.length_append, List.length_cons, List.length_nil, Nat.zero_add] at r0 r1 r2 r3 r4
        have HZ := hide (And.intro bZ (And.intro hdZ hvZ))
        clear bZ hdZ hvZ HKA HKB HKC HKD2 HKY HA1 HB1 HC1 HD1
        go_wp2_with fail
        go_region
        go_wp2_with fail
        rw [HR.out]
        refine bodyPost_ret (v := .tuple #[.agg #[.string s', .slice ka' (flen k') cap'], .agg #[.int .i64 2, .slice va4 (d.path.length + 1) vc4, .int .i64 0, .int .i64 0, .string ⟨#[]⟩], .int .i64 0]) (by simp [results, Try.results26, go_sem, *]) rfl ?_
        have hf := HFIN.out Z ⟨2, d.path ++ [d.pos], 0, 0, ⟨#[]⟩⟩ va4 vc4 HZ.out.1 HZ.out.2.1 (Or.inr fun a ha => ⟨by have := HZ.out.2.2 a ha; omega, by have := HZ.out.2.2 a ha; omega⟩) (fun _ a ha => Or.inl (by have := HZ.out.2.2 a ha; omega))
        simp only [List.length_append, List.length_cons, List.length_nil, Nat.zero_add] at hf
        exact hf
    · have e2 : w4.heap[w.heap.size + 1 + 1]? = _ := (b4.block _ (by omega)).trans HC.out.2.2.2.1
      have e3 : w4.heap[w.heap.size + 1 + 1 + 1]? = _ := (b4.block _ (by omega)).trans HC.out.2.2.2.2
      have HR := hide (show doP d s k = (c2, (⟨#[]⟩, .nil), ⟨0, [], 0, 0, ⟨#[]⟩⟩) by
        unfold doP
        rw [if_neg (fun h' => h' HX.out.2.1), if_neg (fun h' => h' HX.out.2.2), if_neg (by rw [hdk]; simp), hdk, if_pos (by simp only; rw [faultT_strip, ← hc2]; exact hc20)]
        simp only
        rw [faultT_strip, ← hc2])
      have hbb : (c2 == 0) = false := beq_eq_false_iff_ne.2 hc20
      have hbb2 : (c2 != 0) = true := by simp [bne, hbb]
      have HU := hide (show Below w.heap.size w w4 from HC.out.1.trans (b4.mono (by omega)))
      have q20 : w4.cell? ⟨w.heap.size + 1 + 1, 0, none⟩ = some (.string ⟨#[]⟩) := by rw [cell_of_row _ _ 0 _ _ _ e2]; rfl
      have q21 : w4.cell? ⟨w.heap.size + 1 + 1, 1, none⟩ = some (.slice none 0 0) := by rw [cell_of_row _ _ 1 _ _ _ e2]; rfl
      have f2 : ∀ o, w4.frozen? ⟨w.heap.size + 1 + 1, o, none⟩ = false := fun o => by simp [World.frozen?, e2]
      have f3 : ∀ o, w4.frozen? ⟨w.heap.size + 1 + 1 + 1, o, none⟩ = false := fun o => by simp [World.frozen?, e3]
      have q30 : w4.cell? ⟨w.heap.size + 1 + 1 + 1, 0, none⟩ = some (.int .i64 0) := by rw [cell_of_row _ _ 0 _ _ _ e3]; rfl
      have q31 : w4.cell? ⟨w.heap.size + 1 + 1 + 1, 1, none⟩ = some (.slice none 0 0) := by rw [cell_of_row _ _ 1 _ _ _ e3]; rfl
      have q32 : w4.cell? ⟨w.heap.size + 1 + 1 + 1, 2, none⟩ = some (.int .i64 0) := by rw [cell_of_row _ _ 2 _ _ _ e3]; rfl
      have q33 : w4.cell? ⟨w.heap.size + 1 + 1 + 1, 3, none⟩ = some (.int .i64 0) := by rw [cell_of_row _ _ 3 _ _ _ e3]; rfl
      have q34 : w4.cell? ⟨w.heap.size + 1 + 1 + 1, 4, none⟩ = some (.string ⟨#[]⟩) := by rw [cell_of_row _ _ 4 _ _ _ e3]; rfl
      clear e2 e3 hc20 hc2 hdk htU hfr hpU bU nU hb4 b4 HT HCK HC HX HA
      go_wp2_with fail
      rw [HR.out]
      refine bodyPost_ret (v := .tuple #[.agg #[.string ⟨#[]⟩, .slice none 0 0], .agg #[.int .i64 0, .slice none 0 0, .int .i64 0, .int .i64 0, .string ⟨#[]⟩], .int .i64 c2]) (by simp [results, Try.results26, go_sem, *]) rfl (DoEndN.bad ?_)
      exact ((((((HU.out.setCell (by simp only; omega) _).setCell (by simp only; omega) _).setCell (by simp only; omega) _).setCell (by simp only; omega) _).setCell (by simp only; omega) _).setCell (by simp only; omega) _).setCell (by simp only; omega) _
  · have e2 : U.heap[w.heap.size + 1 + 1]? = _ := (bU.block _ (by omega)).trans HC.out.2.2.2.1
    have e3 : U.heap[w.heap.size + 1 + 1 + 1]? = _ := (bU.block _ (by omega)).trans HC.out.2.2.2.2
    have HR := hide (show doP d s k = (c, (⟨#[]⟩, .nil), ⟨0, [], 0, 0, ⟨#[]⟩⟩) by
      unfold doP
      rw [if_neg (fun h' => h' HX.out.2.1), if_neg (fun h' => h' HX.out.2.2), ← hc, if_pos hc0])
    have hbb : (c == 0) = false := beq_eq_false_iff_ne.2 hc0
    have hbb2 : (c != 0) = true := by simp [bne, hbb]
    have HU := hide (show Below w.heap.size w U from HC.out.1.trans (bU.mono (by omega)))
    have q20 : U.cell? ⟨w.heap.size + 1 + 1, 0, none⟩ = some (.string ⟨#[]⟩) := by rw [cell_of_row _ _ 0 _ _ _ e2]; rfl
    have q21 : U.cell? ⟨w.heap.size + 1 + 1, 1, none⟩ = some (.slice none 0 0) := by rw [cell_of_row _ _ 1 _ _ _ e2]; rfl
    have f2 : ∀ o, U.frozen? ⟨w.heap.size + 1 + 1, o, none⟩ = false := fun o => by simp [World.frozen?, e2]
    have f3 : ∀ o, U.frozen? ⟨w.heap.size + 1 + 1 + 1, o, none⟩ = false := fun o => by simp [World.frozen?, e3]
    have q30 : U.cell? ⟨w.heap.size + 1 + 1 + 1, 0, none⟩ = some (.int .i64 0) := by rw [cell_of_row _ _ 0 _ _ _ e3]; rfl
    have q31 : U.cell? ⟨w.heap.size + 1 + 1 + 1, 1, none⟩ = some (.slice none 0 0) := by rw [cell_of_row _ _ 1 _ _ _ e3]; rfl
    have q32 : U.cell? ⟨w.heap.size + 1 + 1 + 1, 2, none⟩ = some (.int .i64 0) := by rw [cell_of_row _ _ 2 _ _ _ e3]; rfl
    have q33 : U.cell? ⟨w.heap.size + 1 + 1 + 1, 3, none⟩ = some (.int .i64 0) := by rw [cell_of_row _ _ 3 _ _ _ e3]; rfl
    have q34 : U.cell? ⟨w.heap.size + 1 + 1 + 1, 4, none⟩ = some (.string ⟨#[]⟩) := by rw [cell_of_row _ _ 4 _ _ _ e3]; rfl
    clear e2 e3 hc0 hc hok bU b3U nU hb3 hb3' HC HX HA
    rw [hU] at q20 q21 f2 f3 q30 q31 q32 q33 q34
    go_wp2_with fail
    rw [HR.out]
    refine bodyPost_ret (v := .tuple #[.agg #[.string ⟨#[]⟩, .slice none 0 0], .agg #[.int .i64 0, .slice none 0 0, .int .i64 0, .int .i64 0, .string ⟨#[]⟩], .int .i64 c]) (by simp [results, Try.results26, go_sem, *]) rfl (DoEndN.bad ?_)
    rw [← hU]
    exact ((((((HU.out.setCell (by simp only; omega) _).setCell (by simp only; omega) _).setCell (by simp only; omega) _).setCell (by simp only; omega) _).setCell (by simp only; omega) _).setCell (by simp only; omega) _).setCell (by simp only; omega) _
end Go.Proofs.Ytcknganggcbkjab.Deed
namespace Go.Proofs.Ytcknganggcbkjab.Deed
open Go.Deep Go.RowKit
set_option linter.unusedVariables false
set_option maxRecDepth 20000

/-- Done, the path of what undoes it lies in new memory, or in the path that was handed in. -/
theorem rdo_good (d : Dd) (s : ByteArray) (ka : Option Addr) (cap : Nat) (k : Fo) (pa : Option Addr) (pc : Nat) (w : World) (ht : TIn w s ka cap k) (hd : DIn w d pa pc) (hm1 : d.many ≤ 9223372036854775807) (hlp : d.path.length ≤ 60) (h1 : faultT s k = 0) (h2 : deedFault d = 0) :
    Calls Try.prog 26 #[.agg #[.string s, .slice ka (flen k) cap], ddV d pa pc] w (DoEndN False (RQ w d pa) (doP d s k) w) := by
  rcases (deedFault_zero h2).1 with h | h | h
  · exact do_rest1 d s ka cap k pa pc w ht hd h hm1 h1 h2
  · exact do_rest2 d s ka cap k pa pc w ht hd h hm1 h1 h2
  · exact do_rest3 d s ka cap k pa pc w ht hd h hlp hm1 h1 h2
theorem rdo_any (d : Dd) (s : ByteArray) (ka : Option Addr) (cap : Nat) (k : Fo) (pa : Option Addr) (pc : Nat) (w : World) (ht : TIn w s ka cap k) (hd : DIn w d pa pc) (hm1 : d.many ≤ 9223372036854775807) (hlp : d.path.length ≤ 60) :
    Calls Try.prog 26 #[.agg #[.string s, .slice ka (flen k) cap], ddV d pa pc] w (DoEnd (doP d s k) w) := by
  by_cases h1 : faultT s k = 0
  · by_cases h2 : deedFault d = 0
    · exact (rdo_good d s ka cap k pa pc w ht hd hm1 hlp h1 h2).mono fun e w' h => h.plain
    · exact do_bad2 d s ka cap k pa pc w ht hd h1 h2
  · exact do_bad1 d s ka cap k pa pc w ht h1

/-- Do, whatever the tree and the deed; and where the path lies of what undoes it. -/
def DoEndQ (Q : Addr → Prop) (r : Int × (ByteArray × Fo) × Dd) (w : World) (e : Ending) (w' : World) : Prop := ∃ s' ka' cap' k' pa' pc', e = .returned (.tuple #[.agg #[.string s', .slice ka' (flen k') cap'], ddV r.2.2 pa' pc', .int .i64 r.1]) ∧ s' = r.2.1.1 ∧ strip k' = r.2.1.2 ∧ TIn w' s' ka' cap' k' ∧ FFrom w.heap.size k' ∧ FPlain w' k' ∧ DIn w' r.2.2 pa' pc' ∧ Below w.heap.size w w' ∧ (r.2.2.path ≠ [] → ∀ a, pa' = some a → Q a)
theorem doP_bad {d : Dd} {s : ByteArray} {k : Fo} (h : ¬ (faultT s k = 0 ∧ deedFault d = 0)) : (doP d s k).2.2.path = [] := by
  unfold doP
  by_cases h1 : faultT s k = 0
  · rw [if_neg (by simp [h1]), if_pos (fun h2 => h ⟨h1, h2⟩)]
  · rw [if_pos h1]
theorem rdo_q (d : Dd) (s : ByteArray) (ka : Option Addr) (cap : Nat) (k : Fo) (pa : Option Addr) (pc : Nat) (w : World) (ht : TIn w s ka cap k) (hd : DIn w d pa pc) (hm1 : d.many ≤ 9223372036854775807) (hlp : d.path.length ≤ 60) :
    Calls Try.prog 26 #[.agg #[.string s, .slice ka (flen k) cap], ddV d pa pc] w (DoEndQ (RQ w d pa) (doP d s k) w) := by
  by_cases h : faultT s k = 0 ∧ deedFault d = 0
  · refine (rdo_good d s ka cap k pa pc w ht hd hm1 hlp h.1 h.2).mono ?_
    rintro e w' ⟨s', ka', cap', k', pa', pc', h1, h2, h3, h4, h5, h6, h7, h8, _, h9⟩
    exact ⟨s', ka', cap', k', pa', pc', h1, h2, h3, h4, h5, h6, h7, h8, h9⟩
  · refine (rdo_any d s ka cap k pa pc w ht hd hm1 hlp).mono ?_
    rintro e w' ⟨s', ka', cap', k', pa', pc', h1, h2, h3, h4, h5, h6, h7, h8⟩
    exact ⟨s', ka', cap', k', pa', pc', h1, h2, h3, h4, h5, h6, h7, h8, fun hp => absurd (doP_bad h) hp⟩

def greatD (d : Dd) : Bool := decide (60 < d.path.length) || decide (100 < d.lab.size)
set_option maxHeartbeats 1000000 in
theorem greatD_any (d : Dd) (pa : Option Addr) (pc : Nat) (w : World) (hd : DIn w d pa pc) :
    Calls Try.prog 23 #[ddV d pa pc] w fun e w' => e = .returned (.bool (greatD d)) ∧ Below w.heap.size w w' := by
  have h1 := hd.len
  have h2 := hd.cap
  have h3 := hd.lab
  unfold maxLen at h2 h3
  have hB := (Below.refl w.heap.size w).alloc (Nat.le_refl _) (Obj.cells #[.int .i64 d.kind, .slice pa d.path.length pc, .int .i64 d.pos, .int .i64 d.many, .string d.lab] 44)
  have HB := hide hB
  clear hB hd
  unfold ddV
  by_cases hl : 60 < d.path.length
  · have HV := hide (show greatD d = true by unfold greatD; simp [hl])
    go_enter Try.func23, Try.ntmps23
    go_wp2_with fail
    go_ret
    exact ⟨by rw [HV.out]; simp, HB.out⟩
  · by_cases hm : 100 < d.lab.size
    · have HV := hide (show greatD d = true by unfold greatD; simp [hm])
      go_enter Try.func23, Try.ntmps23
      go_wp2_with fail
      go_ret
      exact ⟨by rw [HV.out]; simp; omega, HB.out⟩
    · have HV := hide (show greatD d = false by unfold greatD; simp [hl, hm])
      go_enter Try.func23, Try.ntmps23
      go_wp2_with fail
      go_ret
      exact ⟨by rw [HV.out]; simp; omega, HB.out⟩
end Go.Proofs.Ytcknganggcbkjab.Deed
namespace Go.Proofs.Ytcknganggcbkjab.Deed
open Go.Deep Go.RowKit
set_option linter.unusedVariables false
set_option maxRecDepth 20000

theorem bplain_of {w : World} {b : Nat} {cs : Array Value} {T : TypeId} (h : w.heap[b]? = some (.cells cs T)) : BPlain w b := ⟨cs, T, h⟩

set_option maxHeartbeats 400000 in
theorem refF_any (c q : Int) (w : World) : Calls Try.prog 69 #[.int .i64 c, .int .i64 q] w fun e w' => e = .returned (.agg #[.int .i64 c, .int .i64 q]) ∧ Below w.heap.size w w' := by
  have HB := hide ((Below.refl w.heap.size w).alloc (Nat.le_refl _) (Obj.cells #[.int .i64 c, .int .i64 q] 57))
  go_enter Try.func69, Try.ntmps69
  go_wp2_with fail
  exact bodyPost_ret (v := .agg #[.int .i64 c, .int .i64 q]) (by simp [results, Try.results69, go_sem]) rfl ⟨rfl, HB.out⟩

set_option maxHeartbeats 2000000 in
theorem rrun_bad (L : List Pd) (la : Option Addr) (lc : Nat) (s : ByteArray) (ka : Option Addr) (cap : Nat) (k : Fo) (w : World) (ht : TIn w s ka cap k) (h : faultT s k ≠ 0) :
    Calls Try.prog 38 #[.agg #[.string s, .slice ka (flen k) cap], .slice la L.length lc] w (RRunEnd (runP (dds L) s k) w) := by
  rw [runP_fault h]
  obtain ⟨c, hc⟩ : ∃ c, c = faultT s k := ⟨_, rfl⟩
  have hb : (c == 0) = false := beq_eq_false_iff_ne.2 (by rw [hc]; exact h)
  have hb2 : (c != 0) = true := by simp [bne, hb]
  rw [← hc]
  obtain ⟨W, hW⟩ : ∃ W, W = ((w.alloc (Obj.cells #[Value.string s, Value.slice ka (flen k) cap] 24)).alloc (Obj.cells #[Value.string ⟨#[]⟩, Value.slice none 0 0] 24)).alloc (Obj.cells #[.int .i64 0, .int .i64 0] 57) := ⟨_, rfl⟩
  obtain ⟨hWs, hB, c0, c1, c2⟩ := boxesR w (Obj.cells #[Value.string s, Value.slice ka (flen k) cap] 24) (Obj.cells #[Value.string ⟨#[]⟩, Value.slice none 0 0] 24) (Obj.cells #[.int .i64 0, .int .i64 0] 57)
  rw [← hW] at hWs hB c0 c1 c2
  have HF := hide (treeFault_any s ka cap k W (ht.below hB))
  have HC := hide (And.intro hWs (And.intro hB (And.intro c1 c2)))
  rw [← hc] at HF
  clear hWs hB c0 c1 c2 ht h hc
  go_enter Try.func38, Try.ntmps38
  go_wp2_with fail
  rw [← hW]
  clear hW
  refine Calls.mono HF.out ?_
  rintro e w0 ⟨rfl, hb0⟩
  go_wp2_with fail
  refine Calls.mono (refF_any _ _ _) ?_
  rintro e w1 ⟨rfl, hb1'⟩
  have hb1 : Below W.heap.size W w1 := hb0.trans (hb1'.mono hb0.size)
  have hws := HC.out.1
  have e1 : w1.heap[w.heap.size + 1]? = _ := (hb1.block _ (by omega)).trans HC.out.2.2.1
  have e2 : w1.heap[w.heap.size + 1 + 1]? = _ := (hb1.block _ (by omega)).trans HC.out.2.2.2
  have q10 : w1.cell? ⟨w.heap.size + 1, 0, none⟩ = some (.string ⟨#[]⟩) := by rw [cell_of_row _ _ 0 _ _ _ e1]; rfl
  have q11 : w1.cell? ⟨w.heap.size + 1, 1, none⟩ = some (.slice none 0 0) := by rw [cell_of_row _ _ 1 _ _ _ e1]; rfl
  have f1 : ∀ o, w1.frozen? ⟨w.heap.size + 1, o, none⟩ = false := fun o => by simp [World.frozen?, e1]
  have f2 : ∀ o, w1.frozen? ⟨w.heap.size + 1 + 1, o, none⟩ = false := fun o => by simp [World.frozen?, e2]
  have q20 : w1.cell? ⟨w.heap.size + 1 + 1, 0, none⟩ = some (.int .i64 0) := by rw [cell_of_row _ _ 0 _ _ _ e2]; rfl
  have q21 : w1.cell? ⟨w.heap.size + 1 + 1, 1, none⟩ = some (.int .i64 0) := by rw [cell_of_row _ _ 1 _ _ _ e2]; rfl
  have HB := hide (HC.out.2.1.trans (hb1.mono (by omega)))
  clear e1 e2 hb1 hb0 hb1' hws HC HF
  go_wp2_with fail
  refine bodyPost_ret (v := .tuple #[.agg #[.string ⟨#[]⟩, .slice none 0 0], .slice none 0 0, .agg #[.int .i64 c, .int .i64 (-1)]]) (by simp [results, Try.results38, go_sem, *]) rfl (RRunEnd.bad ?_)
  exact (((HB.out.setCell (by simp only; omega) _).setCell (by simp only; omega) _).setCell (by simp only; omega) _).setCell (by simp only; omega) _

set_option maxHeartbeats 2000000 in
theorem rrun_many (L : List Pd) (la : Option Addr) (lc : Nat) (s : ByteArray) (ka : Option Addr) (cap : Nat) (k : Fo) (w : World) (ht : TIn w s ka cap k) (h : faultT s k = 0) (hl : 80 < L.length) (hlc : L.length ≤ lc) (hlm : lc ≤ maxLen) :
    Calls Try.prog 38 #[.agg #[.string s, .slice ka (flen k) cap], .slice la L.length lc] w (RRunEnd (runP (dds L) s k) w) := by
  rw [runP_many h (by rw [dds_len]; exact hl)]
  unfold maxLen at hlm
  obtain ⟨W, hW⟩ : ∃ W, W = ((w.alloc (Obj.cells #[Value.string s, Value.slice ka (flen k) cap] 24)).alloc (Obj.cells #[Value.string ⟨#[]⟩, Value.slice none 0 0] 24)).alloc (Obj.cells #[.int .i64 0, .int .i64 0] 57) := ⟨_, rfl⟩
  obtain ⟨hWs, hB, c0, c1, c2⟩ := boxesR w (Obj.cells #[Value.string s, Value.slice ka (flen k) cap] 24) (Obj.cells #[Value.string ⟨#[]⟩, Value.slice none 0 0] 24) (Obj.cells #[.int .i64 0, .int .i64 0] 57)
  rw [← hW] at hWs hB c0 c1 c2
  have hf := treeFault_any s ka cap k W (ht.below hB)
  rw [h] at hf
  have HF := hide hf
  have HC := hide (And.intro hWs (And.intro hB (And.intro c1 c2)))
  clear hWs hB c0 c1 c2 ht h hf
  go_enter Try.func38, Try.ntmps38
  go_wp2_with fail
  rw [← hW]
  clear hW
  refine Calls.mono HF.out ?_
  rintro e w0 ⟨rfl, hb0⟩
  go_wp2_with fail
  refine Calls.mono (refF_any _ _ _) ?_
  rintro e w1 ⟨rfl, hb1'⟩
  have hb1 : Below W.heap.size W w1 := hb0.trans (hb1'.mono hb0.size)
  have hws := HC.out.1
  have e1 : w1.heap[w.heap.size + 1]? = _ := (hb1.block _ (by omega)).trans HC.out.2.2.1
  have e2 : w1.heap[w.heap.size + 1 + 1]? = _ := (hb1.block _ (by omega)).trans HC.out.2.2.2
  have q10 : w1.cell? ⟨w.heap.size + 1, 0, none⟩ = some (.string ⟨#[]⟩) := by rw [cell_of_row _ _ 0 _ _ _ e1]; rfl
  have q11 : w1.cell? ⟨w.heap.size + 1, 1, none⟩ = some (.slice none 0 0) := by rw [cell_of_row _ _ 1 _ _ _ e1]; rfl
  have f1 : ∀ o, w1.frozen? ⟨w.heap.size + 1, o, none⟩ = false := fun o => by simp [World.frozen?, e1]
  have f2 : ∀ o, w1.frozen? ⟨w.heap.size + 1 + 1, o, none⟩ = false := fun o => by simp [World.frozen?, e2]
  have q20 : w1.cell? ⟨w.heap.size + 1 + 1, 0, none⟩ = some (.int .i64 0) := by rw [cell_of_row _ _ 0 _ _ _ e2]; rfl
  have q21 : w1.cell? ⟨w.heap.size + 1 + 1, 1, none⟩ = some (.int .i64 0) := by rw [cell_of_row _ _ 1 _ _ _ e2]; rfl
  have HB := hide (HC.out.2.1.trans (hb1.mono (by omega)))
  clear e1 e2 hb1 hb0 hb1' hws HC HF
  go_wp2_with fail
  refine bodyPost_ret (v := .tuple #[.agg #[.string ⟨#[]⟩, .slice none 0 0], .slice none 0 0, .agg #[.int .i64 2, .int .i64 (-1)]]) (by simp [results, Try.results38, go_sem, *]) rfl (RRunEnd.bad ?_)
  exact (((HB.out.setCell (by simp only; omega) _).setCell (by simp only; omega) _).setCell (by simp only; omega) _).setCell (by simp only; omega) _

set_option maxHeartbeats 8000000 in
theorem rrun_good (L : List Pd) (la : Option Addr) (lc : Nat) (s : ByteArray) (ka : Option Addr) (cap : Nat) (k : Fo) (w : World) (ht : TIn w s ka cap k) (h : faultT s k = 0) (hl : L.length ≤ 80) (hlc : L.length ≤ lc) (hlm : lc ≤ maxLen) (hL : DsIn w la L) (hg : ∀ x, x ∈ L → x.1.path.length ≤ 60 ∧ x.1.many ≤ 9223372036854775807) :
    Calls Try.prog 38 #[.agg #[.string s, .slice ka (flen k) cap], .slice la L.length lc] w (RRunEnd (runP (dds L) s k) w) := by
  unfold maxLen at hlm
  obtain ⟨W, hW⟩ : ∃ W, W = ((w.alloc (Obj.cells #[Value.string s, Value.slice ka (flen k) cap] 24)).alloc (Obj.cells #[Value.string ⟨#[]⟩, Value.slice none 0 0] 24)).alloc (Obj.cells #[.int .i64 0, .int .i64 0] 57) := ⟨_, rfl⟩
  obtain ⟨hWs, hB, c0, c1, c2⟩ := boxesR w (Obj.cells #[Value.string s, Value.slice ka (flen k) cap] 24) (Obj.cells #[Value.string ⟨#[]⟩, Value.slice none 0 0] 24) (Obj.cells #[.int .i64 0, .int .i64 0] 57)
  rw [← hW] at hWs hB c0 c1 c2
  have hf := treeFault_any s ka cap k W (ht.below hB)
  rw [h] at hf
  have HF := hide hf
  have hoff : ∀ g, w.heap.size ≤ g → FOff g k := fun g hg => by
    rcases ht.kids with h1 | ⟨kb, ko, e1, hfi⟩
    · rw [h1]; trivial
    · exact FIn.off hg hfi
  have HST : Hid (∀ w1, Below W.heap.size W w1 → QInv w L s k 0 w1 s ka cap k [] none 0) := hide fun w1 hb => ⟨by simp [fwd, dds], rfl, ht.below (hB.trans (hb.mono (by omega))), hoff _ (by omega), hoff _ (by omega), hoff _ (by omega), ⟨Or.inl rfl, PdsIn.nil _⟩, Nat.le_refl _, by decide, (hb.block _ (by omega)).trans c0, (hb.block _ (by omega)).trans c1, (hb.block _ (by omega)).trans c2, hB.trans (hb.mono (by omega)), by have := hb.size; omega⟩
  have HFT := hide h
  have HL := hide hL
  have HG := hide hg
  clear hWs hB c0 c1 c2 ht h hf hL hg hoff
  go_enter Try.func38, Try.ntmps38
  go_wp2_with fail
  rw [← hW]
  clear hW
  refine Calls.mono HF.out ?_
  rintro e w1 ⟨rfl, hb1⟩
  have HQ := hide (HST.out w1 hb1)
  clear hb1 HF HST
  go_wp2_with fail
  go_loopg [8, 9] L.length (fun gk v8 v9 wr => ∃ (i : Nat) (x : ByteArray) (ka : Option Addr) (cap : Nat) (kk : Fo) (A : List Pd) (va : Option Addr) (vc : Nat), gk = L.length - i ∧ i ≤ L.length ∧ v9 = .int .i64 (i : Nat) ∧ v8 = .slice va i vc ∧ Hid (QInv w L s k i wr x ka cap kk A va vc))
  case atStart => exact ⟨0, s, ka, cap, k, [], none, 0, rfl, Nat.zero_le _, rfl, rfl, HQ⟩
  case round =>
    clear HQ
    obtain ⟨i, x, ka, cap, kk, A, va, vc, hgk, hi, rfl, rfl, hI⟩ := hrel
    obtain ⟨wA, hwA⟩ : ∃ wA, wA = wr := ⟨_, rfl⟩
    subst hwA
    have hsz := hI.out.size
    have q00 : wA.cell? ⟨w.heap.size, 0, none⟩ = some (.string x) := by rw [cell_of_row _ _ 0 _ _ _ hI.out.box]; rfl
    have q01 : wA.cell? ⟨w.heap.size, 1, none⟩ = some (.slice ka (flen kk) cap) := by rw [cell_of_row _ _ 1 _ _ _ hI.out.box]; rfl
    have hv1 := hI.out.cap1
    have hv2 := hI.out.cap2
    unfold maxLen at hv2
    by_cases hin : i < L.length
    · obtain ⟨y, hy⟩ : ∃ y, L[i]? = some y := ⟨_, List.getElem?_eq_getElem hin⟩
      obtain ⟨b, o, rfl, x0, x1, x2, x3, x4, hyd⟩ := (HL.out.below hI.out.below).at hy
      obtain ⟨hyp, hym⟩ := HG.out y (List.mem_of_getElem? hy)
      obtain ⟨d, pa, pc⟩ := y
      simp only at x0 x1 x2 x3 x4 hyd hyp hym
      have hd1 := hyd.len
      have hd2 := hyd.cap
      unfold maxLen at hd2
      have hbl : b < wA.heap.size := World.block_lt_of_cell? _ _ x0
      obtain ⟨R, hR⟩ : ∃ R, R = doP d x kk := ⟨_, rfl⟩
      have hdo : ∀ W', Below wA.heap.size wA W' → Calls Try.prog 26 #[.agg #[.string x, .slice ka (flen kk) cap], ddV d pa pc] W' (DoEndQ (RQ W' d pa) R W') := fun W' hb => by
        rw [hR]
        exact rdo_q d x ka cap kk pa pc W' (hI.out.tin.below hb) (hyd.below hb) hym hyp
      unfold ddV at hdo
      have HDO := hide hdo
      have HDW := hide hyd
      have HRE := hide hR
      have HYD := hide hy
      clear hdo hyd hR hy
      go_wp2_with fail
      go_cut [10, 11, 12] (fun v10 v11 v12 wx => ∃ (bx cy : Nat) (x' : ByteArray) (ka' : Option Addr) (cap' : Nat) (k' : Fo) (pa' : Option Addr) (pc' : Nat), v10 = .pointer (some ⟨bx, 0, none⟩) ∧ v11 = .pointer (some ⟨cy, 0, none⟩) ∧ v12 = .int .i64 R.1 ∧ Hid (YIn wA wx bx cy R x' ka' cap' k' pa' pc'))
      case first =>
        refine wp_region_held_drew (S := fun V => Kp [w.heap.size, b] wA V) (by kernel_rfl) (Kp.refl (by simp; omega)).drew ?_
        intro hS0'
        obtain ⟨U0, hU0⟩ : ∃ U0, U0 = wA.drew := ⟨_, rfl⟩
        have HB0 := hide (show Below wA.heap.size wA U0 by rw [hU0]; exact (Below.refl _ _).drew)
        have hS0 : Kp [w.heap.size, b] wA U0 := by rw [hU0]; exact hS0'
        rw [← hU0]
        clear hU0 hS0'
        refine wpAnyH_take (i := 0) (v := .agg #[.string x, .slice ka (flen kk) cap]) rfl (by kernel_rfl) (by kernel_rfl) (by kernel_rfl) (fun _ _ _ h => h) (Or.inl ⟨by rfl, by intro V hSw; have g0 := hSw.cell (by simp) q00; have g1 := hSw.cell (by simp) q01; go_simp⟩) (by assumption) ?_
        refine wpAnyH_take (i := 1) (v := .slice (some ⟨b, o, none⟩) L.length lc) rfl (by kernel_rfl) (by kernel_rfl) (by kernel_rfl) (fun _ _ _ h => h) (Or.inl ⟨by rfl, by intro V hSw; go_simp⟩) (by assumption) ?_
        refine wpAnyH_take (i := 2) (v := .int .i64 (i : Int)) rfl (by kernel_rfl) (by kernel_rfl) (by kernel_rfl) (fun _ _ _ h => h) (Or.inl ⟨by rfl, by intro V hSw; go_simp⟩) (by assumption) ?_
        refine wpAnyH_take (i := 3) (v := .pointer (some ⟨b, o + i * 5, none⟩)) rfl (by kernel_rfl) (by kernel_rfl) (by kernel_rfl) (fun _ _ _ h => h) (Or.inl ⟨by rfl, by intro V hSw; go_simp⟩) (by assumption) ?_
        refine wpAnyH_take (i := 4) (v := .agg #[.int .i64 d.kind, .slice pa d.path.length pc, .int .i64 d.pos, .int .i64 d.many, .string d.lab]) rfl (by kernel_rfl) (by kernel_rfl) (by kernel_rfl) (fun _ _ _ h => h) (Or.inl ⟨by rfl, by intro V hSw; have g0 := hSw.cell (by simp) x0; have g1 := hSw.cell (by simp) x1; have g2 := hSw.cell (by simp) x2; have g3 := hSw.cell (by simp) x3; have g4 := hSw.cell (by simp) x4; go_simp⟩) (by assumption) ?_
        clear x0 x1 x2 x3 x4 q00 q01
        try simp only [Act.put, List.setIfInBounds_toArray]
        refine wpAnyH_ready (rs := [5, 10, 11]) (by kernel_rfl) (by simp) ?_
        refine AllReadyH.cons rfl (fun KK hK => ?_) (AllReadyH.cons rfl (fun KK hK => ?_) (AllReadyH.cons rfl (fun KK hK => ?_) (AllReadyH.nil)))
        · go_simp
          refine Calls.mono (HDO.out U0 HB0.out) ?_
          rintro e w5 ⟨x', ka', cap', k', pa', pc', rfl, hx', hk', ht', hf', hp', hd', hb', hq'⟩
          unfold ddV
          have GC := hide (And.intro hx' (And.intro hk' (And.intro ht' (And.intro hf' (And.intro hd' (And.intro hb' hq'))))))
          have hS1 : Kp [w.heap.size, b] wA w5 := hS0.below hb'
          clear hx' hk' ht' hf' hp' hd' hb' hq'
          go_simp
          refine hK.out _ _ hS1 (fun hHeld => ?_)
          clear hK KK hHeld
          try simp only [Act.put, List.setIfInBounds_toArray]
          refine wpAnyH_take (i := 6) (v := (.tuple #[.agg #[.string x', .slice ka' (flen k') cap'], .agg #[.int .i64 R.2.2.kind, .slice pa' R.2.2.path.length pc', .int .i64 R.2.2.pos, .int .i64 R.2.2.many, .string R.2.2.lab], .int .i64 R.1])) rfl (by kernel_rfl) (by kernel_rfl) (by kernel_rfl) (fun _ _ _ h => h) (Or.inl ⟨by rfl, by intro V hSw; go_simp⟩) (by assumption) ?_
          refine wpAnyH_take (i := 7) (v := (.agg #[.string x', .slice ka' (flen k') cap'])) rfl (by kernel_rfl) (by kernel_rfl) (by kernel_rfl) (fun _ _ _ h => h) (Or.inl ⟨by rfl, by intro V hSw; go_simp⟩) (by assumption) ?_
          refine wpAnyH_take (i := 8) (v := (.agg #[.int .i64 R.2.2.kind, .slice pa' R.2.2.path.length pc', .int .i64 R.2.2.pos, .int .i64 R.2.2.many, .string R.2.2.lab])) rfl (by kernel_rfl) (by kernel_rfl) (by kernel_rfl) (fun _ _ _ h => h) (Or.inl ⟨by rfl, by intro V hSw; go_simp⟩) (by assumption) ?_
          refine wpAnyH_take (i := 9) (v := (.int .i64 R.1)) rfl (by kernel_rfl) (by kernel_rfl) (by kernel_rfl) (fun _ _ _ h => h) (Or.inl ⟨by rfl, by intro V hSw; go_simp⟩) (by assumption) ?_
          try simp only [Act.put, List.setIfInBounds_toArray]
          refine wpAnyH_ready (rs := [10, 11]) (by kernel_rfl) (by simp) ?_
          refine AllReadyH.cons rfl (fun KK hK => ?_) (AllReadyH.cons rfl (fun KK hK => ?_) (AllReadyH.nil))
          · go_simp
            refine hK.out _ _ (hS1.alloc) (fun hHeld => ?_)
            clear hK KK
            obtain ⟨U2, hU2⟩ : ∃ U2, U2 = w5.alloc (Obj.cells #[.string ⟨#[]⟩, .slice none 0 0] 24) := ⟨_, rfl⟩
            obtain ⟨bx, hbx⟩ : ∃ bx, bx = w5.heap.size := ⟨_, rfl⟩
            have hS2 : Kp [w.heap.size, b] wA U2 := by rw [hU2]; exact hS1.alloc
            have nA : U2.heap[bx]? = some (Obj.cells #[.string ⟨#[]⟩, .slice none 0 0] 24) := by rw [hU2, hbx]; exact heap_alloc_new _ _
            have sA : U2.heap.size = bx + 1 := by rw [hU2, hbx]; simp
            have lA : bx = w5.heap.size := hbx
            have eA : Below w5.heap.size w5 U2 := by rw [hU2]; exact (Below.refl _ _).alloc (Nat.le_refl _) _
            rw [← hU2, ← hbx]
            have GA := hide (And.intro nA (And.intro sA (And.intro lA eA)))
            clear hU2 hbx hHeld nA sA lA eA
            try simp only [Act.put, List.setIfInBounds_toArray]
            refine wpAnyH_ready (rs := [11]) (by kernel_rfl) (by simp) ?_
            refine AllReadyH.cons rfl (fun KK hK => ?_) (AllReadyH.nil)
            go_simp
            refine hK.out _ _ (hS2.alloc) (fun hHeld => ?_)
            clear hK KK
            obtain ⟨U3, hU3⟩ : ∃ U3, U3 = U2.alloc (Obj.cells #[.int .i64 0, .slice none 0 0, .int .i64 0, .int .i64 0, .string ⟨#[]⟩] 44) := ⟨_, rfl⟩
            obtain ⟨cy, hcy⟩ : ∃ cy, cy = U2.heap.size := ⟨_, rfl⟩
            have hS3 : Kp [w.heap.size, b] wA U3 := by rw [hU3]; exact hS2.alloc
            have nB : U3.heap[cy]? = some (Obj.cells #[.int .i64 0, .slice none 0 0, .int .i64 0, .int .i64 0, .string ⟨#[]⟩] 44) := by rw [hU3, hcy]; exact heap_alloc_new _ _
            have sB : U3.heap.size = cy + 1 := by rw [hU3, hcy]; simp
            have lB : cy = U2.heap.size := hcy
            have eB : Below U2.heap.size U2 U3 := by rw [hU3]; exact (Below.refl _ _).alloc (Nat.le_refl _) _
            rw [← hU3, ← hcy]
            have GB := hide (And.intro nB (And.intro sB (And.intro lB eB)))
            clear hU3 hcy hHeld nB sB lB eB
            try simp only [Act.put, List.setIfInBounds_toArray]
            have bc : Below wA.heap.size wA U0 := HB0.out
            obtain ⟨gs, gk', gt, gf, gd, g5, gq⟩ := GC.out
            have z5 := g5.size
            have zc := bc.size
            have z0 := HB0.out.size
            obtain ⟨nA, sA, lA, eA⟩ := GA.out
            have zA := eA.size
            obtain ⟨nB, sB, lB, eB⟩ := GB.out
            have zB := eB.size
            have bZ : Below w5.heap.size w5 U3 := eA.trans (eB.mono eA.size)
            have hx : U3.heap[bx]? = some (Obj.cells #[.string ⟨#[]⟩, .slice none 0 0] 24) := by rw [eB.block _ (by omega)]; exact nA
            have hy : U3.heap[cy]? = some (Obj.cells #[.int .i64 0, .slice none 0 0, .int .i64 0, .int .i64 0, .string ⟨#[]⟩] 44) := nB
            have HZ := hide (zin_mk (bx := bx) (cy := cy) HDW.out bc g5 bZ gs gk' gt gf gd gq (by omega) (by omega) (by omega) hx hy (by omega) (by omega))
            obtain ⟨Z, hZ⟩ : ∃ Z, Z = U3 := ⟨_, rfl⟩
            rw [← hZ] at HZ hS3 ⊢
            clear hZ hx hy bZ nA sA lA eA zA nB sB lB eB zB gs gk' gt gf gd g5 gq z5 zc z0 bc GA GB GC hS0 hS1 hS2
            have lx := HZ.out.lx
            have ly := HZ.out.ly
            have hne := HZ.out.ne
            have zx0 : Z.cell? ⟨bx, 0, none⟩ = some (.string ⟨#[]⟩) := by rw [cell_of_row _ _ 0 _ _ _ HZ.out.hx]; rfl
            have zx1 : Z.cell? ⟨bx, 1, none⟩ = some (.slice none 0 0) := by rw [cell_of_row _ _ 1 _ _ _ HZ.out.hx]; rfl
            have zxf : ∀ o, Z.frozen? ⟨bx, o, none⟩ = false := fun o => by simp [World.frozen?, HZ.out.hx]
            obtain ⟨Z1, hZ1⟩ : ∃ Z1, Z1 = (Z.setCell ⟨bx, 0, none⟩ (.string x')).setCell ⟨bx, 1, none⟩ (.slice ka' (flen k') cap') := ⟨_, rfl⟩
            have e1 : Z1.heap[cy]? = _ := (show Z1.heap[cy]? = Z.heap[cy]? by rw [hZ1]; exact box2_off (Ne.symm hne)).trans HZ.out.hy
            have zy0 : Z1.cell? ⟨cy, 0, none⟩ = some (.int .i64 0) := by rw [cell_of_row _ _ 0 _ _ _ e1]; rfl
            have zy1 : Z1.cell? ⟨cy, 1, none⟩ = some (.slice none 0 0) := by rw [cell_of_row _ _ 1 _ _ _ e1]; rfl
            have zy2 : Z1.cell? ⟨cy, 2, none⟩ = some (.int .i64 0) := by rw [cell_of_row _ _ 2 _ _ _ e1]; rfl
            have zy3 : Z1.cell? ⟨cy, 3, none⟩ = some (.int .i64 0) := by rw [cell_of_row _ _ 3 _ _ _ e1]; rfl
            have zy4 : Z1.cell? ⟨cy, 4, none⟩ = some (.string ⟨#[]⟩) := by rw [cell_of_row _ _ 4 _ _ _ e1]; rfl
            have zyf : ∀ o, Z1.frozen? ⟨cy, o, none⟩ = false := fun o => by simp [World.frozen?, e1]
            have gx : ¬ bx ∈ [w.heap.size, b] := by simp; omega
            have gy : ¬ cy ∈ [w.heap.size, b] := by simp; omega
            have HY := hide HZ.out.stored
            rw [← hZ1] at HY
            have hS4 : Kp [w.heap.size, b] wA Z1 := by rw [hZ1]; exact (hS3.set gx).set gx
            clear e1 HZ
            refine wpAnyH_ready (rs := [12]) (by kernel_rfl) (by simp) ?_
            refine AllReadyH.cons rfl (fun KK hK => ?_) AllReadyH.nil
            go_simp
            rw [← hZ1]
            refine hK.out _ _ hS4 (fun hHeld => ?_)
            clear hK KK hZ1 zx0 zx1 zxf hHeld
            refine wpAnyH_ready (rs := [13]) (by kernel_rfl) (by simp) ?_
            refine AllReadyH.cons rfl (fun KK hK => ?_) AllReadyH.nil
            go_simp
            refine hK.out _ _ (((((hS4.set gy).set gy).set gy).set gy).set gy) (fun hHeld => ?_)
            clear hK KK hHeld
            refine wpAnyH_ready (rs := [14]) (by kernel_rfl) (by simp) ?_
            refine AllReadyH.cons rfl (fun KK hK => ?_) AllReadyH.nil
            go_simp
            refine hK.out _ _ (((((hS4.set gy).set gy).set gy).set gy).set gy) (fun hHeld => ?_)
            clear hK KK hHeld
            refine wpAnyH_done (by kernel_rfl) ?_ _
            go_wp2_with fail
            go_meet
            case rel => exact ⟨bx, cy, x', ka', cap', k', pa', pc', rfl, rfl, rfl, HY⟩
          · go_simp
            refine hK.out _ _ (hS1.alloc) (fun hHeld => ?_)
            clear hK KK
            obtain ⟨U2, hU2⟩ : ∃ U2, U2 = w5.alloc (Obj.cells #[.int .i64 0, .slice none 0 0, .int .i64 0, .int .i64 0, .string ⟨#[]⟩] 44) := ⟨_, rfl⟩
            obtain ⟨cy, hcy⟩ : ∃ cy, cy = w5.heap.size := ⟨_, rfl⟩
            have hS2 : Kp [w.heap.size, b] wA U2 := by rw [hU2]; exact hS1.alloc
            have nB : U2.heap[cy]? = some (Obj.cells #[.int .i64 0, .slice none 0 0, .int .i64 0, .int .i64 0, .string ⟨#[]⟩] 44) := by rw [hU2, hcy]; exact heap_alloc_new _ _
            have sB : U2.heap.size = cy + 1 := by rw [hU2, hcy]; simp
            have lB : cy = w5.heap.size := hcy
            have eB : Below w5.heap.size w5 U2 := by rw [hU2]; exact (Below.refl _ _).alloc (Nat.le_refl _) _
            rw [← hU2, ← hcy]
            have GB := hide (And.intro nB (And.intro sB (And.intro lB eB)))
            clear hU2 hcy hHeld nB sB lB eB
            try simp only [Act.put, List.setIfInBounds_toArray]
            refine wpAnyH_ready (rs := [10]) (by kernel_rfl) (by simp) ?_
            refine AllReadyH.cons rfl (fun KK hK => ?_) (AllReadyH.nil)
            go_simp
            refine hK.out _ _ (hS2.alloc) (fun hHeld => ?_)
            clear hK KK
            obtain ⟨U3, hU3⟩ : ∃ U3, U3 = U2.alloc (Obj.cells #[.string ⟨#[]⟩, .slice none 0 0] 24) := ⟨_, rfl⟩
            obtain ⟨bx, hbx⟩ : ∃ bx, bx = U2.heap.size := ⟨_, rfl⟩
            have hS3 : Kp [w.heap.size, b] wA U3 := by rw [hU3]; exact hS2.alloc
            have nA : U3.heap[bx]? = some (Obj.cells #[.string ⟨#[]⟩, .slice none 0 0] 24) := by rw [hU3, hbx]; exact heap_alloc_new _ _
            have sA : U3.heap.size = bx + 1 := by rw [hU3, hbx]; simp
            have lA : bx = U2.heap.size := hbx
            have eA : Below U2.heap.size U2 U3 := by rw [hU3]; exact (Below.refl _ _).alloc (Nat.le_refl _) _
            rw [← hU3, ← hbx]
            have GA := hide (And.intro nA (And.intro sA (And.intro lA eA)))
            clear hU3 hbx hHeld nA sA lA eA
            try simp only [Act.put, List.setIfInBounds_toArray]
            have bc : Below wA.heap.size wA U0 := HB0.out
            obtain ⟨gs, gk', gt, gf, gd, g5, gq⟩ := GC.out
            have z5 := g5.size
            have zc := bc.size
            have z0 := HB0.out.size
            obtain ⟨nA, sA, lA, eA⟩ := GA.out
            have zA := eA.size
            obtain ⟨nB, sB, lB, eB⟩ := GB.out
            have zB := eB.size
            have bZ : Below w5.heap.size w5 U3 := eB.trans (eA.mono eB.size)
            have hx : U3.heap[bx]? = some (Obj.cells #[.string ⟨#[]⟩, .slice none 0 0] 24) := nA
            have hy : U3.heap[cy]? = some (Obj.cells #[.int .i64 0, .slice none 0 0, .int .i64 0, .int .i64 0, .string ⟨#[]⟩] 44) := by rw [eA.block _ (by omega)]; exact nB
            have HZ := hide (zin_mk (bx := bx) (cy := cy) HDW.out bc g5 bZ gs gk' gt gf gd gq (by omega) (by omega) (by omega) hx hy (by omega) (by omega))
            obtain ⟨Z, hZ⟩ : ∃ Z, Z = U3 := ⟨_, rfl⟩
            rw [← hZ] at HZ hS3 ⊢
            clear hZ hx hy bZ nA sA lA eA zA nB sB lB eB zB gs gk' gt gf gd g5 gq z5 zc z0 bc GA GB GC hS0 hS1 hS2
            have lx := HZ.out.lx
            have ly := HZ.out.ly
            have hne := HZ.out.ne
            have zx0 : Z.cell? ⟨bx, 0, none⟩ = some (.string ⟨#[]⟩) := by rw [cell_of_row _ _ 0 _ _ _ HZ.out.hx]; rfl
            have zx1 : Z.cell? ⟨bx, 1, none⟩ = some (.slice none 0 0) := by rw [cell_of_row _ _ 1 _ _ _ HZ.out.hx]; rfl
            have zxf : ∀ o, Z.frozen? ⟨bx, o, none⟩ = false := fun o => by simp [World.frozen?, HZ.out.hx]
            obtain ⟨Z1, hZ1⟩ : ∃ Z1, Z1 = (Z.setCell ⟨bx, 0, none⟩ (.string x')).setCell ⟨bx, 1, none⟩ (.slice ka' (flen k') cap') := ⟨_, rfl⟩
            have e1 : Z1.heap[cy]? = _ := (show Z1.heap[cy]? = Z.heap[cy]? by rw [hZ1]; exact box2_off (Ne.symm hne)).trans HZ.out.hy
            have zy0 : Z1.cell? ⟨cy, 0, none⟩ = some (.int .i64 0) := by rw [cell_of_row _ _ 0 _ _ _ e1]; rfl
            have zy1 : Z1.cell? ⟨cy, 1, none⟩ = some (.slice none 0 0) := by rw [cell_of_row _ _ 1 _ _ _ e1]; rfl
            have zy2 : Z1.cell? ⟨cy, 2, none⟩ = some (.int .i64 0) := by rw [cell_of_row _ _ 2 _ _ _ e1]; rfl
            have zy3 : Z1.cell? ⟨cy, 3, none⟩ = some (.int .i64 0) := by rw [cell_of_row _ _ 3 _ _ _ e1]; rfl
            have zy4 : Z1.cell? ⟨cy, 4, none⟩ = some (.string ⟨#[]⟩) := by rw [cell_of_row _ _ 4 _ _ _ e1]; rfl
            have zyf : ∀ o, Z1.frozen? ⟨cy, o, none⟩ = false := fun o => by simp [World.frozen?, e1]
            have gx : ¬ bx ∈ [w.heap.size, b] := by simp; omega
            have gy : ¬ cy ∈ [w.heap.size, b] := by simp; omega
            have HY := hide HZ.out.stored
            rw [← hZ1] at HY
            have hS4 : Kp [w.heap.size, b] wA Z1 := by rw [hZ1]; exact (hS3.set gx).set gx
            clear e1 HZ
            refine wpAnyH_ready (rs := [12]) (by kernel_rfl) (by simp) ?_
            refine AllReadyH.cons rfl (fun KK hK => ?_) AllReadyH.nil
            go_simp
            rw [← hZ1]
            refine hK.out _ _ hS4 (fun hHeld => ?_)
            clear hK KK hZ1 zx0 zx1 zxf hHeld
            refine wpAnyH_ready (rs := [13]) (by kernel_rfl) (by simp) ?_
            refine AllReadyH.cons rfl (fun KK hK => ?_) AllReadyH.nil
            go_simp
            refine hK.out _ _ (((((hS4.set gy).set gy).set gy).set gy).set gy) (fun hHeld => ?_)
            clear hK KK hHeld
            refine wpAnyH_ready (rs := [14]) (by kernel_rfl) (by simp) ?_
            refine AllReadyH.cons rfl (fun KK hK => ?_) AllReadyH.nil
            go_simp
            refine hK.out _ _ (((((hS4.set gy).set gy).set gy).set gy).set gy) (fun hHeld => ?_)
            clear hK KK hHeld
            refine wpAnyH_done (by kernel_rfl) ?_ _
            go_wp2_with fail
            go_meet
            case rel => exact ⟨bx, cy, x', ka', cap', k', pa', pc', rfl, rfl, rfl, HY⟩
        · go_simp
          refine hK.out _ _ (hS0.alloc) (fun hHeld => ?_)
          clear hK KK
          obtain ⟨U1, hU1⟩ : ∃ U1, U1 = U0.alloc (Obj.cells #[.string ⟨#[]⟩, .slice none 0 0] 24) := ⟨_, rfl⟩
          obtain ⟨bx, hbx⟩ : ∃ bx, bx = U0.heap.size := ⟨_, rfl⟩
          have hS1 : Kp [w.heap.size, b] wA U1 := by rw [hU1]; exact hS0.alloc
          have nA : U1.heap[bx]? = some (Obj.cells #[.string ⟨#[]⟩, .slice none 0 0] 24) := by rw [hU1, hbx]; exact heap_alloc_new _ _
          have sA : U1.heap.size = bx + 1 := by rw [hU1, hbx]; simp
          have lA : bx = U0.heap.size := hbx
          have eA : Below U0.heap.size U0 U1 := by rw [hU1]; exact (Below.refl _ _).alloc (Nat.le_refl _) _
          rw [← hU1, ← hbx]
          have GA := hide (And.intro nA (And.intro sA (And.intro lA eA)))
          clear hU1 hbx hHeld nA sA lA eA
          try simp only [Act.put, List.setIfInBounds_toArray]
          refine wpAnyH_ready (rs := [5, 11]) (by kernel_rfl) (by simp) ?_
          refine AllReadyH.cons rfl (fun KK hK => ?_) (AllReadyH.cons rfl (fun KK hK => ?_) (AllReadyH.nil))
          · go_simp
            refine Calls.mono (HDO.out U1 (HB0.out.trans (GA.out.2.2.2.mono (HB0.out).size))) ?_
            rintro e w5 ⟨x', ka', cap', k', pa', pc', rfl, hx', hk', ht', hf', hp', hd', hb', hq'⟩
            unfold ddV
            have GC := hide (And.intro hx' (And.intro hk' (And.intro ht' (And.intro hf' (And.intro hd' (And.intro hb' hq'))))))
            have hS2 : Kp [w.heap.size, b] wA w5 := hS1.below hb'
            clear hx' hk' ht' hf' hp' hd' hb' hq'
            go_simp
            refine hK.out _ _ hS2 (fun hHeld => ?_)
            clear hK KK hHeld
            try simp only [Act.put, List.setIfInBounds_toArray]
            refine wpAnyH_take (i := 6) (v := (.tuple #[.agg #[.string x', .slice ka' (flen k') cap'], .agg #[.int .i64 R.2.2.kind, .slice pa' R.2.2.path.length pc', .int .i64 R.2.2.pos, .int .i64 R.2.2.many, .string R.2.2.lab], .int .i64 R.1])) rfl (by kernel_rfl) (by kernel_rfl) (by kernel_rfl) (fun _ _ _ h => h) (Or.inl ⟨by rfl, by intro V hSw; go_simp⟩) (by assumption) ?_
            refine wpAnyH_take (i := 7) (v := (.agg #[.string x', .slice ka' (flen k') cap'])) rfl (by kernel_rfl) (by kernel_rfl) (by kernel_rfl) (fun _ _ _ h => h) (Or.inl ⟨by rfl, by intro V hSw; go_simp⟩) (by assumption) ?_
            refine wpAnyH_take (i := 8) (v := (.agg #[.int .i64 R.2.2.kind, .slice pa' R.2.2.path.length pc', .int .i64 R.2.2.pos, .int .i64 R.2.2.many, .string R.2.2.lab])) rfl (by kernel_rfl) (by kernel_rfl) (by kernel_rfl) (fun _ _ _ h => h) (Or.inl ⟨by rfl, by intro V hSw; go_simp⟩) (by assumption) ?_
            refine wpAnyH_take (i := 9) (v := (.int .i64 R.1)) rfl (by kernel_rfl) (by kernel_rfl) (by kernel_rfl) (fun _ _ _ h => h) (Or.inl ⟨by rfl, by intro V hSw; go_simp⟩) (by assumption) ?_
            try simp only [Act.put, List.setIfInBounds_toArray]
            refine wpAnyH_ready (rs := [11]) (by kernel_rfl) (by simp) ?_
            refine AllReadyH.cons rfl (fun KK hK => ?_) (AllReadyH.nil)
            go_simp
            refine hK.out _ _ (hS2.alloc) (fun hHeld => ?_)
            clear hK KK
            obtain ⟨U3, hU3⟩ : ∃ U3, U3 = w5.alloc (Obj.cells #[.int .i64 0, .slice none 0 0, .int .i64 0, .int .i64 0, .string ⟨#[]⟩] 44) := ⟨_, rfl⟩
            obtain ⟨cy, hcy⟩ : ∃ cy, cy = w5.heap.size := ⟨_, rfl⟩
            have hS3 : Kp [w.heap.size, b] wA U3 := by rw [hU3]; exact hS2.alloc
            have nB : U3.heap[cy]? = some (Obj.cells #[.int .i64 0, .slice none 0 0, .int .i64 0, .int .i64 0, .string ⟨#[]⟩] 44) := by rw [hU3, hcy]; exact heap_alloc_new _ _
            have sB : U3.heap.size = cy + 1 := by rw [hU3, hcy]; simp
            have lB : cy = w5.heap.size := hcy
            have eB : Below w5.heap.size w5 U3 := by rw [hU3]; exact (Below.refl _ _).alloc (Nat.le_refl _) _
            rw [← hU3, ← hcy]
            have GB := hide (And.intro nB (And.intro sB (And.intro lB eB)))
            clear hU3 hcy hHeld nB sB lB eB
            try simp only [Act.put, List.setIfInBounds_toArray]
            have bc : Below wA.heap.size wA U1 := (HB0.out.trans (GA.out.2.2.2.mono (HB0.out).size))
            obtain ⟨gs, gk', gt, gf, gd, g5, gq⟩ := GC.out
            have z5 := g5.size
            have zc := bc.size
            have z0 := HB0.out.size
            obtain ⟨nA, sA, lA, eA⟩ := GA.out
            have zA := eA.size
            obtain ⟨nB, sB, lB, eB⟩ := GB.out
            have zB := eB.size
            have bZ : Below w5.heap.size w5 U3 := eB
            have hx : U3.heap[bx]? = some (Obj.cells #[.string ⟨#[]⟩, .slice none 0 0] 24) := by rw [eB.block _ (by omega), g5.block _ (by omega)]; exact nA
            have hy : U3.heap[cy]? = some (Obj.cells #[.int .i64 0, .slice none 0 0, .int .i64 0, .int .i64 0, .string ⟨#[]⟩] 44) := nB
            have HZ := hide (zin_mk (bx := bx) (cy := cy) HDW.out bc g5 bZ gs gk' gt gf gd gq (by omega) (by omega) (by omega) hx hy (by omega) (by omega))
            obtain ⟨Z, hZ⟩ : ∃ Z, Z = U3 := ⟨_, rfl⟩
            rw [← hZ] at HZ hS3 ⊢
            clear hZ hx hy bZ nA sA lA eA zA nB sB lB eB zB gs gk' gt gf gd g5 gq z5 zc z0 bc GA GB GC hS0 hS1 hS2
            have lx := HZ.out.lx
            have ly := HZ.out.ly
            have hne := HZ.out.ne
            have zx0 : Z.cell? ⟨bx, 0, none⟩ = some (.string ⟨#[]⟩) := by rw [cell_of_row _ _ 0 _ _ _ HZ.out.hx]; rfl
            have zx1 : Z.cell? ⟨bx, 1, none⟩ = some (.slice none 0 0) := by rw [cell_of_row _ _ 1 _ _ _ HZ.out.hx]; rfl
            have zxf : ∀ o, Z.frozen? ⟨bx, o, none⟩ = false := fun o => by simp [World.frozen?, HZ.out.hx]
            obtain ⟨Z1, hZ1⟩ : ∃ Z1, Z1 = (Z.setCell ⟨bx, 0, none⟩ (.string x')).setCell ⟨bx, 1, none⟩ (.slice ka' (flen k') cap') := ⟨_, rfl⟩
            have e1 : Z1.heap[cy]? = _ := (show Z1.heap[cy]? = Z.heap[cy]? by rw [hZ1]; exact box2_off (Ne.symm hne)).trans HZ.out.hy
            have zy0 : Z1.cell? ⟨cy, 0, none⟩ = some (.int .i64 0) := by rw [cell_of_row _ _ 0 _ _ _ e1]; rfl
            have zy1 : Z1.cell? ⟨cy, 1, none⟩ = some (.slice none 0 0) := by rw [cell_of_row _ _ 1 _ _ _ e1]; rfl
            have zy2 : Z1.cell? ⟨cy, 2, none⟩ = some (.int .i64 0) := by rw [cell_of_row _ _ 2 _ _ _ e1]; rfl
            have zy3 : Z1.cell? ⟨cy, 3, none⟩ = some (.int .i64 0) := by rw [cell_of_row _ _ 3 _ _ _ e1]; rfl
            have zy4 : Z1.cell? ⟨cy, 4, none⟩ = some (.string ⟨#[]⟩) := by rw [cell_of_row _ _ 4 _ _ _ e1]; rfl
            have zyf : ∀ o, Z1.frozen? ⟨cy, o, none⟩ = false := fun o => by simp [World.frozen?, e1]
            have gx : ¬ bx ∈ [w.heap.size, b] := by simp; omega
            have gy : ¬ cy ∈ [w.heap.size, b] := by simp; omega
            have HY := hide HZ.out.stored
            rw [← hZ1] at HY
            have hS4 : Kp [w.heap.size, b] wA Z1 := by rw [hZ1]; exact (hS3.set gx).set gx
            clear e1 HZ
            refine wpAnyH_ready (rs := [12]) (by kernel_rfl) (by simp) ?_
            refine AllReadyH.cons rfl (fun KK hK => ?_) AllReadyH.nil
            go_simp
            rw [← hZ1]
            refine hK.out _ _ hS4 (fun hHeld => ?_)
            clear hK KK hZ1 zx0 zx1 zxf hHeld
            refine wpAnyH_ready (rs := [13]) (by kernel_rfl) (by simp) ?_
            refine AllReadyH.cons rfl (fun KK hK => ?_) AllReadyH.nil
            go_simp
            refine hK.out _ _ (((((hS4.set gy).set gy).set gy).set gy).set gy) (fun hHeld => ?_)
            clear hK KK hHeld
            refine wpAnyH_ready (rs := [14]) (by kernel_rfl) (by simp) ?_
            refine AllReadyH.cons rfl (fun KK hK => ?_) AllReadyH.nil
            go_simp
            refine hK.out _ _ (((((hS4.set gy).set gy).set gy).set gy).set gy) (fun hHeld => ?_)
            clear hK KK hHeld
            refine wpAnyH_done (by kernel_rfl) ?_ _
            go_wp2_with fail
            go_meet
            case rel => exact ⟨bx, cy, x', ka', cap', k', pa', pc', rfl, rfl, rfl, HY⟩
          · go_simp
            refine hK.out _ _ (hS1.alloc) (fun hHeld => ?_)
            clear hK KK
            obtain ⟨U2, hU2⟩ : ∃ U2, U2 = U1.alloc (Obj.cells #[.int .i64 0, .slice none 0 0, .int .i64 0, .int .i64 0, .string ⟨#[]⟩] 44) := ⟨_, rfl⟩
            obtain ⟨cy, hcy⟩ : ∃ cy, cy = U1.heap.size := ⟨_, rfl⟩
            have hS2 : Kp [w.heap.size, b] wA U2 := by rw [hU2]; exact hS1.alloc
            have nB : U2.heap[cy]? = some (Obj.cells #[.int .i64 0, .slice none 0 0, .int .i64 0, .int .i64 0, .string ⟨#[]⟩] 44) := by rw [hU2, hcy]; exact heap_alloc_new _ _
            have sB : U2.heap.size = cy + 1 := by rw [hU2, hcy]; simp
            have lB : cy = U1.heap.size := hcy
            have eB : Below U1.heap.size U1 U2 := by rw [hU2]; exact (Below.refl _ _).alloc (Nat.le_refl _) _
            rw [← hU2, ← hcy]
            have GB := hide (And.intro nB (And.intro sB (And.intro lB eB)))
            clear hU2 hcy hHeld nB sB lB eB
            try simp only [Act.put, List.setIfInBounds_toArray]
            refine wpAnyH_ready (rs := [5]) (by kernel_rfl) (by simp) ?_
            refine AllReadyH.cons rfl (fun KK hK => ?_) (AllReadyH.nil)
            go_simp
            refine Calls.mono (HDO.out U2 ((HB0.out.trans (GA.out.2.2.2.mono (HB0.out).size)).trans (GB.out.2.2.2.mono ((HB0.out.trans (GA.out.2.2.2.mono (HB0.out).size))).size))) ?_
            rintro e w5 ⟨x', ka', cap', k', pa', pc', rfl, hx', hk', ht', hf', hp', hd', hb', hq'⟩
            unfold ddV
            have GC := hide (And.intro hx' (And.intro hk' (And.intro ht' (And.intro hf' (And.intro hd' (And.intro hb' hq'))))))
            have hS3 : Kp [w.heap.size, b] wA w5 := hS2.below hb'
            clear hx' hk' ht' hf' hp' hd' hb' hq'
            go_simp
            refine hK.out _ _ hS3 (fun hHeld => ?_)
            clear hK KK hHeld
            try simp only [Act.put, List.setIfInBounds_toArray]
            refine wpAnyH_take (i := 6) (v := (.tuple #[.agg #[.string x', .slice ka' (flen k') cap'], .agg #[.int .i64 R.2.2.kind, .slice pa' R.2.2.path.length pc', .int .i64 R.2.2.pos, .int .i64 R.2.2.many, .string R.2.2.lab], .int .i64 R.1])) rfl (by kernel_rfl) (by kernel_rfl) (by kernel_rfl) (fun _ _ _ h => h) (Or.inl ⟨by rfl, by intro V hSw; go_simp⟩) (by assumption) ?_
            refine wpAnyH_take (i := 7) (v := (.agg #[.string x', .slice ka' (flen k') cap'])) rfl (by kernel_rfl) (by kernel_rfl) (by kernel_rfl) (fun _ _ _ h => h) (Or.inl ⟨by rfl, by intro V hSw; go_simp⟩) (by assumption) ?_
            refine wpAnyH_take (i := 8) (v := (.agg #[.int .i64 R.2.2.kind, .slice pa' R.2.2.path.length pc', .int .i64 R.2.2.pos, .int .i64 R.2.2.many, .string R.2.2.lab])) rfl (by kernel_rfl) (by kernel_rfl) (by kernel_rfl) (fun _ _ _ h => h) (Or.inl ⟨by rfl, by intro V hSw; go_simp⟩) (by assumption) ?_
            refine wpAnyH_take (i := 9) (v := (.int .i64 R.1)) rfl (by kernel_rfl) (by kernel_rfl) (by kernel_rfl) (fun _ _ _ h => h) (Or.inl ⟨by rfl, by intro V hSw; go_simp⟩) (by assumption) ?_
            try simp only [Act.put, List.setIfInBounds_toArray]
            have bc : Below wA.heap.size wA U2 := ((HB0.out.trans (GA.out.2.2.2.mono (HB0.out).size)).trans (GB.out.2.2.2.mono ((HB0.out.trans (GA.out.2.2.2.mono (HB0.out).size))).size))
            obtain ⟨gs, gk', gt, gf, gd, g5, gq⟩ := GC.out
            have z5 := g5.size
            have zc := bc.size
            have z0 := HB0.out.size
            obtain ⟨nA, sA, lA, eA⟩ := GA.out
            have zA := eA.size
            obtain ⟨nB, sB, lB, eB⟩ := GB.out
            have zB := eB.size
            have bZ : Below w5.heap.size w5 w5 := Below.refl _ _
            have hx : w5.heap[bx]? = some (Obj.cells #[.string ⟨#[]⟩, .slice none 0 0] 24) := by rw [g5.block _ (by omega), eB.block _ (by omega)]; exact nA
            have hy : w5.heap[cy]? = some (Obj.cells #[.int .i64 0, .slice none 0 0, .int .i64 0, .int .i64 0, .string ⟨#[]⟩] 44) := by rw [g5.block _ (by omega)]; exact nB
            have HZ := hide (zin_mk (bx := bx) (cy := cy) HDW.out bc g5 bZ gs gk' gt gf gd gq (by omega) (by omega) (by omega) hx hy (by omega) (by omega))
            obtain ⟨Z, hZ⟩ : ∃ Z, Z = w5 := ⟨_, rfl⟩
            rw [← hZ] at HZ hS3 ⊢
            clear hZ hx hy bZ nA sA lA eA zA nB sB lB eB zB gs gk' gt gf gd g5 gq z5 zc z0 bc GA GB GC hS0 hS1 hS2
            have lx := HZ.out.lx
            have ly := HZ.out.ly
            have hne := HZ.out.ne
            have zx0 : Z.cell? ⟨bx, 0, none⟩ = some (.string ⟨#[]⟩) := by rw [cell_of_row _ _ 0 _ _ _ HZ.out.hx]; rfl
            have zx1 : Z.cell? ⟨bx, 1, none⟩ = some (.slice none 0 0) := by rw [cell_of_row _ _ 1 _ _ _ HZ.out.hx]; rfl
            have zxf : ∀ o, Z.frozen? ⟨bx, o, none⟩ = false := fun o => by simp [World.frozen?, HZ.out.hx]
            obtain ⟨Z1, hZ1⟩ : ∃ Z1, Z1 = (Z.setCell ⟨bx, 0, none⟩ (.string x')).setCell ⟨bx, 1, none⟩ (.slice ka' (flen k') cap') := ⟨_, rfl⟩
            have e1 : Z1.heap[cy]? = _ := (show Z1.heap[cy]? = Z.heap[cy]? by rw [hZ1]; exact box2_off (Ne.symm hne)).trans HZ.out.hy
            have zy0 : Z1.cell? ⟨cy, 0, none⟩ = some (.int .i64 0) := by rw [cell_of_row _ _ 0 _ _ _ e1]; rfl
            have zy1 : Z1.cell? ⟨cy, 1, none⟩ = some (.slice none 0 0) := by rw [cell_of_row _ _ 1 _ _ _ e1]; rfl
            have zy2 : Z1.cell? ⟨cy, 2, none⟩ = some (.int .i64 0) := by rw [cell_of_row _ _ 2 _ _ _ e1]; rfl
            have zy3 : Z1.cell? ⟨cy, 3, none⟩ = some (.int .i64 0) := by rw [cell_of_row _ _ 3 _ _ _ e1]; rfl
            have zy4 : Z1.cell? ⟨cy, 4, none⟩ = some (.string ⟨#[]⟩) := by rw [cell_of_row _ _ 4 _ _ _ e1]; rfl
            have zyf : ∀ o, Z1.frozen? ⟨cy, o, none⟩ = false := fun o => by simp [World.frozen?, e1]
            have gx : ¬ bx ∈ [w.heap.size, b] := by simp; omega
            have gy : ¬ cy ∈ [w.heap.size, b] := by simp; omega
            have HY := hide HZ.out.stored
            rw [← hZ1] at HY
            have hS4 : Kp [w.heap.size, b] wA Z1 := by rw [hZ1]; exact (hS3.set gx).set gx
            clear e1 HZ
            refine wpAnyH_ready (rs := [12]) (by kernel_rfl) (by simp) ?_
            refine AllReadyH.cons rfl (fun KK hK => ?_) AllReadyH.nil
            go_simp
            rw [← hZ1]
            refine hK.out _ _ hS4 (fun hHeld => ?_)
            clear hK KK hZ1 zx0 zx1 zxf hHeld
            refine wpAnyH_ready (rs := [13]) (by kernel_rfl) (by simp) ?_
            refine AllReadyH.cons rfl (fun KK hK => ?_) AllReadyH.nil
            go_simp
            refine hK.out _ _ (((((hS4.set gy).set gy).set gy).set gy).set gy) (fun hHeld => ?_)
            clear hK KK hHeld
            refine wpAnyH_ready (rs := [14]) (by kernel_rfl) (by simp) ?_
            refine AllReadyH.cons rfl (fun KK hK => ?_) AllReadyH.nil
            go_simp
            refine hK.out _ _ (((((hS4.set gy).set gy).set gy).set gy).set gy) (fun hHeld => ?_)
            clear hK KK hHeld
            refine wpAnyH_done (by kernel_rfl) ?_ _
            go_wp2_with fail
            go_meet
            case rel => exact ⟨bx, cy, x', ka', cap', k', pa', pc', rfl, rfl, rfl, HY⟩
        · go_simp
          refine hK.out _ _ (hS0.alloc) (fun hHeld => ?_)
          clear hK KK
          obtain ⟨U1, hU1⟩ : ∃ U1, U1 = U0.alloc (Obj.cells #[.int .i64 0, .slice none 0 0, .int .i64 0, .int .i64 0, .string ⟨#[]⟩] 44) := ⟨_, rfl⟩
          obtain ⟨cy, hcy⟩ : ∃ cy, cy = U0.heap.size := ⟨_, rfl⟩
          have hS1 : Kp [w.heap.size, b] wA U1 := by rw [hU1]; exact hS0.alloc
          have nB : U1.heap[cy]? = some (Obj.cells #[.int .i64 0, .slice none 0 0, .int .i64 0, .int .i64 0, .string ⟨#[]⟩] 44) := by rw [hU1, hcy]; exact heap_alloc_new _ _
          have sB : U1.heap.size = cy + 1 := by rw [hU1, hcy]; simp
          have lB : cy = U0.heap.size := hcy
          have eB : Below U0.heap.size U0 U1 := by rw [hU1]; exact (Below.refl _ _).alloc (Nat.le_refl _) _
          rw [← hU1, ← hcy]
          have GB := hide (And.intro nB (And.intro sB (And.intro lB eB)))
          clear hU1 hcy hHeld nB sB lB eB
          try simp only [Act.put, List.setIfInBounds_toArray]
          refine wpAnyH_ready (rs := [5, 10]) (by kernel_rfl) (by simp) ?_
          refine AllReadyH.cons rfl (fun KK hK => ?_) (AllReadyH.cons rfl (fun KK hK => ?_) (AllReadyH.nil))
          · go_simp
            refine Calls.mono (HDO.out U1 (HB0.out.trans (GB.out.2.2.2.mono (HB0.out).size))) ?_
            rintro e w5 ⟨x', ka', cap', k', pa', pc', rfl, hx', hk', ht', hf', hp', hd', hb', hq'⟩
            unfold ddV
            have GC := hide (And.intro hx' (And.intro hk' (And.intro ht' (And.intro hf' (And.intro hd' (And.intro hb' hq'))))))
            have hS2 : Kp [w.heap.size, b] wA w5 := hS1.below hb'
            clear hx' hk' ht' hf' hp' hd' hb' hq'
            go_simp
            refine hK.out _ _ hS2 (fun hHeld => ?_)
            clear hK KK hHeld
            try simp only [Act.put, List.setIfInBounds_toArray]
            refine wpAnyH_take (i := 6) (v := (.tuple #[.agg #[.string x', .slice ka' (flen k') cap'], .agg #[.int .i64 R.2.2.kind, .slice pa' R.2.2.path.length pc', .int .i64 R.2.2.pos, .int .i64 R.2.2.many, .string R.2.2.lab], .int .i64 R.1])) rfl (by kernel_rfl) (by kernel_rfl) (by kernel_rfl) (fun _ _ _ h => h) (Or.inl ⟨by rfl, by intro V hSw; go_simp⟩) (by assumption) ?_
            refine wpAnyH_take (i := 7) (v := (.agg #[.string x', .slice ka' (flen k') cap'])) rfl (by kernel_rfl) (by kernel_rfl) (by kernel_rfl) (fun _ _ _ h => h) (Or.inl ⟨by rfl, by intro V hSw; go_simp⟩) (by assumption) ?_
            refine wpAnyH_take (i := 8) (v := (.agg #[.int .i64 R.2.2.kind, .slice pa' R.2.2.path.length pc', .int .i64 R.2.2.pos, .int .i64 R.2.2.many, .string R.2.2.lab])) rfl (by kernel_rfl) (by kernel_rfl) (by kernel_rfl) (fun _ _ _ h => h) (Or.inl ⟨by rfl, by intro V hSw; go_simp⟩) (by assumption) ?_
            refine wpAnyH_take (i := 9) (v := (.int .i64 R.1)) rfl (by kernel_rfl) (by kernel_rfl) (by kernel_rfl) (fun _ _ _ h => h) (Or.inl ⟨by rfl, by intro V hSw; go_simp⟩) (by assumption) ?_
            try simp only [Act.put, List.setIfInBounds_toArray]
            refine wpAnyH_ready (rs := [10]) (by kernel_rfl) (by simp) ?_
            refine AllReadyH.cons rfl (fun KK hK => ?_) (AllReadyH.nil)
            go_simp
            refine hK.out _ _ (hS2.alloc) (fun hHeld => ?_)
            clear hK KK
            obtain ⟨U3, hU3⟩ : ∃ U3, U3 = w5.alloc (Obj.cells #[.string ⟨#[]⟩, .slice none 0 0] 24) := ⟨_, rfl⟩
            obtain ⟨bx, hbx⟩ : ∃ bx, bx = w5.heap.size := ⟨_, rfl⟩
            have hS3 : Kp [w.heap.size, b] wA U3 := by rw [hU3]; exact hS2.alloc
            have nA : U3.heap[bx]? = some (Obj.cells #[.string ⟨#[]⟩, .slice none 0 0] 24) := by rw [hU3, hbx]; exact heap_alloc_new _ _
            have sA : U3.heap.size = bx + 1 := by rw [hU3, hbx]; simp
            have lA : bx = w5.heap.size := hbx
            have eA : Below w5.heap.size w5 U3 := by rw [hU3]; exact (Below.refl _ _).alloc (Nat.le_refl _) _
            rw [← hU3, ← hbx]
            have GA := hide (And.intro nA (And.intro sA (And.intro lA eA)))
            clear hU3 hbx hHeld nA sA lA eA
            try simp only [Act.put, List.setIfInBounds_toArray]
            have bc : Below wA.heap.size wA U1 := (HB0.out.trans (GB.out.2.2.2.mono (HB0.out).size))
            obtain ⟨gs, gk', gt, gf, gd, g5, gq⟩ := GC.out
            have z5 := g5.size
            have zc := bc.size
            have z0 := HB0.out.size
            obtain ⟨nA, sA, lA, eA⟩ := GA.out
            have zA := eA.size
            obtain ⟨nB, sB, lB, eB⟩ := GB.out
            have zB := eB.size
            have bZ : Below w5.heap.size w5 U3 := eA
            have hx : U3.heap[bx]? = some (Obj.cells #[.string ⟨#[]⟩, .slice none 0 0] 24) := nA
            have hy : U3.heap[cy]? = some (Obj.cells #[.int .i64 0, .slice none 0 0, .int .i64 0, .int .i64 0, .string ⟨#[]⟩] 44) := by rw [eA.block _ (by omega), g5.block _ (by omega)]; exact nB
            have HZ := hide (zin_mk (bx := bx) (cy := cy) HDW.out bc g5 bZ gs gk' gt gf gd gq (by omega) (by omega) (by omega) hx hy (by omega) (by omega))
            obtain ⟨Z, hZ⟩ : ∃ Z, Z = U3 := ⟨_, rfl⟩
            rw [← hZ] at HZ hS3 ⊢
            clear hZ hx hy bZ nA sA lA eA zA nB sB lB eB zB gs gk' gt gf gd g5 gq z5 zc z0 bc GA GB GC hS0 hS1 hS2
            have lx := HZ.out.lx
            have ly := HZ.out.ly
            have hne := HZ.out.ne
            have zx0 : Z.cell? ⟨bx, 0, none⟩ = some (.string ⟨#[]⟩) := by rw [cell_of_row _ _ 0 _ _ _ HZ.out.hx]; rfl
            have zx1 : Z.cell? ⟨bx, 1, none⟩ = some (.slice none 0 0) := by rw [cell_of_row _ _ 1 _ _ _ HZ.out.hx]; rfl
            have zxf : ∀ o, Z.frozen? ⟨bx, o, none⟩ = false := fun o => by simp [World.frozen?, HZ.out.hx]
            obtain ⟨Z1, hZ1⟩ : ∃ Z1, Z1 = (Z.setCell ⟨bx, 0, none⟩ (.string x')).setCell ⟨bx, 1, none⟩ (.slice ka' (flen k') cap') := ⟨_, rfl⟩
            have e1 : Z1.heap[cy]? = _ := (show Z1.heap[cy]? = Z.heap[cy]? by rw [hZ1]; exact box2_off (Ne.symm hne)).trans HZ.out.hy
            have zy0 : Z1.cell? ⟨cy, 0, none⟩ = some (.int .i64 0) := by rw [cell_of_row _ _ 0 _ _ _ e1]; rfl
            have zy1 : Z1.cell? ⟨cy, 1, none⟩ = some (.slice none 0 0) := by rw [cell_of_row _ _ 1 _ _ _ e1]; rfl
            have zy2 : Z1.cell? ⟨cy, 2, none⟩ = some (.int .i64 0) := by rw [cell_of_row _ _ 2 _ _ _ e1]; rfl
            have zy3 : Z1.cell? ⟨cy, 3, none⟩ = some (.int .i64 0) := by rw [cell_of_row _ _ 3 _ _ _ e1]; rfl
            have zy4 : Z1.cell? ⟨cy, 4, none⟩ = some (.string ⟨#[]⟩) := by rw [cell_of_row _ _ 4 _ _ _ e1]; rfl
            have zyf : ∀ o, Z1.frozen? ⟨cy, o, none⟩ = false := fun o => by simp [World.frozen?, e1]
            have gx : ¬ bx ∈ [w.heap.size, b] := by simp; omega
            have gy : ¬ cy ∈ [w.heap.size, b] := by simp; omega
            have HY := hide HZ.out.stored
            rw [← hZ1] at HY
            have hS4 : Kp [w.heap.size, b] wA Z1 := by rw [hZ1]; exact (hS3.set gx).set gx
            clear e1 HZ
            refine wpAnyH_ready (rs := [12]) (by kernel_rfl) (by simp) ?_
            refine AllReadyH.cons rfl (fun KK hK => ?_) AllReadyH.nil
            go_simp
            rw [← hZ1]
            refine hK.out _ _ hS4 (fun hHeld => ?_)
            clear hK KK hZ1 zx0 zx1 zxf hHeld
            refine wpAnyH_ready (rs := [13]) (by kernel_rfl) (by simp) ?_
            refine AllReadyH.cons rfl (fun KK hK => ?_) AllReadyH.nil
            go_simp
            refine hK.out _ _ (((((hS4.set gy).set gy).set gy).set gy).set gy) (fun hHeld => ?_)
            clear hK KK hHeld
            refine wpAnyH_ready (rs := [14]) (by kernel_rfl) (by simp) ?_
            refine AllReadyH.cons rfl (fun KK hK => ?_) AllReadyH.nil
            go_simp
            refine hK.out _ _ (((((hS4.set gy).set gy).set gy).set gy).set gy) (fun hHeld => ?_)
            clear hK KK hHeld
            refine wpAnyH_done (by kernel_rfl) ?_ _
            go_wp2_with fail
            go_meet
            case rel => exact ⟨bx, cy, x', ka', cap', k', pa', pc', rfl, rfl, rfl, HY⟩
          · go_simp
            refine hK.out _ _ (hS1.alloc) (fun hHeld => ?_)
            clear hK KK
            obtain ⟨U2, hU2⟩ : ∃ U2, U2 = U1.alloc (Obj.cells #[.string ⟨#[]⟩, .slice none 0 0] 24) := ⟨_, rfl⟩
            obtain ⟨bx, hbx⟩ : ∃ bx, bx = U1.heap.size := ⟨_, rfl⟩
            have hS2 : Kp [w.heap.size, b] wA U2 := by rw [hU2]; exact hS1.alloc
            have nA : U2.heap[bx]? = some (Obj.cells #[.string ⟨#[]⟩, .slice none 0 0] 24) := by rw [hU2, hbx]; exact heap_alloc_new _ _
            have sA : U2.heap.size = bx + 1 := by rw [hU2, hbx]; simp
            have lA : bx = U1.heap.size := hbx
            have eA : Below U1.heap.size U1 U2 := by rw [hU2]; exact (Below.refl _ _).alloc (Nat.le_refl _) _
            rw [← hU2, ← hbx]
            have GA := hide (And.intro nA (And.intro sA (And.intro lA eA)))
            clear hU2 hbx hHeld nA sA lA eA
            try simp only [Act.put, List.setIfInBounds_toArray]
            refine wpAnyH_ready (rs := [5]) (by kernel_rfl) (by simp) ?_
            refine AllReadyH.cons rfl (fun KK hK => ?_) (AllReadyH.nil)
            go_simp
            refine Calls.mono (HDO.out U2 ((HB0.out.trans (GB.out.2.2.2.mono (HB0.out).size)).trans (GA.out.2.2.2.mono ((HB0.out.trans (GB.out.2.2.2.mono (HB0.out).size))).size))) ?_
            rintro e w5 ⟨x', ka', cap', k', pa', pc', rfl, hx', hk', ht', hf', hp', hd', hb', hq'⟩
            unfold ddV
            have GC := hide (And.intro hx' (And.intro hk' (And.intro ht' (And.intro hf' (And.intro hd' (And.intro hb' hq'))))))
            have hS3 : Kp [w.heap.size, b] wA w5 := hS2.below hb'
            clear hx' hk' ht' hf' hp' hd' hb' hq'
            go_simp
            refine hK.out _ _ hS3 (fun hHeld => ?_)
            clear hK KK hHeld
            try simp only [Act.put, List.setIfInBounds_toArray]
            refine wpAnyH_take (i := 6) (v := (.tuple #[.agg #[.string x', .slice ka' (flen k') cap'], .agg #[.int .i64 R.2.2.kind, .slice pa' R.2.2.path.length pc', .int .i64 R.2.2.pos, .int .i64 R.2.2.many, .string R.2.2.lab], .int .i64 R.1])) rfl (by kernel_rfl) (by kernel_rfl) (by kernel_rfl) (fun _ _ _ h => h) (Or.inl ⟨by rfl, by intro V hSw; go_simp⟩) (by assumption) ?_
            refine wpAnyH_take (i := 7) (v := (.agg #[.string x', .slice ka' (flen k') cap'])) rfl (by kernel_rfl) (by kernel_rfl) (by kernel_rfl) (fun _ _ _ h => h) (Or.inl ⟨by rfl, by intro V hSw; go_simp⟩) (by assumption) ?_
            refine wpAnyH_take (i := 8) (v := (.agg #[.int .i64 R.2.2.kind, .slice pa' R.2.2.path.length pc', .int .i64 R.2.2.pos, .int .i64 R.2.2.many, .string R.2.2.lab])) rfl (by kernel_rfl) (by kernel_rfl) (by kernel_rfl) (fun _ _ _ h => h) (Or.inl ⟨by rfl, by intro V hSw; go_simp⟩) (by assumption) ?_
            refine wpAnyH_take (i := 9) (v := (.int .i64 R.1)) rfl (by kernel_rfl) (by kernel_rfl) (by kernel_rfl) (fun _ _ _ h => h) (Or.inl ⟨by rfl, by intro V hSw; go_simp⟩) (by assumption) ?_
            try simp only [Act.put, List.setIfInBounds_toArray]
            have bc : Below wA.heap.size wA U2 := ((HB0.out.trans (GB.out.2.2.2.mono (HB0.out).size)).trans (GA.out.2.2.2.mono ((HB0.out.trans (GB.out.2.2.2.mono (HB0.out).size))).size))
            obtain ⟨gs, gk', gt, gf, gd, g5, gq⟩ := GC.out
            have z5 := g5.size
            have zc := bc.size
            have z0 := HB0.out.size
            obtain ⟨nA, sA, lA, eA⟩ := GA.out
            have zA := eA.size
            obtain ⟨nB, sB, lB, eB⟩ := GB.out
            have zB := eB.size
            have bZ : Below w5.heap.size w5 w5 := Below.refl _ _
            have hx : w5.heap[bx]? = some (Obj.cells #[.string ⟨#[]⟩, .slice none 0 0] 24) := by rw [g5.block _ (by omega)]; exact nA
            have hy : w5.heap[cy]? = some (Obj.cells #[.int .i64 0, .slice none 0 0, .int .i64 0, .int .i64 0, .string ⟨#[]⟩] 44) := by rw [g5.block _ (by omega), eA.block _ (by omega)]; exact nB
            have HZ := hide (zin_mk (bx := bx) (cy := cy) HDW.out bc g5 bZ gs gk' gt gf gd gq (by omega) (by omega) (by omega) hx hy (by omega) (by omega))
            obtain ⟨Z, hZ⟩ : ∃ Z, Z = w5 := ⟨_, rfl⟩
            rw [← hZ] at HZ hS3 ⊢
            clear hZ hx hy bZ nA sA lA eA zA nB sB lB eB zB gs gk' gt gf gd g5 gq z5 zc z0 bc GA GB GC hS0 hS1 hS2
            have lx := HZ.out.lx
            have ly := HZ.out.ly
            have hne := HZ.out.ne
            have zx0 : Z.cell? ⟨bx, 0, none⟩ = some (.string ⟨#[]⟩) := by rw [cell_of_row _ _ 0 _ _ _ HZ.out.hx]; rfl
            have zx1 : Z.cell? ⟨bx, 1, none⟩ = some (.slice none 0 0) := by rw [cell_of_row _ _ 1 _ _ _ HZ.out.hx]; rfl
            have zxf : ∀ o, Z.frozen? ⟨bx, o, none⟩ = false := fun o => by simp [World.frozen?, HZ.out.hx]
            obtain ⟨Z1, hZ1⟩ : ∃ Z1, Z1 = (Z.setCell ⟨bx, 0, none⟩ (.string x')).setCell ⟨bx, 1, none⟩ (.slice ka' (flen k') cap') := ⟨_, rfl⟩
            have e1 : Z1.heap[cy]? = _ := (show Z1.heap[cy]? = Z.heap[cy]? by rw [hZ1]; exact box2_off (Ne.symm hne)).trans HZ.out.hy
            have zy0 : Z1.cell? ⟨cy, 0, none⟩ = some (.int .i64 0) := by rw [cell_of_row _ _ 0 _ _ _ e1]; rfl
            have zy1 : Z1.cell? ⟨cy, 1, none⟩ = some (.slice none 0 0) := by rw [cell_of_row _ _ 1 _ _ _ e1]; rfl
            have zy2 : Z1.cell? ⟨cy, 2, none⟩ = some (.int .i64 0) := by rw [cell_of_row _ _ 2 _ _ _ e1]; rfl
            have zy3 : Z1.cell? ⟨cy, 3, none⟩ = some (.int .i64 0) := by rw [cell_of_row _ _ 3 _ _ _ e1]; rfl
            have zy4 : Z1.cell? ⟨cy, 4, none⟩ = some (.string ⟨#[]⟩) := by rw [cell_of_row _ _ 4 _ _ _ e1]; rfl
            have zyf : ∀ o, Z1.frozen? ⟨cy, o, none⟩ = false := fun o => by simp [World.frozen?, e1]
            have gx : ¬ bx ∈ [w.heap.size, b] := by simp; omega
            have gy : ¬ cy ∈ [w.heap.size, b] := by simp; omega
            have HY := hide HZ.out.stored
            rw [← hZ1] at HY
            have hS4 : Kp [w.heap.size, b] wA Z1 := by rw [hZ1]; exact (hS3.set gx).set gx
            clear e1 HZ
            refine wpAnyH_ready (rs := [12]) (by kernel_rfl) (by simp) ?_
            refine AllReadyH.cons rfl (fun KK hK => ?_) AllReadyH.nil
            go_simp
            rw [← hZ1]
            refine hK.out _ _ hS4 (fun hHeld => ?_)
            clear hK KK hZ1 zx0 zx1 zxf hHeld
            refine wpAnyH_ready (rs := [13]) (by kernel_rfl) (by simp) ?_
            refine AllReadyH.cons rfl (fun KK hK => ?_) AllReadyH.nil
            go_simp
            refine hK.out _ _ (((((hS4.set gy).set gy).set gy).set gy).set gy) (fun hHeld => ?_)
            clear hK KK hHeld
            refine wpAnyH_ready (rs := [14]) (by kernel_rfl) (by simp) ?_
            refine AllReadyH.cons rfl (fun KK hK => ?_) AllReadyH.nil
            go_simp
            refine hK.out _ _ (((((hS4.set gy).set gy).set gy).set gy).set gy) (fun hHeld => ?_)
            clear hK KK hHeld
            refine wpAnyH_done (by kernel_rfl) ?_ _
            go_wp2_with fail
            go_meet
            case rel => exact ⟨bx, cy, x', ka', cap', k', pa', pc', rfl, rfl, rfl, HY⟩
      case rest =>
        obtain ⟨bx, cy, x', ka', cap', k', pa', pc', rfl, rfl, rfl, hY⟩ := hcut
        obtain ⟨Z, hZ⟩ : ∃ Z, Z = wc := ⟨_, rfl⟩
        subst hZ
        have zZ := hY.out.below.size
        have lx := hY.out.lx
        have ly := hY.out.ly
        clear x0 x1 x2 x3 x4 q00 q01 HDO
        by_cases h0 : R.1 = 0
        · have eb : Z.heap[w.heap.size]? = some (Obj.cells #[.string x, .slice ka (flen kk) cap] 24) := (hY.out.below.block _ (by omega)).trans hI.out.box
          have t0 : Z.cell? ⟨bx, 0, none⟩ = some (.string x') := by rw [cell_of_row _ _ 0 _ _ _ hY.out.hx]; rfl
          have t1 : Z.cell? ⟨bx, 1, none⟩ = some (.slice ka' (flen k') cap') := by rw [cell_of_row _ _ 1 _ _ _ hY.out.hx]; rfl
          have u0 : Z.cell? ⟨w.heap.size, 0, none⟩ = some (.string x) := by rw [cell_of_row _ _ 0 _ _ _ eb]; rfl
          have u1 : Z.cell? ⟨w.heap.size, 1, none⟩ = some (.slice ka (flen kk) cap) := by rw [cell_of_row _ _ 1 _ _ _ eb]; rfl
          have uf : ∀ o, Z.frozen? ⟨w.heap.size, o, none⟩ = false := fun o => by simp [World.frozen?, eb]
          obtain ⟨Z1, hZ1⟩ : ∃ Z1, Z1 = (Z.setCell ⟨w.heap.size, 0, none⟩ (.string x')).setCell ⟨w.heap.size, 1, none⟩ (.slice ka' (flen k') cap') := ⟨_, rfl⟩
          have e1 : Z1.heap[cy]? = _ := (show Z1.heap[cy]? = Z.heap[cy]? by rw [hZ1]; exact box2_off (by omega)).trans hY.out.hy
          have y0 : Z1.cell? ⟨cy, 0, none⟩ = some (.int .i64 R.2.2.kind) := by rw [cell_of_row _ _ 0 _ _ _ e1]; rfl
          have y1 : Z1.cell? ⟨cy, 1, none⟩ = some (.slice pa' R.2.2.path.length pc') := by rw [cell_of_row _ _ 1 _ _ _ e1]; rfl
          have y2 : Z1.cell? ⟨cy, 2, none⟩ = some (.int .i64 R.2.2.pos) := by rw [cell_of_row _ _ 2 _ _ _ e1]; rfl
          have y3 : Z1.cell? ⟨cy, 3, none⟩ = some (.int .i64 R.2.2.many) := by rw [cell_of_row _ _ 3 _ _ _ e1]; rfl
          have y4 : Z1.cell? ⟨cy, 4, none⟩ = some (.string R.2.2.lab) := by rw [cell_of_row _ _ 4 _ _ _ e1]; rfl
          have hds : DsIn Z1 va A := by rw [hZ1]; exact (hI.out.ds.below hY.out.below).tbox eb
          have hdi : DIn Z1 R.2.2 pa' pc' := by rw [hZ1]; exact hY.out.din.tbox eb
          obtain ⟨va', vc', w4, hr, hds4, hc1, hc2, hb4⟩ := front (n := i) (vc := vc) hds hI.out.len.symm (R.2.2, pa', pc') hdi (by have := hI.out.len; omega)
          have hfin := hI.out.step HYD.out HRE.out h0 hY.out (w4 := w4) (by rw [← hZ1]; exact hb4) hds4 hc1 hc2
          have hz1 : Z1.heap.size = Z.heap.size := by rw [hZ1]; simp [World.setCell]
          have g0 : Z.cell? ⟨cy, 0, none⟩ = some (.int .i64 R.2.2.kind) := by rw [cell_of_row _ _ 0 _ _ _ hY.out.hy]; rfl
          have g1 : Z.cell? ⟨cy, 1, none⟩ = some (.slice pa' R.2.2.path.length pc') := by rw [cell_of_row _ _ 1 _ _ _ hY.out.hy]; rfl
          have g2 : Z.cell? ⟨cy, 2, none⟩ = some (.int .i64 R.2.2.pos) := by rw [cell_of_row _ _ 2 _ _ _ hY.out.hy]; rfl
          have g3 : Z.cell? ⟨cy, 3, none⟩ = some (.int .i64 R.2.2.many) := by rw [cell_of_row _ _ 3 _ _ _ hY.out.hy]; rfl
          have g4 : Z.cell? ⟨cy, 4, none⟩ = some (.string R.2.2.lab) := by rw [cell_of_row _ _ 4 _ _ _ hY.out.hy]; rfl
          have hne1 : ¬ cy = w.heap.size := by omega
          have hne2 : ¬ w.heap.size = cy := by omega
          have HFIN := hide hfin
          rw [hz1, hZ1] at hr
          rw [h0]
          clear hfin hds hdi hds4 hc1 hc2 hb4 e1 eb h0 HRE HDW y0 y1 y2 y3 y4 hz1 hZ1
          go_wp2_with (at_builtin; refine Go.Lib.wpList_append_run _ rfl _ _ _ _ rfl _ _ rfl rfl _ _ hr ?_)
          go_roundg (L.length - (i + 1))
          case measure => omega
          case rel => exact ⟨i + 1, x', ka', cap', k', _, va', vc', rfl, by omega, by go_num, rfl, HFIN⟩
        · obtain ⟨c, hc⟩ : ∃ c, c = R.1 := ⟨_, rfl⟩
          have hcb : (c == 0) = false := beq_eq_false_iff_ne.2 (by rw [hc]; exact h0)
          have hcb2 : (c != 0) = true := by simp [bne, hcb]
          have HE := hide (show runP (dds L) s k = ((c, (i : Int)), noT, []) by
            have := runP_stop HFT.out (by rw [dds_len]; exact hl) hI.out.fw (dds_at HYD.out) (by simp only; rw [doP_strip, ← HRE.out]; exact h0)
            simp only [doP_strip, ← HRE.out] at this
            rw [this, hc])
          rw [← hc]
          have HZB := hide hY.out.below
          clear hc h0 hY HRE HDW HYD
          go_wp2_with fail
          refine Calls.mono (refF_any _ _ _) ?_
          rintro e w6 ⟨rfl, hb6⟩
          have bR : Below wA.heap.size wA w6 := HZB.out.trans (hb6.mono zZ)
          have e1 : w6.heap[w.heap.size + 1]? = _ := (bR.block _ (by omega)).trans hI.out.b1
          have e2 : w6.heap[w.heap.size + 1 + 1]? = _ := (bR.block _ (by omega)).trans hI.out.b2
          have q10 : w6.cell? ⟨w.heap.size + 1, 0, none⟩ = some (.string ⟨#[]⟩) := by rw [cell_of_row _ _ 0 _ _ _ e1]; rfl
          have q11 : w6.cell? ⟨w.heap.size + 1, 1, none⟩ = some (.slice none 0 0) := by rw [cell_of_row _ _ 1 _ _ _ e1]; rfl
          have f1 : ∀ o, w6.frozen? ⟨w.heap.size + 1, o, none⟩ = false := fun o => by simp [World.frozen?, e1]
          have f2 : ∀ o, w6.frozen? ⟨w.heap.size + 1 + 1, o, none⟩ = false := fun o => by simp [World.frozen?, e2]
          have q20 : w6.cell? ⟨w.heap.size + 1 + 1, 0, none⟩ = some (.int .i64 0) := by rw [cell_of_row _ _ 0 _ _ _ e2]; rfl
          have q21 : w6.cell? ⟨w.heap.size + 1 + 1, 1, none⟩ = some (.int .i64 0) := by rw [cell_of_row _ _ 1 _ _ _ e2]; rfl
          have HV := hide (hI.out.below.trans (bR.mono (by omega)))
          clear hb6 bR e1 e2 HZB zZ lx ly
          go_wp2_with fail
          rw [HE.out]
          refine bodyPost_ret (v := .tuple #[.agg #[.string ⟨#[]⟩, .slice none 0 0], .slice none 0 0, .agg #[.int .i64 c, .int .i64 (i : Int)]]) (by simp [results, Try.results38, go_sem, *]) rfl (RRunEnd.bad ?_)
          exact (((HV.out.setCell (by simp only; omega) _).setCell (by simp only; omega) _).setCell (by simp only; omega) _).setCell (by simp only; omega) _
    · have hie : i = L.length := by omega
      have HE := hide (show runP (dds L) s k = ((0, 0), (x, strip kk), dds A) by
        have f1 := hI.out.fw
        rw [hie, ← dds_len, List.take_length] at f1
        rw [runP_end HFT.out (by rw [dds_len]; exact hl) f1])
      have e1 := hI.out.b1
      have e2 := hI.out.b2
      have q10 : wA.cell? ⟨w.heap.size + 1, 0, none⟩ = some (.string ⟨#[]⟩) := by rw [cell_of_row _ _ 0 _ _ _ e1]; rfl
      have q11 : wA.cell? ⟨w.heap.size + 1, 1, none⟩ = some (.slice none 0 0) := by rw [cell_of_row _ _ 1 _ _ _ e1]; rfl
      have f1 : ∀ o, wA.frozen? ⟨w.heap.size + 1, o, none⟩ = false := fun o => by simp [World.frozen?, e1]
      have f2 : ∀ o, wA.frozen? ⟨w.heap.size + 1 + 1, o, none⟩ = false := fun o => by simp [World.frozen?, e2]
      have q20 : wA.cell? ⟨w.heap.size + 1 + 1, 0, none⟩ = some (.int .i64 0) := by rw [cell_of_row _ _ 0 _ _ _ e2]; rfl
      have q21 : wA.cell? ⟨w.heap.size + 1 + 1, 1, none⟩ = some (.int .i64 0) := by rw [cell_of_row _ _ 1 _ _ _ e2]; rfl
      clear hie e1 e2
      go_wp2_with fail
      rw [HE.out]
      refine bodyPost_ret (v := .tuple #[.agg #[.string x, .slice ka (flen kk) cap], .slice va i vc, .agg #[.int .i64 0, .int .i64 0]]) (by simp [results, Try.results38, go_sem, *]) rfl ?_
      have hlen := hI.out.len
      have hb := hI.out.below
      obtain ⟨Z1, hZ1⟩ : ∃ Z1, Z1 = (wA.setCell ⟨w.heap.size + 1, 0, none⟩ (.string x)).setCell ⟨w.heap.size + 1, 1, none⟩ (.slice ka (flen kk) cap) := ⟨_, rfl⟩
      have hd1 : DsIn Z1 va A := by rw [hZ1]; exact hI.out.ds.tbox hI.out.b1
      have ht1 : TIn Z1 x ka cap kk := by rw [hZ1]; exact TIn.set (TIn.set hI.out.tin hI.out.o1) hI.out.o1
      have hb1 : Below w.heap.size w Z1 := by rw [hZ1]; exact (hb.setCell (by simp only; omega) _).setCell (by simp only; omega) _
      have e2 : Z1.heap[w.heap.size + 1 + 1]? = some (Obj.cells #[.int .i64 0, .int .i64 0] 57) := by rw [hZ1, box2_off (by omega)]; exact hI.out.b2
      have hsame : (Z1.setCell ⟨w.heap.size + 1 + 1, 0, none⟩ (.int .i64 0)).setCell ⟨w.heap.size + 1 + 1, 1, none⟩ (.int .i64 0) = Z1 := by
        have a0 : Z1.setCell ⟨w.heap.size + 1 + 1, 0, none⟩ (.int .i64 0) = Z1 := setCell_self (bplain_of e2) (by rw [cell_of_row _ _ 0 _ _ _ e2]; rfl)
        rw [a0]
        exact setCell_self (bplain_of e2) (by rw [cell_of_row _ _ 1 _ _ _ e2]; rfl)
      rw [← hZ1, hsame]
      subst hlen
      exact ⟨x, ka, cap, kk, va, vc, A, rfl, rfl, rfl, rfl, ht1, hd1, hv1, by unfold maxLen; omega, hb1⟩

/-- The reference's Run, whatever the tree and the deeds. -/
theorem rrun_any (L : List Pd) (la : Option Addr) (lc : Nat) (s : ByteArray) (ka : Option Addr) (cap : Nat) (k : Fo) (w : World) (ht : TIn w s ka cap k) (hlc : L.length ≤ lc) (hlm : lc ≤ maxLen) (hL : DsIn w la L) (hg : ∀ x, x ∈ L → x.1.path.length ≤ 60 ∧ x.1.many ≤ 9223372036854775807) :
    Calls Try.prog 38 #[.agg #[.string s, .slice ka (flen k) cap], .slice la L.length lc] w (RRunEnd (runP (dds L) s k) w) := by
  by_cases h : faultT s k = 0
  · by_cases hl : L.length ≤ 80
    · exact rrun_good L la lc s ka cap k w ht h hl hlc hlm hL hg
    · exact rrun_many L la lc s ka cap k w ht h (by omega) hlc hlm
  · exact rrun_bad L la lc s ka cap k w ht h
end Go.Proofs.Ytcknganggcbkjab.Deed
