/- tree.walk with the closure of tree.Check meets all nodes of a tree, each ahead of all beneath it, till more than forty have been met. Of the program's text. -/
/- tree.walk with the closure of tree.Size meets all nodes of a tree. Of the program's text. -/
/- tree.Size of a tree tells how many nodes it has. Of the program's text. -/
import Derived.Test.YtcknganggcbkjabProg
import Derived.Test.YtcknganggcbkjabGS11
import Derived.Deep.RegionHeld3
import Derived.Deep.LoopGhost
import Derived.BigQuiet
import Derived.WalkSmall
import Derived.Test.YtcknganggcbkjabGS03
namespace Go.Proofs.Ytcknganggcbkjab
open Go.Deep Go.RowKit
set_option linter.unusedVariables false
set_option maxRecDepth 20000

theorem Try.infoStep : (Try.prog.info? 118).map (fun i => (i.zero, i.size, i.bytes)) = some (some (.agg #[.slice none 0 0, .int .i64 0]), 2, 32) := by kernel_rfl

def runN : Nt → List (ByteArray × Nat) → Nt × Bool
  | σ, [] => (σ, true)
  | σ, x :: l => if (ntStep σ x).1 ≤ 40 then runN (ntStep σ x) l else (ntStep σ x, false)

theorem CSt.keeps {a b c : Nat} {w w' : World} {σ : Nt} (h : CSt (a, b, c) w σ) {B : Nat} (hB : B ≤ w.heap.size) (hC : a < B ∧ b < B ∧ c < B) (hb : Below B w w') : CSt (a, b, c) w' σ :=
  ⟨by rw [hb.cell hC.1]; exact h.c1, by rw [hb.cell hC.2.1]; exact h.c2, by rw [hb.cell hC.2.2]; exact h.c3, by rw [hb.frozen hC.1]; exact h.f1, by rw [hb.frozen hC.2.1]; exact h.f2, by rw [hb.frozen hC.2.2]; exact h.f3, h.n12, h.n13, h.n23, h.lo1, h.lo2⟩

set_option maxHeartbeats 1600000 in
theorem walkC_any (a b c : Nat) (s : ByteArray) (ka : Option Addr) (cap : Nat) (k : Fo) (w : World) (ht : TIn w s ka cap k) (hp : FPlain w k) (hn : 1 + fnodes k ≤ 5000) (hh : fhigh k ≤ 199) (hoff : ∀ x, x ∈ [a, b, c] → FOff x k) (hst : CSt (a, b, c) w (0, 0, true)) :
    Calls Try.prog 65 #[.agg #[.string s, .slice ka (flen k) cap], .func (.func 67) #[] #[.pointer (some ⟨a, 0, none⟩), .pointer (some ⟨b, 0, none⟩), .pointer (some ⟨c, 0, none⟩)]] w fun e w' =>
      ∃ (σ : Nt) (r : Bool), e = .returned (.bool r) ∧ runN (0, 0, true) ((s, 0) :: pre k 1) = (σ, r) ∧ CSt (a, b, c) w' σ ∧ Keeps [a, b, c] w w' := by
  obtain ⟨w1, hw1⟩ : ∃ w1, w1 = (w.alloc (Obj.cells #[Value.string s, Value.slice ka (flen k) cap] 24)).alloc (Obj.cells #[Value.string s, Value.slice ka (flen k) cap] 24) := ⟨_, rfl⟩
  have hw1b : Below w.heap.size w w1 := by rw [hw1]; exact ((Below.refl _ _).alloc (Nat.le_refl _) _).alloc (by simp) _
  have hw1s : w.heap.size + 2 ≤ w1.heap.size := by rw [hw1]; simp
  have la : a < w.heap.size := World.block_lt_of_cell? _ _ hst.c1
  have lb : b < w.heap.size := World.block_lt_of_cell? _ _ hst.c2
  have lc : c < w.heap.size := World.block_lt_of_cell? _ _ hst.c3
  have hCl0 : ∀ x, x ∈ [a, b, c] → x < w.heap.size := fun x hx => by simp at hx; omega
  have hCl : ∀ x, x ∈ [a, b, c] → x < w1.heap.size := fun x hx => by simp at hx; omega
  obtain ⟨i53, hi53, hy0, hy1, hy2⟩ := info_parts Try.infoStep
  have hstart : WInv [a, b, c] 118 200 w1 (w1.alloc (Obj.cells #[Value.slice (some ⟨w.heap.size + 1, 0, none⟩) 1 1, Value.int IntKind.i64 0] 118)) (Value.slice (some ⟨w.heap.size + 1 + 1, 0, none⟩) 1 1) [(⟨w.heap.size + 1, 0, none⟩, 1, 0, .node (w.heap.size + 1) 0 (s, ka, cap) k .nil)] := by
    have hroot : FIn w1 (.node (w.heap.size + 1) 0 (s, ka, cap) k .nil) (w.heap.size + 1) 0 := by
      have hk1 := ht.kids.below hw1b
      refine ⟨rfl, rfl, ?_, ?_, ht.size, ht.len, ht.cap, hk1, trivial⟩
      · rw [hw1]; go_simp
      · rw [hw1]; go_simp
    have hpl0 : BPlain w1 (w.heap.size + 1) := by
      refine ⟨#[Value.string s, Value.slice ka (flen k) cap], 24, ?_⟩
      rw [hw1, show w.heap.size + 1 = (w.alloc (Obj.cells #[Value.string s, Value.slice ka (flen k) cap] 24)).heap.size by simp]
      exact heap_alloc_new _ _
    refine ⟨fun f hf => ?_, fun i j f g hij hf hg => ?_, ?_, Keeps.of_below ((Below.refl _ _).alloc (Nat.le_refl _) _)⟩
    · have : f = (⟨w.heap.size + 1, 0, none⟩, 1, 0, .node (w.heap.size + 1) 0 (s, ka, cap) k .nil) := by simpa using hf
      subst this
      refine ⟨⟨rfl, by simp [flen], by simp [flen], by simp [maxLen], Nat.zero_le _, hroot, ⟨hpl0, hp.below hw1b, trivial⟩, fun c hc => ⟨by have := hCl0 c hc; omega, hoff c hc, trivial⟩⟩, ?_⟩
      simp [fhigh]
      omega
    · have h1 := (List.getElem?_eq_some_iff.1 hg).1
      simp at h1
      omega
    · have hn2 : w1.heap.size = w.heap.size + 1 + 1 := by rw [hw1]; simp
      refine ⟨by simp [wayCells, stCells, frSt], Or.inr ⟨w.heap.size + 1 + 1, 1, #[Value.slice (some ⟨w.heap.size + 1, 0, none⟩) 1 1, Value.int IntKind.i64 0], rfl, by omega, ?_, by simp, by simp [maxLen], rfl, by simp [wayCells, stCells, frSt, flen]⟩⟩
      rw [← hn2]
      exact heap_alloc_new _ _
  go_enter Try.func65, Try.ntmps65
  go_wp2_with fail
  rw [← hw1]
  clear hw1
  go_loopg [5] (2 * (1 + fnodes k) + 1) (fun gk v wr => ∃ (fs : List Fr) (σ : Nt), gk = 2 * (remF fs 0).length + fs.length ∧ WInv [a, b, c] 118 200 w1 wr v fs ∧ CSt (a, b, c) wr σ ∧ Hid (runN (0, 0, true) ((s, 0) :: pre k 1) = runN σ (remF fs 0)) ∧ σ.1 + (remF fs 0).length ≤ 5000 ∧ σ.2.1 ≤ 200)
  case atStart =>
    refine ⟨_, (0, 0, true), ?_, hstart, hst.keeps (B := w.heap.size) (Nat.le_refl _) ⟨la, lb, lc⟩ (hw1b.alloc (by omega) _), ?_, ?_, by decide⟩
    · simp [remF, fdrop, pre, pre_length]; omega
    · show _ = _
      simp [remF, fdrop, pre]
    · simp [remF, fdrop, pre, pre_length]; omega
  case round =>
    obtain ⟨fs, σ, hgk, hI, hσ, hrun, hb1, hb2⟩ := hrel
    rcases List.eq_nil_or_concat fs with hfs | ⟨fs0, t, hfs⟩
    · subst hfs
      have hrow := hI.row.2
      simp only [List.length_nil] at hrow
      rcases hrow with ⟨rfl, _⟩ | ⟨g, cap2, cur, rfl, _⟩
      · go_wp2_with fail
        go_ret
        exact ⟨σ, true, rfl, hrun.out, hσ, (Keeps.of_below hw1b).trans hI.keeps⟩
      · go_wp2_with fail
        go_ret
        exact ⟨σ, true, rfl, hrun.out, hσ, (Keeps.of_below hw1b).trans hI.keeps⟩
    · rw [List.concat_eq_append] at hfs
      subst hfs
      obtain ⟨A, cp, j, F⟩ := t
      have hrow := hI.row
      simp only [List.length_append, List.length_cons, List.length_nil] at hrow
      obtain ⟨g, cap2, cur, rfl, hg1, hg2, hg3, hg4, hg5, hg6, hg7⟩ := own_form hrow (by omega)
      have hlen := hI.len
      simp only [List.length_append, List.length_cons, List.length_nil] at hlen
      obtain ⟨⟨hsp, hpos, hfl, hfc, hnx, hlies, hpl, hfo⟩, hhi⟩ := hI.each (A, cp, j, F) (by simp)
      obtain ⟨Ab, Ao, As⟩ := A
      simp only at hsp hpos hfl hfc hnx hlies hpl hfo hhi
      subst hsp
      have hat := wayCells_at ((fs0 ++ [((⟨Ab, Ao, none⟩ : Addr), cp, j, F)]).map frSt) fs0.length (frSt (⟨Ab, Ao, none⟩, cp, j, F)) (by simp)
      have hcK : wr.cell? ⟨g, fs0.length * 2, none⟩ = some (.slice (some ⟨Ab, Ao, none⟩) (flen F) cp) := by simpa [frSt] using ownsRow_cell hrow _ _ hat.1
      have hcJ : wr.cell? ⟨g, fs0.length * 2 + 1, none⟩ = some (.int .i64 j) := by simpa [frSt] using ownsRow_cell hrow _ _ hat.2
      have hfz : ∀ o, wr.frozen? ⟨g, o, none⟩ = false := fun o => by simp [World.frozen?, hg3]
      unfold maxLen at hg5 hfc
      have HI := hide hI
      have HG := hide hgk
      clear hI hgk hat hrow hg7 hg6
      by_cases hj : j = flen F
      · have hjb : ((j : Int) == (flen F : Int)) = true := by rw [hj]; simp
        have hsl : ∀ wx, (Instr.slice 119 (.slice (some ⟨g, 0, none⟩) (fs0.length + 1) cap2) none (some (.int .i64 (fs0.length : Int))) none).run Try.prog wx = .ok (.slice (some ⟨g, 0, none⟩) fs0.length cap2) wx := fun wx => by
          rw [run_slice_h wx 119 _ _ _ Try.underlying119 .i64 _ (by omega) (by omega)]
          simp [go_sem, sliced, Addr.add]
        have HJ := hide hj
        clear hj
        go_wp2_with fail
        go_quiet (fail)
        go_wp2_with fail
        have hrem := rem_pop (fs := fs0) (A := ⟨Ab, Ao, none⟩) (cp := cp) HJ.out
        rw [hrem] at hrun hb1
        go_roundg (2 * (remF fs0 0).length + fs0.length)
        case measure => have := HG.out; rw [hrem] at this; simp at this; omega
        case rel => exact ⟨fs0, σ, rfl, HI.out.pop (below_drewN (Below.refl _ _) _), hσ.keeps (B := w.heap.size) (by have := HI.out.keeps.size; omega) ⟨la, lb, lc⟩ (below_drewN (Below.refl _ _) _), hrun, hb1, hb2⟩
      · have hjb : ((j : Int) == (flen F : Int)) = false := beq_eq_false_iff_ne.2 (by omega)
        have hlr := FIn.keeps HI.out.keeps hfo hlies
        obtain ⟨b', o', x, kk, he, hc0, hc1, htin, hbb⟩ := hlr.at (show j < flen F by omega)
        have HR := hide (rem_next (fs := fs0) (A := ⟨Ab, Ao, none⟩) (cp := cp) he)
        have HE := hide he
        clear he
        have hAne : g ≠ Ab := by have := hlies.at (show j < flen F by omega); obtain ⟨_, _, _, _, _, _, _, _, h⟩ := this; omega
        have hjlt : j < flen F := by omega
        have hib : (fs0.length : Int) < (fs0.length : Int) + 1 := by omega
        have hg' : g < wr.heap.size := hg2
        go_wp2_with fail
        go_region_held3 (fun w' => w'.cell? ⟨g, fs0.length * 2, none⟩ = some (.slice (some ⟨Ab, Ao, none⟩) (flen F) cp) ∧ w'.cell? ⟨g, fs0.length * 2 + 1, none⟩ = some (.int .i64 j))
          (first | go_keep | (refine ⟨?_, ?_⟩ <;> go_simp))
          (fail)
        go_wp2_with fail
        go_region_held3 (fun w' => w'.cell? ⟨g, fs0.length * 2, none⟩ = some (.slice (some ⟨Ab, Ao, none⟩) (flen F) cp) ∧ w'.cell? ⟨g, fs0.length * 2 + 1, none⟩ = some (.int .i64 j) ∧ w'.cell? ⟨Ab, Ao + j * 2, none⟩ = some (.string x.1) ∧ w'.cell? ⟨Ab, Ao + j * 2 + 1, none⟩ = some (.slice x.2.1 (flen kk) x.2.2))
          (first | go_keep | (refine ⟨?_, ?_, ?_, ?_⟩ <;> go_simp))
          (fail)
        go_wp2_with fail
        have hbW : Below w1.heap.size wr ((wr.setCell ⟨g, fs0.length * 2 + 1, none⟩ (.int .i64 ((j : Int) + 1))).alloc (Obj.cells #[.string x.1, .slice x.2.1 (flen kk) x.2.2] 24)).drew.drew :=
          ((((Below.refl _ _).setCell hg1 _).alloc (by simp [World.setCell]; exact HI.out.keeps.size) _).drew).drew
        have hI2 := HI.out.next hjlt (((Below.refl _ _).alloc (Nat.le_refl _) (Obj.cells #[.string x.1, .slice x.2.1 (flen kk) x.2.2] 24)).drew).drew
        have hz1 := HI.out.keeps.size
        have hlen1 := congrArg List.length HR.out
        simp only [List.length_cons, List.length_append] at hlen1
        refine (checkLook_any a b c σ x.1 x.2.1 (flen kk) x.2.2 fs0.length _ (hσ.keeps (B := w.heap.size) (by omega) ⟨la, lb, lc⟩ (hbW.mono (by omega))) htin.size (by omega) (by omega) (by omega)).mono ?_
        rintro e w2 ⟨rfl, hσ2, hk2⟩
        have hI3 := hI2.on hk2 hCl
        have hbx : w2.cell? ⟨wr.heap.size, 1, none⟩ = some (.slice x.2.1 (flen kk) x.2.2) := by
          (rw [hk2.cell (by simp [World.setCell]) (by simp; omega)]; go_simp)
        clear hI2
        have hrun' := hrun.out
        rw [HR.out] at hrun' hb1
        simp only [List.length_cons, List.length_append] at hb1
        by_cases h40 : σ.1 + 1 ≤ 40
        · have hd40 : decide (σ.1 + 1 ≤ 40) = true := decide_eq_true h40
          have HRUN := hide (show runN (0, 0, true) ((s, 0) :: pre k 1) = runN (ntStep σ (x.1, fs0.length)) (pre kk (fs0.length + 1) ++ remF (fs0 ++ [(⟨Ab, Ao, none⟩, cp, j + 1, F)]) 0) by rw [hrun', runN, if_pos (show (ntStep σ (x.1, fs0.length)).1 ≤ 40 from h40)])
          have HI3 := hide hI3
          clear hrun hrun' hI3
          by_cases hkk : flen kk = 0
          · have hkb : ((flen kk : Int) == 0) = true := beq_iff_eq.2 (by omega)
            have hkn : kk = .nil := by cases kk with | nil => rfl | node _ _ _ _ _ => simp [flen] at hkk
            go_wp2_with fail
            go_roundg (2 * (remF (fs0 ++ [((⟨Ab, Ao, none⟩ : Addr), cp, j + 1, F)]) 0).length + (fs0.length + 1))
            case measure => have := HG.out; simp only [List.length_append, List.length_cons, List.length_nil] at this; omega
            case rel =>
              refine ⟨_, _, by simp, HI3.out, hσ2, ?_, ?_, ?_⟩
              · have := HRUN.out
                rw [hkn] at this
                exact this
              · simp only [ntStep]; omega
              · simp only [ntStep]; omega
          · have hkb : ((flen kk : Int) == 0) = false := beq_eq_false_iff_ne.2 (by omega)
            rcases htin.kids with hkn | ⟨kb, ko, hx, hkin⟩
            · rw [hkn] at hkk; simp [flen] at hkk
            rw [hx] at hbx
            have hrow3 := HI3.out.row
            simp only [List.length_append, List.length_cons, List.length_nil] at hrow3
            have hz3 := HI3.out.keeps.size
            go_wp2_with (at_builtin; refine wpList_append_lies _ rfl (.tmp 62) (.tmp 66) 119 rfl w1.heap.size 118 i53 _ 2 32 Try.underlying119 hi53 hy0 hy1 hy2 rfl (by decide) _ (fs0.length + 1) _ rfl (ownsRow_below hrow3 ((Below.refl _ _).alloc (Nat.le_refl _) _)) ⟨w2.heap.size, 0, none⟩ 1 1 (stCells (⟨kb, ko, none⟩, flen kk, x.2.2, 0)) rfl rfl (way_news w2 118 ⟨kb, ko, none⟩ (flen kk) x.2.2) (way_one _) (by decide) (by unfold maxLen; omega) (by omega) (by simp; omega) (w2.heap.size + 1) (by simp) ?_)
            intro g2 cap3 w3 hown hgrow hat hlt3
            have hI4 := HI3.out.push HE.out hx (by omega) (by simpa only [List.map_append, List.map_cons, List.map_nil] using hown) hgrow (Below.refl _ _)
            have hlen4 := hI4.len
            simp only [List.length_append, List.length_cons, List.length_nil] at hlen4
            have hbW3 : Below w1.heap.size w2 w3 := ((Below.refl _ _).alloc hz3 _).grown hgrow (by simp; omega) fun q hq => (ownBlock_lt hrow3 hq).1
            have hσ3 := hσ2.keeps (B := w.heap.size) (by omega) ⟨la, lb, lc⟩ (hbW3.mono (by omega))
            have HI4 := hide hI4
            clear hI4 hgrow hat
            go_wp2_with fail
            refine (HI4.out.back (by decide) (by simp) (by omega)).mono ?_
            rintro e w4 ⟨rfl, hb4⟩
            have HI5 := hide (HI4.out.on (Keeps.of_below hb4) hCl)
            have hσ4 := hσ3.keeps (B := w.heap.size) (by have := hbW3.size; omega) ⟨la, lb, lc⟩ (hb4.mono (by have := hbW3.size; omega))
            go_wp2_with fail
            go_roundg (2 * (remF (fs0 ++ [((⟨Ab, Ao, none⟩ : Addr), cp, j + 1, F)] ++ [((⟨kb, ko, none⟩ : Addr), x.2.2, 0, kk)]) 0).length + (fs0.length + 1 + 1))
            case measure =>
              rw [rem_push]
              have := HG.out
              simp only [List.length_append, List.length_cons, List.length_nil] at this ⊢
              omega
            case rel =>
              refine ⟨_, _, by simp, HI5.out, hσ4, ?_, ?_, ?_⟩
              · have := HRUN.out
                rw [← rem_push] at this
                exact this
              · rw [rem_push]; simp only [ntStep, List.length_append]; omega
              · simp only [ntStep]; omega
        · have hd40 : decide (σ.1 + 1 ≤ 40) = false := decide_eq_false h40
          have HRUN := hide (show runN (0, 0, true) ((s, 0) :: pre k 1) = (ntStep σ (x.1, fs0.length), false) by rw [hrun', runN, if_neg (show ¬ (ntStep σ (x.1, fs0.length)).1 ≤ 40 from h40)])
          clear hrun hrun'
          go_wp2_with fail
          go_ret
          exact ⟨_, false, rfl, HRUN.out, hσ2, (Keeps.of_below hw1b).trans hI3.keeps⟩
end Go.Proofs.Ytcknganggcbkjab
namespace Go.Proofs.Ytcknganggcbkjab
open Go.Deep Go.RowKit
set_option linter.unusedVariables false
set_option maxRecDepth 20000

structure SSt (a : Nat) (w : World) (n : Int) : Prop where
  c1 : w.cell? ⟨a, 0, none⟩ = some (.int .i64 n)
  f1 : w.frozen? ⟨a, 0, none⟩ = false
  lo1 : 0 ≤ n

set_option maxHeartbeats 400000 in
theorem sizeLook_any (a : Nat) (n : Int) (s : ByteArray) (ka : Option Addr) (l cap d : Nat) (w : World) (h : SSt a w n) (hs : s.size ≤ maxLen) (h1 : n ≤ 100000) :
    Calls Try.prog 66 #[.agg #[.string s, .slice ka l cap], .int .i64 (d : Int), .pointer (some ⟨a, 0, none⟩)] w fun e w' =>
      e = .returned (.bool true) ∧ SSt a w' (n + 1) ∧ Keeps [a] w w' := by
  obtain ⟨g1, f1, lo1⟩ := h
  have la : a < w.heap.size := World.block_lt_of_cell? _ _ g1
  go_enter Try.func66, Try.ntmps66
  go_wp2_with fail
  go_ret
  refine ⟨rfl, ⟨?_, ?_, by omega⟩, ⟨rfl, rfl, rfl, by simp [World.setCell], fun x hx hn => ?_⟩⟩
  · go_simp
  · go_simp
  · have : x ≠ a := by simpa using hn
    rw [Below.heap_alloc _ _ _ (by simpa [World.setCell] using hx), Below.heap_setCell _ _ _ _ this]

theorem SSt.keeps {a : Nat} {w w' : World} {n : Int} (h : SSt a w n) {B : Nat} (hB : B ≤ w.heap.size) (hC : a < B) (hb : Below B w w') : SSt a w' n :=
  ⟨by rw [hb.cell hC]; exact h.c1, by rw [hb.frozen hC]; exact h.f1, h.lo1⟩

set_option maxHeartbeats 1600000 in
theorem walkS_any (a : Nat) (s : ByteArray) (ka : Option Addr) (cap : Nat) (k : Fo) (w : World) (ht : TIn w s ka cap k) (hp : FPlain w k) (hn : 1 + fnodes k ≤ 200) (hoff : ∀ x, x ∈ [a] → FOff x k) (hst : SSt a w 0) :
    Calls Try.prog 65 #[.agg #[.string s, .slice ka (flen k) cap], .func (.func 66) #[] #[.pointer (some ⟨a, 0, none⟩)]] w fun e w' =>
      e = .returned (.bool true) ∧ SSt a w' (1 + (fnodes k : Int)) ∧ Keeps [a] w w' := by
  obtain ⟨w1, hw1⟩ : ∃ w1, w1 = (w.alloc (Obj.cells #[Value.string s, Value.slice ka (flen k) cap] 24)).alloc (Obj.cells #[Value.string s, Value.slice ka (flen k) cap] 24) := ⟨_, rfl⟩
  have hw1b : Below w.heap.size w w1 := by rw [hw1]; exact ((Below.refl _ _).alloc (Nat.le_refl _) _).alloc (by simp) _
  have hw1s : w.heap.size + 2 ≤ w1.heap.size := by rw [hw1]; simp
  have la : a < w.heap.size := World.block_lt_of_cell? _ _ hst.c1
  have hCl0 : ∀ x, x ∈ [a] → x < w.heap.size := fun x hx => by simp at hx; omega
  have hCl : ∀ x, x ∈ [a] → x < w1.heap.size := fun x hx => by simp at hx; omega
  obtain ⟨i53, hi53, hy0, hy1, hy2⟩ := info_parts Try.infoStep
  have hstart : WInv [a] 118 200 w1 (w1.alloc (Obj.cells #[Value.slice (some ⟨w.heap.size + 1, 0, none⟩) 1 1, Value.int IntKind.i64 0] 118)) (Value.slice (some ⟨w.heap.size + 1 + 1, 0, none⟩) 1 1) [(⟨w.heap.size + 1, 0, none⟩, 1, 0, .node (w.heap.size + 1) 0 (s, ka, cap) k .nil)] := by
    have hroot : FIn w1 (.node (w.heap.size + 1) 0 (s, ka, cap) k .nil) (w.heap.size + 1) 0 := by
      have hk1 := ht.kids.below hw1b
      refine ⟨rfl, rfl, ?_, ?_, ht.size, ht.len, ht.cap, hk1, trivial⟩
      · rw [hw1]; go_simp
      · rw [hw1]; go_simp
    have hpl0 : BPlain w1 (w.heap.size + 1) := by
      refine ⟨#[Value.string s, Value.slice ka (flen k) cap], 24, ?_⟩
      rw [hw1, show w.heap.size + 1 = (w.alloc (Obj.cells #[Value.string s, Value.slice ka (flen k) cap] 24)).heap.size by simp]
      exact heap_alloc_new _ _
    refine ⟨fun f hf => ?_, fun i j f g hij hf hg => ?_, ?_, Keeps.of_below ((Below.refl _ _).alloc (Nat.le_refl _) _)⟩
    · have : f = (⟨w.heap.size + 1, 0, none⟩, 1, 0, .node (w.heap.size + 1) 0 (s, ka, cap) k .nil) := by simpa using hf
      subst this
      refine ⟨⟨rfl, by simp [flen], by simp [flen], by simp [maxLen], Nat.zero_le _, hroot, ⟨hpl0, hp.below hw1b, trivial⟩, fun c hc => ⟨by have := hCl0 c hc; omega, hoff c hc, trivial⟩⟩, ?_⟩
      have := fhigh_le_nodes k
      simp [fhigh]
      omega
    · have h1 := (List.getElem?_eq_some_iff.1 hg).1
      simp at h1
      omega
    · have hn2 : w1.heap.size = w.heap.size + 1 + 1 := by rw [hw1]; simp
      refine ⟨by simp [wayCells, stCells, frSt], Or.inr ⟨w.heap.size + 1 + 1, 1, #[Value.slice (some ⟨w.heap.size + 1, 0, none⟩) 1 1, Value.int IntKind.i64 0], rfl, by omega, ?_, by simp, by simp [maxLen], rfl, by simp [wayCells, stCells, frSt, flen]⟩⟩
      rw [← hn2]
      exact heap_alloc_new _ _
  go_enter Try.func65, Try.ntmps65
  go_wp2_with fail
  rw [← hw1]
  clear hw1
  go_loopg [5] (2 * (1 + fnodes k) + 1) (fun gk v wr => ∃ (fs : List Fr) (σ : Int), gk = 2 * (remF fs 0).length + fs.length ∧ WInv [a] 118 200 w1 wr v fs ∧ SSt a wr σ ∧ Hid (1 + (fnodes k : Int) = σ + (remF fs 0).length))
  case atStart =>
    refine ⟨_, 0, ?_, hstart, hst.keeps (B := w.heap.size) (Nat.le_refl _) la (hw1b.alloc (by omega) _), ?_⟩
    · simp [remF, fdrop, pre, pre_length]; omega
    · show _ = _
      simp [remF, fdrop, pre, pre_length]; omega
  case round =>
    obtain ⟨fs, σ, hgk, hI, hσ, hrun⟩ := hrel
    rcases List.eq_nil_or_concat fs with hfs | ⟨fs0, t, hfs⟩
    · subst hfs
      have hrow := hI.row.2
      simp only [List.length_nil] at hrow
      rcases hrow with ⟨rfl, _⟩ | ⟨g, cap2, cur, rfl, _⟩
      · go_wp2_with fail
        go_ret
        have hr := hrun.out
        simp [remF] at hr
        exact ⟨rfl, by rw [hr]; exact hσ, (Keeps.of_below hw1b).trans hI.keeps⟩
      · go_wp2_with fail
        go_ret
        have hr := hrun.out
        simp [remF] at hr
        exact ⟨rfl, by rw [hr]; exact hσ, (Keeps.of_below hw1b).trans hI.keeps⟩
    · rw [List.concat_eq_append] at hfs
      subst hfs
      obtain ⟨A, cp, j, F⟩ := t
      have hrow := hI.row
      simp only [List.length_append, List.length_cons, List.length_nil] at hrow
      obtain ⟨g, cap2, cur, rfl, hg1, hg2, hg3, hg4, hg5, hg6, hg7⟩ := own_form hrow (by omega)
      have hlen := hI.len
      simp only [List.length_append, List.length_cons, List.length_nil] at hlen
      obtain ⟨⟨hsp, hpos, hfl, hfc, hnx, hlies, hpl, hfo⟩, hhi⟩ := hI.each (A, cp, j, F) (by simp)
      obtain ⟨Ab, Ao, As⟩ := A
      simp only at hsp hpos hfl hfc hnx hlies hpl hfo hhi
      subst hsp
      have hat := wayCells_at ((fs0 ++ [((⟨Ab, Ao, none⟩ : Addr), cp, j, F)]).map frSt) fs0.length (frSt (⟨Ab, Ao, none⟩, cp, j, F)) (by simp)
      have hcK : wr.cell? ⟨g, fs0.length * 2, none⟩ = some (.slice (some ⟨Ab, Ao, none⟩) (flen F) cp) := by simpa [frSt] using ownsRow_cell hrow _ _ hat.1
      have hcJ : wr.cell? ⟨g, fs0.length * 2 + 1, none⟩ = some (.int .i64 j) := by simpa [frSt] using ownsRow_cell hrow _ _ hat.2
      have hfz : ∀ o, wr.frozen? ⟨g, o, none⟩ = false := fun o => by simp [World.frozen?, hg3]
      unfold maxLen at hg5 hfc
      have HI := hide hI
      have HG := hide hgk
      clear hI hgk hat hrow hg7 hg6
      by_cases hj : j = flen F
      · have hjb : ((j : Int) == (flen F : Int)) = true := by rw [hj]; simp
        have hsl : ∀ wx, (Instr.slice 119 (.slice (some ⟨g, 0, none⟩) (fs0.length + 1) cap2) none (some (.int .i64 (fs0.length : Int))) none).run Try.prog wx = .ok (.slice (some ⟨g, 0, none⟩) fs0.length cap2) wx := fun wx => by
          rw [run_slice_h wx 119 _ _ _ Try.underlying119 .i64 _ (by omega) (by omega)]
          simp [go_sem, sliced, Addr.add]
        have HJ := hide hj
        clear hj
        go_wp2_with fail
        go_quiet (fail)
        go_wp2_with fail
        have hrem := rem_pop (fs := fs0) (A := ⟨Ab, Ao, none⟩) (cp := cp) HJ.out
        rw [hrem] at hrun
        go_roundg (2 * (remF fs0 0).length + fs0.length)
        case measure => have := HG.out; rw [hrem] at this; simp at this; omega
        case rel => exact ⟨fs0, σ, rfl, HI.out.pop (below_drewN (Below.refl _ _) _), hσ.keeps (B := w.heap.size) (by have := HI.out.keeps.size; omega) la (below_drewN (Below.refl _ _) _), hrun⟩
      · have hjb : ((j : Int) == (flen F : Int)) = false := beq_eq_false_iff_ne.2 (by omega)
        have hlr := FIn.keeps HI.out.keeps hfo hlies
        obtain ⟨b', o', x, kk, he, hc0, hc1, htin, hbb⟩ := hlr.at (show j < flen F by omega)
        have HR := hide (rem_next (fs := fs0) (A := ⟨Ab, Ao, none⟩) (cp := cp) he)
        have HE := hide he
        clear he
        have hAne : g ≠ Ab := by have := hlies.at (show j < flen F by omega); obtain ⟨_, _, _, _, _, _, _, _, h⟩ := this; omega
        have hjlt : j < flen F := by omega
        have hib : (fs0.length : Int) < (fs0.length : Int) + 1 := by omega
        have hg' : g < wr.heap.size := hg2
        go_wp2_with fail
        go_region_held3 (fun w' => w'.cell? ⟨g, fs0.length * 2, none⟩ = some (.slice (some ⟨Ab, Ao, none⟩) (flen F) cp) ∧ w'.cell? ⟨g, fs0.length * 2 + 1, none⟩ = some (.int .i64 j))
          (first | go_keep | (refine ⟨?_, ?_⟩ <;> go_simp))
          (fail)
        go_wp2_with fail
        go_region_held3 (fun w' => w'.cell? ⟨g, fs0.length * 2, none⟩ = some (.slice (some ⟨Ab, Ao, none⟩) (flen F) cp) ∧ w'.cell? ⟨g, fs0.length * 2 + 1, none⟩ = some (.int .i64 j) ∧ w'.cell? ⟨Ab, Ao + j * 2, none⟩ = some (.string x.1) ∧ w'.cell? ⟨Ab, Ao + j * 2 + 1, none⟩ = some (.slice x.2.1 (flen kk) x.2.2))
          (first | go_keep | (refine ⟨?_, ?_, ?_, ?_⟩ <;> go_simp))
          (fail)
        go_wp2_with fail
        have hbW : Below w1.heap.size wr ((wr.setCell ⟨g, fs0.length * 2 + 1, none⟩ (.int .i64 ((j : Int) + 1))).alloc (Obj.cells #[.string x.1, .slice x.2.1 (flen kk) x.2.2] 24)).drew.drew :=
          ((((Below.refl _ _).setCell hg1 _).alloc (by simp [World.setCell]; exact HI.out.keeps.size) _).drew).drew
        have hI2 := HI.out.next hjlt (((Below.refl _ _).alloc (Nat.le_refl _) (Obj.cells #[.string x.1, .slice x.2.1 (flen kk) x.2.2] 24)).drew).drew
        have hz1 := HI.out.keeps.size
        have hlen1 := congrArg List.length HR.out
        simp only [List.length_cons, List.length_append] at hlen1
        have hrun0 := hrun.out
        rw [HR.out] at hrun0
        simp only [List.length_cons, List.length_append] at hrun0
        refine (sizeLook_any a σ x.1 x.2.1 (flen kk) x.2.2 fs0.length _ (hσ.keeps (B := w.heap.size) (by omega) la (hbW.mono (by omega))) htin.size (by omega)).mono ?_
        rintro e w2 ⟨rfl, hσ2, hk2⟩
        have hI3 := hI2.on hk2 hCl
        have hbx : w2.cell? ⟨wr.heap.size, 1, none⟩ = some (.slice x.2.1 (flen kk) x.2.2) := by
          (rw [hk2.cell (by simp [World.setCell]) (by simp; omega)]; go_simp)
        clear hI2
        have HRUN := hide (show 1 + (fnodes k : Int) = (σ + 1) + ((pre kk (fs0.length + 1)).length + (remF (fs0 ++ [((⟨Ab, Ao, none⟩ : Addr), cp, j + 1, F)]) 0).length : Nat) by omega)
        have HI3 := hide hI3
        clear hrun hrun0 hI3
        by_cases hkk : flen kk = 0
        · have hkb : ((flen kk : Int) == 0) = true := beq_iff_eq.2 (by omega)
          have hkn : kk = .nil := by cases kk with | nil => rfl | node _ _ _ _ _ => simp [flen] at hkk
          go_wp2_with fail
          go_roundg (2 * (remF (fs0 ++ [((⟨Ab, Ao, none⟩ : Addr), cp, j + 1, F)]) 0).length + (fs0.length + 1))
          case measure => have := HG.out; simp only [List.length_append, List.length_cons, List.length_nil] at this; omega
          case rel =>
            refine ⟨_, _, by simp, HI3.out, hσ2, ?_⟩
            have := HRUN.out
            rw [hkn] at this
            show _ = _
            simp [pre] at this ⊢
            omega
        · have hkb : ((flen kk : Int) == 0) = false := beq_eq_false_iff_ne.2 (by omega)
          rcases htin.kids with hkn | ⟨kb, ko, hx, hkin⟩
          · rw [hkn] at hkk; simp [flen] at hkk
          rw [hx] at hbx
          have hrow3 := HI3.out.row
          simp only [List.length_append, List.length_cons, List.length_nil] at hrow3
          have hz3 := HI3.out.keeps.size
          go_wp2_with (at_builtin; refine wpList_append_lies _ rfl (.tmp 62) (.tmp 66) 119 rfl w1.heap.size 118 i53 _ 2 32 Try.underlying119 hi53 hy0 hy1 hy2 rfl (by decide) _ (fs0.length + 1) _ rfl (ownsRow_below hrow3 ((Below.refl _ _).alloc (Nat.le_refl _) _)) ⟨w2.heap.size, 0, none⟩ 1 1 (stCells (⟨kb, ko, none⟩, flen kk, x.2.2, 0)) rfl rfl (way_news w2 118 ⟨kb, ko, none⟩ (flen kk) x.2.2) (way_one _) (by decide) (by unfold maxLen; omega) (by omega) (by simp; omega) (w2.heap.size + 1) (by simp) ?_)
          intro g2 cap3 w3 hown hgrow hat hlt3
          have hI4 := HI3.out.push HE.out hx (by omega) (by simpa only [List.map_append, List.map_cons, List.map_nil] using hown) hgrow (Below.refl _ _)
          have hlen4 := hI4.len
          simp only [List.length_append, List.length_cons, List.length_nil] at hlen4
          have hbW3 : Below w1.heap.size w2 w3 := ((Below.refl _ _).alloc hz3 _).grown hgrow (by simp; omega) fun q hq => (ownBlock_lt hrow3 hq).1
          have hσ3 := hσ2.keeps (B := w.heap.size) (by omega) la (hbW3.mono (by omega))
          have HI4 := hide hI4
          clear hI4 hgrow hat
          go_wp2_with fail
          refine (HI4.out.back (by decide) (by simp) (by omega)).mono ?_
          rintro e w4 ⟨rfl, hb4⟩
          have HI5 := hide (HI4.out.on (Keeps.of_below hb4) hCl)
          have hσ4 := hσ3.keeps (B := w.heap.size) (by have := hbW3.size; omega) la (hb4.mono (by have := hbW3.size; omega))
          go_wp2_with fail
          go_roundg (2 * (remF (fs0 ++ [((⟨Ab, Ao, none⟩ : Addr), cp, j + 1, F)] ++ [((⟨kb, ko, none⟩ : Addr), x.2.2, 0, kk)]) 0).length + (fs0.length + 1 + 1))
          case measure =>
            rw [rem_push]
            have := HG.out
            simp only [List.length_append, List.length_cons, List.length_nil] at this ⊢
            omega
          case rel =>
            refine ⟨_, _, by simp, HI5.out, hσ4, ?_⟩
            have := HRUN.out
            show _ = _
            rw [rem_push]
            simp only [List.length_append] at this ⊢
            omega
end Go.Proofs.Ytcknganggcbkjab
namespace Go.Proofs.Ytcknganggcbkjab
open Go.Deep Go.RowKit
set_option linter.unusedVariables false
set_option maxRecDepth 20000

set_option maxHeartbeats 400000 in
theorem size_any (s : ByteArray) (ka : Option Addr) (cap : Nat) (k : Fo) (w : World) (ht : TIn w s ka cap k) (hp : FPlain w k) (hn : 1 + fnodes k ≤ 200) :
    Calls Try.prog 32 #[.agg #[.string s, .slice ka (flen k) cap]] w fun e w' => e = .returned (.int .i64 (1 + (fnodes k : Int))) ∧ Below w.heap.size w w' := by
  have hbox : Below w.heap.size w ((w.alloc (Obj.cells #[Value.string s, Value.slice ka (flen k) cap] 24)).alloc (Obj.cells #[Value.int .i64 0] 3)) :=
    ((Below.refl _ _).alloc (Nat.le_refl _) _).alloc (by simp) _
  go_enter Try.func32, Try.ntmps32
  go_wp2_with fail
  refine (walkS_any (w.heap.size + 1) s ka cap k _ (ht.below hbox) (hp.below hbox) hn (fun x hx => by
    have : x = w.heap.size + 1 := by simpa using hx
    subst this
    exact ht.kids.off (by omega)) ⟨by go_simp, by go_simp, by omega⟩).mono ?_
  rintro e w1 ⟨rfl, hs1, hk1⟩
  have hc := hs1.c1
  have hb := hk1.to_below hbox (fun x hx => by
    have : x = w.heap.size + 1 := by simpa using hx
    omega)
  go_wp2_with fail
  go_ret
  exact ⟨rfl, hb⟩

end Go.Proofs.Ytcknganggcbkjab
