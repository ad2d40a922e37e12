/- pleachingref.At of a tree that lies in memory and a path that lies there is the node at the path, or none. Of the program's text. -/
import Derived.Test.YtpgiagkbfnbgkabProg
import Derived.Test.YtpgiagkbfnbgkabRef
import Derived.Test.YtpgiagkbfnbgkabFo2
import Derived.Test.YtpgiagkbfnbgkabPathIn
import Derived.Deep.RegionHeld3
import Derived.Deep.QuietTactic
import Derived.BigQuiet
import Derived.WalkSmall
namespace Go.Proofs.Ytpgiagkbfnbgkab
open Go.Deep Go.RowKit
set_option linter.unusedVariables false
set_option maxRecDepth 20000

/-- The node at a path. -/
def atT : It → List Int → Option It
  | i, [] => some i
  | i, p :: ps => if 0 ≤ p ∧ p < (flen i.2.2.2 : Int) then (match fdrop p.toNat i.2.2.2 with
    | .node _ _ x kk _ => atT (x.1, x.2.1, x.2.2, kk) ps
    | .nil => none) else none

def itV (i : It) : Value := .agg #[.string i.1, .slice i.2.1 (flen i.2.2.2) i.2.2.1]
def atV : Option It → Value
  | some i => .tuple #[.agg #[.string i.1, .slice i.2.1 (flen i.2.2.2) i.2.2.1], .bool true]
  | none => .tuple #[.agg #[.string ⟨#[]⟩, .slice none 0 0], .bool false]

theorem atT_out {i : It} {p : Int} {ps : List Int} (h : ¬ (0 ≤ p ∧ p < (flen i.2.2.2 : Int))) : atT i (p :: ps) = none := by
  simp only [atT]
  rw [if_neg h]
theorem atT_in {s : ByteArray} {ka : Option Addr} {cap : Nat} {k kk r : Fo} {j b o : Nat} {x : ByteArray × Option Addr × Nat} {ps : List Int} (h : j < flen k) (he : fdrop j k = .node b o x kk r) :
    atT (s, ka, cap, k) ((j : Int) :: ps) = atT (x.1, x.2.1, x.2.2, kk) ps := by
  simp only [atT]
  rw [if_pos ⟨by omega, by omega⟩, Int.toNat_natCast, he]

set_option maxHeartbeats 800000 in
set_option maxRecDepth 10000 in
theorem refAt_any : ∀ (ps : List Int) (s : ByteArray) (ka : Option Addr) (cap : Nat) (k : Fo) (pa : Option Addr) (pcap : Nat) (w : World), TIn w s ka cap k → PIn w pa ps → ps.length ≤ pcap → pcap ≤ maxLen →
    Calls Try.prog 46 #[.agg #[.string s, .slice ka (flen k) cap], .slice pa ps.length pcap] w fun e w' => e = .returned (atV (atT (s, ka, cap, k) ps)) ∧ Below w.heap.size w w' := by
  intro ps
  induction ps with
  | nil =>
    intro s ka cap k pa pcap w ht hp hl hc
    have hbox : Below w.heap.size w ((w.alloc (Obj.cells #[Value.string s, Value.slice ka (flen k) cap] 24)).alloc (Obj.cells #[Value.string ⟨#[]⟩, Value.slice none 0 0] 24)) :=
      ((Below.refl _ _).alloc (Nat.le_refl _) _).alloc (by simp) _
    show Calls Try.prog 46 #[.agg #[.string s, .slice ka (flen k) cap], .slice pa 0 pcap] w _
    go_enter Try.func46, Try.ntmps46
    go_wp2_with fail
    refine bodyPost_ret (v := .tuple #[.agg #[.string s, .slice ka (flen k) cap], .bool true]) (by simp [results, Try.results46, go_sem, *]) rfl ⟨rfl, (by repeat (first | exact Below.refl _ _ | exact hbox | refine Below.setCell ?_ (by simp) _ | refine Below.alloc ?_ (by simp) _ | refine below_drewN ?_ _ | refine Below.drew ?_))⟩
  | cons p ps ih =>
    intro s ka cap k pa pcap w ht hp hl hc
    have HI := hide ih; clear ih
    have hbox : Below w.heap.size w ((w.alloc (Obj.cells #[Value.string s, Value.slice ka (flen k) cap] 24)).alloc (Obj.cells #[Value.string ⟨#[]⟩, Value.slice none 0 0] 24)) :=
      ((Below.refl _ _).alloc (Nat.le_refl _) _).alloc (by simp) _
    obtain ⟨hs, hkl, hkc, hk⟩ := ht
    rcases hp with hp | ⟨pb, po, rfl, hp⟩
    · cases hp
    unfold maxLen at hc hs hkc
    have hl' : ps.length + 1 ≤ pcap := by simpa using hl
    have hp0 : w.cell? ⟨pb, po, none⟩ = some (.int .i64 p) := by simpa using hp 0 p rfl
    have hpb : pb < w.heap.size := World.block_lt_of_cell? _ _ hp0
    have hps : PIn w (some ⟨pb, po + 1, none⟩) ps := Or.inr ⟨pb, po + 1, rfl, fun i q hq => by
      have := hp (i + 1) q (by simpa using hq)
      rwa [show po + (i + 1) = po + 1 + i by omega] at this⟩
    have hne : ((ps.length : Int) + 1 == 0) = false := beq_eq_false_iff_ne.2 (by omega)
    show Calls Try.prog 46 #[.agg #[.string s, .slice ka (flen k) cap], .slice (some ⟨pb, po, none⟩) (ps.length + 1) pcap] w _
    by_cases h0 : p < 0
    · have hd : decide (p < 0) = true := decide_eq_true h0
      go_enter Try.func46, Try.ntmps46
      go_wp2_with fail
      go_quiet (fail)
      go_wp2_with fail
      refine bodyPost_ret (v := .tuple #[.agg #[.string ⟨#[]⟩, .slice none 0 0], .bool false]) (by simp [results, Try.results46, go_sem, *]) rfl ⟨by rw [atT_out (by simp only; omega)]; rfl, (by repeat (first | exact Below.refl _ _ | exact hbox | refine Below.setCell ?_ (by simp) _ | refine Below.alloc ?_ (by simp) _ | refine below_drewN ?_ _ | refine Below.drew ?_))⟩
    by_cases h1 : (flen k : Int) ≤ p
    · have hd : decide (p < 0) = false := decide_eq_false h0
      have hd1 : decide ((flen k : Int) ≤ p) = true := decide_eq_true h1
      go_enter Try.func46, Try.ntmps46
      go_wp2_with fail
      go_quiet (fail)
      go_wp2_with fail
      refine bodyPost_ret (v := .tuple #[.agg #[.string ⟨#[]⟩, .slice none 0 0], .bool false]) (by simp [results, Try.results46, go_sem, *]) rfl ⟨by rw [atT_out (by simp only; omega)]; rfl, (by repeat (first | exact Below.refl _ _ | exact hbox | refine Below.setCell ?_ (by simp) _ | refine Below.alloc ?_ (by simp) _ | refine below_drewN ?_ _ | refine Below.drew ?_))⟩
    rcases hk with rfl | ⟨kb, ko, rfl, hk⟩
    · simp [flen] at h1; omega
    obtain ⟨j, rfl⟩ := Int.eq_ofNat_of_zero_le (show 0 ≤ p by omega)
    obtain ⟨b', o', x, kk, he, hc0, hc1, htin, hbb⟩ := hk.at (show j < flen k by omega)
    have HA := hide (atT_in (s := s) (ka := some ⟨kb, ko, none⟩) (cap := cap) (ps := ps) (show j < flen k by omega) he)
    clear he
    have hd : decide ((j : Int) < 0) = false := decide_eq_false h0
    have hd1 : decide ((flen k : Int) ≤ (j : Int)) = false := decide_eq_false h1
    go_enter Try.func46, Try.ntmps46
    go_wp2_with fail
    go_quiet (fail)
    go_wp2_with fail
    have hbW := (below_drewN hbox nq).drew
    have hS : ∀ w', Below (w.heap.size + 1) ((((w.alloc (Obj.cells #[Value.string s, Value.slice (some ⟨kb, ko, none⟩) (flen k) cap] 24)).alloc (Obj.cells #[Value.string ⟨#[]⟩, Value.slice none 0 0] 24)).drewN nq).drew) w' →
        (w'.cell? ⟨w.heap.size, 1, none⟩ = some (Value.slice (some ⟨kb, ko, none⟩) (flen k) cap) ∧ w'.cell? ⟨pb, po, none⟩ = some (.int .i64 j) ∧ w'.cell? ⟨kb, ko + j * 2, none⟩ = some (.string x.1) ∧ w'.cell? ⟨kb, ko + j * 2 + 1, none⟩ = some (.slice x.2.1 (flen kk) x.2.2)) := fun w' h =>
      ⟨by (rw [h.cell (by simp)]; go_simp), by (rw [h.cell (by simp; omega), hbW.cell hpb]; exact hp0), by (rw [h.cell (by simp; omega), hbW.cell hbb]; exact hc0), by (rw [h.cell (by simp; omega), hbW.cell hbb]; exact hc1)⟩
    have HS := hide hS
    clear hS
    obtain ⟨pa', hsl, hpa⟩ : ∃ pa', (∀ wx, (Instr.slice 42 (.slice (some ⟨pb, po, none⟩) (ps.length + 1) pcap) (some (.int .i64 1)) none none).run Try.prog wx = .ok (.slice pa' ps.length (pcap - 1)) wx) ∧ PIn w pa' ps := by
      refine ⟨if pcap = 1 then some ⟨pb, po, none⟩ else some ⟨pb, po + 1, none⟩, fun wx => ?_, ?_⟩
      · rw [run_slice_l wx 42 _ _ _ Try.underlying42 .i64 1 (by omega) (by omega)]
        simp [go_sem, sliced, Addr.add]
      · split
        · exact Or.inl (List.eq_nil_of_length_eq_zero (by omega))
        · exact hps
    cases hq : atT (x.1, x.2.1, x.2.2, kk) ps with
    | none =>
      have HQ := hide hq
      clear hq
      go_region_held3 (fun w' => w'.cell? ⟨w.heap.size, 1, none⟩ = some (Value.slice (some ⟨kb, ko, none⟩) (flen k) cap) ∧ w'.cell? ⟨pb, po, none⟩ = some (.int .i64 j) ∧ w'.cell? ⟨kb, ko + j * 2, none⟩ = some (.string x.1) ∧ w'.cell? ⟨kb, ko + j * 2 + 1, none⟩ = some (.slice x.2.1 (flen kk) x.2.2))
        (first | exact HS.out _ (Below.refl _ _) | exact HS.out _ hb2 | exact HS.out _ ((hb2.setCell (by simp) _).setCell (by simp) _))
        ((go_at_call 46; refine (HI.out _ _ _ _ _ _ _ (htin.below hbW) (hpa.below hbW) (by omega) (by unfold maxLen; omega)).mono ?_; rintro e w1 ⟨rfl, hb1⟩; rw [HQ.out]; dsimp only [atV]
          have hb2 := hb1.mono (show w.heap.size + 1 ≤ _ by simp)
          have hd0 : w1.cell? ⟨w.heap.size + 1, 0, none⟩ = some (.string ⟨#[]⟩) := by (rw [hb1.cell (by simp)]; go_simp)
          have hd1 : w1.cell? ⟨w.heap.size + 1, 1, none⟩ = some (.slice none 0 0) := by (rw [hb1.cell (by simp)]; go_simp)
          have hf0 : w1.frozen? ⟨w.heap.size + 1, 0, none⟩ = false := by (rw [hb1.frozen (by simp)]; go_simp)
          have hf1 : w1.frozen? ⟨w.heap.size + 1, 1, none⟩ = false := by (rw [hb1.frozen (by simp)]; go_simp)))
      go_wp2_with fail
      exact bodyPost_ret (v := .tuple #[.agg #[.string ⟨#[]⟩, .slice none 0 0], .bool false]) (by simp [results, Try.results46, go_sem, *]) rfl ⟨by rw [HA.out, HQ.out]; rfl, ((hbW.trans (hb1.mono (by simp; omega))).setCell (by simp) _).setCell (by simp) _⟩
    | some r =>
      have HQ := hide hq
      clear hq
      go_region_held3 (fun w' => w'.cell? ⟨w.heap.size, 1, none⟩ = some (Value.slice (some ⟨kb, ko, none⟩) (flen k) cap) ∧ w'.cell? ⟨pb, po, none⟩ = some (.int .i64 j) ∧ w'.cell? ⟨kb, ko + j * 2, none⟩ = some (.string x.1) ∧ w'.cell? ⟨kb, ko + j * 2 + 1, none⟩ = some (.slice x.2.1 (flen kk) x.2.2))
        (first | exact HS.out _ (Below.refl _ _) | exact HS.out _ hb2 | exact HS.out _ ((hb2.setCell (by simp) _).setCell (by simp) _))
        ((go_at_call 46; refine (HI.out _ _ _ _ _ _ _ (htin.below hbW) (hpa.below hbW) (by omega) (by unfold maxLen; omega)).mono ?_; rintro e w1 ⟨rfl, hb1⟩; rw [HQ.out]; dsimp only [atV]
          have hb2 := hb1.mono (show w.heap.size + 1 ≤ _ by simp)
          have hd0 : w1.cell? ⟨w.heap.size + 1, 0, none⟩ = some (.string ⟨#[]⟩) := by (rw [hb1.cell (by simp)]; go_simp)
          have hd1 : w1.cell? ⟨w.heap.size + 1, 1, none⟩ = some (.slice none 0 0) := by (rw [hb1.cell (by simp)]; go_simp)
          have hf0 : w1.frozen? ⟨w.heap.size + 1, 0, none⟩ = false := by (rw [hb1.frozen (by simp)]; go_simp)
          have hf1 : w1.frozen? ⟨w.heap.size + 1, 1, none⟩ = false := by (rw [hb1.frozen (by simp)]; go_simp)))
      go_wp2_with fail
      exact bodyPost_ret (v := .tuple #[.agg #[.string r.1, .slice r.2.1 (flen r.2.2.2) r.2.2.1], .bool true]) (by simp [results, Try.results46, go_sem, *]) rfl ⟨by rw [HA.out, HQ.out]; rfl, ((hbW.trans (hb1.mono (by simp; omega))).setCell (by simp) _).setCell (by simp) _⟩

end Go.Proofs.Ytpgiagkbfnbgkab
