/- pleachingref.At of a tree that lies in memory and a path that lies there is the node at the path, or none. Of the program's text. -/
/- SameInts of package pleachingref: are two lists of numbers the same? Of the program's text. -/
/- What package pleachingref says of deeds: DeedFault, SameDeed. Of the program's text. -/
import Derived.Test.YtcknganggcbkjabProg
import Derived.Test.YtcknganggcbkjabGS03
import Derived.Test.YtcknganggcbkjabGS00
import Derived.Test.YtcknganggcbkjabGS04
import Derived.Deep.RegionHeld3
import Derived.Deep.QuietTactic
import Derived.BigQuiet
import Derived.WalkSmall
import Derived.Test.YtcknganggcbkjabGS01
import Derived.Deep.LoopGhost
namespace Go.Proofs.Ytcknganggcbkjab
open Go.Deep Go.RowKit
set_option linter.unusedVariables false
set_option maxRecDepth 20000

/-- The node at a path. -/
def atT : It → List Int → Option It
  | i, [] => some i
  | i, p :: ps => if 0 ≤ p ∧ p < (flen i.2.2.2 : Int) then (match fdrop p.toNat i.2.2.2 with
    | .node _ _ x kk _ => atT (x.1, x.2.1, x.2.2, kk) ps
    | .nil => none) else none

def itV (i : It) : Value := .agg #[.string i.1, .slice i.2.1 (flen i.2.2.2) i.2.2.1]
def atV : Option It → Value
  | some i => .tuple #[.agg #[.string i.1, .slice i.2.1 (flen i.2.2.2) i.2.2.1], .bool true]
  | none => .tuple #[.agg #[.string ⟨#[]⟩, .slice none 0 0], .bool false]

theorem atT_out {i : It} {p : Int} {ps : List Int} (h : ¬ (0 ≤ p ∧ p < (flen i.2.2.2 : Int))) : atT i (p :: ps) = none := by
  simp only [atT]
  rw [if_neg h]
theorem atT_in {s : ByteArray} {ka : Option Addr} {cap : Nat} {k kk r : Fo} {j b o : Nat} {x : ByteArray × Option Addr × Nat} {ps : List Int} (h : j < flen k) (he : fdrop j k = .node b o x kk r) :
    atT (s, ka, cap, k) ((j : Int) :: ps) = atT (x.1, x.2.1, x.2.2, kk) ps := by
  simp only [atT]
  rw [if_pos ⟨by omega, by omega⟩, Int.toNat_natCast, he]

set_option maxHeartbeats 800000 in
set_option maxRecDepth 10000 in
theorem refAt_any : ∀ (ps : List Int) (s : ByteArray) (ka : Option Addr) (cap : Nat) (k : Fo) (pa : Option Addr) (pcap : Nat) (w : World), TIn w s ka cap k → PIn w pa ps → ps.length ≤ pcap → pcap ≤ maxLen →
    Calls Try.prog 57 #[.agg #[.string s, .slice ka (flen k) cap], .slice pa ps.length pcap] w fun e w' => e = .returned (atV (atT (s, ka, cap, k) ps)) ∧ Below w.heap.size w w' := by
  intro ps
  induction ps with
  | nil =>
    intro s ka cap k pa pcap w ht hp hl hc
    have hbox : Below w.heap.size w ((w.alloc (Obj.cells #[Value.string s, Value.slice ka (flen k) cap] 24)).alloc (Obj.cells #[Value.string ⟨#[]⟩, Value.slice none 0 0] 24)) :=
      ((Below.refl _ _).alloc (Nat.le_refl _) _).alloc (by simp) _
    show Calls Try.prog 57 #[.agg #[.string s, .slice ka (flen k) cap], .slice pa 0 pcap] w _
    go_enter Try.func57, Try.ntmps57
    go_wp2_with fail
    refine bodyPost_ret (v := .tuple #[.agg #[.string s, .slice ka (flen k) cap], .bool true]) (by simp [results, Try.results57, go_sem, *]) rfl ⟨rfl, (by repeat (first | exact Below.refl _ _ | exact hbox | refine Below.setCell ?_ (by simp) _ | refine Below.alloc ?_ (by simp) _ | refine below_drewN ?_ _ | refine Below.drew ?_))⟩
  | cons p ps ih =>
    intro s ka cap k pa pcap w ht hp hl hc
    have HI := hide ih; clear ih
    have hbox : Below w.heap.size w ((w.alloc (Obj.cells #[Value.string s, Value.slice ka (flen k) cap] 24)).alloc (Obj.cells #[Value.string ⟨#[]⟩, Value.slice none 0 0] 24)) :=
      ((Below.refl _ _).alloc (Nat.le_refl _) _).alloc (by simp) _
    obtain ⟨hs, hkl, hkc, hk⟩ := ht
    rcases hp with hp | ⟨pb, po, rfl, hp⟩
    · cases hp
    unfold maxLen at hc hs hkc
    have hl' : ps.length + 1 ≤ pcap := by simpa using hl
    have hp0 : w.cell? ⟨pb, po, none⟩ = some (.int .i64 p) := by simpa using hp 0 p rfl
    have hpb : pb < w.heap.size := World.block_lt_of_cell? _ _ hp0
    have hps : PIn w (some ⟨pb, po + 1, none⟩) ps := Or.inr ⟨pb, po + 1, rfl, fun i q hq => by
      have := hp (i + 1) q (by simpa using hq)
      rwa [show po + (i + 1) = po + 1 + i by omega] at this⟩
    have hne : ((ps.length : Int) + 1 == 0) = false := beq_eq_false_iff_ne.2 (by omega)
    show Calls Try.prog 57 #[.agg #[.string s, .slice ka (flen k) cap], .slice (some ⟨pb, po, none⟩) (ps.length + 1) pcap] w _
    by_cases h0 : p < 0
    · have hd : decide (p < 0) = true := decide_eq_true h0
      go_enter Try.func57, Try.ntmps57
      go_wp2_with fail
      go_quiet (fail)
      go_wp2_with fail
      refine bodyPost_ret (v := .tuple #[.agg #[.string ⟨#[]⟩, .slice none 0 0], .bool false]) (by simp [results, Try.results57, go_sem, *]) rfl ⟨by rw [atT_out (by simp only; omega)]; rfl, (by repeat (first | exact Below.refl _ _ | exact hbox | refine Below.setCell ?_ (by simp) _ | refine Below.alloc ?_ (by simp) _ | refine below_drewN ?_ _ | refine Below.drew ?_))⟩
    by_cases h1 : (flen k : Int) ≤ p
    · have hd : decide (p < 0) = false := decide_eq_false h0
      have hd1 : decide ((flen k : Int) ≤ p) = true := decide_eq_true h1
      go_enter Try.func57, Try.ntmps57
      go_wp2_with fail
      go_quiet (fail)
      go_wp2_with fail
      refine bodyPost_ret (v := .tuple #[.agg #[.string ⟨#[]⟩, .slice none 0 0], .bool false]) (by simp [results, Try.results57, go_sem, *]) rfl ⟨by rw [atT_out (by simp only; omega)]; rfl, (by repeat (first | exact Below.refl _ _ | exact hbox | refine Below.setCell ?_ (by simp) _ | refine Below.alloc ?_ (by simp) _ | refine below_drewN ?_ _ | refine Below.drew ?_))⟩
    rcases hk with rfl | ⟨kb, ko, rfl, hk⟩
    · simp [flen] at h1; omega
    obtain ⟨j, rfl⟩ := Int.eq_ofNat_of_zero_le (show 0 ≤ p by omega)
    obtain ⟨b', o', x, kk, he, hc0, hc1, htin, hbb⟩ := hk.at (show j < flen k by omega)
    have HA := hide (atT_in (s := s) (ka := some ⟨kb, ko, none⟩) (cap := cap) (ps := ps) (show j < flen k by omega) he)
    clear he
    have hd : decide ((j : Int) < 0) = false := decide_eq_false h0
    have hd1 : decide ((flen k : Int) ≤ (j : Int)) = false := decide_eq_false h1
    go_enter Try.func57, Try.ntmps57
    go_wp2_with fail
    go_quiet (fail)
    go_wp2_with fail
    have hbW := (below_drewN hbox nq).drew
    have hS : ∀ w', Below (w.heap.size + 1) ((((w.alloc (Obj.cells #[Value.string s, Value.slice (some ⟨kb, ko, none⟩) (flen k) cap] 24)).alloc (Obj.cells #[Value.string ⟨#[]⟩, Value.slice none 0 0] 24)).drewN nq).drew) w' →
        (w'.cell? ⟨w.heap.size, 1, none⟩ = some (Value.slice (some ⟨kb, ko, none⟩) (flen k) cap) ∧ w'.cell? ⟨pb, po, none⟩ = some (.int .i64 j) ∧ w'.cell? ⟨kb, ko + j * 2, none⟩ = some (.string x.1) ∧ w'.cell? ⟨kb, ko + j * 2 + 1, none⟩ = some (.slice x.2.1 (flen kk) x.2.2)) := fun w' h =>
      ⟨by (rw [h.cell (by simp)]; go_simp), by (rw [h.cell (by simp; omega), hbW.cell hpb]; exact hp0), by (rw [h.cell (by simp; omega), hbW.cell hbb]; exact hc0), by (rw [h.cell (by simp; omega), hbW.cell hbb]; exact hc1)⟩
    have HS := hide hS
    clear hS
    obtain ⟨pa', hsl, hpa⟩ : ∃ pa', (∀ wx, (Instr.slice 42 (.slice (some ⟨pb, po, none⟩) (ps.length + 1) pcap) (some (.int .i64 1)) none none).run Try.prog wx = .ok (.slice pa' ps.length (pcap - 1)) wx) ∧ PIn w pa' ps := by
      refine ⟨if pcap = 1 then some ⟨pb, po, none⟩ else some ⟨pb, po + 1, none⟩, fun wx => ?_, ?_⟩
      · rw [run_slice_l wx 42 _ _ _ Try.underlying42 .i64 1 (by omega) (by omega)]
        simp [go_sem, sliced, Addr.add]
      · split
        · exact Or.inl (List.eq_nil_of_length_eq_zero (by omega))
        · exact hps
    cases hq : atT (x.1, x.2.1, x.2.2, kk) ps with
    | none =>
      have HQ := hide hq
      clear hq
      go_region_held3 (fun w' => w'.cell? ⟨w.heap.size, 1, none⟩ = some (Value.slice (some ⟨kb, ko, none⟩) (flen k) cap) ∧ w'.cell? ⟨pb, po, none⟩ = some (.int .i64 j) ∧ w'.cell? ⟨kb, ko + j * 2, none⟩ = some (.string x.1) ∧ w'.cell? ⟨kb, ko + j * 2 + 1, none⟩ = some (.slice x.2.1 (flen kk) x.2.2))
        (first | exact HS.out _ (Below.refl _ _) | exact HS.out _ hb2 | exact HS.out _ ((hb2.setCell (by simp) _).setCell (by simp) _))
        ((go_at_call 57; refine (HI.out _ _ _ _ _ _ _ (htin.below hbW) (hpa.below hbW) (by omega) (by unfold maxLen; omega)).mono ?_; rintro e w1 ⟨rfl, hb1⟩; rw [HQ.out]; dsimp only [atV]
          have hb2 := hb1.mono (show w.heap.size + 1 ≤ _ by simp)
          have hd0 : w1.cell? ⟨w.heap.size + 1, 0, none⟩ = some (.string ⟨#[]⟩) := by (rw [hb1.cell (by simp)]; go_simp)
          have hd1 : w1.cell? ⟨w.heap.size + 1, 1, none⟩ = some (.slice none 0 0) := by (rw [hb1.cell (by simp)]; go_simp)
          have hf0 : w1.frozen? ⟨w.heap.size + 1, 0, none⟩ = false := by (rw [hb1.frozen (by simp)]; go_simp)
          have hf1 : w1.frozen? ⟨w.heap.size + 1, 1, none⟩ = false := by (rw [hb1.frozen (by simp)]; go_simp)))
      go_wp2_with fail
      exact bodyPost_ret (v := .tuple #[.agg #[.string ⟨#[]⟩, .slice none 0 0], .bool false]) (by simp [results, Try.results57, go_sem, *]) rfl ⟨by rw [HA.out, HQ.out]; rfl, ((hbW.trans (hb1.mono (by simp; omega))).setCell (by simp) _).setCell (by simp) _⟩
    | some r =>
      have HQ := hide hq
      clear hq
      go_region_held3 (fun w' => w'.cell? ⟨w.heap.size, 1, none⟩ = some (Value.slice (some ⟨kb, ko, none⟩) (flen k) cap) ∧ w'.cell? ⟨pb, po, none⟩ = some (.int .i64 j) ∧ w'.cell? ⟨kb, ko + j * 2, none⟩ = some (.string x.1) ∧ w'.cell? ⟨kb, ko + j * 2 + 1, none⟩ = some (.slice x.2.1 (flen kk) x.2.2))
        (first | exact HS.out _ (Below.refl _ _) | exact HS.out _ hb2 | exact HS.out _ ((hb2.setCell (by simp) _).setCell (by simp) _))
        ((go_at_call 57; refine (HI.out _ _ _ _ _ _ _ (htin.below hbW) (hpa.below hbW) (by omega) (by unfold maxLen; omega)).mono ?_; rintro e w1 ⟨rfl, hb1⟩; rw [HQ.out]; dsimp only [atV]
          have hb2 := hb1.mono (show w.heap.size + 1 ≤ _ by simp)
          have hd0 : w1.cell? ⟨w.heap.size + 1, 0, none⟩ = some (.string ⟨#[]⟩) := by (rw [hb1.cell (by simp)]; go_simp)
          have hd1 : w1.cell? ⟨w.heap.size + 1, 1, none⟩ = some (.slice none 0 0) := by (rw [hb1.cell (by simp)]; go_simp)
          have hf0 : w1.frozen? ⟨w.heap.size + 1, 0, none⟩ = false := by (rw [hb1.frozen (by simp)]; go_simp)
          have hf1 : w1.frozen? ⟨w.heap.size + 1, 1, none⟩ = false := by (rw [hb1.frozen (by simp)]; go_simp)))
      go_wp2_with fail
      exact bodyPost_ret (v := .tuple #[.agg #[.string r.1, .slice r.2.1 (flen r.2.2.2) r.2.2.1], .bool true]) (by simp [results, Try.results57, go_sem, *]) rfl ⟨by rw [HA.out, HQ.out]; rfl, ((hbW.trans (hb1.mono (by simp; omega))).setCell (by simp) _).setCell (by simp) _⟩

end Go.Proofs.Ytcknganggcbkjab
namespace Go.Proofs.Ytcknganggcbkjab
open Go.Deep Go.RowKit
set_option linter.unusedVariables false
set_option maxRecDepth 20000

def ints (l : List Nat) : List Int := l.map fun (n : Nat) => (n : Int)
theorem ints_length (l : List Nat) : (ints l).length = l.length := by simp [ints]
theorem ints_inj {a b : List Nat} (h : ints a = ints b) : a = b := by
  have : (ints a).map Int.toNat = (ints b).map Int.toNat := by rw [h]
  simpa [ints, Function.comp_def] using this
theorem PIn_of_owns {w : World} {B T : Nat} {va : Option Addr} {n vc : Nat} {l : List Nat} (h : w.ownsRow B T 1 (.slice va n vc) n (intCells l)) : PIn w va (ints l) := by
  rcases h.2 with ⟨hv, h0⟩ | ⟨g, cap, cur, hv, _⟩
  · left
    have := h.1
    simp only [intCells, List.length_map] at this
    have : l = [] := List.eq_nil_of_length_eq_zero (by omega)
    rw [this]; rfl
  · right
    injection hv with h1 h2 h3
    subst h1
    refine ⟨g, 0, rfl, fun i q hq => ?_⟩
    have hc : w.ownsRow B T 1 (.slice (some ⟨g, 0, none⟩) n vc) n (intCells l) := h
    refine ownsRow_cell hc i _ ?_
    simp only [ints, List.getElem?_map, Option.map_eq_some_iff] at hq
    obtain ⟨a, ha, rfl⟩ := hq
    exact intCells_at ha

set_option maxHeartbeats 1000000 in
theorem sameI_any (la lb : Option Addr) (lc mc : Nat) (L M : List Int) (w : World) (hL : PIn w la L) (hM : PIn w lb M) (hl : L.length ≤ 100000) (hm : M.length ≤ maxLen) :
    Calls Try.prog 63 #[.slice la L.length lc, .slice lb M.length mc] w fun e w' => e = .returned (.bool (decide (L = M))) ∧ Below w.heap.size w w' := by
  unfold maxLen at hm
  by_cases hlen : L.length = M.length
  · have hb : ((L.length : Int) == (M.length : Int)) = true := beq_iff_eq.2 (by omega)
    rw [← hlen]
    have HLE := hide hlen
    have hle1 : M.length ≤ L.length := by omega
    clear hlen
    go_enter Try.func63, Try.ntmps63
    go_wp2_with fail
    go_loopg [5] L.length (fun gk v wr => ∃ i : Nat, gk = L.length - i ∧ i ≤ L.length ∧ v = .int .i64 (i : Nat) ∧ Hid (L.take i = M.take i) ∧ Below w.heap.size w wr)
    case atStart => exact ⟨0, rfl, Nat.zero_le _, rfl, rfl, Below.refl _ _⟩
    case round =>
      obtain ⟨i, hgk, hi, rfl, hsame, hbr⟩ := hrel
      by_cases hlt : i < L.length
      · obtain ⟨x, hx⟩ : ∃ x, L[i]? = some x := ⟨_, List.getElem?_eq_getElem hlt⟩
        obtain ⟨y, hy⟩ : ∃ y, M[i]? = some y := ⟨_, List.getElem?_eq_getElem (by have := HLE.out; omega)⟩
        rcases hL with hL | ⟨b, o, rfl, hL⟩
        · rw [hL] at hlt; simp at hlt
        rcases hM with hM | ⟨c, q, rfl, hM⟩
        · rw [hM] at hy; simp at hy
        have x0 := hL i x hx
        have y0 := hM i y hy
        have hbl : b < w.heap.size := World.block_lt_of_cell? _ _ x0
        have hcl : c < w.heap.size := World.block_lt_of_cell? _ _ y0
        have x0' : wr.cell? ⟨b, o + i, none⟩ = some (.int .i64 x) := by rw [hbr.cell hbl]; exact x0
        have y0' : wr.cell? ⟨c, q + i, none⟩ = some (.int .i64 y) := by rw [hbr.cell hcl]; exact y0
        have HX := hide hx
        have HY := hide hy
        clear x0 y0 hL hM hx hy
        by_cases h1 : x = y
        · have h1b : (x == y) = true := beq_iff_eq.2 h1
          have HT := hide (show L.take (i + 1) = M.take (i + 1) by
            have h4 := HX.out
            have h5 := HY.out
            rw [List.getElem?_eq_getElem hlt] at h4
            have hlm : i < M.length := by have := HLE.out; omega
            rw [List.getElem?_eq_getElem hlm] at h5
            rw [List.take_succ_eq_append_getElem hlt, List.take_succ_eq_append_getElem hlm, hsame.out]
            have e1 : L[i] = x := by simpa using h4
            have e2 : M[i] = y := by simpa using h5
            rw [e1, e2, h1])
          clear h1
          go_wp2_with fail
          go_quiet (fail)
          go_wp2_with fail
          go_roundg (L.length - (i + 1))
          case measure => omega
          case rel => exact ⟨i + 1, rfl, by omega, by go_num, HT.out, below_drewN hbr _⟩
        · have h1b : (x == y) = false := beq_eq_false_iff_ne.2 h1
          have HV := hide (show decide (L = M) = false from decide_eq_false (fun e => h1 (by
            have h2 := HX.out
            rw [e, HY.out] at h2
            simpa using h2.symm)))
          clear h1
          go_wp2_with fail
          go_quiet (fail)
          go_wp2_with fail
          go_ret
          exact ⟨by rw [HV.out]; rfl, below_drewN hbr _⟩
      · have HV := hide (show decide (L = M) = true from decide_eq_true (by
          have h1 := hsame.out
          rw [List.take_of_length_le (by omega), List.take_of_length_le (by have := HLE.out; omega)] at h1
          exact h1))
        go_wp2_with fail
        go_ret
        exact ⟨by rw [HV.out]; rfl, hbr⟩
  · have hb : ((L.length : Int) == (M.length : Int)) = false := beq_eq_false_iff_ne.2 (by omega)
    have HNE := hide (show decide (L = M) = false from decide_eq_false (fun e => hlen (by rw [e])))
    clear hlen
    go_enter Try.func63, Try.ntmps63
    go_wp2_with fail
    go_ret
    exact ⟨by rw [HNE.out]; rfl, Below.refl _ _⟩

end Go.Proofs.Ytcknganggcbkjab
namespace Go.Proofs.Ytcknganggcbkjab.Deed
open Go.Deep Go.RowKit
set_option linter.unusedVariables false
set_option maxRecDepth 20000

/-- A deed as a value, its path behind an address. -/
def ddV (d : Dd) (pa : Option Addr) (pcap : Nat) : Value := .agg #[.int .i64 d.kind, .slice pa d.path.length pcap, .int .i64 d.pos, .int .i64 d.many, .string d.lab]
structure DIn (w : World) (d : Dd) (pa : Option Addr) (pcap : Nat) : Prop where
  path : PIn w pa d.path
  len : d.path.length ≤ pcap
  cap : pcap ≤ maxLen
  lab : d.lab.size ≤ maxLen
theorem DIn.below {w w' : World} {d : Dd} {pa : Option Addr} {pcap : Nat} (h : DIn w d pa pcap) (hb : Below w.heap.size w w') : DIn w' d pa pcap := ⟨h.path.below hb, h.len, h.cap, h.lab⟩

set_option maxHeartbeats 4000000 in
theorem refDF_one (path : List Int) (pos many : Int) (lab : ByteArray) (pa : Option Addr) (pcap : Nat) (w : World) (hpi : PIn w pa path) (hpl : path.length ≤ pcap) (hpc : pcap ≤ maxLen) (hls : lab.size ≤ maxLen) :
    Calls Try.prog 28 #[ddV ⟨1, path, pos, many, lab⟩ pa pcap] w fun e w' => e = .returned (.int .i64 (deedFault ⟨1, path, pos, many, lab⟩)) ∧ Below w.heap.size w w' := by
  unfold ddV
  unfold maxLen at hpc
  simp only
  by_cases hz : pos = 0 ∧ many = 0
  · obtain ⟨rfl, rfl⟩ := hz
    go_enter Try.func28, Try.ntmps28
    go_wp2_with fail
    go_loopg [3, 4] path.length (fun gk v3 v4 wr => ∃ i : Nat, gk = path.length - i ∧ i ≤ path.length ∧ v4 = .int .i64 (i : Nat) ∧ v3 = .bool (false || (path.take i).any (fun p => decide (p < 0))) ∧ Below w.heap.size w wr ∧ wr.heap[w.heap.size]? = some (Obj.cells #[.int .i64 1, .slice pa path.length pcap, .int .i64 0, .int .i64 0, .string lab] 44))
    case atStart => exact ⟨0, rfl, Nat.zero_le _, rfl, by simp, (Below.refl _ _).alloc (Nat.le_refl _) _, heap_alloc_new _ _⟩
    case round =>
      obtain ⟨i, hgk, hi, rfl, rfl, hb, hbox⟩ := hrel
      have q0 : wr.cell? ⟨w.heap.size, 0, none⟩ = some (.int .i64 1) := by rw [cell_of_row _ _ 0 _ _ _ hbox]; rfl
      have q1 : wr.cell? ⟨w.heap.size, 1, none⟩ = some (.slice pa path.length pcap) := by rw [cell_of_row _ _ 1 _ _ _ hbox]; rfl
      have q4 : wr.cell? ⟨w.heap.size, 4, none⟩ = some (.string lab) := by rw [cell_of_row _ _ 4 _ _ _ hbox]; rfl
      have HB := hide hb
      have HX := hide hbox
      have hbl := hb.size
      clear hb hbox
      obtain ⟨bb, hbb⟩ : ∃ bb, bb = (false || (path.take i).any (fun p => decide (p < 0))) := ⟨_, rfl⟩
      rw [← hbb]
      by_cases hin : i < path.length
      · obtain ⟨p, hp⟩ : ∃ p, path[i]? = some p := ⟨_, List.getElem?_eq_getElem hin⟩
        have HA := hide (show (false || (path.take (i + 1)).any (fun p => decide (p < 0))) = (bb || decide (p < 0)) by rw [hbb, List.take_succ_eq_append_getElem hin, List.any_append, ← Bool.or_assoc, show path[i] = p by simpa [List.getElem?_eq_getElem hin] using hp]; simp)
        have q5 : ∃ b o, pa = some ⟨b, o, none⟩ ∧ wr.cell? ⟨b, o + i, none⟩ = some (.int .i64 p) := by
          rcases hpi with rfl | ⟨b, o, rfl, h⟩
          · simp at hin
          · refine ⟨b, o, rfl, ?_⟩
            have h1 := h i p hp
            rw [HB.out.cell (World.block_lt_of_cell? _ _ h1)]
            exact h1
        obtain ⟨b, o, rfl, q5⟩ := q5
        clear hbb hp
        cases bb
        · go_wp2_with fail
          go_roundg (path.length - (i + 1))
          case measure => omega
          case rel => exact ⟨i + 1, rfl, by omega, by go_num, by rw [HA.out]; simp, HB.out, HX.out⟩
        · go_wp2_with fail
          go_roundg (path.length - (i + 1))
          case measure => omega
          case rel => exact ⟨i + 1, rfl, by omega, by go_num, by rw [HA.out]; rfl, HB.out, HX.out⟩
      · have hie : i = path.length := by omega
        subst hie
        rw [List.take_length] at hbb
        have hm := deedFault_mid (K := 1) (path := path) (P := 0) (M := 0) (lab := lab) (by decide) (by simp) (B := false) rfl
        cases bb
        · have HF := hide (hm.2 hbb.symm)
          clear hbb hm
          cases hl : labelB lab
          · go_wp2_with fail
            refine (isLabel_any lab _ hls).mono ?_
            rintro e w2 ⟨rfl, rfl⟩
            rw [hl]
            go_wp2_with fail
            go_ret
            exact ⟨by rw [HF.out, hl]; rfl, HB.out⟩
          · go_wp2_with fail
            refine (isLabel_any lab _ hls).mono ?_
            rintro e w2 ⟨rfl, rfl⟩
            rw [hl]
            go_wp2_with fail
            go_ret
            exact ⟨by rw [HF.out, hl]; rfl, HB.out⟩
        · have HF := hide (hm.1 hbb.symm)
          clear hbb hm
          go_wp2_with fail
          go_ret
          exact ⟨by rw [HF.out]; rfl, HB.out⟩
  · have HF := hide (deedFault_form (K := 1) (P := pos) (M := many) (path := path) (lab := lab) (by decide) (Or.inl ⟨by decide, by omega⟩))
    by_cases hq : pos = 0
    · have hr : many ≠ 0 := fun e => hz ⟨hq, e⟩
      subst hq
      clear hz
      go_enter Try.func28, Try.ntmps28
      go_wp2_with fail
      go_ret
      exact ⟨by rw [HF.out]; rfl, (Below.refl _ _).alloc (Nat.le_refl _) _⟩
    · clear hz
      go_enter Try.func28, Try.ntmps28
      go_wp2_with fail
      go_ret
      exact ⟨by rw [HF.out]; rfl, (Below.refl _ _).alloc (Nat.le_refl _) _⟩

set_option maxHeartbeats 4000000 in
theorem refDF_two (path : List Int) (pos many : Int) (lab : ByteArray) (pa : Option Addr) (pcap : Nat) (w : World) (hpi : PIn w pa path) (hpl : path.length ≤ pcap) (hpc : pcap ≤ maxLen) (hls : lab.size ≤ maxLen) :
    Calls Try.prog 28 #[ddV ⟨2, path, pos, many, lab⟩ pa pcap] w fun e w' => e = .returned (.int .i64 (deedFault ⟨2, path, pos, many, lab⟩)) ∧ Below w.heap.size w w' := by
  unfold ddV
  unfold maxLen at hpc
  simp only
  by_cases hz : pos = 0 ∧ many = 0
  · obtain ⟨rfl, rfl⟩ := hz
    by_cases he : lab = ⟨#[]⟩
    · subst he
      go_enter Try.func28, Try.ntmps28
      go_wp2_with fail
      go_loopg [3, 4] path.length (fun gk v3 v4 wr => ∃ i : Nat, gk = path.length - i ∧ i ≤ path.length ∧ v4 = .int .i64 (i : Nat) ∧ v3 = .bool (false || (path.take i).any (fun p => decide (p < 0))) ∧ Below w.heap.size w wr ∧ wr.heap[w.heap.size]? = some (Obj.cells #[.int .i64 2, .slice pa path.length pcap, .int .i64 0, .int .i64 0, .string ⟨#[]⟩] 44))
      case atStart => exact ⟨0, rfl, Nat.zero_le _, rfl, by simp, (Below.refl _ _).alloc (Nat.le_refl _) _, heap_alloc_new _ _⟩
      case round =>
        obtain ⟨i, hgk, hi, rfl, rfl, hb, hbox⟩ := hrel
        have q0 : wr.cell? ⟨w.heap.size, 0, none⟩ = some (.int .i64 2) := by rw [cell_of_row _ _ 0 _ _ _ hbox]; rfl
        have q1 : wr.cell? ⟨w.heap.size, 1, none⟩ = some (.slice pa path.length pcap) := by rw [cell_of_row _ _ 1 _ _ _ hbox]; rfl
        have q4 : wr.cell? ⟨w.heap.size, 4, none⟩ = some (.string ⟨#[]⟩) := by rw [cell_of_row _ _ 4 _ _ _ hbox]; rfl
        have HB := hide hb
        have HX := hide hbox
        have hbl := hb.size
        clear hb hbox
        obtain ⟨bb, hbb⟩ : ∃ bb, bb = (false || (path.take i).any (fun p => decide (p < 0))) := ⟨_, rfl⟩
        rw [← hbb]
        by_cases hin : i < path.length
        · obtain ⟨p, hp⟩ : ∃ p, path[i]? = some p := ⟨_, List.getElem?_eq_getElem hin⟩
          have HA := hide (show (false || (path.take (i + 1)).any (fun p => decide (p < 0))) = (bb || decide (p < 0)) by rw [hbb, List.take_succ_eq_append_getElem hin, List.any_append, ← Bool.or_assoc, show path[i] = p by simpa [List.getElem?_eq_getElem hin] using hp]; simp)
          have q5 : ∃ b o, pa = some ⟨b, o, none⟩ ∧ wr.cell? ⟨b, o + i, none⟩ = some (.int .i64 p) := by
            rcases hpi with rfl | ⟨b, o, rfl, h⟩
            · simp at hin
            · refine ⟨b, o, rfl, ?_⟩
              have h1 := h i p hp
              rw [HB.out.cell (World.block_lt_of_cell? _ _ h1)]
              exact h1
          obtain ⟨b, o, rfl, q5⟩ := q5
          clear hbb hp
          cases bb
          · go_wp2_with fail
            go_roundg (path.length - (i + 1))
            case measure => omega
            case rel => exact ⟨i + 1, rfl, by omega, by go_num, by rw [HA.out]; simp, HB.out, HX.out⟩
          · go_wp2_with fail
            go_roundg (path.length - (i + 1))
            case measure => omega
            case rel => exact ⟨i + 1, rfl, by omega, by go_num, by rw [HA.out]; rfl, HB.out, HX.out⟩
        · have hie : i = path.length := by omega
          subst hie
          rw [List.take_length] at hbb
          have hm := deedFault_mid (K := 2) (path := path) (P := 0) (M := 0) (lab := ⟨#[]⟩) (by decide) (by simp) (B := false) rfl
          cases bb
          · have HF := hide (hm.2 hbb.symm)
            clear hbb hm
            by_cases hp0 : path = []
            · subst hp0
              go_wp2_with fail
              go_ret
              exact ⟨by rw [HF.out]; rfl, HB.out⟩
            · have hpl : 0 < path.length := List.length_pos_iff.2 hp0
              have HP := hide hp0
              clear hp0
              go_wp2_with fail
              go_ret
              exact ⟨by rw [HF.out, if_neg (by simp), if_neg (fun e => HP.out e.2)]; rfl, HB.out⟩
          · have HF := hide (hm.1 hbb.symm)
            clear hbb hm
            go_wp2_with fail
            go_ret
            exact ⟨by rw [HF.out]; rfl, HB.out⟩
    · have HF := hide (deedFault_form (K := 2) (P := 0) (M := 0) (path := path) (lab := lab) (by decide) (Or.inr ⟨rfl, he⟩))
      have hb : (lab.toList == []) = false := by
        refine beq_eq_false_iff_ne.2 fun h1 => he ?_
        rw [ByteArray.toList_eq] at h1
        obtain ⟨⟨x⟩⟩ := lab
        have : x = [] := h1
        rw [this]
      clear he
      go_enter Try.func28, Try.ntmps28
      go_wp2_with fail
      go_ret
      exact ⟨by rw [HF.out]; rfl, (Below.refl _ _).alloc (Nat.le_refl _) _⟩
  · have HF := hide (deedFault_form (K := 2) (P := pos) (M := many) (path := path) (lab := lab) (by decide) (Or.inl ⟨by decide, by omega⟩))
    by_cases hq : pos = 0
    · have hr : many ≠ 0 := fun e => hz ⟨hq, e⟩
      subst hq
      clear hz
      go_enter Try.func28, Try.ntmps28
      go_wp2_with fail
      go_ret
      exact ⟨by rw [HF.out]; rfl, (Below.refl _ _).alloc (Nat.le_refl _) _⟩
    · clear hz
      go_enter Try.func28, Try.ntmps28
      go_wp2_with fail
      go_ret
      exact ⟨by rw [HF.out]; rfl, (Below.refl _ _).alloc (Nat.le_refl _) _⟩

set_option maxHeartbeats 4000000 in
theorem refDF_three (path : List Int) (pos many : Int) (lab : ByteArray) (pa : Option Addr) (pcap : Nat) (w : World) (hpi : PIn w pa path) (hpl : path.length ≤ pcap) (hpc : pcap ≤ maxLen) (hls : lab.size ≤ maxLen) :
    Calls Try.prog 28 #[ddV ⟨3, path, pos, many, lab⟩ pa pcap] w fun e w' => e = .returned (.int .i64 (deedFault ⟨3, path, pos, many, lab⟩)) ∧ Below w.heap.size w w' := by
  unfold ddV
  unfold maxLen at hpc
  simp only
  by_cases hq : pos < 0
  · have hd : decide (pos < 0) = true := decide_eq_true hq
    go_enter Try.func28, Try.ntmps28
    go_wp2_with fail
    go_loopg [3, 4] path.length (fun gk v3 v4 wr => ∃ i : Nat, gk = path.length - i ∧ i ≤ path.length ∧ v4 = .int .i64 (i : Nat) ∧ v3 = .bool (true || (path.take i).any (fun p => decide (p < 0))) ∧ Below w.heap.size w wr ∧ wr.heap[w.heap.size]? = some (Obj.cells #[.int .i64 3, .slice pa path.length pcap, .int .i64 pos, .int .i64 many, .string lab] 44))
    case atStart => exact ⟨0, rfl, Nat.zero_le _, rfl, by simp, (Below.refl _ _).alloc (Nat.le_refl _) _, heap_alloc_new _ _⟩
    case round =>
      obtain ⟨i, hgk, hi, rfl, rfl, hb, hbox⟩ := hrel
      have q0 : wr.cell? ⟨w.heap.size, 0, none⟩ = some (.int .i64 3) := by rw [cell_of_row _ _ 0 _ _ _ hbox]; rfl
      have q1 : wr.cell? ⟨w.heap.size, 1, none⟩ = some (.slice pa path.length pcap) := by rw [cell_of_row _ _ 1 _ _ _ hbox]; rfl
      have q4 : wr.cell? ⟨w.heap.size, 4, none⟩ = some (.string lab) := by rw [cell_of_row _ _ 4 _ _ _ hbox]; rfl
      have HB := hide hb
      have HX := hide hbox
      have hbl := hb.size
      clear hb hbox
      obtain ⟨bb, hbb⟩ : ∃ bb, bb = (true || (path.take i).any (fun p => decide (p < 0))) := ⟨_, rfl⟩
      rw [← hbb]
      by_cases hin : i < path.length
      · obtain ⟨p, hp⟩ : ∃ p, path[i]? = some p := ⟨_, List.getElem?_eq_getElem hin⟩
        have HA := hide (show (true || (path.take (i + 1)).any (fun p => decide (p < 0))) = (bb || decide (p < 0)) by rw [hbb, List.take_succ_eq_append_getElem hin, List.any_append, ← Bool.or_assoc, show path[i] = p by simpa [List.getElem?_eq_getElem hin] using hp]; simp)
        have q5 : ∃ b o, pa = some ⟨b, o, none⟩ ∧ wr.cell? ⟨b, o + i, none⟩ = some (.int .i64 p) := by
          rcases hpi with rfl | ⟨b, o, rfl, h⟩
          · simp at hin
          · refine ⟨b, o, rfl, ?_⟩
            have h1 := h i p hp
            rw [HB.out.cell (World.block_lt_of_cell? _ _ h1)]
            exact h1
        obtain ⟨b, o, rfl, q5⟩ := q5
        clear hbb hp
        cases bb
        · go_wp2_with fail
          go_roundg (path.length - (i + 1))
          case measure => omega
          case rel => exact ⟨i + 1, rfl, by omega, by go_num, by rw [HA.out]; simp, HB.out, HX.out⟩
        · go_wp2_with fail
          go_roundg (path.length - (i + 1))
          case measure => omega
          case rel => exact ⟨i + 1, rfl, by omega, by go_num, by rw [HA.out]; rfl, HB.out, HX.out⟩
      · have hie : i = path.length := by omega
        subst hie
        rw [List.take_length] at hbb
        have hm := deedFault_mid (K := 3) (path := path) (P := pos) (M := many) (lab := lab) (by decide) (by simp) (B := true) (by rw [hd]; rfl)
        cases bb
        · have HF := hide (hm.2 hbb.symm)
          clear hbb hm
          cases hl : labelB lab
          · go_wp2_with fail
            refine (isLabel_any lab _ hls).mono ?_
            rintro e w2 ⟨rfl, rfl⟩
            rw [hl]
            go_wp2_with fail
            go_ret
            exact ⟨by rw [HF.out, hl]; rfl, HB.out⟩
          · go_wp2_with fail
            refine (isLabel_any lab _ hls).mono ?_
            rintro e w2 ⟨rfl, rfl⟩
            rw [hl]
            go_wp2_with fail
            go_ret
            exact ⟨by rw [HF.out, hl]; rfl, HB.out⟩
        · have HF := hide (hm.1 hbb.symm)
          clear hbb hm
          go_wp2_with fail
          go_ret
          exact ⟨by rw [HF.out]; rfl, HB.out⟩
  · by_cases hr : many < 0
    · have hd : decide (pos < 0) = false := decide_eq_false hq
      have hd2 : decide (many < 0) = true := decide_eq_true hr
      go_enter Try.func28, Try.ntmps28
      go_wp2_with fail
      go_loopg [3, 4] path.length (fun gk v3 v4 wr => ∃ i : Nat, gk = path.length - i ∧ i ≤ path.length ∧ v4 = .int .i64 (i : Nat) ∧ v3 = .bool (true || (path.take i).any (fun p => decide (p < 0))) ∧ Below w.heap.size w wr ∧ wr.heap[w.heap.size]? = some (Obj.cells #[.int .i64 3, .slice pa path.length pcap, .int .i64 pos, .int .i64 many, .string lab] 44))
      case atStart => exact ⟨0, rfl, Nat.zero_le _, rfl, by simp, (Below.refl _ _).alloc (Nat.le_refl _) _, heap_alloc_new _ _⟩
      case round =>
        obtain ⟨i, hgk, hi, rfl, rfl, hb, hbox⟩ := hrel
        have q0 : wr.cell? ⟨w.heap.size, 0, none⟩ = some (.int .i64 3) := by rw [cell_of_row _ _ 0 _ _ _ hbox]; rfl
        have q1 : wr.cell? ⟨w.heap.size, 1, none⟩ = some (.slice pa path.length pcap) := by rw [cell_of_row _ _ 1 _ _ _ hbox]; rfl
        have q4 : wr.cell? ⟨w.heap.size, 4, none⟩ = some (.string lab) := by rw [cell_of_row _ _ 4 _ _ _ hbox]; rfl
        have HB := hide hb
        have HX := hide hbox
        have hbl := hb.size
        clear hb hbox
        obtain ⟨bb, hbb⟩ : ∃ bb, bb = (true || (path.take i).any (fun p => decide (p < 0))) := ⟨_, rfl⟩
        rw [← hbb]
        by_cases hin : i < path.length
        · obtain ⟨p, hp⟩ : ∃ p, path[i]? = some p := ⟨_, List.getElem?_eq_getElem hin⟩
          have HA := hide (show (true || (path.take (i + 1)).any (fun p => decide (p < 0))) = (bb || decide (p < 0)) by rw [hbb, List.take_succ_eq_append_getElem hin, List.any_append, ← Bool.or_assoc, show path[i] = p by simpa [List.getElem?_eq_getElem hin] using hp]; simp)
          have q5 : ∃ b o, pa = some ⟨b, o, none⟩ ∧ wr.cell? ⟨b, o + i, none⟩ = some (.int .i64 p) := by
            rcases hpi with rfl | ⟨b, o, rfl, h⟩
            · simp at hin
            · refine ⟨b, o, rfl, ?_⟩
              have h1 := h i p hp
              rw [HB.out.cell (World.block_lt_of_cell? _ _ h1)]
              exact h1
          obtain ⟨b, o, rfl, q5⟩ := q5
          clear hbb hp
          cases bb
          · go_wp2_with fail
            go_roundg (path.length - (i + 1))
            case measure => omega
            case rel => exact ⟨i + 1, rfl, by omega, by go_num, by rw [HA.out]; simp, HB.out, HX.out⟩
          · go_wp2_with fail
            go_roundg (path.length - (i + 1))
            case measure => omega
            case rel => exact ⟨i + 1, rfl, by omega, by go_num, by rw [HA.out]; rfl, HB.out, HX.out⟩
        · have hie : i = path.length := by omega
          subst hie
          rw [List.take_length] at hbb
          have hm := deedFault_mid (K := 3) (path := path) (P := pos) (M := many) (lab := lab) (by decide) (by simp) (B := true) (by rw [hd, hd2]; rfl)
          cases bb
          · have HF := hide (hm.2 hbb.symm)
            clear hbb hm
            cases hl : labelB lab
            · go_wp2_with fail
              refine (isLabel_any lab _ hls).mono ?_
              rintro e w2 ⟨rfl, rfl⟩
              rw [hl]
              go_wp2_with fail
              go_ret
              exact ⟨by rw [HF.out, hl]; rfl, HB.out⟩
            · go_wp2_with fail
              refine (isLabel_any lab _ hls).mono ?_
              rintro e w2 ⟨rfl, rfl⟩
              rw [hl]
              go_wp2_with fail
              go_ret
              exact ⟨by rw [HF.out, hl]; rfl, HB.out⟩
          · have HF := hide (hm.1 hbb.symm)
            clear hbb hm
            go_wp2_with fail
            go_ret
            exact ⟨by rw [HF.out]; rfl, HB.out⟩
    · have hd : decide (pos < 0) = false := decide_eq_false hq
      have hd2 : decide (many < 0) = false := decide_eq_false hr
      go_enter Try.func28, Try.ntmps28
      go_wp2_with fail
      go_loopg [3, 4] path.length (fun gk v3 v4 wr => ∃ i : Nat, gk = path.length - i ∧ i ≤ path.length ∧ v4 = .int .i64 (i : Nat) ∧ v3 = .bool (false || (path.take i).any (fun p => decide (p < 0))) ∧ Below w.heap.size w wr ∧ wr.heap[w.heap.size]? = some (Obj.cells #[.int .i64 3, .slice pa path.length pcap, .int .i64 pos, .int .i64 many, .string lab] 44))
      case atStart => exact ⟨0, rfl, Nat.zero_le _, rfl, by simp, (Below.refl _ _).alloc (Nat.le_refl _) _, heap_alloc_new _ _⟩
      case round =>
        obtain ⟨i, hgk, hi, rfl, rfl, hb, hbox⟩ := hrel
        have q0 : wr.cell? ⟨w.heap.size, 0, none⟩ = some (.int .i64 3) := by rw [cell_of_row _ _ 0 _ _ _ hbox]; rfl
        have q1 : wr.cell? ⟨w.heap.size, 1, none⟩ = some (.slice pa path.length pcap) := by rw [cell_of_row _ _ 1 _ _ _ hbox]; rfl
        have q4 : wr.cell? ⟨w.heap.size, 4, none⟩ = some (.string lab) := by rw [cell_of_row _ _ 4 _ _ _ hbox]; rfl
        have HB := hide hb
        have HX := hide hbox
        have hbl := hb.size
        clear hb hbox
        obtain ⟨bb, hbb⟩ : ∃ bb, bb = (false || (path.take i).any (fun p => decide (p < 0))) := ⟨_, rfl⟩
        rw [← hbb]
        by_cases hin : i < path.length
        · obtain ⟨p, hp⟩ : ∃ p, path[i]? = some p := ⟨_, List.getElem?_eq_getElem hin⟩
          have HA := hide (show (false || (path.take (i + 1)).any (fun p => decide (p < 0))) = (bb || decide (p < 0)) by rw [hbb, List.take_succ_eq_append_getElem hin, List.any_append, ← Bool.or_assoc, show path[i] = p by simpa [List.getElem?_eq_getElem hin] using hp]; simp)
          have q5 : ∃ b o, pa = some ⟨b, o, none⟩ ∧ wr.cell? ⟨b, o + i, none⟩ = some (.int .i64 p) := by
            rcases hpi with rfl | ⟨b, o, rfl, h⟩
            · simp at hin
            · refine ⟨b, o, rfl, ?_⟩
              have h1 := h i p hp
              rw [HB.out.cell (World.block_lt_of_cell? _ _ h1)]
              exact h1
          obtain ⟨b, o, rfl, q5⟩ := q5
          clear hbb hp
          cases bb
          · go_wp2_with fail
            go_roundg (path.length - (i + 1))
            case measure => omega
            case rel => exact ⟨i + 1, rfl, by omega, by go_num, by rw [HA.out]; simp, HB.out, HX.out⟩
          · go_wp2_with fail
            go_roundg (path.length - (i + 1))
            case measure => omega
            case rel => exact ⟨i + 1, rfl, by omega, by go_num, by rw [HA.out]; rfl, HB.out, HX.out⟩
        · have hie : i = path.length := by omega
          subst hie
          rw [List.take_length] at hbb
          have hm := deedFault_mid (K := 3) (path := path) (P := pos) (M := many) (lab := lab) (by decide) (by simp) (B := false) (by rw [hd, hd2]; rfl)
          cases bb
          · have HF := hide (hm.2 hbb.symm)
            clear hbb hm
            cases hl : labelB lab
            · go_wp2_with fail
              refine (isLabel_any lab _ hls).mono ?_
              rintro e w2 ⟨rfl, rfl⟩
              rw [hl]
              go_wp2_with fail
              go_ret
              exact ⟨by rw [HF.out, hl]; rfl, HB.out⟩
            · go_wp2_with fail
              refine (isLabel_any lab _ hls).mono ?_
              rintro e w2 ⟨rfl, rfl⟩
              rw [hl]
              go_wp2_with fail
              go_ret
              exact ⟨by rw [HF.out, hl]; rfl, HB.out⟩
          · have HF := hide (hm.1 hbb.symm)
            clear hbb hm
            go_wp2_with fail
            go_ret
            exact ⟨by rw [HF.out]; rfl, HB.out⟩

set_option maxHeartbeats 1000000 in
theorem refDF_any (d : Dd) (pa : Option Addr) (pcap : Nat) (w : World) (h : DIn w d pa pcap) :
    Calls Try.prog 28 #[ddV d pa pcap] w fun e w' => e = .returned (.int .i64 (deedFault d)) ∧ Below w.heap.size w w' := by
  obtain ⟨K, path, pos, many, lab⟩ := d
  obtain ⟨h1, h2, h3, h4⟩ := h
  by_cases k1 : K = 1
  · subst k1
    exact refDF_one path pos many lab pa pcap w h1 h2 h3 h4
  · by_cases k2 : K = 2
    · subst k2
      exact refDF_two path pos many lab pa pcap w h1 h2 h3 h4
    · by_cases k3 : K = 3
      · subst k3
        exact refDF_three path pos many lab pa pcap w h1 h2 h3 h4
      · have HF := hide (deedFault_kind (K := K) (P := pos) (M := many) (path := path) (lab := lab) k1 k2 k3)
        have n1 : (K != 1) = true := by simp [k1]
        have n2 : (K != 2) = true := by simp [k2]
        have n3 : (K != 3) = true := by simp [k3]
        unfold ddV
        simp only
        clear h1 h2 h3 h4 k1 k2 k3
        go_enter Try.func28, Try.ntmps28
        go_wp2_with fail
        go_ret
        exact ⟨by rw [HF.out]; rfl, (Below.refl _ _).alloc (Nat.le_refl _) _⟩

/-- Are they the same? -/
def sameDd (d e : Dd) : Bool := d.kind == e.kind && decide (d.path = e.path) && d.pos == e.pos && d.many == e.many && d.lab.toList == e.lab.toList
theorem sameDd_iff (d e : Dd) : sameDd d e = true ↔ d = e := by
  obtain ⟨a, b, c, m, l⟩ := d
  obtain ⟨a', b', c', m', l'⟩ := e
  simp only [sameDd, Bool.and_eq_true, beq_iff_eq, decide_eq_true_eq, Dd.mk.injEq]
  constructor
  · rintro ⟨⟨⟨⟨h1, h2⟩, h3⟩, h4⟩, h5⟩
    refine ⟨h1, h2, h3, h4, ?_⟩
    rw [ByteArray.toList_eq, ByteArray.toList_eq] at h5
    obtain ⟨⟨x⟩⟩ := l
    obtain ⟨⟨y⟩⟩ := l'
    have : x = y := h5
    rw [this]
  · rintro ⟨h1, h2, h3, h4, h5⟩
    exact ⟨⟨⟨⟨h1, h2⟩, h3⟩, h4⟩, by rw [h5]⟩

set_option maxHeartbeats 2000000 in
theorem sameD_any (d e : Dd) (pa pb : Option Addr) (pc qc : Nat) (w : World) (hd : DIn w d pa pc) (he : DIn w e pb qc) (hl : d.path.length ≤ 100000) :
    Calls Try.prog 30 #[ddV d pa pc, ddV e pb qc] w fun r w' => r = .returned (.bool (sameDd d e)) ∧ Below w.heap.size w w' := by
  unfold ddV
  have hbx : Below w.heap.size w ((w.alloc (Obj.cells #[.int .i64 d.kind, .slice pa d.path.length pc, .int .i64 d.pos, .int .i64 d.many, .string d.lab] 44)).alloc (Obj.cells #[.int .i64 e.kind, .slice pb e.path.length qc, .int .i64 e.pos, .int .i64 e.many, .string e.lab] 44)) := ((Below.refl _ _).alloc (Nat.le_refl _) _).alloc (by simp) _
  have HS := hide (sameI_any pa pb pc qc d.path e.path _ (hd.path.below hbx) (he.path.below hbx) hl (Nat.le_trans he.len he.cap))
  have HB := hide hbx
  have hc1 := hd.cap
  have hc2 := he.cap
  unfold maxLen at hc1 hc2
  by_cases h1 : d.kind = e.kind
  case neg =>
    have b1 : (d.kind == e.kind) = false := beq_eq_false_iff_ne.2 h1
    have HV := hide (show sameDd d e = false by unfold sameDd; simp [b1])
    clear hd he h1 hbx HS
    go_enter Try.func30, Try.ntmps30
    go_wp2_with fail
    go_ret
    exact ⟨by rw [HV.out]; rfl, HB.out⟩
  have b1 : (d.kind == e.kind) = true := beq_iff_eq.2 h1
  by_cases h2 : d.path = e.path
  case neg =>
    have b2 := decide_eq_false h2
    have HV := hide (show sameDd d e = false by unfold sameDd; simp [b2])
    rw [b2] at HS
    clear hd he h1 h2 hbx b2
    go_enter Try.func30, Try.ntmps30
    go_wp2_with fail
    refine Calls.mono HS.out ?_
    rintro r w2 ⟨rfl, hb2⟩
    have HB2 := hide (HB.out.trans (hb2.mono HB.out.size))
    clear hb2
    go_wp2_with fail
    go_ret
    exact ⟨by rw [HV.out]; rfl, HB2.out⟩
  have b2 := decide_eq_true h2
  rw [b2] at HS
  have HX : Hid (∀ w2, Below ((w.alloc (Obj.cells #[.int .i64 d.kind, .slice pa d.path.length pc, .int .i64 d.pos, .int .i64 d.many, .string d.lab] 44)).alloc (Obj.cells #[.int .i64 e.kind, .slice pb e.path.length qc, .int .i64 e.pos, .int .i64 e.many, .string e.lab] 44)).heap.size ((w.alloc (Obj.cells #[.int .i64 d.kind, .slice pa d.path.length pc, .int .i64 d.pos, .int .i64 d.many, .string d.lab] 44)).alloc (Obj.cells #[.int .i64 e.kind, .slice pb e.path.length qc, .int .i64 e.pos, .int .i64 e.many, .string e.lab] 44)) w2 →
      (w2.cell? ⟨w.heap.size, 2, none⟩ = some (.int .i64 d.pos) ∧ w2.cell? ⟨w.heap.size, 3, none⟩ = some (.int .i64 d.many) ∧ w2.cell? ⟨w.heap.size, 4, none⟩ = some (.string d.lab)) ∧ (w2.cell? ⟨w.heap.size + 1, 2, none⟩ = some (.int .i64 e.pos) ∧ w2.cell? ⟨w.heap.size + 1, 3, none⟩ = some (.int .i64 e.many) ∧ w2.cell? ⟨w.heap.size + 1, 4, none⟩ = some (.string e.lab))) := hide fun w2 hb => by
    refine ⟨⟨?_, ?_, ?_⟩, ⟨?_, ?_, ?_⟩⟩
    · rw [hb.cell (by simp <;> omega)]; go_simp
    · rw [hb.cell (by simp <;> omega)]; go_simp
    · rw [hb.cell (by simp <;> omega)]; go_simp
    · rw [hb.cell (by simp)]; go_simp
    · rw [hb.cell (by simp)]; go_simp
    · rw [hb.cell (by simp)]; go_simp
  have HV := hide (show sameDd d e = (d.pos == e.pos && d.many == e.many && d.lab.toList == e.lab.toList) by unfold sameDd; rw [b1, b2]; simp)
  clear hd he h1 h2 hbx b2
  by_cases h3 : d.pos = e.pos
  · have b3 : (d.pos == e.pos) = true := beq_iff_eq.2 h3
    rw [b3] at HV
    by_cases h4 : d.many = e.many
    · have b4 : (d.many == e.many) = true := beq_iff_eq.2 h4
      rw [b4] at HV
      clear h3 h4
      go_enter Try.func30, Try.ntmps30
      go_wp2_with fail
      refine Calls.mono HS.out ?_
      rintro r w2 ⟨rfl, hb2⟩
      obtain ⟨⟨x2, x3, x4⟩, ⟨y2, y3, y4⟩⟩ := HX.out w2 hb2
      have HB2 := hide (HB.out.trans (hb2.mono HB.out.size))
      clear hb2
      cases hb5 : (d.lab.toList == e.lab.toList)
      · rw [hb5] at HV
        go_wp2_with fail
        go_ret
        exact ⟨by rw [HV.out]; rfl, HB2.out⟩
      · rw [hb5] at HV
        go_wp2_with fail
        go_ret
        exact ⟨by rw [HV.out]; rfl, HB2.out⟩
    · have b4 : (d.many == e.many) = false := beq_eq_false_iff_ne.2 h4
      rw [b4] at HV
      clear h3 h4
      go_enter Try.func30, Try.ntmps30
      go_wp2_with fail
      refine Calls.mono HS.out ?_
      rintro r w2 ⟨rfl, hb2⟩
      obtain ⟨⟨x2, x3, x4⟩, ⟨y2, y3, y4⟩⟩ := HX.out w2 hb2
      have HB2 := hide (HB.out.trans (hb2.mono HB.out.size))
      clear hb2
      go_wp2_with fail
      go_ret
      exact ⟨by rw [HV.out]; rfl, HB2.out⟩
  · have b3 : (d.pos == e.pos) = false := beq_eq_false_iff_ne.2 h3
    rw [b3] at HV
    clear h3
    go_enter Try.func30, Try.ntmps30
    go_wp2_with fail
    refine Calls.mono HS.out ?_
    rintro r w2 ⟨rfl, hb2⟩
    obtain ⟨⟨x2, x3, x4⟩, ⟨y2, y3, y4⟩⟩ := HX.out w2 hb2
    have HB2 := hide (HB.out.trans (hb2.mono HB.out.size))
    clear hb2
    go_wp2_with fail
    go_ret
    exact ⟨by rw [HV.out]; rfl, HB2.out⟩
end Go.Proofs.Ytcknganggcbkjab.Deed
