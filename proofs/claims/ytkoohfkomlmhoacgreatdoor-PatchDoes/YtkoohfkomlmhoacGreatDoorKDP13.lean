/- What package pleachingref says of deeds: DeedFault, SameDeed. Of the program's text. -/
/- map3 and DeedIn of package pleachingref: the deed that has that line. Of the program's text. -/
import Derived.Test.YtkoohfkomlmhoacGreatDoorProg
import Derived.Deep.LoopGhost
import Derived.WalkSmall
import Derived.Test.YtkoohfkomlmhoacGreatDoorKDP03
import Derived.Test.YtkoohfkomlmhoacGreatDoorKDP06
import Derived.Test.YtkoohfkomlmhoacGreatDoorKDP12
namespace Go.Proofs.YtkoohfkomlmhoacGreatDoor.Deed
open Go.Deep Go.RowKit
set_option linter.unusedVariables false
set_option maxRecDepth 20000

/-- A deed as a value, its path behind an address. -/
def ddV (d : Dd) (pa : Option Addr) (pcap : Nat) : Value := .agg #[.int .i64 d.kind, .slice pa d.path.length pcap, .int .i64 d.pos, .int .i64 d.many, .string d.lab]
structure DIn (w : World) (d : Dd) (pa : Option Addr) (pcap : Nat) : Prop where
  path : PIn w pa d.path
  len : d.path.length ≤ pcap
  cap : pcap ≤ maxLen
  lab : d.lab.size ≤ maxLen
theorem DIn.below {w w' : World} {d : Dd} {pa : Option Addr} {pcap : Nat} (h : DIn w d pa pcap) (hb : Below w.heap.size w w') : DIn w' d pa pcap := ⟨h.path.below hb, h.len, h.cap, h.lab⟩

set_option maxHeartbeats 4000000 in
theorem refDF_one (path : List Int) (pos many : Int) (lab : ByteArray) (pa : Option Addr) (pcap : Nat) (w : World) (hpi : PIn w pa path) (hpl : path.length ≤ pcap) (hpc : pcap ≤ maxLen) (hls : lab.size ≤ maxLen) :
    Calls Tryz.prog 42 #[ddV ⟨1, path, pos, many, lab⟩ pa pcap] w fun e w' => e = .returned (.int .i64 (deedFault ⟨1, path, pos, many, lab⟩)) ∧ Below w.heap.size w w' := by
  unfold ddV
  unfold maxLen at hpc
  simp only
  by_cases hz : pos = 0 ∧ many = 0
  · obtain ⟨rfl, rfl⟩ := hz
    go_enter Tryz.func42, Tryz.ntmps42
    go_wp2_with fail
    go_loopg [3, 4] path.length (fun gk v3 v4 wr => ∃ i : Nat, gk = path.length - i ∧ i ≤ path.length ∧ v4 = .int .i64 (i : Nat) ∧ v3 = .bool (false || (path.take i).any (fun p => decide (p < 0))) ∧ Below w.heap.size w wr ∧ wr.heap[w.heap.size]? = some (Obj.cells #[.int .i64 1, .slice pa path.length pcap, .int .i64 0, .int .i64 0, .string lab] 38))
    case atStart => exact ⟨0, rfl, Nat.zero_le _, rfl, by simp, (Below.refl _ _).alloc (Nat.le_refl _) _, heap_alloc_new _ _⟩
    case round =>
      obtain ⟨i, hgk, hi, rfl, rfl, hb, hbox⟩ := hrel
      have q0 : wr.cell? ⟨w.heap.size, 0, none⟩ = some (.int .i64 1) := by rw [cell_of_row _ _ 0 _ _ _ hbox]; rfl
      have q1 : wr.cell? ⟨w.heap.size, 1, none⟩ = some (.slice pa path.length pcap) := by rw [cell_of_row _ _ 1 _ _ _ hbox]; rfl
      have q4 : wr.cell? ⟨w.heap.size, 4, none⟩ = some (.string lab) := by rw [cell_of_row _ _ 4 _ _ _ hbox]; rfl
      have HB := hide hb
      have HX := hide hbox
      have hbl := hb.size
      clear hb hbox
      obtain ⟨bb, hbb⟩ : ∃ bb, bb = (false || (path.take i).any (fun p => decide (p < 0))) := ⟨_, rfl⟩
      rw [← hbb]
      by_cases hin : i < path.length
      · obtain ⟨p, hp⟩ : ∃ p, path[i]? = some p := ⟨_, List.getElem?_eq_getElem hin⟩
        have HA := hide (show (false || (path.take (i + 1)).any (fun p => decide (p < 0))) = (bb || decide (p < 0)) by rw [hbb, List.take_succ_eq_append_getElem hin, List.any_append, ← Bool.or_assoc, show path[i] = p by simpa [List.getElem?_eq_getElem hin] using hp]; simp)
        have q5 : ∃ b o, pa = some ⟨b, o, none⟩ ∧ wr.cell? ⟨b, o + i, none⟩ = some (.int .i64 p) := by
          rcases hpi with rfl | ⟨b, o, rfl, h⟩
          · simp at hin
          · refine ⟨b, o, rfl, ?_⟩
            have h1 := h i p hp
            rw [HB.out.cell (World.block_lt_of_cell? _ _ h1)]
            exact h1
        obtain ⟨b, o, rfl, q5⟩ := q5
        clear hbb hp
        cases bb
        · go_wp2_with fail
          go_roundg (path.length - (i + 1))
          case measure => omega
          case rel => exact ⟨i + 1, rfl, by omega, by go_num, by rw [HA.out]; simp, HB.out, HX.out⟩
        · go_wp2_with fail
          go_roundg (path.length - (i + 1))
          case measure => omega
          case rel => exact ⟨i + 1, rfl, by omega, by go_num, by rw [HA.out]; rfl, HB.out, HX.out⟩
      · have hie : i = path.length := by omega
        subst hie
        rw [List.take_length] at hbb
        have hm := deedFault_mid (K := 1) (path := path) (P := 0) (M := 0) (lab := lab) (by decide) (by simp) (B := false) rfl
        cases bb
        · have HF := hide (hm.2 hbb.symm)
          clear hbb hm
          cases hl : labelB lab
          · go_wp2_with fail
            refine (isLabel_any lab _ hls).mono ?_
            rintro e w2 ⟨rfl, rfl⟩
            rw [hl]
            go_wp2_with fail
            go_ret
            exact ⟨by rw [HF.out, hl]; rfl, HB.out⟩
          · go_wp2_with fail
            refine (isLabel_any lab _ hls).mono ?_
            rintro e w2 ⟨rfl, rfl⟩
            rw [hl]
            go_wp2_with fail
            go_ret
            exact ⟨by rw [HF.out, hl]; rfl, HB.out⟩
        · have HF := hide (hm.1 hbb.symm)
          clear hbb hm
          go_wp2_with fail
          go_ret
          exact ⟨by rw [HF.out]; rfl, HB.out⟩
  · have HF := hide (deedFault_form (K := 1) (P := pos) (M := many) (path := path) (lab := lab) (by decide) (Or.inl ⟨by decide, by omega⟩))
    by_cases hq : pos = 0
    · have hr : many ≠ 0 := fun e => hz ⟨hq, e⟩
      subst hq
      clear hz
      go_enter Tryz.func42, Tryz.ntmps42
      go_wp2_with fail
      go_ret
      exact ⟨by rw [HF.out]; rfl, (Below.refl _ _).alloc (Nat.le_refl _) _⟩
    · clear hz
      go_enter Tryz.func42, Tryz.ntmps42
      go_wp2_with fail
      go_ret
      exact ⟨by rw [HF.out]; rfl, (Below.refl _ _).alloc (Nat.le_refl _) _⟩

set_option maxHeartbeats 4000000 in
theorem refDF_two (path : List Int) (pos many : Int) (lab : ByteArray) (pa : Option Addr) (pcap : Nat) (w : World) (hpi : PIn w pa path) (hpl : path.length ≤ pcap) (hpc : pcap ≤ maxLen) (hls : lab.size ≤ maxLen) :
    Calls Tryz.prog 42 #[ddV ⟨2, path, pos, many, lab⟩ pa pcap] w fun e w' => e = .returned (.int .i64 (deedFault ⟨2, path, pos, many, lab⟩)) ∧ Below w.heap.size w w' := by
  unfold ddV
  unfold maxLen at hpc
  simp only
  by_cases hz : pos = 0 ∧ many = 0
  · obtain ⟨rfl, rfl⟩ := hz
    by_cases he : lab = ⟨#[]⟩
    · subst he
      go_enter Tryz.func42, Tryz.ntmps42
      go_wp2_with fail
      go_loopg [3, 4] path.length (fun gk v3 v4 wr => ∃ i : Nat, gk = path.length - i ∧ i ≤ path.length ∧ v4 = .int .i64 (i : Nat) ∧ v3 = .bool (false || (path.take i).any (fun p => decide (p < 0))) ∧ Below w.heap.size w wr ∧ wr.heap[w.heap.size]? = some (Obj.cells #[.int .i64 2, .slice pa path.length pcap, .int .i64 0, .int .i64 0, .string ⟨#[]⟩] 38))
      case atStart => exact ⟨0, rfl, Nat.zero_le _, rfl, by simp, (Below.refl _ _).alloc (Nat.le_refl _) _, heap_alloc_new _ _⟩
      case round =>
        obtain ⟨i, hgk, hi, rfl, rfl, hb, hbox⟩ := hrel
        have q0 : wr.cell? ⟨w.heap.size, 0, none⟩ = some (.int .i64 2) := by rw [cell_of_row _ _ 0 _ _ _ hbox]; rfl
        have q1 : wr.cell? ⟨w.heap.size, 1, none⟩ = some (.slice pa path.length pcap) := by rw [cell_of_row _ _ 1 _ _ _ hbox]; rfl
        have q4 : wr.cell? ⟨w.heap.size, 4, none⟩ = some (.string ⟨#[]⟩) := by rw [cell_of_row _ _ 4 _ _ _ hbox]; rfl
        have HB := hide hb
        have HX := hide hbox
        have hbl := hb.size
        clear hb hbox
        obtain ⟨bb, hbb⟩ : ∃ bb, bb = (false || (path.take i).any (fun p => decide (p < 0))) := ⟨_, rfl⟩
        rw [← hbb]
        by_cases hin : i < path.length
        · obtain ⟨p, hp⟩ : ∃ p, path[i]? = some p := ⟨_, List.getElem?_eq_getElem hin⟩
          have HA := hide (show (false || (path.take (i + 1)).any (fun p => decide (p < 0))) = (bb || decide (p < 0)) by rw [hbb, List.take_succ_eq_append_getElem hin, List.any_append, ← Bool.or_assoc, show path[i] = p by simpa [List.getElem?_eq_getElem hin] using hp]; simp)
          have q5 : ∃ b o, pa = some ⟨b, o, none⟩ ∧ wr.cell? ⟨b, o + i, none⟩ = some (.int .i64 p) := by
            rcases hpi with rfl | ⟨b, o, rfl, h⟩
            · simp at hin
            · refine ⟨b, o, rfl, ?_⟩
              have h1 := h i p hp
              rw [HB.out.cell (World.block_lt_of_cell? _ _ h1)]
              exact h1
          obtain ⟨b, o, rfl, q5⟩ := q5
          clear hbb hp
          cases bb
          · go_wp2_with fail
            go_roundg (path.length - (i + 1))
            case measure => omega
            case rel => exact ⟨i + 1, rfl, by omega, by go_num, by rw [HA.out]; simp, HB.out, HX.out⟩
          · go_wp2_with fail
            go_roundg (path.length - (i + 1))
            case measure => omega
            case rel => exact ⟨i + 1, rfl, by omega, by go_num, by rw [HA.out]; rfl, HB.out, HX.out⟩
        · have hie : i = path.length := by omega
          subst hie
          rw [List.take_length] at hbb
          have hm := deedFault_mid (K := 2) (path := path) (P := 0) (M := 0) (lab := ⟨#[]⟩) (by decide) (by simp) (B := false) rfl
          cases bb
          · have HF := hide (hm.2 hbb.symm)
            clear hbb hm
            by_cases hp0 : path = []
            · subst hp0
              go_wp2_with fail
              go_ret
              exact ⟨by rw [HF.out]; rfl, HB.out⟩
            · have hpl : 0 < path.length := List.length_pos_iff.2 hp0
              have HP := hide hp0
              clear hp0
              go_wp2_with fail
              go_ret
              exact ⟨by rw [HF.out, if_neg (by simp), if_neg (fun e => HP.out e.2)]; rfl, HB.out⟩
          · have HF := hide (hm.1 hbb.symm)
            clear hbb hm
            go_wp2_with fail
            go_ret
            exact ⟨by rw [HF.out]; rfl, HB.out⟩
    · have HF := hide (deedFault_form (K := 2) (P := 0) (M := 0) (path := path) (lab := lab) (by decide) (Or.inr ⟨rfl, he⟩))
      have hb : (lab.toList == []) = false := by
        refine beq_eq_false_iff_ne.2 fun h1 => he ?_
        rw [ByteArray.toList_eq] at h1
        obtain ⟨⟨x⟩⟩ := lab
        have : x = [] := h1
        rw [this]
      clear he
      go_enter Tryz.func42, Tryz.ntmps42
      go_wp2_with fail
      go_ret
      exact ⟨by rw [HF.out]; rfl, (Below.refl _ _).alloc (Nat.le_refl _) _⟩
  · have HF := hide (deedFault_form (K := 2) (P := pos) (M := many) (path := path) (lab := lab) (by decide) (Or.inl ⟨by decide, by omega⟩))
    by_cases hq : pos = 0
    · have hr : many ≠ 0 := fun e => hz ⟨hq, e⟩
      subst hq
      clear hz
      go_enter Tryz.func42, Tryz.ntmps42
      go_wp2_with fail
      go_ret
      exact ⟨by rw [HF.out]; rfl, (Below.refl _ _).alloc (Nat.le_refl _) _⟩
    · clear hz
      go_enter Tryz.func42, Tryz.ntmps42
      go_wp2_with fail
      go_ret
      exact ⟨by rw [HF.out]; rfl, (Below.refl _ _).alloc (Nat.le_refl _) _⟩

set_option maxHeartbeats 4000000 in
theorem refDF_three (path : List Int) (pos many : Int) (lab : ByteArray) (pa : Option Addr) (pcap : Nat) (w : World) (hpi : PIn w pa path) (hpl : path.length ≤ pcap) (hpc : pcap ≤ maxLen) (hls : lab.size ≤ maxLen) :
    Calls Tryz.prog 42 #[ddV ⟨3, path, pos, many, lab⟩ pa pcap] w fun e w' => e = .returned (.int .i64 (deedFault ⟨3, path, pos, many, lab⟩)) ∧ Below w.heap.size w w' := by
  unfold ddV
  unfold maxLen at hpc
  simp only
  by_cases hq : pos < 0
  · have hd : decide (pos < 0) = true := decide_eq_true hq
    go_enter Tryz.func42, Tryz.ntmps42
    go_wp2_with fail
    go_loopg [3, 4] path.length (fun gk v3 v4 wr => ∃ i : Nat, gk = path.length - i ∧ i ≤ path.length ∧ v4 = .int .i64 (i : Nat) ∧ v3 = .bool (true || (path.take i).any (fun p => decide (p < 0))) ∧ Below w.heap.size w wr ∧ wr.heap[w.heap.size]? = some (Obj.cells #[.int .i64 3, .slice pa path.length pcap, .int .i64 pos, .int .i64 many, .string lab] 38))
    case atStart => exact ⟨0, rfl, Nat.zero_le _, rfl, by simp, (Below.refl _ _).alloc (Nat.le_refl _) _, heap_alloc_new _ _⟩
    case round =>
      obtain ⟨i, hgk, hi, rfl, rfl, hb, hbox⟩ := hrel
      have q0 : wr.cell? ⟨w.heap.size, 0, none⟩ = some (.int .i64 3) := by rw [cell_of_row _ _ 0 _ _ _ hbox]; rfl
      have q1 : wr.cell? ⟨w.heap.size, 1, none⟩ = some (.slice pa path.length pcap) := by rw [cell_of_row _ _ 1 _ _ _ hbox]; rfl
      have q4 : wr.cell? ⟨w.heap.size, 4, none⟩ = some (.string lab) := by rw [cell_of_row _ _ 4 _ _ _ hbox]; rfl
      have HB := hide hb
      have HX := hide hbox
      have hbl := hb.size
      clear hb hbox
      obtain ⟨bb, hbb⟩ : ∃ bb, bb = (true || (path.take i).any (fun p => decide (p < 0))) := ⟨_, rfl⟩
      rw [← hbb]
      by_cases hin : i < path.length
      · obtain ⟨p, hp⟩ : ∃ p, path[i]? = some p := ⟨_, List.getElem?_eq_getElem hin⟩
        have HA := hide (show (true || (path.take (i + 1)).any (fun p => decide (p < 0))) = (bb || decide (p < 0)) by rw [hbb, List.take_succ_eq_append_getElem hin, List.any_append, ← Bool.or_assoc, show path[i] = p by simpa [List.getElem?_eq_getElem hin] using hp]; simp)
        have q5 : ∃ b o, pa = some ⟨b, o, none⟩ ∧ wr.cell? ⟨b, o + i, none⟩ = some (.int .i64 p) := by
          rcases hpi with rfl | ⟨b, o, rfl, h⟩
          · simp at hin
          · refine ⟨b, o, rfl, ?_⟩
            have h1 := h i p hp
            rw [HB.out.cell (World.block_lt_of_cell? _ _ h1)]
            exact h1
        obtain ⟨b, o, rfl, q5⟩ := q5
        clear hbb hp
        cases bb
        · go_wp2_with fail
          go_roundg (path.length - (i + 1))
          case measure => omega
          case rel => exact ⟨i + 1, rfl, by omega, by go_num, by rw [HA.out]; simp, HB.out, HX.out⟩
        · go_wp2_with fail
          go_roundg (path.length - (i + 1))
          case measure => omega
          case rel => exact ⟨i + 1, rfl, by omega, by go_num, by rw [HA.out]; rfl, HB.out, HX.out⟩
      · have hie : i = path.length := by omega
        subst hie
        rw [List.take_length] at hbb
        have hm := deedFault_mid (K := 3) (path := path) (P := pos) (M := many) (lab := lab) (by decide) (by simp) (B := true) (by rw [hd]; rfl)
        cases bb
        · have HF := hide (hm.2 hbb.symm)
          clear hbb hm
          cases hl : labelB lab
          · go_wp2_with fail
            refine (isLabel_any lab _ hls).mono ?_
            rintro e w2 ⟨rfl, rfl⟩
            rw [hl]
            go_wp2_with fail
            go_ret
            exact ⟨by rw [HF.out, hl]; rfl, HB.out⟩
          · go_wp2_with fail
            refine (isLabel_any lab _ hls).mono ?_
            rintro e w2 ⟨rfl, rfl⟩
            rw [hl]
            go_wp2_with fail
            go_ret
            exact ⟨by rw [HF.out, hl]; rfl, HB.out⟩
        · have HF := hide (hm.1 hbb.symm)
          clear hbb hm
          go_wp2_with fail
          go_ret
          exact ⟨by rw [HF.out]; rfl, HB.out⟩
  · by_cases hr : many < 0
    · have hd : decide (pos < 0) = false := decide_eq_false hq
      have hd2 : decide (many < 0) = true := decide_eq_true hr
      go_enter Tryz.func42, Tryz.ntmps42
      go_wp2_with fail
      go_loopg [3, 4] path.length (fun gk v3 v4 wr => ∃ i : Nat, gk = path.length - i ∧ i ≤ path.length ∧ v4 = .int .i64 (i : Nat) ∧ v3 = .bool (true || (path.take i).any (fun p => decide (p < 0))) ∧ Below w.heap.size w wr ∧ wr.heap[w.heap.size]? = some (Obj.cells #[.int .i64 3, .slice pa path.length pcap, .int .i64 pos, .int .i64 many, .string lab] 38))
      case atStart => exact ⟨0, rfl, Nat.zero_le _, rfl, by simp, (Below.refl _ _).alloc (Nat.le_refl _) _, heap_alloc_new _ _⟩
      case round =>
        obtain ⟨i, hgk, hi, rfl, rfl, hb, hbox⟩ := hrel
        have q0 : wr.cell? ⟨w.heap.size, 0, none⟩ = some (.int .i64 3) := by rw [cell_of_row _ _ 0 _ _ _ hbox]; rfl
        have q1 : wr.cell? ⟨w.heap.size, 1, none⟩ = some (.slice pa path.length pcap) := by rw [cell_of_row _ _ 1 _ _ _ hbox]; rfl
        have q4 : wr.cell? ⟨w.heap.size, 4, none⟩ = some (.string lab) := by rw [cell_of_row _ _ 4 _ _ _ hbox]; rfl
        have HB := hide hb
        have HX := hide hbox
        have hbl := hb.size
        clear hb hbox
        obtain ⟨bb, hbb⟩ : ∃ bb, bb = (true || (path.take i).any (fun p => decide (p < 0))) := ⟨_, rfl⟩
        rw [← hbb]
        by_cases hin : i < path.length
        · obtain ⟨p, hp⟩ : ∃ p, path[i]? = some p := ⟨_, List.getElem?_eq_getElem hin⟩
          have HA := hide (show (true || (path.take (i + 1)).any (fun p => decide (p < 0))) = (bb || decide (p < 0)) by rw [hbb, List.take_succ_eq_append_getElem hin, List.any_append, ← Bool.or_assoc, show path[i] = p by simpa [List.getElem?_eq_getElem hin] using hp]; simp)
          have q5 : ∃ b o, pa = some ⟨b, o, none⟩ ∧ wr.cell? ⟨b, o + i, none⟩ = some (.int .i64 p) := by
            rcases hpi with rfl | ⟨b, o, rfl, h⟩
            · simp at hin
            · refine ⟨b, o, rfl, ?_⟩
              have h1 := h i p hp
              rw [HB.out.cell (World.block_lt_of_cell? _ _ h1)]
              exact h1
          obtain ⟨b, o, rfl, q5⟩ := q5
          clear hbb hp
          cases bb
          · go_wp2_with fail
            go_roundg (path.length - (i + 1))
            case measure => omega
            case rel => exact ⟨i + 1, rfl, by omega, by go_num, by rw [HA.out]; simp, HB.out, HX.out⟩
          · go_wp2_with fail
            go_roundg (path.length - (i + 1))
            case measure => omega
            case rel => exact ⟨i + 1, rfl, by omega, by go_num, by rw [HA.out]; rfl, HB.out, HX.out⟩
        · have hie : i = path.length := by omega
          subst hie
          rw [List.take_length] at hbb
          have hm := deedFault_mid (K := 3) (path := path) (P := pos) (M := many) (lab := lab) (by decide) (by simp) (B := true) (by rw [hd, hd2]; rfl)
          cases bb
          · have HF := hide (hm.2 hbb.symm)
            clear hbb hm
            cases hl : labelB lab
            · go_wp2_with fail
              refine (isLabel_any lab _ hls).mono ?_
              rintro e w2 ⟨rfl, rfl⟩
              rw [hl]
              go_wp2_with fail
              go_ret
              exact ⟨by rw [HF.out, hl]; rfl, HB.out⟩
            · go_wp2_with fail
              refine (isLabel_any lab _ hls).mono ?_
              rintro e w2 ⟨rfl, rfl⟩
              rw [hl]
              go_wp2_with fail
              go_ret
              exact ⟨by rw [HF.out, hl]; rfl, HB.out⟩
          · have HF := hide (hm.1 hbb.symm)
            clear hbb hm
            go_wp2_with fail
            go_ret
            exact ⟨by rw [HF.out]; rfl, HB.out⟩
    · have hd : decide (pos < 0) = false := decide_eq_false hq
      have hd2 : decide (many < 0) = false := decide_eq_false hr
      go_enter Tryz.func42, Tryz.ntmps42
      go_wp2_with fail
      go_loopg [3, 4] path.length (fun gk v3 v4 wr => ∃ i : Nat, gk = path.length - i ∧ i ≤ path.length ∧ v4 = .int .i64 (i : Nat) ∧ v3 = .bool (false || (path.take i).any (fun p => decide (p < 0))) ∧ Below w.heap.size w wr ∧ wr.heap[w.heap.size]? = some (Obj.cells #[.int .i64 3, .slice pa path.length pcap, .int .i64 pos, .int .i64 many, .string lab] 38))
      case atStart => exact ⟨0, rfl, Nat.zero_le _, rfl, by simp, (Below.refl _ _).alloc (Nat.le_refl _) _, heap_alloc_new _ _⟩
      case round =>
        obtain ⟨i, hgk, hi, rfl, rfl, hb, hbox⟩ := hrel
        have q0 : wr.cell? ⟨w.heap.size, 0, none⟩ = some (.int .i64 3) := by rw [cell_of_row _ _ 0 _ _ _ hbox]; rfl
        have q1 : wr.cell? ⟨w.heap.size, 1, none⟩ = some (.slice pa path.length pcap) := by rw [cell_of_row _ _ 1 _ _ _ hbox]; rfl
        have q4 : wr.cell? ⟨w.heap.size, 4, none⟩ = some (.string lab) := by rw [cell_of_row _ _ 4 _ _ _ hbox]; rfl
        have HB := hide hb
        have HX := hide hbox
        have hbl := hb.size
        clear hb hbox
        obtain ⟨bb, hbb⟩ : ∃ bb, bb = (false || (path.take i).any (fun p => decide (p < 0))) := ⟨_, rfl⟩
        rw [← hbb]
        by_cases hin : i < path.length
        · obtain ⟨p, hp⟩ : ∃ p, path[i]? = some p := ⟨_, List.getElem?_eq_getElem hin⟩
          have HA := hide (show (false || (path.take (i + 1)).any (fun p => decide (p < 0))) = (bb || decide (p < 0)) by rw [hbb, List.take_succ_eq_append_getElem hin, List.any_append, ← Bool.or_assoc, show path[i] = p by simpa [List.getElem?_eq_getElem hin] using hp]; simp)
          have q5 : ∃ b o, pa = some ⟨b, o, none⟩ ∧ wr.cell? ⟨b, o + i, none⟩ = some (.int .i64 p) := by
            rcases hpi with rfl | ⟨b, o, rfl, h⟩
            · simp at hin
            · refine ⟨b, o, rfl, ?_⟩
              have h1 := h i p hp
              rw [HB.out.cell (World.block_lt_of_cell? _ _ h1)]
              exact h1
          obtain ⟨b, o, rfl, q5⟩ := q5
          clear hbb hp
          cases bb
          · go_wp2_with fail
            go_roundg (path.length - (i + 1))
            case measure => omega
            case rel => exact ⟨i + 1, rfl, by omega, by go_num, by rw [HA.out]; simp, HB.out, HX.out⟩
          · go_wp2_with fail
            go_roundg (path.length - (i + 1))
            case measure => omega
            case rel => exact ⟨i + 1, rfl, by omega, by go_num, by rw [HA.out]; rfl, HB.out, HX.out⟩
        · have hie : i = path.length := by omega
          subst hie
          rw [List.take_length] at hbb
          have hm := deedFault_mid (K := 3) (path := path) (P := pos) (M := many) (lab := lab) (by decide) (by simp) (B := false) (by rw [hd, hd2]; rfl)
          cases bb
          · have HF := hide (hm.2 hbb.symm)
            clear hbb hm
            cases hl : labelB lab
            · go_wp2_with fail
              refine (isLabel_any lab _ hls).mono ?_
              rintro e w2 ⟨rfl, rfl⟩
              rw [hl]
              go_wp2_with fail
              go_ret
              exact ⟨by rw [HF.out, hl]; rfl, HB.out⟩
            · go_wp2_with fail
              refine (isLabel_any lab _ hls).mono ?_
              rintro e w2 ⟨rfl, rfl⟩
              rw [hl]
              go_wp2_with fail
              go_ret
              exact ⟨by rw [HF.out, hl]; rfl, HB.out⟩
          · have HF := hide (hm.1 hbb.symm)
            clear hbb hm
            go_wp2_with fail
            go_ret
            exact ⟨by rw [HF.out]; rfl, HB.out⟩

set_option maxHeartbeats 1000000 in
theorem refDF_any (d : Dd) (pa : Option Addr) (pcap : Nat) (w : World) (h : DIn w d pa pcap) :
    Calls Tryz.prog 42 #[ddV d pa pcap] w fun e w' => e = .returned (.int .i64 (deedFault d)) ∧ Below w.heap.size w w' := by
  obtain ⟨K, path, pos, many, lab⟩ := d
  obtain ⟨h1, h2, h3, h4⟩ := h
  by_cases k1 : K = 1
  · subst k1
    exact refDF_one path pos many lab pa pcap w h1 h2 h3 h4
  · by_cases k2 : K = 2
    · subst k2
      exact refDF_two path pos many lab pa pcap w h1 h2 h3 h4
    · by_cases k3 : K = 3
      · subst k3
        exact refDF_three path pos many lab pa pcap w h1 h2 h3 h4
      · have HF := hide (deedFault_kind (K := K) (P := pos) (M := many) (path := path) (lab := lab) k1 k2 k3)
        have n1 : (K != 1) = true := by simp [k1]
        have n2 : (K != 2) = true := by simp [k2]
        have n3 : (K != 3) = true := by simp [k3]
        unfold ddV
        simp only
        clear h1 h2 h3 h4 k1 k2 k3
        go_enter Tryz.func42, Tryz.ntmps42
        go_wp2_with fail
        go_ret
        exact ⟨by rw [HF.out]; rfl, (Below.refl _ _).alloc (Nat.le_refl _) _⟩

/-- Are they the same? -/
def sameDd (d e : Dd) : Bool := d.kind == e.kind && decide (d.path = e.path) && d.pos == e.pos && d.many == e.many && d.lab.toList == e.lab.toList
theorem sameDd_iff (d e : Dd) : sameDd d e = true ↔ d = e := by
  obtain ⟨a, b, c, m, l⟩ := d
  obtain ⟨a', b', c', m', l'⟩ := e
  simp only [sameDd, Bool.and_eq_true, beq_iff_eq, decide_eq_true_eq, Dd.mk.injEq]
  constructor
  · rintro ⟨⟨⟨⟨h1, h2⟩, h3⟩, h4⟩, h5⟩
    refine ⟨h1, h2, h3, h4, ?_⟩
    rw [ByteArray.toList_eq, ByteArray.toList_eq] at h5
    obtain ⟨⟨x⟩⟩ := l
    obtain ⟨⟨y⟩⟩ := l'
    have : x = y := h5
    rw [this]
  · rintro ⟨h1, h2, h3, h4, h5⟩
    exact ⟨⟨⟨⟨h1, h2⟩, h3⟩, h4⟩, by rw [h5]⟩

set_option maxHeartbeats 2000000 in
theorem sameD_any (d e : Dd) (pa pb : Option Addr) (pc qc : Nat) (w : World) (hd : DIn w d pa pc) (he : DIn w e pb qc) (hl : d.path.length ≤ 100000) :
    Calls Tryz.prog 19 #[ddV d pa pc, ddV e pb qc] w fun r w' => r = .returned (.bool (sameDd d e)) ∧ Below w.heap.size w w' := by
  unfold ddV
  have hbx : Below w.heap.size w ((w.alloc (Obj.cells #[.int .i64 d.kind, .slice pa d.path.length pc, .int .i64 d.pos, .int .i64 d.many, .string d.lab] 38)).alloc (Obj.cells #[.int .i64 e.kind, .slice pb e.path.length qc, .int .i64 e.pos, .int .i64 e.many, .string e.lab] 38)) := ((Below.refl _ _).alloc (Nat.le_refl _) _).alloc (by simp) _
  have HS := hide (sameI_any pa pb pc qc d.path e.path _ (hd.path.below hbx) (he.path.below hbx) hl (Nat.le_trans he.len he.cap))
  have HB := hide hbx
  have hc1 := hd.cap
  have hc2 := he.cap
  unfold maxLen at hc1 hc2
  by_cases h1 : d.kind = e.kind
  case neg =>
    have b1 : (d.kind == e.kind) = false := beq_eq_false_iff_ne.2 h1
    have HV := hide (show sameDd d e = false by unfold sameDd; simp [b1])
    clear hd he h1 hbx HS
    go_enter Tryz.func19, Tryz.ntmps19
    go_wp2_with fail
    go_ret
    exact ⟨by rw [HV.out]; rfl, HB.out⟩
  have b1 : (d.kind == e.kind) = true := beq_iff_eq.2 h1
  by_cases h2 : d.path = e.path
  case neg =>
    have b2 := decide_eq_false h2
    have HV := hide (show sameDd d e = false by unfold sameDd; simp [b2])
    rw [b2] at HS
    clear hd he h1 h2 hbx b2
    go_enter Tryz.func19, Tryz.ntmps19
    go_wp2_with fail
    refine Calls.mono HS.out ?_
    rintro r w2 ⟨rfl, hb2⟩
    have HB2 := hide (HB.out.trans (hb2.mono HB.out.size))
    clear hb2
    go_wp2_with fail
    go_ret
    exact ⟨by rw [HV.out]; rfl, HB2.out⟩
  have b2 := decide_eq_true h2
  rw [b2] at HS
  have HX : Hid (∀ w2, Below ((w.alloc (Obj.cells #[.int .i64 d.kind, .slice pa d.path.length pc, .int .i64 d.pos, .int .i64 d.many, .string d.lab] 38)).alloc (Obj.cells #[.int .i64 e.kind, .slice pb e.path.length qc, .int .i64 e.pos, .int .i64 e.many, .string e.lab] 38)).heap.size ((w.alloc (Obj.cells #[.int .i64 d.kind, .slice pa d.path.length pc, .int .i64 d.pos, .int .i64 d.many, .string d.lab] 38)).alloc (Obj.cells #[.int .i64 e.kind, .slice pb e.path.length qc, .int .i64 e.pos, .int .i64 e.many, .string e.lab] 38)) w2 →
      (w2.cell? ⟨w.heap.size, 2, none⟩ = some (.int .i64 d.pos) ∧ w2.cell? ⟨w.heap.size, 3, none⟩ = some (.int .i64 d.many) ∧ w2.cell? ⟨w.heap.size, 4, none⟩ = some (.string d.lab)) ∧ (w2.cell? ⟨w.heap.size + 1, 2, none⟩ = some (.int .i64 e.pos) ∧ w2.cell? ⟨w.heap.size + 1, 3, none⟩ = some (.int .i64 e.many) ∧ w2.cell? ⟨w.heap.size + 1, 4, none⟩ = some (.string e.lab))) := hide fun w2 hb => by
    refine ⟨⟨?_, ?_, ?_⟩, ⟨?_, ?_, ?_⟩⟩
    · rw [hb.cell (by simp <;> omega)]; go_simp
    · rw [hb.cell (by simp <;> omega)]; go_simp
    · rw [hb.cell (by simp <;> omega)]; go_simp
    · rw [hb.cell (by simp)]; go_simp
    · rw [hb.cell (by simp)]; go_simp
    · rw [hb.cell (by simp)]; go_simp
  have HV := hide (show sameDd d e = (d.pos == e.pos && d.many == e.many && d.lab.toList == e.lab.toList) by unfold sameDd; rw [b1, b2]; simp)
  clear hd he h1 h2 hbx b2
  by_cases h3 : d.pos = e.pos
  · have b3 : (d.pos == e.pos) = true := beq_iff_eq.2 h3
    rw [b3] at HV
    by_cases h4 : d.many = e.many
    · have b4 : (d.many == e.many) = true := beq_iff_eq.2 h4
      rw [b4] at HV
      clear h3 h4
      go_enter Tryz.func19, Tryz.ntmps19
      go_wp2_with fail
      refine Calls.mono HS.out ?_
      rintro r w2 ⟨rfl, hb2⟩
      obtain ⟨⟨x2, x3, x4⟩, ⟨y2, y3, y4⟩⟩ := HX.out w2 hb2
      have HB2 := hide (HB.out.trans (hb2.mono HB.out.size))
      clear hb2
      cases hb5 : (d.lab.toList == e.lab.toList)
      · rw [hb5] at HV
        go_wp2_with fail
        go_ret
        exact ⟨by rw [HV.out]; rfl, HB2.out⟩
      · rw [hb5] at HV
        go_wp2_with fail
        go_ret
        exact ⟨by rw [HV.out]; rfl, HB2.out⟩
    · have b4 : (d.many == e.many) = false := beq_eq_false_iff_ne.2 h4
      rw [b4] at HV
      clear h3 h4
      go_enter Tryz.func19, Tryz.ntmps19
      go_wp2_with fail
      refine Calls.mono HS.out ?_
      rintro r w2 ⟨rfl, hb2⟩
      obtain ⟨⟨x2, x3, x4⟩, ⟨y2, y3, y4⟩⟩ := HX.out w2 hb2
      have HB2 := hide (HB.out.trans (hb2.mono HB.out.size))
      clear hb2
      go_wp2_with fail
      go_ret
      exact ⟨by rw [HV.out]; rfl, HB2.out⟩
  · have b3 : (d.pos == e.pos) = false := beq_eq_false_iff_ne.2 h3
    rw [b3] at HV
    clear h3
    go_enter Tryz.func19, Tryz.ntmps19
    go_wp2_with fail
    refine Calls.mono HS.out ?_
    rintro r w2 ⟨rfl, hb2⟩
    obtain ⟨⟨x2, x3, x4⟩, ⟨y2, y3, y4⟩⟩ := HX.out w2 hb2
    have HB2 := hide (HB.out.trans (hb2.mono HB.out.size))
    clear hb2
    go_wp2_with fail
    go_ret
    exact ⟨by rw [HV.out]; rfl, HB2.out⟩
end Go.Proofs.YtkoohfkomlmhoacGreatDoor.Deed
namespace Go.Proofs.YtkoohfkomlmhoacGreatDoor.Pat
open Go.Deep Go.RowKit Deed
set_option linter.unusedVariables false
set_option maxRecDepth 20000

theorem map3_any (s : List UInt8) (w : World) : Calls Tryz.prog 41 #[.string (str s)] w fun e w' => e = .returned (.int .i64 (map3P s : Nat)) ∧ w' = w := by
  have hs : (str s).toList = s := by rw [ByteArray.toList_eq]
  by_cases h1 : s = nameW
  · subst h1
    go_enter Tryz.func41, Tryz.ntmps41
    go_wp2_with fail
    go_ret
    exact ⟨rfl, rfl⟩
  · have b1 : (s == [110, 97, 109, 101]) = false := beq_eq_false_iff_ne.2 h1
    by_cases h2 : s = delW
    · subst h2
      go_enter Tryz.func41, Tryz.ntmps41
      go_wp2_with fail
      go_ret
      exact ⟨rfl, rfl⟩
    · have b2 : (s == [100, 101, 108, 101, 116, 101]) = false := beq_eq_false_iff_ne.2 h2
      by_cases h3 : s = insW
      · subst h3
        go_enter Tryz.func41, Tryz.ntmps41
        go_wp2_with fail
        go_ret
        exact ⟨rfl, rfl⟩
      · have b3 : (s == [105, 110, 115, 101, 114, 116]) = false := beq_eq_false_iff_ne.2 h3
        have HM := hide (show map3P s = 0 by unfold map3P; rw [if_neg h1, if_neg h2, if_neg h3])
        clear h1 h2 h3
        go_enter Tryz.func41, Tryz.ntmps41
        go_wp2_with fail
        go_ret
        exact ⟨by rw [HM.out]; rfl, rfl⟩
end Go.Proofs.YtkoohfkomlmhoacGreatDoor.Pat
