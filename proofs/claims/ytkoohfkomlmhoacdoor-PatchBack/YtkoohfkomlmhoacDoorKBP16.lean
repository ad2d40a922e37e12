/- Deed of package patch: the deed that has that line. Of the program's text. -/
/- The line of a deed by cases; what is kept of a deed's box. -/
import Derived.Test.YtkoohfkomlmhoacDoorProg
import Derived.Test.YtkoohfkomlmhoacDoorKBP14
import Derived.Test.YtkoohfkomlmhoacDoorKBP15
import Derived.Test.YtkoohfkomlmhoacDoorKBP11
import Derived.Test.YtkoohfkomlmhoacDoorKBP08
import Derived.Test.YtkoohfkomlmhoacDoorKBP13
namespace Go.Proofs.YtkoohfkomlmhoacDoor.Pat
open Go.Deep Go.RowKit Deed
set_option linter.unusedVariables false
set_option maxRecDepth 20000

/-- A cell that is written as it is. -/
theorem cell_self {w : World} {b o : Nat} {v : Value} (hp : BPlain w b) (h : w.cell? ⟨b, o, none⟩ = some v) : w.setCell ⟨b, o, none⟩ v = w := by
  obtain ⟨cs, e, hb⟩ := hp
  rw [cell_of_row _ _ o _ _ _ hb] at h
  have hh : (w.setCell ⟨b, o, none⟩ v).heap = w.heap := by
    apply Array.ext_getElem?
    intro j
    by_cases hj : j = b
    · subst hj
      simp only [World.setCell, Array.getElem?_modify, if_true, hb, Option.map_some, Option.isSome_none, Bool.false_eq_true, if_false]
      congr 2
      apply Array.ext_getElem?
      intro l
      by_cases hl : l = o
      · subst hl
        have hlt : l < cs.size := (Array.getElem?_eq_some_iff.1 h).1
        rw [Array.getElem?_setIfInBounds_self_of_lt hlt, h]
      · rw [Array.getElem?_setIfInBounds_ne (by omega)]
    · exact Below.heap_setCell _ _ _ _ hj
  show ({ w with heap := (w.setCell ⟨b, o, none⟩ v).heap } : World) = w
  rw [hh]
theorem deed_bad {s : List UInt8} {w w1 V : World} {d : Dd} (h : wordsD (cutP 32 s) = some d) (hf : deedFault d ≠ 0) (hb : Below w.heap.size w w1) (hV : V = put5 w1 w.heap.size (.int .i64 0) (.slice none 0 0) (.int .i64 0) (.int .i64 0) (.string ⟨#[]⟩)) :
    DeedEnd s w (.returned (.tuple #[.agg #[.int .i64 0, .slice none 0 0, .int .i64 0, .int .i64 0, .string ⟨#[]⟩], .int .i64 (deedFault d)])) V := by
  obtain ⟨h1, h2⟩ := deed_some h
  rw [if_neg hf] at h2
  refine ⟨none, 0, ?_, ?_, (fun g o h => by cases h), by rw [hV]; exact below_put5 hb _ _ _ _ _⟩
  · rw [h1, h2]; rfl
  · rw [h2]; exact DIn.noD V
theorem deed_good {s : List UInt8} {w w1 V : World} {d : Dd} {pa : Option Addr} {pc : Nat} (h : wordsD (cutP 32 s) = some d) (hf : deedFault d = 0) (hD : DIn w1 d pa pc) (hn : ∀ g o, pa = some ⟨g, o, none⟩ → w.heap.size < g) (hb : Below w.heap.size w w1) (hV : V = put5 w1 w.heap.size (.int .i64 d.kind) (.slice pa d.path.length pc) (.int .i64 d.pos) (.int .i64 d.many) (.string d.lab)) :
    DeedEnd s w (.returned (.tuple #[.agg #[.int .i64 d.kind, .slice pa d.path.length pc, .int .i64 d.pos, .int .i64 d.many, .string d.lab], .int .i64 0])) V := by
  obtain ⟨h1, h2⟩ := deed_some h
  rw [if_pos hf] at h2
  refine ⟨pa, pc, ?_, ?_, (fun g o h => by have := hn g o h; omega), by rw [hV]; exact below_put5 hb _ _ _ _ _⟩
  · rw [h1, h2, hf]; rfl
  · rw [h2]
    exact DIn_set5 hD (fun g o h => by have := hn g o h; omega) hV

set_option maxHeartbeats 4000000 in
theorem pdeed_any (s : ByteArray) (w : World) (hs : s.size ≤ 100000000) (ht : Tab w) : Calls Tryd.prog 12 #[.string s] w (DeedEnd s.data.toList w) := by
  obtain ⟨W, hW⟩ : ∃ W, W = w.alloc (Obj.cells zeroD 35) := ⟨_, rfl⟩
  obtain ⟨hB, hWs, hcl⟩ := zero_box hW
  have HCL := hide hcl
  have HRD := hide (read_any s W hs (ht.below hB))
  clear hcl hB ht
  go_enter Tryd.func12, Tryd.ntmps12
  go_wp2_with fail
  rw [← hW]
  clear hW
  refine Calls.mono HRD.out ?_
  rintro e w1 ⟨D, pa, pc, n, ok, rfl, hok, hb1⟩
  obtain ⟨U, hU⟩ : ∃ U, U = w1.alloc (Obj.cells #[.int .i64 D.kind, .slice pa n pc, .int .i64 D.pos, .int .i64 D.many, .string D.lab] 35) := ⟨_, rfl⟩
  have hz1 := hb1.size
  have hbU0 : Below w1.heap.size w1 U := by rw [hU]; exact (Below.refl _ _).alloc (Nat.le_refl _) _
  have hbU : Below W.heap.size W U := hb1.trans (hbU0.mono hz1)
  have hUs : U.heap.size = w1.heap.size + 1 := by rw [hU]; simp
  have hboxU : U.heap[w1.heap.size]? = some (Obj.cells #[.int .i64 D.kind, .slice pa n pc, .int .i64 D.pos, .int .i64 D.many, .string D.lab] 35) := by rw [hU]; exact heap_alloc_new _ _
  have hin : ∀ U', Below U.heap.size U U' → U'.cell? ⟨w1.heap.size, 0, none⟩ = some (.int .i64 D.kind) ∧ U'.cell? ⟨w1.heap.size, 1, none⟩ = some (.slice pa n pc) ∧ U'.cell? ⟨w1.heap.size, 2, none⟩ = some (.int .i64 D.pos) ∧ U'.cell? ⟨w1.heap.size, 3, none⟩ = some (.int .i64 D.many) ∧ U'.cell? ⟨w1.heap.size, 4, none⟩ = some (.string D.lab) ∧ (∀ o, U'.frozen? ⟨w1.heap.size, o, none⟩ = false) := fun U' h => by
    have hb := (h.block w1.heap.size (by omega)).trans hboxU
    exact ⟨by rw [cell_of_row _ _ 0 _ _ _ hb]; rfl, by rw [cell_of_row _ _ 1 _ _ _ hb]; rfl, by rw [cell_of_row _ _ 2 _ _ _ hb]; rfl, by rw [cell_of_row _ _ 3 _ _ _ hb]; rfl, by rw [cell_of_row _ _ 4 _ _ _ hb]; rfl, fun o => by simp [World.frozen?, hb]⟩
  have HIN := hide hin
  have HPL := hide (fun U' (h : Below U.heap.size U U') => (⟨_, _, (h.block w1.heap.size (by omega)).trans hboxU⟩ : BPlain U' w1.heap.size))
  have HBU := hide hbU
  have HBU0 := hide hbU0
  clear hin hboxU hbU hbU0 HRD hb1
  rcases hok with ⟨rfl, hx⟩ | ⟨rfl, hx, rfl, hD, hnew⟩
  · have HX := hide hx
    obtain ⟨k0, k1, k2, k3, k4, kf, hbw⟩ := HCL.out U HBU.out
    have HBW := hide hbw
    have HUE := hide hU
    clear hx hbw
    have kf0 := kf 0
    have kf1 := kf 1
    have kf2 := kf 2
    have kf3 := kf 3
    have kf4 := kf 4
    have z0 := k0
    have z1 := k1
    have z2 := k2
    have z3 := k3
    have z4 := k4
    rw [hU] at k0 k1 k2 k3 k4 kf0 kf1 kf2 kf3 kf4
    clear hU kf
    go_wp2_with fail
    rw [← HUE.out]
    obtain ⟨V, hV⟩ : ∃ V, V = put5 U w.heap.size (.int .i64 0) (.slice none 0 0) (.int .i64 0) (.int .i64 0) (.string ⟨#[]⟩) := ⟨_, rfl⟩
    obtain ⟨v0, v1, v2, v3, v4⟩ := put5_cells hV z0 z1 z2 z3 z4
    have HE := hide (end_none (w := w) (w' := V) HX.out rfl (by rw [hV]; exact below_put5 HBW.out _ _ _ _ _))
    unfold put5 at hV
    rw [← hV]
    exact bodyPost_ret (v := .tuple #[.agg #[.int .i64 0, .slice none 0 0, .int .i64 0, .int .i64 0, .string ⟨#[]⟩], .int .i64 6]) (by simp [results, Tryd.results12, go_sem, v0, v1, v2, v3, v4]) rfl HE.out
  · have HX := hide hx
    have HD := hide (hD.below HBU0.out)
    have HNEW := hide hnew
    have hdl := hD.len
    have hdc := hD.cap
    have hdb := hD.lab
    have hck := dcheck_any D pa pc U HD.out
    unfold ddV at hck
    have HCK := hide hck
    obtain ⟨u0, u1, u2, u3, u4, uf⟩ := HIN.out U (Below.refl _ _)
    unfold maxLen at hdc
    clear hx hD hnew hck
    go_wp2_with fail
    rw [← hU]
    clear hU
    go_wp2_with fail
    refine Calls.mono HCK.out ?_
    rintro e w2 ⟨rfl, hb2⟩
    have hb2' : Below W.heap.size W w2 := HBU.out.trans (hb2.mono HBU.out.size)
    have HB2 := hide hb2'
    have HB2U := hide hb2
    have hz2 := hb2.size
    clear HCK u0 u1 u2 u3 u4 uf
    by_cases hf : deedFault D = 0
    · have hfb : (deedFault D != 0) = false := by rw [hf]; rfl
      have HF := hide hf
      obtain ⟨m0, m1, m2, m3, m4, mf⟩ := HIN.out w2 hb2
      have HCN := hide (clone_any D.lab w2 (by
        obtain ⟨_, _, g3, _, _, _, g7, _⟩ := deedFault_zero hf
        by_cases h2 : D.kind = 2
        · rw [g3 h2]; decide
        · have h7 := g7 h2
          unfold labelB at h7
          simp only [Bool.and_eq_true, decide_eq_true_eq] at h7
          omega))
      clear hf hb2 hb2'
      go_wp2_with fail
      refine Calls.mono HCN.out ?_
      rintro e w3 ⟨rfl, hb3⟩
      have hb3U := HB2U.out.trans (hb3.mono hz2)
      have hb3' := HB2.out.trans (hb3.mono HB2.out.size)
      obtain ⟨n0, n1, n2, n3, n4, nf⟩ := HIN.out w3 hb3U
      obtain ⟨k0, k1, k2, k3, k4, kf, hbw⟩ := HCL.out w3 hb3'
      have HBW := hide hbw
      have HD3 := hide (HD.out.below hb3U)
      have hsame : w3.setCell ⟨w1.heap.size, 4, none⟩ (.string D.lab) = w3 := cell_self (HPL.out w3 hb3U) n4
      clear hb3 hb3U hb3' hbw m0 m1 m2 m3 m4 mf
      go_wp2_with fail
      obtain ⟨V, hV⟩ : ∃ V, V = put5 w3 w.heap.size (.int .i64 D.kind) (.slice pa D.path.length pc) (.int .i64 D.pos) (.int .i64 D.many) (.string D.lab) := ⟨_, rfl⟩
      obtain ⟨v0, v1, v2, v3, v4⟩ := put5_cells hV k0 k1 k2 k3 k4
      have HE := hide (deed_good HX.out HF.out HD3.out (fun g o h => by have := HNEW.out g o h; omega) HBW.out hV)
      unfold put5 at hV
      rw [← hV]
      exact bodyPost_ret (v := .tuple #[.agg #[.int .i64 D.kind, .slice pa D.path.length pc, .int .i64 D.pos, .int .i64 D.many, .string D.lab], .int .i64 0]) (by simp [results, Tryd.results12, go_sem, v0, v1, v2, v3, v4]) rfl HE.out
    · have hfb : (deedFault D != 0) = true := by simpa using hf
      obtain ⟨k0, k1, k2, k3, k4, kf, hbw⟩ := HCL.out w2 hb2'
      have HBW := hide hbw
      have HF := hide hf
      clear hf hb2 hb2' hbw
      go_wp2_with fail
      obtain ⟨V, hV⟩ : ∃ V, V = put5 w2 w.heap.size (.int .i64 0) (.slice none 0 0) (.int .i64 0) (.int .i64 0) (.string ⟨#[]⟩) := ⟨_, rfl⟩
      obtain ⟨v0, v1, v2, v3, v4⟩ := put5_cells hV k0 k1 k2 k3 k4
      have HE := hide (deed_bad HX.out HF.out HBW.out hV)
      unfold put5 at hV
      rw [← hV]
      exact bodyPost_ret (v := .tuple #[.agg #[.int .i64 0, .slice none 0 0, .int .i64 0, .int .i64 0, .string ⟨#[]⟩], .int .i64 (deedFault D)]) (by simp [results, Tryd.results12, go_sem, v0, v1, v2, v3, v4]) rfl HE.out
end Go.Proofs.YtkoohfkomlmhoacDoor.Pat
namespace Go.Proofs.YtkoohfkomlmhoacDoor.Pat
open Go.Deep Go.RowKit Deed
set_option linter.unusedVariables false
set_option maxRecDepth 20000

theorem lineC_fault {d : Dd} (h : deedFault d ≠ 0) : lineC d = deedFault d ∧ lineP d = [] := by
  have h1 : lineC d = deedFault d := by unfold lineC; rw [if_pos h]
  exact ⟨h1, by unfold lineP; rw [h1, if_neg h]⟩
theorem lineC_above {d : Dd} (h : deedFault d = 0) (h2 : above d = true) : lineC d = 9 ∧ lineP d = [] := by
  have h1 : lineC d = 9 := by unfold lineC; rw [if_neg (by rw [h]; simp), if_pos h2]
  exact ⟨h1, by unfold lineP; rw [h1, if_neg (by decide)]⟩
theorem lineC_good {d : Dd} (h : deedFault d = 0) (h2 : above d = false) : lineC d = 0 ∧ lineP d = joinP 32 (wordsP d) := by
  have h1 : lineC d = 0 := by unfold lineC; rw [if_neg (by rw [h]; simp), if_neg (by rw [h2]; simp)]
  exact ⟨h1, by unfold lineP; rw [h1, if_pos rfl]⟩
/-- What is kept of a deed's box. -/
abbrev BoxD (b : Nat) (d : Dd) (pa : Option Addr) (pc : Nat) (W w' : World) : Prop :=
  Below W.heap.size W w' ∧ w'.cell? ⟨b, 1, none⟩ = some (.slice pa d.path.length pc) ∧ w'.cell? ⟨b, 2, none⟩ = some (.int .i64 d.pos) ∧ w'.cell? ⟨b, 3, none⟩ = some (.int .i64 d.many) ∧ w'.cell? ⟨b, 4, none⟩ = some (.string d.lab)
theorem BoxD.on {b : Nat} {d : Dd} {pa : Option Addr} {pc : Nat} {W w1 w2 : World} (h : BoxD b d pa pc W w1) (hb : Below w1.heap.size w1 w2) : BoxD b d pa pc W w2 := by
  obtain ⟨h1, h2, h3, h4, h5⟩ := h
  have hl := World.block_lt_of_cell? _ _ h2
  exact ⟨h1.trans (hb.mono h1.size), by rw [hb.cell (p := ⟨b, 1, none⟩) hl]; exact h2, by rw [hb.cell (p := ⟨b, 2, none⟩) hl]; exact h3, by rw [hb.cell (p := ⟨b, 3, none⟩) hl]; exact h4, by rw [hb.cell (p := ⟨b, 4, none⟩) hl]; exact h5⟩
theorem path_len {L : List Int} (h : ∀ n, n ∈ L → In64 n) : (pathTxt L).length ≤ L.length * 22 + 1 := by
  unfold pathTxt
  split
  · simp
  · have := dotted_len L h
    unfold dotted at this
    omega
end Go.Proofs.YtkoohfkomlmhoacDoor.Pat
