/- DeedIn of package pleachingref, where the words are too few, too many, or no path: no deed. Of the program's text. -/
/- What a line's words tell, by package patch: readName, readDelete, readInsert. Of the program's text. -/
import Derived.Test.YtkoohfkomlmhoacGreatDoorProg
import Derived.Test.YtkoohfkomlmhoacGreatDoorKDP13
import Derived.Test.YtkoohfkomlmhoacGreatDoorKDP12
namespace Go.Proofs.YtkoohfkomlmhoacGreatDoor.Pat
open Go.Deep Go.RowKit Deed
set_option linter.unusedVariables false
set_option maxRecDepth 20000

theorem words_none {a : List UInt8} {P : List (List UInt8)} (h : map3P a = 0 ∨ (a :: P).length ≠ map3P a) : wordsD (a :: P) = none := by
  have key : ∀ n, map3P a = n → n = 3 ∨ n = 2 ∨ n = 5 ∨ n = 0 := fun n hn => by
    unfold map3P at hn
    split at hn
    · omega
    · split at hn
      · omega
      · split at hn <;> omega
  have hd : a = delW → map3P a = 2 := fun e => by rw [e]; rfl
  have hn : a = nameW → map3P a = 3 := fun e => by rw [e]; rfl
  have hi : a = insW → map3P a = 5 := fun e => by rw [e]; rfl
  unfold wordsD
  split
  · rename_i b p e
    injection e with e1 e2
    subst e1
    rw [if_neg (fun e => by have := hd e; simp [e2] at h; omega)]
  · rename_i b p l e
    injection e with e1 e2
    subst e1
    rw [if_neg (fun e => by have := hn e; simp [e2] at h; omega)]
  · rename_i b p x y l e
    injection e with e1 e2
    subst e1
    rw [if_neg (fun e => by have := hi e; simp [e2] at h; omega)]
  · rfl
theorem deed_none {s : List UInt8} (h : wordsD (cutP 32 s) = none) : deedC s = 6 ∧ deedP s = noD := by
  unfold deedC deedP
  rw [h]
  exact ⟨rfl, rfl⟩
theorem deed_some {s : List UInt8} {d : Dd} (h : wordsD (cutP 32 s) = some d) : deedC s = deedFault d ∧ deedP s = if deedFault d = 0 then d else noD := by
  unfold deedC deedP
  rw [h]
  exact ⟨rfl, rfl⟩
/-- What DeedIn tells: a deed whose path lies in new memory. -/
def DeedEnd (s : List UInt8) (w : World) (e : Ending) (w' : World) : Prop :=
  ∃ pa pc, e = .returned (.tuple #[ddV (deedP s) pa pc, .int .i64 (deedC s)]) ∧ DIn w' (deedP s) pa pc ∧ (∀ g o, pa = some ⟨g, o, none⟩ → w.heap.size ≤ g) ∧ Below w.heap.size w w'
theorem DIn.noD (w : World) : DIn w noD none 0 := ⟨Or.inl rfl, Nat.le_refl _, Nat.zero_le _, by unfold maxLen; exact Nat.zero_le _⟩
theorem end_none {s : List UInt8} {w w' : World} {e : Ending} (h : wordsD (cutP 32 s) = none) (he : e = .returned (.tuple #[.agg #[.int .i64 0, .slice none 0 0, .int .i64 0, .int .i64 0, .string ⟨#[]⟩], .int .i64 6])) (hb : Below w.heap.size w w') : DeedEnd s w e w' := by
  obtain ⟨h1, h2⟩ := deed_none h
  refine ⟨none, 0, ?_, ?_, (fun g o h => by cases h), hb⟩
  · rw [he, h1, h2]; rfl
  · rw [h2]; exact DIn.noD w'
abbrev zeroD : Array Value := #[.int .i64 0, .slice none 0 0, .int .i64 0, .int .i64 0, .string ⟨#[]⟩]
/-- The pieces of the line, where they lie. -/
theorem pieces {w : World} {B T g vc : Nat} {P : List (List UInt8)} (h : w.ownsRow B T 1 (.slice (some ⟨g, 0, none⟩) P.length vc) P.length (txCells P)) {i : Nat} {x : List UInt8} (hx : P[i]? = some x) : w.cell? ⟨g, i, none⟩ = some (.string (str x)) := by
  have := ownsRow_cell h i _ (show (txCells P)[i]? = some (.string (str x)) by unfold txCells; rw [List.getElem?_map, hx]; rfl)
  simpa using this

theorem row_path {w : World} {B T vc : Nat} {va : Option Addr} {q : List Nat} (h : w.ownsRow B T 1 (.slice va q.length vc) q.length (intCells q)) : PIn w va (ints q) ∧ (q.length ≤ vc ∧ vc ≤ maxLen) ∧ ∀ g o, va = some ⟨g, o, none⟩ → B ≤ g := by
  refine ⟨PIn_of_owns h, ?_, fun g o hg => ?_⟩
  · obtain ⟨va', vc', e, h1, h2⟩ := ownsN_form h
    injection e with e1 e2 e3
    subst e3
    exact ⟨h1, h2⟩
  · subst hg
    rcases h.2 with ⟨h0, _⟩ | ⟨g', cap, cur, hv, hb, _⟩
    · cases h0
    · injection hv with h1 h2 h3
      injection h1 with h1
      injection h1 with h1
      omega
/-- A box that is written elsewhere leaves a path. -/
theorem DIn_set5 {w V : World} {B : Nat} {d : Dd} {pa : Option Addr} {pc : Nat} {a0 a1 a2 a3 a4 : Value} (h : DIn w d pa pc) (hn : ∀ g o, pa = some ⟨g, o, none⟩ → g ≠ B) (hV : V = ((((w.setCell ⟨B, 0, none⟩ a0).setCell ⟨B, 1, none⟩ a1).setCell ⟨B, 2, none⟩ a2).setCell ⟨B, 3, none⟩ a3).setCell ⟨B, 4, none⟩ a4) : DIn V d pa pc := by
  refine ⟨?_, h.len, h.cap, h.lab⟩
  rcases h.path with h0 | ⟨b, o, e, h0⟩
  · exact Or.inl h0
  · refine Or.inr ⟨b, o, e, fun i p hp => ?_⟩
    have hne := hn b o e
    have h1 := h0 i p hp
    have key : ∀ (W : World) (k : Nat) (u : Value), (W.setCell ⟨B, k, none⟩ u).cell? ⟨b, o + i, none⟩ = W.cell? ⟨b, o + i, none⟩ := fun W k u => World.cell?_of_block (Below.heap_setCell _ _ _ _ hne)
    rw [hV, key, key, key, key, key]
    exact h1

set_option maxHeartbeats 4000000 in
theorem deedIn_any (s : ByteArray) (w : World) (hs : s.size ≤ 100000000) : Calls Tryz.prog 18 #[.string s] w (DeedEnd s.data.toList w) := by
  obtain ⟨W, hW⟩ : ∃ W, W = w.alloc (Obj.cells zeroD 38) := ⟨_, rfl⟩
  have hB : Below w.heap.size w W := by rw [hW]; exact (Below.refl _ _).alloc (Nat.le_refl _) _
  have hWs : W.heap.size = w.heap.size + 1 := by rw [hW]; simp
  have hbox : W.heap[w.heap.size]? = some (Obj.cells zeroD 38) := by rw [hW]; exact heap_alloc_new _ _
  have hcells : ∀ W', Below W.heap.size W W' → W'.cell? ⟨w.heap.size, 0, none⟩ = some (.int .i64 0) ∧ W'.cell? ⟨w.heap.size, 1, none⟩ = some (.slice none 0 0) ∧ W'.cell? ⟨w.heap.size, 2, none⟩ = some (.int .i64 0) ∧ W'.cell? ⟨w.heap.size, 3, none⟩ = some (.int .i64 0) ∧ W'.cell? ⟨w.heap.size, 4, none⟩ = some (.string ⟨#[]⟩) ∧ (∀ o, W'.frozen? ⟨w.heap.size, o, none⟩ = false) ∧ Below w.heap.size w W' := fun W' h => by
    have hb := (h.block w.heap.size (by omega)).trans hbox
    exact ⟨by rw [cell_of_row _ _ 0 _ _ _ hb]; rfl, by rw [cell_of_row _ _ 1 _ _ _ hb]; rfl, by rw [cell_of_row _ _ 2 _ _ _ hb]; rfl, by rw [cell_of_row _ _ 3 _ _ _ hb]; rfl, by rw [cell_of_row _ _ 4 _ _ _ hb]; rfl, fun o => by simp [World.frozen?, hb], hB.trans (h.mono (by omega))⟩
  have HCL := hide hcells
  have HC := hide (cut_any s 32 W hs)
  have hlen := cut_len 32 s.data.toList
  have HSZ := hide (cut_size 32 s.data.toList)
  have hsl : s.data.toList.length = s.size := by simp
  rw [hsl] at hlen HSZ
  obtain ⟨P, hP⟩ : ∃ P, P = cutP 32 s.data.toList := ⟨_, rfl⟩
  have HP := hide hP
  rw [← hP] at HC hlen HSZ
  obtain ⟨a, P', hPa⟩ : ∃ a P', P = a :: P' := by
    cases h : P with
    | nil => exact absurd (hP.symm.trans h) (cutP_ne _ _)
    | cons a P' => exact ⟨a, P', rfl⟩
  have HPa := hide hPa
  have hpos : 0 < P.length := by rw [hPa]; simp
  have HMP := hide (map3_any a)
  clear hcells hbox hP hPa hB hsl
  go_enter Tryz.func18, Tryz.ntmps18
  go_wp2_with fail
  rw [← hW]
  clear hW
  refine Calls.mono HC.out ?_
  rintro e w1 ⟨va, vc, rfl, hrow, hb1⟩
  obtain ⟨g, vc', hv, hg1, hg2, hg3, hg4⟩ := ownsN_some hrow hpos
  injection hv with hv1 hv2 hv3
  subst hv1
  have HR := hide hrow
  have c0 : w1.cell? ⟨g, 0, none⟩ = some (.string (str a)) := pieces hrow (by rw [HPa.out]; rfl)
  have hz1 := hb1.size
  have HB1 := hide hb1
  clear hrow HC hv2 hv3 hb1
  by_cases hbad : map3P a = 0 ∨ P.length ≠ map3P a
  · have HN := hide (show wordsD (cutP 32 s.data.toList) = none by rw [← HP.out, HPa.out]; exact words_none (by rw [← HPa.out]; exact hbad))
    obtain ⟨k0, k1, k2, k3, k4, kf, hbw⟩ := HCL.out w1 HB1.out
    obtain ⟨n, hn⟩ : ∃ n, n = map3P a := ⟨_, rfl⟩
    rw [← hn] at HMP hbad
    have HBW := hide hbw
    clear hbw hn
    by_cases hn0 : n = 0
    · have b1 : ((n : Int) == 0) = true := beq_iff_eq.2 (by omega)
      clear hn0 hbad
      go_wp2_with fail
      refine Calls.mono (HMP.out w1) ?_
      rintro e w2 ⟨rfl, rfl⟩
      go_wp2_with fail
      obtain ⟨V, hV⟩ : ∃ V, V = ((((w2.setCell ⟨w.heap.size, 0, none⟩ (.int .i64 0)).setCell ⟨w.heap.size, 1, none⟩ (.slice none 0 0)).setCell ⟨w.heap.size, 2, none⟩ (.int .i64 0)).setCell ⟨w.heap.size, 3, none⟩ (.int .i64 0)).setCell ⟨w.heap.size, 4, none⟩ (.string ⟨#[]⟩) := ⟨_, rfl⟩
      have v0 : V.cell? ⟨w.heap.size, 0, none⟩ = some (.int .i64 0) := by rw [hV]; go_simp
      have v1 : V.cell? ⟨w.heap.size, 1, none⟩ = some (.slice none 0 0) := by rw [hV]; go_simp
      have v2 : V.cell? ⟨w.heap.size, 2, none⟩ = some (.int .i64 0) := by rw [hV]; go_simp
      have v3 : V.cell? ⟨w.heap.size, 3, none⟩ = some (.int .i64 0) := by rw [hV]; go_simp
      have v4 : V.cell? ⟨w.heap.size, 4, none⟩ = some (.string ⟨#[]⟩) := by rw [hV]; go_simp
      have HBV := hide (show Below w.heap.size w V by rw [hV]; exact ((((HBW.out.setCell (p := ⟨w.heap.size, 0, none⟩) (Nat.le_refl _) _).setCell (p := ⟨w.heap.size, 1, none⟩) (Nat.le_refl _) _).setCell (p := ⟨w.heap.size, 2, none⟩) (Nat.le_refl _) _).setCell (p := ⟨w.heap.size, 3, none⟩) (Nat.le_refl _) _).setCell (p := ⟨w.heap.size, 4, none⟩) (Nat.le_refl _) _)
      rw [← hV]
      refine bodyPost_ret (v := .tuple #[.agg #[.int .i64 0, .slice none 0 0, .int .i64 0, .int .i64 0, .string ⟨#[]⟩], .int .i64 6]) (by simp [results, Tryz.results18, go_sem, v0, v1, v2, v3, v4]) rfl (end_none HN.out rfl HBV.out)
    · have b1 : ((n : Int) == 0) = false := beq_eq_false_iff_ne.2 (by omega)
      have b2 : ((P.length : Int) != (n : Int)) = true := by
        have : (P.length : Int) ≠ (n : Int) := by omega
        simpa using this
      clear hn0 hbad
      go_wp2_with fail
      refine Calls.mono (HMP.out w1) ?_
      rintro e w2 ⟨rfl, rfl⟩
      go_wp2_with fail
      obtain ⟨V, hV⟩ : ∃ V, V = ((((w2.setCell ⟨w.heap.size, 0, none⟩ (.int .i64 0)).setCell ⟨w.heap.size, 1, none⟩ (.slice none 0 0)).setCell ⟨w.heap.size, 2, none⟩ (.int .i64 0)).setCell ⟨w.heap.size, 3, none⟩ (.int .i64 0)).setCell ⟨w.heap.size, 4, none⟩ (.string ⟨#[]⟩) := ⟨_, rfl⟩
      have v0 : V.cell? ⟨w.heap.size, 0, none⟩ = some (.int .i64 0) := by rw [hV]; go_simp
      have v1 : V.cell? ⟨w.heap.size, 1, none⟩ = some (.slice none 0 0) := by rw [hV]; go_simp
      have v2 : V.cell? ⟨w.heap.size, 2, none⟩ = some (.int .i64 0) := by rw [hV]; go_simp
      have v3 : V.cell? ⟨w.heap.size, 3, none⟩ = some (.int .i64 0) := by rw [hV]; go_simp
      have v4 : V.cell? ⟨w.heap.size, 4, none⟩ = some (.string ⟨#[]⟩) := by rw [hV]; go_simp
      have HBV := hide (show Below w.heap.size w V by rw [hV]; exact ((((HBW.out.setCell (p := ⟨w.heap.size, 0, none⟩) (Nat.le_refl _) _).setCell (p := ⟨w.heap.size, 1, none⟩) (Nat.le_refl _) _).setCell (p := ⟨w.heap.size, 2, none⟩) (Nat.le_refl _) _).setCell (p := ⟨w.heap.size, 3, none⟩) (Nat.le_refl _) _).setCell (p := ⟨w.heap.size, 4, none⟩) (Nat.le_refl _) _)
      rw [← hV]
      refine bodyPost_ret (v := .tuple #[.agg #[.int .i64 0, .slice none 0 0, .int .i64 0, .int .i64 0, .string ⟨#[]⟩], .int .i64 6]) (by simp [results, Tryz.results18, go_sem, v0, v1, v2, v3, v4]) rfl (end_none HN.out rfl HBV.out)
  · have hm : map3P a = 2 ∨ map3P a = 3 ∨ map3P a = 5 := by
      have h0 : map3P a ≠ 0 := fun h => hbad (Or.inl h)
      unfold map3P at h0 ⊢
      split
      · exact Or.inr (Or.inl rfl)
      · split
        · exact Or.inl rfl
        · split
          · exact Or.inr (Or.inr rfl)
          · rename_i h1 h2 h3
            rw [if_neg h1, if_neg h2, if_neg h3] at h0
            exact absurd rfl h0
    have hpl : P.length = map3P a := Classical.byContradiction fun h => hbad (Or.inr h)
    clear hbad
    obtain ⟨p, hp1⟩ : ∃ p, P[1]? = some p := ⟨_, List.getElem?_eq_getElem (by omega)⟩
    have hpz : p.length ≤ s.size := HSZ.out p (List.mem_of_getElem? hp1)
    have c1 : w1.cell? ⟨g, 1, none⟩ = some (.string (str p)) := pieces HR.out hp1
    have hpi := pathIn_any (str p) w1 (by rw [str_size]; omega)
    have hstr : (str p).data.toList = p := by simp
    rw [hstr] at hpi
    have HPI := hide hpi
    have HP1 := hide hp1
    clear hpi hstr hp1
    rcases hm with hm | hm | hm
    · have hpl2 : P.length = 2 := hpl.trans hm
      rw [hm] at HMP
      have HM := hide hm
      clear hpl hm
      have ha : a = delW := by
        have h := HM.out
        unfold map3P at h
        split at h
        · cases h
        · rename_i h1
          split at h
          · assumption
          · split at h <;> cases h
      have HPP := hide (show P = [delW, p] by
        have h1 := HP1.out
        have h2 := HPa.out
        cases P' with
        | nil => rw [h2] at hpl2; simp at hpl2
        | cons b t =>
          cases t with
          | nil => rw [h2] at h1 ⊢; rw [ha]; simp at h1; rw [h1]
          | cons c u => rw [h2] at hpl2; simp at hpl2)
      clear ha
      go_wp2_with fail
      refine Calls.mono (HMP.out w1) ?_
      rintro e w1' ⟨rfl, hw1'⟩
      subst hw1'
      go_wp2_with fail
      refine Calls.mono HPI.out ?_
      rintro e w2 ⟨hpe, hb2⟩
      rcases hpe with ⟨hpn, rfl⟩ | ⟨q, pva, pvc, hpn, rfl, hprow⟩
      · have HN := hide (show wordsD (cutP 32 s.data.toList) = none by rw [← HP.out, HPP.out]; simp only [wordsD, if_true, hpn, Option.map_none])
        obtain ⟨k0, k1, k2, k3, k4, kf, hbw⟩ := HCL.out w2 (HB1.out.trans (hb2.mono hz1))
        have HBW := hide hbw
        clear hbw hb2
        go_wp2_with fail
        obtain ⟨V, hV⟩ : ∃ V, V = ((((w2.setCell ⟨w.heap.size, 0, none⟩ (.int .i64 0)).setCell ⟨w.heap.size, 1, none⟩ (.slice none 0 0)).setCell ⟨w.heap.size, 2, none⟩ (.int .i64 0)).setCell ⟨w.heap.size, 3, none⟩ (.int .i64 0)).setCell ⟨w.heap.size, 4, none⟩ (.string ⟨#[]⟩) := ⟨_, rfl⟩
        have v0 : V.cell? ⟨w.heap.size, 0, none⟩ = some (.int .i64 0) := by rw [hV]; go_simp
        have v1 : V.cell? ⟨w.heap.size, 1, none⟩ = some (.slice none 0 0) := by rw [hV]; go_simp
        have v2 : V.cell? ⟨w.heap.size, 2, none⟩ = some (.int .i64 0) := by rw [hV]; go_simp
        have v3 : V.cell? ⟨w.heap.size, 3, none⟩ = some (.int .i64 0) := by rw [hV]; go_simp
        have v4 : V.cell? ⟨w.heap.size, 4, none⟩ = some (.string ⟨#[]⟩) := by rw [hV]; go_simp
        have HBV := hide (show Below w.heap.size w V by rw [hV]; exact (((((HBW.out.setCell (p := ⟨w.heap.size, 0, none⟩) (Nat.le_refl _) _).setCell (p := ⟨w.heap.size, 1, none⟩) (Nat.le_refl _) _).setCell (p := ⟨w.heap.size, 2, none⟩) (Nat.le_refl _) _).setCell (p := ⟨w.heap.size, 3, none⟩) (Nat.le_refl _) _).setCell (p := ⟨w.heap.size, 4, none⟩) (Nat.le_refl _) _))
        rw [← hV]
        refine bodyPost_ret (v := .tuple #[.agg #[.int .i64 0, .slice none 0 0, .int .i64 0, .int .i64 0, .string ⟨#[]⟩], .int .i64 6]) (by simp [results, Tryz.results18, go_sem, v0, v1, v2, v3, v4]) rfl (end_none HN.out rfl HBV.out)
      · have HWD := hide (show wordsD (cutP 32 s.data.toList) = some ⟨2, ints q, 0, 0, ⟨#[]⟩⟩ by rw [← HP.out, HPP.out]; simp only [wordsD, if_true, hpn, Option.map_some])
        obtain ⟨W3, hW3⟩ : ∃ W3, W3 = w2.alloc (Obj.cells #[.int .i64 2, .slice pva q.length pvc, .int .i64 0, .int .i64 0, .string ⟨#[]⟩] 38) := ⟨_, rfl⟩
        have hb3 : Below w2.heap.size w2 W3 := by rw [hW3]; exact (Below.refl _ _).alloc (Nat.le_refl _) _
        have hz2 := hb2.size
        have hz3 : W3.heap.size = w2.heap.size + 1 := by rw [hW3]; simp
        have hbox8 : W3.heap[w2.heap.size]? = some (Obj.cells #[.int .i64 2, .slice pva q.length pvc, .int .i64 0, .int .i64 0, .string ⟨#[]⟩] 38) := by rw [hW3]; exact heap_alloc_new _ _
        have x0 : W3.cell? ⟨w2.heap.size, 0, none⟩ = some (.int .i64 2) := by rw [cell_of_row _ _ 0 _ _ _ hbox8]; rfl
        have x1 : W3.cell? ⟨w2.heap.size, 1, none⟩ = some (.slice pva q.length pvc) := by rw [cell_of_row _ _ 1 _ _ _ hbox8]; rfl
        have x2 : W3.cell? ⟨w2.heap.size, 2, none⟩ = some (.int .i64 0) := by rw [cell_of_row _ _ 2 _ _ _ hbox8]; rfl
        have x3 : W3.cell? ⟨w2.heap.size, 3, none⟩ = some (.int .i64 0) := by rw [cell_of_row _ _ 3 _ _ _ hbox8]; rfl
        have x4 : W3.cell? ⟨w2.heap.size, 4, none⟩ = some (.string ⟨#[]⟩) := by rw [cell_of_row _ _ 4 _ _ _ hbox8]; rfl
        have hbW3 := (HB1.out.trans (hb2.mono hz1)).trans (hb3.mono (by omega))
        obtain ⟨hq1, hq2, hq3⟩ := row_path hprow
        have HNW2 := hide (fun g o (hg : pva = some ⟨g, o, none⟩) => hq3 g o hg)
        have HNW := hide (fun g o (hg : pva = some ⟨g, o, none⟩) => show w.heap.size ≤ g by have := hq3 g o hg; omega)
        have hdi : DIn W3 ⟨2, ints q, 0, 0, ⟨#[]⟩⟩ pva pvc := ⟨hq1.below hb3, by rw [ints_length]; exact hq2.1, hq2.2, by unfold maxLen; exact Nat.zero_le _⟩
        clear hbox8 hq1 hq2 hq3 hprow hb3 hpn
        go_wp2_with fail
        rw [← hW3]
        clear hW3
        have HDF := hide (refDF_any ⟨2, ints q, 0, 0, ⟨#[]⟩⟩ pva pvc W3 hdi)
        unfold ddV at HDF
        simp only [ints_length] at HDF
        have HDI := hide hdi
        have HES := hide (deed_some HWD.out)
        clear hdi
        go_wp2_with fail
        refine Calls.mono HDF.out ?_
        rintro e w4 ⟨rfl, hb4⟩
        have hbW4 := hbW3.trans (hb4.mono hbW3.size)
        obtain ⟨k0, k1, k2, k3, k4, kf, hbw⟩ := HCL.out w4 hbW4
        have HBW := hide hbw
        have y0 : w4.cell? ⟨w2.heap.size, 0, none⟩ = some (.int .i64 2) := by rw [hb4.cell (by simp only; omega)]; exact x0
        have y1 : w4.cell? ⟨w2.heap.size, 1, none⟩ = some (.slice pva q.length pvc) := by rw [hb4.cell (by simp only; omega)]; exact x1
        have y2 : w4.cell? ⟨w2.heap.size, 2, none⟩ = some (.int .i64 0) := by rw [hb4.cell (by simp only; omega)]; exact x2
        have y3 : w4.cell? ⟨w2.heap.size, 3, none⟩ = some (.int .i64 0) := by rw [hb4.cell (by simp only; omega)]; exact x3
        have y4 : w4.cell? ⟨w2.heap.size, 4, none⟩ = some (.string ⟨#[]⟩) := by rw [hb4.cell (by simp only; omega)]; exact x4
        have HDJ := hide (HDI.out.below hb4)
        have hsep : ¬ w2.heap.size = w.heap.size := by omega
        have hsep2 : ¬ w.heap.size = w2.heap.size := by omega
        clear hbw hbW4 hb4 HDF x0 x1 x2 x3 x4
        by_cases hf : deedFault ⟨2, ints q, 0, 0, ⟨#[]⟩⟩ = 0
        · have hfb : (deedFault ⟨2, ints q, 0, 0, ⟨#[]⟩⟩ != 0) = false := by rw [hf]; rfl
          have HF := hide hf
          clear hf
          go_wp2_with fail
          obtain ⟨V, hV⟩ : ∃ V, V = ((((w4.setCell ⟨w.heap.size, 0, none⟩ (.int .i64 2)).setCell ⟨w.heap.size, 1, none⟩ (.slice pva q.length pvc)).setCell ⟨w.heap.size, 2, none⟩ (.int .i64 0)).setCell ⟨w.heap.size, 3, none⟩ (.int .i64 0)).setCell ⟨w.heap.size, 4, none⟩ (.string ⟨#[]⟩) := ⟨_, rfl⟩
          have v0 : V.cell? ⟨w.heap.size, 0, none⟩ = some (.int .i64 2) := by rw [hV]; go_simp
          have v1 : V.cell? ⟨w.heap.size, 1, none⟩ = some (.slice pva q.length pvc) := by rw [hV]; go_simp
          have v2 : V.cell? ⟨w.heap.size, 2, none⟩ = some (.int .i64 0) := by rw [hV]; go_simp
          have v3 : V.cell? ⟨w.heap.size, 3, none⟩ = some (.int .i64 0) := by rw [hV]; go_simp
          have v4 : V.cell? ⟨w.heap.size, 4, none⟩ = some (.string ⟨#[]⟩) := by rw [hV]; go_simp
          have HBV := hide (show Below w.heap.size w V by rw [hV]; exact (((((HBW.out.setCell (p := ⟨w.heap.size, 0, none⟩) (Nat.le_refl _) _).setCell (p := ⟨w.heap.size, 1, none⟩) (Nat.le_refl _) _).setCell (p := ⟨w.heap.size, 2, none⟩) (Nat.le_refl _) _).setCell (p := ⟨w.heap.size, 3, none⟩) (Nat.le_refl _) _).setCell (p := ⟨w.heap.size, 4, none⟩) (Nat.le_refl _) _))
          rw [← hV]
          refine bodyPost_ret (v := .tuple #[.agg #[.int .i64 2, .slice pva q.length pvc, .int .i64 0, .int .i64 0, .string ⟨#[]⟩], .int .i64 0]) (by simp [results, Tryz.results18, go_sem, v0, v1, v2, v3, v4]) rfl ?_
          have e1 := HES.out.1
          have e2 := HES.out.2
          rw [HF.out] at e1
          rw [if_pos HF.out] at e2
          refine ⟨pva, pvc, ?_, ?_, HNW.out, HBV.out⟩
          · rw [e1, e2]
            unfold ddV
            simp only [ints_length]
          · rw [e2]
            exact DIn_set5 (B := w.heap.size) HDJ.out (fun g o hg => by have := HNW2.out g o hg; omega) hV
        · have hfb : (deedFault ⟨2, ints q, 0, 0, ⟨#[]⟩⟩ != 0) = true := by simpa using hf
          have HF := hide hf
          clear hf
          go_wp2_with fail
          obtain ⟨V, hV⟩ : ∃ V, V = ((((w4.setCell ⟨w.heap.size, 0, none⟩ (.int .i64 0)).setCell ⟨w.heap.size, 1, none⟩ (.slice none 0 0)).setCell ⟨w.heap.size, 2, none⟩ (.int .i64 0)).setCell ⟨w.heap.size, 3, none⟩ (.int .i64 0)).setCell ⟨w.heap.size, 4, none⟩ (.string ⟨#[]⟩) := ⟨_, rfl⟩
          have v0 : V.cell? ⟨w.heap.size, 0, none⟩ = some (.int .i64 0) := by rw [hV]; go_simp
          have v1 : V.cell? ⟨w.heap.size, 1, none⟩ = some (.slice none 0 0) := by rw [hV]; go_simp
          have v2 : V.cell? ⟨w.heap.size, 2, none⟩ = some (.int .i64 0) := by rw [hV]; go_simp
          have v3 : V.cell? ⟨w.heap.size, 3, none⟩ = some (.int .i64 0) := by rw [hV]; go_simp
          have v4 : V.cell? ⟨w.heap.size, 4, none⟩ = some (.string ⟨#[]⟩) := by rw [hV]; go_simp
          have HBV := hide (show Below w.heap.size w V by rw [hV]; exact (((((HBW.out.setCell (p := ⟨w.heap.size, 0, none⟩) (Nat.le_refl _) _).setCell (p := ⟨w.heap.size, 1, none⟩) (Nat.le_refl _) _).setCell (p := ⟨w.heap.size, 2, none⟩) (Nat.le_refl _) _).setCell (p := ⟨w.heap.size, 3, none⟩) (Nat.le_refl _) _).setCell (p := ⟨w.heap.size, 4, none⟩) (Nat.le_refl _) _))
          rw [← hV]
          refine bodyPost_ret (v := .tuple #[.agg #[.int .i64 0, .slice none 0 0, .int .i64 0, .int .i64 0, .string ⟨#[]⟩], .int .i64 (deedFault ⟨2, ints q, 0, 0, ⟨#[]⟩⟩)]) (by simp [results, Tryz.results18, go_sem, v0, v1, v2, v3, v4]) rfl ?_
          have e1 := HES.out.1
          have e2 := HES.out.2
          rw [if_neg HF.out] at e2
          refine ⟨none, 0, ?_, ?_, (fun g o h => by cases h), HBV.out⟩
          · rw [e1, e2]
            rfl
          · rw [e2]; exact DIn.noD V
    · have hpl2 : P.length = 3 := hpl.trans hm
      rw [hm] at HMP
      have HM := hide hm
      clear hpl hm
      have ha : a = nameW := by
        have h := HM.out
        unfold map3P at h
        split at h
        · assumption
        · split at h
          · cases h
          · split at h <;> cases h
      obtain ⟨l, hl1⟩ : ∃ l, P[2]? = some l := ⟨_, List.getElem?_eq_getElem (by omega)⟩
      have hlz : l.length ≤ s.size := HSZ.out l (List.mem_of_getElem? hl1)
      have c2 : w1.cell? ⟨g, 2, none⟩ = some (.string (str l)) := pieces HR.out hl1
      have HPP := hide (show P = [nameW, p, l] by
        have h1 := HP1.out
        have h2 := HPa.out
        match P', h2 with
        | [], h2 => rw [h2] at hpl2; simp at hpl2
        | [b], h2 => rw [h2] at hpl2; simp at hpl2
        | [b, c], h2 =>
          rw [h2] at h1 hl1 ⊢
          simp at h1 hl1
          rw [ha, h1, hl1]
        | b :: c :: t :: u, h2 => rw [h2] at hpl2; simp at hpl2)
      clear ha hl1
      go_wp2_with fail
      refine Calls.mono (HMP.out w1) ?_
      rintro e w1' ⟨rfl, hw1'⟩
      subst hw1'
      go_wp2_with fail
      refine Calls.mono HPI.out ?_
      rintro e w2 ⟨hpe, hb2⟩
      rcases hpe with ⟨hpn, rfl⟩ | ⟨q, pva, pvc, hpn, rfl, hprow⟩
      · have HN := hide (show wordsD (cutP 32 s.data.toList) = none by rw [← HP.out, HPP.out]; simp only [wordsD, if_true, hpn, Option.map_none])
        obtain ⟨k0, k1, k2, k3, k4, kf, hbw⟩ := HCL.out w2 (HB1.out.trans (hb2.mono hz1))
        have HBW := hide hbw
        clear hbw hb2
        go_wp2_with fail
        obtain ⟨V, hV⟩ : ∃ V, V = ((((w2.setCell ⟨w.heap.size, 0, none⟩ (.int .i64 0)).setCell ⟨w.heap.size, 1, none⟩ (.slice none 0 0)).setCell ⟨w.heap.size, 2, none⟩ (.int .i64 0)).setCell ⟨w.heap.size, 3, none⟩ (.int .i64 0)).setCell ⟨w.heap.size, 4, none⟩ (.string ⟨#[]⟩) := ⟨_, rfl⟩
        have v0 : V.cell? ⟨w.heap.size, 0, none⟩ = some (.int .i64 0) := by rw [hV]; go_simp
        have v1 : V.cell? ⟨w.heap.size, 1, none⟩ = some (.slice none 0 0) := by rw [hV]; go_simp
        have v2 : V.cell? ⟨w.heap.size, 2, none⟩ = some (.int .i64 0) := by rw [hV]; go_simp
        have v3 : V.cell? ⟨w.heap.size, 3, none⟩ = some (.int .i64 0) := by rw [hV]; go_simp
        have v4 : V.cell? ⟨w.heap.size, 4, none⟩ = some (.string ⟨#[]⟩) := by rw [hV]; go_simp
        have HBV := hide (show Below w.heap.size w V by rw [hV]; exact (((((HBW.out.setCell (p := ⟨w.heap.size, 0, none⟩) (Nat.le_refl _) _).setCell (p := ⟨w.heap.size, 1, none⟩) (Nat.le_refl _) _).setCell (p := ⟨w.heap.size, 2, none⟩) (Nat.le_refl _) _).setCell (p := ⟨w.heap.size, 3, none⟩) (Nat.le_refl _) _).setCell (p := ⟨w.heap.size, 4, none⟩) (Nat.le_refl _) _))
        rw [← hV]
        refine bodyPost_ret (v := .tuple #[.agg #[.int .i64 0, .slice none 0 0, .int .i64 0, .int .i64 0, .string ⟨#[]⟩], .int .i64 6]) (by simp [results, Tryz.results18, go_sem, v0, v1, v2, v3, v4]) rfl (end_none HN.out rfl HBV.out)
      · have HWD := hide (show wordsD (cutP 32 s.data.toList) = some ⟨1, ints q, 0, 0, str l⟩ by rw [← HP.out, HPP.out]; simp only [wordsD, if_true, hpn, Option.map_some])
        obtain ⟨W3, hW3⟩ : ∃ W3, W3 = w2.alloc (Obj.cells #[.int .i64 2, .slice pva q.length pvc, .int .i64 0, .int .i64 0, .string ⟨#[]⟩] 38) := ⟨_, rfl⟩
        have hb3 : Below w2.heap.size w2 W3 := by rw [hW3]; exact (Below.refl _ _).alloc (Nat.le_refl _) _
        have hz2 := hb2.size
        have hz3 : W3.heap.size = w2.heap.size + 1 := by rw [hW3]; simp
        have hbox8 : W3.heap[w2.heap.size]? = some (Obj.cells #[.int .i64 2, .slice pva q.length pvc, .int .i64 0, .int .i64 0, .string ⟨#[]⟩] 38) := by rw [hW3]; exact heap_alloc_new _ _
        have x0 : W3.cell? ⟨w2.heap.size, 0, none⟩ = some (.int .i64 2) := by rw [cell_of_row _ _ 0 _ _ _ hbox8]; rfl
        have x1 : W3.cell? ⟨w2.heap.size, 1, none⟩ = some (.slice pva q.length pvc) := by rw [cell_of_row _ _ 1 _ _ _ hbox8]; rfl
        have x2 : W3.cell? ⟨w2.heap.size, 2, none⟩ = some (.int .i64 0) := by rw [cell_of_row _ _ 2 _ _ _ hbox8]; rfl
        have x3 : W3.cell? ⟨w2.heap.size, 3, none⟩ = some (.int .i64 0) := by rw [cell_of_row _ _ 3 _ _ _ hbox8]; rfl
        have x4 : W3.cell? ⟨w2.heap.size, 4, none⟩ = some (.string ⟨#[]⟩) := by rw [cell_of_row _ _ 4 _ _ _ hbox8]; rfl
        have hfz : ∀ o, W3.frozen? ⟨w2.heap.size, o, none⟩ = false := fun o => by simp [World.frozen?, hbox8]
        have hbP := hb2.trans (hb3.mono hz2)
        have hbW3 := (HB1.out.trans (hb2.mono hz1)).trans (hb3.mono (by omega))
        obtain ⟨hq1, hq2, hq3⟩ := row_path hprow
        have HNW2 := hide (fun g o (hg : pva = some ⟨g, o, none⟩) => hq3 g o hg)
        have HNW := hide (fun g o (hg : pva = some ⟨g, o, none⟩) => show w.heap.size ≤ g by have := hq3 g o hg; omega)
        have HQ0 := hide hq1
        have HQ2 := hide hq2
        have HB3 := hide hb3
        clear hbox8 hq1 hq2 hq3 hprow hb3 hpn
        have z2 : W3.cell? ⟨g, 2, none⟩ = some (.string (str l)) := by rw [hbP.cell hg2]; exact c2
        go_wp2_with fail
        rw [← hW3]
        clear hW3
        go_region
        obtain ⟨W5, hW5⟩ : ∃ W5, W5 = ((W3.setCell ⟨w2.heap.size, 0, none⟩ (.int .i64 1)).setCell ⟨w2.heap.size, 4, none⟩ (.string (str l))).drew := ⟨_, rfl⟩
        have hbW5 : Below W.heap.size W W5 := by rw [hW5]; exact ((hbW3.setCell (p := ⟨w2.heap.size, 0, none⟩) (show W.heap.size ≤ w2.heap.size by omega) _).setCell (p := ⟨w2.heap.size, 4, none⟩) (show W.heap.size ≤ w2.heap.size by omega) _).drew
        have hb5 : Below w2.heap.size w2 W5 := by rw [hW5]; exact ((HB3.out.setCell (p := ⟨w2.heap.size, 0, none⟩) (Nat.le_refl _) _).setCell (p := ⟨w2.heap.size, 4, none⟩) (Nat.le_refl _) _).drew
        have hz5 : w2.heap.size < W5.heap.size := by
          have : W5.heap.size = W3.heap.size := by rw [hW5]; simp [World.setCell, World.drew]
          omega
        have t0 : W5.cell? ⟨w2.heap.size, 0, none⟩ = some (.int .i64 1) := by rw [hW5]; go_simp
        have t1 : W5.cell? ⟨w2.heap.size, 1, none⟩ = some (.slice pva q.length pvc) := by rw [hW5]; go_simp
        have t2 : W5.cell? ⟨w2.heap.size, 2, none⟩ = some (.int .i64 0) := by rw [hW5]; go_simp
        have t3 : W5.cell? ⟨w2.heap.size, 3, none⟩ = some (.int .i64 0) := by rw [hW5]; go_simp
        have t4 : W5.cell? ⟨w2.heap.size, 4, none⟩ = some (.string (str l)) := by rw [hW5]; go_simp
        rw [← hW5]
        clear hW5 x0 x1 x2 x3 x4 hfz hbW3
        have x0 := t0
        have x1 := t1
        have x2 := t2
        have x3 := t3
        have x4 := t4
        clear t0 t1 t2 t3 t4
        have hbW3 := hbW5
        clear hbW5
        have hdi : DIn W5 ⟨1, ints q, 0, 0, str l⟩ pva pvc := ⟨HQ0.out.below hb5, by rw [ints_length]; exact HQ2.out.1, HQ2.out.2, by show (str l).size ≤ maxLen; rw [str_size]; unfold maxLen; omega⟩
        clear hb5
        have HDF := hide (refDF_any ⟨1, ints q, 0, 0, str l⟩ pva pvc W5 hdi)
        unfold ddV at HDF
        simp only [ints_length] at HDF
        have HDI := hide hdi
        have HES := hide (deed_some HWD.out)
        clear hdi
        go_wp2_with fail
        refine Calls.mono HDF.out ?_
        rintro e w4 ⟨rfl, hb4⟩
        have hbW4 := hbW3.trans (hb4.mono hbW3.size)
        obtain ⟨k0, k1, k2, k3, k4, kf, hbw⟩ := HCL.out w4 hbW4
        have HBW := hide hbw
        have y0 : w4.cell? ⟨w2.heap.size, 0, none⟩ = some (.int .i64 1) := by rw [hb4.cell (by simp only; omega)]; exact x0
        have y1 : w4.cell? ⟨w2.heap.size, 1, none⟩ = some (.slice pva q.length pvc) := by rw [hb4.cell (by simp only; omega)]; exact x1
        have y2 : w4.cell? ⟨w2.heap.size, 2, none⟩ = some (.int .i64 0) := by rw [hb4.cell (by simp only; omega)]; exact x2
        have y3 : w4.cell? ⟨w2.heap.size, 3, none⟩ = some (.int .i64 0) := by rw [hb4.cell (by simp only; omega)]; exact x3
        have y4 : w4.cell? ⟨w2.heap.size, 4, none⟩ = some (.string (str l)) := by rw [hb4.cell (by simp only; omega)]; exact x4
        have HDJ := hide (HDI.out.below hb4)
        have hsep : ¬ w2.heap.size = w.heap.size := by omega
        have hsep2 : ¬ w.heap.size = w2.heap.size := by omega
        clear hbw hbW4 hb4 HDF x0 x1 x2 x3 x4
        by_cases hf : deedFault ⟨1, ints q, 0, 0, str l⟩ = 0
        · have hfb : (deedFault ⟨1, ints q, 0, 0, str l⟩ != 0) = false := by rw [hf]; rfl
          have HF := hide hf
          clear hf
          go_wp2_with fail
          obtain ⟨V, hV⟩ : ∃ V, V = ((((w4.setCell ⟨w.heap.size, 0, none⟩ (.int .i64 1)).setCell ⟨w.heap.size, 1, none⟩ (.slice pva q.length pvc)).setCell ⟨w.heap.size, 2, none⟩ (.int .i64 0)).setCell ⟨w.heap.size, 3, none⟩ (.int .i64 0)).setCell ⟨w.heap.size, 4, none⟩ (.string (str l)) := ⟨_, rfl⟩
          have v0 : V.cell? ⟨w.heap.size, 0, none⟩ = some (.int .i64 1) := by rw [hV]; go_simp
          have v1 : V.cell? ⟨w.heap.size, 1, none⟩ = some (.slice pva q.length pvc) := by rw [hV]; go_simp
          have v2 : V.cell? ⟨w.heap.size, 2, none⟩ = some (.int .i64 0) := by rw [hV]; go_simp
          have v3 : V.cell? ⟨w.heap.size, 3, none⟩ = some (.int .i64 0) := by rw [hV]; go_simp
          have v4 : V.cell? ⟨w.heap.size, 4, none⟩ = some (.string (str l)) := by rw [hV]; go_simp
          have HBV := hide (show Below w.heap.size w V by rw [hV]; exact (((((HBW.out.setCell (p := ⟨w.heap.size, 0, none⟩) (Nat.le_refl _) _).setCell (p := ⟨w.heap.size, 1, none⟩) (Nat.le_refl _) _).setCell (p := ⟨w.heap.size, 2, none⟩) (Nat.le_refl _) _).setCell (p := ⟨w.heap.size, 3, none⟩) (Nat.le_refl _) _).setCell (p := ⟨w.heap.size, 4, none⟩) (Nat.le_refl _) _))
          rw [← hV]
          refine bodyPost_ret (v := .tuple #[.agg #[.int .i64 1, .slice pva q.length pvc, .int .i64 0, .int .i64 0, .string (str l)], .int .i64 0]) (by simp [results, Tryz.results18, go_sem, v0, v1, v2, v3, v4]) rfl ?_
          have e1 := HES.out.1
          have e2 := HES.out.2
          rw [HF.out] at e1
          rw [if_pos HF.out] at e2
          refine ⟨pva, pvc, ?_, ?_, HNW.out, HBV.out⟩
          · rw [e1, e2]
            unfold ddV
            simp only [ints_length]
          · rw [e2]
            exact DIn_set5 (B := w.heap.size) HDJ.out (fun g o hg => by have := HNW2.out g o hg; omega) hV
        · have hfb : (deedFault ⟨1, ints q, 0, 0, str l⟩ != 0) = true := by simpa using hf
          have HF := hide hf
          clear hf
          go_wp2_with fail
          obtain ⟨V, hV⟩ : ∃ V, V = ((((w4.setCell ⟨w.heap.size, 0, none⟩ (.int .i64 0)).setCell ⟨w.heap.size, 1, none⟩ (.slice none 0 0)).setCell ⟨w.heap.size, 2, none⟩ (.int .i64 0)).setCell ⟨w.heap.size, 3, none⟩ (.int .i64 0)).setCell ⟨w.heap.size, 4, none⟩ (.string ⟨#[]⟩) := ⟨_, rfl⟩
          have v0 : V.cell? ⟨w.heap.size, 0, none⟩ = some (.int .i64 0) := by rw [hV]; go_simp
          have v1 : V.cell? ⟨w.heap.size, 1, none⟩ = some (.slice none 0 0) := by rw [hV]; go_simp
          have v2 : V.cell? ⟨w.heap.size, 2, none⟩ = some (.int .i64 0) := by rw [hV]; go_simp
          have v3 : V.cell? ⟨w.heap.size, 3, none⟩ = some (.int .i64 0) := by rw [hV]; go_simp
          have v4 : V.cell? ⟨w.heap.size, 4, none⟩ = some (.string ⟨#[]⟩) := by rw [hV]; go_simp
          have HBV := hide (show Below w.heap.size w V by rw [hV]; exact (((((HBW.out.setCell (p := ⟨w.heap.size, 0, none⟩) (Nat.le_refl _) _).setCell (p := ⟨w.heap.size, 1, none⟩) (Nat.le_refl _) _).setCell (p := ⟨w.heap.size, 2, none⟩) (Nat.le_refl _) _).setCell (p := ⟨w.heap.size, 3, none⟩) (Nat.le_refl _) _).setCell (p := ⟨w.heap.size, 4, none⟩) (Nat.le_refl _) _))
          rw [← hV]
          refine bodyPost_ret (v := .tuple #[.agg #[.int .i64 0, .slice none 0 0, .int .i64 0, .int .i64 0, .string ⟨#[]⟩], .int .i64 (deedFault ⟨1, ints q, 0, 0, str l⟩)]) (by simp [results, Tryz.results18, go_sem, v0, v1, v2, v3, v4]) rfl ?_
          have e1 := HES.out.1
          have e2 := HES.out.2
          rw [if_neg HF.out] at e2
          refine ⟨none, 0, ?_, ?_, (fun g o h => by cases h), HBV.out⟩
          · rw [e1, e2]
            rfl
          · rw [e2]; exact DIn.noD V

    · have hpl2 : P.length = 5 := hpl.trans hm
      rw [hm] at HMP
      have HM := hide hm
      clear hpl hm
      have ha : a = insW := by
        have h := HM.out
        unfold map3P at h
        split at h
        · cases h
        · split at h
          · cases h
          · split at h
            · assumption
            · cases h
      obtain ⟨x, hx1⟩ : ∃ x, P[2]? = some x := ⟨_, List.getElem?_eq_getElem (by omega)⟩
      obtain ⟨y, hy1⟩ : ∃ y, P[3]? = some y := ⟨_, List.getElem?_eq_getElem (by omega)⟩
      obtain ⟨l, hl1⟩ : ∃ l, P[4]? = some l := ⟨_, List.getElem?_eq_getElem (by omega)⟩
      have hxz : x.length ≤ s.size := HSZ.out x (List.mem_of_getElem? hx1)
      have hyz : y.length ≤ s.size := HSZ.out y (List.mem_of_getElem? hy1)
      have hlz : l.length ≤ s.size := HSZ.out l (List.mem_of_getElem? hl1)
      have c2 : w1.cell? ⟨g, 2, none⟩ = some (.string (str x)) := pieces HR.out hx1
      have c3 : w1.cell? ⟨g, 3, none⟩ = some (.string (str y)) := pieces HR.out hy1
      have c4 : w1.cell? ⟨g, 4, none⟩ = some (.string (str l)) := pieces HR.out hl1
      have HPP := hide (show P = [insW, p, x, y, l] by
        have h1 := HP1.out
        have h2 := HPa.out
        match P', h2 with
        | [], h2 => rw [h2] at hpl2; simp at hpl2
        | [b], h2 => rw [h2] at hpl2; simp at hpl2
        | [b, c], h2 => rw [h2] at hpl2; simp at hpl2
        | [b, c, d], h2 => rw [h2] at hpl2; simp at hpl2
        | [b, c, d, e], h2 =>
          rw [h2] at h1 hx1 hy1 hl1 ⊢
          simp at h1 hx1 hy1 hl1
          rw [ha, h1, hx1, hy1, hl1]
        | b :: c :: d :: e :: t :: u, h2 => rw [h2] at hpl2; simp at hpl2)
      have HFX := hide (fun W => few_any (str x) W (by rw [str_size]; unfold maxLen; omega))
      have HFY := hide (fun W => few_any (str y) W (by rw [str_size]; unfold maxLen; omega))
      rw [show (str x).data.toList = x by simp] at HFX
      rw [show (str y).data.toList = y by simp] at HFY
      clear ha hl1 hx1 hy1
      go_wp2_with fail
      refine Calls.mono (HMP.out w1) ?_
      rintro e w1' ⟨rfl, hw1'⟩
      subst hw1'
      go_wp2_with fail
      refine Calls.mono HPI.out ?_
      rintro e w2 ⟨hpe, hb2⟩
      rcases hpe with ⟨hpn, rfl⟩ | ⟨q, pva, pvc, hpn, rfl, hprow⟩
      · have HN := hide (show wordsD (cutP 32 s.data.toList) = none by rw [← HP.out, HPP.out]; simp only [wordsD, if_true, hpn])
        obtain ⟨k0, k1, k2, k3, k4, kf, hbw⟩ := HCL.out w2 (HB1.out.trans (hb2.mono hz1))
        have HBW := hide hbw
        clear hbw hb2
        go_wp2_with fail
        obtain ⟨V, hV⟩ : ∃ V, V = ((((w2.setCell ⟨w.heap.size, 0, none⟩ (.int .i64 0)).setCell ⟨w.heap.size, 1, none⟩ (.slice none 0 0)).setCell ⟨w.heap.size, 2, none⟩ (.int .i64 0)).setCell ⟨w.heap.size, 3, none⟩ (.int .i64 0)).setCell ⟨w.heap.size, 4, none⟩ (.string ⟨#[]⟩) := ⟨_, rfl⟩
        have v0 : V.cell? ⟨w.heap.size, 0, none⟩ = some (.int .i64 0) := by rw [hV]; go_simp
        have v1 : V.cell? ⟨w.heap.size, 1, none⟩ = some (.slice none 0 0) := by rw [hV]; go_simp
        have v2 : V.cell? ⟨w.heap.size, 2, none⟩ = some (.int .i64 0) := by rw [hV]; go_simp
        have v3 : V.cell? ⟨w.heap.size, 3, none⟩ = some (.int .i64 0) := by rw [hV]; go_simp
        have v4 : V.cell? ⟨w.heap.size, 4, none⟩ = some (.string ⟨#[]⟩) := by rw [hV]; go_simp
        have HBV := hide (show Below w.heap.size w V by rw [hV]; exact (((((HBW.out.setCell (p := ⟨w.heap.size, 0, none⟩) (Nat.le_refl _) _).setCell (p := ⟨w.heap.size, 1, none⟩) (Nat.le_refl _) _).setCell (p := ⟨w.heap.size, 2, none⟩) (Nat.le_refl _) _).setCell (p := ⟨w.heap.size, 3, none⟩) (Nat.le_refl _) _).setCell (p := ⟨w.heap.size, 4, none⟩) (Nat.le_refl _) _))
        rw [← hV]
        refine bodyPost_ret (v := .tuple #[.agg #[.int .i64 0, .slice none 0 0, .int .i64 0, .int .i64 0, .string ⟨#[]⟩], .int .i64 6]) (by simp [results, Tryz.results18, go_sem, v0, v1, v2, v3, v4]) rfl (end_none HN.out rfl HBV.out)
      · have HPN := hide hpn
        obtain ⟨W3, hW3⟩ : ∃ W3, W3 = w2.alloc (Obj.cells #[.int .i64 2, .slice pva q.length pvc, .int .i64 0, .int .i64 0, .string ⟨#[]⟩] 38) := ⟨_, rfl⟩
        have hb3 : Below w2.heap.size w2 W3 := by rw [hW3]; exact (Below.refl _ _).alloc (Nat.le_refl _) _
        have hz2 := hb2.size
        have hz3 : W3.heap.size = w2.heap.size + 1 := by rw [hW3]; simp
        have hbox8 : W3.heap[w2.heap.size]? = some (Obj.cells #[.int .i64 2, .slice pva q.length pvc, .int .i64 0, .int .i64 0, .string ⟨#[]⟩] 38) := by rw [hW3]; exact heap_alloc_new _ _
        have x0 : W3.cell? ⟨w2.heap.size, 0, none⟩ = some (.int .i64 2) := by rw [cell_of_row _ _ 0 _ _ _ hbox8]; rfl
        have x1 : W3.cell? ⟨w2.heap.size, 1, none⟩ = some (.slice pva q.length pvc) := by rw [cell_of_row _ _ 1 _ _ _ hbox8]; rfl
        have x2 : W3.cell? ⟨w2.heap.size, 2, none⟩ = some (.int .i64 0) := by rw [cell_of_row _ _ 2 _ _ _ hbox8]; rfl
        have x3 : W3.cell? ⟨w2.heap.size, 3, none⟩ = some (.int .i64 0) := by rw [cell_of_row _ _ 3 _ _ _ hbox8]; rfl
        have x4 : W3.cell? ⟨w2.heap.size, 4, none⟩ = some (.string ⟨#[]⟩) := by rw [cell_of_row _ _ 4 _ _ _ hbox8]; rfl
        have hfz : ∀ o, W3.frozen? ⟨w2.heap.size, o, none⟩ = false := fun o => by simp [World.frozen?, hbox8]
        have hbP := hb2.trans (hb3.mono hz2)
        have hbW3 := (HB1.out.trans (hb2.mono hz1)).trans (hb3.mono (by omega))
        obtain ⟨hq1, hq2, hq3⟩ := row_path hprow
        have HNW2 := hide (fun g o (hg : pva = some ⟨g, o, none⟩) => hq3 g o hg)
        have HNW := hide (fun g o (hg : pva = some ⟨g, o, none⟩) => show w.heap.size ≤ g by have := hq3 g o hg; omega)
        have HQ0 := hide hq1
        have HQ2 := hide hq2
        have HB3 := hide hb3
        clear hbox8 hq1 hq2 hq3 hprow hb3 hpn
        have z2 : W3.cell? ⟨g, 2, none⟩ = some (.string (str x)) := by rw [hbP.cell hg2]; exact c2
        have z3 : W3.cell? ⟨g, 3, none⟩ = some (.string (str y)) := by rw [hbP.cell hg2]; exact c3
        have z4 : W3.cell? ⟨g, 4, none⟩ = some (.string (str l)) := by rw [hbP.cell hg2]; exact c4
        have z2e : (w2.alloc (Obj.cells #[.int .i64 2, .slice pva q.length pvc, .int .i64 0, .int .i64 0, .string ⟨#[]⟩] 38)).cell? ⟨g, 2, none⟩ = some (.string (str x)) := by rw [← hW3]; exact z2
        have HW3 := hide hW3
        clear hW3
        go_wp2_with fail
        rw [← HW3.out]
        clear HW3 z2e
        refine Calls.mono (HFX.out W3) ?_
        rintro e w5 ⟨rfl, hw5⟩
        subst hw5
        go_wp2_with fail
        refine Calls.mono (HFY.out w5) ?_
        rintro e w6 ⟨rfl, hw6⟩
        subst hw6
        cases hfx : fewP x with
        | none =>
          have hfe : fewE x = (0, false) := by unfold fewE; rw [hfx]
          rw [hfe]
          have HN := hide (show wordsD (cutP 32 s.data.toList) = none by rw [← HP.out, HPP.out]; simp only [wordsD, if_true, hfx]; split <;> first | rfl | (rename_i h1 h2 h3; cases h2))
          obtain ⟨k0, k1, k2, k3, k4, kf, hbw⟩ := HCL.out w6 hbW3
          have HBW := hide hbw
          clear hbw hfx hfe
          go_wp2_with fail
          obtain ⟨V, hV⟩ : ∃ V, V = ((((w6.setCell ⟨w.heap.size, 0, none⟩ (.int .i64 0)).setCell ⟨w.heap.size, 1, none⟩ (.slice none 0 0)).setCell ⟨w.heap.size, 2, none⟩ (.int .i64 0)).setCell ⟨w.heap.size, 3, none⟩ (.int .i64 0)).setCell ⟨w.heap.size, 4, none⟩ (.string ⟨#[]⟩) := ⟨_, rfl⟩
          have v0 : V.cell? ⟨w.heap.size, 0, none⟩ = some (.int .i64 0) := by rw [hV]; go_simp
          have v1 : V.cell? ⟨w.heap.size, 1, none⟩ = some (.slice none 0 0) := by rw [hV]; go_simp
          have v2 : V.cell? ⟨w.heap.size, 2, none⟩ = some (.int .i64 0) := by rw [hV]; go_simp
          have v3 : V.cell? ⟨w.heap.size, 3, none⟩ = some (.int .i64 0) := by rw [hV]; go_simp
          have v4 : V.cell? ⟨w.heap.size, 4, none⟩ = some (.string ⟨#[]⟩) := by rw [hV]; go_simp
          have HBV := hide (show Below w.heap.size w V by rw [hV]; exact (((((HBW.out.setCell (p := ⟨w.heap.size, 0, none⟩) (Nat.le_refl _) _).setCell (p := ⟨w.heap.size, 1, none⟩) (Nat.le_refl _) _).setCell (p := ⟨w.heap.size, 2, none⟩) (Nat.le_refl _) _).setCell (p := ⟨w.heap.size, 3, none⟩) (Nat.le_refl _) _).setCell (p := ⟨w.heap.size, 4, none⟩) (Nat.le_refl _) _))
          rw [← hV]
          refine bodyPost_ret (v := .tuple #[.agg #[.int .i64 0, .slice none 0 0, .int .i64 0, .int .i64 0, .string ⟨#[]⟩], .int .i64 6]) (by simp [results, Tryz.results18, go_sem, v0, v1, v2, v3, v4]) rfl (end_none HN.out rfl HBV.out)
        | some m =>
          have hfe : fewE x = (m, true) := by unfold fewE; rw [hfx]
          rw [hfe]
          cases hfy : fewP y with
          | none =>
            have hfe2 : fewE y = (0, false) := by unfold fewE; rw [hfy]
            rw [hfe2]
            have HN := hide (show wordsD (cutP 32 s.data.toList) = none by rw [← HP.out, HPP.out]; simp only [wordsD, if_true, hfy]; split <;> first | rfl | (rename_i h1 h2 h3; cases h3))
            obtain ⟨k0, k1, k2, k3, k4, kf, hbw⟩ := HCL.out w6 hbW3
            have HBW := hide hbw
            clear hbw hfx hfe hfy hfe2
            go_wp2_with fail
            obtain ⟨V, hV⟩ : ∃ V, V = ((((w6.setCell ⟨w.heap.size, 0, none⟩ (.int .i64 0)).setCell ⟨w.heap.size, 1, none⟩ (.slice none 0 0)).setCell ⟨w.heap.size, 2, none⟩ (.int .i64 0)).setCell ⟨w.heap.size, 3, none⟩ (.int .i64 0)).setCell ⟨w.heap.size, 4, none⟩ (.string ⟨#[]⟩) := ⟨_, rfl⟩
            have v0 : V.cell? ⟨w.heap.size, 0, none⟩ = some (.int .i64 0) := by rw [hV]; go_simp
            have v1 : V.cell? ⟨w.heap.size, 1, none⟩ = some (.slice none 0 0) := by rw [hV]; go_simp
            have v2 : V.cell? ⟨w.heap.size, 2, none⟩ = some (.int .i64 0) := by rw [hV]; go_simp
            have v3 : V.cell? ⟨w.heap.size, 3, none⟩ = some (.int .i64 0) := by rw [hV]; go_simp
            have v4 : V.cell? ⟨w.heap.size, 4, none⟩ = some (.string ⟨#[]⟩) := by rw [hV]; go_simp
            have HBV := hide (show Below w.heap.size w V by rw [hV]; exact (((((HBW.out.setCell (p := ⟨w.heap.size, 0, none⟩) (Nat.le_refl _) _).setCell (p := ⟨w.heap.size, 1, none⟩) (Nat.le_refl _) _).setCell (p := ⟨w.heap.size, 2, none⟩) (Nat.le_refl _) _).setCell (p := ⟨w.heap.size, 3, none⟩) (Nat.le_refl _) _).setCell (p := ⟨w.heap.size, 4, none⟩) (Nat.le_refl _) _))
            rw [← hV]
            refine bodyPost_ret (v := .tuple #[.agg #[.int .i64 0, .slice none 0 0, .int .i64 0, .int .i64 0, .string ⟨#[]⟩], .int .i64 6]) (by simp [results, Tryz.results18, go_sem, v0, v1, v2, v3, v4]) rfl (end_none HN.out rfl HBV.out)
          | some n =>
            have hfe2 : fewE y = (n, true) := by unfold fewE; rw [hfy]
            rw [hfe2]
            have HWD := hide (show wordsD (cutP 32 s.data.toList) = some ⟨3, ints q, (m : Int), (n : Int), str l⟩ by rw [← HP.out, HPP.out]; simp only [wordsD, if_true, HPN.out, hfx, hfy])
            clear hfx hfe hfy hfe2
            go_wp2_with fail
            go_region
            obtain ⟨W5, hW5⟩ : ∃ W5, W5 = ((((w6.setCell ⟨w2.heap.size, 0, none⟩ (.int .i64 3)).setCell ⟨w2.heap.size, 2, none⟩ (.int .i64 (m : Int))).setCell ⟨w2.heap.size, 3, none⟩ (.int .i64 (n : Int))).setCell ⟨w2.heap.size, 4, none⟩ (.string (str l))).drew := ⟨_, rfl⟩
            have hbW5 : Below W.heap.size W W5 := by rw [hW5]; exact ((((hbW3.setCell (p := ⟨w2.heap.size, 0, none⟩) (show W.heap.size ≤ w2.heap.size by omega) _).setCell (p := ⟨w2.heap.size, 2, none⟩) (show W.heap.size ≤ w2.heap.size by omega) _).setCell (p := ⟨w2.heap.size, 3, none⟩) (show W.heap.size ≤ w2.heap.size by omega) _).setCell (p := ⟨w2.heap.size, 4, none⟩) (show W.heap.size ≤ w2.heap.size by omega) _).drew
            have hb5 : Below w2.heap.size w2 W5 := by rw [hW5]; exact ((((HB3.out.setCell (p := ⟨w2.heap.size, 0, none⟩) (Nat.le_refl _) _).setCell (p := ⟨w2.heap.size, 2, none⟩) (Nat.le_refl _) _).setCell (p := ⟨w2.heap.size, 3, none⟩) (Nat.le_refl _) _).setCell (p := ⟨w2.heap.size, 4, none⟩) (Nat.le_refl _) _).drew
            have hz5 : w2.heap.size < W5.heap.size := by
              have : W5.heap.size = w6.heap.size := by rw [hW5]; simp [World.setCell, World.drew]
              omega
            have t0 : W5.cell? ⟨w2.heap.size, 0, none⟩ = some (.int .i64 3) := by rw [hW5]; go_simp
            have t1 : W5.cell? ⟨w2.heap.size, 1, none⟩ = some (.slice pva q.length pvc) := by rw [hW5]; go_simp
            have t2 : W5.cell? ⟨w2.heap.size, 2, none⟩ = some (.int .i64 (m : Int)) := by rw [hW5]; go_simp
            have t3 : W5.cell? ⟨w2.heap.size, 3, none⟩ = some (.int .i64 (n : Int)) := by rw [hW5]; go_simp
            have t4 : W5.cell? ⟨w2.heap.size, 4, none⟩ = some (.string (str l)) := by rw [hW5]; go_simp
            rw [← hW5]
            clear hW5 x0 x1 x2 x3 x4 hfz hbW3
            have x0 := t0
            have x1 := t1
            have x2 := t2
            have x3 := t3
            have x4 := t4
            clear t0 t1 t2 t3 t4
            have hbW3 := hbW5
            clear hbW5
            have hdi : DIn W5 ⟨3, ints q, (m : Int), (n : Int), str l⟩ pva pvc := ⟨HQ0.out.below hb5, by rw [ints_length]; exact HQ2.out.1, HQ2.out.2, by show (str l).size ≤ maxLen; rw [str_size]; unfold maxLen; omega⟩
            clear hb5
            have HDF := hide (refDF_any ⟨3, ints q, (m : Int), (n : Int), str l⟩ pva pvc W5 hdi)
            unfold ddV at HDF
            simp only [ints_length] at HDF
            have HDI := hide hdi
            have HES := hide (deed_some HWD.out)
            clear hdi
            go_wp2_with fail
            refine Calls.mono HDF.out ?_
            rintro e w4 ⟨rfl, hb4⟩
            have hbW4 := hbW3.trans (hb4.mono hbW3.size)
            obtain ⟨k0, k1, k2, k3, k4, kf, hbw⟩ := HCL.out w4 hbW4
            have HBW := hide hbw
            have y0 : w4.cell? ⟨w2.heap.size, 0, none⟩ = some (.int .i64 3) := by rw [hb4.cell (by simp only; omega)]; exact x0
            have y1 : w4.cell? ⟨w2.heap.size, 1, none⟩ = some (.slice pva q.length pvc) := by rw [hb4.cell (by simp only; omega)]; exact x1
            have y2 : w4.cell? ⟨w2.heap.size, 2, none⟩ = some (.int .i64 (m : Int)) := by rw [hb4.cell (by simp only; omega)]; exact x2
            have y3 : w4.cell? ⟨w2.heap.size, 3, none⟩ = some (.int .i64 (n : Int)) := by rw [hb4.cell (by simp only; omega)]; exact x3
            have y4 : w4.cell? ⟨w2.heap.size, 4, none⟩ = some (.string (str l)) := by rw [hb4.cell (by simp only; omega)]; exact x4
            have HDJ := hide (HDI.out.below hb4)
            have hsep : ¬ w2.heap.size = w.heap.size := by omega
            have hsep2 : ¬ w.heap.size = w2.heap.size := by omega
            clear hbw hbW4 hb4 HDF x0 x1 x2 x3 x4
            by_cases hf : deedFault ⟨3, ints q, (m : Int), (n : Int), str l⟩ = 0
            · have hfb : (deedFault ⟨3, ints q, (m : Int), (n : Int), str l⟩ != 0) = false := by rw [hf]; rfl
              have HF := hide hf
              clear hf
              go_wp2_with fail
              obtain ⟨V, hV⟩ : ∃ V, V = ((((w4.setCell ⟨w.heap.size, 0, none⟩ (.int .i64 3)).setCell ⟨w.heap.size, 1, none⟩ (.slice pva q.length pvc)).setCell ⟨w.heap.size, 2, none⟩ (.int .i64 (m : Int))).setCell ⟨w.heap.size, 3, none⟩ (.int .i64 (n : Int))).setCell ⟨w.heap.size, 4, none⟩ (.string (str l)) := ⟨_, rfl⟩
              have v0 : V.cell? ⟨w.heap.size, 0, none⟩ = some (.int .i64 3) := by rw [hV]; go_simp
              have v1 : V.cell? ⟨w.heap.size, 1, none⟩ = some (.slice pva q.length pvc) := by rw [hV]; go_simp
              have v2 : V.cell? ⟨w.heap.size, 2, none⟩ = some (.int .i64 (m : Int)) := by rw [hV]; go_simp
              have v3 : V.cell? ⟨w.heap.size, 3, none⟩ = some (.int .i64 (n : Int)) := by rw [hV]; go_simp
              have v4 : V.cell? ⟨w.heap.size, 4, none⟩ = some (.string (str l)) := by rw [hV]; go_simp
              have HBV := hide (show Below w.heap.size w V by rw [hV]; exact (((((HBW.out.setCell (p := ⟨w.heap.size, 0, none⟩) (Nat.le_refl _) _).setCell (p := ⟨w.heap.size, 1, none⟩) (Nat.le_refl _) _).setCell (p := ⟨w.heap.size, 2, none⟩) (Nat.le_refl _) _).setCell (p := ⟨w.heap.size, 3, none⟩) (Nat.le_refl _) _).setCell (p := ⟨w.heap.size, 4, none⟩) (Nat.le_refl _) _))
              rw [← hV]
              refine bodyPost_ret (v := .tuple #[.agg #[.int .i64 3, .slice pva q.length pvc, .int .i64 (m : Int), .int .i64 (n : Int), .string (str l)], .int .i64 0]) (by simp [results, Tryz.results18, go_sem, v0, v1, v2, v3, v4]) rfl ?_
              have e1 := HES.out.1
              have e2 := HES.out.2
              rw [HF.out] at e1
              rw [if_pos HF.out] at e2
              refine ⟨pva, pvc, ?_, ?_, HNW.out, HBV.out⟩
              · rw [e1, e2]
                unfold ddV
                simp only [ints_length]
              · rw [e2]
                exact DIn_set5 (B := w.heap.size) HDJ.out (fun g o hg => by have := HNW2.out g o hg; omega) hV
            · have hfb : (deedFault ⟨3, ints q, (m : Int), (n : Int), str l⟩ != 0) = true := by simpa using hf
              have HF := hide hf
              clear hf
              go_wp2_with fail
              obtain ⟨V, hV⟩ : ∃ V, V = ((((w4.setCell ⟨w.heap.size, 0, none⟩ (.int .i64 0)).setCell ⟨w.heap.size, 1, none⟩ (.slice none 0 0)).setCell ⟨w.heap.size, 2, none⟩ (.int .i64 0)).setCell ⟨w.heap.size, 3, none⟩ (.int .i64 0)).setCell ⟨w.heap.size, 4, none⟩ (.string ⟨#[]⟩) := ⟨_, rfl⟩
              have v0 : V.cell? ⟨w.heap.size, 0, none⟩ = some (.int .i64 0) := by rw [hV]; go_simp
              have v1 : V.cell? ⟨w.heap.size, 1, none⟩ = some (.slice none 0 0) := by rw [hV]; go_simp
              have v2 : V.cell? ⟨w.heap.size, 2, none⟩ = some (.int .i64 0) := by rw [hV]; go_simp
              have v3 : V.cell? ⟨w.heap.size, 3, none⟩ = some (.int .i64 0) := by rw [hV]; go_simp
              have v4 : V.cell? ⟨w.heap.size, 4, none⟩ = some (.string ⟨#[]⟩) := by rw [hV]; go_simp
              have HBV := hide (show Below w.heap.size w V by rw [hV]; exact (((((HBW.out.setCell (p := ⟨w.heap.size, 0, none⟩) (Nat.le_refl _) _).setCell (p := ⟨w.heap.size, 1, none⟩) (Nat.le_refl _) _).setCell (p := ⟨w.heap.size, 2, none⟩) (Nat.le_refl _) _).setCell (p := ⟨w.heap.size, 3, none⟩) (Nat.le_refl _) _).setCell (p := ⟨w.heap.size, 4, none⟩) (Nat.le_refl _) _))
              rw [← hV]
              refine bodyPost_ret (v := .tuple #[.agg #[.int .i64 0, .slice none 0 0, .int .i64 0, .int .i64 0, .string ⟨#[]⟩], .int .i64 (deedFault ⟨3, ints q, (m : Int), (n : Int), str l⟩)]) (by simp [results, Tryz.results18, go_sem, v0, v1, v2, v3, v4]) rfl ?_
              have e1 := HES.out.1
              have e2 := HES.out.2
              rw [if_neg HF.out] at e2
              refine ⟨none, 0, ?_, ?_, (fun g o h => by cases h), HBV.out⟩
              · rw [e1, e2]
                rfl
              · rw [e2]; exact DIn.noD V

end Go.Proofs.YtkoohfkomlmhoacGreatDoor.Pat
namespace Go.Proofs.YtkoohfkomlmhoacGreatDoor.Pat
open Go.Deep Go.RowKit Deed
set_option linter.unusedVariables false
set_option maxRecDepth 20000

/-- What reading tells: a deed whose path lies in new memory; or that there is none. -/
def ReadEnd (x : Option Dd) (w : World) (e : Ending) (w' : World) : Prop :=
  ∃ (D : Dd) (pa : Option Addr) (pc n : Nat) (ok : Bool), e = .returned (.tuple #[.agg #[.int .i64 D.kind, .slice pa n pc, .int .i64 D.pos, .int .i64 D.many, .string D.lab], .bool ok]) ∧ ((ok = false ∧ x = none) ∨ (ok = true ∧ x = some D ∧ n = D.path.length ∧ DIn w' D pa pc ∧ ∀ g o, pa = some ⟨g, o, none⟩ → w.heap.size ≤ g)) ∧ Below w.heap.size w w'
abbrev put5 (w : World) (B : Nat) (a0 a1 a2 a3 a4 : Value) : World := ((((w.setCell ⟨B, 0, none⟩ a0).setCell ⟨B, 1, none⟩ a1).setCell ⟨B, 2, none⟩ a2).setCell ⟨B, 3, none⟩ a3).setCell ⟨B, 4, none⟩ a4
theorem below_put5 {B : Nat} {w w1 : World} (h : Below B w w1) (a0 a1 a2 a3 a4 : Value) : Below B w (put5 w1 B a0 a1 a2 a3 a4) :=
  ((((h.setCell (p := ⟨B, 0, none⟩) (Nat.le_refl _) _).setCell (p := ⟨B, 1, none⟩) (Nat.le_refl _) _).setCell (p := ⟨B, 2, none⟩) (Nat.le_refl _) _).setCell (p := ⟨B, 3, none⟩) (Nat.le_refl _) _).setCell (p := ⟨B, 4, none⟩) (Nat.le_refl _) _
theorem read_none {w w1 V : World} {D : Dd} {pa : Option Addr} {pc n : Nat} (hb : Below w.heap.size w w1) (hV : V = put5 w1 w.heap.size (.int .i64 D.kind) (.slice pa n pc) (.int .i64 D.pos) (.int .i64 D.many) (.string D.lab)) :
    ReadEnd none w (.returned (.tuple #[.agg #[.int .i64 D.kind, .slice pa n pc, .int .i64 D.pos, .int .i64 D.many, .string D.lab], .bool false])) V :=
  ⟨D, pa, pc, n, false, rfl, Or.inl ⟨rfl, rfl⟩, by rw [hV]; exact below_put5 hb _ _ _ _ _⟩
theorem read_some {w w1 V : World} {D : Dd} {pa : Option Addr} {pc : Nat} (hb : Below w.heap.size w w1) (hD : DIn w1 D pa pc) (hn : ∀ g o, pa = some ⟨g, o, none⟩ → w.heap.size < g) (hV : V = put5 w1 w.heap.size (.int .i64 D.kind) (.slice pa D.path.length pc) (.int .i64 D.pos) (.int .i64 D.many) (.string D.lab)) :
    ReadEnd (some D) w (.returned (.tuple #[.agg #[.int .i64 D.kind, .slice pa D.path.length pc, .int .i64 D.pos, .int .i64 D.many, .string D.lab], .bool true])) V :=
  ⟨D, pa, pc, _, true, rfl, Or.inr ⟨rfl, rfl, rfl, DIn_set5 hD (fun g o h => by have := hn g o h; omega) hV, fun g o h => by have := hn g o h; omega⟩, by rw [hV]; exact below_put5 hb _ _ _ _ _⟩
/-- A box of zeros that was made first, and what is known of it later. -/
theorem zero_box {w W : World} (hW : W = w.alloc (Obj.cells zeroD 38)) : Below w.heap.size w W ∧ W.heap.size = w.heap.size + 1 ∧ ∀ W', Below W.heap.size W W' → W'.cell? ⟨w.heap.size, 0, none⟩ = some (.int .i64 0) ∧ W'.cell? ⟨w.heap.size, 1, none⟩ = some (.slice none 0 0) ∧ W'.cell? ⟨w.heap.size, 2, none⟩ = some (.int .i64 0) ∧ W'.cell? ⟨w.heap.size, 3, none⟩ = some (.int .i64 0) ∧ W'.cell? ⟨w.heap.size, 4, none⟩ = some (.string ⟨#[]⟩) ∧ (∀ o, W'.frozen? ⟨w.heap.size, o, none⟩ = false) ∧ Below w.heap.size w W' := by
  have hB : Below w.heap.size w W := by rw [hW]; exact (Below.refl _ _).alloc (Nat.le_refl _) _
  have hWs : W.heap.size = w.heap.size + 1 := by rw [hW]; simp
  have hbox : W.heap[w.heap.size]? = some (Obj.cells zeroD 38) := by rw [hW]; exact heap_alloc_new _ _
  refine ⟨hB, hWs, fun W' h => ?_⟩
  have hb := (h.block w.heap.size (by omega)).trans hbox
  exact ⟨by rw [cell_of_row _ _ 0 _ _ _ hb]; rfl, by rw [cell_of_row _ _ 1 _ _ _ hb]; rfl, by rw [cell_of_row _ _ 2 _ _ _ hb]; rfl, by rw [cell_of_row _ _ 3 _ _ _ hb]; rfl, by rw [cell_of_row _ _ 4 _ _ _ hb]; rfl, fun o => by simp [World.frozen?, hb], hB.trans (h.mono (by omega))⟩
/-- The five cells behind such a store. -/
theorem put5_cells {w1 V : World} {B : Nat} {a0 a1 a2 a3 a4 b0 b1 b2 b3 b4 : Value} (hV : V = put5 w1 B a0 a1 a2 a3 a4) (k0 : w1.cell? ⟨B, 0, none⟩ = some b0) (k1 : w1.cell? ⟨B, 1, none⟩ = some b1) (k2 : w1.cell? ⟨B, 2, none⟩ = some b2) (k3 : w1.cell? ⟨B, 3, none⟩ = some b3) (k4 : w1.cell? ⟨B, 4, none⟩ = some b4) :
    V.cell? ⟨B, 0, none⟩ = some a0 ∧ V.cell? ⟨B, 1, none⟩ = some a1 ∧ V.cell? ⟨B, 2, none⟩ = some a2 ∧ V.cell? ⟨B, 3, none⟩ = some a3 ∧ V.cell? ⟨B, 4, none⟩ = some a4 := by
  rw [hV]
  refine ⟨?_, ?_, ?_, ?_, ?_⟩ <;> (unfold put5; go_simp)

set_option maxHeartbeats 2000000 in
theorem readName_any (p l : ByteArray) (w : World) (hp : p.size ≤ 100000000) (hl : l.size ≤ 100000000) (ht : Tab w) :
    Calls Tryz.prog 71 #[.string p, .string l] w (ReadEnd ((pathIn p.data.toList).map fun q => ⟨1, ints q, 0, 0, l⟩) w) := by
  obtain ⟨W, hW⟩ : ∃ W, W = w.alloc (Obj.cells zeroD 38) := ⟨_, rfl⟩
  obtain ⟨hB, hWs, hcl⟩ := zero_box hW
  have HCL := hide hcl
  have HP := hide (pparsePath_any p W hp (ht.below hB))
  clear hcl hB
  go_enter Tryz.func71, Tryz.ntmps71
  go_wp2_with fail
  rw [← hW]
  clear hW
  refine Calls.mono HP.out ?_
  rintro e w1 ⟨hend, hb1⟩
  obtain ⟨k0, k1, k2, k3, k4, kf, hbw⟩ := HCL.out w1 hb1
  have HBW := hide hbw
  clear hb1 hbw HP
  rcases hend with ⟨hn, rfl⟩ | ⟨q, va, vc, hq, rfl, hown⟩
  · have HN := hide hn
    clear hn
    go_wp2_with fail
    obtain ⟨V, hV⟩ : ∃ V, V = put5 w1 w.heap.size (.int .i64 1) (.slice none 0 0) (.int .i64 0) (.int .i64 0) (.string l) := ⟨_, rfl⟩
    obtain ⟨v0, v1, v2, v3, v4⟩ := put5_cells hV k0 k1 k2 k3 k4
    have HE := hide (read_none (D := ⟨1, [], 0, 0, l⟩) HBW.out hV)
    unfold put5 at hV
    rw [← hV]
    refine bodyPost_ret (v := .tuple #[.agg #[.int .i64 1, .slice none 0 0, .int .i64 0, .int .i64 0, .string l], .bool false]) (by simp [results, Tryz.results71, go_sem, v0, v1, v2, v3, v4]) rfl ?_
    rw [HN.out]
    exact HE.out
  · obtain ⟨hpi, ⟨hl1, hl2⟩, hnew⟩ := row_path hown
    have HQ := hide hq
    have HNEW := hide hnew
    have HDI := hide (show DIn w1 ⟨1, ints q, 0, 0, l⟩ va vc from ⟨hpi, by simpa [ints] using hl1, hl2, by show l.size ≤ _; unfold maxLen; omega⟩)
    clear hq hown hpi hnew
    unfold maxLen at hl2
    go_wp2_with fail
    obtain ⟨V, hV⟩ : ∃ V, V = put5 w1 w.heap.size (.int .i64 1) (.slice va q.length vc) (.int .i64 0) (.int .i64 0) (.string l) := ⟨_, rfl⟩
    obtain ⟨v0, v1, v2, v3, v4⟩ := put5_cells hV k0 k1 k2 k3 k4
    have HE := hide (read_some (w := w) HBW.out HDI.out (fun g o h => by have := HNEW.out g o h; omega) (show V = _ by rw [hV]; simp [ints]))
    unfold put5 at hV
    rw [← hV]
    refine bodyPost_ret (v := .tuple #[.agg #[.int .i64 1, .slice va q.length vc, .int .i64 0, .int .i64 0, .string l], .bool true]) (by simp [results, Tryz.results71, go_sem, v0, v1, v2, v3, v4]) rfl ?_
    rw [HQ.out]
    have := HE.out
    simpa [ints] using this
set_option maxHeartbeats 2000000 in
theorem readDelete_any (p : ByteArray) (w : World) (hp : p.size ≤ 100000000) (ht : Tab w) :
    Calls Tryz.prog 72 #[.string p] w (ReadEnd ((pathIn p.data.toList).map fun q => ⟨2, ints q, 0, 0, ⟨#[]⟩⟩) w) := by
  obtain ⟨W, hW⟩ : ∃ W, W = w.alloc (Obj.cells zeroD 38) := ⟨_, rfl⟩
  obtain ⟨hB, hWs, hcl⟩ := zero_box hW
  have HCL := hide hcl
  have HP := hide (pparsePath_any p W hp (ht.below hB))
  clear hcl hB
  go_enter Tryz.func72, Tryz.ntmps72
  go_wp2_with fail
  rw [← hW]
  clear hW
  refine Calls.mono HP.out ?_
  rintro e w1 ⟨hend, hb1⟩
  obtain ⟨k0, k1, k2, k3, k4, kf, hbw⟩ := HCL.out w1 hb1
  have HBW := hide hbw
  clear hb1 hbw HP
  rcases hend with ⟨hn, rfl⟩ | ⟨q, va, vc, hq, rfl, hown⟩
  · have HN := hide hn
    clear hn
    go_wp2_with fail
    obtain ⟨V, hV⟩ : ∃ V, V = put5 w1 w.heap.size (.int .i64 2) (.slice none 0 0) (.int .i64 0) (.int .i64 0) (.string ⟨#[]⟩) := ⟨_, rfl⟩
    obtain ⟨v0, v1, v2, v3, v4⟩ := put5_cells hV k0 k1 k2 k3 k4
    have HE := hide (read_none (D := ⟨2, [], 0, 0, ⟨#[]⟩⟩) HBW.out hV)
    unfold put5 at hV
    rw [← hV]
    refine bodyPost_ret (v := .tuple #[.agg #[.int .i64 2, .slice none 0 0, .int .i64 0, .int .i64 0, .string ⟨#[]⟩], .bool false]) (by simp [results, Tryz.results72, go_sem, v0, v1, v2, v3, v4]) rfl ?_
    rw [HN.out]
    exact HE.out
  · obtain ⟨hpi, ⟨hl1, hl2⟩, hnew⟩ := row_path hown
    have HQ := hide hq
    have HNEW := hide hnew
    have HDI := hide (show DIn w1 ⟨2, ints q, 0, 0, ⟨#[]⟩⟩ va vc from ⟨hpi, by simpa [ints] using hl1, hl2, by unfold maxLen; exact Nat.zero_le _⟩)
    clear hq hown hpi hnew
    unfold maxLen at hl2
    go_wp2_with fail
    obtain ⟨V, hV⟩ : ∃ V, V = put5 w1 w.heap.size (.int .i64 2) (.slice va q.length vc) (.int .i64 0) (.int .i64 0) (.string ⟨#[]⟩) := ⟨_, rfl⟩
    obtain ⟨v0, v1, v2, v3, v4⟩ := put5_cells hV k0 k1 k2 k3 k4
    have HE := hide (read_some (w := w) HBW.out HDI.out (fun g o h => by have := HNEW.out g o h; omega) (show V = _ by rw [hV]; simp [ints]))
    unfold put5 at hV
    rw [← hV]
    refine bodyPost_ret (v := .tuple #[.agg #[.int .i64 2, .slice va q.length vc, .int .i64 0, .int .i64 0, .string ⟨#[]⟩], .bool true]) (by simp [results, Tryz.results72, go_sem, v0, v1, v2, v3, v4]) rfl ?_
    rw [HQ.out]
    have := HE.out
    simpa [ints] using this
def insD (p x y : List UInt8) (l : ByteArray) : Option Dd := match pathIn p, fewP x, fewP y with
  | some p, some x, some y => some ⟨3, ints p, (x : Int), (y : Int), l⟩
  | _, _, _ => none
set_option maxHeartbeats 4000000 in
theorem readInsert_any (p x y l : ByteArray) (w : World) (hp : p.size ≤ 100000000) (hx : x.size ≤ 100000000) (hy : y.size ≤ 100000000) (hl : l.size ≤ 100000000) (ht : Tab w) :
    Calls Tryz.prog 73 #[.string p, .string x, .string y, .string l] w (ReadEnd (insD p.data.toList x.data.toList y.data.toList l) w) := by
  obtain ⟨W, hW⟩ : ∃ W, W = w.alloc (Obj.cells zeroD 38) := ⟨_, rfl⟩
  obtain ⟨hB, hWs, hcl⟩ := zero_box hW
  have HCL := hide hcl
  have HT := hide (ht.below hB)
  have HP := hide (pparsePath_any p W hp HT.out)
  have HEX : Hid (∀ n, fewP x.data.toList = some n → fewE x.data.toList = (n, true)) := fun n h => fewE_some h
  have HEY : Hid (∀ n, fewP y.data.toList = some n → fewE y.data.toList = (n, true)) := fun n h => fewE_some h
  clear hcl hB ht
  go_enter Tryz.func73, Tryz.ntmps73
  go_wp2_with fail
  rw [← hW]
  clear hW
  refine Calls.mono HP.out ?_
  rintro e w1 ⟨hend, hb1⟩
  have HX := hide (number_any x w1 hx (HT.out.below hb1))
  have HB1 := hide hb1
  have hz1 := hb1.size
  clear hb1 HP
  rcases hend with ⟨hn, rfl⟩ | ⟨q, va, vc, hq, rfl, hown⟩
  · have HN := hide (show insD p.data.toList x.data.toList y.data.toList l = none by unfold insD; rw [hn])
    clear hn
    go_wp2_with fail
    refine Calls.mono HX.out ?_
    rintro e w2 ⟨rfl, hb2⟩
    have hb12 := HB1.out.trans (hb2.mono hz1)
    have HY := hide (number_any y w2 hy (HT.out.below hb12))
    have HB2 := hide hb12
    have hz2 := hb12.size
    clear hb2 hb12 HX
    go_wp2_with fail
    refine Calls.mono HY.out ?_
    rintro e w3 ⟨rfl, hb3⟩
    obtain ⟨k0, k1, k2, k3, k4, kf, hbw⟩ := HCL.out w3 (HB2.out.trans (hb3.mono hz2))
    have HBW := hide hbw
    clear hb3 hbw HY
    generalize fewE x.data.toList = X at *
    generalize fewE y.data.toList = Y at *
    go_wp2_with fail
    obtain ⟨V, hV⟩ : ∃ V, V = put5 w3 w.heap.size (.int .i64 3) (.slice none 0 0) (.int .i64 (X.1 : Int)) (.int .i64 (Y.1 : Int)) (.string l) := ⟨_, rfl⟩
    obtain ⟨v0, v1, v2, v3, v4⟩ := put5_cells hV k0 k1 k2 k3 k4
    have HE := hide (read_none (D := ⟨3, [], (X.1 : Int), (Y.1 : Int), l⟩) HBW.out hV)
    unfold put5 at hV
    rw [← hV]
    refine bodyPost_ret (v := .tuple #[.agg #[.int .i64 3, .slice none 0 0, .int .i64 (X.1 : Int), .int .i64 (Y.1 : Int), .string l], .bool false]) (by simp [results, Tryz.results73, go_sem, v0, v1, v2, v3, v4]) rfl ?_
    rw [HN.out]
    exact HE.out
  · obtain ⟨hpi, ⟨hl1, hl2⟩, hnew⟩ := row_path hown
    have HQ := hide hq
    have HNEW := hide hnew
    have HPI := hide hpi
    have HL2 := hide hl2
    clear hq hown hpi hnew
    unfold maxLen at hl2
    cases hfx : fewP x.data.toList with
    | none =>
      have HN := hide (show insD p.data.toList x.data.toList y.data.toList l = none by unfold insD; rw [hfx]; cases pathIn p.data.toList <;> rfl)
      rw [fewE_none hfx] at HX
      clear hfx
      go_wp2_with fail
      refine Calls.mono HX.out ?_
      rintro e w2 ⟨rfl, hb2⟩
      have hb12 := HB1.out.trans (hb2.mono hz1)
      have HY := hide (number_any y w2 hy (HT.out.below hb12))
      have HB2 := hide hb12
      have hz2 := hb12.size
      clear hb2 hb12 HX
      go_wp2_with fail
      refine Calls.mono HY.out ?_
      rintro e w3 ⟨rfl, hb3⟩
      obtain ⟨k0, k1, k2, k3, k4, kf, hbw⟩ := HCL.out w3 (HB2.out.trans (hb3.mono hz2))
      have HBW := hide hbw
      clear hb3 hbw HY
      generalize fewE y.data.toList = Y at *
      go_wp2_with fail
      obtain ⟨V, hV⟩ : ∃ V, V = put5 w3 w.heap.size (.int .i64 3) (.slice va q.length vc) (.int .i64 0) (.int .i64 (Y.1 : Int)) (.string l) := ⟨_, rfl⟩
      obtain ⟨v0, v1, v2, v3, v4⟩ := put5_cells hV k0 k1 k2 k3 k4
      have HE := hide (read_none (D := ⟨3, [], 0, (Y.1 : Int), l⟩) HBW.out hV)
      unfold put5 at hV
      rw [← hV]
      refine bodyPost_ret (v := .tuple #[.agg #[.int .i64 3, .slice va q.length vc, .int .i64 0, .int .i64 (Y.1 : Int), .string l], .bool false]) (by simp [results, Tryz.results73, go_sem, v0, v1, v2, v3, v4]) rfl ?_
      rw [HN.out]
      exact HE.out
    | some nx =>
      rw [fewE_some hfx] at HX
      go_wp2_with fail
      refine Calls.mono HX.out ?_
      rintro e w2 ⟨rfl, hb2⟩
      have hb12 := HB1.out.trans (hb2.mono hz1)
      have HY := hide (number_any y w2 hy (HT.out.below hb12))
      have HB2 := hide hb12
      have HB02 := hide hb2
      have hz2 := hb12.size
      clear hb2 hb12 HX
      cases hfy : fewP y.data.toList with
      | none =>
        have HN := hide (show insD p.data.toList x.data.toList y.data.toList l = none by unfold insD; rw [hfx, hfy]; cases pathIn p.data.toList <;> rfl)
        rw [fewE_none hfy] at HY
        clear hfx hfy
        go_wp2_with fail
        refine Calls.mono HY.out ?_
        rintro e w3 ⟨rfl, hb3⟩
        obtain ⟨k0, k1, k2, k3, k4, kf, hbw⟩ := HCL.out w3 (HB2.out.trans (hb3.mono hz2))
        have HBW := hide hbw
        clear hb3 hbw HY
        go_wp2_with fail
        obtain ⟨V, hV⟩ : ∃ V, V = put5 w3 w.heap.size (.int .i64 3) (.slice va q.length vc) (.int .i64 (nx : Int)) (.int .i64 0) (.string l) := ⟨_, rfl⟩
        obtain ⟨v0, v1, v2, v3, v4⟩ := put5_cells hV k0 k1 k2 k3 k4
        have HE := hide (read_none (D := ⟨3, [], (nx : Int), 0, l⟩) HBW.out hV)
        unfold put5 at hV
        rw [← hV]
        refine bodyPost_ret (v := .tuple #[.agg #[.int .i64 3, .slice va q.length vc, .int .i64 (nx : Int), .int .i64 0, .string l], .bool false]) (by simp [results, Tryz.results73, go_sem, v0, v1, v2, v3, v4]) rfl ?_
        rw [HN.out]
        exact HE.out
      | some ny =>
        have HN := hide (show insD p.data.toList x.data.toList y.data.toList l = some ⟨3, ints q, (nx : Int), (ny : Int), l⟩ by unfold insD; rw [hfx, hfy, HQ.out])
        rw [fewE_some hfy] at HY
        clear hfx hfy
        go_wp2_with fail
        refine Calls.mono HY.out ?_
        rintro e w3 ⟨rfl, hb3⟩
        have hb13 := HB2.out.trans (hb3.mono hz2)
        obtain ⟨k0, k1, k2, k3, k4, kf, hbw⟩ := HCL.out w3 hb13
        have HBW := hide hbw
        have hb23 : Below w1.heap.size w1 w3 := HB02.out.trans (hb3.mono HB02.out.size)
        have HDI := hide (show DIn w3 ⟨3, ints q, (nx : Int), (ny : Int), l⟩ va vc from ⟨HPI.out.below hb23, by simpa [ints] using hl1, HL2.out, by show l.size ≤ _; unfold maxLen; omega⟩)
        clear hb3 hbw HY hb13 hb23
        go_wp2_with fail
        obtain ⟨V, hV⟩ : ∃ V, V = put5 w3 w.heap.size (.int .i64 3) (.slice va q.length vc) (.int .i64 (nx : Int)) (.int .i64 (ny : Int)) (.string l) := ⟨_, rfl⟩
        obtain ⟨v0, v1, v2, v3, v4⟩ := put5_cells hV k0 k1 k2 k3 k4
        have HE := hide (read_some (w := w) HBW.out HDI.out (fun g o h => by have := HNEW.out g o h; omega) (show V = _ by rw [hV]; simp [ints]))
        unfold put5 at hV
        rw [← hV]
        refine bodyPost_ret (v := .tuple #[.agg #[.int .i64 3, .slice va q.length vc, .int .i64 (nx : Int), .int .i64 (ny : Int), .string l], .bool true]) (by simp [results, Tryz.results73, go_sem, v0, v1, v2, v3, v4]) rfl ?_
        rw [HN.out]
        have := HE.out
        simpa [ints] using this
end Go.Proofs.YtkoohfkomlmhoacGreatDoor.Pat
