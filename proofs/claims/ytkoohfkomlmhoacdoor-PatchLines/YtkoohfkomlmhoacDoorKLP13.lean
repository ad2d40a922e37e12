/- DeedIn of package pleachingref, where the words are too few, too many, or no path: no deed. Of the program's text. -/
/- What a line's words tell, by package patch: readName, readDelete, readInsert. Of the program's text. -/
import Derived.Test.YtkoohfkomlmhoacDoorProg
import Derived.Test.YtkoohfkomlmhoacDoorKLP11
import Derived.Test.YtkoohfkomlmhoacDoorKLP12
namespace Go.Proofs.YtkoohfkomlmhoacDoor.Pat
open Go.Deep Go.RowKit Deed
set_option linter.unusedVariables false
set_option maxRecDepth 20000

theorem words_none {a : List UInt8} {P : List (List UInt8)} (h : map3P a = 0 ∨ (a :: P).length ≠ map3P a) : wordsD (a :: P) = none := by
  have key : ∀ n, map3P a = n → n = 3 ∨ n = 2 ∨ n = 5 ∨ n = 0 := fun n hn => by
    unfold map3P at hn
    split at hn
    · omega
    · split at hn
      · omega
      · split at hn <;> omega
  have hd : a = delW → map3P a = 2 := fun e => by rw [e]; rfl
  have hn : a = nameW → map3P a = 3 := fun e => by rw [e]; rfl
  have hi : a = insW → map3P a = 5 := fun e => by rw [e]; rfl
  unfold wordsD
  split
  · rename_i b p e
    injection e with e1 e2
    subst e1
    rw [if_neg (fun e => by have := hd e; simp [e2] at h; omega)]
  · rename_i b p l e
    injection e with e1 e2
    subst e1
    rw [if_neg (fun e => by have := hn e; simp [e2] at h; omega)]
  · rename_i b p x y l e
    injection e with e1 e2
    subst e1
    rw [if_neg (fun e => by have := hi e; simp [e2] at h; omega)]
  · rfl
theorem deed_none {s : List UInt8} (h : wordsD (cutP 32 s) = none) : deedC s = 6 ∧ deedP s = noD := by
  unfold deedC deedP
  rw [h]
  exact ⟨rfl, rfl⟩
theorem deed_some {s : List UInt8} {d : Dd} (h : wordsD (cutP 32 s) = some d) : deedC s = deedFault d ∧ deedP s = if deedFault d = 0 then d else noD := by
  unfold deedC deedP
  rw [h]
  exact ⟨rfl, rfl⟩
/-- What DeedIn tells: a deed whose path lies in new memory. -/
def DeedEnd (s : List UInt8) (w : World) (e : Ending) (w' : World) : Prop :=
  ∃ pa pc, e = .returned (.tuple #[ddV (deedP s) pa pc, .int .i64 (deedC s)]) ∧ DIn w' (deedP s) pa pc ∧ (∀ g o, pa = some ⟨g, o, none⟩ → w.heap.size ≤ g) ∧ Below w.heap.size w w'
theorem DIn.noD (w : World) : DIn w noD none 0 := ⟨Or.inl rfl, Nat.le_refl _, Nat.zero_le _, by unfold maxLen; exact Nat.zero_le _⟩
theorem end_none {s : List UInt8} {w w' : World} {e : Ending} (h : wordsD (cutP 32 s) = none) (he : e = .returned (.tuple #[.agg #[.int .i64 0, .slice none 0 0, .int .i64 0, .int .i64 0, .string ⟨#[]⟩], .int .i64 6])) (hb : Below w.heap.size w w') : DeedEnd s w e w' := by
  obtain ⟨h1, h2⟩ := deed_none h
  refine ⟨none, 0, ?_, ?_, (fun g o h => by cases h), hb⟩
  · rw [he, h1, h2]; rfl
  · rw [h2]; exact DIn.noD w'
abbrev zeroD : Array Value := #[.int .i64 0, .slice none 0 0, .int .i64 0, .int .i64 0, .string ⟨#[]⟩]
/-- The pieces of the line, where they lie. -/
theorem pieces {w : World} {B T g vc : Nat} {P : List (List UInt8)} (h : w.ownsRow B T 1 (.slice (some ⟨g, 0, none⟩) P.length vc) P.length (txCells P)) {i : Nat} {x : List UInt8} (hx : P[i]? = some x) : w.cell? ⟨g, i, none⟩ = some (.string (str x)) := by
  have := ownsRow_cell h i _ (show (txCells P)[i]? = some (.string (str x)) by unfold txCells; rw [List.getElem?_map, hx]; rfl)
  simpa using this

theorem row_path {w : World} {B T vc : Nat} {va : Option Addr} {q : List Nat} (h : w.ownsRow B T 1 (.slice va q.length vc) q.length (intCells q)) : PIn w va (ints q) ∧ (q.length ≤ vc ∧ vc ≤ maxLen) ∧ ∀ g o, va = some ⟨g, o, none⟩ → B ≤ g := by
  refine ⟨PIn_of_owns h, ?_, fun g o hg => ?_⟩
  · obtain ⟨va', vc', e, h1, h2⟩ := ownsN_form h
    injection e with e1 e2 e3
    subst e3
    exact ⟨h1, h2⟩
  · subst hg
    rcases h.2 with ⟨h0, _⟩ | ⟨g', cap, cur, hv, hb, _⟩
    · cases h0
    · injection hv with h1 h2 h3
      injection h1 with h1
      injection h1 with h1
      omega
/-- A box that is written elsewhere leaves a path. -/
theorem DIn_set5 {w V : World} {B : Nat} {d : Dd} {pa : Option Addr} {pc : Nat} {a0 a1 a2 a3 a4 : Value} (h : DIn w d pa pc) (hn : ∀ g o, pa = some ⟨g, o, none⟩ → g ≠ B) (hV : V = ((((w.setCell ⟨B, 0, none⟩ a0).setCell ⟨B, 1, none⟩ a1).setCell ⟨B, 2, none⟩ a2).setCell ⟨B, 3, none⟩ a3).setCell ⟨B, 4, none⟩ a4) : DIn V d pa pc := by
  refine ⟨?_, h.len, h.cap, h.lab⟩
  rcases h.path with h0 | ⟨b, o, e, h0⟩
  · exact Or.inl h0
  · refine Or.inr ⟨b, o, e, fun i p hp => ?_⟩
    have hne := hn b o e
    have h1 := h0 i p hp
    have key : ∀ (W : World) (k : Nat) (u : Value), (W.setCell ⟨B, k, none⟩ u).cell? ⟨b, o + i, none⟩ = W.cell? ⟨b, o + i, none⟩ := fun W k u => World.cell?_of_block (Below.heap_setCell _ _ _ _ hne)
    rw [hV, key, key, key, key, key]
    exact h1

end Go.Proofs.YtkoohfkomlmhoacDoor.Pat
namespace Go.Proofs.YtkoohfkomlmhoacDoor.Pat
open Go.Deep Go.RowKit Deed
set_option linter.unusedVariables false
set_option maxRecDepth 20000

/-- What reading tells: a deed whose path lies in new memory; or that there is none. -/
def ReadEnd (x : Option Dd) (w : World) (e : Ending) (w' : World) : Prop :=
  ∃ (D : Dd) (pa : Option Addr) (pc n : Nat) (ok : Bool), e = .returned (.tuple #[.agg #[.int .i64 D.kind, .slice pa n pc, .int .i64 D.pos, .int .i64 D.many, .string D.lab], .bool ok]) ∧ ((ok = false ∧ x = none) ∨ (ok = true ∧ x = some D ∧ n = D.path.length ∧ DIn w' D pa pc ∧ ∀ g o, pa = some ⟨g, o, none⟩ → w.heap.size ≤ g)) ∧ Below w.heap.size w w'
abbrev put5 (w : World) (B : Nat) (a0 a1 a2 a3 a4 : Value) : World := ((((w.setCell ⟨B, 0, none⟩ a0).setCell ⟨B, 1, none⟩ a1).setCell ⟨B, 2, none⟩ a2).setCell ⟨B, 3, none⟩ a3).setCell ⟨B, 4, none⟩ a4
theorem below_put5 {B : Nat} {w w1 : World} (h : Below B w w1) (a0 a1 a2 a3 a4 : Value) : Below B w (put5 w1 B a0 a1 a2 a3 a4) :=
  ((((h.setCell (p := ⟨B, 0, none⟩) (Nat.le_refl _) _).setCell (p := ⟨B, 1, none⟩) (Nat.le_refl _) _).setCell (p := ⟨B, 2, none⟩) (Nat.le_refl _) _).setCell (p := ⟨B, 3, none⟩) (Nat.le_refl _) _).setCell (p := ⟨B, 4, none⟩) (Nat.le_refl _) _
theorem read_none {w w1 V : World} {D : Dd} {pa : Option Addr} {pc n : Nat} (hb : Below w.heap.size w w1) (hV : V = put5 w1 w.heap.size (.int .i64 D.kind) (.slice pa n pc) (.int .i64 D.pos) (.int .i64 D.many) (.string D.lab)) :
    ReadEnd none w (.returned (.tuple #[.agg #[.int .i64 D.kind, .slice pa n pc, .int .i64 D.pos, .int .i64 D.many, .string D.lab], .bool false])) V :=
  ⟨D, pa, pc, n, false, rfl, Or.inl ⟨rfl, rfl⟩, by rw [hV]; exact below_put5 hb _ _ _ _ _⟩
theorem read_some {w w1 V : World} {D : Dd} {pa : Option Addr} {pc : Nat} (hb : Below w.heap.size w w1) (hD : DIn w1 D pa pc) (hn : ∀ g o, pa = some ⟨g, o, none⟩ → w.heap.size < g) (hV : V = put5 w1 w.heap.size (.int .i64 D.kind) (.slice pa D.path.length pc) (.int .i64 D.pos) (.int .i64 D.many) (.string D.lab)) :
    ReadEnd (some D) w (.returned (.tuple #[.agg #[.int .i64 D.kind, .slice pa D.path.length pc, .int .i64 D.pos, .int .i64 D.many, .string D.lab], .bool true])) V :=
  ⟨D, pa, pc, _, true, rfl, Or.inr ⟨rfl, rfl, rfl, DIn_set5 hD (fun g o h => by have := hn g o h; omega) hV, fun g o h => by have := hn g o h; omega⟩, by rw [hV]; exact below_put5 hb _ _ _ _ _⟩
/-- A box of zeros that was made first, and what is known of it later. -/
theorem zero_box {w W : World} (hW : W = w.alloc (Obj.cells zeroD 35)) : Below w.heap.size w W ∧ W.heap.size = w.heap.size + 1 ∧ ∀ W', Below W.heap.size W W' → W'.cell? ⟨w.heap.size, 0, none⟩ = some (.int .i64 0) ∧ W'.cell? ⟨w.heap.size, 1, none⟩ = some (.slice none 0 0) ∧ W'.cell? ⟨w.heap.size, 2, none⟩ = some (.int .i64 0) ∧ W'.cell? ⟨w.heap.size, 3, none⟩ = some (.int .i64 0) ∧ W'.cell? ⟨w.heap.size, 4, none⟩ = some (.string ⟨#[]⟩) ∧ (∀ o, W'.frozen? ⟨w.heap.size, o, none⟩ = false) ∧ Below w.heap.size w W' := by
  have hB : Below w.heap.size w W := by rw [hW]; exact (Below.refl _ _).alloc (Nat.le_refl _) _
  have hWs : W.heap.size = w.heap.size + 1 := by rw [hW]; simp
  have hbox : W.heap[w.heap.size]? = some (Obj.cells zeroD 35) := by rw [hW]; exact heap_alloc_new _ _
  refine ⟨hB, hWs, fun W' h => ?_⟩
  have hb := (h.block w.heap.size (by omega)).trans hbox
  exact ⟨by rw [cell_of_row _ _ 0 _ _ _ hb]; rfl, by rw [cell_of_row _ _ 1 _ _ _ hb]; rfl, by rw [cell_of_row _ _ 2 _ _ _ hb]; rfl, by rw [cell_of_row _ _ 3 _ _ _ hb]; rfl, by rw [cell_of_row _ _ 4 _ _ _ hb]; rfl, fun o => by simp [World.frozen?, hb], hB.trans (h.mono (by omega))⟩
/-- The five cells behind such a store. -/
theorem put5_cells {w1 V : World} {B : Nat} {a0 a1 a2 a3 a4 b0 b1 b2 b3 b4 : Value} (hV : V = put5 w1 B a0 a1 a2 a3 a4) (k0 : w1.cell? ⟨B, 0, none⟩ = some b0) (k1 : w1.cell? ⟨B, 1, none⟩ = some b1) (k2 : w1.cell? ⟨B, 2, none⟩ = some b2) (k3 : w1.cell? ⟨B, 3, none⟩ = some b3) (k4 : w1.cell? ⟨B, 4, none⟩ = some b4) :
    V.cell? ⟨B, 0, none⟩ = some a0 ∧ V.cell? ⟨B, 1, none⟩ = some a1 ∧ V.cell? ⟨B, 2, none⟩ = some a2 ∧ V.cell? ⟨B, 3, none⟩ = some a3 ∧ V.cell? ⟨B, 4, none⟩ = some a4 := by
  rw [hV]
  refine ⟨?_, ?_, ?_, ?_, ?_⟩ <;> (unfold put5; go_simp)

set_option maxHeartbeats 2000000 in
theorem readName_any (p l : ByteArray) (w : World) (hp : p.size ≤ 100000000) (hl : l.size ≤ 100000000) (ht : Tab w) :
    Calls Tryd.prog 41 #[.string p, .string l] w (ReadEnd ((pathIn p.data.toList).map fun q => ⟨1, ints q, 0, 0, l⟩) w) := by
  obtain ⟨W, hW⟩ : ∃ W, W = w.alloc (Obj.cells zeroD 35) := ⟨_, rfl⟩
  obtain ⟨hB, hWs, hcl⟩ := zero_box hW
  have HCL := hide hcl
  have HP := hide (pparsePath_any p W hp (ht.below hB))
  clear hcl hB
  go_enter Tryd.func41, Tryd.ntmps41
  go_wp2_with fail
  rw [← hW]
  clear hW
  refine Calls.mono HP.out ?_
  rintro e w1 ⟨hend, hb1⟩
  obtain ⟨k0, k1, k2, k3, k4, kf, hbw⟩ := HCL.out w1 hb1
  have HBW := hide hbw
  clear hb1 hbw HP
  rcases hend with ⟨hn, rfl⟩ | ⟨q, va, vc, hq, rfl, hown⟩
  · have HN := hide hn
    clear hn
    go_wp2_with fail
    obtain ⟨V, hV⟩ : ∃ V, V = put5 w1 w.heap.size (.int .i64 1) (.slice none 0 0) (.int .i64 0) (.int .i64 0) (.string l) := ⟨_, rfl⟩
    obtain ⟨v0, v1, v2, v3, v4⟩ := put5_cells hV k0 k1 k2 k3 k4
    have HE := hide (read_none (D := ⟨1, [], 0, 0, l⟩) HBW.out hV)
    unfold put5 at hV
    rw [← hV]
    refine bodyPost_ret (v := .tuple #[.agg #[.int .i64 1, .slice none 0 0, .int .i64 0, .int .i64 0, .string l], .bool false]) (by simp [results, Tryd.results41, go_sem, v0, v1, v2, v3, v4]) rfl ?_
    rw [HN.out]
    exact HE.out
  · obtain ⟨hpi, ⟨hl1, hl2⟩, hnew⟩ := row_path hown
    have HQ := hide hq
    have HNEW := hide hnew
    have HDI := hide (show DIn w1 ⟨1, ints q, 0, 0, l⟩ va vc from ⟨hpi, by simpa [ints] using hl1, hl2, by show l.size ≤ _; unfold maxLen; omega⟩)
    clear hq hown hpi hnew
    unfold maxLen at hl2
    go_wp2_with fail
    obtain ⟨V, hV⟩ : ∃ V, V = put5 w1 w.heap.size (.int .i64 1) (.slice va q.length vc) (.int .i64 0) (.int .i64 0) (.string l) := ⟨_, rfl⟩
    obtain ⟨v0, v1, v2, v3, v4⟩ := put5_cells hV k0 k1 k2 k3 k4
    have HE := hide (read_some (w := w) HBW.out HDI.out (fun g o h => by have := HNEW.out g o h; omega) (show V = _ by rw [hV]; simp [ints]))
    unfold put5 at hV
    rw [← hV]
    refine bodyPost_ret (v := .tuple #[.agg #[.int .i64 1, .slice va q.length vc, .int .i64 0, .int .i64 0, .string l], .bool true]) (by simp [results, Tryd.results41, go_sem, v0, v1, v2, v3, v4]) rfl ?_
    rw [HQ.out]
    have := HE.out
    simpa [ints] using this
set_option maxHeartbeats 2000000 in
theorem readDelete_any (p : ByteArray) (w : World) (hp : p.size ≤ 100000000) (ht : Tab w) :
    Calls Tryd.prog 42 #[.string p] w (ReadEnd ((pathIn p.data.toList).map fun q => ⟨2, ints q, 0, 0, ⟨#[]⟩⟩) w) := by
  obtain ⟨W, hW⟩ : ∃ W, W = w.alloc (Obj.cells zeroD 35) := ⟨_, rfl⟩
  obtain ⟨hB, hWs, hcl⟩ := zero_box hW
  have HCL := hide hcl
  have HP := hide (pparsePath_any p W hp (ht.below hB))
  clear hcl hB
  go_enter Tryd.func42, Tryd.ntmps42
  go_wp2_with fail
  rw [← hW]
  clear hW
  refine Calls.mono HP.out ?_
  rintro e w1 ⟨hend, hb1⟩
  obtain ⟨k0, k1, k2, k3, k4, kf, hbw⟩ := HCL.out w1 hb1
  have HBW := hide hbw
  clear hb1 hbw HP
  rcases hend with ⟨hn, rfl⟩ | ⟨q, va, vc, hq, rfl, hown⟩
  · have HN := hide hn
    clear hn
    go_wp2_with fail
    obtain ⟨V, hV⟩ : ∃ V, V = put5 w1 w.heap.size (.int .i64 2) (.slice none 0 0) (.int .i64 0) (.int .i64 0) (.string ⟨#[]⟩) := ⟨_, rfl⟩
    obtain ⟨v0, v1, v2, v3, v4⟩ := put5_cells hV k0 k1 k2 k3 k4
    have HE := hide (read_none (D := ⟨2, [], 0, 0, ⟨#[]⟩⟩) HBW.out hV)
    unfold put5 at hV
    rw [← hV]
    refine bodyPost_ret (v := .tuple #[.agg #[.int .i64 2, .slice none 0 0, .int .i64 0, .int .i64 0, .string ⟨#[]⟩], .bool false]) (by simp [results, Tryd.results42, go_sem, v0, v1, v2, v3, v4]) rfl ?_
    rw [HN.out]
    exact HE.out
  · obtain ⟨hpi, ⟨hl1, hl2⟩, hnew⟩ := row_path hown
    have HQ := hide hq
    have HNEW := hide hnew
    have HDI := hide (show DIn w1 ⟨2, ints q, 0, 0, ⟨#[]⟩⟩ va vc from ⟨hpi, by simpa [ints] using hl1, hl2, by unfold maxLen; exact Nat.zero_le _⟩)
    clear hq hown hpi hnew
    unfold maxLen at hl2
    go_wp2_with fail
    obtain ⟨V, hV⟩ : ∃ V, V = put5 w1 w.heap.size (.int .i64 2) (.slice va q.length vc) (.int .i64 0) (.int .i64 0) (.string ⟨#[]⟩) := ⟨_, rfl⟩
    obtain ⟨v0, v1, v2, v3, v4⟩ := put5_cells hV k0 k1 k2 k3 k4
    have HE := hide (read_some (w := w) HBW.out HDI.out (fun g o h => by have := HNEW.out g o h; omega) (show V = _ by rw [hV]; simp [ints]))
    unfold put5 at hV
    rw [← hV]
    refine bodyPost_ret (v := .tuple #[.agg #[.int .i64 2, .slice va q.length vc, .int .i64 0, .int .i64 0, .string ⟨#[]⟩], .bool true]) (by simp [results, Tryd.results42, go_sem, v0, v1, v2, v3, v4]) rfl ?_
    rw [HQ.out]
    have := HE.out
    simpa [ints] using this
def insD (p x y : List UInt8) (l : ByteArray) : Option Dd := match pathIn p, fewP x, fewP y with
  | some p, some x, some y => some ⟨3, ints p, (x : Int), (y : Int), l⟩
  | _, _, _ => none
set_option maxHeartbeats 4000000 in
theorem readInsert_any (p x y l : ByteArray) (w : World) (hp : p.size ≤ 100000000) (hx : x.size ≤ 100000000) (hy : y.size ≤ 100000000) (hl : l.size ≤ 100000000) (ht : Tab w) :
    Calls Tryd.prog 43 #[.string p, .string x, .string y, .string l] w (ReadEnd (insD p.data.toList x.data.toList y.data.toList l) w) := by
  obtain ⟨W, hW⟩ : ∃ W, W = w.alloc (Obj.cells zeroD 35) := ⟨_, rfl⟩
  obtain ⟨hB, hWs, hcl⟩ := zero_box hW
  have HCL := hide hcl
  have HT := hide (ht.below hB)
  have HP := hide (pparsePath_any p W hp HT.out)
  have HEX : Hid (∀ n, fewP x.data.toList = some n → fewE x.data.toList = (n, true)) := fun n h => fewE_some h
  have HEY : Hid (∀ n, fewP y.data.toList = some n → fewE y.data.toList = (n, true)) := fun n h => fewE_some h
  clear hcl hB ht
  go_enter Tryd.func43, Tryd.ntmps43
  go_wp2_with fail
  rw [← hW]
  clear hW
  refine Calls.mono HP.out ?_
  rintro e w1 ⟨hend, hb1⟩
  have HX := hide (number_any x w1 hx (HT.out.below hb1))
  have HB1 := hide hb1
  have hz1 := hb1.size
  clear hb1 HP
  rcases hend with ⟨hn, rfl⟩ | ⟨q, va, vc, hq, rfl, hown⟩
  · have HN := hide (show insD p.data.toList x.data.toList y.data.toList l = none by unfold insD; rw [hn])
    clear hn
    go_wp2_with fail
    refine Calls.mono HX.out ?_
    rintro e w2 ⟨rfl, hb2⟩
    have hb12 := HB1.out.trans (hb2.mono hz1)
    have HY := hide (number_any y w2 hy (HT.out.below hb12))
    have HB2 := hide hb12
    have hz2 := hb12.size
    clear hb2 hb12 HX
    go_wp2_with fail
    refine Calls.mono HY.out ?_
    rintro e w3 ⟨rfl, hb3⟩
    obtain ⟨k0, k1, k2, k3, k4, kf, hbw⟩ := HCL.out w3 (HB2.out.trans (hb3.mono hz2))
    have HBW := hide hbw
    clear hb3 hbw HY
    generalize fewE x.data.toList = X at *
    generalize fewE y.data.toList = Y at *
    go_wp2_with fail
    obtain ⟨V, hV⟩ : ∃ V, V = put5 w3 w.heap.size (.int .i64 3) (.slice none 0 0) (.int .i64 (X.1 : Int)) (.int .i64 (Y.1 : Int)) (.string l) := ⟨_, rfl⟩
    obtain ⟨v0, v1, v2, v3, v4⟩ := put5_cells hV k0 k1 k2 k3 k4
    have HE := hide (read_none (D := ⟨3, [], (X.1 : Int), (Y.1 : Int), l⟩) HBW.out hV)
    unfold put5 at hV
    rw [← hV]
    refine bodyPost_ret (v := .tuple #[.agg #[.int .i64 3, .slice none 0 0, .int .i64 (X.1 : Int), .int .i64 (Y.1 : Int), .string l], .bool false]) (by simp [results, Tryd.results43, go_sem, v0, v1, v2, v3, v4]) rfl ?_
    rw [HN.out]
    exact HE.out
  · obtain ⟨hpi, ⟨hl1, hl2⟩, hnew⟩ := row_path hown
    have HQ := hide hq
    have HNEW := hide hnew
    have HPI := hide hpi
    have HL2 := hide hl2
    clear hq hown hpi hnew
    unfold maxLen at hl2
    cases hfx : fewP x.data.toList with
    | none =>
      have HN := hide (show insD p.data.toList x.data.toList y.data.toList l = none by unfold insD; rw [hfx]; cases pathIn p.data.toList <;> rfl)
      rw [fewE_none hfx] at HX
      clear hfx
      go_wp2_with fail
      refine Calls.mono HX.out ?_
      rintro e w2 ⟨rfl, hb2⟩
      have hb12 := HB1.out.trans (hb2.mono hz1)
      have HY := hide (number_any y w2 hy (HT.out.below hb12))
      have HB2 := hide hb12
      have hz2 := hb12.size
      clear hb2 hb12 HX
      go_wp2_with fail
      refine Calls.mono HY.out ?_
      rintro e w3 ⟨rfl, hb3⟩
      obtain ⟨k0, k1, k2, k3, k4, kf, hbw⟩ := HCL.out w3 (HB2.out.trans (hb3.mono hz2))
      have HBW := hide hbw
      clear hb3 hbw HY
      generalize fewE y.data.toList = Y at *
      go_wp2_with fail
      obtain ⟨V, hV⟩ : ∃ V, V = put5 w3 w.heap.size (.int .i64 3) (.slice va q.length vc) (.int .i64 0) (.int .i64 (Y.1 : Int)) (.string l) := ⟨_, rfl⟩
      obtain ⟨v0, v1, v2, v3, v4⟩ := put5_cells hV k0 k1 k2 k3 k4
      have HE := hide (read_none (D := ⟨3, [], 0, (Y.1 : Int), l⟩) HBW.out hV)
      unfold put5 at hV
      rw [← hV]
      refine bodyPost_ret (v := .tuple #[.agg #[.int .i64 3, .slice va q.length vc, .int .i64 0, .int .i64 (Y.1 : Int), .string l], .bool false]) (by simp [results, Tryd.results43, go_sem, v0, v1, v2, v3, v4]) rfl ?_
      rw [HN.out]
      exact HE.out
    | some nx =>
      rw [fewE_some hfx] at HX
      go_wp2_with fail
      refine Calls.mono HX.out ?_
      rintro e w2 ⟨rfl, hb2⟩
      have hb12 := HB1.out.trans (hb2.mono hz1)
      have HY := hide (number_any y w2 hy (HT.out.below hb12))
      have HB2 := hide hb12
      have HB02 := hide hb2
      have hz2 := hb12.size
      clear hb2 hb12 HX
      cases hfy : fewP y.data.toList with
      | none =>
        have HN := hide (show insD p.data.toList x.data.toList y.data.toList l = none by unfold insD; rw [hfx, hfy]; cases pathIn p.data.toList <;> rfl)
        rw [fewE_none hfy] at HY
        clear hfx hfy
        go_wp2_with fail
        refine Calls.mono HY.out ?_
        rintro e w3 ⟨rfl, hb3⟩
        obtain ⟨k0, k1, k2, k3, k4, kf, hbw⟩ := HCL.out w3 (HB2.out.trans (hb3.mono hz2))
        have HBW := hide hbw
        clear hb3 hbw HY
        go_wp2_with fail
        obtain ⟨V, hV⟩ : ∃ V, V = put5 w3 w.heap.size (.int .i64 3) (.slice va q.length vc) (.int .i64 (nx : Int)) (.int .i64 0) (.string l) := ⟨_, rfl⟩
        obtain ⟨v0, v1, v2, v3, v4⟩ := put5_cells hV k0 k1 k2 k3 k4
        have HE := hide (read_none (D := ⟨3, [], (nx : Int), 0, l⟩) HBW.out hV)
        unfold put5 at hV
        rw [← hV]
        refine bodyPost_ret (v := .tuple #[.agg #[.int .i64 3, .slice va q.length vc, .int .i64 (nx : Int), .int .i64 0, .string l], .bool false]) (by simp [results, Tryd.results43, go_sem, v0, v1, v2, v3, v4]) rfl ?_
        rw [HN.out]
        exact HE.out
      | some ny =>
        have HN := hide (show insD p.data.toList x.data.toList y.data.toList l = some ⟨3, ints q, (nx : Int), (ny : Int), l⟩ by unfold insD; rw [hfx, hfy, HQ.out])
        rw [fewE_some hfy] at HY
        clear hfx hfy
        go_wp2_with fail
        refine Calls.mono HY.out ?_
        rintro e w3 ⟨rfl, hb3⟩
        have hb13 := HB2.out.trans (hb3.mono hz2)
        obtain ⟨k0, k1, k2, k3, k4, kf, hbw⟩ := HCL.out w3 hb13
        have HBW := hide hbw
        have hb23 : Below w1.heap.size w1 w3 := HB02.out.trans (hb3.mono HB02.out.size)
        have HDI := hide (show DIn w3 ⟨3, ints q, (nx : Int), (ny : Int), l⟩ va vc from ⟨HPI.out.below hb23, by simpa [ints] using hl1, HL2.out, by show l.size ≤ _; unfold maxLen; omega⟩)
        clear hb3 hbw HY hb13 hb23
        go_wp2_with fail
        obtain ⟨V, hV⟩ : ∃ V, V = put5 w3 w.heap.size (.int .i64 3) (.slice va q.length vc) (.int .i64 (nx : Int)) (.int .i64 (ny : Int)) (.string l) := ⟨_, rfl⟩
        obtain ⟨v0, v1, v2, v3, v4⟩ := put5_cells hV k0 k1 k2 k3 k4
        have HE := hide (read_some (w := w) HBW.out HDI.out (fun g o h => by have := HNEW.out g o h; omega) (show V = _ by rw [hV]; simp [ints]))
        unfold put5 at hV
        rw [← hV]
        refine bodyPost_ret (v := .tuple #[.agg #[.int .i64 3, .slice va q.length vc, .int .i64 (nx : Int), .int .i64 (ny : Int), .string l], .bool true]) (by simp [results, Tryd.results43, go_sem, v0, v1, v2, v3, v4]) rfl ?_
        rw [HN.out]
        have := HE.out
        simpa [ints] using this
end Go.Proofs.YtkoohfkomlmhoacDoor.Pat
