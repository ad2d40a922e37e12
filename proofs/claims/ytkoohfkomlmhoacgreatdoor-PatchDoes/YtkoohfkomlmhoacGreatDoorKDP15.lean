/- read of package patch: what a line's words tell. Of the program's text. -/
/- Check of package deed. Of the program's text. -/
import Derived.Test.YtkoohfkomlmhoacGreatDoorProg
import Derived.Deep.RegionHeld3
import Derived.Test.YtkoohfkomlmhoacGreatDoorKDP14
import Derived.Test.YtkoohfkomlmhoacGreatDoorKDP13
namespace Go.Proofs.YtkoohfkomlmhoacGreatDoor.Pat
open Go.Deep Go.RowKit Deed
set_option linter.unusedVariables false
set_option maxRecDepth 20000

theorem words_long {P : List (List UInt8)} (h : 5 < P.length) : wordsD P = none := by
  match P, h with
  | a :: b :: c :: d :: e :: f :: l, _ => rfl
theorem splitB_lists (k : Nat) (s : ByteArray) : (Lib.splitB ⟨#[32]⟩ 0 k s).map (·.data.toList) = Lib.splitK [32] 0 k s.data.toList := Lib.splitB_data _ _ _ _
theorem cellsOf_at {l : List ByteArray} {N i : Nat} {x : ByteArray} (h : l[i]? = some x) : (Lib.cellsOf l N)[i]? = some (.string x) := by
  have hl := (List.getElem?_eq_some_iff.1 h).1
  unfold Lib.cellsOf
  rw [List.getElem?_toArray, List.getElem?_append_left (by simpa using hl), List.getElem?_map, h]
  rfl
/-- The words of a line, six at most. -/
theorem split6_any (s : ByteArray) (w : World) (hs : s.size ≤ 100000000) (ht : Tab w) :
    Calls Tryz.prog 70 #[.string s, .string ⟨#[32]⟩, .int .i64 6] w fun e w' => ∃ (X : List (List UInt8)) (vc : Nat), e = .returned (.slice (some ⟨w.heap.size, 0, none⟩) X.length vc) ∧ (∀ (i : Nat) x, X[i]? = some x → w'.cell? ⟨w.heap.size, i, none⟩ = some (.string (str x))) ∧ (∀ x, x ∈ X → x.length ≤ s.size) ∧ (X = cutP 32 s.data.toList ∨ (X.length = 6 ∧ 6 < (cutP 32 s.data.toList).length)) ∧ X.length ≤ vc ∧ vc ≤ 6 ∧ Below w.heap.size w w' := by
  obtain ⟨m, hm⟩ := ht.most
  have hc := Tryz.strings_SplitN s ⟨#[32]⟩ 6 m w (by omega) hm (by decide) (by omega) (by omega)
  refine hc.mono ?_
  rintro e w' ⟨rfl, hw'⟩
  obtain ⟨k, hk⟩ : ∃ k, k = min 6 (s.size + 1) - 1 := ⟨_, rfl⟩
  rw [← hk] at hw' ⊢
  obtain ⟨Y, hY⟩ : ∃ Y, Y = Lib.splitB ⟨#[32]⟩ 0 k s := ⟨_, rfl⟩
  rw [← hY] at hw' ⊢
  have hX : Y.map (·.data.toList) = Lib.splitK [32] 0 k s.data.toList := by rw [hY]; exact splitB_lists k s
  obtain ⟨h1, h2⟩ := split_one 32 k s.data.toList
  have h3 := cut_len 32 s.data.toList
  rw [show s.data.toList.length = s.size by simp] at h3
  have hYl : Y.length = (Lib.splitK [32] 0 k s.data.toList).length := by rw [← hX, List.length_map]
  have hsz : ∀ (k : Nat) (l : List UInt8) x, x ∈ Lib.splitK [32] 0 k l → x.length ≤ l.length := fun k => by
    induction k with
    | zero => intro l x hx; simp only [Lib.splitK, List.mem_singleton] at hx; rw [hx]; exact Nat.le_refl _
    | succ k ih =>
      intro l x hx
      unfold Lib.splitK at hx
      split at hx
      · simp only [List.mem_singleton] at hx; rw [hx]; exact Nat.le_refl _
      · rcases List.mem_cons.1 hx with hx | hx
        · rw [hx, List.length_take]; omega
        · have := ih _ x hx
          rw [List.length_drop] at this
          omega
  refine ⟨Y.map (·.data.toList), min 6 (s.size + 1), by rw [List.length_map], fun i x hx => ?_, fun x hx => ?_, ?_, by rw [List.length_map, hYl, h1]; omega, by omega, by rw [hw']; exact (Below.refl _ _).alloc (Nat.le_refl _) _⟩
  · rw [List.getElem?_map] at hx
    obtain ⟨y, hy, e⟩ := Option.map_eq_some_iff.1 hx
    have e' : y = str x := by rw [← e]
    rw [hw', cell_of_row _ _ i _ _ _ (heap_alloc_new w _), ← e']
    exact cellsOf_at hy
  · rw [hX] at hx
    have := hsz _ _ x hx
    simpa using this
  · rw [hX]
    rcases Nat.lt_or_ge 6 (cutP 32 s.data.toList).length with h6 | h6
    · exact Or.inr ⟨by rw [h1]; omega, h6⟩
    · exact Or.inl (h2 (by omega))
theorem words_is3 {a p l : List UInt8} (h : a = nameW) : wordsD [a, p, l] = (pathIn p).map fun q => ⟨1, ints q, 0, 0, str l⟩ := by simp only [wordsD, h, if_true]
theorem words_is2 {a p : List UInt8} (h : a = delW) : wordsD [a, p] = (pathIn p).map fun q => ⟨2, ints q, 0, 0, ⟨#[]⟩⟩ := by simp only [wordsD, h, if_true]
theorem words_is5 {a p x y l : List UInt8} (h : a = insW) : wordsD [a, p, x, y, l] = insD p x y (str l) := by
  simp only [wordsD, h, if_true, insD]
  cases pathIn p <;> cases fewP x <;> cases fewP y <;> rfl
/-- The words are no deed's. -/
theorem read_zero {x : Option Dd} {w w1 : World} (hx : x = none) (hb : Below w.heap.size w w1) {V : World} (hV : V = put5 w1 w.heap.size (.int .i64 0) (.slice none 0 0) (.int .i64 0) (.int .i64 0) (.string ⟨#[]⟩)) :
    ReadEnd x w (.returned (.tuple #[.agg #[.int .i64 0, .slice none 0 0, .int .i64 0, .int .i64 0, .string ⟨#[]⟩], .bool false])) V := by
  rw [hx]
  exact read_none (D := noD) hb hV

theorem read_on {x : Option Dd} {w w2 V : World} {D : Dd} {pa : Option Addr} {pc n B : Nat} {ok : Bool} (h : (ok = false ∧ x = none) ∨ (ok = true ∧ x = some D ∧ n = D.path.length ∧ DIn w2 D pa pc ∧ ∀ g o, pa = some ⟨g, o, none⟩ → B ≤ g)) (hB : w.heap.size < B) (hb : Below w.heap.size w w2) (hV : V = put5 w2 w.heap.size (.int .i64 D.kind) (.slice pa n pc) (.int .i64 D.pos) (.int .i64 D.many) (.string D.lab)) :
    ReadEnd x w (.returned (.tuple #[.agg #[.int .i64 D.kind, .slice pa n pc, .int .i64 D.pos, .int .i64 D.many, .string D.lab], .bool ok])) V := by
  rcases h with ⟨rfl, rfl⟩ | ⟨rfl, rfl, rfl, hD, hn⟩
  · exact read_none hb hV
  · exact read_some hb hD (fun g o e => by have := hn g o e; omega) hV

set_option maxHeartbeats 4000000 in
theorem read_any (s : ByteArray) (w : World) (hs : s.size ≤ 100000000) (ht : Tab w) :
    Calls Tryz.prog 38 #[.string s] w (ReadEnd (wordsD (cutP 32 s.data.toList)) w) := by
  obtain ⟨W, hW⟩ : ∃ W, W = w.alloc (Obj.cells zeroD 38) := ⟨_, rfl⟩
  obtain ⟨hB, hWs, hcl⟩ := zero_box hW
  have HCL := hide hcl
  have HT := hide (ht.below hB)
  have HSP := hide (split6_any s W hs HT.out)
  have hne := cutP_ne 32 s.data.toList
  obtain ⟨C, hC⟩ : ∃ C, C = cutP 32 s.data.toList := ⟨_, rfl⟩
  rw [← hC] at HSP hne ⊢
  have HNE := hide hne
  clear hcl hB ht hC hne
  go_enter Tryz.func38, Tryz.ntmps38
  go_wp2_with fail
  rw [← hW]
  clear hW
  refine Calls.mono HSP.out ?_
  rintro e w1 ⟨X, vc, rfl, hcell, hsz, hX, hvc, hv6, hb1⟩
  rw [hWs] at hcell ⊢
  obtain ⟨a, X', hXa⟩ : ∃ a X', X = a :: X' := by
    cases h : X with
    | nil =>
      rw [h] at hX
      rcases hX with hX | ⟨hX, _⟩
      · exact absurd hX.symm HNE.out
      · simp at hX
    | cons a X' => exact ⟨a, X', rfl⟩
  have c0 := hcell 0 a (by rw [hXa]; rfl)
  have hlen : X.length = X'.length + 1 := by rw [hXa]; rfl
  have HXA := hide hXa
  have HCE := hide hcell
  have HSZ := hide hsz
  have HX := hide hX
  have hz1 := hb1.size
  have HB1 := hide hb1
  obtain ⟨k0, k1, k2, k3, k4, kf, hbw⟩ := HCL.out w1 hb1
  have HBW := hide hbw
  have hpos : (0 : Int) < (X.length : Int) := by omega
  clear hcell hsz hX hb1 hbw HSP hXa
  by_cases g3 : a = nameW ∧ X.length = 3
  · obtain ⟨g3a, g3b⟩ := g3
    obtain ⟨p, l, hpl⟩ : ∃ p l, X = [a, p, l] := by
      rw [HXA.out] at g3b ⊢
      match X', g3b with
      | [p, l], _ => exact ⟨p, l, rfl⟩
    have HW := hide (show wordsD C = (pathIn p).map fun q => ⟨1, ints q, 0, 0, str l⟩ by
      rcases HX.out with h | ⟨h, _⟩
      · rw [← h, hpl, words_is3 g3a]
      · rw [g3b] at h; cases h)
    have c1 := HCE.out 1 p (by rw [hpl]; rfl)
    have c2 := HCE.out 2 l (by rw [hpl]; rfl)
    have s1 := HSZ.out p (by rw [hpl]; simp)
    have s2 := HSZ.out l (by rw [hpl]; simp)
    have HN := hide (readName_any (str p) (str l) w1.drew (by rw [str_size]; omega) (by rw [str_size]; omega) (HT.out.below HB1.out.drew))
    rw [show (str p).data.toList = p by simp] at HN
    rw [← HW.out] at HN
    have c0' : w1.cell? ⟨w.heap.size + 1, 0, none⟩ = some (.string ⟨#[110, 97, 109, 101]⟩) := by rw [c0, g3a]; rfl
    rw [g3b]
    clear hlen hpos hpl g3a g3b c0
    go_wp2_with fail
    go_region_held3 (fun w' => w'.cell? ⟨w.heap.size + 1, 1, none⟩ = some (.string (str p)) ∧ w'.cell? ⟨w.heap.size + 1, 2, none⟩ = some (.string (str l)))
      (first | go_keep | (refine ⟨?_, ?_⟩ <;> go_simp))
      ((go_at_call 71; refine Calls.mono HN.out ?_; rintro e w2 ⟨D, pa, pc, n, ok, rfl, hok, hb2⟩
        have hb2' : Below W.heap.size W w2 := HB1.out.drew.trans (hb2.mono hz1)
        have hbl : w.heap.size + 1 < w1.drew.heap.size := World.block_lt_of_cell? _ _ c1
        have d1 : w2.cell? ⟨w.heap.size + 1, 1, none⟩ = some (.string (str p)) := by (rw [hb2.cell hbl]; exact c1)
        have d2 : w2.cell? ⟨w.heap.size + 1, 2, none⟩ = some (.string (str l)) := by (rw [hb2.cell hbl]; exact c2)
        obtain ⟨q0, q1, q2, q3, q4, qf, qb⟩ := HCL.out w2 hb2'))
    obtain ⟨V, hV⟩ : ∃ V, V = put5 w2 w.heap.size (.int .i64 D.kind) (.slice pa n pc) (.int .i64 D.pos) (.int .i64 D.many) (.string D.lab) := ⟨_, rfl⟩
    obtain ⟨v0, v1, v2, v3, v4⟩ := put5_cells hV q0 q1 q2 q3 q4
    have HE := hide (read_on hok (show w.heap.size < w1.heap.size by omega) qb hV)
    unfold put5 at hV
    rw [← hV]
    clear hok hb2 hb2' q0 q1 q2 q3 q4 qf qb hV
    go_wp2_with fail
    exact bodyPost_ret (v := .tuple #[.agg #[.int .i64 D.kind, .slice pa n pc, .int .i64 D.pos, .int .i64 D.many, .string D.lab], .bool ok]) (by simp [results, Tryz.results38, go_sem, v0, v1, v2, v3, v4]) rfl HE.out
  by_cases g2 : a = delW ∧ X.length = 2
  · obtain ⟨g2a, g2b⟩ := g2
    obtain ⟨p, hpl⟩ : ∃ p, X = [a, p] := by
      rw [HXA.out] at g2b ⊢
      match X', g2b with
      | [p], _ => exact ⟨p, rfl⟩
    have HW := hide (show wordsD C = (pathIn p).map fun q => ⟨2, ints q, 0, 0, ⟨#[]⟩⟩ by
      rcases HX.out with h | ⟨h, _⟩
      · rw [← h, hpl, words_is2 g2a]
      · rw [g2b] at h; cases h)
    have c1 := HCE.out 1 p (by rw [hpl]; rfl)
    have s1 := HSZ.out p (by rw [hpl]; simp)
    have HN := hide (readDelete_any (str p) w1 (by rw [str_size]; omega) (HT.out.below HB1.out))
    rw [show (str p).data.toList = p by simp] at HN
    rw [← HW.out] at HN
    have c0' : w1.cell? ⟨w.heap.size + 1, 0, none⟩ = some (.string ⟨#[100, 101, 108, 101, 116, 101]⟩) := by rw [c0, g2a]; rfl
    rw [g2b]
    clear hlen hpos hpl g2a g2b c0 g3
    go_wp2_with fail
    refine Calls.mono HN.out ?_
    rintro e w2 ⟨D, pa, pc, n, ok, rfl, hok, hb2⟩
    have hb2' : Below W.heap.size W w2 := HB1.out.trans (hb2.mono hz1)
    obtain ⟨q0, q1, q2, q3, q4, qf, qb⟩ := HCL.out w2 hb2'
    go_wp2_with fail
    obtain ⟨V, hV⟩ : ∃ V, V = put5 w2 w.heap.size (.int .i64 D.kind) (.slice pa n pc) (.int .i64 D.pos) (.int .i64 D.many) (.string D.lab) := ⟨_, rfl⟩
    obtain ⟨v0, v1, v2, v3, v4⟩ := put5_cells hV q0 q1 q2 q3 q4
    have HE := hide (read_on hok (show w.heap.size < w1.heap.size by omega) qb hV)
    unfold put5 at hV
    rw [← hV]
    exact bodyPost_ret (v := .tuple #[.agg #[.int .i64 D.kind, .slice pa n pc, .int .i64 D.pos, .int .i64 D.many, .string D.lab], .bool ok]) (by simp [results, Tryz.results38, go_sem, v0, v1, v2, v3, v4]) rfl HE.out
  by_cases g5 : a = insW ∧ X.length = 5
  · obtain ⟨g5a, g5b⟩ := g5
    obtain ⟨p, x, y, l, hpl⟩ : ∃ p x y l, X = [a, p, x, y, l] := by
      rw [HXA.out] at g5b ⊢
      match X', g5b with
      | [p, x, y, l], _ => exact ⟨p, x, y, l, rfl⟩
    have HW := hide (show wordsD C = insD p x y (str l) by
      rcases HX.out with h | ⟨h, _⟩
      · rw [← h, hpl, words_is5 g5a]
      · rw [g5b] at h; cases h)
    have c1 := HCE.out 1 p (by rw [hpl]; rfl)
    have c2 := HCE.out 2 x (by rw [hpl]; rfl)
    have c3 := HCE.out 3 y (by rw [hpl]; rfl)
    have c4 := HCE.out 4 l (by rw [hpl]; rfl)
    have s1 := HSZ.out p (by rw [hpl]; simp)
    have s2 := HSZ.out x (by rw [hpl]; simp)
    have s3 := HSZ.out y (by rw [hpl]; simp)
    have s4 := HSZ.out l (by rw [hpl]; simp)
    have HN := hide (readInsert_any (str p) (str x) (str y) (str l) w1.drew (by rw [str_size]; omega) (by rw [str_size]; omega) (by rw [str_size]; omega) (by rw [str_size]; omega) (HT.out.below HB1.out.drew))
    rw [show (str p).data.toList = p by simp, show (str x).data.toList = x by simp, show (str y).data.toList = y by simp] at HN
    rw [← HW.out] at HN
    have c0' : w1.cell? ⟨w.heap.size + 1, 0, none⟩ = some (.string ⟨#[105, 110, 115, 101, 114, 116]⟩) := by rw [c0, g5a]; rfl
    rw [g5b]
    clear hlen hpos hpl g5a g5b c0 g3 g2
    go_wp2_with fail
    go_region_held3 (fun w' => w'.cell? ⟨w.heap.size + 1, 1, none⟩ = some (.string (str p)) ∧ w'.cell? ⟨w.heap.size + 1, 2, none⟩ = some (.string (str x)) ∧ w'.cell? ⟨w.heap.size + 1, 3, none⟩ = some (.string (str y)) ∧ w'.cell? ⟨w.heap.size + 1, 4, none⟩ = some (.string (str l)))
      (first | go_keep | (refine ⟨?_, ?_, ?_, ?_⟩ <;> go_simp))
      ((go_at_call 73; refine Calls.mono HN.out ?_; rintro e w2 ⟨D, pa, pc, n, ok, rfl, hok, hb2⟩
        have hb2' : Below W.heap.size W w2 := HB1.out.drew.trans (hb2.mono hz1)
        have hbl : w.heap.size + 1 < w1.drew.heap.size := World.block_lt_of_cell? _ _ c1
        have d1 : w2.cell? ⟨w.heap.size + 1, 1, none⟩ = some (.string (str p)) := by (rw [hb2.cell hbl]; exact c1)
        have d2 : w2.cell? ⟨w.heap.size + 1, 2, none⟩ = some (.string (str x)) := by (rw [hb2.cell hbl]; exact c2)
        have d3 : w2.cell? ⟨w.heap.size + 1, 3, none⟩ = some (.string (str y)) := by (rw [hb2.cell hbl]; exact c3)
        have d4 : w2.cell? ⟨w.heap.size + 1, 4, none⟩ = some (.string (str l)) := by (rw [hb2.cell hbl]; exact c4)
        obtain ⟨q0, q1, q2, q3, q4, qf, qb⟩ := HCL.out w2 hb2'))
    obtain ⟨V, hV⟩ : ∃ V, V = put5 w2 w.heap.size (.int .i64 D.kind) (.slice pa n pc) (.int .i64 D.pos) (.int .i64 D.many) (.string D.lab) := ⟨_, rfl⟩
    obtain ⟨v0, v1, v2, v3, v4⟩ := put5_cells hV q0 q1 q2 q3 q4
    have HE := hide (read_on hok (show w.heap.size < w1.heap.size by omega) qb hV)
    unfold put5 at hV
    rw [← hV]
    clear hok hb2 hb2' q0 q1 q2 q3 q4 qf qb hV
    go_wp2_with fail
    exact bodyPost_ret (v := .tuple #[.agg #[.int .i64 D.kind, .slice pa n pc, .int .i64 D.pos, .int .i64 D.many, .string D.lab], .bool ok]) (by simp [results, Tryz.results38, go_sem, v0, v1, v2, v3, v4]) rfl HE.out
  have HN := hide (show wordsD C = none by
    rcases HX.out with h | ⟨_, h⟩
    · rw [← h, HXA.out]
      refine words_none ?_
      rw [← HXA.out]
      unfold map3P
      by_cases e1 : a = nameW
      · rw [if_pos e1]; exact Or.inr fun h => g3 ⟨e1, h⟩
      · rw [if_neg e1]
        by_cases e2 : a = delW
        · rw [if_pos e2]; exact Or.inr fun h => g2 ⟨e2, h⟩
        · rw [if_neg e2]
          by_cases e3 : a = insW
          · rw [if_pos e3]; exact Or.inr fun h => g5 ⟨e3, h⟩
          · rw [if_neg e3]; exact Or.inl rfl
    · exact words_long (by omega))
  have b1 : (a == [110, 97, 109, 101]) = false ∨ ((a == [110, 97, 109, 101]) = true ∧ ((X.length : Int) == 3) = false ∧ (a == [100, 101, 108, 101, 116, 101]) = false ∧ (a == [105, 110, 115, 101, 114, 116]) = false) := by
    by_cases e1 : a = nameW
    · exact Or.inr ⟨by rw [e1]; rfl, beq_eq_false_iff_ne.2 (fun h => g3 ⟨e1, by omega⟩), by rw [e1]; rfl, by rw [e1]; rfl⟩
    · exact Or.inl (beq_eq_false_iff_ne.2 e1)
  have b2 : (a == [100, 101, 108, 101, 116, 101]) = false ∨ ((a == [100, 101, 108, 101, 116, 101]) = true ∧ ((X.length : Int) == 2) = false ∧ (a == [105, 110, 115, 101, 114, 116]) = false) := by
    by_cases e1 : a = delW
    · exact Or.inr ⟨by rw [e1]; rfl, beq_eq_false_iff_ne.2 (fun h => g2 ⟨e1, by omega⟩), by rw [e1]; rfl⟩
    · exact Or.inl (beq_eq_false_iff_ne.2 e1)
  have b3 : (a == [105, 110, 115, 101, 114, 116]) = false ∨ ((a == [105, 110, 115, 101, 114, 116]) = true ∧ ((X.length : Int) == 5) = false) := by
    by_cases e1 : a = insW
    · exact Or.inr ⟨by rw [e1]; rfl, beq_eq_false_iff_ne.2 (fun h => g5 ⟨e1, by omega⟩)⟩
    · exact Or.inl (beq_eq_false_iff_ne.2 e1)
  obtain ⟨V, hV⟩ : ∃ V, V = put5 w1 w.heap.size (.int .i64 0) (.slice none 0 0) (.int .i64 0) (.int .i64 0) (.string ⟨#[]⟩) := ⟨_, rfl⟩
  obtain ⟨v0, v1, v2, v3, v4⟩ := put5_cells hV k0 k1 k2 k3 k4
  have HE := hide (read_zero HN.out HBW.out hV)
  unfold put5 at hV
  have HV := hide hV
  clear g3 g2 g5 hV hlen
  rcases b1 with b1 | ⟨b1, b1a, b1b, b1c⟩
  · rcases b2 with b2 | ⟨b2, b2a, b2b⟩
    · rcases b3 with b3 | ⟨b3, b3a⟩
      · go_wp2_with fail
        rw [← HV.out]
        exact bodyPost_ret (v := .tuple #[.agg #[.int .i64 0, .slice none 0 0, .int .i64 0, .int .i64 0, .string ⟨#[]⟩], .bool false]) (by simp [results, Tryz.results38, go_sem, v0, v1, v2, v3, v4]) rfl HE.out
      · go_wp2_with fail
        rw [← HV.out]
        exact bodyPost_ret (v := .tuple #[.agg #[.int .i64 0, .slice none 0 0, .int .i64 0, .int .i64 0, .string ⟨#[]⟩], .bool false]) (by simp [results, Tryz.results38, go_sem, v0, v1, v2, v3, v4]) rfl HE.out
    · clear b3
      go_wp2_with fail
      rw [← HV.out]
      exact bodyPost_ret (v := .tuple #[.agg #[.int .i64 0, .slice none 0 0, .int .i64 0, .int .i64 0, .string ⟨#[]⟩], .bool false]) (by simp [results, Tryz.results38, go_sem, v0, v1, v2, v3, v4]) rfl HE.out
  · clear b2 b3
    go_wp2_with fail
    rw [← HV.out]
    exact bodyPost_ret (v := .tuple #[.agg #[.int .i64 0, .slice none 0 0, .int .i64 0, .int .i64 0, .string ⟨#[]⟩], .bool false]) (by simp [results, Tryz.results38, go_sem, v0, v1, v2, v3, v4]) rfl HE.out
end Go.Proofs.YtkoohfkomlmhoacGreatDoor.Pat
namespace Go.Proofs.YtkoohfkomlmhoacGreatDoor.Deed
open Go.Deep Go.RowKit
set_option linter.unusedVariables false
set_option maxRecDepth 20000

theorem below0 (p : Int) (w : World) : Calls Tryz.prog 102 #[.int .i64 p] w fun e w' => e = .returned (.bool (decide (p < 0))) ∧ w' = w := by
  go_enter Tryz.func102, Tryz.ntmps102
  go_wp2_with fail
  go_ret
  exact ⟨rfl, rfl⟩

set_option maxHeartbeats 1000000 in
theorem indexF_any (a : Option Addr) (c : Nat) (l : List Int) (w : World) (h : PIn w a l) (hl : l.length ≤ maxLen) :
    Calls Tryz.prog 103 #[.slice a l.length c, .func (.func 102) #[] #[]] w fun e w' => ∃ r : Int, e = .returned (.int .i64 r) ∧ decide (0 ≤ r) = l.any (fun p => decide (p < 0)) ∧ w' = w := by
  unfold maxLen at hl
  go_enter Tryz.func103, Tryz.ntmps103
  go_wp2_with fail
  go_loopg [8] l.length (fun gk v wr => ∃ i : Nat, gk = l.length - i ∧ i ≤ l.length ∧ v = .int .i64 (i : Nat) ∧ Hid ((l.take i).any (fun p => decide (p < 0)) = false) ∧ wr = w)
  case atStart => exact ⟨0, rfl, Nat.zero_le _, rfl, by show _ = _; simp, rfl⟩
  case round =>
    obtain ⟨i, hgk, hi, rfl, hsame, hwr⟩ := hrel
    obtain ⟨wA, hwA⟩ : ∃ wA, wA = wr := ⟨_, rfl⟩
    rw [← hwA]
    have hwB : wA = w := hwA.trans hwr
    clear hwA hwr
    subst hwB
    by_cases hlt : i < l.length
    · obtain ⟨x, hx⟩ : ∃ x, l[i]? = some x := ⟨_, List.getElem?_eq_getElem hlt⟩
      obtain ⟨b, o, rfl, hL⟩ : ∃ b o, a = some ⟨b, o, none⟩ ∧ wA.cell? ⟨b, o + i, none⟩ = some (.int .i64 x) := by
        rcases h with h | ⟨b, o, rfl, h⟩
        · rw [h] at hlt; simp at hlt
        · exact ⟨b, o, rfl, h i x hx⟩
      have e1 : l[i] = x := by simpa [List.getElem?_eq_getElem hlt] using hx
      have htk : (l.take (i + 1)).any (fun p => decide (p < 0)) = decide (x < 0) := by
        rw [List.take_succ_eq_append_getElem hlt, List.any_append, hsame.out, e1]
        simp
      cases hb : decide (x < 0)
      · have HT := hide (htk.trans hb)
        clear hx htk h e1
        go_wp2_with fail
        refine Calls.mono (below0 x _) ?_
        rintro e w1 ⟨rfl, rfl⟩
        rw [hb]
        go_wp2_with fail
        go_roundg (l.length - (i + 1))
        case measure => omega
        case rel => exact ⟨i + 1, rfl, by omega, by go_num, HT, rfl⟩
      · have HA := hide (show l.any (fun p => decide (p < 0)) = true by
          rw [← List.take_append_drop (i + 1) l, List.any_append, htk, hb]
          rfl)
        clear hx htk h e1
        go_wp2_with fail
        refine Calls.mono (below0 x _) ?_
        rintro e w1 ⟨rfl, rfl⟩
        rw [hb]
        go_wp2_with fail
        go_ret
        exact ⟨(i : Int), rfl, by rw [HA.out]; simp, rfl⟩
    · have HA := hide (show l.any (fun p => decide (p < 0)) = false by
        have := hsame.out
        rwa [List.take_of_length_le (by omega)] at this)
      clear h
      go_wp2_with fail
      go_ret
      exact ⟨-1, rfl, by rw [HA.out]; rfl, rfl⟩

set_option maxHeartbeats 1000000 in
theorem anyB_any (a : Option Addr) (c : Nat) (l : List Int) (w : World) (h : PIn w a l) (hl : l.length ≤ maxLen) :
    Calls Tryz.prog 75 #[.slice a l.length c] w fun e w' => e = .returned (.bool (l.any (fun p => decide (p < 0)))) ∧ w' = w := by
  have HI := hide (indexF_any a c l w h hl)
  have hc : Calls Tryz.prog 79 #[.slice a l.length c, .func (.func 102) #[] #[]] w fun e w' => e = .returned (.bool (l.any (fun p => decide (p < 0)))) ∧ w' = w := by
    clear h
    go_enter Tryz.func79, Tryz.ntmps79
    go_wp2_with fail
    refine Calls.mono HI.out ?_
    rintro e w1 ⟨r, rfl, hr, rfl⟩
    have HR := hide hr
    clear hr
    go_wp2_with fail
    go_ret
    exact ⟨by rw [← HR.out]; rfl, rfl⟩
  have HC := hide hc
  clear hc HI h
  go_enter Tryz.func75, Tryz.ntmps75
  go_wp2_with fail
  refine Calls.mono HC.out ?_
  rintro e w1 ⟨rfl, rfl⟩
  go_wp2_with fail
  go_ret
  exact ⟨rfl, rfl⟩
end Go.Proofs.YtkoohfkomlmhoacGreatDoor.Deed
