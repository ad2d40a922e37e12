/- What a reading of an api.Deed says of memory. Of the program's types. -/
/- What a reading of a list of deeds says of memory. Of the program's types. -/
import Derived.Test.YtkoohfkomlmhoacGreatDoorProg
import Derived.Test.YtkoohfkomlmhoacGreatDoorKDP36
import Derived.Test.YtkoohfkomlmhoacGreatDoorKDP13
import Derived.Test.YtkoohfkomlmhoacGreatDoorKDP18
namespace Go.Proofs.YtkoohfkomlmhoacGreatDoor.Deed
open Go.Deep Go.RowKit Go.ChangeShapes Go.WideShapes Go.Joins
set_option linter.unusedVariables false
set_option maxRecDepth 20000

theorem Tryz.cellsDeed : Tryz.prog.cellsOf 38 = 5 := by kernel_rfl
theorem Tryz.cellsPath : Tryz.prog.cellsOf 23 = 1 := by kernel_rfl
section
variable {H : Type} {enc : TypeId × Value → H} {w : World} {base : Nat} {spare : Nat → Bool} {held : Bool}
/-- A list of numbers, read by its cell. -/
theorem open_cells {n : Nat} {v : Value} {y : DataW H × List MemPlace} (h : DataW.trod enc Tryz.prog w base spare held n 23 [v] = some y) : ∃ pa ps pcap, v = .slice pa (List.length (α := Int) ps) pcap ∧ ps.length ≤ pcap ∧ pcap ≤ maxLen ∧ PIn w pa ps := by
  rcases open_ints Tryz.underlying23 Tryz.underlying3 Tryz.cellsInt h with ⟨hcs, hx⟩ | ⟨a, len, cap, zs, hcs, _, hl, hm, hz, hx, hcell, hwz⟩
  · simp only [List.cons.injEq, and_true] at hcs
    exact ⟨none, [], 0, hcs, Nat.le_refl _, by unfold maxLen; omega, Or.inl rfl⟩
  · simp only [List.cons.injEq, and_true] at hcs
    subst hcs
    have hzl : len ≤ zs.length := by rw [hz]; split <;> omega
    have htl : (zs.take len).length = len := by rw [List.length_take]; omega
    refine ⟨some a, zs.take len, cap, by rw [htl], by rw [htl]; exact hl, hm, ?_⟩
    by_cases h0 : len = 0
    · exact Or.inl (by rw [h0]; rfl)
    · have hs := spot_none (hcell 0 (by omega))
      obtain ⟨b, o, sp⟩ := a
      simp [Addr.add] at hs
      subst hs
      refine Or.inr ⟨b, o, rfl, fun i q hq => ?_⟩
      have hi : i < len := by
        have := (List.getElem?_eq_some_iff.1 hq).1
        omega
      have hc := hcell i (by omega)
      rw [add_plain] at hc
      rw [hc]
      rw [List.getElem?_take_of_lt hi] at hq
      simp [hq]
end
end Go.Proofs.YtkoohfkomlmhoacGreatDoor.Deed
namespace Go.Proofs.YtkoohfkomlmhoacGreatDoor.Deed
open Go.Deep Go.RowKit Go.ChangeShapes Go.WideShapes Go.Joins
set_option linter.unusedVariables false
set_option maxRecDepth 20000

section
variable {H : Type} {enc : TypeId × Value → H} {w : World} {base : Nat} {spare : Nat → Bool} {held : Bool}
def PdAt (w : World) (b o : Nat) (x : Pd) : Prop := (∀ j u, (pdCell x)[j]? = some u → w.cell? ⟨b, o + j, none⟩ = some u) ∧ DIn w x.1 x.2.1 x.2.2 ∧ x.1.many ≤ 9223372036854775807
theorem pds_of {w : World} {b o : Nat} : ∀ {L : List Pd}, (∀ i x, L[i]? = some x → PdAt w b (o + i * 5) x) → ∀ j u, (pdCells L)[j]? = some u → w.cell? ⟨b, o + j, none⟩ = some u := by
  intro L hL j u hu
  have hj := (List.getElem?_eq_some_iff.1 hu).1
  rw [pdCells_length] at hj
  obtain ⟨i, r, hr, rfl⟩ : ∃ i r, r < 5 ∧ j = i * 5 + r := ⟨j / 5, j % 5, Nat.mod_lt _ (by omega), by omega⟩
  have hi : i < L.length := by omega
  have hx := List.getElem?_eq_getElem hi
  rw [pdCells_at L i _ hx r hr] at hu
  have := (hL i _ hx).1 r u hu
  rw [← Nat.add_assoc]
  exact this
theorem open_deeds {r : Reach} {b0 : Nat} {v : Value} {d : DataW H} {p : List MemPlace} (hv : Value.okWide Tryz.prog w r b0 22 v) (h : DataW.Trod enc Tryz.prog w base spare held 22 v d p) :
    ∃ ra R rc, v = .slice ra (List.length (α := Pd) R) rc ∧ R.length ≤ rc ∧ rc ≤ maxLen ∧ DsIn w ra R ∧ ∀ x, x ∈ R → x.1.many ≤ 9223372036854775807 := by
  obtain ⟨a0, len0, cap0, rfl⟩ := okWide_slice Tryz.underlying22 hv
  obtain ⟨fuel, hf⟩ := h
  rcases DataW.trod_slice Tryz.underlying22 hf with ⟨hcs, _⟩ | ⟨a, len, cap, elems, rest, n, hn, hcs, hx, hb, hl, hm, hlen, hel, hsp, hns⟩
  · simp [Value.cells] at hcs
    obtain ⟨rfl, rfl, rfl⟩ := hcs
    exact ⟨none, [], 0, rfl, Nat.le_refl _, by unfold maxLen; omega, ⟨Or.inl rfl, PdsIn.nil _⟩, fun x hx => by simp at hx⟩
  · simp [Value.cells] at hcs
    obtain ⟨rfl, rfl, rfl⟩ := hcs
    have each : ∀ i, i < len0 → ∃ x : Pd, w.cell? (a.add (i * 5)) = some (.int .i64 x.1.kind) ∧ w.cell? ((a.add (i * 5)).add 1) = some (.slice x.2.1 x.1.path.length x.2.2) ∧ w.cell? ((a.add (i * 5)).add 2) = some (.int .i64 x.1.pos) ∧ w.cell? ((a.add (i * 5)).add 3) = some (.int .i64 x.1.many) ∧ w.cell? ((a.add (i * 5)).add 4) = some (.string x.1.lab) ∧ DIn w x.1 x.2.1 x.2.2 ∧ x.1.many ≤ 9223372036854775807 := by
      intro i hi
      have h1 := hel i hi
      have hlt : i < elems.length := by omega
      rw [List.getElem?_eq_getElem hlt, Option.bind_eq_some_iff] at h1
      obtain ⟨cs', hc, ht⟩ := h1
      rw [Tryz.cellsDeed] at hc
      obtain ⟨_, hlen', hcell⟩ := World.cells?_some hc
      obtain ⟨xs, k', hk, hxy, _, hxl, hf⟩ := DataW.trod_struct Tryz.underlying38 ht
      match xs, hxl, cs', hlen' with
      | [y0, y1, y2, y3, y4], _, [v0, v1, v2, v3, v4], _ =>
        have g0 := hf 0 _ rfl
        have g1 := hf 1 _ rfl
        have g2 := hf 2 _ rfl
        have g3 := hf 3 _ rfl
        have g4 := hf 4 _ rfl
        simp [Tryz.cellsStr, Tryz.cellsInt, Tryz.cellsPath] at g0 g1 g2 g3 g4
        have e0 := hcell 0 (by omega)
        have e1 := hcell 1 (by omega)
        have e2 := hcell 2 (by omega)
        have e3 := hcell 3 (by omega)
        have e4 := hcell 4 (by omega)
        obtain ⟨n0, hn0, _, _⟩ := DataW.trod_int Tryz.underlying3 g0
        obtain ⟨pa, ps, pc, rfl, hp1, hp2, hp3⟩ := open_cells g1
        obtain ⟨n2, hn2, _, _⟩ := DataW.trod_int Tryz.underlying3 g2
        obtain ⟨n3, hn3, _, hw3⟩ := DataW.trod_int Tryz.underlying3 g3
        obtain ⟨s, hs, _, hsz⟩ := DataW.trod_string Tryz.underlying9 g4
        simp only [List.cons.injEq, and_true] at hn0 hn2 hn3 hs
        subst hn0 hn2 hn3 hs
        refine ⟨(⟨n0, ps, n2, n3, s⟩, pa, pc), by simpa [Addr.add] using e0, by simpa using e1, by simpa using e2, by simpa using e3, by simpa using e4, ⟨hp3, hp1, hp2, hsz⟩, ?_⟩
        simp [Lit.wf] at hw3
        exact hw3.2
    by_cases h0 : len0 = 0
    · subst h0
      exact ⟨some a, [], cap0, rfl, Nat.zero_le _, hm, ⟨Or.inl rfl, PdsIn.nil _⟩, fun x hx => by simp at hx⟩
    · obtain ⟨_, q0, _⟩ := each 0 (by omega)
      have hs := spot_none q0
      obtain ⟨b, o, sp⟩ := a
      simp [Addr.add] at hs
      subst hs
      have each' : ∀ i, i < len0 → ∃ x : Pd, PdAt w b (o + i * 5) x := fun i hi => by
        obtain ⟨x, g0, g1, g2, g3, g4, g5, g6⟩ := each i hi
        rw [add_plain] at g0
        rw [add_plain, add_plain] at g1 g2 g3 g4
        refine ⟨x, fun j u hu => ?_, g5, g6⟩
        match j with
        | 0 => simp [pdCell] at hu; subst hu; exact g0
        | 1 => simp [pdCell] at hu; subst hu; exact g1
        | 2 => simp [pdCell] at hu; subst hu; exact g2
        | 3 => simp [pdCell] at hu; subst hu; exact g3
        | 4 => simp [pdCell] at hu; subst hu; exact g4
        | j + 5 => simp [pdCell] at hu
      obtain ⟨f, hff⟩ : ∃ f : Nat → Pd, ∀ i, i < len0 → PdAt w b (o + i * 5) (f i) := by
        refine ⟨fun i => if h : i < len0 then (each' i h).choose else (⟨0, [], 0, 0, ⟨#[]⟩⟩, none, 0), fun i hi => ?_⟩
        have h2 := (each' i hi).choose_spec
        simp only [dif_pos hi]
        exact h2
      have hget : ∀ i x, ((List.range len0).map f)[i]? = some x → PdAt w b (o + i * 5) x := fun i x hx => by
        simp only [List.getElem?_map, Option.map_eq_some_iff] at hx
        obtain ⟨j, hj, rfl⟩ := hx
        have hlt := (List.getElem?_eq_some_iff.1 hj).1
        simp at hlt
        have : j = i := by
          rw [List.getElem?_eq_getElem (by simpa using hlt)] at hj
          simp at hj
          omega
        subst this
        exact hff j hlt
      have hmem : ∀ x, x ∈ (List.range len0).map f → DIn w x.1 x.2.1 x.2.2 ∧ x.1.many ≤ 9223372036854775807 := fun x hx => by
        obtain ⟨i, hi⟩ := List.getElem?_of_mem hx
        exact (hget i x hi).2
      exact ⟨some ⟨b, o, none⟩, (List.range len0).map f, cap0, by simp, by simpa using hl, hm, ⟨Or.inr ⟨b, o, rfl, pds_of hget⟩, fun x hx => (hmem x hx).1⟩, fun x hx => (hmem x hx).2⟩
end
end Go.Proofs.YtkoohfkomlmhoacGreatDoor.Deed
