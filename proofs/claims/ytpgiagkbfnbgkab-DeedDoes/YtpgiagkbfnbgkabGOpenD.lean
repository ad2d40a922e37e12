/- What a reading of an api.Tree, of a path and of a string says of memory. Of the program's types. -/
/- What a reading of an api.Deed says of memory. Of the program's types. -/
import Derived.Test.YtpgiagkbfnbgkabProg
import Derived.Test.YtpgiagkbfnbgkabFo
import Derived.Test.YtpgiagkbfnbgkabPathIn
import Derived.ProofKit
import Derived.Lib.SmallJoins
import Derived.Test.YtpgiagkbfnbgkabDeedRef
namespace Go.Proofs.Ytpgiagkbfnbgkab
open Go.Deep Go.RowKit Go.ChangeShapes Go.WideShapes Go.Joins
open Go.ChangeMaps (open_string)
set_option linter.unusedVariables false
set_option maxRecDepth 20000

theorem Try.cellsTree : Try.prog.cellsOf 24 = 2 := by kernel_rfl
theorem Try.cellsStr : Try.prog.cellsOf 9 = 1 := by kernel_rfl
theorem Try.cellsKids : Try.prog.cellsOf 22 = 1 := by kernel_rfl
theorem Try.cellsInt : Try.prog.cellsOf 3 = 1 := by kernel_rfl

theorem spot_none {w : World} {a : Addr} {v : Value} (h : w.cell? a = some v) : a.spot = none := by
  unfold World.cell? at h
  split at h
  · split at h
    · cases h
    · rename_i hs
      simpa using hs
  · cases h

theorem build_forest {w : World} {b : Nat} : ∀ (n o : Nat), (∀ i, i < n → ∃ (s : ByteArray) (ka : Option Addr) (cap : Nat) (k : Fo), w.cell? ⟨b, o + i * 2, none⟩ = some (.string s) ∧ w.cell? ⟨b, o + i * 2 + 1, none⟩ = some (.slice ka (flen k) cap) ∧ TIn w s ka cap k) → ∃ f : Fo, flen f = n ∧ FIn w f b o
  | 0, o, _ => ⟨.nil, rfl, trivial⟩
  | n + 1, o, h => by
    obtain ⟨s, ka, cap, k, h0, h1, ht⟩ := h 0 (by omega)
    obtain ⟨f, hf, hin⟩ := build_forest n (o + 2) (fun i hi => by
      obtain ⟨s, ka, cap, k, g0, g1, gt⟩ := h (i + 1) (by omega)
      have e : o + 2 + i * 2 = o + (i + 1) * 2 := by omega
      exact ⟨s, ka, cap, k, by rw [e]; exact g0, by rw [e]; exact g1, gt⟩)
    exact ⟨.node b o (s, ka, cap) k f, by simp [flen, hf], rfl, rfl, by simpa using h0, by simpa using h1, ht.size, ht.len, ht.cap, ht.kids, hin⟩

section
variable {H : Type} {enc : TypeId × Value → H} {w : World} {base : Nat} {spare : Nat → Bool} {held : Bool}

theorem open_forest : ∀ (N fuel : Nat) (cs : List Value) (x : DataW H × List MemPlace), fuel ≤ N → DataW.trod enc Try.prog w base spare held fuel 22 cs = some x →
    ∃ ka cap k, cs = [.slice ka (flen k) cap] ∧ flen k ≤ cap ∧ cap ≤ maxLen ∧ KIn w ka k := by
  intro N
  induction N with
  | zero =>
    intro fuel cs x hN h
    obtain rfl : fuel = 0 := by omega
    simp [DataW.trod] at h
  | succ N ih =>
    intro fuel cs x hN h
    rcases DataW.trod_slice Try.underlying22 h with ⟨rfl, _⟩ | ⟨a, len, cap, elems, rest, n, hn, rfl, hx, hb, hl, hm, hlen, hel, hsp, hns⟩
    · exact ⟨none, 0, .nil, rfl, Nat.le_refl _, by unfold maxLen; omega, Or.inl rfl⟩
    · have each : ∀ i, i < len → ∃ (s : ByteArray) (ka : Option Addr) (c : Nat) (k : Fo), w.cell? (a.add (i * 2)) = some (.string s) ∧ w.cell? ((a.add (i * 2)).add 1) = some (.slice ka (flen k) c) ∧ TIn w s ka c k := by
        intro i hi
        have h1 := hel i hi
        have hlt : i < elems.length := by omega
        rw [List.getElem?_eq_getElem hlt, Option.bind_eq_some_iff] at h1
        obtain ⟨cs', hc, ht⟩ := h1
        rw [Try.cellsTree] at hc
        obtain ⟨_, hlen', hcell⟩ := World.cells?_some hc
        obtain ⟨xs, k', hk, hxy, _, hxl, hf⟩ := DataW.trod_struct Try.underlying24 ht
        match xs, hxl, cs', hlen' with
        | [y0, y1], _, [v0, v1], _ =>
          have g0 := hf 0 _ rfl
          have g1 := hf 1 _ rfl
          simp [Try.cellsStr, Try.cellsKids] at g0 g1
          have e0 := hcell 0 (by omega)
          have e1 := hcell 1 (by omega)
          obtain ⟨s, hs, _, hsz⟩ := DataW.trod_string Try.underlying9 g0
          obtain ⟨ka, c, k, hv1, hlk, hck, hin⟩ := ih k' _ _ (by omega) g1
          simp only [List.cons.injEq, and_true] at hs hv1
          subst hs
          subst hv1
          refine ⟨s, ka, c, k, ?_, ?_, hsz, hlk, hck, hin⟩
          · simpa [Addr.add] using e0
          · simpa using e1
      by_cases h0 : len = 0
      · exact ⟨some a, cap, .nil, by rw [h0]; rfl, Nat.zero_le _, hm, Or.inl rfl⟩
      · obtain ⟨_, _, _, _, q0, _, _⟩ := each 0 (by omega)
        have hs := spot_none q0
        obtain ⟨b, o, sp⟩ := a
        simp [Addr.add] at hs
        subst hs
        obtain ⟨f, hf, hin⟩ := build_forest (w := w) (b := b) len o (fun i hi => by
          obtain ⟨s, ka, c, k, g0, g1, gt⟩ := each i hi
          rw [add_plain] at g0
          rw [add_plain, add_plain] at g1
          exact ⟨s, ka, c, k, g0, g1, gt⟩)
        exact ⟨some ⟨b, o, none⟩, cap, f, by rw [hf], by rw [hf]; exact hl, hm, Or.inr ⟨b, o, rfl, hin⟩⟩

theorem open_tree {r : Reach} {b0 : Nat} {v : Value} {d : DataW H} {p : List MemPlace} (hv : Value.okWide Try.prog w r b0 24 v) (h : DataW.Trod enc Try.prog w base spare held 24 v d p) :
    ∃ s ka cap k, v = .agg #[.string s, .slice ka (flen k) cap] ∧ TIn w s ka cap k := by
  obtain ⟨v0, v1, y0, y1, n, rfl, rfl, rfl, h0, h1⟩ := open_agg2 Try.underlying24 (by kernel_rfl) Try.cellsTree hv h
  obtain ⟨s, hs, _, hsz⟩ := DataW.trod_string Try.underlying9 h0
  obtain ⟨ka, c, k, hv1, hlk, hck, hin⟩ := open_forest n n _ _ (Nat.le_refl _) h1
  simp only [List.cons.injEq, and_true] at hs hv1
  subst hs
  subst hv1
  exact ⟨s, ka, c, k, rfl, hsz, hlk, hck, hin⟩

theorem open_path {r : Reach} {b0 : Nat} {v : Value} {d : DataW H} {p : List MemPlace} (hv : Value.okWide Try.prog w r b0 42 v) (h : DataW.Trod enc Try.prog w base spare held 42 v d p) :
    ∃ pa ps pcap, v = .slice pa (List.length (α := Int) ps) pcap ∧ ps.length ≤ pcap ∧ pcap ≤ maxLen ∧ PIn w pa ps := by
  obtain ⟨a0, len, cap, rfl⟩ := okWide_slice Try.underlying42 hv
  obtain ⟨fuel, hf⟩ := h
  rcases open_ints Try.underlying42 Try.underlying3 Try.cellsInt hf with ⟨hcs, hx⟩ | ⟨a, len', cap', zs, hcs, _, hl, hm, hz, hx, hcell, hwz⟩
  · simp [Value.cells] at hcs
    obtain ⟨rfl, rfl, rfl⟩ := hcs
    exact ⟨none, [], 0, rfl, Nat.le_refl _, by unfold maxLen; omega, Or.inl rfl⟩
  · simp [Value.cells] at hcs
    obtain ⟨rfl, rfl, rfl⟩ := hcs
    have hzl : len ≤ zs.length := by rw [hz]; split <;> omega
    have htl : (zs.take len).length = len := by rw [List.length_take]; omega
    refine ⟨some a, zs.take len, cap, by rw [htl], by rw [htl]; exact hl, hm, ?_⟩
    by_cases h0 : len = 0
    · exact Or.inl (by rw [h0]; rfl)
    · have hs := spot_none (hcell 0 (by omega))
      obtain ⟨b, o, sp⟩ := a
      simp [Addr.add] at hs
      subst hs
      refine Or.inr ⟨b, o, rfl, fun i q hq => ?_⟩
      have hi : i < len := by
        have := (List.getElem?_eq_some_iff.1 hq).1
        omega
      have hc := hcell i (by omega)
      rw [add_plain] at hc
      rw [hc]
      rw [List.getElem?_take_of_lt hi] at hq
      simp [hq]
end

end Go.Proofs.Ytpgiagkbfnbgkab
namespace Go.Proofs.Ytpgiagkbfnbgkab.Deed
open Go.Deep Go.RowKit Go.ChangeShapes Go.WideShapes Go.Joins
set_option linter.unusedVariables false
set_option maxRecDepth 20000

theorem Try.cellsDeed : Try.prog.cellsOf 44 = 5 := by kernel_rfl
theorem Try.cellsPath : Try.prog.cellsOf 42 = 1 := by kernel_rfl
theorem array5 {α : Type} {cs : Array α} (h : cs.size = 5) : ∃ c0 c1 c2 c3 c4, cs = #[c0, c1, c2, c3, c4] := by
  obtain ⟨l⟩ := cs
  match l, h with
  | [c0, c1, c2, c3, c4], _ => exact ⟨c0, c1, c2, c3, c4, rfl⟩
section
variable {H : Type} {enc : TypeId × Value → H} {w : World} {base : Nat} {spare : Nat → Bool} {held : Bool}
/-- A list of numbers, read by its cell. -/
theorem open_cells {n : Nat} {v : Value} {y : DataW H × List MemPlace} (h : DataW.trod enc Try.prog w base spare held n 42 [v] = some y) : ∃ pa ps pcap, v = .slice pa (List.length (α := Int) ps) pcap ∧ ps.length ≤ pcap ∧ pcap ≤ maxLen ∧ PIn w pa ps := by
  rcases open_ints Try.underlying42 Try.underlying3 Try.cellsInt h with ⟨hcs, hx⟩ | ⟨a, len, cap, zs, hcs, _, hl, hm, hz, hx, hcell, hwz⟩
  · simp only [List.cons.injEq, and_true] at hcs
    exact ⟨none, [], 0, hcs, Nat.le_refl _, by unfold maxLen; omega, Or.inl rfl⟩
  · simp only [List.cons.injEq, and_true] at hcs
    subst hcs
    have hzl : len ≤ zs.length := by rw [hz]; split <;> omega
    have htl : (zs.take len).length = len := by rw [List.length_take]; omega
    refine ⟨some a, zs.take len, cap, by rw [htl], by rw [htl]; exact hl, hm, ?_⟩
    by_cases h0 : len = 0
    · exact Or.inl (by rw [h0]; rfl)
    · have hs := spot_none (hcell 0 (by omega))
      obtain ⟨b, o, sp⟩ := a
      simp [Addr.add] at hs
      subst hs
      refine Or.inr ⟨b, o, rfl, fun i q hq => ?_⟩
      have hi : i < len := by
        have := (List.getElem?_eq_some_iff.1 hq).1
        omega
      have hc := hcell i (by omega)
      rw [add_plain] at hc
      rw [hc]
      rw [List.getElem?_take_of_lt hi] at hq
      simp [hq]
theorem open_deed {r : Reach} {b0 : Nat} {v : Value} {x : DataW H} {p : List MemPlace} (hv : Value.okWide Try.prog w r b0 44 v) (h : DataW.Trod enc Try.prog w base spare held 44 v x p) :
    ∃ d pa pc, v = ddV d pa pc ∧ DIn w d pa pc ∧ d.many ≤ 9223372036854775807 := by
  obtain ⟨cs, rfl, hsz⟩ := okWide_struct Try.underlying44 hv
  obtain ⟨v0, v1, v2, v3, v4, rfl⟩ := array5 (hsz.trans Try.cellsDeed)
  obtain ⟨fuel, hf⟩ := h
  obtain ⟨xs, n, _, hx, hl, hlen, hff⟩ := DataW.trod_struct Try.underlying44 hf
  match xs, hlen with
  | [y0, y1, y2, y3, y4], _ =>
    have g0 := hff 0 _ rfl
    have g1 := hff 1 _ rfl
    have g2 := hff 2 _ rfl
    have g3 := hff 3 _ rfl
    have g4 := hff 4 _ rfl
    simp [Value.cells, Try.cellsStr, Try.cellsInt, Try.cellsPath] at g0 g1 g2 g3 g4
    obtain ⟨n0, hn0, _, _⟩ := DataW.trod_int Try.underlying3 g0
    obtain ⟨pa, ps, pc, rfl, hp1, hp2, hp3⟩ := open_cells g1
    obtain ⟨n2, hn2, _, _⟩ := DataW.trod_int Try.underlying3 g2
    obtain ⟨n3, hn3, _, hw3⟩ := DataW.trod_int Try.underlying3 g3
    obtain ⟨s, hs, _, hsz'⟩ := DataW.trod_string Try.underlying9 g4
    simp only [List.cons.injEq, and_true] at hn0 hn2 hn3 hs
    subst hn0 hn2 hn3 hs
    refine ⟨⟨n0, ps, n2, n3, s⟩, pa, pc, rfl, ⟨hp3, hp1, hp2, hsz'⟩, ?_⟩
    simp [Lit.wf] at hw3
    exact hw3.2
end
end Go.Proofs.Ytpgiagkbfnbgkab.Deed
