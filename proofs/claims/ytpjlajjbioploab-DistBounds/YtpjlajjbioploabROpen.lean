/- What a reading of an api.Tree says of memory, and that its lists are not frozen where its nodes lie. Of the program's types. -/
import Derived.Test.YtpjlajjbioploabProg
import Derived.Test.YtpjlajjbioploabOpen
import Derived.Test.YtpjlajjbioploabRBack
namespace Go.Proofs.Ytpjlajjbioploab
open Go.Deep Go.RowKit Go.ChangeShapes Go.WideShapes Go.Joins
open Go.ChangeMaps (open_string)
set_option linter.unusedVariables false
set_option maxRecDepth 20000

theorem build_cold {w : World} {b : Nat} : ∀ (n o : Nat), (∀ i, i < n → ∃ (s : ByteArray) (ka : Option Addr) (cap : Nat) (k : Fo), w.cell? ⟨b, o + i * 2, none⟩ = some (.string s) ∧ w.cell? ⟨b, o + i * 2 + 1, none⟩ = some (.slice ka (flen k) cap) ∧ TIn w s ka cap k ∧ BCold w b (o + i * 2) ∧ FCold w k) → ∃ f : Fo, flen f = n ∧ FIn w f b o ∧ FCold w f
  | 0, o, _ => ⟨.nil, rfl, trivial, trivial⟩
  | n + 1, o, h => by
    obtain ⟨s, ka, cap, k, h0, h1, ht, hq, hkc⟩ := h 0 (by omega)
    obtain ⟨f, hf, hin, hcf⟩ := build_cold n (o + 2) (fun i hi => by
      obtain ⟨s, ka, cap, k, g0, g1, gt, gq, gk⟩ := h (i + 1) (by omega)
      have e : o + 2 + i * 2 = o + (i + 1) * 2 := by omega
      exact ⟨s, ka, cap, k, by rw [e]; exact g0, by rw [e]; exact g1, gt, by rw [e]; exact gq, gk⟩)
    exact ⟨.node b o (s, ka, cap) k f, by simp [flen, hf], ⟨rfl, rfl, by simpa using h0, by simpa using h1, ht.size, ht.len, ht.cap, ht.kids, hin⟩, by simpa using hq, hkc, hcf⟩

section
variable {H : Type} {enc : TypeId × Value → H} {w : World} {base : Nat} {spare : Nat → Bool} {held : Bool}

theorem open_coldF : ∀ (N fuel : Nat) (cs : List Value) (x : DataW H × List MemPlace), fuel ≤ N → w.noneFrozen x.2 → DataW.trod enc Try.prog w base spare held fuel 22 cs = some x →
    ∃ ka cap k, cs = [.slice ka (flen k) cap] ∧ flen k ≤ cap ∧ cap ≤ maxLen ∧ KIn w ka k ∧ FCold w k := by
  intro N
  induction N with
  | zero =>
    intro fuel cs x hN hz h
    obtain rfl : fuel = 0 := by omega
    simp [DataW.trod] at h
  | succ N ih =>
    intro fuel cs x hN hz h
    rcases DataW.trod_slice Try.underlying22 h with ⟨rfl, _⟩ | ⟨a, len, cap, elems, rest, n, hn, rfl, hx, hb, hl, hm, hlen, hel, hsp, hns⟩
    · exact ⟨none, 0, .nil, rfl, Nat.le_refl _, by unfold maxLen; omega, Or.inl rfl, trivial⟩
    · have each : ∀ i, i < len → ∃ (s : ByteArray) (ka : Option Addr) (c : Nat) (k : Fo), w.cell? (a.add (i * 2)) = some (.string s) ∧ w.cell? ((a.add (i * 2)).add 1) = some (.slice ka (flen k) c) ∧ TIn w s ka c k ∧ FCold w k := by
        intro i hi
        have h1 := hel i hi
        have hlt : i < elems.length := by omega
        rw [List.getElem?_eq_getElem hlt, Option.bind_eq_some_iff] at h1
        obtain ⟨cs', hc, ht⟩ := h1
        rw [Try.cellsTree] at hc
        obtain ⟨_, hlen', hcell⟩ := World.cells?_some hc
        obtain ⟨xs, k', hk, hxy, _, hxl, hf⟩ := DataW.trod_struct Try.underlying24 ht
        match xs, hxl, cs', hlen' with
        | [y0, y1], _, [v0, v1], _ =>
          have g0 := hf 0 _ rfl
          have g1 := hf 1 _ rfl
          simp [Try.cellsStr, Try.cellsKids] at g0 g1
          have e0 := hcell 0 (by omega)
          have e1 := hcell 1 (by omega)
          obtain ⟨s, hs, _, hsz⟩ := DataW.trod_string Try.underlying9 g0
          have hz1 : w.noneFrozen y1.2 := fun b off hm => hz b off (by
            rw [hx]
            refine List.mem_append_right _ (List.mem_flatMap.2 ⟨elems[i], List.mem_append_left _ (List.getElem_mem hlt), ?_⟩)
            rw [hxy]
            simp [hm])
          obtain ⟨ka, c, k, hv1, hlk, hck, hin, hkc⟩ := ih k' _ _ (by omega) hz1 g1
          simp only [List.cons.injEq, and_true] at hs hv1
          subst hs
          subst hv1
          refine ⟨s, ka, c, k, ?_, ?_, ⟨hsz, hlk, hck, hin⟩, hkc⟩
          · simpa [Addr.add] using e0
          · simpa using e1
      by_cases h0 : len = 0
      · exact ⟨some a, cap, .nil, by rw [h0]; rfl, Nat.zero_le _, hm, Or.inl rfl, trivial⟩
      · obtain ⟨_, _, _, _, q0, _, _, _⟩ := each 0 (by omega)
        have hs := spot_none q0
        obtain ⟨b, o, sp⟩ := a
        simp [Addr.add] at hs
        subst hs
        obtain ⟨f, hf, hin, hcf⟩ := build_cold (w := w) (b := b) len o (fun i hi => by
          obtain ⟨s, ka, c, k, g0, g1, gt, gk⟩ := each i hi
          rw [add_plain] at g0
          rw [add_plain, add_plain] at g1
          have hfz := hz b (o + i * 2) (by
            rw [hx]
            refine List.mem_append_left _ ?_
            rw [Try.cellsTree]
            exact List.mem_map.2 ⟨i * 2, by simp; omega, rfl⟩)
          refine ⟨s, ka, c, k, g0, g1, gt, ⟨?_, hfz⟩, gk⟩
          have g0' := g0
          unfold World.cell? at g0'
          split at g0'
          · rename_i c t fr hh
            exact ⟨c, t, fr, hh⟩
          · cases g0')
        exact ⟨some ⟨b, o, none⟩, cap, f, by rw [hf], by rw [hf]; exact hl, hm, Or.inr ⟨b, o, rfl, hin⟩, hcf⟩

theorem open_cold {r : Reach} {b0 : Nat} {v : Value} {d : DataW H} {p : List MemPlace} (hv : Value.okWide Try.prog w r b0 24 v) (h : DataW.Trod enc Try.prog w base spare held 24 v d p) (hz : w.noneFrozen p) :
    ∃ s ka cap k, v = .agg #[.string s, .slice ka (flen k) cap] ∧ TIn w s ka cap k ∧ FCold w k := by
  obtain ⟨v0, v1, y0, y1, n, rfl, rfl, rfl, h0, h1⟩ := open_agg2 Try.underlying24 (by kernel_rfl) Try.cellsTree hv h
  obtain ⟨s, hs, _, hsz⟩ := DataW.trod_string Try.underlying9 h0
  obtain ⟨ka, c, k, hv1, hlk, hck, hin, hkc⟩ := open_coldF n n _ _ (Nat.le_refl _) (fun b off hm => hz b off (by simp [hm])) h1
  simp only [List.cons.injEq, and_true] at hs hv1
  subst hs
  subst hv1
  exact ⟨s, ka, c, k, rfl, ⟨hsz, hlk, hck, hin⟩, hkc⟩

end

end Go.Proofs.Ytpjlajjbioploab
