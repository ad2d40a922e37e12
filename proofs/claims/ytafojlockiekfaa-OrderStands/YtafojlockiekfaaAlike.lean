/- What is told of a tree is told of each tree that is it but for where it lies. Of the program's text. -/
import Derived.Test.YtafojlockiekfaaProg
import Derived.Test.YtafojlockiekfaaCheck
import Derived.Test.YtafojlockiekfaaAt
import Derived.Test.YtafojlockiekfaaAtRef
import Derived.Test.YtafojlockiekfaaBegun
namespace Go.Proofs.Ytafojlockiekfaa
open Go.Deep Go.RowKit
set_option linter.unusedVariables false
set_option maxRecDepth 20000

theorem badF_strip : ∀ f : Fo, badF (strip f) = badF f
  | .nil => rfl
  | .node _ _ x k r => by simp [badF, strip, badF_strip k, badF_strip r]
theorem deepF_strip : ∀ (f : Fo) (a : Int), deepF (strip f) a = deepF f a
  | .nil, _ => rfl
  | .node _ _ x k r, a => by simp [deepF, strip, deepF_strip k, deepF_strip r]
theorem longF_strip : ∀ f : Fo, longF (strip f) = longF f
  | .nil => rfl
  | .node _ _ x k r => by simp [longF, strip, longF_strip k, longF_strip r]
theorem faultT_of_strip {s : ByteArray} {f g : Fo} (h : strip f = strip g) : faultT s f = faultT s g := by
  unfold faultT deepT badT
  rw [fnodes_of_strip h, ← deepF_strip f, ← badF_strip f, h, deepF_strip, badF_strip]
theorem sameT_of_strip_left {s s' : ByteArray} {f g h : Fo} (e : strip g = strip h) : sameT s g s' f = sameT s h s' f := by
  unfold sameT
  rw [sameF_of_strip_left e]
theorem sameT_of_strip {s : ByteArray} {f g : Fo} (e : strip f = strip g) : sameT s f s g = true := by
  unfold sameT
  rw [sameF_of_strip_left e, sameF_refl]
  simp
theorem longF_small : ∀ {f : Fo}, longF f = false → SmallF f
  | .nil, _ => trivial
  | .node _ _ x k r, h => by
    simp only [longF, Bool.or_eq_false_iff, decide_eq_false_iff_not] at h
    exact ⟨by omega, longF_small h.1.2, longF_small h.2⟩
theorem great_long {s : ByteArray} {k : Fo} (h : greatT s k = false) : s.size ≤ 1000 ∧ longF k = false := by
  unfold greatT longT at h
  simp only [Bool.or_eq_false_iff, decide_eq_false_iff_not] at h
  exact ⟨by omega, h.2.2⟩

theorem strip_fdrop : ∀ (n : Nat) (f : Fo), strip (fdrop n f) = fdrop n (strip f)
  | 0, f => by simp [fdrop]
  | _ + 1, .nil => rfl
  | n + 1, .node _ _ x k r => by simp only [fdrop, strip]; exact strip_fdrop n r

/-- What is told of the node at a path. -/
def AtLike : Option It → ByteArray → Fo → Bool → Prop
  | none, s, k, b => s = ⟨#[]⟩ ∧ k = .nil ∧ b = false
  | some i, s, k, b => s = i.1 ∧ strip k = strip i.2.2.2 ∧ b = true

theorem atT_strip : ∀ (ps : List Int) (i i' : It), i.1 = i'.1 → strip i.2.2.2 = strip i'.2.2.2 → (atT i ps = none ∧ atT i' ps = none) ∨ ∃ j j', atT i ps = some j ∧ atT i' ps = some j' ∧ j.1 = j'.1 ∧ strip j.2.2.2 = strip j'.2.2.2
  | [], i, i', h1, h2 => Or.inr ⟨i, i', rfl, rfl, h1, h2⟩
  | p :: ps, i, i', h1, h2 => by
    have hl := flen_of_strip h2
    by_cases hp : 0 ≤ p ∧ p < (flen i.2.2.2 : Int)
    · have hp' : 0 ≤ p ∧ p < (flen i'.2.2.2 : Int) := by rw [← hl]; exact hp
      have hd : strip (fdrop p.toNat i.2.2.2) = strip (fdrop p.toNat i'.2.2.2) := by rw [strip_fdrop, h2, strip_fdrop]
      simp only [atT]
      rw [if_pos hp, if_pos hp']
      cases e1 : fdrop p.toNat i.2.2.2 with
      | nil =>
        cases e2 : fdrop p.toNat i'.2.2.2 with
        | nil => exact Or.inl ⟨rfl, rfl⟩
        | node b o x k r => rw [e1, e2] at hd; simp [strip] at hd
      | node b o x k r =>
        cases e2 : fdrop p.toNat i'.2.2.2 with
        | nil => rw [e1, e2] at hd; simp [strip] at hd
        | node b' o' x' k' r' =>
          rw [e1, e2] at hd
          simp only [strip, BT.node.injEq, Prod.mk.injEq, and_true, true_and] at hd
          exact atT_strip ps _ _ hd.1 hd.2.1
    · have hp' : ¬ (0 ≤ p ∧ p < (flen i'.2.2.2 : Int)) := by rw [← hl]; exact hp
      exact Or.inl ⟨atT_out hp, atT_out hp'⟩

theorem atLike_same {ps : List Int} {s : ByteArray} {ka ka' : Option Addr} {cap cap' : Nat} {k k' : Fo} (h : strip k' = strip k) {sx sy : ByteArray} {kx ky : Fo} {bx bY : Bool}
    (hx : AtLike (atT (s, ka', cap', k') ps) sx kx bx) (hy : AtLike (atT (s, ka, cap, k) ps) sy ky bY) : sameT sx kx sy ky = true ∧ bx = bY := by
  rcases atT_strip ps (s, ka', cap', k') (s, ka, cap, k) rfl h with ⟨h1, h2⟩ | ⟨j, j', h1, h2, h3, h4⟩
  · rw [h1] at hx
    rw [h2] at hy
    obtain ⟨rfl, rfl, rfl⟩ := hx
    obtain ⟨rfl, rfl, rfl⟩ := hy
    exact ⟨by simp [sameT, sameF], rfl⟩
  · rw [h1] at hx
    rw [h2] at hy
    obtain ⟨rfl, hk1, rfl⟩ := hx
    obtain ⟨rfl, hk2, rfl⟩ := hy
    rw [h3]
    exact ⟨sameT_of_strip (by rw [hk1, h4, hk2]), rfl⟩

theorem atT_tin : ∀ (ps : List Int) (w : World) (i j : It), ItIn w i → atT i ps = some j → ItIn w j
  | [], w, i, j, h, e => by simp only [atT, Option.some.injEq] at e; subst e; exact h
  | p :: ps, w, i, j, h, e => by
    by_cases hp : 0 ≤ p ∧ p < (flen i.2.2.2 : Int)
    · simp only [atT] at e
      rw [if_pos hp] at e
      rcases TIn.kids h with hk | ⟨kb, ko, hk1, hk⟩
      · rw [hk] at hp; simp [flen] at hp; omega
      · obtain ⟨b', o', x, kk, he, he0, he1, htin, hbb⟩ := hk.at (j := p.toNat) (by omega)
        rw [he] at e
        exact atT_tin ps w (x.1, x.2.1, x.2.2, kk) j htin e
    · rw [atT_out hp] at e; cases e

theorem nilT (w : World) : TIn w ⟨#[]⟩ none 0 .nil := ⟨by show 0 ≤ maxLen; omega, by simp [flen], by omega, Or.inl rfl⟩

/-- At of the program, in one form. -/
theorem at_like (i0 : It) (ps : List Int) (pa : Option Addr) (pcap : Nat) (w : World) (ht : ItOk w 200 i0) (hps : PIn w pa ps) (hl : ps.length ≤ pcap) (hc : pcap ≤ maxLen) :
    Calls Try.prog 15 #[.agg #[.string i0.1, .slice i0.2.1 (flen i0.2.2.2) i0.2.2.1], .slice pa ps.length pcap] w fun e w' => ∃ sx kax capx kx bx, e = .returned (.tuple #[.agg #[.string sx, .slice kax (flen kx) capx], .bool bx]) ∧ TIn w' sx kax capx kx ∧ AtLike (atT i0 ps) sx kx bx ∧ Below w.heap.size w w' := by
  refine (at_any i0 ps pa pcap w ht hps hl hc).mono ?_
  rintro e w' ⟨hp, hb⟩
  rcases hp with ⟨hn, rfl⟩ | ⟨i, ka', cap', k', hi, rfl, hst, ht, hpl, _⟩
  · exact ⟨⟨#[]⟩, none, 0, .nil, false, rfl, nilT _, by rw [hn]; exact ⟨rfl, rfl, rfl⟩, hb⟩
  · exact ⟨i.1, ka', cap', k', true, rfl, ht, by rw [hi]; exact ⟨rfl, hst, rfl⟩, hb⟩
theorem refAt_like (ps : List Int) (s : ByteArray) (ka : Option Addr) (cap : Nat) (k : Fo) (pa : Option Addr) (pcap : Nat) (w : World) (ht : TIn w s ka cap k) (hps : PIn w pa ps) (hl : ps.length ≤ pcap) (hc : pcap ≤ maxLen) :
    Calls Try.prog 16 #[.agg #[.string s, .slice ka (flen k) cap], .slice pa ps.length pcap] w fun e w' => ∃ sx kax capx kx bx, e = .returned (.tuple #[.agg #[.string sx, .slice kax (flen kx) capx], .bool bx]) ∧ TIn w' sx kax capx kx ∧ AtLike (atT (s, ka, cap, k) ps) sx kx bx ∧ Below w.heap.size w w' := by
  refine (refAt_any ps s ka cap k pa pcap w ht hps hl hc).mono ?_
  rintro e w' ⟨rfl, hb⟩
  cases hq : atT (s, ka, cap, k) ps with
  | none => exact ⟨⟨#[]⟩, none, 0, .nil, false, rfl, nilT _, ⟨rfl, rfl, rfl⟩, hb⟩
  | some i => exact ⟨i.1, i.2.1, i.2.2.1, i.2.2.2, true, rfl, TIn.below hb (atT_tin ps w (s, ka, cap, k) i ht hq), ⟨rfl, rfl, rfl⟩, hb⟩

end Go.Proofs.Ytafojlockiekfaa
