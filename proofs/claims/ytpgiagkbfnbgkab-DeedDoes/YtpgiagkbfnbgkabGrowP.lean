/- The tree that the parents of nodes tell: of lists alone. Of no program. -/
import Derived.Test.YtpgiagkbfnbgkabOrdP
namespace Go.Proofs.Ytpgiagkbfnbgkab
open Go.Deep Go.RowKit
set_option linter.unusedVariables false
set_option maxRecDepth 20000

/-- Trees without addresses, one behind the other. -/
abbrev Gs := List (ByteArray × Fo)
def toFo : Gs → Fo
  | [] => .nil
  | x :: l => .node 0 0 (x.1, none, 0) x.2 (toFo l)
def gsF : Fo → Gs
  | .nil => []
  | .node _ _ x k r => (x.1, strip k) :: gsF r
theorem toFo_gs : ∀ k : Fo, toFo (gsF k) = strip k
  | .nil => rfl
  | .node _ _ x k r => by simp [gsF, toFo, strip, toFo_gs r]
def upd (G : Nat → Gs) (p : Nat) (f : Gs) : Nat → Gs := fun m => if m = p then f else G m

/-- The steps of grow, from node i on. -/
def grows (n : Nat) : List Nd → Nat → (Nat → Gs) → Option (Nat → Gs)
  | [], _, G => some G
  | x :: l, i, G => if x.par ≤ (i : Int) ∨ (n : Int) ≤ x.par then none else grows n l (i + 1) (upd G x.par.toNat (G x.par.toNat ++ [(x.lab, toFo (G i))]))
def growP (L : List Nd) : Option (ByteArray × Fo) :=
  match L[L.length - 1]? with
  | none => none
  | some x => (grows L.length (L.take (L.length - 1)) 0 fun _ => []).map fun G => (x.lab, toFo (G (L.length - 1)))

theorem grows_ndF (n : Nat) : ∀ (k : Fo) (b p : Nat) (rest : List Nd) (G : Nat → Gs), b + fnodes k ≤ p → p < n → (∀ m, b ≤ m → m < b + fnodes k → G m = []) →
    ∃ G', grows n (ndF b k (p : Int) ++ rest) b G = grows n rest (b + fnodes k) G' ∧ G' p = G p ++ gsF k ∧ ∀ m, b + fnodes k ≤ m → m ≠ p → G' m = G m
  | .nil, b, p, rest, G, _, _, _ => ⟨G, rfl, by simp [gsF], fun _ _ _ => rfl⟩
  | .node b9 o9 x k r, b, p, rest, G, hp, hn, hG => by
    simp only [fnodes] at hp hG ⊢
    obtain ⟨G1, h1, h2, h3⟩ := grows_ndF n k b (b + fnodes k) (⟨x.1, (p : Int), (b : Int)⟩ :: (ndF (b + fnodes k + 1) r (p : Int) ++ rest)) G (Nat.le_refl _) (by omega) (fun m hm1 hm2 => hG m hm1 (by omega))
    have e1 : ndF b (.node b9 o9 x k r) (p : Int) ++ rest = ndF b k ((b + fnodes k : Nat) : Int) ++ (⟨x.1, (p : Int), (b : Int)⟩ :: (ndF (b + fnodes k + 1) r (p : Int) ++ rest)) := by simp [ndF]
    rw [e1, h1]
    have hi : G1 (b + fnodes k) = gsF k := by rw [h2, hG _ (by omega) (by omega)]; rfl
    have hpp : G1 p = G p := h3 p (by omega) (by omega)
    rw [grows, if_neg (by simp only [not_or]; omega), hi, toFo_gs]
    simp only [Int.toNat_natCast]
    obtain ⟨G2, g1, g2, g3⟩ := grows_ndF n r (b + fnodes k + 1) p rest (upd G1 p (G1 p ++ [(x.1, strip k)])) (by omega) hn (fun m hm1 hm2 => by
      unfold upd
      rw [if_neg (by omega), h3 m (by omega) (by omega)]
      exact hG m (by omega) (by omega))
    refine ⟨G2, ?_, ?_, ?_⟩
    · rw [g1, show b + fnodes k + 1 + fnodes r = b + (fnodes k + fnodes r + 1) by omega]
    · rw [g2]
      simp [upd, hpp, gsF]
    · intro m hm1 hm2
      rw [g3 m (by omega) hm2]
      unfold upd
      rw [if_neg hm2]
      exact h3 m (by omega) (by omega)

/-- Of a tree's nodes it is that tree. -/
theorem growP_ndT (s : ByteArray) (k : Fo) : growP (ndT 0 s k (-1)) = some (s, strip k) := by
  have hl : (ndT 0 s k (-1)).length - 1 = fnodes k := by rw [ndT_length]; omega
  have hlen : (ndT 0 s k (-1)).length = fnodes k + 1 := ndT_length _ _ _ _
  have hf : (ndF 0 k ((0 + fnodes k : Nat) : Int)).length = fnodes k := ndF_length _ _ _
  have hlast : (ndT 0 s k (-1))[fnodes k]? = some ⟨s, -1, ((0 : Nat) : Int)⟩ := by
    unfold ndT
    rw [List.getElem?_append_right (by omega), hf]
    simp
  have htake : (ndT 0 s k (-1)).take (fnodes k) = ndF 0 k ((0 + fnodes k : Nat) : Int) := by
    unfold ndT
    rw [List.take_append_of_le_length (by omega), List.take_of_length_le (by omega)]
  unfold growP
  rw [hl, hlast]
  simp only
  rw [htake, hlen]
  obtain ⟨G', h1, h2, h3⟩ := grows_ndF (fnodes k + 1) k 0 (0 + fnodes k) [] (fun _ => []) (Nat.le_refl _) (by omega) (fun _ _ _ => rfl)
  rw [List.append_nil] at h1
  rw [h1, grows]
  simp only [Option.map_some]
  rw [show fnodes k = 0 + fnodes k by omega, h2]
  simp [toFo_gs]

end Go.Proofs.Ytpgiagkbfnbgkab
