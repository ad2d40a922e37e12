/- The nodes of a tree in order: lists of nodes alone. Of no program. -/
/- The tree that the parents of nodes tell: of lists alone. Of no program. -/
/- Rows of memory of whatever width that a call owns: what grows, what stays. Of no program. -/
/- What the loop of order.grow keeps: rows of trees, one for each node that is still to come. Of no program. -/
import Derived.Test.YtafojlockiekfaaFo2
import Derived.Test.YtafojlockiekfaaOwnInv
import Derived.Test.YtafojlockiekfaaWalkInv
import Derived.WalkSmall
import Derived.Test.YtafojlockiekfaaKInv
namespace Go.Proofs.Ytafojlockiekfaa
open Go.Deep Go.RowKit
set_option linter.unusedVariables false
set_option maxRecDepth 20000

/-- A node: its label, its parent's number, the lowest number beneath it. -/
structure Nd where
  lab : ByteArray
  par : Int
  left : Int
deriving DecidableEq
def ndCell (x : Nd) : List Value := [.string x.lab, .int .i64 x.par, .int .i64 x.left]
def ndCells : List Nd → List Value
  | [] => []
  | x :: l => ndCell x ++ ndCells l
theorem ndCells_length : ∀ l : List Nd, (ndCells l).length = l.length * 3
  | [] => rfl
  | a :: l => by simp [ndCells, ndCell, ndCells_length l]; omega
theorem ndCells_append : ∀ l m : List Nd, ndCells (l ++ m) = ndCells l ++ ndCells m
  | [], m => rfl
  | a :: l, m => by simp [ndCells, ndCells_append l m]
theorem ndCells_at : ∀ (l : List Nd) (i : Nat) (x : Nd), l[i]? = some x → (ndCells l)[i * 3]? = some (.string x.lab) ∧ (ndCells l)[i * 3 + 1]? = some (.int .i64 x.par) ∧ (ndCells l)[i * 3 + 2]? = some (.int .i64 x.left)
  | [], i, x, h => by simp at h
  | a :: l, 0, x, h => by
    have : a = x := by simpa using h
    subst this
    simp [ndCells, ndCell]
  | a :: l, i + 1, x, h => by
    have := ndCells_at l i x (by simpa using h)
    rw [show (i + 1) * 3 = i * 3 + 3 by omega]
    simpa [ndCells, ndCell] using this
/-- One node's parent is another one. -/
def setPar : List Nd → Nat → Int → List Nd
  | [], _, _ => []
  | a :: l, 0, p => { a with par := p } :: l
  | a :: l, i + 1, p => a :: setPar l i p
theorem setPar_length : ∀ (l : List Nd) (i : Nat) (p : Int), (setPar l i p).length = l.length
  | [], _, _ => rfl
  | a :: l, 0, p => rfl
  | a :: l, i + 1, p => by simp [setPar, setPar_length l i p]
theorem ndCells_set : ∀ (l : List Nd) (i : Nat) (p : Int), i < l.length → (ndCells l).set (i * 3 + 1) (.int .i64 p) = ndCells (setPar l i p)
  | [], _, _, h => by simp at h
  | a :: l, 0, p, _ => by simp [ndCells, ndCell, setPar]
  | a :: l, i + 1, p, h => by
    have := ndCells_set l i p (by simpa using h)
    rw [show (i + 1) * 3 + 1 = i * 3 + 1 + 3 by omega]
    simp [ndCells, ndCell, setPar, this]
theorem setPar_append : ∀ (l m : List Nd) (i : Nat) (p : Int), setPar (l ++ m) (l.length + i) p = l ++ setPar m i p
  | [], m, i, p => by simp
  | a :: l, m, i, p => by
    have := setPar_append l m i p
    rw [show (a :: l).length + i = (l.length + i) + 1 by simp; omega]
    simp [setPar, this]

/-- The nodes of a forest behind so many others, whose roots' parent is told. -/
def ndF : Nat → Fo → Int → List Nd
  | _, .nil, _ => []
  | b, .node _ _ x k r, p => ndF b k ((b + fnodes k : Nat) : Int) ++ (⟨x.1, p, (b : Int)⟩ :: ndF (b + fnodes k + 1) r p)
def ndT (b : Nat) (s : ByteArray) (k : Fo) (p : Int) : List Nd := ndF b k ((b + fnodes k : Nat) : Int) ++ [⟨s, p, (b : Int)⟩]
/-- The numbers of the roots of a forest behind so many others. -/
def roots : Nat → Fo → List Nat
  | _, .nil => []
  | b, .node _ _ x k r => (b + fnodes k) :: roots (b + fnodes k + 1) r
theorem ndF_length : ∀ (k : Fo) (b : Nat) (p : Int), (ndF b k p).length = fnodes k
  | .nil, _, _ => rfl
  | .node _ _ x k r, b, p => by simp [ndF, fnodes, ndF_length k, ndF_length r]; omega
theorem ndT_length (b : Nat) (s : ByteArray) (k : Fo) (p : Int) : (ndT b s k p).length = fnodes k + 1 := by simp [ndT, ndF_length]
theorem roots_length : ∀ (k : Fo) (b : Nat), (roots b k).length = flen k
  | .nil, _ => rfl
  | .node _ _ x k r, b => by simp [roots, flen, roots_length r]
theorem roots_lt : ∀ (k : Fo) (b i : Nat), i ∈ roots b k → i < b + fnodes k
  | .nil, _, _, h => by simp [roots] at h
  | .node _ _ x k r, b, i, h => by
    simp only [roots, List.mem_cons] at h
    simp only [fnodes]
    rcases h with rfl | h
    · omega
    · have := roots_lt r _ i h
      omega
theorem ndF_strip : ∀ (k : Fo) (b : Nat) (p : Int), ndF b (strip k) p = ndF b k p
  | .nil, _, _ => rfl
  | .node _ _ x k r, b, p => by simp [ndF, strip, fnodes_strip, ndF_strip k, ndF_strip r]
theorem ndT_strip (b : Nat) (s : ByteArray) (k : Fo) (p : Int) : ndT b s (strip k) p = ndT b s k p := by
  unfold ndT
  rw [ndF_strip, fnodes_strip]

def setPars : List Nd → List Nat → Int → List Nd
  | l, [], _ => l
  | l, i :: is, p => setPars (setPar l i p) is p
/-- The roots' parents are set, one behind the other. -/
theorem setPars_roots : ∀ (k : Fo) (l : List Nd) (q p : Int), setPars (l ++ ndF l.length k q) (roots l.length k) p = l ++ ndF l.length k p
  | .nil, l, q, p => rfl
  | .node _ _ x k r, l, q, p => by
    simp only [ndF, roots, setPars]
    have e1 : l.length + fnodes k = l.length + (ndF l.length k ((l.length + fnodes k : Nat) : Int)).length := by rw [ndF_length]
    have e2 : setPar (l ++ (ndF l.length k ((l.length + fnodes k : Nat) : Int) ++ ⟨x.1, q, (l.length : Int)⟩ :: ndF (l.length + fnodes k + 1) r q)) (l.length + fnodes k) p = (l ++ ndF l.length k ((l.length + fnodes k : Nat) : Int) ++ [⟨x.1, p, (l.length : Int)⟩]) ++ ndF (l.length + fnodes k + 1) r q := by
      have := setPar_append (l ++ ndF l.length k ((l.length + fnodes k : Nat) : Int)) (⟨x.1, q, (l.length : Int)⟩ :: ndF (l.length + fnodes k + 1) r q) 0 p
      rw [List.length_append, ndF_length] at this
      rw [← List.append_assoc]
      refine Eq.trans this ?_
      simp [setPar]
    rw [e2]
    have hl : (l ++ ndF l.length k ((l.length + fnodes k : Nat) : Int) ++ [(⟨x.1, p, (l.length : Int)⟩ : Nd)]).length = l.length + fnodes k + 1 := by simp [ndF_length]; omega
    have := setPars_roots r (l ++ ndF l.length k ((l.length + fnodes k : Nat) : Int) ++ [⟨x.1, p, (l.length : Int)⟩]) q p
    rw [hl] at this
    rw [this]
    simp

/-- The loop's steps: the nodes of the kids as far as j, and then one more. -/
theorem ndF_step {k : Fo} {j b' o' : Nat} {x : ByteArray × Option Addr × Nat} {kk : Fo} (h : fdrop j k = .node b' o' x kk (fdrop (j + 1) k)) (b : Nat) (p : Int) : ndF b (fdrop j k) p = ndT b x.1 kk p ++ ndF (b + fnodes kk + 1) (fdrop (j + 1) k) p := by
  rw [h]
  simp [ndF, ndT]
theorem roots_step {k : Fo} {j b' o' : Nat} {x : ByteArray × Option Addr × Nat} {kk : Fo} (h : fdrop j k = .node b' o' x kk (fdrop (j + 1) k)) (b : Nat) : roots b (fdrop j k) = (b + fnodes kk) :: roots (b + fnodes kk + 1) (fdrop (j + 1) k) := by
  rw [h]
  simp [roots]

end Go.Proofs.Ytafojlockiekfaa
namespace Go.Proofs.Ytafojlockiekfaa
open Go.Deep Go.RowKit
set_option linter.unusedVariables false
set_option maxRecDepth 20000

/-- Trees without addresses, one behind the other. -/
abbrev Gs := List (ByteArray × Fo)
def toFo : Gs → Fo
  | [] => .nil
  | x :: l => .node 0 0 (x.1, none, 0) x.2 (toFo l)
def gsF : Fo → Gs
  | .nil => []
  | .node _ _ x k r => (x.1, strip k) :: gsF r
theorem toFo_gs : ∀ k : Fo, toFo (gsF k) = strip k
  | .nil => rfl
  | .node _ _ x k r => by simp [gsF, toFo, strip, toFo_gs r]
def upd (G : Nat → Gs) (p : Nat) (f : Gs) : Nat → Gs := fun m => if m = p then f else G m

/-- The steps of grow, from node i on. -/
def grows (n : Nat) : List Nd → Nat → (Nat → Gs) → Option (Nat → Gs)
  | [], _, G => some G
  | x :: l, i, G => if x.par ≤ (i : Int) ∨ (n : Int) ≤ x.par then none else grows n l (i + 1) (upd G x.par.toNat (G x.par.toNat ++ [(x.lab, toFo (G i))]))
def growP (L : List Nd) : Option (ByteArray × Fo) :=
  match L[L.length - 1]? with
  | none => none
  | some x => (grows L.length (L.take (L.length - 1)) 0 fun _ => []).map fun G => (x.lab, toFo (G (L.length - 1)))

theorem grows_ndF (n : Nat) : ∀ (k : Fo) (b p : Nat) (rest : List Nd) (G : Nat → Gs), b + fnodes k ≤ p → p < n → (∀ m, b ≤ m → m < b + fnodes k → G m = []) →
    ∃ G', grows n (ndF b k (p : Int) ++ rest) b G = grows n rest (b + fnodes k) G' ∧ G' p = G p ++ gsF k ∧ ∀ m, b + fnodes k ≤ m → m ≠ p → G' m = G m
  | .nil, b, p, rest, G, _, _, _ => ⟨G, rfl, by simp [gsF], fun _ _ _ => rfl⟩
  | .node b9 o9 x k r, b, p, rest, G, hp, hn, hG => by
    simp only [fnodes] at hp hG ⊢
    obtain ⟨G1, h1, h2, h3⟩ := grows_ndF n k b (b + fnodes k) (⟨x.1, (p : Int), (b : Int)⟩ :: (ndF (b + fnodes k + 1) r (p : Int) ++ rest)) G (Nat.le_refl _) (by omega) (fun m hm1 hm2 => hG m hm1 (by omega))
    have e1 : ndF b (.node b9 o9 x k r) (p : Int) ++ rest = ndF b k ((b + fnodes k : Nat) : Int) ++ (⟨x.1, (p : Int), (b : Int)⟩ :: (ndF (b + fnodes k + 1) r (p : Int) ++ rest)) := by simp [ndF]
    rw [e1, h1]
    have hi : G1 (b + fnodes k) = gsF k := by rw [h2, hG _ (by omega) (by omega)]; rfl
    have hpp : G1 p = G p := h3 p (by omega) (by omega)
    rw [grows, if_neg (by simp only [not_or]; omega), hi, toFo_gs]
    simp only [Int.toNat_natCast]
    obtain ⟨G2, g1, g2, g3⟩ := grows_ndF n r (b + fnodes k + 1) p rest (upd G1 p (G1 p ++ [(x.1, strip k)])) (by omega) hn (fun m hm1 hm2 => by
      unfold upd
      rw [if_neg (by omega), h3 m (by omega) (by omega)]
      exact hG m (by omega) (by omega))
    refine ⟨G2, ?_, ?_, ?_⟩
    · rw [g1, show b + fnodes k + 1 + fnodes r = b + (fnodes k + fnodes r + 1) by omega]
    · rw [g2]
      simp [upd, hpp, gsF]
    · intro m hm1 hm2
      rw [g3 m (by omega) hm2]
      unfold upd
      rw [if_neg hm2]
      exact h3 m (by omega) (by omega)

/-- Of a tree's nodes it is that tree. -/
theorem growP_ndT (s : ByteArray) (k : Fo) : growP (ndT 0 s k (-1)) = some (s, strip k) := by
  have hl : (ndT 0 s k (-1)).length - 1 = fnodes k := by rw [ndT_length]; omega
  have hlen : (ndT 0 s k (-1)).length = fnodes k + 1 := ndT_length _ _ _ _
  have hf : (ndF 0 k ((0 + fnodes k : Nat) : Int)).length = fnodes k := ndF_length _ _ _
  have hlast : (ndT 0 s k (-1))[fnodes k]? = some ⟨s, -1, ((0 : Nat) : Int)⟩ := by
    unfold ndT
    rw [List.getElem?_append_right (by omega), hf]
    simp
  have htake : (ndT 0 s k (-1)).take (fnodes k) = ndF 0 k ((0 + fnodes k : Nat) : Int) := by
    unfold ndT
    rw [List.take_append_of_le_length (by omega), List.take_of_length_le (by omega)]
  unfold growP
  rw [hl, hlast]
  simp only
  rw [htake, hlen]
  obtain ⟨G', h1, h2, h3⟩ := grows_ndF (fnodes k + 1) k 0 (0 + fnodes k) [] (fun _ => []) (Nat.le_refl _) (by omega) (fun _ _ _ => rfl)
  rw [List.append_nil] at h1
  rw [h1, grows]
  simp only [Option.map_some]
  rw [show fnodes k = 0 + fnodes k by omega, h2]
  simp [toFo_gs]

end Go.Proofs.Ytafojlockiekfaa
namespace Go.Proofs.Ytafojlockiekfaa
open Go.Deep Go.RowKit
set_option linter.unusedVariables false
set_option maxRecDepth 20000

theorem grownBy_of_below {a b : World} (h : Below a.heap.size a b) (r : Option Nat) : a.grownBy b r := ⟨h.os, h.tape, h.output, h.size, fun k hk _ => h.block k hk⟩
theorem grownBy_refl (a : World) (r : Option Nat) : a.grownBy a r := grownBy_of_below (Below.refl _ _) r
theorem grownBy_trans {a b c : World} {r r' : Option Nat} (h : a.grownBy b r) (h' : b.grownBy c r') (hr : r' = r ∨ ∀ g, r' = some g → a.heap.size ≤ g) : a.grownBy c r :=
  ⟨h'.os.trans h.os, h'.tape.trans h.tape, h'.output.trans h.output, Nat.le_trans h.size h'.size, fun k hk hn => by
    rw [h'.block k (Nat.lt_of_lt_of_le hk h.size) (fun e => by
      rcases hr with hr | hr
      · exact hn (e.trans hr)
      · have := hr k e.symm
        omega)]
    exact h.block k hk hn⟩
theorem ownsN_block {w w' : World} {B T sz n : Nat} {v : Value} {xs : List Value} (h : w.ownsRow B T sz v n xs) (hb : ∀ g, v.ownBlock = some g → w'.heap[g]? = w.heap[g]?) : w'.ownsRow B T sz v n xs := by
  obtain ⟨h1, h2⟩ := h
  refine ⟨h1, ?_⟩
  rcases h2 with h2 | ⟨g, cap, cur, hv, hg, hh, r⟩
  · exact Or.inl h2
  · exact Or.inr ⟨g, cap, cur, hv, hg, by rw [hb g (by rw [hv]; rfl)]; exact hh, r⟩
theorem ownBlockN_lt {w : World} {B T sz n g : Nat} {v : Value} {xs : List Value} (h : w.ownsRow B T sz v n xs) (hg : v.ownBlock = some g) : B ≤ g ∧ g < w.heap.size := by
  rcases h.2 with ⟨h2, _⟩ | ⟨g', cap, cur, hv, hb, hh, r⟩
  · subst h2; cases hg
  · subst hv
    simp only [Value.ownBlock, Option.some.injEq] at hg
    subst hg
    refine ⟨hb, ?_⟩
    rcases Nat.lt_or_ge g' w.heap.size with h | h
    · exact h
    · rw [Array.getElem?_eq_none h] at hh; cases hh
theorem ownsN_below {w w' : World} {B T sz n : Nat} {v : Value} {xs : List Value} (h : w.ownsRow B T sz v n xs) (hb : Below w.heap.size w w') : w'.ownsRow B T sz v n xs :=
  ownsN_block h fun g hg => hb.block g (ownBlockN_lt h hg).2
/-- Another row has grown; this one is none of it. -/
theorem ownsN_grown {w w' : World} {B T sz n : Nat} {v : Value} {xs : List Value} {r : Option Nat} (h : w.ownsRow B T sz v n xs) (hg : w.grownBy w' r) (hr : ∀ g, v.ownBlock = some g → r ≠ some g) : w'.ownsRow B T sz v n xs :=
  ownsN_block h fun g hg' => hg.block g (ownBlockN_lt h hg').2 (fun e => hr g hg' e.symm)
theorem ownsN_form {w : World} {B T sz n : Nat} {v : Value} {xs : List Value} (h : w.ownsRow B T sz v n xs) : ∃ va vc, v = .slice va n vc ∧ n ≤ vc ∧ vc ≤ maxLen := by
  rcases h.2 with ⟨h2, h0⟩ | ⟨g', cap, cur, hv, hb, hh, h1, h2, _⟩
  · exact ⟨none, 0, by rw [h2, h0], by omega, by unfold maxLen; omega⟩
  · exact ⟨_, cap, hv, h1, h2⟩
theorem ownsN_some {w : World} {B T sz n : Nat} {v : Value} {xs : List Value} (h : w.ownsRow B T sz v n xs) (hn : 0 < n) : ∃ g vc, v = .slice (some ⟨g, 0, none⟩) n vc ∧ B ≤ g ∧ g < w.heap.size ∧ n ≤ vc ∧ vc ≤ maxLen := by
  rcases h.2 with ⟨h2, h0⟩ | ⟨g', cap, cur, hv, hb, hh, h1, h2, _⟩
  · omega
  · exact ⟨g', cap, hv, hb, (ownBlockN_lt h (by rw [hv]; rfl)).2, h1, h2⟩
/-- One cell of the row is written. -/
theorem own_setN {w : World} {B T sz n g cap j : Nat} {xs : List Value} (u : Value) (h : w.ownsRow B T sz (.slice (some ⟨g, 0, none⟩) n cap) n xs) (hj : j < n * sz) :
    (w.setCell ⟨g, j, none⟩ u).ownsRow B T sz (.slice (some ⟨g, 0, none⟩) n cap) n (xs.set j u) := by
  refine ⟨by simp [h.1], Or.inr ?_⟩
  rcases h.2 with ⟨h0, _⟩ | ⟨g', cap', cur, hv, hb, hh, h1, h2, h3, h4⟩
  · cases h0
  · simp only [Value.slice.injEq, Option.some.injEq, Addr.mk.injEq] at hv
    obtain ⟨⟨rfl, _, _⟩, _, rfl⟩ := hv
    refine ⟨g, cap, cur.setIfInBounds j u, rfl, hb, ?_, h1, h2, by simp [h3], ?_⟩
    · simp [World.setCell, Array.getElem?_modify, hh]
    · rw [← h4]
      simp [List.take_set]
theorem grownBy_setCell (w : World) (g j : Nat) (u : Value) : w.grownBy (w.setCell ⟨g, j, none⟩ u) (some g) :=
  ⟨rfl, rfl, rfl, by simp [World.setCell], fun k hk hn => by
    have hkg : ¬ g = k := fun e => hn (by rw [e])
    simp [World.setCell, Array.getElem?_modify, hkg]⟩
/-- No cell of such a row is frozen. -/
theorem own_frozen {w : World} {B T sz n g cap : Nat} {xs : List Value} (h : w.ownsRow B T sz (.slice (some ⟨g, 0, none⟩) n cap) n xs) (j : Nat) : w.frozen? ⟨g, j, none⟩ = false := by
  rcases h.2 with ⟨h0, _⟩ | ⟨g', cap', cur, hv, hb, hh, _⟩
  · cases h0
  · simp only [Value.slice.injEq, Option.some.injEq, Addr.mk.injEq] at hv
    obtain ⟨⟨rfl, _, _⟩, _, rfl⟩ := hv
    simp [World.frozen?, hh]

def intCells (l : List Nat) : List Value := l.map fun (n : Nat) => Value.int .i64 (n : Int)
theorem intCells_at {l : List Nat} {i n : Nat} (h : l[i]? = some n) : (intCells l)[i]? = some (.int .i64 (n : Int)) := by simp [intCells, h]

end Go.Proofs.Ytafojlockiekfaa
namespace Go.Proofs.Ytafojlockiekfaa
open Go.Deep Go.RowKit
set_option linter.unusedVariables false
set_option maxRecDepth 20000

theorem place_off {g c : Nat} (hg : g ≠ c) : ∀ (l : List It) (o : Nat), (∀ i, i ∈ l → FOff c i.2.2.2) → FOff c (place g o l)
  | [], _, _ => trivial
  | a :: l, o, h => ⟨hg, h a (by simp), place_off hg l (o + 2) fun i hi => h i (by simp [hi])⟩

def bareIt (it : It) : ByteArray × Fo := (it.1, strip it.2.2.2)
theorem strip_join : ∀ L : List It, strip (joinF L .nil) = toFo (L.map bareIt)
  | [] => rfl
  | a :: l => by simp [joinF, strip, toFo, bareIt, strip_join l]

theorem KInv.done2 {T B : Nat} {wr : World} {v : Value} {L : List It} (h : KInv T B wr v L) :
    ∃ ka cap k', v = .slice ka (flen k') cap ∧ strip k' = toFo (L.map bareIt) ∧ flen k' ≤ cap ∧ cap ≤ maxLen ∧ KIn wr ka k' ∧ FFrom B k' ∧ FPlain wr k' ∧ ∀ c, v.ownBlock ≠ some c → (∀ it, it ∈ L → FOff c it.2.2.2) → FOff c k' := by
  rcases h.row.2 with ⟨hv, hn⟩ | ⟨g, cap, cur, hv, hg, hh, h1, h2, h3, h4⟩
  · have : L = [] := List.eq_nil_of_length_eq_zero hn
    subst this
    exact ⟨none, 0, .nil, by rw [hv]; rfl, rfl, Nat.le_refl _, Nat.zero_le _, Or.inl rfl, trivial, trivial, fun _ _ _ => trivial⟩
  · refine ⟨some ⟨g, 0, none⟩, cap, place g 0 L, by rw [hv, flen_place], by rw [strip_place, strip_join], by rw [flen_place]; exact h1, h2, Or.inr ⟨g, 0, rfl, ?_⟩, place_from hg L 0 fun i hi => (h.each i hi).2.1, place_plain ⟨_, _, hh⟩ L 0 fun i hi => (h.each i hi).2.2.1, ?_⟩
    · have hr := h.row
      rw [hv] at hr
      exact place_in L 0 (fun i hi => (h.each i hi).1) (ownsRow_cell hr)
    · intro c hc ho
      exact place_off (fun e => hc (by rw [hv, ← e]; rfl)) L 0 ho

/-- One block alone has turned, which is none of the row's and of its items'. -/
theorem KInv.but1 {T B c : Nat} {w w' : World} {v : Value} {L : List It} (h : KInv T B w v L) (hc : v.ownBlock ≠ some c) (hoff : ∀ it, it ∈ L → FOff c it.2.2.2) (hb : ∀ b, b < w.heap.size → b ≠ c → w'.heap[b]? = w.heap[b]?) : KInv T B w' v L := by
  refine ⟨fun it hi => ?_, ?_⟩
  · obtain ⟨h1, h2, h3, h4⟩ := h.each it hi
    exact ⟨TIn.but hb (hoff it hi) h1, h2, FPlain.but hb (hoff it hi) h3, h4⟩
  · exact ownsN_block h.row fun g hg => hb g (ownBlockN_lt h.row hg).2 (fun e => hc (by rw [hg, e]))

def updV {α : Type} (f : Nat → α) (p : Nat) (x : α) : Nat → α := fun m => if m = p then x else f m
theorem updV_same {α : Type} (f : Nat → α) (p : Nat) (x : α) : updV f p x p = x := by simp [updV]
theorem updV_other {α : Type} (f : Nat → α) {p m : Nat} (x : α) (h : m ≠ p) : updV f p x m = f m := by simp [updV, h]

structure GInv (T n i g : Nat) (wr : World) (lab : Nat → ByteArray) (vv : Nat → Value) (K : Nat → List It) : Prop where
  arr : ∃ cs : Array Value, wr.heap[g]? = some (.cells cs T (0, 0)) ∧ ∀ m, m < n → cs[m * 2]? = some (.string (lab m)) ∧ cs[m * 2 + 1]? = some (vv m)
  rows : ∀ m, i ≤ m → m < n → KInv T (g + 1) wr (vv m) (K m)
  apart : ∀ m m', i ≤ m → m < n → i ≤ m' → m' < n → m ≠ m' → ∀ b, (vv m).ownBlock = some b → (vv m').ownBlock ≠ some b
  offs : ∀ m m', i ≤ m → m < n → i ≤ m' → m' < n → m ≠ m' → ∀ it, it ∈ K m → ∀ b, (vv m').ownBlock = some b → FOff b it.2.2.2

theorem GInv.cells {T n i g : Nat} {wr : World} {lab : Nat → ByteArray} {vv : Nat → Value} {K : Nat → List It} (h : GInv T n i g wr lab vv K) {m : Nat} (hm : m < n) :
    wr.cell? ⟨g, m * 2, none⟩ = some (.string (lab m)) ∧ wr.cell? ⟨g, m * 2 + 1, none⟩ = some (vv m) ∧ g < wr.heap.size ∧ ∀ o, wr.frozen? ⟨g, o, none⟩ = false := by
  obtain ⟨cs, h1, h2⟩ := h.arr
  refine ⟨by rw [cell_of_row _ _ _ _ _ _ h1]; exact (h2 m hm).1, by rw [cell_of_row _ _ _ _ _ _ h1]; exact (h2 m hm).2, ?_, fun o => by simp [World.frozen?, h1]⟩
  rcases Nat.lt_or_ge g wr.heap.size with h' | h'
  · exact h'
  · rw [Array.getElem?_eq_none h'] at h1; cases h1

theorem GInv.below {T n i g : Nat} {wr w' : World} {lab : Nat → ByteArray} {vv : Nat → Value} {K : Nat → List It} (h : GInv T n i g wr lab vv K) (hb : Below wr.heap.size wr w') : GInv T n i g w' lab vv K := by
  obtain ⟨cs, h1, h2⟩ := h.arr
  have hg : g < wr.heap.size := by
    rcases Nat.lt_or_ge g wr.heap.size with h' | h'
    · exact h'
    · rw [Array.getElem?_eq_none h'] at h1; cases h1
  exact ⟨⟨cs, by rw [hb.block g hg]; exact h1, h2⟩, fun m hm hm' => (h.rows m hm hm').but (g0 := g) (by omega) (fun b hb' _ => hb.block b hb'), h.apart, h.offs⟩

/-- A label is written. -/
theorem GInv.label {T n i g : Nat} {wr : World} {lab : Nat → ByteArray} {vv : Nat → Value} {K : Nat → List It} (h : GInv T n i g wr lab vv K) {j : Nat} (hj : j < n) (x : ByteArray) : GInv T n i g (wr.setCell ⟨g, j * 2, none⟩ (.string x)) (updV lab j x) vv K := by
  obtain ⟨cs, h1, h2⟩ := h.arr
  refine ⟨⟨cs.setIfInBounds (j * 2) (.string x), by simp [World.setCell, Array.getElem?_modify, h1], fun m hm => ?_⟩, fun m hm hm' => (h.rows m hm hm').but (g0 := g) (by omega) (fun b hb' hne => Below.heap_setCell _ _ _ _ hne), h.apart, h.offs⟩
  have hsz : j * 2 < cs.size := by
    have := (h2 j hj).1
    rcases Nat.lt_or_ge (j * 2) cs.size with h' | h'
    · exact h'
    · rw [Array.getElem?_eq_none h'] at this; cases this
  rw [Array.getElem?_setIfInBounds, Array.getElem?_setIfInBounds]
  rw [if_neg (show ¬ j * 2 = m * 2 + 1 by omega)]
  by_cases hmj : m = j
  · subst hmj
    rw [if_pos rfl, if_pos hsz, updV_same]
    exact ⟨rfl, (h2 m hm).2⟩
  · rw [if_neg (by omega), updV_other _ _ hmj]
    exact h2 m hm

/-- A tree more stands beneath its parent; its own row is no more one of the rows. -/
theorem GInv.push {T n i g p : Nat} {w w3 : World} {lab : Nat → ByteArray} {vv : Nat → Value} {K : Nat → List It} (h : GInv T n i g w lab vv K) (hip : i < p) (hp : p < n) (hls : (lab i).size ≤ maxLen) {ob : Obj} {g' cap2 : Nat} {ka : Option Addr} {cap : Nat} {k' : Fo}
    (hvi : vv i = .slice ka (flen k') cap) (hl : flen k' ≤ cap) (hc : cap ≤ maxLen) (hk : KIn w ka k') (hfr : FFrom (g + 1) k') (hpl : FPlain w k') (hoffk : ∀ c, (vv i).ownBlock ≠ some c → (∀ it, it ∈ K i → FOff c it.2.2.2) → FOff c k')
    (hown : w3.ownsRow (g + 1) T 2 (.slice (some ⟨g', 0, none⟩) ((K p).length + 1) cap2) ((K p).length + 1) (rowCells (K p) ++ itCells (lab i, ka, cap, k'))) (hgrow : (w.alloc ob).grownBy w3 (vv p).ownBlock) (hat : (vv p).ownBlock = some g' ∨ g' = w.heap.size + 1) :
    GInv T n (i + 1) g (w3.setCell ⟨g, p * 2 + 1, none⟩ (.slice (some ⟨g', 0, none⟩) ((K p).length + 1) cap2)) lab (updV vv p (.slice (some ⟨g', 0, none⟩) ((K p).length + 1) cap2)) (updV K p (K p ++ [(lab i, ka, cap, k')])) := by
  obtain ⟨cs, h1, h2⟩ := h.arr
  have hg : g < w.heap.size := (h.cells hp).2.2.1
  have hrow := fun m (hm : i ≤ m) (hm' : m < n) => h.rows m hm hm'
  have own_lt : ∀ m, i ≤ m → m < n → ∀ b, (vv m).ownBlock = some b → g + 1 ≤ b ∧ b < w.heap.size := fun m hm hm' b hb => ownBlockN_lt (hrow m hm hm').row hb
  have hsame : ∀ b, b < w.heap.size → some b ≠ (vv p).ownBlock → w3.heap[b]? = w.heap[b]? := fun b hlt hne => by
    rw [hgrow.block b (by simp; omega) hne, Below.heap_alloc _ _ _ hlt]
  have hT : TIn w (lab i) ka cap k' := ⟨hls, hl, hc, hk⟩
  have hoffp : ∀ g0, (vv p).ownBlock = some g0 → FOff g0 k' := fun g0 hg0 =>
    hoffk g0 (fun e => h.apart i p (Nat.le_refl _) (by omega) (by omega) hp (by omega) g0 e hg0) (fun it hit => h.offs i p (Nat.le_refl _) (by omega) (by omega) hp (by omega) it hit g0 hg0)
  have hKp := (hrow p (by omega) hp).step hT hpl hfr hoffp hown hgrow hat
  have hg3 : w3.heap[g]? = some (.cells cs T (0, 0)) := by
    rw [hsame g hg (fun e => by have := (own_lt p (by omega) hp g e.symm).1; omega)]
    exact h1
  have setO : ∀ b, b ≠ g → (w3.setCell ⟨g, p * 2 + 1, none⟩ (.slice (some ⟨g', 0, none⟩) ((K p).length + 1) cap2)).heap[b]? = w3.heap[b]? := fun b hb => Below.heap_setCell _ _ _ _ hb
  have hoffm : ∀ m, i + 1 ≤ m → m < n → m ≠ p → ∀ it, it ∈ K m → FOff g' it.2.2.2 := fun m hm hm' hmp it hit => by
    rcases hat with e | e
    · exact h.offs m p (by omega) hm' (by omega) hp hmp it hit g' e
    · exact ((hrow m (by omega) hm').each it hit).1.kids.off (by omega)
  refine ⟨⟨cs.setIfInBounds (p * 2 + 1) (.slice (some ⟨g', 0, none⟩) ((K p).length + 1) cap2), by simp [World.setCell, Array.getElem?_modify, hg3], fun m hm => ?_⟩, fun m hm hm' => ?_, fun m m' hm hm2 hm' hm2' hne b hb => ?_, fun m m' hm hm2 hm' hm2' hne it hit b hb => ?_⟩
  · have hsz : p * 2 + 1 < cs.size := by
      have := (h2 p hp).2
      rcases Nat.lt_or_ge (p * 2 + 1) cs.size with h' | h'
      · exact h'
      · rw [Array.getElem?_eq_none h'] at this; cases this
    rw [Array.getElem?_setIfInBounds, Array.getElem?_setIfInBounds]
    rw [if_neg (show ¬ p * 2 + 1 = m * 2 by omega)]
    by_cases hmp : m = p
    · subst hmp
      rw [if_pos rfl, if_pos hsz, updV_same]
      exact ⟨(h2 m hm).1, rfl⟩
    · rw [if_neg (by omega), updV_other _ _ hmp]
      exact h2 m hm
  · by_cases hmp : m = p
    · subst hmp
      rw [updV_same, updV_same]
      exact hKp.but (g0 := g) (by omega) (fun b _ hb => setO b hb)
    · rw [updV_other _ _ hmp, updV_other _ _ hmp]
      have hk3 : KInv T (g + 1) w3 (vv m) (K m) := by
        cases hvp : (vv p).ownBlock with
        | none => exact (hrow m (by omega) hm').but1 (c := w.heap.size) (fun e => by have := (own_lt m (by omega) hm' _ e).2; omega) (fun it hit => ((hrow m (by omega) hm').each it hit).1.kids.off (Nat.le_refl _)) (fun b hb _ => hsame b hb (by rw [hvp]; simp))
        | some c => exact (hrow m (by omega) hm').but1 (c := c) (fun e => h.apart m p (by omega) hm' (by omega) hp hmp c e hvp) (fun it hit => h.offs m p (by omega) hm' (by omega) hp hmp it hit c hvp) (fun b hb hne => hsame b hb (by rw [hvp]; simpa using hne))
      exact hk3.but (g0 := g) (by omega) (fun b _ hb => setO b hb)
  · intro hb'
    by_cases hmp : m = p
    · subst hmp
      rw [updV_same] at hb
      rw [updV_other _ _ (Ne.symm hne)] at hb'
      simp only [Value.ownBlock, Option.some.injEq] at hb
      subst hb
      rcases hat with e | e
      · exact h.apart m m' (by omega) hm2 (by omega) hm2' hne _ e hb'
      · have := (own_lt m' (by omega) hm2' _ hb').2
        omega
    · rw [updV_other _ _ hmp] at hb
      by_cases hmp' : m' = p
      · subst hmp'
        rw [updV_same] at hb'
        simp only [Value.ownBlock, Option.some.injEq] at hb'
        subst hb'
        rcases hat with e | e
        · exact h.apart m m' (by omega) hm2 (by omega) hm2' hne _ hb e
        · have := (own_lt m (by omega) hm2 _ hb).2
          omega
      · rw [updV_other _ _ hmp'] at hb'
        exact h.apart m m' (by omega) hm2 (by omega) hm2' hne b hb hb'
  · by_cases hmp' : m' = p
    · subst hmp'
      rw [updV_same] at hb
      rw [updV_other _ _ hne] at hit
      simp only [Value.ownBlock, Option.some.injEq] at hb
      subst hb
      exact hoffm m hm hm2 hne it hit
    · rw [updV_other _ _ hmp'] at hb
      by_cases hmp : m = p
      · subst hmp
        rw [updV_same] at hit
        rcases List.mem_append.1 hit with hit | hit
        · exact h.offs m m' (by omega) hm2 (by omega) hm2' hne it hit b hb
        · have : it = (lab i, ka, cap, k') := by simpa using hit
          subst this
          exact hoffk b (fun e => h.apart i m' (Nat.le_refl _) (by omega) (by omega) hm2' (by omega) b e hb) (fun it hit => h.offs i m' (Nat.le_refl _) (by omega) (by omega) hm2' (by omega) it hit b hb)
      · rw [updV_other _ _ hmp] at hit
        exact h.offs m m' (by omega) hm2 (by omega) hm2' hne it hit b hb

end Go.Proofs.Ytafojlockiekfaa
