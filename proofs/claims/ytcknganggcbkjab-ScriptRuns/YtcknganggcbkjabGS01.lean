/- tree.comesBack of a way whose lists are all others answers false. Of the program's text. -/
/- What the loop of a walk through a tree, with its way down kept in a list, keeps. Of no program. -/
/- Rows of memory of whatever width that a call owns: what grows, what stays. Of no program. -/
import Derived.Test.YtcknganggcbkjabProg
import Derived.Test.YtcknganggcbkjabGS00
import Derived.Test.YtcknganggcbkjabBits
import Derived.WalkSpells
import Derived.Deep.QuietTactic
import Derived.BigQuiet
import Derived.WalkSmall
import Derived.LaidEqlPtr
import Derived.Test.YtcknganggcbkjabZOwnInv
namespace Go.Proofs.Ytcknganggcbkjab
open Go.Deep Go.RowKit
set_option linter.unusedVariables false
set_option maxRecDepth 20000

/-- A step of a way: the list's first place, length and capacity, the number that comes next. -/
abbrev St := Addr × Nat × Nat × Nat
def stCells (s : St) : List Value := [.slice (some s.1) s.2.1 s.2.2.1, .int .i64 s.2.2.2]
def wayCells : List St → List Value
  | [] => []
  | s :: l => stCells s ++ wayCells l

theorem wayCells_length : ∀ l : List St, (wayCells l).length = l.length * 2
  | [] => rfl
  | a :: l => by simp [wayCells, stCells, wayCells_length l]; omega
theorem wayCells_append : ∀ (l : List St) (s : St), wayCells (l ++ [s]) = wayCells l ++ stCells s
  | [], s => by simp [wayCells]
  | a :: l, s => by simp [wayCells, wayCells_append l s]
theorem wayCells_at : ∀ (l : List St) (i : Nat) (s : St), l[i]? = some s → (wayCells l)[i * 2]? = some (.slice (some s.1) s.2.1 s.2.2.1) ∧ (wayCells l)[i * 2 + 1]? = some (.int .i64 s.2.2.2)
  | [], i, s, h => by simp at h
  | a :: l, 0, s, h => by
    have : a = s := by simpa using h
    subst this
    simp [wayCells, stCells]
  | a :: l, i + 1, s, h => by
    have := wayCells_at l i s (by simpa using h)
    rw [show (i + 1) * 2 = i * 2 + 2 by omega]
    simpa [wayCells, stCells] using this

theorem Try.infoTree' : (Try.prog.info? 24).map (fun i => (i.zero, i.size, i.bytes)) = some (some (.agg #[.string ⟨#[]⟩, .slice none 0 0]), 2, 40) := by kernel_rfl

set_option maxHeartbeats 400000 in
theorem back_any (l : List St) (g cap : Nat) (w : World) (hl : l.length ≤ 256) (h0 : 0 < l.length) (hc : l.length ≤ cap) (hcell : ∀ j u, (wayCells l)[j]? = some u → w.cell? ⟨g, 0 + j, none⟩ = some u)
    (hplain : ∀ s, s ∈ l → BPlain w s.1.block) (hpos : ∀ s, s ∈ l → 0 < s.2.1) (hcap : ∀ s, s ∈ l → s.2.1 ≤ s.2.2.1 ∧ s.2.2.1 ≤ maxLen)
    (hdiff : ∀ (i j : Nat) (s t : St), i < j → l[i]? = some s → l[j]? = some t → ¬ (s.2.1 = t.2.1 ∧ s.1 = t.1)) :
    Calls Try.prog 89 #[.slice (some ⟨g, 0, none⟩) l.length cap] w fun e w' => e = .returned (.bool false) ∧ Below w.heap.size w w' := by
  by_cases h3 : l.length < 3
  · go_enter Try.func89, Try.ntmps89
    go_wp2_with fail
    go_ret
    exact ⟨rfl, Below.refl _ _⟩
  · obtain ⟨q, hq⟩ : ∃ q, l.length = q + 2 := ⟨l.length - 2, by omega⟩
    rw [hq]
    have HQ := hide hq
    have hq1 : 1 ≤ q := by omega
    have hq2 : q ≤ 254 := by omega
    clear hq h3
    obtain ⟨L1, L8, L2⟩ := bitLen_bd' q (by omega) (by omega)
    go_enter Try.func89, Try.ntmps89
    go_wp2_with fail
    rw [show ((q : Int) + 2 - 1 - 1) = (q : Int) by omega, show ((q : Int) + 2 - 1) = ((q + 1 : Nat) : Int) by omega]
    refine (len_any (q : Int) _ (by omega) (by omega)).mono ?_
    rintro e w1 ⟨rfl, rfl⟩
    rw [Int.toNat_natCast]
    obtain ⟨m, hm⟩ : ∃ m, Lib.bitLen q = m + 1 := ⟨Lib.bitLen q - 1, by omega⟩
    rw [hm] at L2 L8 ⊢
    have hm7 : m ≤ 7 := by omega
    have hmq : 2 ^ m ≤ q := by simpa using L2
    clear L1 L2 L8 hm
    rw [show (((m + 1 : Nat) : Int)) = (m : Int) + 1 by omega]
    go_wp2_with fail
    obtain ⟨M, hM, hM1, hM2⟩ : ∃ M : Nat, wrap64 (2 ^ m) = (M : Int) ∧ 1 ≤ M ∧ M ≤ q := by
      refine ⟨2 ^ m, ?_, Nat.one_le_two_pow, hmq⟩
      have e : ((2 : Int) ^ m) = ((2 ^ m : Nat) : Int) := by simp
      rw [e]
      generalize (2 : Nat) ^ m = f at *
      unfold wrap64
      omega
    rw [hM]
    clear hM hmq hm7
    obtain ⟨x, hx⟩ : ∃ x, l[M]? = some x := ⟨_, List.getElem?_eq_getElem (by have := HQ.out; omega)⟩
    obtain ⟨y, hy⟩ : ∃ y, l[q + 1]? = some y := ⟨_, List.getElem?_eq_getElem (by have := HQ.out; omega)⟩
    have hd := hdiff M (q + 1) x y (by omega) hx hy
    have px := hpos x (List.mem_of_getElem? hx)
    have py := hpos y (List.mem_of_getElem? hy)
    obtain ⟨cx, mx⟩ := hcap x (List.mem_of_getElem? hx)
    obtain ⟨cy, my⟩ := hcap y (List.mem_of_getElem? hy)
    have hcx : w1.cell? ⟨g, M * 2, none⟩ = some (.slice (some x.1) x.2.1 x.2.2.1) := by simpa using hcell _ _ (wayCells_at l M x hx).1
    have hcy : w1.cell? ⟨g, (q + 1) * 2, none⟩ = some (.slice (some y.1) y.2.1 y.2.2.1) := by simpa using hcell _ _ (wayCells_at l (q + 1) y hy).1
    have bx := hplain x (List.mem_of_getElem? hx)
    have bY := hplain y (List.mem_of_getElem? hy)
    obtain ⟨xa, xl, xc, xn⟩ := x
    obtain ⟨ya, yl, yc, yn⟩ := y
    simp only at hd px py cx cy mx my hcx hcy bx bY
    unfold maxLen at mx my
    have HD := hide hd
    clear hd hx hy hdiff hcell hpos hcap hplain
    by_cases hlen : xl = yl
    · have he : ((xl : Int) == (yl : Int)) = true := by rw [hlen]; simp
      have hne : ¬ xa = ya := fun e => HD.out ⟨hlen, e⟩
      have hpe : ∀ n, (binOp .eql 83 (.pointer (some xa)) (.pointer (some ya))).run Try.prog (w1.drewN n) = .ok (.bool false) (w1.drewN n) := fun n => by
        obtain ⟨i24, hi24, hz0, hz1, hz2⟩ := info_parts Try.infoTree'
        obtain ⟨c1, e1, b1⟩ := bx
        obtain ⟨c2, e2, b2⟩ := bY
        exact run_eql_ptr_other _ Try.underlying83 hi24 (by rw [hz1]; decide) hne b1 b2
      clear hlen hne bx bY
      go_quiet (fail)
      go_wp2_with fail
      go_quiet (fail)
      go_wp2_with fail
      go_ret
      exact ⟨rfl, below_drewN (below_drewN (Below.refl _ _) _) _⟩
    · have he : ((xl : Int) == (yl : Int)) = false := beq_eq_false_iff_ne.2 (by omega)
      clear hlen bx bY
      go_quiet (fail)
      go_wp2_with fail
      go_quiet (fail)
      go_wp2_with fail
      go_ret
      exact ⟨rfl, below_drewN (below_drewN (Below.refl _ _) _) _⟩

end Go.Proofs.Ytcknganggcbkjab
namespace Go.Proofs.Ytcknganggcbkjab
open Go.Deep Go.RowKit
set_option linter.unusedVariables false
set_option maxRecDepth 20000

/-- All blocks that were there are as they were, but those of C. -/
structure Keeps (C : List Nat) (w w' : World) : Prop where
  os : w'.os = w.os
  tape : w'.tape = w.tape
  output : w'.output = w.output
  size : w.heap.size ≤ w'.heap.size
  block : ∀ b, b < w.heap.size → ¬ b ∈ C → w'.heap[b]? = w.heap[b]?

theorem Keeps.refl (C : List Nat) (w : World) : Keeps C w w := ⟨rfl, rfl, rfl, Nat.le_refl _, fun _ _ _ => rfl⟩
theorem Keeps.trans {C : List Nat} {a b c : World} (h : Keeps C a b) (k : Keeps C b c) : Keeps C a c :=
  ⟨k.os.trans h.os, k.tape.trans h.tape, k.output.trans h.output, Nat.le_trans h.size k.size, fun i hi hn => (k.block i (Nat.lt_of_lt_of_le hi h.size) hn).trans (h.block i hi hn)⟩
theorem Keeps.of_below {C : List Nat} {w w' : World} (h : Below w.heap.size w w') : Keeps C w w' := ⟨h.os, h.tape, h.output, h.size, fun b hb _ => h.block b hb⟩
/-- What comes behind w and turns nothing of w's blocks is kept. -/
theorem Keeps.below {C : List Nat} {w a b : World} (h : Keeps C w a) (k : Below w.heap.size a b) : Keeps C w b :=
  ⟨k.os.trans h.os, k.tape.trans h.tape, k.output.trans h.output, Nat.le_trans h.size k.size, fun i hi hn => (k.block i hi).trans (h.block i hi hn)⟩
theorem Keeps.to_below {C : List Nat} {w0 w w' : World} (hb : Below w0.heap.size w0 w) (h : Keeps C w w') (hC : ∀ c, c ∈ C → w0.heap.size ≤ c) : Below w0.heap.size w0 w' :=
  ⟨h.os.trans hb.os, h.tape.trans hb.tape, h.output.trans hb.output, Nat.le_trans hb.size h.size, fun b hlt => (h.block b (Nat.lt_of_lt_of_le hlt hb.size) (fun hc => by have := hC b hc; omega)).trans (hb.block b hlt)⟩
theorem Keeps.cell {C : List Nat} {w w' : World} (h : Keeps C w w') {p : Addr} (hp : p.block < w.heap.size) (hn : ¬ p.block ∈ C) : w'.cell? p = w.cell? p := World.cell?_of_block (w := w) (h.block p.block hp hn)

theorem FIn.keeps {C : List Nat} {w w' : World} (h : Keeps C w w') : ∀ {f : Fo} {b o : Nat}, (∀ c, c ∈ C → FOff c f) → FIn w f b o → FIn w' f b o
  | .nil, _, _, _, _ => trivial
  | .node b' _ x k r, b, o, hc, ⟨h1, h2, h3, h4, h5, h6, h7, h8, h9⟩ => by
    have hb : b < w.heap.size := World.block_lt_of_cell? _ _ h3
    have hn : ¬ b ∈ C := fun hm => (hc b hm).1 h1
    refine ⟨h1, h2, ?_, ?_, h5, h6, h7, ?_, FIn.keeps h (fun c hm => (hc c hm).2.2) h9⟩
    · rw [h.cell hb hn]; exact h3
    · rw [h.cell hb hn]; exact h4
    · rcases h8 with h8 | ⟨kb, ko, e, h8⟩
      · exact Or.inl h8
      · exact Or.inr ⟨kb, ko, e, FIn.keeps h (fun c hm => (hc c hm).2.1) h8⟩

/-- A forest is what lies there: by its first place and its length. -/
theorem FIn.uniq {w : World} : ∀ {f g : Fo} {b o : Nat}, FIn w f b o → FIn w g b o → flen f = flen g → f = g
  | .nil, .nil, _, _, _, _, _ => rfl
  | .nil, .node _ _ _ _ _, _, _, _, _, h => by simp [flen] at h
  | .node _ _ _ _ _, .nil, _, _, _, _, h => by simp [flen] at h
  | .node b1 o1 x k r, .node b2 o2 y l q, b, o, ⟨h1, h2, h3, h4, h5, h6, h7, h8, h9⟩, ⟨g1, g2, g3, g4, g5, g6, g7, g8, g9⟩, h => by
    have e0 : x.1 = y.1 := by
      have := h3.symm.trans g3
      simpa using this
    have e1 := h4.symm.trans g4
    simp only [Option.some.injEq, Value.slice.injEq] at e1
    obtain ⟨ea, el, ec⟩ := e1
    have ek : k = l := by
      rcases h8 with h8 | ⟨kb, ko, e, h8⟩
      · subst h8
        cases l with
        | nil => rfl
        | node _ _ _ _ _ => simp [flen] at el
      · rcases g8 with g8 | ⟨lb, lo, e', g8⟩
        · subst g8
          cases k with
          | nil => rfl
          | node _ _ _ _ _ => simp [flen] at el
        · rw [e, e'] at ea
          simp only [Option.some.injEq, Addr.mk.injEq] at ea
          obtain ⟨rfl, rfl, _⟩ := ea
          exact FIn.uniq h8 g8 el
    have er : r = q := FIn.uniq h9 g9 (by simpa [flen] using h)
    obtain ⟨x1, x2, x3⟩ := x
    obtain ⟨y1, y2, y3⟩ := y
    simp only at e0 ea ec
    subst e0 ea ec ek er h1 h2 g1 g2
    rfl

/-- Labels and how many stand above, each ahead of all beneath it, from the left. -/
def pre : Fo → Nat → List (ByteArray × Nat)
  | .nil, _ => []
  | .node _ _ x k r, d => (x.1, d) :: (pre k (d + 1) ++ pre r d)
theorem pre_length : ∀ (f : Fo) (d : Nat), (pre f d).length = fnodes f
  | .nil, _ => rfl
  | .node _ _ x k r, d => by simp [pre, fnodes, pre_length k, pre_length r]

theorem fhigh_le_nodes : ∀ f : Fo, fhigh f ≤ fnodes f
  | .nil => Nat.le_refl _
  | .node _ _ _ k r => by have := fhigh_le_nodes k; have := fhigh_le_nodes r; simp [fhigh, fnodes]; omega
theorem fhigh_pos : ∀ f : Fo, 0 < flen f → 0 < fhigh f
  | .nil, h => by simp [flen] at h
  | .node _ _ _ k r, _ => by simp [fhigh]; omega
theorem fhigh_drop : ∀ (j : Nat) (f : Fo), fhigh (fdrop j f) ≤ fhigh f
  | 0, _ => Nat.le_refl _
  | _ + 1, .nil => Nat.le_refl _
  | j + 1, .node _ _ _ _ r => by have := fhigh_drop j r; simp [fdrop, fhigh]; omega
theorem fhigh_kid {f kk r : Fo} {j b o : Nat} {x : ByteArray × Option Addr × Nat} (h : fdrop j f = .node b o x kk r) : fhigh kk < fhigh f := by
  have := fhigh_drop j f
  rw [h] at this
  simp [fhigh] at this
  omega
theorem foff_drop {g : Nat} : ∀ (j : Nat) {f : Fo}, FOff g f → FOff g (fdrop j f)
  | 0, _, h => h
  | _ + 1, .nil, _ => trivial
  | j + 1, .node _ _ _ _ _, ⟨_, _, h3⟩ => foff_drop j h3

/-- A step of the way: where its list begins, its capacity, which comes next, the list. -/
abbrev Fr := Addr × Nat × Nat × Fo
def frSt (f : Fr) : St := (f.1, flen f.2.2.2, f.2.1, f.2.2.1)

structure FrOk (C : List Nat) (w : World) (f : Fr) : Prop where
  spot : f.1.spot = none
  pos : 0 < flen f.2.2.2
  len : flen f.2.2.2 ≤ f.2.1
  cap : f.2.1 ≤ maxLen
  next : f.2.2.1 ≤ flen f.2.2.2
  lies : FIn w f.2.2.2 f.1.block f.1.off
  plain : FPlain w f.2.2.2
  off : ∀ c, c ∈ C → FOff c f.2.2.2

/-- What is still to be met, from the top of the way down. -/
def remF : List Fr → Nat → List (ByteArray × Nat)
  | [], _ => []
  | f :: fs, d => remF fs (d + 1) ++ pre (fdrop f.2.2.1 f.2.2.2) d
theorem remF_snoc : ∀ (fs : List Fr) (t : Fr) (d : Nat), remF (fs ++ [t]) d = pre (fdrop t.2.2.1 t.2.2.2) (d + fs.length) ++ remF fs d
  | [], t, d => by simp [remF]
  | f :: fs, t, d => by simp [remF, remF_snoc fs t (d + 1)]; rw [show d + 1 + fs.length = d + (fs.length + 1) by omega]

structure WInv (C : List Nat) (T H : Nat) (w1 wr : World) (v : Value) (fs : List Fr) : Prop where
  each : ∀ f, f ∈ fs → FrOk C w1 f ∧ fhigh f.2.2.2 ≤ H
  high : ∀ (i j : Nat) (f g : Fr), i < j → fs[i]? = some f → fs[j]? = some g → fhigh g.2.2.2 < fhigh f.2.2.2
  row : wr.ownsRow w1.heap.size T 2 v fs.length (wayCells (fs.map frSt))
  keeps : Keeps C w1 wr

theorem high_len {fs : List Fr} (hp : ∀ f, f ∈ fs → 0 < flen f.2.2.2) (high : ∀ (i j : Nat) (f g : Fr), i < j → fs[i]? = some f → fs[j]? = some g → fhigh g.2.2.2 < fhigh f.2.2.2) :
    ∀ (n i : Nat) (f : Fr), fs.length - i = n → fs[i]? = some f → fs.length - i ≤ fhigh f.2.2.2
  | 0, i, f, hn, hf => by omega
  | n + 1, i, f, hn, hf => by
    by_cases h : i + 1 < fs.length
    · have hg := List.getElem?_eq_getElem h
      have := high_len hp high n (i + 1) _ (by omega) hg
      have := high i (i + 1) f _ (by omega) hf hg
      omega
    · have := fhigh_pos _ (hp f (List.mem_of_getElem? hf))
      omega

theorem WInv.len {C : List Nat} {T H : Nat} {w1 wr : World} {v : Value} {fs : List Fr} (h : WInv C T H w1 wr v fs) : fs.length ≤ H := by
  cases hfs : fs with
  | nil => simp
  | cons f l =>
    have h0 : fs[0]? = some f := by rw [hfs]; rfl
    have := high_len (fun f hf => (h.each f hf).1.pos) h.high _ 0 f rfl h0
    have := (h.each f (by rw [hfs]; simp)).2
    rw [← hfs]
    omega

/-- No two lists of a way are the same. -/
theorem WInv.diff {C : List Nat} {T H : Nat} {w1 wr : World} {v : Value} {fs : List Fr} (h : WInv C T H w1 wr v fs) :
    ∀ (i j : Nat) (s t : St), i < j → (fs.map frSt)[i]? = some s → (fs.map frSt)[j]? = some t → ¬ (s.2.1 = t.2.1 ∧ s.1 = t.1) := by
  intro i j s t hij hs ht ⟨e1, e2⟩
  rw [List.getElem?_map] at hs ht
  obtain ⟨f, hf, rfl⟩ := Option.map_eq_some_iff.1 hs
  obtain ⟨g, hg, rfl⟩ := Option.map_eq_some_iff.1 ht
  have h1 := (h.each f (List.mem_of_getElem? hf)).1
  have h2 := (h.each g (List.mem_of_getElem? hg)).1
  have hh := h.high i j f g hij hf hg
  simp only [frSt] at e1 e2
  have l1 := h1.lies
  rw [e2] at l1
  rw [FIn.uniq l1 h2.lies e1] at hh
  omega

/-- The row of a slice that owns something, whole. -/
theorem own_form {w : World} {B T n : Nat} {v : Value} {xs : List Value} (h : w.ownsRow B T 2 v n xs) (hn : 0 < n) :
    ∃ g cap cur, v = .slice (some ⟨g, 0, none⟩) n cap ∧ B ≤ g ∧ g < w.heap.size ∧ w.heap[g]? = some (.cells cur T (0, 0)) ∧ n ≤ cap ∧ cap ≤ maxLen ∧ cur.size = cap * 2 ∧ cur.toList.take (n * 2) = xs := by
  rcases h.2 with ⟨_, h0⟩ | ⟨g, cap, cur, hv, hb, hh, h1, h2, h3, h4⟩
  · omega
  · refine ⟨g, cap, cur, hv, hb, ?_, hh, h1, h2, h3, h4⟩
    rcases Nat.lt_or_ge g w.heap.size with h | h
    · exact h
    · rw [Array.getElem?_eq_none h] at hh; cases hh

/-- The last of the row is let go. -/
theorem own_pop {w : World} {B T n g cap : Nat} {xs ys : List Value} (h : w.ownsRow B T 2 (.slice (some ⟨g, 0, none⟩) (n + 1) cap) (n + 1) (xs ++ ys)) (hx : xs.length = n * 2) : w.ownsRow B T 2 (.slice (some ⟨g, 0, none⟩) n cap) n xs := by
  refine ⟨hx, Or.inr ?_⟩
  rcases h.2 with ⟨h0, _⟩ | ⟨g', cap', cur, hv, hb, hh, h1, h2, h3, h4⟩
  · cases h0
  · simp only [Value.slice.injEq, Option.some.injEq, Addr.mk.injEq] at hv
    obtain ⟨⟨rfl, _, _⟩, _, rfl⟩ := hv
    refine ⟨g, cap, cur, rfl, hb, hh, by omega, h2, h3, ?_⟩
    have := congrArg (List.take (n * 2)) h4
    rw [List.take_take, show min (n * 2) ((n + 1) * 2) = n * 2 by omega, List.take_append_of_le_length (by omega), List.take_of_length_le (l := xs) (by omega)] at this
    exact this

/-- One cell of the row is written. -/
theorem own_set {w : World} {B T n g cap j : Nat} {xs : List Value} (u : Value) (h : w.ownsRow B T 2 (.slice (some ⟨g, 0, none⟩) n cap) n xs) (hj : j < n * 2) :
    (w.setCell ⟨g, j, none⟩ u).ownsRow B T 2 (.slice (some ⟨g, 0, none⟩) n cap) n (xs.set j u) := by
  refine ⟨by simp [h.1], Or.inr ?_⟩
  rcases h.2 with ⟨h0, _⟩ | ⟨g', cap', cur, hv, hb, hh, h1, h2, h3, h4⟩
  · cases h0
  · simp only [Value.slice.injEq, Option.some.injEq, Addr.mk.injEq] at hv
    obtain ⟨⟨rfl, _, _⟩, _, rfl⟩ := hv
    refine ⟨g, cap, cur.setIfInBounds j u, rfl, hb, ?_, h1, h2, by simp [h3], ?_⟩
    · simp [World.setCell, Array.getElem?_modify, hh]
    · rw [← h4]
      simp [List.take_set]

theorem wayCells_set : ∀ (l : List St) (s s' : St), s'.1 = s.1 → s'.2.1 = s.2.1 → s'.2.2.1 = s.2.2.1 → (wayCells (l ++ [s])).set (l.length * 2 + 1) (.int .i64 s'.2.2.2) = wayCells (l ++ [s'])
  | [], s, s', h1, h2, h3 => by simp [wayCells, stCells, h1, h2, h3]
  | a :: l, s, s', h1, h2, h3 => by
    have := wayCells_set l s s' h1 h2 h3
    simp only [List.cons_append, wayCells, stCells, List.length_cons]
    rw [show (l.length + 1) * 2 + 1 = (l.length * 2 + 1) + 2 by omega]
    simp [this]

theorem high_init {fs : List Fr} {t : Fr} (high : ∀ (i j : Nat) (f g : Fr), i < j → (fs ++ [t])[i]? = some f → (fs ++ [t])[j]? = some g → fhigh g.2.2.2 < fhigh f.2.2.2) :
    ∀ (i j : Nat) (f g : Fr), i < j → fs[i]? = some f → fs[j]? = some g → fhigh g.2.2.2 < fhigh f.2.2.2 := fun i j f g hij hf hg => by
  have h1 := (List.getElem?_eq_some_iff.1 hf).1
  have h2 := (List.getElem?_eq_some_iff.1 hg).1
  exact high i j f g hij (by rw [List.getElem?_append_left h1]; exact hf) (by rw [List.getElem?_append_left h2]; exact hg)

/-- The last one of a way is another one with the same list. -/
theorem high_last {fs : List Fr} {t t' : Fr} (he : t'.2.2.2 = t.2.2.2) (high : ∀ (i j : Nat) (f g : Fr), i < j → (fs ++ [t])[i]? = some f → (fs ++ [t])[j]? = some g → fhigh g.2.2.2 < fhigh f.2.2.2) :
    ∀ (i j : Nat) (f g : Fr), i < j → (fs ++ [t'])[i]? = some f → (fs ++ [t'])[j]? = some g → fhigh g.2.2.2 < fhigh f.2.2.2 := fun i j f g hij hf hg => by
  have h2 := (List.getElem?_eq_some_iff.1 hg).1
  simp at h2
  have hi : i < fs.length := by omega
  rw [List.getElem?_append_left hi] at hf
  by_cases hj : j < fs.length
  · rw [List.getElem?_append_left hj] at hg
    exact high i j f g hij (by rw [List.getElem?_append_left hi]; exact hf) (by rw [List.getElem?_append_left hj]; exact hg)
  · have : j = fs.length := by omega
    subst this
    have hg' : t' = g := by simpa using hg
    subst hg'
    have := high i fs.length f t hij (by rw [List.getElem?_append_left hi]; exact hf) (by simp)
    rw [he]
    exact this

/-- One more comes, lower than the last one. -/
theorem high_snoc {fs : List Fr} {t n : Fr} (hn : fhigh n.2.2.2 < fhigh t.2.2.2) (high : ∀ (i j : Nat) (f g : Fr), i < j → (fs ++ [t])[i]? = some f → (fs ++ [t])[j]? = some g → fhigh g.2.2.2 < fhigh f.2.2.2) :
    ∀ (i j : Nat) (f g : Fr), i < j → (fs ++ [t] ++ [n])[i]? = some f → (fs ++ [t] ++ [n])[j]? = some g → fhigh g.2.2.2 < fhigh f.2.2.2 := fun i j f g hij hf hg => by
  have h2 := (List.getElem?_eq_some_iff.1 hg).1
  simp only [List.length_append, List.length_cons, List.length_nil] at h2
  have hi : i < (fs ++ [t]).length := by simp; omega
  rw [List.getElem?_append_left hi] at hf
  by_cases hj : j < (fs ++ [t]).length
  · rw [List.getElem?_append_left hj] at hg
    exact high i j f g hij hf hg
  · have hjl : j = (fs ++ [t]).length := by simp at hj ⊢; omega
    subst hjl
    have hg' : n = g := by simpa using hg
    subst hg'
    by_cases hi2 : i < fs.length
    · have := high i fs.length f t hi2 hf (by simp)
      omega
    · have : i = fs.length := by simp at hi; omega
      subst this
      have hf' : t = f := by simpa using hf
      subst hf'
      exact hn

end Go.Proofs.Ytcknganggcbkjab
namespace Go.Proofs.Ytcknganggcbkjab
open Go.Deep Go.RowKit
set_option linter.unusedVariables false
set_option maxRecDepth 20000

theorem grownBy_of_below {a b : World} (h : Below a.heap.size a b) (r : Option Nat) : a.grownBy b r := ⟨h.os, h.tape, h.output, h.size, fun k hk _ => h.block k hk⟩
theorem grownBy_refl (a : World) (r : Option Nat) : a.grownBy a r := grownBy_of_below (Below.refl _ _) r
theorem grownBy_trans {a b c : World} {r r' : Option Nat} (h : a.grownBy b r) (h' : b.grownBy c r') (hr : r' = r ∨ ∀ g, r' = some g → a.heap.size ≤ g) : a.grownBy c r :=
  ⟨h'.os.trans h.os, h'.tape.trans h.tape, h'.output.trans h.output, Nat.le_trans h.size h'.size, fun k hk hn => by
    rw [h'.block k (Nat.lt_of_lt_of_le hk h.size) (fun e => by
      rcases hr with hr | hr
      · exact hn (e.trans hr)
      · have := hr k e.symm
        omega)]
    exact h.block k hk hn⟩
theorem ownsN_block {w w' : World} {B T sz n : Nat} {v : Value} {xs : List Value} (h : w.ownsRow B T sz v n xs) (hb : ∀ g, v.ownBlock = some g → w'.heap[g]? = w.heap[g]?) : w'.ownsRow B T sz v n xs := by
  obtain ⟨h1, h2⟩ := h
  refine ⟨h1, ?_⟩
  rcases h2 with h2 | ⟨g, cap, cur, hv, hg, hh, r⟩
  · exact Or.inl h2
  · exact Or.inr ⟨g, cap, cur, hv, hg, by rw [hb g (by rw [hv]; rfl)]; exact hh, r⟩
theorem ownBlockN_lt {w : World} {B T sz n g : Nat} {v : Value} {xs : List Value} (h : w.ownsRow B T sz v n xs) (hg : v.ownBlock = some g) : B ≤ g ∧ g < w.heap.size := by
  rcases h.2 with ⟨h2, _⟩ | ⟨g', cap, cur, hv, hb, hh, r⟩
  · subst h2; cases hg
  · subst hv
    simp only [Value.ownBlock, Option.some.injEq] at hg
    subst hg
    refine ⟨hb, ?_⟩
    rcases Nat.lt_or_ge g' w.heap.size with h | h
    · exact h
    · rw [Array.getElem?_eq_none h] at hh; cases hh
theorem ownsN_below {w w' : World} {B T sz n : Nat} {v : Value} {xs : List Value} (h : w.ownsRow B T sz v n xs) (hb : Below w.heap.size w w') : w'.ownsRow B T sz v n xs :=
  ownsN_block h fun g hg => hb.block g (ownBlockN_lt h hg).2
/-- Another row has grown; this one is none of it. -/
theorem ownsN_grown {w w' : World} {B T sz n : Nat} {v : Value} {xs : List Value} {r : Option Nat} (h : w.ownsRow B T sz v n xs) (hg : w.grownBy w' r) (hr : ∀ g, v.ownBlock = some g → r ≠ some g) : w'.ownsRow B T sz v n xs :=
  ownsN_block h fun g hg' => hg.block g (ownBlockN_lt h hg').2 (fun e => hr g hg' e.symm)
theorem ownsN_form {w : World} {B T sz n : Nat} {v : Value} {xs : List Value} (h : w.ownsRow B T sz v n xs) : ∃ va vc, v = .slice va n vc ∧ n ≤ vc ∧ vc ≤ maxLen := by
  rcases h.2 with ⟨h2, h0⟩ | ⟨g', cap, cur, hv, hb, hh, h1, h2, _⟩
  · exact ⟨none, 0, by rw [h2, h0], by omega, by unfold maxLen; omega⟩
  · exact ⟨_, cap, hv, h1, h2⟩
theorem ownsN_some {w : World} {B T sz n : Nat} {v : Value} {xs : List Value} (h : w.ownsRow B T sz v n xs) (hn : 0 < n) : ∃ g vc, v = .slice (some ⟨g, 0, none⟩) n vc ∧ B ≤ g ∧ g < w.heap.size ∧ n ≤ vc ∧ vc ≤ maxLen := by
  rcases h.2 with ⟨h2, h0⟩ | ⟨g', cap, cur, hv, hb, hh, h1, h2, _⟩
  · omega
  · exact ⟨g', cap, hv, hb, (ownBlockN_lt h (by rw [hv]; rfl)).2, h1, h2⟩
/-- One cell of the row is written. -/
theorem own_setN {w : World} {B T sz n g cap j : Nat} {xs : List Value} (u : Value) (h : w.ownsRow B T sz (.slice (some ⟨g, 0, none⟩) n cap) n xs) (hj : j < n * sz) :
    (w.setCell ⟨g, j, none⟩ u).ownsRow B T sz (.slice (some ⟨g, 0, none⟩) n cap) n (xs.set j u) := by
  refine ⟨by simp [h.1], Or.inr ?_⟩
  rcases h.2 with ⟨h0, _⟩ | ⟨g', cap', cur, hv, hb, hh, h1, h2, h3, h4⟩
  · cases h0
  · simp only [Value.slice.injEq, Option.some.injEq, Addr.mk.injEq] at hv
    obtain ⟨⟨rfl, _, _⟩, _, rfl⟩ := hv
    refine ⟨g, cap, cur.setIfInBounds j u, rfl, hb, ?_, h1, h2, by simp [h3], ?_⟩
    · simp [World.setCell, Array.getElem?_modify, hh]
    · rw [← h4]
      simp [List.take_set]
theorem grownBy_setCell (w : World) (g j : Nat) (u : Value) : w.grownBy (w.setCell ⟨g, j, none⟩ u) (some g) :=
  ⟨rfl, rfl, rfl, by simp [World.setCell], fun k hk hn => by
    have hkg : ¬ g = k := fun e => hn (by rw [e])
    simp [World.setCell, Array.getElem?_modify, hkg]⟩
/-- No cell of such a row is frozen. -/
theorem own_frozen {w : World} {B T sz n g cap : Nat} {xs : List Value} (h : w.ownsRow B T sz (.slice (some ⟨g, 0, none⟩) n cap) n xs) (j : Nat) : w.frozen? ⟨g, j, none⟩ = false := by
  rcases h.2 with ⟨h0, _⟩ | ⟨g', cap', cur, hv, hb, hh, _⟩
  · cases h0
  · simp only [Value.slice.injEq, Option.some.injEq, Addr.mk.injEq] at hv
    obtain ⟨⟨rfl, _, _⟩, _, rfl⟩ := hv
    simp [World.frozen?, hh]

def intCells (l : List Nat) : List Value := l.map fun (n : Nat) => Value.int .i64 (n : Int)
theorem intCells_at {l : List Nat} {i n : Nat} (h : l[i]? = some n) : (intCells l)[i]? = some (.int .i64 (n : Int)) := by simp [intCells, h]

end Go.Proofs.Ytcknganggcbkjab
