/- A node of a tree in memory, by its path, and what the tree is when that node alone has turned in its place. Of no program. -/
/- What is left in memory when a node has turned in its place and the deed that undoes it is noted. Of no program. -/
import Derived.Test.YtkoohfkomlmhoacGreatDoorKDP22
import Derived.Test.YtkoohfkomlmhoacGreatDoorKDP13
namespace Go.Proofs.YtkoohfkomlmhoacGreatDoor.Deed
open Go.Deep Go.RowKit
set_option linter.unusedVariables false
set_option maxRecDepth 20000

/-- A node in memory: where it lies, its label, its kids' address and capacity, its kids. -/
structure Nd where
  b : Nat
  o : Nat
  s : ByteArray
  ka : Option Addr
  cap : Nat
  k : Fo
structure NodIn (w : World) (n : Nd) : Prop where
  c0 : w.cell? ⟨n.b, n.o, none⟩ = some (.string n.s)
  c1 : w.cell? ⟨n.b, n.o + 1, none⟩ = some (.slice n.ka (flen n.k) n.cap)
  tin : TIn w n.s n.ka n.cap n.k
theorem off_of {w : World} {g : Nat} : ∀ {f : Fo} {b o : Nat}, FIn w f b o → g ≠ b → ¬ g ∈ lb f → FOff g f
  | .nil, _, _, _, _, _ => trivial
  | .node b' _ x k r, b, o, hf, hg, hn => by
    simp only [lb, List.mem_append, not_or] at hn
    have hb' : b' = b := hf.1
    refine ⟨by omega, ?_, off_of hf.head.2.2.2 hg hn.2⟩
    cases k with
    | nil => trivial
    | node b2 o2 y k2 r2 =>
      rcases hf.head.2.2.1.kids with h0 | ⟨kb, ko, e, hk⟩
      · cases h0
      · have : b2 = kb := hk.1
        exact off_of hk (fun e => hn.1.1 (by simp [hb]; omega)) hn.1.2

/-- One node alone has turned in its place; all else that there was is as it was. -/
structure Chg (w w' : World) (c oo : Nat) : Prop where
  same : ∀ q, q < w.heap.size → q ≠ c → w'.heap[q]? = w.heap[q]?
  cell : ∀ o', o' ≠ oo → o' ≠ oo + 1 → w'.cell? ⟨c, o', none⟩ = w.cell? ⟨c, o', none⟩
theorem Chg.at {w w' : World} {c oo b o : Nat} {u : Value} (h : Chg w w' c oo) (hc : w.cell? ⟨b, o, none⟩ = some u) (hn : b = c → o ≠ oo ∧ o ≠ oo + 1) : w'.cell? ⟨b, o, none⟩ = some u := by
  by_cases e : b = c
  · obtain ⟨h1, h2⟩ := hn e
    subst e
    rw [h.cell o h1 h2]
    exact hc
  · have := h.same b (World.block_lt_of_cell? _ _ hc) e
    rw [World.cell?_of_block (w := w) this]
    exact hc
theorem Chg.kids {w w' : World} {c oo : Nat} {ka : Option Addr} {k : Fo} (h : Chg w w' c oo) (hk : KIn w ka k) (hn : ¬ c ∈ ab k) : KIn w' ka k := by
  rcases hk with h0 | ⟨kb, ko, e, hf⟩
  · exact Or.inl h0
  · refine Or.inr ⟨kb, ko, e, ?_⟩
    cases k with
    | nil => trivial
    | node b2 o2 x kk r =>
      have : b2 = kb := hf.1
      simp only [ab, List.mem_append, not_or] at hn
      exact FIn.but h.same (off_of hf (fun e => hn.1 (by simp [hb]; omega)) hn.2) hf
/-- A list whose own cells are as they were. -/
theorem Chg.list {w w' : World} {c oo : Nat} (h : Chg w w' c oo) : ∀ {f : Fo} {b o : Nat}, FIn w f b o → (b = c → oo + 1 < o ∨ o + 2 * flen f ≤ oo) → ¬ c ∈ lb f → FIn w' f b o
  | .nil, _, _, _, _, _ => trivial
  | .node b' o' x k r, b, o, ⟨h1, h2, h3, h4, h5, h6, h7, h8, h9⟩, hn, hl => by
    simp only [lb, List.mem_append, not_or] at hl
    simp only [flen] at hn
    refine ⟨h1, h2, h.at h3 (fun e => ?_), h.at h4 (fun e => ?_), h5, h6, h7, h.kids h8 (by simp only [ab, List.mem_append, not_or]; exact hl.1), Chg.list h h9 (fun e => ?_) hl.2⟩
    · have := hn e
      omega
    · have := hn e
      omega
    · have := hn e
      omega
end Go.Proofs.YtkoohfkomlmhoacGreatDoor.Deed
namespace Go.Proofs.YtkoohfkomlmhoacGreatDoor.Deed
open Go.Deep Go.RowKit
set_option linter.unusedVariables false
set_option maxRecDepth 20000

/-- A deed in a block of its own. -/
structure BackIs (w : World) (c : Nat) (d : Dd) (pa : Option Addr) (pc : Nat) : Prop where
  c0 : w.cell? ⟨c, 0, none⟩ = some (.int .i64 d.kind)
  c1 : w.cell? ⟨c, 1, none⟩ = some (.slice pa d.path.length pc)
  c2 : w.cell? ⟨c, 2, none⟩ = some (.int .i64 d.pos)
  c3 : w.cell? ⟨c, 3, none⟩ = some (.int .i64 d.many)
  c4 : w.cell? ⟨c, 4, none⟩ = some (.string d.lab)
  fr : ∀ o, w.frozen? ⟨c, o, none⟩ = false
  blk : BPlain w c
theorem BackIs.of {w : World} {c T : Nat} {d : Dd} {pa : Option Addr} {pc : Nat} (h : w.heap[c]? = some (Obj.cells #[.int .i64 d.kind, .slice pa d.path.length pc, .int .i64 d.pos, .int .i64 d.many, .string d.lab] T)) : BackIs w c d pa pc := by
  refine ⟨?_, ?_, ?_, ?_, ?_, fun o => by simp [World.frozen?, h], ⟨_, _, h⟩⟩
  · rw [cell_of_row _ _ 0 _ _ _ h]; rfl
  · rw [cell_of_row _ _ 1 _ _ _ h]; rfl
  · rw [cell_of_row _ _ 2 _ _ _ h]; rfl
  · rw [cell_of_row _ _ 3 _ _ _ h]; rfl
  · rw [cell_of_row _ _ 4 _ _ _ h]; rfl
theorem BackIs.block {w w' : World} {c : Nat} {d : Dd} {pa : Option Addr} {pc : Nat} (h : BackIs w c d pa pc) (hb : w'.heap[c]? = w.heap[c]?) : BackIs w' c d pa pc :=
  ⟨by rw [World.cell?_of_block (w := w) hb]; exact h.c0, by rw [World.cell?_of_block (w := w) hb]; exact h.c1, by rw [World.cell?_of_block (w := w) hb]; exact h.c2, by rw [World.cell?_of_block (w := w) hb]; exact h.c3, by rw [World.cell?_of_block (w := w) hb]; exact h.c4, fun o => by rw [World.frozen?_of_block (w := w) hb]; exact h.fr o, by obtain ⟨cs, e, h'⟩ := h.blk; exact ⟨cs, e, by rw [hb]; exact h'⟩⟩
theorem BackIs.lt {w : World} {c : Nat} {d : Dd} {pa : Option Addr} {pc : Nat} (h : BackIs w c d pa pc) : c < w.heap.size := World.block_lt_of_cell? _ _ h.c0

/-- Some blocks are as they were. -/
structure Kp (L : List Nat) (w w' : World) : Prop where
  size : w.heap.size ≤ w'.heap.size
  lt : ∀ q, q ∈ L → q < w.heap.size
  same : ∀ q, q ∈ L → w'.heap[q]? = w.heap[q]?
theorem Kp.refl {L : List Nat} {w : World} (h : ∀ q, q ∈ L → q < w.heap.size) : Kp L w w := ⟨Nat.le_refl _, h, fun _ _ => rfl⟩
theorem Kp.set {L : List Nat} {w w' : World} {c o : Nat} {v : Value} (h : Kp L w w') (hc : ¬ c ∈ L) : Kp L w (w'.setCell ⟨c, o, none⟩ v) :=
  ⟨by simpa [World.setCell] using h.size, h.lt, fun q hq => by rw [Below.heap_setCell _ _ _ _ (fun e => hc (by have e' : q = c := e; rw [← e']; exact hq))]; exact h.same q hq⟩
theorem Kp.alloc {L : List Nat} {w w' : World} {ob : Obj} (h : Kp L w w') : Kp L w (w'.alloc ob) :=
  ⟨by have := h.size; simp; omega, h.lt, fun q hq => by rw [Below.heap_alloc _ _ _ (Nat.lt_of_lt_of_le (h.lt q hq) h.size)]; exact h.same q hq⟩
theorem Kp.drew {L : List Nat} {w w' : World} (h : Kp L w w') : Kp L w w'.drew := ⟨h.size, h.lt, h.same⟩
theorem Kp.below {L : List Nat} {w w' w2 : World} (h : Kp L w w') (hb : Below w'.heap.size w' w2) : Kp L w w2 :=
  ⟨Nat.le_trans h.size hb.size, h.lt, fun q hq => by rw [hb.block q (Nat.lt_of_lt_of_le (h.lt q hq) h.size)]; exact h.same q hq⟩
theorem Kp.cell {L : List Nat} {w w' : World} (h : Kp L w w') {q o : Nat} {v : Value} (hq : q ∈ L) (hv : w.cell? ⟨q, o, none⟩ = some v) : w'.cell? ⟨q, o, none⟩ = some v := by
  rw [World.cell?_of_block (w := w) (h.same q hq)]
  exact hv
theorem Kp.frozen {L : List Nat} {w w' : World} (h : Kp L w w') {q o : Nat} {v : Bool} (hq : q ∈ L) (hv : w.frozen? ⟨q, o, none⟩ = v) : w'.frozen? ⟨q, o, none⟩ = v := by
  rw [World.frozen?_of_block (w := w) (h.same q hq)]
  exact hv

theorem cellN {w w' : World} {b o : Nat} {v : Value} (hb : w'.heap[b]? = w.heap[b]?) (h : w.cell? ⟨b, o, none⟩ = some v) : w'.cell? ⟨b, o, none⟩ = some v := by
  rw [World.cell?_of_block (w := w) hb]
  exact h
theorem PIn.block {w w' : World} {pa : Option Addr} {l : List Int} (h : PIn w pa l) (hb : ∀ a, pa = some a → w'.heap[a.block]? = w.heap[a.block]?) : PIn w' pa l := by
  rcases h with h | ⟨b, o, e, h⟩
  · exact Or.inl h
  · refine Or.inr ⟨b, o, e, fun i p hp => ?_⟩
    exact cellN (b := b) (hb _ e) (h i p hp)
/-- One block alone has turned, some blocks may have come. -/
structure Off (c : Nat) (w w' : World) : Prop where
  size : w.heap.size ≤ w'.heap.size
  same : ∀ q, q < w.heap.size → q ≠ c → w'.heap[q]? = w.heap[q]?
theorem Off.refl (c : Nat) (w : World) : Off c w w := ⟨Nat.le_refl _, fun _ _ _ => rfl⟩
theorem Off.set {c o : Nat} {w w' : World} {v : Value} (h : Off c w w') : Off c w (w'.setCell ⟨c, o, none⟩ v) :=
  ⟨by simpa [World.setCell] using h.size, fun q hq hn => by rw [Below.heap_setCell _ _ _ _ hn]; exact h.same q hq hn⟩
theorem Off.below {c : Nat} {w w' w2 : World} (h : Off c w w') (hb : Below w'.heap.size w' w2) : Off c w w2 :=
  ⟨Nat.le_trans h.size hb.size, fun q hq hn => by rw [hb.block q (Nat.lt_of_lt_of_le hq h.size)]; exact h.same q hq hn⟩

end Go.Proofs.YtkoohfkomlmhoacGreatDoor.Deed
