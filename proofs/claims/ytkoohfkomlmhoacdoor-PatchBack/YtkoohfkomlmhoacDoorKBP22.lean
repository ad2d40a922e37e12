/- What is left in memory when a node has turned in its place and the deed that undoes it is noted. Of no program. -/
/- Lists of deeds that a call owns, and what becomes of them where another deed is put behind. Of no program. -/
import Derived.Test.YtkoohfkomlmhoacDoorKBP21
import Derived.Test.YtkoohfkomlmhoacDoorKBP13
import Derived.Test.YtkoohfkomlmhoacDoorKBP18
namespace Go.Proofs.YtkoohfkomlmhoacDoor.Deed
open Go.Deep Go.RowKit
set_option linter.unusedVariables false
set_option maxRecDepth 20000

/-- A deed in a block of its own. -/
structure BackIs (w : World) (c : Nat) (d : Dd) (pa : Option Addr) (pc : Nat) : Prop where
  c0 : w.cell? ⟨c, 0, none⟩ = some (.int .i64 d.kind)
  c1 : w.cell? ⟨c, 1, none⟩ = some (.slice pa d.path.length pc)
  c2 : w.cell? ⟨c, 2, none⟩ = some (.int .i64 d.pos)
  c3 : w.cell? ⟨c, 3, none⟩ = some (.int .i64 d.many)
  c4 : w.cell? ⟨c, 4, none⟩ = some (.string d.lab)
  fr : ∀ o, w.frozen? ⟨c, o, none⟩ = false
  blk : BPlain w c
theorem BackIs.of {w : World} {c T : Nat} {d : Dd} {pa : Option Addr} {pc : Nat} (h : w.heap[c]? = some (Obj.cells #[.int .i64 d.kind, .slice pa d.path.length pc, .int .i64 d.pos, .int .i64 d.many, .string d.lab] T)) : BackIs w c d pa pc := by
  refine ⟨?_, ?_, ?_, ?_, ?_, fun o => by simp [World.frozen?, h], ⟨_, _, h⟩⟩
  · rw [cell_of_row _ _ 0 _ _ _ h]; rfl
  · rw [cell_of_row _ _ 1 _ _ _ h]; rfl
  · rw [cell_of_row _ _ 2 _ _ _ h]; rfl
  · rw [cell_of_row _ _ 3 _ _ _ h]; rfl
  · rw [cell_of_row _ _ 4 _ _ _ h]; rfl
theorem BackIs.block {w w' : World} {c : Nat} {d : Dd} {pa : Option Addr} {pc : Nat} (h : BackIs w c d pa pc) (hb : w'.heap[c]? = w.heap[c]?) : BackIs w' c d pa pc :=
  ⟨by rw [World.cell?_of_block (w := w) hb]; exact h.c0, by rw [World.cell?_of_block (w := w) hb]; exact h.c1, by rw [World.cell?_of_block (w := w) hb]; exact h.c2, by rw [World.cell?_of_block (w := w) hb]; exact h.c3, by rw [World.cell?_of_block (w := w) hb]; exact h.c4, fun o => by rw [World.frozen?_of_block (w := w) hb]; exact h.fr o, by obtain ⟨cs, e, h'⟩ := h.blk; exact ⟨cs, e, by rw [hb]; exact h'⟩⟩
theorem BackIs.lt {w : World} {c : Nat} {d : Dd} {pa : Option Addr} {pc : Nat} (h : BackIs w c d pa pc) : c < w.heap.size := World.block_lt_of_cell? _ _ h.c0

/-- Some blocks are as they were. -/
structure Kp (L : List Nat) (w w' : World) : Prop where
  size : w.heap.size ≤ w'.heap.size
  lt : ∀ q, q ∈ L → q < w.heap.size
  same : ∀ q, q ∈ L → w'.heap[q]? = w.heap[q]?
theorem Kp.refl {L : List Nat} {w : World} (h : ∀ q, q ∈ L → q < w.heap.size) : Kp L w w := ⟨Nat.le_refl _, h, fun _ _ => rfl⟩
theorem Kp.set {L : List Nat} {w w' : World} {c o : Nat} {v : Value} (h : Kp L w w') (hc : ¬ c ∈ L) : Kp L w (w'.setCell ⟨c, o, none⟩ v) :=
  ⟨by simpa [World.setCell] using h.size, h.lt, fun q hq => by rw [Below.heap_setCell _ _ _ _ (fun e => hc (by have e' : q = c := e; rw [← e']; exact hq))]; exact h.same q hq⟩
theorem Kp.alloc {L : List Nat} {w w' : World} {ob : Obj} (h : Kp L w w') : Kp L w (w'.alloc ob) :=
  ⟨by have := h.size; simp; omega, h.lt, fun q hq => by rw [Below.heap_alloc _ _ _ (Nat.lt_of_lt_of_le (h.lt q hq) h.size)]; exact h.same q hq⟩
theorem Kp.drew {L : List Nat} {w w' : World} (h : Kp L w w') : Kp L w w'.drew := ⟨h.size, h.lt, h.same⟩
theorem Kp.below {L : List Nat} {w w' w2 : World} (h : Kp L w w') (hb : Below w'.heap.size w' w2) : Kp L w w2 :=
  ⟨Nat.le_trans h.size hb.size, h.lt, fun q hq => by rw [hb.block q (Nat.lt_of_lt_of_le (h.lt q hq) h.size)]; exact h.same q hq⟩
theorem Kp.cell {L : List Nat} {w w' : World} (h : Kp L w w') {q o : Nat} {v : Value} (hq : q ∈ L) (hv : w.cell? ⟨q, o, none⟩ = some v) : w'.cell? ⟨q, o, none⟩ = some v := by
  rw [World.cell?_of_block (w := w) (h.same q hq)]
  exact hv
theorem Kp.frozen {L : List Nat} {w w' : World} (h : Kp L w w') {q o : Nat} {v : Bool} (hq : q ∈ L) (hv : w.frozen? ⟨q, o, none⟩ = v) : w'.frozen? ⟨q, o, none⟩ = v := by
  rw [World.frozen?_of_block (w := w) (h.same q hq)]
  exact hv

theorem cellN {w w' : World} {b o : Nat} {v : Value} (hb : w'.heap[b]? = w.heap[b]?) (h : w.cell? ⟨b, o, none⟩ = some v) : w'.cell? ⟨b, o, none⟩ = some v := by
  rw [World.cell?_of_block (w := w) hb]
  exact h
theorem PIn.block {w w' : World} {pa : Option Addr} {l : List Int} (h : PIn w pa l) (hb : ∀ a, pa = some a → w'.heap[a.block]? = w.heap[a.block]?) : PIn w' pa l := by
  rcases h with h | ⟨b, o, e, h⟩
  · exact Or.inl h
  · refine Or.inr ⟨b, o, e, fun i p hp => ?_⟩
    exact cellN (b := b) (hb _ e) (h i p hp)
/-- One block alone has turned, some blocks may have come. -/
structure Off (c : Nat) (w w' : World) : Prop where
  size : w.heap.size ≤ w'.heap.size
  same : ∀ q, q < w.heap.size → q ≠ c → w'.heap[q]? = w.heap[q]?
theorem Off.refl (c : Nat) (w : World) : Off c w w := ⟨Nat.le_refl _, fun _ _ _ => rfl⟩
theorem Off.set {c o : Nat} {w w' : World} {v : Value} (h : Off c w w') : Off c w (w'.setCell ⟨c, o, none⟩ v) :=
  ⟨by simpa [World.setCell] using h.size, fun q hq hn => by rw [Below.heap_setCell _ _ _ _ hn]; exact h.same q hq hn⟩
theorem Off.below {c : Nat} {w w' w2 : World} (h : Off c w w') (hb : Below w'.heap.size w' w2) : Off c w w2 :=
  ⟨Nat.le_trans h.size hb.size, fun q hq hn => by rw [hb.block q (Nat.lt_of_lt_of_le hq h.size)]; exact h.same q hq hn⟩

end Go.Proofs.YtkoohfkomlmhoacDoor.Deed
namespace Go.Proofs.YtkoohfkomlmhoacDoor.Deed
open Go.Deep Go.RowKit
set_option linter.unusedVariables false
set_option maxRecDepth 20000

/-- A list that lies, with all its paths, in blocks from B on; and no path in the list's own. -/
structure Row (B : Nat) (w : World) (v : Value) (A : List Pd) : Prop where
  own : w.ownsRow B 35 5 v A.length (pdCells A)
  each : PdsIn w A
  off : ∀ x, x ∈ A → x.1.path ≠ [] → ∀ a, x.2.1 = some a → v.ownBlock ≠ some a.block
  fresh : ∀ x, x ∈ A → x.1.path ≠ [] → ∀ a, x.2.1 = some a → B ≤ a.block
theorem Row.nil (B : Nat) (w : World) : Row B w (.slice none 0 0) [] := ⟨World.ownsRow_nil _ _ _ _, PdsIn.nil _, fun x hx => by simp at hx, fun x hx => by simp at hx⟩
theorem DIn.block {w w' : World} {d : Dd} {pa : Option Addr} {pc : Nat} (h : DIn w d pa pc) (hb : d.path ≠ [] → ∀ a, pa = some a → w'.heap[a.block]? = w.heap[a.block]?) : DIn w' d pa pc := by
  by_cases hp : d.path = []
  · exact ⟨Or.inl hp, h.len, h.cap, h.lab⟩
  · exact ⟨PIn.block h.path (hb hp), h.len, h.cap, h.lab⟩
theorem DIn.lt {w : World} {d : Dd} {pa : Option Addr} {pc : Nat} (h : DIn w d pa pc) (hp : d.path ≠ []) (a : Addr) (ha : pa = some a) : a.block < w.heap.size := by
  rcases h.path with h0 | ⟨b, o, e, hc⟩
  · exact absurd h0 hp
  · rw [e] at ha
    injection ha with ha
    subst ha
    obtain ⟨p, ps, hps⟩ := List.exists_cons_of_ne_nil hp
    exact World.block_lt_of_cell? _ _ (hc 0 p (by rw [hps]; rfl))
/-- Its blocks are as they were. -/
theorem Row.keep {B : Nat} {w w' : World} {v : Value} {A : List Pd} (h : Row B w v A) (hs : ∀ q, B ≤ q → q < w.heap.size → w'.heap[q]? = w.heap[q]?) : Row B w' v A :=
  ⟨ownsN_block h.own fun g hg => hs g (ownBlockN_lt h.own hg).1 (ownBlockN_lt h.own hg).2, fun x hx => (h.each x hx).block fun hp a ha => hs _ (h.fresh x hx hp a ha) ((h.each x hx).lt hp a ha), h.off, h.fresh⟩
theorem Row.below {B : Nat} {w w' : World} {v : Value} {A : List Pd} (h : Row B w v A) (hb : Below w.heap.size w w') : Row B w' v A := h.keep fun q _ hq => hb.block q hq
theorem Row.form {B : Nat} {w : World} {v : Value} {A : List Pd} (h : Row B w v A) : ∃ va vc, v = .slice va A.length vc ∧ A.length ≤ vc ∧ vc ≤ maxLen := ownsN_form h.own
theorem Row.ds {B : Nat} {w : World} {va : Option Addr} {vc n : Nat} {A : List Pd} (h : Row B w (.slice va n vc) A) (hn : n = A.length) : DsIn w va A := by
  subst hn
  exact DsIn_of_owns h.own h.each
/-- A block has turned that is none of its. -/
theorem Row.grown {B : Nat} {w w' : World} {v : Value} {A : List Pd} {r : Option Nat} (h : Row B w v A) (hg : w.grownBy w' r) (hr : ∀ g, v.ownBlock = some g → r ≠ some g) (hp : ∀ x, x ∈ A → x.1.path ≠ [] → ∀ a, x.2.1 = some a → r ≠ some a.block) : Row B w' v A :=
  ⟨ownsN_grown h.own hg hr, fun x hx => (h.each x hx).block fun hp0 a ha => hg.block _ ((h.each x hx).lt hp0 a ha) fun e2 => hp x hx hp0 a ha e2.symm, h.off, h.fresh⟩

theorem pd_news (w : World) (T : TypeId) (x : Pd) (j : Nat) (u : Value) (h : (pdCell x)[j]? = some u) : (w.alloc (Obj.cells #[.int .i64 x.1.kind, .slice x.2.1 x.1.path.length x.2.2, .int .i64 x.1.pos, .int .i64 x.1.many, .string x.1.lab] T)).cell? ((⟨w.heap.size, 0, none⟩ : Addr).add j) = some u := by
  refine World.news_of_block (cs := #[.int .i64 x.1.kind, .slice x.2.1 x.1.path.length x.2.2, .int .i64 x.1.pos, .int .i64 x.1.many, .string x.1.lab]) (t := T) (fr := (0, 0)) ?_ j u h
  show (w.heap.push _)[w.heap.size]? = _
  simp
/-- A deed is put behind: what append comes to. -/
theorem Row.push {B : Nat} {w : World} {va : Option Addr} {vc n : Nat} {A : List Pd} (h : Row B w (.slice va n vc) A) (hn : n = A.length) (x : Pd) (hx : DIn w x.1 x.2.1 x.2.2) (hf : x.1.path ≠ [] → ∀ a, x.2.1 = some a → B ≤ a.block ∧ (Value.slice va n vc).ownBlock ≠ some a.block) (hl : A.length ≤ 1000) (hB : B ≤ w.heap.size) :
    ∃ va' vc' w', (Builtin.append_ #[22, 22] 22 #[.slice va n vc, .slice (some ⟨w.heap.size, 0, none⟩) 1 1]).run Tryd.prog (w.alloc (Obj.cells #[.int .i64 x.1.kind, .slice x.2.1 x.1.path.length x.2.2, .int .i64 x.1.pos, .int .i64 x.1.many, .string x.1.lab] 35)) = .ok (.slice va' (n + 1) vc') w' ∧ Row B w' (.slice va' (n + 1) vc') (A ++ [x]) ∧ w.grownBy w' (Value.slice va n vc).ownBlock ∧ ((Value.slice va' (n + 1) vc').ownBlock = (Value.slice va n vc).ownBlock ∨ (Value.slice va' (n + 1) vc').ownBlock = some (w.heap.size + 1)) := by
  subst hn
  obtain ⟨i0, hi0, hz0, hz1, hz2⟩ := info_parts Tryd.infoDeed
  obtain ⟨W, hW⟩ : ∃ W, W = w.alloc (Obj.cells #[.int .i64 x.1.kind, .slice x.2.1 x.1.path.length x.2.2, .int .i64 x.1.pos, .int .i64 x.1.many, .string x.1.lab] 35) := ⟨_, rfl⟩
  have bW : Below w.heap.size w W := by rw [hW]; exact (Below.refl _ _).alloc (Nat.le_refl _) _
  have sW : W.heap.size = w.heap.size + 1 := by rw [hW]; simp
  have hW1 := h.below bW
  obtain ⟨v', w', hr, hown', hgrow, _, hat⟩ := run_append_own_at (P := Tryd.prog) W B 22 22 35 i0 _ 5 64 Tryd.underlying22 hi0 hz0 hz1 hz2 rfl (by decide) _ A.length _ hW1.own ⟨w.heap.size, 0, none⟩ 1 1 (pdCell x) rfl (fun j u hu => by rw [hW]; exact pd_news w _ x j u hu) (pdCell_one x) (by unfold maxLen; omega) (by omega) (by omega)
  have e5 : pdCells A ++ pdCell x = pdCells (A ++ [x]) := by rw [pdCells_append]; simp [pdCells]
  rw [e5] at hown'
  obtain ⟨va', vc', rfl, h1, h2⟩ := ownsN_form hown'
  have hgw : w.grownBy w' (Value.slice va A.length vc).ownBlock := grownBy_trans (grownBy_of_below bW _) hgrow (Or.inl rfl)
  rw [sW] at hat
  have hall : ∀ y, y ∈ A ++ [x] → DIn w y.1 y.2.1 y.2.2 ∧ (y.1.path ≠ [] → ∀ a, y.2.1 = some a → B ≤ a.block ∧ (Value.slice va A.length vc).ownBlock ≠ some a.block) := fun y hy => by
    rcases List.mem_append.1 hy with hy | hy
    · exact ⟨h.each y hy, fun hp a ha => ⟨h.fresh y hy hp a ha, h.off y hy hp a ha⟩⟩
    · simp only [List.mem_cons, List.not_mem_nil, or_false] at hy
      subst hy
      exact ⟨hx, hf⟩
  refine ⟨va', vc', w', by rw [← hW]; exact hr, ⟨by simpa using hown', fun y hy => ?_, fun y hy hp a ha => ?_, fun y hy hp a ha => ((hall y hy).2 hp a ha).1⟩, hgw, hat⟩
  · exact (hall y hy).1.block fun hp a ha => hgw.block _ ((hall y hy).1.lt hp a ha) fun e => ((hall y hy).2 hp a ha).2 e.symm
  · rcases hat with e | e
    · rw [e]
      exact ((hall y hy).2 hp a ha).2
    · rw [e]
      have := (hall y hy).1.lt hp a ha
      intro e2
      injection e2 with e2
      omega
/-- A tree none of whose blocks has turned. -/
theorem TIn.grown {w w' : World} {r : Option Nat} (h : w.grownBy w' r) {s : ByteArray} {ka : Option Addr} {cap : Nat} {k : Fo} (ho : ∀ g, r = some g → FOff g k) (ht : TIn w s ka cap k) (hp : FPlain w k) : TIn w' s ka cap k ∧ FPlain w' k := by
  cases r with
  | none =>
    have hb : Below w.heap.size w w' := ⟨h.os, h.tape, h.output, h.size, fun q hq => h.block q hq (by simp)⟩
    exact ⟨ht.below hb, hp.below hb⟩
  | some g =>
    have hs : ∀ b, b < w.heap.size → b ≠ g → w'.heap[b]? = w.heap[b]? := fun b hb hne => h.block b hb (by simpa using hne)
    exact ⟨TIn.but hs (ho g rfl) ht, FPlain.but hs (ho g rfl) hp⟩
end Go.Proofs.YtkoohfkomlmhoacDoor.Deed
