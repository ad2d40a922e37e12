/- Lists of deeds that a call owns, and what becomes of them where another deed is put behind. Of no program. -/
/- DeedsIn of package pleachingref: the deeds of lines. Of the program's text. -/
import Derived.Test.YtkoohfkomlmhoacDoorKLP18
import Derived.Test.YtkoohfkomlmhoacDoorKLP21
import Derived.Test.YtkoohfkomlmhoacDoorProg
import Derived.Test.YtkoohfkomlmhoacDoorKLP13
import Derived.Test.YtkoohfkomlmhoacDoorKLP17
namespace Go.Proofs.YtkoohfkomlmhoacDoor.Deed
open Go.Deep Go.RowKit
set_option linter.unusedVariables false
set_option maxRecDepth 20000

/-- A list that lies, with all its paths, in blocks from B on; and no path in the list's own. -/
structure Row (B : Nat) (w : World) (v : Value) (A : List Pd) : Prop where
  own : w.ownsRow B 35 5 v A.length (pdCells A)
  each : PdsIn w A
  off : ∀ x, x ∈ A → x.1.path ≠ [] → ∀ a, x.2.1 = some a → v.ownBlock ≠ some a.block
  fresh : ∀ x, x ∈ A → x.1.path ≠ [] → ∀ a, x.2.1 = some a → B ≤ a.block
theorem Row.nil (B : Nat) (w : World) : Row B w (.slice none 0 0) [] := ⟨World.ownsRow_nil _ _ _ _, PdsIn.nil _, fun x hx => by simp at hx, fun x hx => by simp at hx⟩
theorem DIn.block {w w' : World} {d : Dd} {pa : Option Addr} {pc : Nat} (h : DIn w d pa pc) (hb : d.path ≠ [] → ∀ a, pa = some a → w'.heap[a.block]? = w.heap[a.block]?) : DIn w' d pa pc := by
  by_cases hp : d.path = []
  · exact ⟨Or.inl hp, h.len, h.cap, h.lab⟩
  · exact ⟨PIn.block h.path (hb hp), h.len, h.cap, h.lab⟩
theorem DIn.lt {w : World} {d : Dd} {pa : Option Addr} {pc : Nat} (h : DIn w d pa pc) (hp : d.path ≠ []) (a : Addr) (ha : pa = some a) : a.block < w.heap.size := by
  rcases h.path with h0 | ⟨b, o, e, hc⟩
  · exact absurd h0 hp
  · rw [e] at ha
    injection ha with ha
    subst ha
    obtain ⟨p, ps, hps⟩ := List.exists_cons_of_ne_nil hp
    exact World.block_lt_of_cell? _ _ (hc 0 p (by rw [hps]; rfl))
/-- Its blocks are as they were. -/
theorem Row.keep {B : Nat} {w w' : World} {v : Value} {A : List Pd} (h : Row B w v A) (hs : ∀ q, B ≤ q → q < w.heap.size → w'.heap[q]? = w.heap[q]?) : Row B w' v A :=
  ⟨ownsN_block h.own fun g hg => hs g (ownBlockN_lt h.own hg).1 (ownBlockN_lt h.own hg).2, fun x hx => (h.each x hx).block fun hp a ha => hs _ (h.fresh x hx hp a ha) ((h.each x hx).lt hp a ha), h.off, h.fresh⟩
theorem Row.below {B : Nat} {w w' : World} {v : Value} {A : List Pd} (h : Row B w v A) (hb : Below w.heap.size w w') : Row B w' v A := h.keep fun q _ hq => hb.block q hq
theorem Row.form {B : Nat} {w : World} {v : Value} {A : List Pd} (h : Row B w v A) : ∃ va vc, v = .slice va A.length vc ∧ A.length ≤ vc ∧ vc ≤ maxLen := ownsN_form h.own
theorem Row.ds {B : Nat} {w : World} {va : Option Addr} {vc n : Nat} {A : List Pd} (h : Row B w (.slice va n vc) A) (hn : n = A.length) : DsIn w va A := by
  subst hn
  exact DsIn_of_owns h.own h.each
/-- A block has turned that is none of its. -/
theorem Row.grown {B : Nat} {w w' : World} {v : Value} {A : List Pd} {r : Option Nat} (h : Row B w v A) (hg : w.grownBy w' r) (hr : ∀ g, v.ownBlock = some g → r ≠ some g) (hp : ∀ x, x ∈ A → x.1.path ≠ [] → ∀ a, x.2.1 = some a → r ≠ some a.block) : Row B w' v A :=
  ⟨ownsN_grown h.own hg hr, fun x hx => (h.each x hx).block fun hp0 a ha => hg.block _ ((h.each x hx).lt hp0 a ha) fun e2 => hp x hx hp0 a ha e2.symm, h.off, h.fresh⟩

theorem pd_news (w : World) (T : TypeId) (x : Pd) (j : Nat) (u : Value) (h : (pdCell x)[j]? = some u) : (w.alloc (Obj.cells #[.int .i64 x.1.kind, .slice x.2.1 x.1.path.length x.2.2, .int .i64 x.1.pos, .int .i64 x.1.many, .string x.1.lab] T)).cell? ((⟨w.heap.size, 0, none⟩ : Addr).add j) = some u := by
  refine World.news_of_block (cs := #[.int .i64 x.1.kind, .slice x.2.1 x.1.path.length x.2.2, .int .i64 x.1.pos, .int .i64 x.1.many, .string x.1.lab]) (t := T) (fr := (0, 0)) ?_ j u h
  show (w.heap.push _)[w.heap.size]? = _
  simp
/-- A deed is put behind: what append comes to. -/
theorem Row.push {B : Nat} {w : World} {va : Option Addr} {vc n : Nat} {A : List Pd} (h : Row B w (.slice va n vc) A) (hn : n = A.length) (x : Pd) (hx : DIn w x.1 x.2.1 x.2.2) (hf : x.1.path ≠ [] → ∀ a, x.2.1 = some a → B ≤ a.block ∧ (Value.slice va n vc).ownBlock ≠ some a.block) (hl : A.length ≤ 1000) (hB : B ≤ w.heap.size) :
    ∃ va' vc' w', (Builtin.append_ #[22, 22] 22 #[.slice va n vc, .slice (some ⟨w.heap.size, 0, none⟩) 1 1]).run Tryd.prog (w.alloc (Obj.cells #[.int .i64 x.1.kind, .slice x.2.1 x.1.path.length x.2.2, .int .i64 x.1.pos, .int .i64 x.1.many, .string x.1.lab] 35)) = .ok (.slice va' (n + 1) vc') w' ∧ Row B w' (.slice va' (n + 1) vc') (A ++ [x]) ∧ w.grownBy w' (Value.slice va n vc).ownBlock ∧ ((Value.slice va' (n + 1) vc').ownBlock = (Value.slice va n vc).ownBlock ∨ (Value.slice va' (n + 1) vc').ownBlock = some (w.heap.size + 1)) := by
  subst hn
  obtain ⟨i0, hi0, hz0, hz1, hz2⟩ := info_parts Tryd.infoDeed
  obtain ⟨W, hW⟩ : ∃ W, W = w.alloc (Obj.cells #[.int .i64 x.1.kind, .slice x.2.1 x.1.path.length x.2.2, .int .i64 x.1.pos, .int .i64 x.1.many, .string x.1.lab] 35) := ⟨_, rfl⟩
  have bW : Below w.heap.size w W := by rw [hW]; exact (Below.refl _ _).alloc (Nat.le_refl _) _
  have sW : W.heap.size = w.heap.size + 1 := by rw [hW]; simp
  have hW1 := h.below bW
  obtain ⟨v', w', hr, hown', hgrow, _, hat⟩ := run_append_own_at (P := Tryd.prog) W B 22 22 35 i0 _ 5 64 Tryd.underlying22 hi0 hz0 hz1 hz2 rfl (by decide) _ A.length _ hW1.own ⟨w.heap.size, 0, none⟩ 1 1 (pdCell x) rfl (fun j u hu => by rw [hW]; exact pd_news w _ x j u hu) (pdCell_one x) (by unfold maxLen; omega) (by omega) (by omega)
  have e5 : pdCells A ++ pdCell x = pdCells (A ++ [x]) := by rw [pdCells_append]; simp [pdCells]
  rw [e5] at hown'
  obtain ⟨va', vc', rfl, h1, h2⟩ := ownsN_form hown'
  have hgw : w.grownBy w' (Value.slice va A.length vc).ownBlock := grownBy_trans (grownBy_of_below bW _) hgrow (Or.inl rfl)
  rw [sW] at hat
  have hall : ∀ y, y ∈ A ++ [x] → DIn w y.1 y.2.1 y.2.2 ∧ (y.1.path ≠ [] → ∀ a, y.2.1 = some a → B ≤ a.block ∧ (Value.slice va A.length vc).ownBlock ≠ some a.block) := fun y hy => by
    rcases List.mem_append.1 hy with hy | hy
    · exact ⟨h.each y hy, fun hp a ha => ⟨h.fresh y hy hp a ha, h.off y hy hp a ha⟩⟩
    · simp only [List.mem_cons, List.not_mem_nil, or_false] at hy
      subst hy
      exact ⟨hx, hf⟩
  refine ⟨va', vc', w', by rw [← hW]; exact hr, ⟨by simpa using hown', fun y hy => ?_, fun y hy hp a ha => ?_, fun y hy hp a ha => ((hall y hy).2 hp a ha).1⟩, hgw, hat⟩
  · exact (hall y hy).1.block fun hp a ha => hgw.block _ ((hall y hy).1.lt hp a ha) fun e => ((hall y hy).2 hp a ha).2 e.symm
  · rcases hat with e | e
    · rw [e]
      exact ((hall y hy).2 hp a ha).2
    · rw [e]
      have := (hall y hy).1.lt hp a ha
      intro e2
      injection e2 with e2
      omega
/-- A tree none of whose blocks has turned. -/
theorem TIn.grown {w w' : World} {r : Option Nat} (h : w.grownBy w' r) {s : ByteArray} {ka : Option Addr} {cap : Nat} {k : Fo} (ho : ∀ g, r = some g → FOff g k) (ht : TIn w s ka cap k) (hp : FPlain w k) : TIn w' s ka cap k ∧ FPlain w' k := by
  cases r with
  | none =>
    have hb : Below w.heap.size w w' := ⟨h.os, h.tape, h.output, h.size, fun q hq => h.block q hq (by simp)⟩
    exact ⟨ht.below hb, hp.below hb⟩
  | some g =>
    have hs : ∀ b, b < w.heap.size → b ≠ g → w'.heap[b]? = w.heap[b]? := fun b hb hne => h.block b hb (by simpa using hne)
    exact ⟨TIn.but hs (ho g rfl) ht, FPlain.but hs (ho g rfl) hp⟩
end Go.Proofs.YtkoohfkomlmhoacDoor.Deed
namespace Go.Proofs.YtkoohfkomlmhoacDoor.Pat
open Go.Deep Go.RowKit Deed
set_option linter.unusedVariables false
set_option maxRecDepth 20000

theorem wpList_append_run {P : Program} {w : World} {ops : Array Oper} {rest : List Oper} {o : Oper} {a : Act} {Q : Exit → Act → World → Prop} (hgd : o.guard = none) (s x : Operand) (t : TypeId)
    (ho : o.op = .call { callee := .builtin .append, args := #[s, x], argTypes := #[t, t] }) (ht : o.type = t) {vs vx v : Value} {w' : World} (hr : (Builtin.append_ #[t, t] t #[vs, vx]).run P w = .ok v w') (hs : a.eval s = vs) (hx : a.eval x = vx) (h : wpList P ops Q rest (a.put o.dst v) w') :
    wpList P ops Q (o :: rest) a w := by
  refine wpList_plain hgd fun K hK => ?_
  unfold Oper.wp execOp
  simp only [ho, ht, resolve, invoke, builtin, Sem.run_bind, Sem.run_pure, Result.andThen_ok, List.map_toArray, List.map_cons, List.map_nil, hs, hx, hr]
  exact hK _ _ h
theorem parse_short {s : List UInt8} (h : s ≠ []) (hl : (cutP 10 s).getLastD [] ≠ []) : parseP s = ([], 5, (((cutP 10 s).length - 1 : Nat) : Int)) := by
  unfold parseP
  rw [if_neg h, if_pos hl]
theorem parse_many {s : List UInt8} (h : s ≠ []) (hl : (cutP 10 s).getLastD [] = []) (hm : 80 < (cutP 10 s).length - 1) : parseP s = ([], 2, -1) := by
  unfold parseP
  rw [if_neg h, if_neg (fun h => h hl), if_pos hm]
theorem parse_bad {s : List UInt8} (h : s ≠ []) (hl : (cutP 10 s).getLastD [] = []) (hm : ¬ 80 < (cutP 10 s).length - 1) {i : Nat} {x : List UInt8} (h0 : ∀ y, y ∈ (cutP 10 s).dropLast.take i → deedC y = 0) (hx : (cutP 10 s).dropLast[i]? = some x) (hc : deedC x ≠ 0) : parseP s = ([], deedC x, (i : Int)) := by
  unfold parseP
  rw [if_neg h, if_neg (fun h => h hl), if_neg hm, bad_at h0 hx hc]
  simp
theorem parse_all {s : List UInt8} (h : s ≠ []) (hl : (cutP 10 s).getLastD [] = []) (hm : ¬ 80 < (cutP 10 s).length - 1) (h0 : ∀ y, y ∈ (cutP 10 s).dropLast → deedC y = 0) : parseP s = ((cutP 10 s).dropLast.map deedP, 0, 0) := by
  unfold parseP
  rw [if_neg h, if_neg (fun h => h hl), if_neg hm, none_bad h0]
/-- What DeedsIn tells. -/
def DeedsEnd (s : List UInt8) (w : World) (e : Ending) (w' : World) : Prop :=
  ∃ va vc A, e = .returned (.tuple #[.slice va (List.length (α := Pd) A) vc, .agg #[.int .i64 (parseP s).2.1, .int .i64 (parseP s).2.2]]) ∧ dds A = (parseP s).1 ∧ DsIn w' va A ∧ A.length ≤ vc ∧ vc ≤ maxLen ∧ Below w.heap.size w w'
theorem ds_nil (w : World) : DsIn w none [] := (Row.nil 0 w).ds rfl
theorem deeds_empty {s : List UInt8} {w w' : World} {e : Ending} {c q : Int} (h : parseP s = ([], c, q)) (he : e = .returned (.tuple #[.slice none 0 0, .agg #[.int .i64 c, .int .i64 q]])) (hb : Below w.heap.size w w') : DeedsEnd s w e w' := by
  refine ⟨none, 0, [], ?_, ?_, ds_nil w', Nat.le_refl _, by unfold maxLen; exact Nat.zero_le _, hb⟩
  · rw [he, h]; rfl
  · rw [h]; rfl

end Go.Proofs.YtkoohfkomlmhoacDoor.Pat
