/- Two lists of deeds that grow beside each other, and what thin's loop keeps. Of no program. -/
/- done of package pleachingref: a node is put in, some kids beneath it. Of the program's text. -/
/- done of package pleachingref: where the deed's place is out of range; a step down the path. Of the program's text. -/
import Derived.Test.YtcknganggcbkjabGS15
import Derived.Test.YtcknganggcbkjabGS19
import Derived.Test.YtcknganggcbkjabGS11
import Derived.Deep.DeepCutAuto
import Derived.Test.YtcknganggcbkjabGS04
namespace Go.Proofs.Ytcknganggcbkjab.Scr
open Go.Deep Go.RowKit Deed
set_option linter.unusedVariables false
set_option maxRecDepth 20000

def dObj (x : Deed.Pd) : Obj := Obj.cells #[.int .i64 x.1.kind, .slice x.2.1 x.1.path.length x.2.2, .int .i64 x.1.pos, .int .i64 x.1.many, .string x.1.lab] 44
/-- A deed that lies in a box is put behind. -/
theorem Row.pushAt {B : Nat} {w : World} {va : Option Addr} {vc n : Nat} {A : List Deed.Pd} (h : Row B w (.slice va n vc) A) (hn : n = A.length) (x : Deed.Pd) (hx : DIn w x.1 x.2.1 x.2.2) (hf : x.1.path ≠ [] → ∀ a, x.2.1 = some a → B ≤ a.block ∧ (Value.slice va n vc).ownBlock ≠ some a.block) (e : Nat) (he : w.heap[e]? = some (dObj x)) (hl : A.length ≤ 1000) (hB : B ≤ w.heap.size) :
    ∃ va' vc' w', (Builtin.append_ #[54, 54] 54 #[.slice va n vc, .slice (some ⟨e, 0, none⟩) 1 1]).run Try.prog w = .ok (.slice va' (n + 1) vc') w' ∧ Row B w' (.slice va' (n + 1) vc') (A ++ [x]) ∧ w.grownBy w' (Value.slice va n vc).ownBlock ∧ ((Value.slice va' (n + 1) vc').ownBlock = (Value.slice va n vc).ownBlock ∨ (Value.slice va' (n + 1) vc').ownBlock = some w.heap.size) := by
  subst hn
  obtain ⟨i0, hi0, hz0, hz1, hz2⟩ := info_parts Try.infoDeed
  obtain ⟨v', w', hr, hown', hgw, _, hat⟩ := run_append_own_at (P := Try.prog) w B 54 54 44 i0 _ 5 64 Try.underlying54 hi0 hz0 hz1 hz2 rfl (by decide) _ A.length _ h.own ⟨e, 0, none⟩ 1 1 (Deed.pdCell x) rfl (fun j u hu => World.news_of_block (cs := #[.int .i64 x.1.kind, .slice x.2.1 x.1.path.length x.2.2, .int .i64 x.1.pos, .int .i64 x.1.many, .string x.1.lab]) (t := 44) (fr := (0, 0)) he j u hu) (Deed.pdCell_one x) (by unfold maxLen; omega) (by omega) hB
  have e5 : Deed.pdCells A ++ Deed.pdCell x = Deed.pdCells (A ++ [x]) := by rw [Deed.pdCells_append]; simp [Deed.pdCells]
  rw [e5] at hown'
  obtain ⟨va', vc', rfl, h1, h2⟩ := ownsN_form hown'
  have hall : ∀ y, y ∈ A ++ [x] → DIn w y.1 y.2.1 y.2.2 ∧ (y.1.path ≠ [] → ∀ a, y.2.1 = some a → B ≤ a.block ∧ (Value.slice va A.length vc).ownBlock ≠ some a.block) := fun y hy => by
    rcases List.mem_append.1 hy with hy | hy
    · exact ⟨h.each y hy, fun hp a ha => ⟨h.fresh y hy hp a ha, h.off y hy hp a ha⟩⟩
    · simp only [List.mem_cons, List.not_mem_nil, or_false] at hy
      subst hy
      exact ⟨hx, hf⟩
  refine ⟨va', vc', w', hr, ⟨by simpa using hown', fun y hy => ?_, fun y hy hp a ha => ?_, fun y hy hp a ha => ((hall y hy).2 hp a ha).1⟩, hgw, hat⟩
  · exact (hall y hy).1.block fun hp a ha => hgw.block _ ((hall y hy).1.lt hp a ha) fun e => ((hall y hy).2 hp a ha).2 e.symm
  · rcases hat with e | e
    · rw [e]
      exact ((hall y hy).2 hp a ha).2
    · rw [e]
      have := (hall y hy).1.lt hp a ha
      intro e2
      injection e2 with e2
      omega

/-- Two such lists, apart. -/
structure Two (B : Nat) (w : World) (v5 v6 : Value) (A K : List Deed.Pd) : Prop where
  ra : Row B w v5 A
  rb : Row B w v6 K
  ne : ∀ g, v5.ownBlock = some g → v6.ownBlock ≠ some g
  ab : ∀ x, x ∈ A → x.1.path ≠ [] → ∀ a, x.2.1 = some a → v6.ownBlock ≠ some a.block
  ba : ∀ x, x ∈ K → x.1.path ≠ [] → ∀ a, x.2.1 = some a → v5.ownBlock ≠ some a.block
theorem Two.swap {B : Nat} {w : World} {v5 v6 : Value} {A K : List Deed.Pd} (h : Two B w v5 v6 A K) : Two B w v6 v5 K A := ⟨h.rb, h.ra, fun g hg e => h.ne g e hg, h.ba, h.ab⟩
theorem Two.keep {B : Nat} {w w' : World} {v5 v6 : Value} {A K : List Deed.Pd} (h : Two B w v5 v6 A K) (hs : ∀ q, B ≤ q → q < w.heap.size → w'.heap[q]? = w.heap[q]?) : Two B w' v5 v6 A K := ⟨h.ra.keep hs, h.rb.keep hs, h.ne, h.ab, h.ba⟩
theorem Two.below {B : Nat} {w w' : World} {v5 v6 : Value} {A K : List Deed.Pd} (h : Two B w v5 v6 A K) (hb : Below w.heap.size w w') : Two B w' v5 v6 A K := h.keep fun q _ hq => hb.block q hq
theorem Two.nil (B : Nat) (w : World) : Two B w (.slice none 0 0) (.slice none 0 0) [] [] := ⟨Row.nil _ _, Row.nil _ _, fun g hg => by (cases hg), fun x hx => by simp at hx, fun x hx => by simp at hx⟩
theorem Two.push {B : Nat} {w : World} {va : Option Addr} {vc n : Nat} {v6 : Value} {A K : List Deed.Pd} (h : Two B w (.slice va n vc) v6 A K) (hn : n = A.length) (x : Deed.Pd) (hx : DIn w x.1 x.2.1 x.2.2) (hf : x.1.path ≠ [] → ∀ a, x.2.1 = some a → B ≤ a.block ∧ (Value.slice va n vc).ownBlock ≠ some a.block ∧ v6.ownBlock ≠ some a.block) (e : Nat) (he : w.heap[e]? = some (dObj x)) (hl : A.length ≤ 1000) (hB : B ≤ w.heap.size) :
    ∃ va' vc' w', (Builtin.append_ #[54, 54] 54 #[.slice va n vc, .slice (some ⟨e, 0, none⟩) 1 1]).run Try.prog w = .ok (.slice va' (n + 1) vc') w' ∧ Two B w' (.slice va' (n + 1) vc') v6 (A ++ [x]) K ∧ w.grownBy w' (Value.slice va n vc).ownBlock ∧ ((Value.slice va' (n + 1) vc').ownBlock = (Value.slice va n vc).ownBlock ∨ (Value.slice va' (n + 1) vc').ownBlock = some w.heap.size) := by
  obtain ⟨va', vc', w', hr, hrow, hg, hat⟩ := Row.pushAt h.ra hn x hx (fun hp a ha => ⟨(hf hp a ha).1, (hf hp a ha).2.1⟩) e he hl hB
  refine ⟨va', vc', w', hr, ⟨hrow, h.rb.grown hg (fun g hg' e => h.ne g e hg') (fun y hy hp a ha => h.ba y hy hp a ha), fun g hg' e => ?_, fun y hy hp a ha => ?_, fun y hy hp a ha e => ?_⟩, hg, hat⟩
  · rcases hat with e2 | e2
    · exact h.ne g (e2 ▸ hg') e
    · rw [e2] at hg'
      injection hg' with hg'
      have := (ownBlockN_lt h.rb.own e).2
      omega
  · rcases List.mem_append.1 hy with hy | hy
    · exact h.ab y hy hp a ha
    · simp only [List.mem_cons, List.not_mem_nil, or_false] at hy
      subst hy
      exact (hf hp a ha).2.2
  · rcases hat with e2 | e2
    · exact h.ba y hy hp a ha (e2 ▸ e)
    · rw [e2] at e
      injection e with e
      have := (h.rb.each y hy).lt hp a ha
      omega

/-- Behind both appends. -/
structure Fin2 (B : Nat) (V w8 : World) (v5 v6 u5 u6 : Value) (A K : List Deed.Pd) : Prop where
  two : Two B w8 u5 u6 A K
  keep : ∀ q, q < V.heap.size → v5.ownBlock ≠ some q → v6.ownBlock ≠ some q → w8.heap[q]? = V.heap[q]?
  size : V.heap.size ≤ w8.heap.size
  below : Below B V w8
  o5 : u5.ownBlock = v5.ownBlock ∨ ∀ g, u5.ownBlock = some g → V.heap.size ≤ g
  o6 : u6.ownBlock = v6.ownBlock ∨ ∀ g, u6.ownBlock = some g → V.heap.size ≤ g
  tr : ∀ s ka cap k, TIn V s ka cap k → FPlain V k → (∀ g, v5.ownBlock = some g → FOff g k) → (∀ g, v6.ownBlock = some g → FOff g k) → TIn w8 s ka cap k ∧ FPlain w8 k
/-- Both one-deed boxes stand, then both are put behind. -/
theorem fin2_mk {B : Nat} {V U w4 W w8 : World} {v5 v6 u5 u6 : Value} {A K A' K' : List Deed.Pd} (hV : Two B V v5 v6 A K) (hB : B ≤ V.heap.size) (b1 : Below V.heap.size V U) (g1 : U.grownBy w4 v5.ownBlock) (b2 : Below w4.heap.size w4 W) (g2 : W.grownBy w8 v6.ownBlock) (h8 : Two B w8 u5 u6 A' K') (o5 : u5.ownBlock = v5.ownBlock ∨ u5.ownBlock = some U.heap.size) (o6 : u6.ownBlock = v6.ownBlock ∨ u6.ownBlock = some W.heap.size) : Fin2 B V w8 v5 v6 u5 u6 A' K' := by
  have z1 := b1.size
  have z2 := g1.size
  have z3 := b2.size
  have z4 := g2.size
  refine ⟨h8, fun q hq h5 h6 => ?_, by omega, ?_, ?_, ?_, fun s ka cap k ht hp h5 h6 => ?_⟩
  · rw [grown_off g2 (c := q) (by omega) h6, b2.block q (by omega), grown_off g1 (c := q) (by omega) h5, b1.block q hq]
  · have e1 : Below B V w4 := (b1.mono hB).grown g1 (by omega) (fun g hg => (ownBlockN_lt hV.ra.own hg).1)
    exact (e1.trans (b2.mono (by omega))).grown g2 (by omega) (fun g hg => (ownBlockN_lt hV.rb.own hg).1)
  · rcases o5 with e | e
    · exact Or.inl e
    · refine Or.inr fun g hg => ?_
      rw [e] at hg
      injection hg with hg
      omega
  · rcases o6 with e | e
    · exact Or.inl e
    · refine Or.inr fun g hg => ?_
      rw [e] at hg
      injection hg with hg
      omega
  · obtain ⟨t4, p4⟩ := TIn.grown g1 h5 (ht.below b1) (hp.below b1)
    exact TIn.grown g2 h6 (t4.below b2) (p4.below b2)

/-- Behind the first of both appends. -/
structure Mid (B : Nat) (V U w4 : World) (v5 v6 u5 : Value) (A K : List Deed.Pd) (x : Deed.Pd) : Prop where
  hV : Two B V v5 v6 A K
  hB : B ≤ V.heap.size
  b1 : Below V.heap.size V U
  two : Two B w4 u5 v6 (A ++ [x]) K
  g1 : U.grownBy w4 v5.ownBlock
  o5 : u5.ownBlock = v5.ownBlock ∨ u5.ownBlock = some U.heap.size
theorem mid_mk {B : Nat} {V U : World} {va : Option Addr} {vc n : Nat} {v6 : Value} {A K : List Deed.Pd} (h : Two B V (.slice va n vc) v6 A K) (hn : n = A.length) (hB : B ≤ V.heap.size) (b1 : Below V.heap.size V U) (x : Deed.Pd) (hx : DIn V x.1 x.2.1 x.2.2) (hf : x.1.path ≠ [] → ∀ a, x.2.1 = some a → B ≤ a.block ∧ (Value.slice va n vc).ownBlock ≠ some a.block ∧ v6.ownBlock ≠ some a.block) (e : Nat) (he : U.heap[e]? = some (dObj x)) (hl : A.length ≤ 1000) :
    ∃ va' vc' w4, (Builtin.append_ #[54, 54] 54 #[.slice va n vc, .slice (some ⟨e, 0, none⟩) 1 1]).run Try.prog U = .ok (.slice va' (n + 1) vc') w4 ∧ Mid B V U w4 (.slice va n vc) v6 (.slice va' (n + 1) vc') A K x ∧ n + 1 ≤ vc' ∧ vc' ≤ maxLen := by
  obtain ⟨va', vc', w4, hr, h2, hg, ho⟩ := (h.below b1).push hn x (hx.below b1) hf e he hl (Nat.le_trans hB b1.size)
  obtain ⟨va2, vc2, e2, h3, h4⟩ := ownsN_form h2.ra.own
  injection e2 with e3 e4 e5
  subst e5
  exact ⟨va', vc', w4, hr, ⟨h, hB, b1, h2, hg, ho⟩, by omega, h4⟩
theorem fin_mk {B : Nat} {V U w4 W : World} {va : Option Addr} {vc n : Nat} {v5 u5 : Value} {A K : List Deed.Pd} {x : Deed.Pd} (h : Mid B V U w4 v5 (.slice va n vc) u5 A K x) (hn : n = K.length) (b2 : Below w4.heap.size w4 W) (y : Deed.Pd) (hy : DIn V y.1 y.2.1 y.2.2) (hf : y.1.path ≠ [] → ∀ a, y.2.1 = some a → B ≤ a.block ∧ (Value.slice va n vc).ownBlock ≠ some a.block ∧ v5.ownBlock ≠ some a.block) (e : Nat) (he : W.heap[e]? = some (dObj y)) (hl : K.length ≤ 1000) :
    ∃ va' vc' w8, (Builtin.append_ #[54, 54] 54 #[.slice va n vc, .slice (some ⟨e, 0, none⟩) 1 1]).run Try.prog W = .ok (.slice va' (n + 1) vc') w8 ∧ Fin2 B V w8 v5 (.slice va n vc) u5 (.slice va' (n + 1) vc') (A ++ [x]) (K ++ [y]) ∧ n + 1 ≤ vc' ∧ vc' ≤ maxLen ∧ W.grownBy w8 (Value.slice va n vc).ownBlock := by
  have z1 := h.b1.size
  have z2 := h.g1.size
  have z3 := b2.size
  have hB := h.hB
  have hyU := hy.below h.b1
  have hy4 : DIn w4 y.1 y.2.1 y.2.2 := hyU.block fun hp a ha => grown_off h.g1 (hyU.lt hp a ha) (hf hp a ha).2.2
  obtain ⟨va', vc', w8, hr, h2, hg, ho⟩ := (h.two.swap.below b2).push hn y (hy4.below b2) (fun hp a ha => ⟨(hf hp a ha).1, (hf hp a ha).2.1, fun e2 => by
    rcases h.o5 with e3 | e3
    · exact (hf hp a ha).2.2 (e3 ▸ e2)
    · rw [e3] at e2
      injection e2 with e2
      have := hy.lt hp a ha
      omega⟩) e he hl (by omega)
  obtain ⟨va2, vc2, e2, h3, h4⟩ := ownsN_form h2.ra.own
  injection e2 with e3 e4 e5
  subst e5
  exact ⟨va', vc', w8, hr, fin2_mk h.hV h.hB h.b1 h.g1 b2 hg h2.swap h.o5 ho, by omega, h4, hg⟩

/-- What thin's loop keeps. -/
structure TInv (w : World) (p : Nat → Bool) (t : ByteArray × Fo) (i : Nat) (wr : World) (x : ByteArray) (ka : Option Addr) (cap : Nat) (kk : Fo) (v5 v6 : Value) (A K : List Deed.Pd) : Prop where
  tr : (thAt p t i).t = (x, strip kk)
  aw : dds A = (thAt p t i).away
  bk : dds K = (thAt p t i).back
  tin : TIn wr x ka cap kk
  plain : FPlain wr kk
  off1 : FOff (w.heap.size + 1) kk
  two : Two (w.heap.size + 2) wr v5 v6 A K
  off5 : ∀ g, v5.ownBlock = some g → FOff g kk
  off6 : ∀ g, v6.ownBlock = some g → FOff g kk
  box : wr.heap[w.heap.size + 1]? = some (Obj.cells #[.string x, .slice ka (flen kk) cap] 24)
  below : Below w.heap.size w wr
  size : w.heap.size + 2 ≤ wr.heap.size
theorem TInv.on {w : World} {p : Nat → Bool} {t : ByteArray × Fo} {i : Nat} {wr w2 : World} {x : ByteArray} {ka : Option Addr} {cap : Nat} {kk : Fo} {v5 v6 : Value} {A K : List Deed.Pd} (h : TInv w p t i wr x ka cap kk v5 v6 A K) (hb : Below wr.heap.size wr w2) : TInv w p t i w2 x ka cap kk v5 v6 A K := by
  have hz := h.size
  exact ⟨h.tr, h.aw, h.bk, h.tin.below hb, h.plain.below hb, h.off1, h.two.below hb, h.off5, h.off6, by rw [hb.block _ (by omega)]; exact h.box, h.below.trans (hb.mono (by omega)), by have := hb.size; omega⟩
theorem TInv.stay {w : World} {p : Nat → Bool} {t : ByteArray × Fo} {i : Nat} {wr : World} {x : ByteArray} {ka : Option Addr} {cap : Nat} {kk : Fo} {v5 v6 : Value} {A K : List Deed.Pd} (h : TInv w p t i wr x ka cap kk v5 v6 A K) (hp : p i = true) : TInv w p t (i + 1) wr x ka cap kk v5 v6 A K :=
  ⟨by rw [th_yes hp]; exact h.tr, by rw [th_yes hp]; exact h.aw, by rw [th_yes hp]; exact h.bk, h.tin, h.plain, h.off1, h.two, h.off5, h.off6, h.box, h.below, h.size⟩
theorem TInv.lens {w : World} {p : Nat → Bool} {t : ByteArray × Fo} {i : Nat} {wr : World} {x : ByteArray} {ka : Option Addr} {cap : Nat} {kk : Fo} {v5 v6 : Value} {A K : List Deed.Pd} (h : TInv w p t i wr x ka cap kk v5 v6 A K) : A.length = (thAt p t i).away.length ∧ K.length = A.length ∧ A.length ≤ i := by
  have h1 := th_len p t i
  have h2 := congrArg List.length h.aw
  have h3 := congrArg List.length h.bk
  rw [dds_len] at h2 h3
  omega
theorem TInv.step {w : World} {p : Nat → Bool} {t : ByteArray × Fo} {i : Nat} {wr : World} {x : ByteArray} {ka : Option Addr} {cap : Nat} {kk : Fo} {v5 v6 u5 u6 : Value} {A K : List Deed.Pd} (h : TInv w p t i wr x ka cap kk v5 v6 A K) (hp : p i = false) {D : Dd} (hD : D = (thAt p t i).d i) {R : Int × (ByteArray × Fo) × Dd} (hR : R = doP D x kk)
    {V1 w2 V w8 : World} (b1 : Below wr.heap.size wr V1) (b2 : Below V1.heap.size V1 w2) (b3 : Below w2.heap.size w2 V) {x' : ByteArray} {ka' : Option Addr} {cap' : Nat} {k' : Fo} {pa qa : Option Addr} {pc qc : Nat} (hx : x' = R.2.1.1) (hk : strip k' = R.2.1.2) (ht : TIn w2 x' ka' cap' k') (hf : FFrom V1.heap.size k') (hpl : FPlain w2 k')
    (hF : Fin2 (w.heap.size + 2) V w8 v5 v6 u5 u6 (A ++ [(D, pa, pc)]) (K ++ [(R.2.2, qa, qc)])) :
    TInv w p t (i + 1) ((w8.setCell ⟨w.heap.size + 1, 0, none⟩ (.string x')).setCell ⟨w.heap.size + 1, 1, none⟩ (.slice ka' (flen k') cap')) x' ka' cap' k' u5 u6 (A ++ [(D, pa, pc)]) (K ++ [(R.2.2, qa, qc)]) := by
  have hsz := h.size
  have z1 := b1.size
  have z2 := b2.size
  have z3 := b3.size
  have z8 := hF.size
  have own5 : ∀ g, v5.ownBlock = some g → w.heap.size + 2 ≤ g ∧ g < wr.heap.size := fun g hg => ownBlockN_lt h.two.ra.own hg
  have own6 : ∀ g, v6.ownBlock = some g → w.heap.size + 2 ≤ g ∧ g < wr.heap.size := fun g hg => ownBlockN_lt h.two.rb.own hg
  have bV : Below V1.heap.size V1 V := b2.trans (b3.mono z2)
  have bR : Below wr.heap.size wr V := b1.trans (bV.mono z1)
  have o1 : FOff (w.heap.size + 1) k' := hf.off (by omega)
  have offnew : ∀ (v u : Value), (∀ g, v.ownBlock = some g → w.heap.size + 2 ≤ g ∧ g < wr.heap.size) → (u.ownBlock = v.ownBlock ∨ ∀ g, u.ownBlock = some g → V.heap.size ≤ g) → ∀ g, u.ownBlock = some g → FOff g k' := fun v u hv ho g hg => by
    rcases ho with e | e
    · exact hf.off (by have := (hv g (e ▸ hg)).2; omega)
    · have hg' := e g hg
      rcases (ht.below b3).kids with h1 | ⟨kb, ko, e1, hfi⟩
      · rw [h1]; trivial
      · exact FIn.off hg' hfi
  have tw8 := hF.tr _ _ _ _ (ht.below b3) (hpl.below b3) (fun g hg => hf.off (by have := (own5 g hg).2; omega)) (fun g hg => hf.off (by have := (own6 g hg).2; omega))
  refine ⟨?_, ?_, ?_, TIn.set (TIn.set tw8.1 o1) o1, FPlain.set (FPlain.set tw8.2 o1) o1, o1, hF.two.keep (fun q hq _ => box2_off (by omega)), offnew v5 u5 own5 hF.o5, offnew v6 u6 own6 hF.o6, box2_set (a := .string x) (b := .slice ka (flen kk) cap) ?_, ?_, ?_⟩
  · rw [th_no hp, ← hD]
    have e : doP D (thAt p t i).t.1 (thAt p t i).t.2 = R := by rw [h.tr, hR]; exact doP_strip _ _ _
    rw [e]
    simp only
    rw [hx, hk]
  · rw [th_no hp, dds_append, h.aw, ← hD]
    rfl
  · rw [th_no hp, dds_append, h.bk, ← hD]
    have e : doP D (thAt p t i).t.1 (thAt p t i).t.2 = R := by rw [h.tr, hR]; exact doP_strip _ _ _
    rw [e]
    rfl
  · rw [hF.keep _ (by omega) (fun e => by have := (own5 _ e).1; omega) (fun e => by have := (own6 _ e).1; omega), bR.block _ (by omega)]
    exact h.box
  · have e1 : Below w.heap.size w w8 := (h.below.trans (bR.mono (by omega))).trans (hF.below.mono (by omega))
    exact (e1.setCell (by simp only; omega) _).setCell (by simp only; omega) _
  · simp [World.setCell]
    omega
end Go.Proofs.Ytcknganggcbkjab.Scr
namespace Go.Proofs.Ytcknganggcbkjab.Deed
open Go.Deep Go.RowKit
set_option linter.unusedVariables false
set_option maxRecDepth 20000

/-- The tree that is made, its kids so far. -/
structure InsInv (w : World) (s : ByteArray) (ka : Option Addr) (cap : Nat) (k : Fo) (od : Obj) (G : Gs) (wr : World) (va : Option Addr) (vc : Nat) (L : List It) : Prop where
  c0 : wr.heap[w.heap.size]? = some (Obj.cells #[Value.string s, Value.slice ka (flen k) cap] 24)
  c1 : wr.heap[w.heap.size + 1]? = some od
  c2 : wr.heap[w.heap.size + 1 + 1]? = some (Obj.cells #[Value.string ⟨#[]⟩, Value.slice none 0 0] 24)
  c3 : wr.heap[w.heap.size + 1 + 1 + 1]? = some (Obj.cells #[Value.string s, Value.slice va L.length vc] 24)
  kin : KInv 24 (w.heap.size + 1 + 1 + 1 + 1) wr (.slice va L.length vc) L
  told : L.map bareIt = G
  below : Below w.heap.size w wr
  size : w.heap.size + 1 + 1 + 1 + 1 ≤ wr.heap.size

theorem InsInv.start {w W wr : World} {s : ByteArray} {ka : Option Addr} {cap : Nat} {k : Fo} {od : Obj} (hW : W = (((w.alloc (Obj.cells #[Value.string s, Value.slice ka (flen k) cap] 24)).alloc od).alloc (Obj.cells #[Value.string ⟨#[]⟩, Value.slice none 0 0] 24)).alloc (Obj.cells #[Value.string s, Value.slice none 0 0] 24)) (hb : Below (w.heap.size + 1 + 1 + 1 + 1) W wr) :
    InsInv w s ka cap k od [] wr none 0 [] := by
  obtain ⟨hWs, hB, c0, c1, c2, c3⟩ := boxes4 w (Obj.cells #[Value.string s, Value.slice ka (flen k) cap] 24) od (Obj.cells #[Value.string ⟨#[]⟩, Value.slice none 0 0] 24) (Obj.cells #[Value.string s, Value.slice none 0 0] 24)
  rw [← hW] at hWs hB c0 c1 c2 c3
  exact ⟨by rw [hb.block _ (by omega)]; exact c0, by rw [hb.block _ (by omega)]; exact c1, by rw [hb.block _ (by omega)]; exact c2, by rw [hb.block _ (by omega)]; exact c3, KInv.start _ _ _, rfl, hB.trans (hb.mono (by omega)), by have := hb.size; omega⟩
theorem InsInv.next {w : World} {s : ByteArray} {ka : Option Addr} {cap : Nat} {k : Fo} {od : Obj} {G G' : Gs} {wr w3 : World} {va va' : Option Addr} {vc vc' : Nat} {L L' : List It} (h : InsInv w s ka cap k od G wr va vc L) (hB : Below (w.heap.size + 1 + 1 + 1 + 1) wr w3)
    (hK : KInv 24 (w.heap.size + 1 + 1 + 1 + 1) w3 (.slice va' L'.length vc') L') (ht : L'.map bareIt = G') :
    w3.heap[w.heap.size + 1 + 1 + 1]? = some (Obj.cells #[Value.string s, Value.slice va L.length vc] 24) ∧ InsInv w s ka cap k od G' (w3.setCell ⟨w.heap.size + 1 + 1 + 1, 1, none⟩ (.slice va' L'.length vc')) va' vc' L' := by
  have hs := h.size
  have hb3 : ∀ b, b < w.heap.size + 1 + 1 + 1 + 1 → w3.heap[b]? = wr.heap[b]? := fun b hlt => hB.block b hlt
  have hc3 : w3.heap[w.heap.size + 1 + 1 + 1]? = some (Obj.cells #[Value.string s, Value.slice va L.length vc] 24) := by rw [hb3 _ (by omega)]; exact h.c3
  refine ⟨hc3, ?_, ?_, ?_, ?_, ?_, ht, ?_, ?_⟩
  · rw [Below.heap_setCell _ _ _ _ (by simp <;> omega), hb3 _ (by omega)]
    exact h.c0
  · rw [Below.heap_setCell _ _ _ _ (by simp <;> omega), hb3 _ (by omega)]
    exact h.c1
  · rw [Below.heap_setCell _ _ _ _ (by simp <;> omega), hb3 _ (by omega)]
    exact h.c2
  · simp [World.setCell, Array.getElem?_modify, hc3]
  · exact hK.but (g0 := w.heap.size + 1 + 1 + 1) (by omega) fun b _ hb => Below.heap_setCell _ _ _ _ hb
  · exact (h.below.trans (hB.mono (by omega))).setCell (by simp <;> omega) _
  · have := hB.size
    simp
    omega

/-- The tree that is made, given back. -/
theorem InsInv.fin {w : World} {s : ByteArray} {ka : Option Addr} {cap : Nat} {k : Fo} {od : Obj} {G : Gs} {wr : World} {va : Option Addr} {vc : Nat} {L : List It} (h : InsInv w s ka cap k od G wr va vc L) (hs : s.size ≤ maxLen) :
    ∃ ka' cap' k', wr.cell? ⟨w.heap.size + 1 + 1, 0, none⟩ = some (.string ⟨#[]⟩) ∧ wr.cell? ⟨w.heap.size + 1 + 1, 1, none⟩ = some (.slice none 0 0) ∧ wr.frozen? ⟨w.heap.size + 1 + 1, 0, none⟩ = false ∧ wr.frozen? ⟨w.heap.size + 1 + 1, 1, none⟩ = false ∧ wr.cell? ⟨w.heap.size + 1 + 1 + 1, 0, none⟩ = some (.string s) ∧ wr.cell? ⟨w.heap.size + 1 + 1 + 1, 1, none⟩ = some (.slice ka' (flen k') cap') ∧
      Hid (DoneEnd (0, s, toFo G) w (.returned (.tuple #[.agg #[.string s, .slice ka' (flen k') cap'], .int .i64 0])) ((wr.setCell ⟨w.heap.size + 1 + 1, 0, none⟩ (.string s)).setCell ⟨w.heap.size + 1 + 1, 1, none⟩ (.slice ka' (flen k') cap'))) := by
  obtain ⟨ka', cap', k', hv, hst, hlc, hcm, hkin, hfr, hpl, _⟩ := h.kin.done2
  have o2 : FOff (w.heap.size + 1 + 1) k' := hfr.off (by omega)
  refine ⟨ka', cap', k', by rw [cell_of_row _ _ 0 _ _ _ h.c2]; rfl, by rw [cell_of_row _ _ 1 _ _ _ h.c2]; rfl, by simp [World.frozen?, h.c2], by simp [World.frozen?, h.c2], by rw [cell_of_row _ _ 0 _ _ _ h.c3]; rfl, ?_, hide ⟨s, ka', cap', k', rfl, fun _ => ⟨rfl, by rw [hst, h.told], TIn.set (TIn.set ⟨hs, hlc, hcm, hkin⟩ o2) o2, hfr.mono (by omega), FPlain.set (FPlain.set hpl o2) o2⟩, (h.below.setCell (by simp <;> omega) _).setCell (by simp <;> omega) _⟩⟩
  rw [cell_of_row _ _ 1 _ _ _ h.c3, ← hv]
  rfl

/-- The node that is put in, in a block of its own. -/
structure KidIn (h : Nat) (wr : World) (bk : Nat) (x : It) (lab : ByteArray) (l : Gs) : Prop where
  blk : wr.heap[bk]? = some (Obj.cells #[.string x.1, .slice x.2.1 (flen x.2.2.2) x.2.2.1] 24)
  tin : ItIn wr x
  lo : h ≤ bk
  frm : FFrom h x.2.2.2
  plain : FPlain wr x.2.2.2
  told : bareIt x = (lab, toFo l)

/-- Its block made ahead of its kids. -/
theorem KidIn.ahead {h bk : Nat} {w5 : World} {lab : ByteArray} {ka : Option Addr} {cap : Nat} {k : Fo} {l : Gs} {a b : Value} (hb : w5.heap[bk]? = some (Obj.cells #[a, b] 24)) (hl : lab.size ≤ maxLen) (h1 : flen k ≤ cap) (h2 : cap ≤ maxLen) (hk : KIn w5 ka k) (hf : FFrom (bk + 1) k) (hh : h ≤ bk) (hp : FPlain w5 k) (hs : strip k = toFo l) :
    KidIn h ((w5.setCell ⟨bk, 0, none⟩ (.string lab)).setCell ⟨bk, 1, none⟩ (.slice ka (flen k) cap)) bk (lab, ka, cap, k) lab l := by
  have ho : FOff bk k := hf.off (by omega)
  refine ⟨by simp [World.setCell, Array.getElem?_modify, hb], TIn.set (TIn.set ⟨hl, h1, h2, hk⟩ ho) ho, hh, hf.mono (by omega), FPlain.set (FPlain.set hp ho) ho, by simp only [bareIt, hs]⟩
/-- Its block made behind its kids. -/
theorem KidIn.behind {h : Nat} {w5 : World} {lab : ByteArray} {ka : Option Addr} {cap : Nat} {k : Fo} {l : Gs} (hl : lab.size ≤ maxLen) (h1 : flen k ≤ cap) (h2 : cap ≤ maxLen) (hk : KIn w5 ka k) (hf : FFrom h k) (hw : h ≤ w5.heap.size) (hp : FPlain w5 k) (hs : strip k = toFo l) :
    KidIn h (w5.alloc (Obj.cells #[.string lab, .slice ka (flen k) cap] 24)) w5.heap.size (lab, ka, cap, k) lab l := by
  have hB : Below w5.heap.size w5 (w5.alloc (Obj.cells #[.string lab, .slice ka (flen k) cap] 24)) := (Below.refl _ _).alloc (Nat.le_refl _) _
  exact ⟨heap_alloc_new _ _, TIn.below hB ⟨hl, h1, h2, hk⟩, hw, hf, hp.below hB, by simp only [bareIt, hs]⟩

/-- A tree that lies in a block of its own, behind a list of one's own. -/
theorem append_at {B b : Nat} {w : World} {va : Option Addr} {vc : Nat} {L : List It} {x : It} (h : KInv 24 B w (.slice va L.length vc) L) (hb : w.heap[b]? = some (Obj.cells #[.string x.1, .slice x.2.1 (flen x.2.2.2) x.2.2.1] 24)) (hx : ItIn w x) (hf : FFrom B x.2.2.2) (hq : FPlain w x.2.2.2) (ho : ∀ g, (Value.slice va L.length vc).ownBlock = some g → FOff g x.2.2.2) (hBw : B ≤ w.heap.size) (hlen : L.length + 1 ≤ 1000000) :
    ∃ va' vc' w', (Builtin.append_ #[22, 22] 22 #[.slice va L.length vc, .slice (some ⟨b, 0, none⟩) 1 1]).run Try.prog w = .ok (.slice va' (L ++ [x]).length vc') w' ∧ KInv 24 B w' (.slice va' (L ++ [x]).length vc') (L ++ [x]) ∧ w.grownBy w' (Value.slice va L.length vc).ownBlock := by
  obtain ⟨i24, hi24, hz0, hz1, hz2⟩ := info_parts Try.infoTree
  obtain ⟨g, cap, w', hr, hown, hgrow, hat, _⟩ := run_append_lies (P := Try.prog) w 22 22 B 24 i24 _ 2 40 Try.underlying22 hi24 hz0 hz1 hz2 rfl (by decide) (.slice va L.length vc) L.length (rowCells L) h.row ⟨b, 0, none⟩ 1 1 (itCells x) rfl (World.news_of_block hb) (own_one x) (by decide) (by unfold maxLen; omega) (by omega) hBw w.heap.size rfl
  refine ⟨some ⟨g, 0, none⟩, cap, w', by rw [List.length_append]; exact hr, ?_, hgrow⟩
  rw [List.length_append]
  refine KInv.join h (L2 := [x]) (fun it hi => ?_) (by simpa [rowCells] using hown) hgrow hat
  have : it = x := by simpa using hi
  subst this
  exact ⟨hx, hf, hq, ho⟩

/-- The kids ahead of it, and it. -/
theorem ins_mid {w : World} {s : ByteArray} {ka : Option Addr} {cap : Nat} {k : Fo} {od : Obj} {wc w5 w6 : World} {bk b : Nat} {x : It} {lab : ByteArray} {l l2 : Gs} {va2 : Option Addr} {vc2 : Nat} {L2 : List It} (h : InsInv w s ka cap k od [] wc none 0 []) (hk : KidIn (w.heap.size + 1 + 1 + 1 + 1) wc bk x lab l) (h2 : KInv 24 wc.heap.size w5 (.slice va2 L2.length vc2) L2) (hL2 : L2.map bareIt = l2) (hn : l2.length ≤ 99999) (hb5 : Below wc.heap.size wc w5) (hb6 : Below w5.heap.size w5 w6) (hbb : w6.heap[b]? = some (Obj.cells #[.string x.1, .slice x.2.1 (flen x.2.2.2) x.2.2.1] 24)) :
    ∃ va' vc' w3 L', (Builtin.append_ #[22, 22] 22 #[.slice va2 L2.length vc2, .slice (some ⟨b, 0, none⟩) 1 1]).run Try.prog w6 = .ok (.slice va' (List.length (α := It) L') vc') w3 ∧ Below wc.heap.size wc w3 ∧ w3.heap[w.heap.size + 1 + 1 + 1]? = some (Obj.cells #[Value.string s, Value.slice none 0 0] 24) ∧ InsInv w s ka cap k od (l2 ++ [(lab, toFo l)]) (w3.setCell ⟨w.heap.size + 1 + 1 + 1, 1, none⟩ (.slice va' L'.length vc')) va' vc' L' := by
  have hs := h.size
  have hl2 : L2.length = l2.length := by rw [← hL2, List.length_map]
  have hb56 : Below wc.heap.size wc w6 := hb5.trans (hb6.mono hb5.size)
  have hz6 := hb56.size
  obtain ⟨va', vc', w3, hr, hK, hg⟩ := append_at (Deed.KInv.below (Deed.KInv.lower h2 hs) hb6) hbb (TIn.below hb56 hk.tin) hk.frm (hk.plain.below hb56) (fun g hg => hk.tin.kids.off (ownBlock_lt h2.row hg).1) (by omega) (by omega)
  have hB : Below wc.heap.size wc w3 := hb56.grown hg hz6 fun q hq => (ownBlock_lt h2.row hq).1
  obtain ⟨e1, e2⟩ := h.next (hB.mono hs) hK (G' := l2 ++ [(lab, toFo l)]) (by rw [List.map_append, hL2, List.map_cons, List.map_nil, hk.told])
  exact ⟨va', vc', w3, _, hr, hB, e1, e2⟩
/-- And the kids behind it. -/
theorem ins_end {w : World} {s : ByteArray} {ka : Option Addr} {cap : Nat} {k : Fo} {od : Obj} {wc w5 : World} {G l2 : Gs} {va va2 : Option Addr} {vc vc2 : Nat} {L L2 : List It} (h : InsInv w s ka cap k od G wc va vc L) (h2 : KInv 24 wc.heap.size w5 (.slice va2 L2.length vc2) L2) (hL2 : L2.map bareIt = l2) (hn : G.length + l2.length ≤ 1000000) (hb5 : Below wc.heap.size wc w5) :
    ∃ va' vc' w3 L', (Builtin.append_ #[22, 22] 22 #[.slice va L.length vc, .slice va2 L2.length vc2]).run Try.prog w5 = .ok (.slice va' (List.length (α := It) L') vc') w3 ∧ Below (w.heap.size + 1 + 1 + 1 + 1) wc w3 ∧ w3.heap[w.heap.size + 1 + 1 + 1]? = some (Obj.cells #[Value.string s, Value.slice va L.length vc] 24) ∧ InsInv w s ka cap k od (G ++ l2) (w3.setCell ⟨w.heap.size + 1 + 1 + 1, 1, none⟩ (.slice va' L'.length vc')) va' vc' L' := by
  have hs := h.size
  have hl2 : L2.length = l2.length := by rw [← hL2, List.length_map]
  have hl1 : L.length = G.length := by rw [← h.told, List.length_map]
  obtain ⟨va', vc', w3, hr, hK, hg, _⟩ := append_K (Deed.KInv.below h.kin hb5) h2 hs (fun g hg => (ownBlock_lt h.kin.row hg).2) (Nat.le_trans hs hb5.size) (by omega)
  have hB : Below (w.heap.size + 1 + 1 + 1 + 1) wc w3 := (hb5.mono hs).grown hg (Nat.le_trans hs hb5.size) fun q hq => (ownBlock_lt h.kin.row hq).1
  obtain ⟨e1, e2⟩ := h.next hB hK (G' := G ++ l2) (by rw [List.map_append, hL2, h.told])
  exact ⟨va', vc', w3, _, hr, hB, e1, e2⟩

/-- What OwnList comes to, as kids of a tree. -/
def OwnKEnd (l : Gs) (w : World) (e : Ending) (w' : World) : Prop := ∃ ka' cap' k', e = .returned (.slice ka' (flen k') cap') ∧ strip k' = toFo l ∧ flen k' ≤ cap' ∧ cap' ≤ maxLen ∧ KIn w' ka' k' ∧ FFrom w.heap.size k' ∧ FPlain w' k' ∧ Below w.heap.size w w'
theorem OwnLEnd.kids {l : Gs} {w w' : World} {e : Ending} (h : OwnLEnd l w e w') : OwnKEnd l w e w' := by
  obtain ⟨va, vc, L, rfl, hK, hLk, hb⟩ := h
  obtain ⟨ka', cap', k', hv, hst, hlc, hcm, hkin, hfr, hpl, _⟩ := hK.done2
  exact ⟨ka', cap', k', by rw [hv], by rw [hst, hLk], hlc, hcm, hkin, hfr, hpl, hb⟩

set_option maxHeartbeats 4000000 in
theorem done_ins (d : Dd) (hk3 : d.kind = 3) (hp0 : 0 ≤ d.pos) (hm0 : 0 ≤ d.many) (s : ByteArray) (ka : Option Addr) (cap : Nat) (k : Fo) (pa pb : Option Addr) (pc qc : Nat) (w : World) (ht : TIn w s ka cap k) (hn : fnodes k < 99999) (hl : d.lab.size ≤ maxLen) (hok : d.pos.toNat + d.many.toNat ≤ flen k) :
    Calls Try.prog 56 #[.agg #[.string s, .slice ka (flen k) cap], ddV d pa pc, .slice pb 0 qc] w (DoneEnd (doneR d [] s k) w) := by
  rw [doneR_ins hk3]
  obtain ⟨i, hi⟩ : ∃ i : Nat, d.pos = (i : Int) := ⟨d.pos.toNat, by omega⟩
  obtain ⟨n, hnn⟩ : ∃ n : Nat, d.many = (n : Int) := ⟨d.many.toNat, by omega⟩
  rw [hi, hnn, Int.toNat_natCast, Int.toNat_natCast] at hok
  unfold ddV
  rw [hk3, hi, hnn, Int.toNat_natCast, Int.toNat_natCast]
  have hlk := flen_le_nodes k
  have hcap := ht.cap
  have hlen := ht.len
  unfold maxLen at hcap
  obtain ⟨W, hW⟩ : ∃ W, W = (((w.alloc (Obj.cells #[Value.string s, Value.slice ka (flen k) cap] 24)).alloc (Obj.cells #[.int .i64 3, .slice pa d.path.length pc, .int .i64 (i : Int), .int .i64 (n : Int), .string d.lab] 44)).alloc (Obj.cells #[Value.string ⟨#[]⟩, Value.slice none 0 0] 24)).alloc (Obj.cells #[Value.string s, Value.slice none 0 0] 24) := ⟨_, rfl⟩
  obtain ⟨hWs, hB, c0, c1, c2, c3⟩ := boxes4 w (Obj.cells #[Value.string s, Value.slice ka (flen k) cap] 24) (Obj.cells #[.int .i64 3, .slice pa d.path.length pc, .int .i64 (i : Int), .int .i64 (n : Int), .string d.lab] 44) (Obj.cells #[Value.string ⟨#[]⟩, Value.slice none 0 0] 24) (Obj.cells #[Value.string s, Value.slice none 0 0] 24)
  rw [← hW] at hWs hB c0 c1 c2 c3
  have HST := hide (fun wr (h : Below (w.heap.size + 1 + 1 + 1 + 1) W wr) => InsInv.start hW h)
  have d1 : decide ((flen k : Int) < (i : Int)) = false := decide_eq_false (by omega)
  have d2 : decide ((flen k : Int) - (i : Int) < (n : Int)) = false := decide_eq_false (by omega)
  have HV := hide (show insOp i n d.lab s k = (0, s, toFo ((gsF k).take i ++ ((d.lab, toFo (((gsF k).drop i).take n)) :: (gsF k).drop (i + n)))) by unfold insOp; rw [if_pos hok])
  have x1 : W.cell? ⟨w.heap.size, 1, none⟩ = some (.slice ka (flen k) cap) := by rw [cell_of_row _ _ 1 _ _ _ c0]; rfl
  have y2 : W.cell? ⟨w.heap.size + 1, 2, none⟩ = some (.int .i64 (i : Int)) := by rw [cell_of_row _ _ 2 _ _ _ c1]; rfl
  have y3 : W.cell? ⟨w.heap.size + 1, 3, none⟩ = some (.int .i64 (n : Int)) := by rw [cell_of_row _ _ 3 _ _ _ c1]; rfl
  have y4 : W.cell? ⟨w.heap.size + 1, 4, none⟩ = some (.string d.lab) := by rw [cell_of_row _ _ 4 _ _ _ c1]; rfl
  have v1 : IntKind.i64.wrap ((i : Int) + (n : Int)) = (i : Int) + (n : Int) := by rw [IntKind.wrap_i64]; omega
  have sl1 := slice_lh ka (flen k) cap i (i + n) (by omega) (by omega)
  simp only [Nat.add_sub_cancel_left, Int.natCast_add] at sl1
  have hl1 : flen (ftake n (fdrop i k)) = n := flen_take _ _ (by rw [flen_drop]; omega)
  have ho1 : ∀ W', Below W.heap.size W W' → Calls Try.prog 53 #[.slice (subA ka cap i) n (cap - i)] W' (OwnKEnd (((gsF k).drop i).take n) W') := fun W' h => by
    have := ownListK_any (ftake n (fdrop i k)) (subA ka cap i) (cap - i) W' (Nat.lt_of_le_of_lt (Nat.le_trans (fnodes_take _ _) (fnodes_drop _ _)) hn) ((KIn.part ht.kids cap i n hlen).below (hB.trans (h.mono (by omega))))
    rw [hl1, gs_take, gs_drop] at this
    exact this.mono fun _ _ h => h.kids
  have hS : ∀ w', Below (w.heap.size + 1 + 1 + 1 + 1) W w' → (w'.cell? ⟨w.heap.size, 1, none⟩ = some (.slice ka (flen k) cap) ∧ w'.cell? ⟨w.heap.size + 1, 2, none⟩ = some (.int .i64 (i : Int)) ∧ w'.cell? ⟨w.heap.size + 1, 3, none⟩ = some (.int .i64 (n : Int)) ∧ w'.cell? ⟨w.heap.size + 1, 4, none⟩ = some (.string d.lab)) := fun w' h => ⟨by (rw [h.cell (by simp <;> omega)]; exact x1), by (rw [h.cell (by simp <;> omega)]; exact y2), by (rw [h.cell (by simp <;> omega)]; exact y3), by (rw [h.cell (by simp <;> omega)]; exact y4)⟩
  have HS := hide hS
  have HO1 := hide ho1
  have HWS := hide hWs
  have HB := hide hB
  have HT := hide ht
  have hW4 : w.heap.size + 1 + 1 + 1 + 1 ≤ W.heap.size := by omega
  have HB0 := hide (show Below W.heap.size W W.drew from (Below.refl _ _).drew)
  clear c0 c1 c2 c3 hWs hB ht hl1 ho1 hS
  go_enter Try.func56, Try.ntmps56
  go_wp2_with fail
  rw [← hW]
  clear hW
  go_cut [15] (fun v wx => ∃ (bk : Nat) (x : It), v = .pointer (some ⟨bk, 0, none⟩) ∧ Hid (Below (w.heap.size + 1 + 1 + 1 + 1) W wx ∧ KidIn (w.heap.size + 1 + 1 + 1 + 1) wx bk x d.lab (((gsF k).drop i).take n)))
  case first =>
    go_region_held3 (fun w' => w'.cell? ⟨w.heap.size, 1, none⟩ = some (.slice ka (flen k) cap) ∧ w'.cell? ⟨w.heap.size + 1, 2, none⟩ = some (.int .i64 (i : Int)) ∧ w'.cell? ⟨w.heap.size + 1, 3, none⟩ = some (.int .i64 (n : Int)) ∧ w'.cell? ⟨w.heap.size + 1, 4, none⟩ = some (.string d.lab))
      (first | exact HS.out _ (HB0.out.mono hW4) | exact HS.out _ ((HB0.out.mono hW4).alloc hW4 _) | exact HS.out _ HB5.out | exact HS.out _ (HB5.out.alloc (by omega) _) | exact HS.out _ ((HB5.out.setCell (by simp; omega) _).setCell (by simp; omega) _) | exact HS.out _ (((HB5.out.alloc (by omega) _).setCell (by simp; omega) _).setCell (by simp; omega) _))
      (first
        | (go_at_call 53; refine (HO1.out _ HB0.out).mono ?_; rintro e w5 ⟨ka', cap', k', rfl, hst, hlc, hcm, hkin, hfr, hpl, hb5⟩
           have hz5 : W.heap.size ≤ w5.heap.size := hb5.size
           have HB5 := hide (show Below (w.heap.size + 1 + 1 + 1 + 1) W w5 from (HB0.out.mono hW4).trans (hb5.mono hW4))
           have HKD := hide (KidIn.behind (h := w.heap.size + 1 + 1 + 1 + 1) (l := ((gsF k).drop i).take n) hl hlc hcm hkin (hfr.mono hW4) (Nat.le_trans hW4 hz5) hpl hst)
           clear hb5 hst hlc hcm hkin hfr hpl)
        | (go_at_call 53; refine (HO1.out _ (HB0.out.alloc (Nat.le_refl _) _)).mono ?_; rintro e w5 ⟨ka', cap', k', rfl, hst, hlc, hcm, hkin, hfr, hpl, hb5⟩
           have hc5 : w5.heap[W.heap.size]? = some (Obj.cells #[Value.string ⟨#[]⟩, Value.slice none 0 0] 24) := by (rw [hb5.block _ (by simp)]; exact heap_alloc_new _ _)
           have hz5 : W.heap.size + 1 ≤ w5.heap.size := by (have := hb5.size; simpa using this)
           have z0 : w5.cell? ⟨W.heap.size, 0, none⟩ = some (.string ⟨#[]⟩) := by (rw [cell_of_row _ _ 0 _ _ _ hc5]; rfl)
           have z1 : w5.cell? ⟨W.heap.size, 1, none⟩ = some (.slice none 0 0) := by (rw [cell_of_row _ _ 1 _ _ _ hc5]; rfl)
           have f0 : w5.frozen? ⟨W.heap.size, 0, none⟩ = false := by simp [World.frozen?, hc5]
           have f1 : w5.frozen? ⟨W.heap.size, 1, none⟩ = false := by simp [World.frozen?, hc5]
           have HB5 := hide (show Below (w.heap.size + 1 + 1 + 1 + 1) W w5 from ((HB0.out.mono hW4).alloc hW4 _).trans (hb5.mono (by simp only [nblk_alloc]; exact Nat.le_succ_of_le hW4)))
           have HKD := hide (KidIn.ahead (h := w.heap.size + 1 + 1 + 1 + 1) (l := ((gsF k).drop i).take n) hc5 hl hlc hcm hkin (by simpa using hfr) hW4 hpl hst)
           clear hb5 hst hlc hcm hkin hfr hpl hc5))
    · go_wp2_with fail
      go_meet
      case rel => exact ⟨_, _, rfl, hide ⟨HB5.out.alloc (by omega) _, HKD.out⟩⟩
    · go_wp2_with fail
      go_meet
      case rel => exact ⟨_, _, rfl, hide ⟨(HB5.out.setCell (by simp; omega) _).setCell (by simp; omega) _, HKD.out⟩⟩
  case rest =>
    obtain ⟨bk, x, rfl, hc⟩ := hcut
    obtain ⟨wA, hwA⟩ : ∃ wA, wA = wc := ⟨_, rfl⟩
    subst hwA
    clear HO1 HB0 x1 y2 y3 y4 sl1
    have hI := hide (HST.out wA hc.out.1)
    obtain ⟨x1, y2, _, _⟩ := HS.out wA hc.out.1
    have q0 : wA.cell? ⟨bk, 0, none⟩ = some (.string x.1) := by rw [cell_of_row _ _ 0 _ _ _ hc.out.2.blk]; rfl
    have q1 : wA.cell? ⟨bk, 1, none⟩ = some (.slice x.2.1 (flen x.2.2.2) x.2.2.1) := by rw [cell_of_row _ _ 1 _ _ _ hc.out.2.blk]; rfl
    have hbk : bk < wA.heap.size := World.block_lt_of_cell? _ _ q0
    have hlo := hc.out.2.lo
    have hzA := hI.out.size
    have sl2 := slice_h ka (flen k) cap i (by omega)
    have hl2 : flen (ftake i k) = i := flen_take _ _ (by omega)
    have ho2 : ∀ W', Below wA.heap.size wA W' → Calls Try.prog 53 #[.slice (subA ka cap 0) i cap] W' (OwnLEnd ((gsF k).take i) W') := fun W' h => by
      have := ownListK_any (ftake i k) (subA ka cap 0) cap W' (Nat.lt_of_le_of_lt (fnodes_take _ _) hn) ((KIn.part HT.out.kids cap 0 i hlen).below (hI.out.below.trans (h.mono (by omega))))
      rw [hl2, gs_take] at this
      exact this
    have hS2 : ∀ w', Below wA.heap.size wA w' → (w'.cell? ⟨w.heap.size, 1, none⟩ = some (.slice ka (flen k) cap) ∧ w'.cell? ⟨w.heap.size + 1, 2, none⟩ = some (.int .i64 (i : Int)) ∧ w'.cell? ⟨bk, 0, none⟩ = some (.string x.1) ∧ w'.cell? ⟨bk, 1, none⟩ = some (.slice x.2.1 (flen x.2.2.2) x.2.2.1)) := fun w' h => ⟨by (rw [h.cell (by simp <;> omega)]; exact x1), by (rw [h.cell (by simp <;> omega)]; exact y2), by (rw [h.cell (by simp <;> omega)]; exact q0), by (rw [h.cell (by simp <;> omega)]; exact q1)⟩
    have hS4 : ∀ w' v, Below wA.heap.size wA w' → ((w'.setCell ⟨w.heap.size + 1 + 1 + 1, 1, none⟩ v).cell? ⟨w.heap.size, 1, none⟩ = some (.slice ka (flen k) cap) ∧ (w'.setCell ⟨w.heap.size + 1 + 1 + 1, 1, none⟩ v).cell? ⟨w.heap.size + 1, 2, none⟩ = some (.int .i64 (i : Int)) ∧ (w'.setCell ⟨w.heap.size + 1 + 1 + 1, 1, none⟩ v).cell? ⟨bk, 0, none⟩ = some (.string x.1) ∧ (w'.setCell ⟨w.heap.size + 1 + 1 + 1, 1, none⟩ v).cell? ⟨bk, 1, none⟩ = some (.slice x.2.1 (flen x.2.2.2) x.2.2.1)) := fun w' v h => ⟨cellS (hS2 w' h).1 (by simp <;> omega), cellS (hS2 w' h).2.1 (by simp <;> omega), cellS (hS2 w' h).2.2.1 (by simp <;> omega), cellS (hS2 w' h).2.2.2 (by simp <;> omega)⟩
    have HS2 := hide hS2
    have HS4 := hide hS4
    have HO2 := hide ho2
    have HA0 := hide (show Below wA.heap.size wA wA.drew from (Below.refl _ _).drew)
    have hln : ((gsF k).take i).length ≤ 99999 := by rw [List.length_take]; omega
    clear hS2 hS4 ho2 hl2
    go_wp2_with fail
    go_cut [13] (fun v wx => v = .pointer (some ⟨w.heap.size + 1 + 1 + 1, 0, none⟩) ∧ ∃ va vc L, Hid (InsInv w s ka cap k (Obj.cells #[.int .i64 3, .slice pa d.path.length pc, .int .i64 (i : Int), .int .i64 (n : Int), .string d.lab] 44) ((gsF k).take i ++ [(d.lab, toFo (((gsF k).drop i).take n))]) wx va vc L))
    case first =>
      go_region_held3 (fun w' => w'.cell? ⟨w.heap.size, 1, none⟩ = some (.slice ka (flen k) cap) ∧ w'.cell? ⟨w.heap.size + 1, 2, none⟩ = some (.int .i64 (i : Int)) ∧ w'.cell? ⟨bk, 0, none⟩ = some (.string x.1) ∧ w'.cell? ⟨bk, 1, none⟩ = some (.slice x.2.1 (flen x.2.2.2) x.2.2.1))
        (first | exact HS2.out _ HA0.out | exact HS2.out _ (HA0.out.alloc (Nat.le_refl _) _) | exact HS2.out _ HA5.out | exact HS2.out _ (HA5.out.alloc HA5.out.size _) | exact HS2.out _ HA3.out | exact HS4.out _ _ HA3.out)
        (first
          | (refine step_append_run rfl _ _ _ rfl rfl HR.out rfl rfl ?_)
          | (go_at_call 53; refine (HO2.out _ HA0.out).mono ?_; rintro e w5 ⟨va2, vc2, L2, rfl, hK2, hL2, hb5⟩
             have hb5' : Below wA.heap.size wA w5 := HA0.out.trans hb5
             obtain ⟨va3, vc3, w3, L3, hr3, hB3, hc3, hI3⟩ := ins_mid hI.out hc.out.2 hK2 hL2 hln hb5' ((Below.refl _ w5).alloc (Nat.le_refl _) _) (heap_alloc_new _ _)
             have HR := hide hr3
             have HI3 := hide hI3
             have HA5 := hide hb5'
             have HA3 := hide hB3
             have z3 : w3.cell? ⟨w.heap.size + 1 + 1 + 1, 1, none⟩ = some (.slice none 0 0) := by (rw [cell_of_row _ _ 1 _ _ _ hc3]; rfl)
             have z4 : w3.frozen? ⟨w.heap.size + 1 + 1 + 1, 1, none⟩ = false := by simp [World.frozen?, hc3]
             clear hr3 hI3 hB3 hc3 hb5 hb5' hK2 hL2)
          | (go_at_call 53; refine (HO2.out _ (HA0.out.alloc (Nat.le_refl _) _)).mono ?_; rintro e w5 ⟨va2, vc2, L2, rfl, hK2, hL2, hb5⟩
             have hb5' : Below wA.heap.size wA w5 := (HA0.out.alloc (Nat.le_refl _) _).trans (hb5.mono (by simp only [nblk_alloc]; exact Nat.le_succ _))
             have hbb : w5.heap[wA.heap.size]? = some (Obj.cells #[.string x.1, .slice x.2.1 (flen x.2.2.2) x.2.2.1] 24) := by (rw [hb5.block _ (by simp only [nblk_alloc]; exact Nat.lt_succ_self _)]; exact heap_alloc_new _ _)
             obtain ⟨va3, vc3, w3, L3, hr3, hB3, hc3, hI3⟩ := ins_mid hI.out hc.out.2 (Deed.KInv.lower hK2 (by simp only [nblk_alloc]; exact Nat.le_succ _)) hL2 hln hb5' (Below.refl _ w5) hbb
             have HR := hide hr3
             have HI3 := hide hI3
             have HA5 := hide hb5'
             have HA3 := hide hB3
             have z3 : w3.cell? ⟨w.heap.size + 1 + 1 + 1, 1, none⟩ = some (.slice none 0 0) := by (rw [cell_of_row _ _ 1 _ _ _ hc3]; rfl)
             have z4 : w3.frozen? ⟨w.heap.size + 1 + 1 + 1, 1, none⟩ = false := by simp [World.frozen?, hc3]
             clear hr3 hI3 hB3 hc3 hb5 hb5' hK2 hL2 hbb))
      all_goals
        go_wp2_with fail
        go_meet
        case rel => exact ⟨rfl, va3, vc3, L3, HI3⟩
    case rest =>
      obtain ⟨rfl, va, vc, L, hJ⟩ := hcut
      obtain ⟨wB, hwB⟩ : ∃ wB, wB = wc := ⟨_, rfl⟩
      subst hwB
      clear HO2 HS2 HS4 HA0 x1 y2 q0 q1 hbk hlo hzA sl2 hI hc hln HS HST
      have x1 : wB.cell? ⟨w.heap.size, 1, none⟩ = some (.slice ka (flen k) cap) := by rw [cell_of_row _ _ 1 _ _ _ hJ.out.c0]; rfl
      have y2 : wB.cell? ⟨w.heap.size + 1, 2, none⟩ = some (.int .i64 (i : Int)) := by rw [cell_of_row _ _ 2 _ _ _ hJ.out.c1]; rfl
      have y3 : wB.cell? ⟨w.heap.size + 1, 3, none⟩ = some (.int .i64 (n : Int)) := by rw [cell_of_row _ _ 3 _ _ _ hJ.out.c1]; rfl
      have o1 : wB.cell? ⟨w.heap.size + 1 + 1 + 1, 1, none⟩ = some (.slice va L.length vc) := by rw [cell_of_row _ _ 1 _ _ _ hJ.out.c3]; rfl
      have hzB := hJ.out.size
      have sl3 := slice_l ka (flen k) cap (i + n) (by omega)
      simp only [Int.natCast_add] at sl3
      have hl3 : flen (ftake (flen k - (i + n)) (fdrop (i + n) k)) = flen k - (i + n) := flen_take _ _ (by rw [flen_drop]; omega)
      have ho3 : Calls Try.prog 53 #[.slice (subA ka cap (i + n)) (flen k - (i + n)) (cap - (i + n))] wB.drew (OwnLEnd ((gsF k).drop (i + n)) wB.drew) := by
        have := ownListK_any (ftake (flen k - (i + n)) (fdrop (i + n) k)) (subA ka cap (i + n)) (cap - (i + n)) wB.drew (Nat.lt_of_le_of_lt (Nat.le_trans (fnodes_take _ _) (fnodes_drop _ _)) hn) ((KIn.part HT.out.kids cap (i + n) (flen k - (i + n)) hlen).below hJ.out.below.drew)
        rw [hl3, gs_take, gs_drop, List.take_of_length_le (by rw [List.length_drop, gs_len]; omega)] at this
        exact this
      have HO3 := hide ho3
      have hln : ((gsF k).take i ++ [(d.lab, toFo (((gsF k).drop i).take n))]).length + ((gsF k).drop (i + n)).length ≤ 1000000 := by
        simp only [List.length_append, List.length_take, List.length_drop, List.length_cons, List.length_nil, gs_len]
        omega
      have HLN := hide hln
      clear ho3 hl3 hln
      go_wp2_with fail
      go_region_law (first
          | (refine step_append_run rfl _ _ _ rfl rfl HR.out rfl rfl ?_)
          | (go_simp; refine HO3.out.mono ?_; rintro e w1 ⟨va2, vc2, L2, rfl, hK2, hL2, hb1⟩
             have hb1' : Below wB.heap.size wB w1 := ((Below.refl wB.heap.size wB).drew).trans hb1
             obtain ⟨va3, vc3, w3, L3, hr3, hB3, hc3, hI3⟩ := ins_end hJ.out hK2 hL2 HLN.out hb1'
             have HR := hide hr3
             have HI3 := hide hI3
             have z1 : w1.cell? ⟨w.heap.size + 1 + 1 + 1, 1, none⟩ = some (.slice va L.length vc) := by (rw [hb1'.cell (by simp; omega)]; exact o1)
             have z3 : w3.cell? ⟨w.heap.size + 1 + 1 + 1, 1, none⟩ = some (.slice va L.length vc) := by (rw [cell_of_row _ _ 1 _ _ _ hc3]; rfl)
             have z4 : w3.frozen? ⟨w.heap.size + 1 + 1 + 1, 1, none⟩ = false := by simp [World.frozen?, hc3]
             clear hr3 hI3 hB3 hc3 hb1 hb1' hK2 hL2
             go_simp))
      all_goals
        obtain ⟨w4, hw4⟩ : ∃ w4, w4 = w3.setCell ⟨w.heap.size + 1 + 1 + 1, 1, none⟩ (.slice va3 L3.length vc3) := ⟨_, rfl⟩
        rw [← hw4] at HI3
        rw [← hw4]
        obtain ⟨ka', cap', k', e20, e21, f20, f21, e30, e31, hfin⟩ := HI3.out.fin HT.out.size
        clear hw4 HR z1 z3 z4 x1 y2 y3 o1 sl3 HO3 HLN HI3 hJ
        go_wp2_with fail
        refine bodyPost_ret (v := .tuple #[.agg #[.string s, .slice ka' (flen k') cap'], .int .i64 0]) (by simp [results, Try.results56, go_sem, *]) rfl ?_
        rw [HV.out]
        have := hfin.out
        rw [List.append_assoc, List.singleton_append] at this
        exact this

end Go.Proofs.Ytcknganggcbkjab.Deed
namespace Go.Proofs.Ytcknganggcbkjab.Deed
open Go.Deep Go.RowKit
set_option linter.unusedVariables false
set_option maxRecDepth 20000

/-- It is the same where it lies nowhere. -/
def OpS (op : Op) : Prop := ∀ s k, (op s (strip k)).1 = (op s k).1 ∧ ((op s k).1 = 0 → op s (strip k) = op s k)
theorem namOp_s (lab : ByteArray) : OpS (namOp lab) := fun s k => ⟨rfl, fun _ => by simp only [namOp, strip_strip]⟩
theorem delOp_s (i : Nat) : OpS (delOp i) := fun s k => by
  unfold delOp
  rw [gs_strip]
  cases (gsF k)[i]? with
  | none => exact ⟨rfl, fun h => by cases h⟩
  | some x => exact ⟨rfl, fun _ => rfl⟩
theorem insOp_s (i n : Nat) (lab : ByteArray) : OpS (insOp i n lab) := fun s k => by
  unfold insOp
  rw [gs_strip, flen_strip]
  split
  · exact ⟨rfl, fun _ => rfl⟩
  · exact ⟨rfl, fun h => by cases h⟩
theorem modP_s {op : Op} (h : OpS op) (p : List Nat) : OpS (modP op p) := fun s k => by
  cases p with
  | nil => exact h s k
  | cons p ps =>
    unfold modP
    rw [gs_strip]
    cases (gsF k)[p]? with
    | none => exact ⟨rfl, fun h => by cases h⟩
    | some x => exact ⟨rfl, fun _ => rfl⟩
theorem doneR_s (d : Dd) (rest : List Int) : OpS (doneR d rest) := by
  unfold doneR
  split
  · exact modP_s (namOp_s _) _
  · split
    · exact modP_s (delOp_s _) _
    · exact modP_s (insOp_s _ _ _) _

theorem boxes3 (w : World) (o0 o1 o2 : Obj) : (((w.alloc o0).alloc o1).alloc o2).heap.size = w.heap.size + 1 + 1 + 1 ∧ Below w.heap.size w (((w.alloc o0).alloc o1).alloc o2) ∧ (((w.alloc o0).alloc o1).alloc o2).heap[w.heap.size]? = some o0 ∧ (((w.alloc o0).alloc o1).alloc o2).heap[w.heap.size + 1]? = some o1 ∧ (((w.alloc o0).alloc o1).alloc o2).heap[w.heap.size + 1 + 1]? = some o2 := by
  refine ⟨by simp, (((Below.refl _ _).alloc (Nat.le_refl _) _).alloc (by simp) _).alloc (by simp <;> omega) _, ?_, ?_, ?_⟩
  · rw [Below.heap_alloc _ _ _ (by simp <;> omega), Below.heap_alloc _ _ _ (by simp)]
    exact heap_alloc_new _ _
  · rw [Below.heap_alloc _ _ _ (by simp), show w.heap.size + 1 = (w.alloc o0).heap.size by simp]
    exact heap_alloc_new _ _
  · rw [show w.heap.size + 1 + 1 = ((w.alloc o0).alloc o1).heap.size by simp]
    exact heap_alloc_new _ _
theorem DoneEnd.s {d : Dd} {rest : List Int} {s : ByteArray} {k : Fo} {w w' : World} {e : Ending} (h : DoneEnd (doneR d rest s k) w e w') : DoneEnd (doneR d rest s (strip k)) w e w' := by
  obtain ⟨h1, h2⟩ := doneR_s d rest s k
  obtain ⟨s', ka', cap', k', rfl, hg, hb⟩ := h
  refine ⟨s', ka', cap', k', by rw [h1], fun h0 => ?_, hb⟩
  rw [h1] at h0
  rw [h2 h0]
  exact hg h0

/-- What a call of done has left, in a block of its own. -/
structure XIn (h : Nat) (wr : World) (bx : Nat) (x : It) (r : Int × ByteArray × Fo) : Prop where
  blk : wr.heap[bx]? = some (Obj.cells #[.string x.1, .slice x.2.1 (flen x.2.2.2) x.2.2.1] 24)
  lo : h ≤ bx
  good : r.1 = 0 → x.1 = r.2.1 ∧ strip x.2.2.2 = r.2.2 ∧ ItIn wr x ∧ FFrom h x.2.2.2 ∧ FPlain wr x.2.2.2
theorem XIn.ahead {h bx : Nat} {w5 : World} {x : It} {r : Int × ByteArray × Fo} {a b : Value} (hb : w5.heap[bx]? = some (Obj.cells #[a, b] 24)) (hh : h ≤ bx) (hg : r.1 = 0 → x.1 = r.2.1 ∧ strip x.2.2.2 = r.2.2 ∧ ItIn w5 x ∧ FFrom (bx + 1) x.2.2.2 ∧ FPlain w5 x.2.2.2) :
    XIn h ((w5.setCell ⟨bx, 0, none⟩ (.string x.1)).setCell ⟨bx, 1, none⟩ (.slice x.2.1 (flen x.2.2.2) x.2.2.1)) bx x r := by
  refine ⟨by simp [World.setCell, Array.getElem?_modify, hb], hh, fun h0 => ?_⟩
  obtain ⟨g1, g2, g3, g4, g5⟩ := hg h0
  have ho : FOff bx x.2.2.2 := g4.off (by omega)
  exact ⟨g1, g2, TIn.set (TIn.set g3 ho) ho, g4.mono (by omega), FPlain.set (FPlain.set g5 ho) ho⟩
theorem XIn.behind {h : Nat} {w5 : World} {x : It} {r : Int × ByteArray × Fo} (hh : h ≤ w5.heap.size) (hg : r.1 = 0 → x.1 = r.2.1 ∧ strip x.2.2.2 = r.2.2 ∧ ItIn w5 x ∧ FFrom h x.2.2.2 ∧ FPlain w5 x.2.2.2) :
    XIn h (w5.alloc (Obj.cells #[.string x.1, .slice x.2.1 (flen x.2.2.2) x.2.2.1] 24)) w5.heap.size x r := by
  have hB : Below w5.heap.size w5 (w5.alloc (Obj.cells #[.string x.1, .slice x.2.1 (flen x.2.2.2) x.2.2.1] 24)) := (Below.refl _ _).alloc (Nat.le_refl _) _
  refine ⟨heap_alloc_new _ _, hh, fun h0 => ?_⟩
  obtain ⟨g1, g2, g3, g4, g5⟩ := hg h0
  exact ⟨g1, g2, TIn.below hB g3, g4, g5.below hB⟩

/-- What OwnList comes to, its length the kids'. -/
def OwnFEnd (k : Fo) (w : World) (e : Ending) (w' : World) : Prop := ∃ va vc L, e = .returned (.slice va (flen k) vc) ∧ KInv 24 w.heap.size w' (.slice va (flen k) vc) L ∧ L.length = flen k ∧ L.map bareIt = gsF k ∧ Below w.heap.size w w'
theorem OwnLEnd.long {k : Fo} {w w' : World} {e : Ending} (h : OwnLEnd (gsF k) w e w') : OwnFEnd k w e w' := by
  obtain ⟨va, vc, L, rfl, hK, hLk, hb⟩ := h
  have hl : L.length = flen k := by rw [← gs_len, ← hLk, List.length_map]
  rw [hl] at hK
  exact ⟨va, vc, L, by rw [hl], hK, hl, hLk, hb⟩
/-- A tree that is made, its kids one's own. -/
structure OIn (B : Nat) (wr : World) (bo : Nat) (s : ByteArray) (k : Fo) (va : Option Addr) (vc : Nat) (L : List It) : Prop where
  blk : wr.heap[bo]? = some (Obj.cells #[.string s, .slice va (flen k) vc] 24)
  lo : B ≤ bo
  kin : KInv 24 B wr (.slice va (flen k) vc) L
  long : L.length = flen k
  told : L.map bareIt = gsF k
  ne : ∀ g, (Value.slice va (flen k) vc).ownBlock = some g → g ≠ bo
theorem OIn.ahead {B bo : Nat} {w5 : World} {s : ByteArray} {k : Fo} {va : Option Addr} {vc : Nat} {L : List It} {a b : Value} (hb : w5.heap[bo]? = some (Obj.cells #[a, b] 24)) (hB : B ≤ bo) (hK : KInv 24 (bo + 1) w5 (.slice va (flen k) vc) L) (hl : L.length = flen k) (ht : L.map bareIt = gsF k) :
    OIn B ((w5.setCell ⟨bo, 0, none⟩ (.string s)).setCell ⟨bo, 1, none⟩ (.slice va (flen k) vc)) bo s k va vc L :=
  ⟨by simp [World.setCell, Array.getElem?_modify, hb], hB, Deed.KInv.lower (hK.but (g0 := bo) (by omega) (set2_but _ _ _ _ _ _)) (by omega), hl, ht, fun g hg => by have := (ownBlock_lt hK.row hg).1; omega⟩
theorem OIn.behind {B : Nat} {w5 : World} {s : ByteArray} {k : Fo} {va : Option Addr} {vc : Nat} {L : List It} (hB : B ≤ w5.heap.size) (hK : KInv 24 B w5 (.slice va (flen k) vc) L) (hl : L.length = flen k) (ht : L.map bareIt = gsF k) :
    OIn B (w5.alloc (Obj.cells #[.string s, .slice va (flen k) vc] 24)) w5.heap.size s k va vc L :=
  ⟨heap_alloc_new _ _, hB, Deed.KInv.below hK ((Below.refl _ _).alloc (Nat.le_refl _) _), hl, ht, fun g hg => by have := (ownBlock_lt hK.row hg).2; omega⟩

set_option maxHeartbeats 1000000 in
theorem done_far (d : Dd) (hk3 : d.kind = 3) (hp0 : 0 ≤ d.pos) (hm0 : 0 ≤ d.many) (hm1 : d.many ≤ 9223372036854775807) (s : ByteArray) (ka : Option Addr) (cap : Nat) (k : Fo) (pa pb : Option Addr) (pc qc : Nat) (w : World) (ht : TIn w s ka cap k) (hn : fnodes k < 99999) (hok : ¬ d.pos.toNat + d.many.toNat ≤ flen k) :
    Calls Try.prog 56 #[.agg #[.string s, .slice ka (flen k) cap], ddV d pa pc, .slice pb 0 qc] w (DoneEnd (doneR d [] s k) w) := by
  rw [doneR_ins hk3]
  obtain ⟨i, hi⟩ : ∃ i : Nat, d.pos = (i : Int) := ⟨d.pos.toNat, by omega⟩
  obtain ⟨n, hnn⟩ : ∃ n : Nat, d.many = (n : Int) := ⟨d.many.toNat, by omega⟩
  rw [hi, hnn, Int.toNat_natCast, Int.toNat_natCast] at hok
  unfold ddV
  rw [hk3, hi, hnn, Int.toNat_natCast, Int.toNat_natCast]
  have hlk := flen_le_nodes k
  have HV := hide (show insOp i n d.lab s k = (9, s, k) by unfold insOp; rw [if_neg hok])
  by_cases h1 : flen k < i
  · have d1 : decide ((flen k : Int) < (i : Int)) = true := decide_eq_true (by omega)
    go_enter Try.func56, Try.ntmps56
    go_wp2_with fail
    refine bodyPost_ret (v := .tuple #[.agg #[.string s, .slice ka (flen k) cap], .int .i64 9]) (by simp [results, Try.results56, go_sem, *]) rfl ⟨s, ka, cap, k, by rw [HV.out], fun h => (by rw [HV.out] at h; cases h), ?_⟩
    repeat (first | exact Below.refl _ _ | refine Below.setCell ?_ (by simp <;> omega) _ | refine Below.alloc ?_ (by simp <;> omega) _ | refine below_drewN ?_ _ | refine Below.drew ?_)
  · have d1 : decide ((flen k : Int) < (i : Int)) = false := decide_eq_false (by omega)
    have d2 : decide ((flen k : Int) - (i : Int) < (n : Int)) = true := decide_eq_true (by omega)
    go_enter Try.func56, Try.ntmps56
    go_wp2_with fail
    refine bodyPost_ret (v := .tuple #[.agg #[.string s, .slice ka (flen k) cap], .int .i64 9]) (by simp [results, Try.results56, go_sem, *]) rfl ⟨s, ka, cap, k, by rw [HV.out], fun h => (by rw [HV.out] at h; cases h), ?_⟩
    repeat (first | exact Below.refl _ _ | refine Below.setCell ?_ (by simp <;> omega) _ | refine Below.alloc ?_ (by simp <;> omega) _ | refine below_drewN ?_ _ | refine Below.drew ?_)

/-- The end: the new kid in its place. -/
theorem step_fin {w wA wB : World} {s : ByteArray} {k : Fo} {bo bx p : Nat} {va : Option Addr} {vc : Nat} {L : List It} {y : It} {r : Int × ByteArray × Fo} (hO : OIn wA.heap.size wB bo s k va vc L) (hX : XIn (w.heap.size + 1 + 1 + 1) wA bx y r) (hb : Below wA.heap.size wA wB) (hw : Below w.heap.size w wA) (hz : w.heap.size + 1 + 1 + 1 ≤ wA.heap.size) (c2 : wA.heap[w.heap.size + 1 + 1]? = some (Obj.cells #[Value.string ⟨#[]⟩, Value.slice none 0 0] 24)) (hp : p < flen k) (hs : s.size ≤ maxLen) :
    ∃ g u0 u1, va = some ⟨g, 0, none⟩ ∧ ¬ g = bo ∧ ¬ bo = g ∧ ¬ g = w.heap.size + 1 + 1 ∧ ¬ w.heap.size + 1 + 1 = g ∧ flen k ≤ vc ∧ vc ≤ maxLen ∧ wB.cell? ⟨g, p * 2, none⟩ = some u0 ∧ wB.cell? ⟨g, p * 2 + 1, none⟩ = some u1 ∧ wB.frozen? ⟨g, p * 2, none⟩ = false ∧ wB.frozen? ⟨g, p * 2 + 1, none⟩ = false ∧ wB.cell? ⟨bo, 0, none⟩ = some (.string s) ∧ wB.cell? ⟨bo, 1, none⟩ = some (.slice va (flen k) vc) ∧ wB.cell? ⟨bx, 0, none⟩ = some (.string y.1) ∧ wB.cell? ⟨bx, 1, none⟩ = some (.slice y.2.1 (flen y.2.2.2) y.2.2.1) ∧
      wB.cell? ⟨w.heap.size + 1 + 1, 0, none⟩ = some (.string ⟨#[]⟩) ∧ wB.cell? ⟨w.heap.size + 1 + 1, 1, none⟩ = some (.slice none 0 0) ∧ wB.frozen? ⟨w.heap.size + 1 + 1, 0, none⟩ = false ∧ wB.frozen? ⟨w.heap.size + 1 + 1, 1, none⟩ = false ∧
      Hid (DoneEnd (r.1, s, toFo ((gsF k).set p r.2)) w (.returned (.tuple #[.agg #[.string s, .slice va (flen k) vc], .int .i64 r.1])) ((((wB.setCell ⟨g, p * 2, none⟩ (.string y.1)).setCell ⟨g, p * 2 + 1, none⟩ (.slice y.2.1 (flen y.2.2.2) y.2.2.1)).setCell ⟨w.heap.size + 1 + 1, 0, none⟩ (.string s)).setCell ⟨w.heap.size + 1 + 1, 1, none⟩ (.slice va (flen k) vc))) := by
  have hrow := hO.kin.row
  rw [hO.long] at hrow
  obtain ⟨g, vc', hv, hg1, hg2, h3, h4⟩ := ownsN_some hrow (by omega)
  injection hv with hv1 hv2 hv3
  subst hv1 hv3
  have hne := hO.ne g rfl
  have hbw : Below w.heap.size w wB := hw.trans (hb.mono (by omega))
  have hbx : bx < wA.heap.size := by
    rcases Nat.lt_or_ge bx wA.heap.size with h' | h'
    · exact h'
    · have := hX.blk
      rw [Array.getElem?_eq_none h'] at this
      cases this
  have xB : wB.heap[bx]? = _ := (hb.block _ hbx).trans hX.blk
  have cB : wB.heap[w.heap.size + 1 + 1]? = _ := (hb.block _ (by omega)).trans c2
  obtain ⟨cur, hcur, hlen2⟩ : ∃ cur : Array Value, wB.heap[g]? = some (.cells cur 24) ∧ flen k * 2 ≤ cur.size := by
    rcases hrow.2 with ⟨h0, _⟩ | ⟨g', cap', cur, hv, hb', hh, h1, h2, h3, h4⟩
    · cases h0
    · simp only [Value.slice.injEq, Option.some.injEq, Addr.mk.injEq] at hv
      obtain ⟨⟨rfl, _, _⟩, _, rfl⟩ := hv
      exact ⟨cur, hh, by rw [h3]; exact Nat.mul_le_mul_right _ h1⟩
  refine ⟨g, cur[p * 2]'(by omega), cur[p * 2 + 1]'(by omega), rfl, hne, fun e => hne e.symm, by omega, by omega, h3, h4, ?_, ?_, by simp [World.frozen?, hcur], by simp [World.frozen?, hcur], by rw [cell_of_row _ _ 0 _ _ _ hO.blk]; rfl, by rw [cell_of_row _ _ 1 _ _ _ hO.blk]; rfl, by rw [cell_of_row _ _ 0 _ _ _ xB]; rfl, by rw [cell_of_row _ _ 1 _ _ _ xB]; rfl, by rw [cell_of_row _ _ 0 _ _ _ cB]; rfl, by rw [cell_of_row _ _ 1 _ _ _ cB]; rfl, by simp [World.frozen?, cB], by simp [World.frozen?, cB], hide ?_⟩
  · rw [cell_of_row _ _ _ _ _ _ hcur, Array.getElem?_eq_getElem (by omega)]
  · rw [cell_of_row _ _ _ _ _ _ hcur, Array.getElem?_eq_getElem (by omega)]
  have hbe : Below w.heap.size w ((((wB.setCell ⟨g, p * 2, none⟩ (.string y.1)).setCell ⟨g, p * 2 + 1, none⟩ (.slice y.2.1 (flen y.2.2.2) y.2.2.1)).setCell ⟨w.heap.size + 1 + 1, 0, none⟩ (.string s)).setCell ⟨w.heap.size + 1 + 1, 1, none⟩ (.slice (some ⟨g, 0, none⟩) (flen k) vc)) :=
    (((hbw.setCell (by simp only; omega) _).setCell (by simp only; omega) _).setCell (by simp only; omega) _).setCell (by simp only; omega) _
  by_cases h0 : r.1 = 0
  · obtain ⟨g1, g2, g3, g4, g5⟩ := hX.good h0
    have hoff : FOff g y.2.2.2 := g3.kids.off hg1
    have hK := KInv.put (Deed.KInv.lower hO.kin (show w.heap.size + 1 + 1 + 1 ≤ _ from hz)) hO.long hp (TIn.below hb g3) g4 (g5.below hb) hoff
    obtain ⟨ka', cap', k', hv, hst, hlc, hcm, hkin, hfr, hpl, _⟩ := hK.done2
    have o2 : FOff (w.heap.size + 1 + 1) k' := hfr.off (by omega)
    refine ⟨s, ka', cap', k', by rw [hv], fun _ => ⟨rfl, ?_, TIn.set (TIn.set ⟨hs, hlc, hcm, hkin⟩ o2) o2, hfr.mono (by omega), FPlain.set (FPlain.set hpl o2) o2⟩, hbe⟩
    rw [hst, map_set, hO.told]
    have : bareIt y = r.2 := by rw [← Prod.eta r.2, ← g1, ← g2]; rfl
    rw [this]
  · have hkn := hO.kin
    obtain ⟨ka', cap', k', hv, _⟩ := hkn.done2
    exact ⟨s, ka', cap', k', by rw [hv], fun h => absurd h h0, hbe⟩

/-- A call of done, of a tree and what is left of the path. -/
def DoneAt (d : Dd) (rest : List Int) : Prop := ∀ (s : ByteArray) (ka : Option Addr) (cap : Nat) (k : Fo) (pa pb : Option Addr) (pc qc : Nat) (w : World), TIn w s ka cap k → fnodes k < 99999 → PIn w pb rest → rest.length ≤ qc → qc ≤ maxLen →
    Calls Try.prog 56 #[.agg #[.string s, .slice ka (flen k) cap], ddV d pa pc, .slice pb rest.length qc] w (DoneEnd (doneR d rest s k) w)

theorem last_no {d : Dd} {p : Int} {ps : List Int} (h : ¬ isLast d (p :: ps)) : d.kind = 2 → ¬ ps.length = 0 := fun h2 h0 => h (by
  unfold isLast
  rw [if_pos h2]
  simp [h0])

set_option maxHeartbeats 4000000 in
theorem done_step (d : Dd) (p : Nat) (ps : List Int) (hl : ¬ isLast d ((p : Int) :: ps)) (hd : DoneAt d ps) : DoneAt d ((p : Int) :: ps) := by
  intro s ka cap k pa pb pc qc w ht hn hpi hq1 hq2
  rw [doneR_step hl, Int.toNat_natCast]
  unfold ddV
  have hlk := flen_le_nodes k
  have hcap := ht.cap
  have hlen := ht.len
  rcases hpi with hpi | ⟨gb, go', rfl, hpi⟩
  · cases hpi
  have hp : w.cell? ⟨gb, go', none⟩ = some (.int .i64 (p : Int)) := by
    have := hpi 0 (p : Int) rfl
    simpa using this
  have hpb : gb < w.heap.size := World.block_lt_of_cell? _ _ hp
  have hl2 := last_no hl
  have hk2 : (d.kind == 2) = true → ((ps.length : Int) + 1 == 1) = false := fun h => beq_eq_false_iff_ne.2 (by have := hl2 (by simpa using h); omega)
  have hne : ((ps.length : Int) + 1 == 0) = false := beq_eq_false_iff_ne.2 (by omega)
  show Calls Try.prog 56 #[.agg #[.string s, .slice ka (flen k) cap], .agg #[.int .i64 d.kind, .slice pa d.path.length pc, .int .i64 d.pos, .int .i64 d.many, .string d.lab], .slice (some ⟨gb, go', none⟩) (ps.length + 1) qc] w _
  have hkk : ((ps.length : Int) + 1 == 1) = false ∧ (d.kind == 2) = true ∨ (d.kind == 2) = false := by
    by_cases h : d.kind = 2
    · exact Or.inl ⟨hk2 (by simpa using h), by simpa using h⟩
    · exact Or.inr (by simpa using h)
  clear hl2 hk2
  have p0 : (((w.alloc (Obj.cells #[Value.string s, Value.slice ka (flen k) cap] 24)).alloc (Obj.cells #[.int .i64 d.kind, .slice pa d.path.length pc, .int .i64 d.pos, .int .i64 d.many, .string d.lab] 44)).alloc (Obj.cells #[Value.string ⟨#[]⟩, Value.slice none 0 0] 24)).cell? ⟨gb, go', none⟩ = some (.int .i64 (p : Int)) := cellA (cellA (cellA hp _) _) _
  by_cases hge : flen k ≤ p
  · have d1 : decide ((flen k : Int) ≤ (p : Int)) = true := decide_eq_true (by omega)
    have hV : (gsF k)[p]? = none := List.getElem?_eq_none (by rw [gs_len]; exact hge)
    simp only [hV]
    clear hV
    rcases hkk with ⟨e2, e3⟩ | e3
    all_goals
      go_enter Try.func56, Try.ntmps56
      go_wp2_with fail
      refine bodyPost_ret (v := .tuple #[.agg #[.string s, .slice ka (flen k) cap], .int .i64 7]) (by simp [results, Try.results56, go_sem, *]) rfl ⟨s, ka, cap, k, rfl, fun h => (by cases h), ?_⟩
      repeat (first | exact Below.refl _ _ | refine Below.setCell ?_ (by simp <;> omega) _ | refine Below.alloc ?_ (by simp <;> omega) _ | refine below_drewN ?_ _ | refine Below.drew ?_)
  have d1 : decide ((flen k : Int) ≤ (p : Int)) = false := decide_eq_false (by omega)
  have hlt : p < flen k := by omega
  have hltI : (p : Int) < (flen k : Int) := by omega
  have hltJ : (0 : Int) ≤ (p : Int) := by omega
  rcases ht.kids with rfl | ⟨kb, ko, rfl, hkf⟩
  · simp [flen] at hge
  obtain ⟨b', o', x, kk, he, hc0, hc1, htin, hbb⟩ := hkf.at (show p < flen k by omega)
  have hV := gs_node he
  have hn2 : fnodes kk < 99999 := by have := fnodes_of_drop he; omega
  simp only [hV]
  obtain ⟨r, hr⟩ : ∃ r, r = doneR d ps x.1 (strip kk) := ⟨_, rfl⟩
  rw [← hr]
  obtain ⟨pa', hsl, hpa⟩ : ∃ pa', (∀ wx, (Instr.slice 42 (.slice (some ⟨gb, go', none⟩) (ps.length + 1) qc) (some (.int .i64 1)) none none).run Try.prog wx = .ok (.slice pa' ps.length (qc - 1)) wx) ∧ PIn w pa' ps := by
    simp only [List.length_cons] at hq1
    refine ⟨if qc = 1 then some ⟨gb, go', none⟩ else some ⟨gb, go' + 1, none⟩, fun wx => ?_, ?_⟩
    · rw [run_slice_l wx 42 _ _ _ Try.underlying42 .i64 1 (by omega) (by omega)]
      simp [go_sem, sliced, Addr.add]
    · split
      · exact Or.inl (List.eq_nil_of_length_eq_zero (by omega))
      · refine Or.inr ⟨gb, go' + 1, rfl, fun i q hq => ?_⟩
        have := hpi (i + 1) q (by simpa using hq)
        rwa [show go' + (i + 1) = go' + 1 + i by omega] at this
  obtain ⟨W, hW⟩ : ∃ W, W = ((w.alloc (Obj.cells #[Value.string s, Value.slice (some ⟨kb, ko, none⟩) (flen k) cap] 24)).alloc (Obj.cells #[.int .i64 d.kind, .slice pa d.path.length pc, .int .i64 d.pos, .int .i64 d.many, .string d.lab] 44)).alloc (Obj.cells #[Value.string ⟨#[]⟩, Value.slice none 0 0] 24) := ⟨_, rfl⟩
  obtain ⟨hWs, hB, c0, c1, c2⟩ := boxes3 w (Obj.cells #[Value.string s, Value.slice (some ⟨kb, ko, none⟩) (flen k) cap] 24) (Obj.cells #[.int .i64 d.kind, .slice pa d.path.length pc, .int .i64 d.pos, .int .i64 d.many, .string d.lab] 44) (Obj.cells #[Value.string ⟨#[]⟩, Value.slice none 0 0] 24)
  rw [← hW] at hWs hB c0 c1 c2
  have hS : ∀ w', Below W.heap.size W w' → (w'.cell? ⟨w.heap.size, 1, none⟩ = some (.slice (some ⟨kb, ko, none⟩) (flen k) cap) ∧ w'.cell? ⟨kb, ko + p * 2, none⟩ = some (.string x.1) ∧ w'.cell? ⟨kb, ko + p * 2 + 1, none⟩ = some (.slice x.2.1 (flen kk) x.2.2) ∧ w'.cell? ⟨w.heap.size + 1, 0, none⟩ = some (.int .i64 d.kind) ∧ w'.cell? ⟨w.heap.size + 1, 1, none⟩ = some (.slice pa d.path.length pc) ∧ w'.cell? ⟨w.heap.size + 1, 2, none⟩ = some (.int .i64 d.pos) ∧ w'.cell? ⟨w.heap.size + 1, 3, none⟩ = some (.int .i64 d.many) ∧ w'.cell? ⟨w.heap.size + 1, 4, none⟩ = some (.string d.lab)) := fun w' h => by
    have e0 : w'.heap[w.heap.size]? = _ := (h.block _ (by omega)).trans c0
    have e1 : w'.heap[w.heap.size + 1]? = _ := (h.block _ (by omega)).trans c1
    exact ⟨by (rw [cell_of_row _ _ 1 _ _ _ e0]; rfl), by (rw [h.cell (by simp only; omega), hB.cell hbb]; exact hc0), by (rw [h.cell (by simp only; omega), hB.cell hbb]; exact hc1), by (rw [cell_of_row _ _ 0 _ _ _ e1]; rfl), by (rw [cell_of_row _ _ 1 _ _ _ e1]; rfl), by (rw [cell_of_row _ _ 2 _ _ _ e1]; rfl), by (rw [cell_of_row _ _ 3 _ _ _ e1]; rfl), by (rw [cell_of_row _ _ 4 _ _ _ e1]; rfl)⟩
  have hO : ∀ W', Below W.heap.size W W' → Calls Try.prog 56 #[.agg #[.string x.1, .slice x.2.1 (flen kk) x.2.2], .agg #[.int .i64 d.kind, .slice pa d.path.length pc, .int .i64 d.pos, .int .i64 d.many, .string d.lab], .slice pa' ps.length (qc - 1)] W' (DoneEnd r W') := fun W' h => by
    have hBW := hB.trans (h.mono (by omega))
    rw [hr]
    simp only [List.length_cons] at hq1
    exact (hd x.1 x.2.1 x.2.2 kk pa pa' pc (qc - 1) W' (htin.below hBW) hn2 (hpa.below hBW) (by omega) (by omega)).mono fun _ _ h => h.s
  have HS := hide hS
  have HO := hide hO
  have HW := hide (And.intro hWs (And.intro hB (And.intro c0 c2)))
  have HKF := hide hkf
  have HT := hide ht
  have HB0 := hide (show Below W.heap.size W W.drew from (Below.refl _ _).drew)
  have hW4 : w.heap.size ≤ W.heap.size := by omega
  clear hS hO hWs hB c0 c1 c2 hkf ht hd hr hV he hc0 hc1 htin hpa hpi
  rcases hkk with ⟨e2, e3⟩ | e3
  all_goals
    go_enter Try.func56, Try.ntmps56
    go_wp2_with fail
    rw [← hW]
    clear hW p0
    go_cut [10, 11] (fun v c wx => ∃ (bx : Nat) (y : It), v = .pointer (some ⟨bx, 0, none⟩) ∧ c = .int .i64 r.1 ∧ Hid (Below W.heap.size W wx ∧ XIn W.heap.size wx bx y r))
    case first =>
      go_region_held3 (fun w' => w'.cell? ⟨w.heap.size, 1, none⟩ = some (.slice (some ⟨kb, ko, none⟩) (flen k) cap) ∧ w'.cell? ⟨kb, ko + p * 2, none⟩ = some (.string x.1) ∧ w'.cell? ⟨kb, ko + p * 2 + 1, none⟩ = some (.slice x.2.1 (flen kk) x.2.2) ∧ w'.cell? ⟨w.heap.size + 1, 0, none⟩ = some (.int .i64 d.kind) ∧ w'.cell? ⟨w.heap.size + 1, 1, none⟩ = some (.slice pa d.path.length pc) ∧ w'.cell? ⟨w.heap.size + 1, 2, none⟩ = some (.int .i64 d.pos) ∧ w'.cell? ⟨w.heap.size + 1, 3, none⟩ = some (.int .i64 d.many) ∧ w'.cell? ⟨w.heap.size + 1, 4, none⟩ = some (.string d.lab))
        (first | exact HS.out _ HB0.out | exact HS.out _ (HB0.out.alloc (Nat.le_refl _) _) | exact HS.out _ HB5.out | exact HS.out _ (HB5.out.alloc HB5.out.size _) | exact HS.out _ ((HB5.out.setCell (Nat.le_refl _) _).setCell (Nat.le_refl _) _))
        (first
          | (go_at_call 56; refine (HO.out _ HB0.out).mono ?_; rintro e w5 ⟨s', ka', cap', k', rfl, hg, hb5⟩
             have HB5 := hide (show Below W.heap.size W w5 from HB0.out.trans hb5)
             have HX := hide (XIn.behind (h := W.heap.size) (x := (s', ka', cap', k')) HB5.out.size hg)
             clear hg hb5)
          | (go_at_call 56; refine (HO.out _ (HB0.out.alloc (Nat.le_refl _) _)).mono ?_; rintro e w5 ⟨s', ka', cap', k', rfl, hg, hb5⟩
             have HB5 := hide (show Below W.heap.size W w5 from (HB0.out.alloc (Nat.le_refl _) _).trans (hb5.mono (by simp only [nblk_alloc]; exact Nat.le_succ _)))
             have hc5 : w5.heap[W.heap.size]? = some (Obj.cells #[Value.string ⟨#[]⟩, Value.slice none 0 0] 24) := by (rw [hb5.block _ (by simp only [nblk_alloc]; exact Nat.lt_succ_self _)]; exact heap_alloc_new _ _)
             have z0 : w5.cell? ⟨W.heap.size, 0, none⟩ = some (.string ⟨#[]⟩) := by (rw [cell_of_row _ _ 0 _ _ _ hc5]; rfl)
             have z1 : w5.cell? ⟨W.heap.size, 1, none⟩ = some (.slice none 0 0) := by (rw [cell_of_row _ _ 1 _ _ _ hc5]; rfl)
             have f0 : w5.frozen? ⟨W.heap.size, 0, none⟩ = false := by simp [World.frozen?, hc5]
             have f1 : w5.frozen? ⟨W.heap.size, 1, none⟩ = false := by simp [World.frozen?, hc5]
             have HX := hide (XIn.ahead (h := W.heap.size) (x := (s', ka', cap', k')) (r := r) hc5 (Nat.le_refl _) (fun h0 => ⟨(hg h0).1, (hg h0).2.1, (hg h0).2.2.1, by (have := (hg h0).2.2.2.1; rw [nblk_alloc] at this; exact this), (hg h0).2.2.2.2⟩))
             clear hg hb5 hc5))
      · go_wp2_with fail
        go_meet
        case rel => exact ⟨_, _, rfl, rfl, hide ⟨HB5.out.alloc HB5.out.size _, HX.out⟩⟩
      · go_wp2_with fail
        go_meet
        case rel => exact ⟨_, _, rfl, rfl, hide ⟨(HB5.out.setCell (Nat.le_refl _) _).setCell (Nat.le_refl _) _, HX.out⟩⟩
    case rest =>
      obtain ⟨bx, y, rfl, rfl, hc⟩ := hcut
      obtain ⟨wA, hwA⟩ : ∃ wA, wA = wc := ⟨_, rfl⟩
      subst hwA
      have hzA : w.heap.size + 1 + 1 + 1 ≤ wA.heap.size := by have := hc.out.1.size; have := HW.out.1; omega
      have a0 : wA.heap[w.heap.size]? = some (Obj.cells #[Value.string s, Value.slice (some ⟨kb, ko, none⟩) (flen k) cap] 24) := by rw [hc.out.1.block _ (by have := HW.out.1; omega)]; exact HW.out.2.2.1
      have a2 : wA.heap[w.heap.size + 1 + 1]? = some (Obj.cells #[Value.string ⟨#[]⟩, Value.slice none 0 0] 24) := by rw [hc.out.1.block _ (by have := HW.out.1; omega)]; exact HW.out.2.2.2
      have hbA : Below w.heap.size w wA := HW.out.2.1.trans (hc.out.1.mono hW4)
      have HX := hide (show XIn (w.heap.size + 1 + 1 + 1) wA bx y r from ⟨hc.out.2.blk, by have := hc.out.2.lo; have := HW.out.1; omega, fun h0 => ⟨(hc.out.2.good h0).1, (hc.out.2.good h0).2.1, (hc.out.2.good h0).2.2.1, (hc.out.2.good h0).2.2.2.1.mono (by have := HW.out.1; omega), (hc.out.2.good h0).2.2.2.2⟩⟩)
      have hS2 : ∀ w', Below wA.heap.size wA w' → (w'.cell? ⟨w.heap.size, 0, none⟩ = some (.string s) ∧ w'.cell? ⟨w.heap.size, 1, none⟩ = some (.slice (some ⟨kb, ko, none⟩) (flen k) cap)) := fun w' h => by
        have e0 : w'.heap[w.heap.size]? = _ := (h.block _ (by omega)).trans a0
        exact ⟨by (rw [cell_of_row _ _ 0 _ _ _ e0]; rfl), by (rw [cell_of_row _ _ 1 _ _ _ e0]; rfl)⟩
      have hO2 : ∀ W', Below wA.heap.size wA W' → Calls Try.prog 53 #[.slice (some ⟨kb, ko, none⟩) (flen k) cap] W' (OwnFEnd k W') := fun W' h => (ownListK_any k (some ⟨kb, ko, none⟩) cap W' hn ((show KIn w (some ⟨kb, ko, none⟩) k from Or.inr ⟨kb, ko, rfl, HKF.out⟩).below (hbA.trans (h.mono (by omega))))).mono fun _ _ h => h.long
      have HS2 := hide hS2
      have HO2 := hide hO2
      have HA0 := hide (show Below wA.heap.size wA wA.drew from (Below.refl _ _).drew)
      have HA2 := hide a2
      have HBA := hide hbA
      clear HO HS HB0 HW hc a0 a2 hbA hS2 hO2 hsl hp hW4
      go_wp2_with fail
      go_cut [12] (fun v wx => ∃ (bo : Nat) (va : Option Addr) (vc : Nat) (L : List It), v = .pointer (some ⟨bo, 0, none⟩) ∧ Hid (Below wA.heap.size wA wx ∧ OIn wA.heap.size wx bo s k va vc L))
      case first =>
        go_region_held3 (fun w' => w'.cell? ⟨w.heap.size, 0, none⟩ = some (.string s) ∧ w'.cell? ⟨w.heap.size, 1, none⟩ = some (.slice (some ⟨kb, ko, none⟩) (flen k) cap))
          (first | exact HS2.out _ HA0.out | exact HS2.out _ (HA0.out.alloc (Nat.le_refl _) _) | exact HS2.out _ HB5.out | exact HS2.out _ (HB5.out.alloc HB5.out.size _) | exact HS2.out _ ((HB5.out.setCell (Nat.le_refl _) _).setCell (Nat.le_refl _) _))
          (first
            | (go_at_call 53; refine (HO2.out _ HA0.out).mono ?_; rintro e w5 ⟨va, vc, L, rfl, hK, hlL, hLk, hb5⟩
               have HB5 := hide (show Below wA.heap.size wA w5 from HA0.out.trans hb5)
               have HZ := hide (OIn.behind (B := wA.heap.size) (s := s) HB5.out.size hK hlL hLk)
               clear hK hlL hLk hb5)
            | (go_at_call 53; refine (HO2.out _ (HA0.out.alloc (Nat.le_refl _) _)).mono ?_; rintro e w5 ⟨va, vc, L, rfl, hK, hlL, hLk, hb5⟩
               have HB5 := hide (show Below wA.heap.size wA w5 from (HA0.out.alloc (Nat.le_refl _) _).trans (hb5.mono (by simp only [nblk_alloc]; exact Nat.le_succ _)))
               have hc5 : w5.heap[wA.heap.size]? = some (Obj.cells #[Value.string ⟨#[]⟩, Value.slice none 0 0] 24) := by (rw [hb5.block _ (by simp only [nblk_alloc]; exact Nat.lt_succ_self _)]; exact heap_alloc_new _ _)
               have z0 : w5.cell? ⟨wA.heap.size, 0, none⟩ = some (.string ⟨#[]⟩) := by (rw [cell_of_row _ _ 0 _ _ _ hc5]; rfl)
               have z1 : w5.cell? ⟨wA.heap.size, 1, none⟩ = some (.slice none 0 0) := by (rw [cell_of_row _ _ 1 _ _ _ hc5]; rfl)
               have f0 : w5.frozen? ⟨wA.heap.size, 0, none⟩ = false := by simp [World.frozen?, hc5]
               have f1 : w5.frozen? ⟨wA.heap.size, 1, none⟩ = false := by simp [World.frozen?, hc5]
               have HZ := hide (OIn.ahead (B := wA.heap.size) (s := s) hc5 (Nat.le_refl _) (Deed.KInv.lower hK (by rw [nblk_alloc]; exact Nat.le_refl _)) hlL hLk)
               clear hK hlL hLk hb5 hc5))
        · go_wp2_with fail
          go_meet
          case rel => exact ⟨_, _, _, _, rfl, hide ⟨HB5.out.alloc HB5.out.size _, HZ.out⟩⟩
        · go_wp2_with fail
          go_meet
          case rel => exact ⟨_, _, _, _, rfl, hide ⟨(HB5.out.setCell (Nat.le_refl _) _).setCell (Nat.le_refl _) _, HZ.out⟩⟩
      case rest =>
        obtain ⟨bo, va, vc, L, rfl, hz⟩ := hcut
        obtain ⟨wB, hwB⟩ : ∃ wB, wB = wc := ⟨_, rfl⟩
        subst hwB
        obtain ⟨g, u0, u1, rfl, n1, n2, n3, n4, hvc, hvm, i0, i1, i2, i3, i4, i5, i6, i7, i8, i9, i10, i11, hfin⟩ := step_fin (p := p) hz.out.2 HX.out hz.out.1 HBA.out hzA HA2.out hlt HT.out.size
        clear HS2 HO2 HA0 HA2 HBA HX hz HKF
        go_wp2_with fail
        refine bodyPost_ret (v := .tuple #[.agg #[.string s, .slice (some ⟨g, 0, none⟩) (flen k) vc], .int .i64 r.1]) (by simp [results, Try.results56, go_sem, *]) rfl ?_
        exact hfin.out

end Go.Proofs.Ytcknganggcbkjab.Deed
