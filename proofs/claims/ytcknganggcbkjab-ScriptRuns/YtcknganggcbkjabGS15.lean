/- What Run comes to, and what its loop keeps. Of no program. -/
/- The tree that the parents of nodes tell has as many nodes; and what order.Tree tells, of lists alone. Of no program. -/
/- order.add puts the nodes of a tree behind others. Of the program's text. -/
import Derived.Test.YtcknganggcbkjabGS10
import Derived.Test.YtcknganggcbkjabGS11
import Derived.Test.YtcknganggcbkjabGS14
import Derived.Test.YtcknganggcbkjabGS02
import Derived.Test.YtcknganggcbkjabGS03
import Derived.Test.YtcknganggcbkjabGS04
import Derived.Test.YtcknganggcbkjabProg
import Derived.Test.YtcknganggcbkjabGS01
import Derived.Test.YtcknganggcbkjabGS13
import Derived.Deep.RegionHeld3
import Derived.Deep.LoopGhost
import Derived.BigQuiet
import Derived.WalkSmall
import Derived.Deep.AppendLies
namespace Go.Proofs.Ytcknganggcbkjab.Deed
open Go.Deep Go.RowKit
set_option linter.unusedVariables false
set_option maxRecDepth 20000

/-- What Run tells: a fault, a tree, deeds. -/
def RunEnd (fr : Prop) (r : (Int × Int) × (ByteArray × Fo) × List Dd) (w : World) (e : Ending) (w' : World) : Prop := ∃ s' ka' cap' k' va vc A, e = .returned (.tuple #[.agg #[.string s', .slice ka' (flen k') cap'], .slice va (List.length (α := Pd) A) vc, .agg #[.int .i64 r.1.1, .int .i64 r.1.2]]) ∧ s' = r.2.1.1 ∧ strip k' = r.2.1.2 ∧ dds A = r.2.2 ∧ TIn w' s' ka' cap' k' ∧ FFrom w.heap.size k' ∧ FPlain w' k' ∧ DsIn w' va A ∧ A.length ≤ vc ∧ vc ≤ maxLen ∧ Below w.heap.size w w' ∧ (fr → Row w.heap.size w' (.slice va A.length vc) A)
theorem RunEnd.bad {fr : Prop} {c q : Int} {w w' : World} (h : Below w.heap.size w w') : RunEnd fr ((c, q), noT, []) w (.returned (.tuple #[.agg #[.string ⟨#[]⟩, .slice none 0 0], .slice none 0 0, .agg #[.int .i64 c, .int .i64 q]])) w' :=
  ⟨⟨#[]⟩, none, 0, .nil, none, 0, [], rfl, rfl, rfl, rfl, ⟨by decide, Nat.le_refl _, by decide, Or.inl rfl⟩, trivial, trivial, ⟨Or.inl rfl, PdsIn.nil _⟩, Nat.le_refl _, by decide, h, fun _ => Row.nil _ _⟩
theorem boxesR (w : World) (o0 o1 o2 : Obj) : (((w.alloc o0).alloc o1).alloc o2).heap.size = w.heap.size + 1 + 1 + 1 ∧ Below w.heap.size w (((w.alloc o0).alloc o1).alloc o2) ∧ (((w.alloc o0).alloc o1).alloc o2).heap[w.heap.size]? = some o0 ∧ (((w.alloc o0).alloc o1).alloc o2).heap[w.heap.size + 1]? = some o1 ∧ (((w.alloc o0).alloc o1).alloc o2).heap[w.heap.size + 1 + 1]? = some o2 := by
  have h1 : ((w.alloc o0).alloc o1).heap.size = w.heap.size + 1 + 1 := by simp
  refine ⟨by simp, (((Below.refl _ _).alloc (Nat.le_refl _) _).alloc (by simp) _).alloc (by rw [h1]; omega) _, ?_, ?_, ?_⟩
  · rw [Below.heap_alloc _ _ _ (by rw [h1]; omega), Below.heap_alloc _ _ _ (by simp)]
    exact heap_alloc_new _ _
  · rw [Below.heap_alloc _ _ _ (by rw [h1]; omega), show w.heap.size + 1 = (w.alloc o0).heap.size by simp]
    exact heap_alloc_new _ _
  · rw [← h1]
    exact heap_alloc_new _ _
theorem box2_set {w : World} {c : Nat} {a b u v : Value} {T : TypeId} (h : w.heap[c]? = some (.cells #[a, b] T)) : ((w.setCell ⟨c, 0, none⟩ u).setCell ⟨c, 1, none⟩ v).heap[c]? = some (.cells #[u, v] T) := by
  simp [World.setCell, Array.getElem?_modify, h]
theorem box2_off {w : World} {c q : Nat} {u v : Value} (h : q ≠ c) : ((w.setCell ⟨c, 0, none⟩ u).setCell ⟨c, 1, none⟩ v).heap[q]? = w.heap[q]? := by
  rw [Below.heap_setCell _ _ _ _ h, Below.heap_setCell _ _ _ _ h]
theorem small_bad : ∀ k : Fo, badF k = false → SmallF k
  | .nil, _ => trivial
  | .node _ _ x k r, h => by
    simp only [badF, Bool.or_eq_false_iff, Bool.not_eq_false'] at h
    exact ⟨by have := labelB_size h.1.1; omega, small_bad k h.1.2, small_bad r h.2⟩
/-- A good tree is small. -/
theorem fault_small {s : ByteArray} {k : Fo} (h : faultT s k = 0) : 1 + fnodes k ≤ 200 ∧ s.size ≤ 1000 ∧ SmallF k := by
  obtain ⟨h1, _, h3⟩ := fault_zero h
  unfold badT at h3
  simp only [Bool.or_eq_false_iff, Bool.not_eq_false'] at h3
  exact ⟨by omega, by have := labelB_size h3.1; omega, small_bad k h3.2⟩
/-- A list turned round in its place. -/
theorem Row.turned {B : Nat} {w w' : World} {v : Value} {A : List Pd} (h : Row B w v A) (hg : w.grownBy w' v.ownBlock) (ho : w'.ownsRow B 44 5 v A.length (pdCells A.reverse)) : Row B w' v A.reverse :=
  ⟨by simpa using ho, fun x hx => (h.each x (by simpa using hx)).block fun hp a ha => hg.block _ ((h.each x (by simpa using hx)).lt hp a ha) fun e => h.off x (by simpa using hx) hp a ha e.symm, fun x hx => h.off x (by simpa using hx), fun x hx => h.fresh x (by simpa using hx)⟩

/-- What the loop keeps: the tree in its box, the deeds that undo what was done, the boxes of the results. -/
structure RInv (w : World) (L : List Pd) (s : ByteArray) (k : Fo) (i : Nat) (wr : World) (x : ByteArray) (ka : Option Addr) (cap : Nat) (kk : Fo) (A : List Pd) (v : Value) : Prop where
  fw : ∃ bs, fwd ((dds L).take i) (s, strip k) = some ((x, strip kk), bs) ∧ dds A = bs.reverse
  len : A.length = i
  tin : TIn wr x ka cap kk
  plain : FPlain wr kk
  frm : FFrom (w.heap.size + 3) kk
  row : Row (w.heap.size + 3) wr v A
  off : ∀ g, v.ownBlock = some g → FOff g kk
  box : wr.heap[w.heap.size]? = some (Obj.cells #[.string x, .slice ka (flen kk) cap] 24)
  b1 : wr.heap[w.heap.size + 1]? = some (Obj.cells #[.string ⟨#[]⟩, .slice none 0 0] 24)
  b2 : wr.heap[w.heap.size + 1 + 1]? = some (Obj.cells #[.int .i64 0, .int .i64 0] 57)
  below : Below w.heap.size w wr
  size : w.heap.size + 3 ≤ wr.heap.size
/-- One deed more: behind the call of Do, the append and the stores. -/
theorem RInv.step {w : World} {L : List Pd} {s : ByteArray} {k : Fo} {i : Nat} {wr : World} {x : ByteArray} {ka : Option Addr} {cap : Nat} {kk : Fo} {A : List Pd} {va : Option Addr} {vc : Nat} (h : RInv w L s k i wr x ka cap kk A (.slice va i vc)) {y : Pd} (hy : L[i]? = some y) (h0 : (doP y.1 x kk).1 = 0)
    {V1 V2 w2 w4 : World} (b1 : Below wr.heap.size wr V1) (s1 : V1.heap.size = wr.heap.size + 1) (b2 : Below V1.heap.size V1 w2) (b3 : Below w2.heap.size w2 V2) (s3 : V2.heap.size = w2.heap.size + 1 + 1) {x' : ByteArray} {ka' : Option Addr} {cap' : Nat} {k' : Fo} {pa : Option Addr} {pc : Nat} (hx : x' = (doP y.1 x kk).2.1.1) (hk : strip k' = (doP y.1 x kk).2.1.2) (ht : TIn w2 x' ka' cap' k') (hf : FFrom V1.heap.size k') (hp : FPlain w2 k') (hd : DIn w2 (doP y.1 x kk).2.2 pa pc)
    {va' : Option Addr} {vc' : Nat} (hrow : Row (w.heap.size + 3) w4 (.slice va' (i + 1) vc') (A ++ [((doP y.1 x kk).2.2, pa, pc)])) (hg : V2.drew.grownBy w4 (Value.slice va i vc).ownBlock) (hat : (Value.slice va' (i + 1) vc').ownBlock = (Value.slice va i vc).ownBlock ∨ (Value.slice va' (i + 1) vc').ownBlock = some (V2.heap.size + 1)) :
    RInv w L s k (i + 1) ((w4.setCell ⟨w.heap.size, 0, none⟩ (.string x')).setCell ⟨w.heap.size, 1, none⟩ (.slice ka' (flen k') cap')) x' ka' cap' k' (A ++ [((doP y.1 x kk).2.2, pa, pc)]) (.slice va' (i + 1) vc') := by
  have hsz := h.size
  have z1 := b1.size
  have z2 := b2.size
  have z3 := b3.size
  have z4 : V2.heap.size ≤ w4.heap.size := hg.size
  have hown : ∀ g, (Value.slice va i vc).ownBlock = some g → w.heap.size + 3 ≤ g ∧ g < wr.heap.size := fun g hg' => by
    have := h.len
    exact ownBlockN_lt h.row.own hg'
  have bV : Below V1.heap.size V1 V2.drew := (b2.trans (b3.mono z2)).trans (Below.refl _ _).drew
  have bR : Below wr.heap.size wr V2.drew := b1.trans (bV.mono z1)
  have keep : ∀ q, q < wr.heap.size → (Value.slice va i vc).ownBlock ≠ some q → w4.heap[q]? = wr.heap[q]? := fun q hq hne => by
    have e1 := bR.block q hq
    rw [grown_off hg (c := q) (show q < V2.heap.size by omega) hne]
    exact e1
  have nb : ∀ q, q < w.heap.size + 3 → (Value.slice va i vc).ownBlock ≠ some q := fun q hq e => by
    have := (hown q e).1
    omega
  have o0 : FOff w.heap.size k' := hf.off (by omega)
  have bD : Below w2.heap.size w2 V2.drew := b3.trans (Below.refl _ _).drew
  obtain ⟨t4, p4⟩ := TIn.grown hg (k := k') (fun g hg' => hf.off (by have := (hown g hg').2; omega)) (ht.below bD) (hp.below bD)
  refine ⟨?_, by simp [h.len], TIn.set (TIn.set t4 o0) o0, FPlain.set (FPlain.set p4 o0) o0, hf.mono (by omega), hrow.keep (fun q hq _ => box2_off (by omega)), fun g hg' => ?_, box2_set (a := .string x) (b := .slice ka (flen kk) cap) ?_, ?_, ?_, ?_, ?_⟩
  · obtain ⟨bs, f1, f2⟩ := h.fw
    refine ⟨(doP y.1 x kk).2.2 :: bs, ?_, by rw [dds_append, f2]; simp [dds]⟩
    have := fwd_take (d := y.1) f1 (dds_at hy) (by simp only; rw [doP_strip]; exact h0)
    simp only [doP_strip] at this
    rw [this, hx, hk]
  · rcases hat with e | e
    · exact hf.off (by have := (hown g (e ▸ hg')).2; omega)
    · rw [e] at hg'
      injection hg' with hg'
      rw [← hg']
      rcases (ht.below bD).kids with h1 | ⟨kb, ko, e1, hfi⟩
      · rw [h1]; trivial
      · exact FIn.off (w := V2.drew) (show V2.heap.size ≤ V2.heap.size + 1 by omega) hfi
  · rw [keep _ (by omega) (nb _ (by omega))]; exact h.box
  · rw [box2_off (by omega), keep _ (by omega) (nb _ (by omega))]; exact h.b1
  · rw [box2_off (by omega), keep _ (by omega) (nb _ (by omega))]; exact h.b2
  · have e1 : Below w.heap.size w w4 := (h.below.trans (bR.mono (by omega))).grown hg (show w.heap.size ≤ V2.heap.size by omega) (fun g hg' => by have := (hown g hg').1; omega)
    exact (e1.setCell (Nat.le_refl _) _).setCell (Nat.le_refl _) _
  · simp [World.setCell]
    omega
end Go.Proofs.Ytcknganggcbkjab.Deed
namespace Go.Proofs.Ytcknganggcbkjab
open Go.Deep Go.RowKit
set_option linter.unusedVariables false
set_option maxRecDepth 20000

def gn (g : Gs) : Nat := fnodes (toFo g)
theorem gn_append : ∀ a b : Gs, gn (a ++ b) = gn a + gn b
  | [], b => by simp [gn, toFo, fnodes]
  | x :: a, b => by
    have := gn_append a b
    unfold gn at this ⊢
    simp only [List.cons_append, toFo, fnodes, this]
    omega
def tot (G : Nat → Gs) : Nat → Nat → Nat
  | _, 0 => 0
  | i, k + 1 => gn (G i) + tot G (i + 1) k
theorem tot_upd (G : Nat → Gs) (p : Nat) (l : Gs) : ∀ (k i : Nat), (p < i ∨ i + k ≤ p → tot (upd G p (G p ++ l)) i k = tot G i k) ∧ (i ≤ p → p < i + k → tot (upd G p (G p ++ l)) i k = tot G i k + gn l)
  | 0, i => ⟨fun _ => rfl, fun h1 h2 => by omega⟩
  | k + 1, i => by
    obtain ⟨h1, h2⟩ := tot_upd G p l k (i + 1)
    constructor
    · intro h
      have : upd G p (G p ++ l) i = G i := by unfold upd; rw [if_neg (by omega)]
      simp only [tot, this]
      rw [h1 (by omega)]
    · intro h3 h4
      by_cases hip : i = p
      · subst hip
        have : upd G i (G i ++ l) i = G i ++ l := by simp [upd]
        simp only [tot, this]
        rw [h1 (by omega), gn_append]
        omega
      · have : upd G p (G p ++ l) i = G i := by unfold upd; rw [if_neg hip]
        simp only [tot, this]
        rw [h2 (by omega) (by omega)]
        omega
theorem grows_tot (n : Nat) : ∀ (l : List Nd) (i : Nat) (G G' : Nat → Gs), grows n l i G = some G' → i + l.length ≤ n → tot G' (i + l.length) (n - (i + l.length)) = tot G i (n - i) + l.length
  | [], i, G, G', h, _ => by
    simp only [grows, Option.some.injEq] at h
    subst h
    simp
  | x :: l, i, G, G', h, hl => by
    simp only [grows] at h
    simp only [List.length_cons] at hl
    split at h
    · cases h
    · rename_i hx
      simp only [not_or] at hx
      have hp : i + 1 ≤ x.par.toNat ∧ x.par.toNat < n := by omega
      have h1 := grows_tot n l (i + 1) _ G' h (by omega)
      have h2 := (tot_upd G x.par.toNat [(x.lab, toFo (G i))] (n - (i + 1)) (i + 1)).2 hp.1 (by omega)
      have h3 : gn [(x.lab, toFo (G i))] = 1 + gn (G i) := by simp [gn, toFo, fnodes]; omega
      have h4 : tot G i (n - i) = gn (G i) + tot G (i + 1) (n - (i + 1)) := by
        rw [show n - i = (n - (i + 1)) + 1 by omega]
        rfl
      simp only [List.length_cons]
      rw [show i + (l.length + 1) = i + 1 + l.length by omega, h1, h2, h3, h4]
      omega
theorem growP_nodes {L : List Nd} {s : ByteArray} {k : Fo} (h : growP L = some (s, k)) : fnodes k + 1 = L.length := by
  unfold growP at h
  split at h
  · cases h
  · rename_i x hx
    have hlt := (List.getElem?_eq_some_iff.1 hx).1
    obtain ⟨n, hn⟩ : ∃ n, L.length = n + 1 := ⟨L.length - 1, by omega⟩
    rw [hn, Nat.add_sub_cancel] at h
    cases hg : grows (n + 1) (L.take n) 0 (fun _ => []) with
    | none => rw [hg] at h; simp at h
    | some G =>
      rw [hg] at h
      simp only [Option.map_some, Option.some.injEq, Prod.mk.injEq] at h
      have h1 := grows_tot (n + 1) (L.take n) 0 _ G hg (by rw [List.length_take]; omega)
      have hl : (L.take n).length = n := by rw [List.length_take]; omega
      have h0 : ∀ k i, tot (fun _ => []) i k = 0 := by
        intro k
        induction k with
        | zero => intro i; rfl
        | succ k ih => intro i; simp [tot, ih, gn, toFo, fnodes]
      rw [hl, h0, show n + 1 - (0 + n) = 1 by omega] at h1
      simp only [tot, Nat.zero_add, Nat.add_zero] at h1
      rw [← h.2]
      show gn (G n) + 1 = _
      omega

/-- These are the nodes of that good tree. -/
def TOk (L : List Nd) (s : ByteArray) (k : Fo) : Prop := growP L = some (s, k) ∧ faultT s k = 0 ∧ ndT 0 s k (-1) = L
theorem TOk.len {L : List Nd} {s : ByteArray} {k : Fo} (h : TOk L s k) : 0 < L.length ∧ L.length ≤ 40 := by
  obtain ⟨_, h2, h3⟩ := h
  have := (fault_zero h2).1
  rw [← h3, ndT_length]
  omega
theorem TOk.uniq {L : List Nd} {s s' : ByteArray} {k k' : Fo} (h : TOk L s k) (h' : TOk L s' k') : s = s' ∧ k = k' := by
  have := h.1.symm.trans h'.1
  simpa using this

end Go.Proofs.Ytcknganggcbkjab
namespace Go.Proofs.Ytcknganggcbkjab
open Go.Deep Go.RowKit
set_option linter.unusedVariables false
set_option maxRecDepth 20000

theorem Try.infoNode : (Try.prog.info? 35).map (fun i => (i.zero, i.size, i.bytes)) = some (some (.agg #[.string ⟨#[]⟩, .int .i64 0, .int .i64 0]), 3, 32) := by kernel_rfl
theorem Try.infoInt : (Try.prog.info? 3).map (fun i => (i.zero, i.size, i.bytes)) = some (some (.int .i64 0), 1, 8) := by kernel_rfl

theorem int_news (w : World) (T : TypeId) (x : Int) (j : Nat) (u : Value) (h : ([Value.int .i64 x] : List Value)[j]? = some u) : (w.alloc (Obj.cells #[.int .i64 x] T)).cell? ((⟨w.heap.size, 0, none⟩ : Addr).add j) = some u := by
  refine World.news_of_block (cs := #[.int .i64 x]) (t := T) (fr := (0, 0)) ?_ j u h
  show (w.heap.push _)[w.heap.size]? = _
  simp
theorem nd_news (w : World) (T : TypeId) (x : Nd) (j : Nat) (u : Value) (h : (ndCell x)[j]? = some u) : (w.alloc (Obj.cells #[.string x.lab, .int .i64 x.par, .int .i64 x.left] T)).cell? ((⟨w.heap.size, 0, none⟩ : Addr).add j) = some u := by
  refine World.news_of_block (cs := #[.string x.lab, .int .i64 x.par, .int .i64 x.left]) (t := T) (fr := (0, 0)) ?_ j u h
  show (w.heap.push _)[w.heap.size]? = _
  simp
theorem nd_one (x : Nd) : ∀ u ∈ ndCell x, u.oneCell' = true := by
  intro u hu
  simp [ndCell] at hu
  rcases hu with rfl | rfl | rfl <;> rfl

theorem badF_at : ∀ (j : Nat) (k : Fo), badF k = false → badF (fdrop j k) = false
  | 0, _, h => h
  | _ + 1, .nil, _ => rfl
  | j + 1, .node _ _ _ _ r, h => by
    simp only [badF, Bool.or_eq_false_iff] at h
    exact badF_at j r h.2
theorem badF_kid {k : Fo} {j b' o' : Nat} {x : ByteArray × Option Addr × Nat} {kk r : Fo} (h : badF k = false) (he : fdrop j k = .node b' o' x kk r) : badT x.1 kk = false := by
  have := badF_at j k h
  rw [he] at this
  simp only [badF, Bool.or_eq_false_iff] at this
  unfold badT
  simp [this.1]
theorem badT_small {s : ByteArray} {k : Fo} (h : badT s k = false) : s.size ≤ 6 ∧ badF k = false := by
  unfold badT at h
  simp only [Bool.or_eq_false_iff, Bool.not_eq_false'] at h
  refine ⟨?_, h.2⟩
  have h1 := h.1
  unfold labelB at h1
  simp only [Bool.and_eq_true, decide_eq_true_eq] at h1
  exact h1.1.2

def AddsAt (w0 : World) (k : Fo) : Prop := ∀ (s : ByteArray) (ka : Option Addr) (cap : Nat) (L : List Nd) (n : Nat) (v : Value) (w : World), L.length = n → TIn w0 s ka cap k → badT s k = false → Below w0.heap.size w0 w → w.ownsRow w0.heap.size 35 3 v n (ndCells L) → n + fnodes k + 1 ≤ 5000 →
    Calls Try.prog 79 #[v, .agg #[.string s, .slice ka (flen k) cap]] w fun e w' => ∃ v', e = .returned v' ∧ w'.ownsRow w0.heap.size 35 3 v' (n + fnodes k + 1) (ndCells (L ++ ndT n s k (-1))) ∧ w.grownBy w' v.ownBlock ∧ (v'.ownBlock = v.ownBlock ∨ ∀ g, v'.ownBlock = some g → w.heap.size ≤ g)

/-- What the first loop keeps. -/
structure AInv (B : Nat) (w wr : World) (k : Fo) (L : List Nd) (n : Nat) (v v0 v6 : Value) (j : Nat) (D : List Nd) (rs : List Nat) : Prop where
  row : wr.ownsRow B 35 3 v0 (n + D.length) (ndCells (L ++ D))
  kids : wr.ownsRow B 3 1 v6 j (intCells rs)
  nodes : ndF n k (-1) = D ++ ndF (n + D.length) (fdrop j k) (-1)
  root : roots n k = rs ++ roots (n + D.length) (fdrop j k)
  many : D.length + fnodes (fdrop j k) = fnodes k
  rlen : rs.length = j
  apart : ∀ g, v0.ownBlock = some g → v6.ownBlock ≠ some g
  new6 : ∀ g, v6.ownBlock = some g → w.heap.size ≤ g
  own0 : v0.ownBlock = v.ownBlock ∨ ∀ g, v0.ownBlock = some g → w.heap.size ≤ g
  grown : w.grownBy wr v.ownBlock

theorem AInv.step {B : Nat} {w wr : World} {k : Fo} {L : List Nd} {n : Nat} {v v0 v6 : Value} {j : Nat} {D : List Nd} {rs : List Nat} (h : AInv B w wr k L n v v0 v6 j D rs) {b' o' : Nat} {x : ByteArray × Option Addr × Nat} {kk : Fo} (he : fdrop j k = .node b' o' x kk (fdrop (j + 1) k))
    {w1 : World} (hw1 : Below wr.heap.size wr w1) {w2 w3 : World} {v0' : Value} {obi : Obj} {g6 cap6 : Nat}
    (hrow2 : w2.ownsRow B 35 3 v0' (n + D.length + fnodes kk + 1) (ndCells (L ++ D ++ ndT (n + D.length) x.1 kk (-1)))) (hg2 : w1.grownBy w2 v0.ownBlock) (hown2 : v0'.ownBlock = v0.ownBlock ∨ ∀ g, v0'.ownBlock = some g → w1.heap.size ≤ g)
    (hown6 : w3.ownsRow B 3 1 (.slice (some ⟨g6, 0, none⟩) (j + 1) cap6) (j + 1) (intCells rs ++ [.int .i64 ((n + D.length + fnodes kk : Nat) : Int)])) (hgrow6 : (w2.alloc obi).grownBy w3 v6.ownBlock) (hat6 : v6.ownBlock = some g6 ∨ g6 = w2.heap.size + 1) :
    AInv B w w3 k L n v v0' (.slice (some ⟨g6, 0, none⟩) (j + 1) cap6) (j + 1) (D ++ ndT (n + D.length) x.1 kk (-1)) (rs ++ [n + D.length + fnodes kk]) := by
  have hlen : (D ++ ndT (n + D.length) x.1 kk (-1)).length = D.length + fnodes kk + 1 := by rw [List.length_append, ndT_length]; omega
  have hmany := h.many
  rw [he] at hmany
  simp only [fnodes] at hmany
  have hs1 := hw1.size
  have hs2 := hg2.size
  have hs3 := hgrow6.size
  have hs0 := h.grown.size
  have hz : (w2.alloc obi).heap.size = w2.heap.size + 1 := by simp
  have hne : ∀ g, v0'.ownBlock = some g → v6.ownBlock ≠ some g := fun g hg h6 => by
    rcases hown2 with e | e
    · exact h.apart g (e ▸ hg) h6
    · have := e g hg
      have := (ownBlockN_lt h.kids h6).2
      omega
  refine ⟨?_, ?_, ?_, ?_, ?_, by simp [h.rlen], ?_, ?_, ?_, ?_⟩
  · rw [hlen, ← List.append_assoc, show n + (D.length + fnodes kk + 1) = n + D.length + fnodes kk + 1 by omega]
    exact ownsN_grown (ownsN_below hrow2 ((Below.refl _ _).alloc (Nat.le_refl _) _)) hgrow6 hne
  · rw [show intCells (rs ++ [n + D.length + fnodes kk]) = intCells rs ++ [.int .i64 ((n + D.length + fnodes kk : Nat) : Int)] by simp [intCells]]
    exact hown6
  · rw [h.nodes, ndF_step he, hlen, List.append_assoc, show n + D.length + fnodes kk + 1 = n + (D.length + fnodes kk + 1) by omega]
  · rw [h.root, roots_step he, hlen, List.append_assoc, show n + D.length + fnodes kk + 1 = n + (D.length + fnodes kk + 1) by omega]
    rfl
  · rw [hlen]; omega
  · intro g hg hg6
    simp only [Value.ownBlock, Option.some.injEq] at hg6
    subst hg6
    rcases hat6 with e | e
    · exact hne g6 hg e
    · have := (ownBlockN_lt hrow2 hg).2
      omega
  · intro g hg
    simp only [Value.ownBlock, Option.some.injEq] at hg
    subst hg
    rcases hat6 with e | e
    · exact h.new6 g6 e
    · omega
  · rcases hown2 with e | e
    · rw [e]; exact h.own0
    · exact Or.inr fun g hg => by have := e g hg; omega
  · refine grownBy_trans (grownBy_trans (grownBy_trans (h.grown) (grownBy_of_below hw1 none) (Or.inr fun g hg => by cases hg)) hg2 h.own0) (grownBy_trans (grownBy_of_below ((Below.refl _ _).alloc (Nat.le_refl _) _) v6.ownBlock) hgrow6 (Or.inl rfl)) (Or.inr fun g hg => h.new6 g hg)

set_option maxHeartbeats 2000000 in
theorem adds_N (w0 : World) : ∀ (N : Nat) (k : Fo), fnodes k < N → AddsAt w0 k := by
  intro N
  induction N with
  | zero => intro k hN; omega
  | succ N ih =>
    intro k hN s ka cap L n v w hLn ht hbad hB hv hlen
    have HI := hide ih; clear ih
    obtain ⟨hs, hl, hc, hk⟩ := ht
    obtain ⟨hsz, hbf⟩ := badT_small hbad
    unfold maxLen at hs hc
    obtain ⟨va, vc, rfl, hvc, hvm⟩ := ownsN_form hv
    have hvb := hide (fun g (hg : (Value.slice va n vc).ownBlock = some g) => ownBlockN_lt hv hg)
    have hz0 := hB.size
    have hfl := flen_le_nodes k
    obtain ⟨iN, hiN, hn0, hn1, hn2⟩ := info_parts Try.infoNode
    obtain ⟨iI, hiI, hi0, hi1, hi2⟩ := info_parts Try.infoInt
    unfold maxLen at hvm
    obtain ⟨W1, hW1⟩ : ∃ W1, W1 = w.alloc (Obj.cells #[Value.string s, Value.slice ka (flen k) cap] 24) := ⟨_, rfl⟩
    have hg1 : w.grownBy W1 (Value.slice va n vc).ownBlock := by rw [hW1]; exact grownBy_of_below ((Below.refl _ _).alloc (Nat.le_refl _) _) _
    have hz1 : W1.heap.size = w.heap.size + 1 := by rw [hW1]; simp
    have hbox : W1.heap[w.heap.size]? = some (Obj.cells #[Value.string s, Value.slice ka (flen k) cap] 24) := by rw [hW1]; exact heap_alloc_new _ _
    have hrow1 : W1.ownsRow w0.heap.size 35 3 (Value.slice va n vc) n (ndCells L) := by rw [hW1]; exact ownsN_below hv ((Below.refl _ _).alloc (Nat.le_refl _) _)
    have hstart : AInv w0.heap.size W1 W1 k L n (Value.slice va n vc) (Value.slice va n vc) (Value.slice none 0 0) 0 [] [] :=
      ⟨by simpa using hrow1, ⟨rfl, Or.inl ⟨rfl, rfl⟩⟩, by simp [fdrop], by simp [fdrop], by simp [fdrop], rfl, (fun g _ h => by cases h), (fun g h => by cases h), Or.inl rfl, grownBy_refl _ _⟩
    have HST := hide hstart
    have HBX := hide hbox
    have HG1 := hide hg1
    clear hstart hbox hrow1 hg1 hv
    go_enter Try.func79, Try.ntmps79
    go_wp2_with fail
    rw [← hW1]
    clear hW1
    go_loopg [0, 6, 16] (flen k) (fun gk v0 v6 v16 wr => ∃ (j : Nat) (D : List Nd) (rs : List Nat), gk = flen k - j ∧ j ≤ flen k ∧ v16 = .int .i64 (j : Nat) ∧ AInv w0.heap.size W1 wr k L n (Value.slice va n vc) v0 v6 j D rs)
    case atStart => exact ⟨0, [], [], rfl, Nat.zero_le _, rfl, HST.out⟩
    case round =>
      obtain ⟨j, D, rs, hgk, hj, rfl, hI⟩ := hrel
      have hmany := hI.many
      obtain ⟨v0a, v0c, hv0e, hv0l, hv0m⟩ := ownsN_form hI.row
      obtain ⟨v6a, v6c, hv6e, hv6l, hv6m⟩ := ownsN_form hI.kids
      subst hv0e
      subst hv6e
      unfold maxLen at hv0m hv6m
      have hGr := hide (grownBy_trans HG1.out hI.grown (Or.inl rfl))
      have hzr := hI.grown.size
      have hBr : Below w0.heap.size w0 wr := hB.grown hGr.out hB.size fun g hg => (hvb.out g hg).1
      have HII := hide hI
      clear hI
      by_cases hlt : j < flen k
      · rcases hk with rfl | ⟨kb, ko, rfl, hk⟩
        · exact absurd hlt (Nat.not_lt_zero _)
        obtain ⟨b', o', x, kk, he, hc0, hc1, htin, hbb⟩ := hk.at hlt
        have hc0' : wr.cell? ⟨kb, ko + j * 2, none⟩ = some (.string x.1) := by rw [hBr.cell hbb]; exact hc0
        have hc1' : wr.cell? ⟨kb, ko + j * 2 + 1, none⟩ = some (.slice x.2.1 (flen kk) x.2.2) := by rw [hBr.cell hbb]; exact hc1
        have hnk : fnodes kk < N := by have := fnodes_of_drop he; omega
        have hmk := fnodes_of_drop he
        have hmd : fnodes (fdrop j k) = 1 + fnodes kk + fnodes (fdrop (j + 1) k) := by rw [he]; simp [fnodes]; omega
        have hw1 : Below wr.heap.size wr (wr.alloc (Obj.cells #[Value.string x.1, Value.slice x.2.1 (flen kk) x.2.2] 24)) := (Below.refl _ _).alloc (Nat.le_refl _) _
        have hcall := HI.out kk hnk x.1 x.2.1 x.2.2 (L ++ D) (n + D.length) (Value.slice v0a (n + D.length) v0c) _ (by simp [hLn]) htin (badF_kid hbf he) (hBr.trans (hw1.mono hBr.size)) (ownsN_below HII.out.row hw1) (by omega)
        have HC := hide hcall
        have HE := hide he
        have HW := hide hw1
        clear hcall he hw1 hc0 hc1
        go_wp2_with fail
        refine Calls.mono HC.out ?_
        rintro e w2 ⟨v0', rfl, hrow2, hg2, hown2⟩
        obtain ⟨m, hm⟩ : ∃ m, m = n + D.length + fnodes kk := ⟨_, rfl⟩
        obtain ⟨g2, c2, hv2, hg2b, hg2l, hg2c, hg2m⟩ := ownsN_some hrow2 (by omega)
        have hk2 : w2.ownsRow w0.heap.size 3 1 (Value.slice v6a j v6c) j (intCells rs) := ownsN_grown (ownsN_below HII.out.kids HW.out) hg2 (fun g hg e => HII.out.apart g e hg)
        have hzw := hg2.size
        have hzB := hBr.size
        have hzA : (wr.alloc (Obj.cells #[Value.string x.1, Value.slice x.2.1 (flen kk) x.2.2] 24)).heap.size = wr.heap.size + 1 := by simp
        rw [hzA] at hzw
        clear hzA
        have HR2 := hide hrow2
        have HG2 := hide hg2
        have HO2 := hide hown2
        clear hrow2 hg2 hown2 HC
        subst hv2
        rw [← hm]
        unfold maxLen at hg2m
        have hm5 : m + 1 ≤ 5000 := by omega
        have HM := hide hm
        clear hm
        go_wp2_with (at_builtin; refine wpList_append_lies _ rfl (.tmp 23) (.tmp 27) 42 rfl w0.heap.size 3 iI _ 1 8 Try.underlying42 hiI hi0 hi1 hi2 rfl (by decide) _ j _ rfl (ownsN_below hk2 ((Below.refl _ _).alloc (Nat.le_refl _) _)) ⟨w2.heap.size, 0, none⟩ 1 1 [Value.int .i64 (m : Int)] rfl rfl (int_news w2 3 (m : Int)) (by simp [Value.oneCell']) (by decide) (by unfold maxLen; omega) (by omega) (by simp; omega) (w2.heap.size + 1) (by simp) ?_)
        intro g6 cap6 w3 hown6 hgrow6 hat6 hlt6
        have hnew : AInv w0.heap.size W1 w3 k L n (Value.slice va n vc) (.slice (some ⟨g2, 0, none⟩) (m + 1) c2) (.slice (some ⟨g6, 0, none⟩) (j + 1) cap6) (j + 1) (D ++ ndT (n + D.length) x.1 kk (-1)) (rs ++ [m]) := by
          have hm := HM.out
          subst hm
          exact HII.out.step HE.out HW.out HR2.out HG2.out HO2.out hown6 hgrow6 hat6
        have HN := hide hnew
        clear hnew hown6 hgrow6 hat6 hk2 HR2 HG2 HO2 HE HW HII HM
        go_wp2_with fail
        go_roundg (flen k - (j + 1))
        case measure => omega
        case rel => exact ⟨j + 1, _, _, rfl, by omega, by go_num, HN.out⟩
      · obtain ⟨wA, hwA⟩ : ∃ wA, wA = wr := ⟨_, rfl⟩
        subst hwA
        have hjk : flen k ≤ j := by omega
        have hdn : fdrop j k = .nil := fdrop_end j k (by omega)
        have HDM := hide (show D.length = fnodes k by rw [hdn] at hmany; simpa [fnodes] using hmany)
        have hDm1 : D.length ≤ fnodes k := Nat.le_of_eq HDM.out
        have hDm2 : fnodes k ≤ D.length := Nat.le_of_eq HDM.out.symm
        have HD := hide (show ndF n k (-1) = D by have := HII.out.nodes; rw [hdn] at this; simpa [ndF] using this)
        have HRS := hide (show roots n k = rs by have := HII.out.root; rw [hdn] at this; simpa [roots] using this)
        have hrl := HII.out.rlen
        have HB0 := hide (show wA.heap[w.heap.size]? = some (Obj.cells #[Value.string s, Value.slice ka (flen k) cap] 24) by
          rw [HII.out.grown.block _ (by omega) (fun e => by have := (hvb.out _ e.symm).2; omega)]
          exact HBX.out)
        have HAP := hide HII.out.apart
        have HO0 := hide HII.out.own0
        have HRW := hide HII.out.row
        have HKD := hide HII.out.kids
        clear HII hdn hmany
        go_wp2_with fail
        go_loopg [32] (flen k) (fun gk v32 wq => ∃ (i : Nat) (C : List Nd), gk = flen k - i ∧ i ≤ flen k ∧ v32 = .int .i64 (i : Nat) ∧ Hid (wq.ownsRow w0.heap.size 35 3 (Value.slice v0a (n + D.length) v0c) (n + D.length) (ndCells C)) ∧ Hid (wq.ownsRow w0.heap.size 3 1 (Value.slice v6a j v6c) j (intCells rs)) ∧ C.length = n + D.length ∧ Hid (setPars C (rs.drop i) ((n + D.length : Nat) : Int) = L ++ ndF n k ((n + D.length : Nat) : Int)) ∧ Hid (wA.grownBy wq (Value.slice v0a (n + D.length) v0c).ownBlock))
        case atStart =>
          refine ⟨0, L ++ D, rfl, Nat.zero_le _, rfl, HRW.out, HKD.out, by simp [hLn], ?_, grownBy_refl _ _⟩
          show _ = _
          have := setPars_roots k L (-1) ((n + D.length : Nat) : Int)
          rw [hLn, HD.out, HRS.out] at this
          simpa using this
        case round =>
          obtain ⟨i, C, hgq, hi, rfl, hRq, hKq, hCl, hset, hGq⟩ := hrel
          by_cases hlq : i < flen k
          · obtain ⟨r, hr⟩ : ∃ r, rs[i]? = some r := ⟨_, List.getElem?_eq_getElem (by omega)⟩
            have hrM : r < n + D.length := by
              have := roots_lt k n r (by rw [HRS.out]; exact List.mem_of_getElem? hr)
              omega
            obtain ⟨g0, c0, hv0e, _, hg0l, _, _⟩ := ownsN_some hRq.out (by omega)
            obtain ⟨g6, c6, hv6e, _, hg6l, _, _⟩ := ownsN_some hKq.out (by omega)
            injection hv0e with hv0e _ hv0c
            injection hv6e with hv6e _ hv6c
            subst hv0e hv6e hv0c hv6c
            obtain ⟨y, hy⟩ : ∃ y, C[r]? = some y := ⟨_, List.getElem?_eq_getElem (by omega)⟩
            have hcK : wr.cell? ⟨g6, i, none⟩ = some (.int .i64 (r : Int)) := by simpa using ownsRow_cell hKq.out i _ (intCells_at hr)
            have hcP : wr.cell? ⟨g0, r * 3 + 1, none⟩ = some (.int .i64 y.par) := by simpa using ownsRow_cell hRq.out (r * 3 + 1) _ (ndCells_at C r y hy).2.1
            have hfP : wr.frozen? ⟨g0, r * 3 + 1, none⟩ = false := own_frozen hRq.out _
            have HRR := hide hr
            clear hr hy
            go_wp2_with fail
            go_roundg (flen k - (i + 1))
            case measure => omega
            case rel =>
              refine ⟨i + 1, setPar C r ((n + D.length : Nat) : Int), rfl, by omega, by go_num, ?_, ?_, by rw [setPar_length]; exact hCl, ?_, ?_⟩
              · show World.ownsRow _ _ _ _ _ _ _
                have := own_setN (.int .i64 ((n + D.length : Nat) : Int)) hRq.out (j := r * 3 + 1) (by omega)
                rw [ndCells_set C r _ (by omega)] at this
                simpa using this
              · show World.ownsRow _ _ _ _ _ _ _
                exact ownsN_grown hKq.out (grownBy_setCell wr g0 _ _) (fun g hg e => HAP.out g e hg)
              · show _ = _
                have h1 := hset.out
                rw [List.drop_eq_getElem_cons (by omega)] at h1
                have h2 : rs[i]'(by omega) = r := by
                  have := HRR.out
                  rw [List.getElem?_eq_getElem (by omega)] at this
                  simpa using this
                rw [h2] at h1
                exact h1
              · show World.grownBy _ _ _
                exact grownBy_trans hGq.out (grownBy_setCell wr g0 _ _) (Or.inl rfl)
          · have hbx : wr.heap[w.heap.size]? = some (Obj.cells #[Value.string s, Value.slice ka (flen k) cap] 24) := by
              rw [hGq.out.block _ (by omega) (fun e => by
                rcases HO0.out with h | h
                · rw [h] at e; have := (hvb.out _ e.symm).2; omega
                · have := h _ e.symm; omega)]
              exact HB0.out
            have t0 : wr.cell? ⟨w.heap.size, 0, none⟩ = some (.string s) := by rw [cell_of_row _ _ 0 _ _ _ hbx]; rfl
            have hCe : C = L ++ ndF n k ((n + D.length : Nat) : Int) := by
              have := hset.out
              rw [List.drop_of_length_le (by omega)] at this
              exact this
            have HCE := hide hCe
            have HCL := hide (clone_any s wr (by omega))
            clear hbx hCe
            go_wp2_with fail
            refine Calls.mono HCL.out ?_
            rintro e w4 ⟨rfl, hb4⟩
            have hz4 := hb4.size
            have hzq := hGq.out.size
            have hR4 := ownsN_below hRq.out hb4
            go_wp2_with (at_builtin; refine wpList_append_lies _ rfl (.tmp 43) (.tmp 49) 30 rfl w0.heap.size 35 iN _ 3 32 Try.underlying30 hiN hn0 hn1 hn2 rfl (by decide) _ (n + D.length) _ rfl (ownsN_below hR4 ((Below.refl _ _).alloc (Nat.le_refl _) _)) ⟨w4.heap.size, 0, none⟩ 1 1 (ndCell ⟨s, -1, (n : Int)⟩) rfl rfl (nd_news w4 35 ⟨s, -1, (n : Int)⟩) (nd_one _) (by decide) (by unfold maxLen; omega) (by omega) (by simp; omega) (w4.heap.size + 1) (by simp) ?_)
            intro g9 cap9 w9 hown9 hgrow9 hat9 hlt9
            have HO9 := hide hown9
            have HG9 := hide hgrow9
            have HA9 := hide hat9
            clear hown9 hgrow9 hat9 hR4
            go_wp2_with fail
            go_ret
            refine ⟨.slice (some ⟨g9, 0, none⟩) (n + D.length + 1) cap9, rfl, ?_, ?_, ?_⟩
            · have := HO9.out
              rw [HCE.out] at this
              rw [ndT, ← HDM.out, ← List.append_assoc, ndCells_append (L ++ _)]
              simpa [ndCells] using this
            · have ha := grownBy_trans (grownBy_trans hGr.out hGq.out (by
                rcases HO0.out with h | h
                · exact Or.inl h
                · exact Or.inr fun g hg => by have := h g hg; omega)) (grownBy_of_below hb4 none) (Or.inr fun g hg => by cases hg)
              refine grownBy_trans ha (grownBy_trans (grownBy_of_below ((Below.refl _ _).alloc (Nat.le_refl _) _) _) HG9.out (Or.inl rfl)) ?_
              rcases HO0.out with h | h
              · exact Or.inl h
              · exact Or.inr fun g hg => by have := h g hg; omega
            · rcases HA9.out with h | h
              · rcases HO0.out with h2 | h2
                · exact Or.inl (by rw [← h2, h]; rfl)
                · exact Or.inr fun g hg => by
                    simp only [Value.ownBlock, Option.some.injEq] at hg
                    subst hg
                    have := h2 g9 h
                    omega
              · refine Or.inr fun g hg => ?_
                simp only [Value.ownBlock, Option.some.injEq] at hg
                omega
end Go.Proofs.Ytcknganggcbkjab
