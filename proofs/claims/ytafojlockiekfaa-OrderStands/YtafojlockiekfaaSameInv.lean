/- What the loops of tree.Same keep: pairs of lists of the same length that are still to be held against each other, and the places of those that were. Of the program's types. -/
import Derived.Test.YtafojlockiekfaaSameMap
import Derived.Test.YtafojlockiekfaaSameRef
import Derived.Test.YtafojlockiekfaaWalkStep
namespace Go.Proofs.Ytafojlockiekfaa
open Go.Deep Go.RowKit
set_option linter.unusedVariables false
set_option maxRecDepth 20000

/-- A pair of lists: address, capacity, what lies there. -/
abbrev Tw := (Addr × Nat × Fo) × (Addr × Nat × Fo)
def twCells (t : Tw) : List Value := [.slice (some t.1.1) (flen t.1.2.2) t.1.2.1, .slice (some t.2.1) (flen t.2.2.2) t.2.2.1]
def twRow : List Tw → List Value
  | [] => []
  | t :: l => twCells t ++ twRow l
theorem twRow_append : ∀ (l : List Tw) (t : Tw), twRow (l ++ [t]) = twRow l ++ twCells t
  | [], t => by simp [twRow]
  | a :: l, t => by simp [twRow, twRow_append l t]
theorem twRow_length : ∀ l : List Tw, (twRow l).length = l.length * 2
  | [] => rfl
  | a :: l => by simp [twRow, twCells, twRow_length l]; omega
theorem twRow_last (l : List Tw) (t : Tw) : (twRow (l ++ [t]))[l.length * 2]? = some (.slice (some t.1.1) (flen t.1.2.2) t.1.2.1) ∧ (twRow (l ++ [t]))[l.length * 2 + 1]? = some (.slice (some t.2.1) (flen t.2.2.2) t.2.2.1) := by
  rw [twRow_append, ← twRow_length l]
  simp [twCells]

structure TwOk (m : Nat) (w : World) (t : Tw) : Prop where
  spotA : t.1.1.spot = none
  spotB : t.2.1.spot = none
  liesA : FIn w t.1.2.2 t.1.1.block t.1.1.off
  liesB : FIn w t.2.2.2 t.2.1.block t.2.1.off
  long : flen t.2.2.2 = flen t.1.2.2
  pos : 0 < flen t.1.2.2
  capA : flen t.1.2.2 ≤ t.1.2.1 ∧ t.1.2.1 ≤ maxLen
  capB : flen t.2.2.2 ≤ t.2.2.1 ∧ t.2.2.1 ≤ maxLen
  plain : FPlain w t.1.2.2
  offA : FOff m t.1.2.2
  offB : FOff m t.2.2.2

def sameTw (l : List Tw) : Bool := l.all fun t => sameF t.1.2.2 t.2.2.2
def totTw : List Tw → Nat
  | [] => 0
  | t :: l => fnodes t.1.2.2 + totTw l
theorem totTw_append : ∀ (a b : List Tw), totTw (a ++ b) = totTw a + totTw b
  | [], b => by simp [totTw]
  | p :: a, b => by simp [totTw, totTw_append a b]; omega
theorem totTw_len : ∀ l : List Tw, (∀ t, t ∈ l → 0 < flen t.1.2.2) → l.length ≤ totTw l
  | [], _ => Nat.le_refl _
  | p :: l, h => by
    have h1 := totTw_len l (fun q hq => h q (by simp [hq]))
    have h2 := h p (by simp)
    have h3 := flen_le_nodes p.1.2.2
    simp [totTw]
    omega
def abTw (l : List Tw) : List Nat := l.flatMap fun t => ab t.1.2.2
theorem abTw_append (a b : List Tw) : abTw (a ++ b) = abTw a ++ abTw b := by simp [abTw]

structure SInv (T m : Nat) (w1 wr : World) (v : Value) (tws : List Tw) (seen : List Nat) (more : List Nat) : Prop where
  each : ∀ t, t ∈ tws → TwOk m w1 t
  row : wr.ownsRow w1.heap.size T 2 v tws.length (twRow tws)
  map : ∃ es clock, wr.heap[m]? = some (.map es clock) ∧ KeysOk wr es.toList seen
  nod : (seen ++ (abTw tws ++ more)).Nodup
  keeps : Keeps [m] w1 wr
  mlt : m < w1.heap.size
  slt : ∀ b, b ∈ seen → b < w1.heap.size

theorem SInv.lastCells {T m g cap : Nat} {w1 wr : World} {tws : List Tw} {t : Tw} {seen more : List Nat} (h : SInv T m w1 wr (.slice (some ⟨g, 0, none⟩) (tws.length + 1) cap) (tws ++ [t]) seen more) :
    wr.cell? ⟨g, tws.length * 2, none⟩ = some (.slice (some t.1.1) (flen t.1.2.2) t.1.2.1) ∧ wr.cell? ⟨g, tws.length * 2 + 1, none⟩ = some (.slice (some t.2.1) (flen t.2.2.2) t.2.2.1) := by
  have hr := h.row
  simp only [List.length_append, List.length_cons, List.length_nil] at hr
  have hl := twRow_last tws t
  have h1 := ownsRow_cell hr _ _ hl.1
  have h2 := ownsRow_cell hr _ _ hl.2
  rw [Nat.zero_add] at h1 h2
  exact ⟨h1, h2⟩

/-- The last pair is taken, and its first place is put into the map. -/
theorem SInv.taken {T m g cap : Nat} {w1 wr W : World} {tws : List Tw} {t : Tw} {seen more : List Nat} (h : SInv T m w1 wr (.slice (some ⟨g, 0, none⟩) (tws.length + 1) cap) (tws ++ [t]) seen more) (hW : Below wr.heap.size wr W) (vv : Value) :
    BPlain W t.1.1.block ∧ (∃ es clock, W.heap[m]? = some (.map es clock) ∧ KeysOk W es.toList seen) ∧ ¬ t.1.1.block ∈ seen := by
  obtain ⟨es, clock, hm, hk⟩ := h.map
  have hok := h.each t (by simp)
  obtain ⟨⟨A, cA, FA⟩, ⟨B, cB, FB⟩⟩ := t
  have hkeep := h.keeps
  refine ⟨?_, ⟨es, clock, by rw [hW.block m (Nat.lt_of_lt_of_le h.mlt hkeep.size)]; exact hm, fun x hx => ?_⟩, ?_⟩
  · cases FA with
    | nil => have := hok.pos; simp [flen] at this
    | node b o x k r =>
      have hb : b = A.block := hok.liesA.1
      have hp := hok.plain.1
      have hlt := BPlain.lt hp
      obtain ⟨c, e, hp'⟩ := hp
      refine ⟨c, e, ?_⟩
      show W.heap[A.block]? = _
      rw [hW.block _ (by rw [← hb]; exact Nat.lt_of_lt_of_le hlt hkeep.size), ← hb, hkeep.block b hlt (by have := hok.offA.1; simpa using this)]
      exact hp'
  · obtain ⟨a, b, n, e, hmem, hp⟩ := hk x hx
    exact ⟨a, b, n, e, hmem, hp.below hW⟩
  · intro hmem
    have hn := h.nod
    have hab : A.block ∈ abTw (tws ++ [((A, cA, FA), (B, cB, FB))]) := by
      rw [abTw_append]
      cases FA with
      | nil => have := hok.pos; simp [flen] at this
      | node b o x k r =>
        have hb : b = A.block := hok.liesA.1
        simp [abTw, ab, hb, Go.Proofs.Ytafojlockiekfaa.hb]
    exact (List.nodup_append.1 hn).2.2 _ hmem _ (List.mem_append_left _ hab) rfl

/-- The map with one more key. -/
theorem keys_push {w w2 : World} {m clock : Nat} {es : Array MapEntry} {seen : List Nat} {a b : Addr} {n : Nat} {vv : Value} (hk : KeysOk w es.toList seen) (ha : BPlain w a.block) (hs : ∀ q, q ≠ m → w2.heap[q]? = w.heap[q]?) (hm : w.heap[m]? = some (.map es clock)) :
    KeysOk w2 (es.push { key := keyV a b n, val := vv, born := clock }).toList (seen ++ [a.block]) := by
  have hne : ∀ q, BPlain w q → q ≠ m := fun q ⟨c, e, h⟩ he => by subst he; rw [hm] at h; cases h
  have hpl : ∀ q, BPlain w q → BPlain w2 q := fun q h => by
    have := hs q (hne q h)
    obtain ⟨c, e, h⟩ := h
    exact ⟨c, e, by rw [this]; exact h⟩
  intro x hx
  rw [Array.toList_push] at hx
  rcases List.mem_append.1 hx with hx | hx
  · obtain ⟨a', b', n', e, hmem, hp⟩ := hk x hx
    exact ⟨a', b', n', e, by simp [hmem], hpl _ hp⟩
  · have : x = { key := keyV a b n, val := vv, born := clock } := by simpa using hx
    subst this
    exact ⟨a, b, n, rfl, by simp, hpl _ ha⟩

theorem sameTw_append (a b : List Tw) : sameTw (a ++ b) = (sameTw a && sameTw b) := by simp [sameTw]
theorem sameTw_one (t : Tw) : sameTw [t] = sameF t.1.2.2 t.2.2.2 := by simp [sameTw]
theorem lb_step {f kk : Fo} {j b o : Nat} {x : ByteArray × Option Addr × Nat} (h : fdrop j f = .node b o x kk (fdrop (j + 1) f)) : lb (fdrop j f) = ab kk ++ lb (fdrop (j + 1) f) := by
  rw [h]; rfl
theorem tot_step {f kk : Fo} {j b o : Nat} {x : ByteArray × Option Addr × Nat} (h : fdrop j f = .node b o x kk (fdrop (j + 1) f)) : fnodes (fdrop j f) = fnodes kk + fnodes (fdrop (j + 1) f) + 1 := by
  rw [h]; rfl
theorem same_no {x y : ByteArray × Option Addr × Nat} {kk ll : Fo} (h : x.1.toList ≠ y.1.toList ∨ flen kk ≠ flen ll) : sameT x.1 kk y.1 ll = false := by
  rcases h with h | h
  · simp [sameT, beq_eq_false_iff_ne.2 h]
  · cases hq : sameF kk ll with
    | false => simp [sameT, hq]
    | true => exact absurd (sameF_len _ _ hq) h
theorem same_kids {x y : ByteArray × Option Addr × Nat} {kk ll : Fo} (h : x.1.toList = y.1.toList) : sameT x.1 kk y.1 ll = sameF kk ll := by
  simp [sameT, h]
theorem nil_of_len {f : Fo} (h : flen f = 0) : f = .nil := by
  cases f with
  | nil => rfl
  | node _ _ _ _ _ => simp [flen] at h
theorem TwOk.kid {m : Nat} {w : World} {A B : Addr} {cA cB : Nat} {FA FB : Fo} (h : TwOk m w ((A, cA, FA), (B, cB, FB))) {j b o b' o' : Nat} {x y : ByteArray × Option Addr × Nat} {kk ll r r' : Fo} {A' B' : Addr}
    (he : fdrop j FA = .node b o x kk r) (he' : fdrop j FB = .node b' o' y ll r') (hx : x.2.1 = some A') (hy : y.2.1 = some B') (hpos : 0 < flen kk) (hl : flen ll = flen kk) : TwOk m w ((A', x.2.2, kk), (B', y.2.2, ll)) := by
  have l1 := FIn.drop j h.liesA
  have l2 := FIn.drop j h.liesB
  have p1 := FPlain.drop j h.plain
  have o1 := foff_drop j h.offA
  have o2 := foff_drop j h.offB
  simp only at l1 l2 p1 o1 o2
  rw [he] at l1 p1 o1
  rw [he'] at l2 o2
  obtain ⟨_, _, t1, _⟩ := l1.head
  obtain ⟨_, _, t2, _⟩ := l2.head
  rcases t1.kids with hk | ⟨kb, ko, e, hk⟩
  · rw [hk] at hpos; simp [flen] at hpos
  rcases t2.kids with hk2 | ⟨kb2, ko2, e2, hk2⟩
  · rw [hk2] at hl; simp [flen] at hl; omega
  rw [hx] at e
  rw [hy] at e2
  simp only [Option.some.injEq] at e e2
  subst e e2
  exact ⟨rfl, rfl, hk, hk2, hl, hpos, ⟨t1.len, t1.cap⟩, ⟨t2.len, t2.cap⟩, p1.2.1, o1.2.1, o2.2.1⟩
theorem tw_news (w : World) (T : TypeId) (t : Tw) (j : Nat) (u : Value) (h : (twCells t)[j]? = some u) : (w.alloc (Obj.cells #[.slice (some t.1.1) (flen t.1.2.2) t.1.2.1, .slice (some t.2.1) (flen t.2.2.2) t.2.2.1] T)).cell? ((⟨w.heap.size, 0, none⟩ : Addr).add j) = some u := by
  refine World.news_of_block (cs := #[.slice (some t.1.1) (flen t.1.2.2) t.1.2.1, .slice (some t.2.1) (flen t.2.2.2) t.2.2.1]) (t := T) (fr := (0, 0)) ?_ j u h
  show (w.heap.push _)[w.heap.size]? = _
  simp
theorem tw_news' (w : World) (T : TypeId) (t : Tw) (n : Nat) (hn : w.heap.size = n) (j : Nat) (u : Value) (h : (twCells t)[j]? = some u) : (w.alloc (Obj.cells #[.slice (some t.1.1) (flen t.1.2.2) t.1.2.1, .slice (some t.2.1) (flen t.2.2.2) t.2.2.1] T)).cell? ((⟨n, 0, none⟩ : Addr).add j) = some u := by
  subst hn
  exact tw_news w T t j u h
theorem tw_one (t : Tw) : ∀ u ∈ twCells t, u.oneCell' = true := by
  intro u hu
  simp [twCells] at hu
  rcases hu with rfl | rfl <;> rfl

theorem SInv.on {T m : Nat} {w1 wr w2 : World} {v : Value} {tws : List Tw} {seen more : List Nat} (h : SInv T m w1 wr v tws seen more) (hb : Below wr.heap.size wr w2) : SInv T m w1 w2 v tws seen more := by
  obtain ⟨es, clock, hm, hk⟩ := h.map
  refine ⟨h.each, ownsRow_below h.row hb, ⟨es, clock, by rw [hb.block m (Nat.lt_of_lt_of_le h.mlt h.keeps.size)]; exact hm, fun x hx => ?_⟩, h.nod, h.keeps.trans (Keeps.of_below hb), h.mlt, h.slt⟩
  obtain ⟨a, b, n, e, hmem, hp⟩ := hk x hx
  exact ⟨a, b, n, e, hmem, hp.below hb⟩

/-- Behind the taking: the pair is none of those any more, its first place is in the map, the lists beneath it are still to come. -/
theorem SInv.start {T m g cap clock : Nat} {w1 wr W w2 : World} {tws : List Tw} {t : Tw} {seen : List Nat} {es : Array MapEntry} {b : Addr} {n : Nat} {vv : Value} (h : SInv T m w1 wr (.slice (some ⟨g, 0, none⟩) (tws.length + 1) cap) (tws ++ [t]) seen []) (hW : Below wr.heap.size wr W)
    (hm : W.heap[m]? = some (.map es clock)) (hk : KeysOk W es.toList seen) (hp : BPlain W t.1.1.block) (hw2 : w2 = { W with heap := W.heap.setIfInBounds m (.map (es.push { key := keyV t.1.1 b n, val := vv, born := clock }) (clock + 1)) }) :
    SInv T m w1 w2 (.slice (some ⟨g, 0, none⟩) tws.length cap) tws (seen ++ [t.1.1.block]) (lb t.1.2.2) ∧ (∀ q, q ≠ m → w2.heap[q]? = W.heap[q]?) ∧ w2.heap.size = W.heap.size := by
  have hoth : ∀ q, q ≠ m → w2.heap[q]? = W.heap[q]? := fun q hq => by
    rw [hw2]
    exact Array.getElem?_setIfInBounds_ne (Ne.symm hq)
  have hsz : w2.heap.size = W.heap.size := by rw [hw2]; simp
  have hmW : m < W.heap.size := by
    rcases Nat.lt_or_ge m W.heap.size with h' | h'
    · exact h'
    · rw [Array.getElem?_eq_none h'] at hm; cases hm
  have hkW : Keeps [m] wr w2 := ⟨by rw [hw2]; exact hW.os, by rw [hw2]; exact hW.tape, by rw [hw2]; exact hW.output, by rw [hsz]; exact hW.size, fun q hq hn => by
    rw [hoth q (by simpa using hn)]
    exact hW.block q hq⟩
  have hr := h.row
  simp only [List.length_append, List.length_cons, List.length_nil, twRow_append] at hr
  have hpop := own_pop hr (by rw [twRow_length])
  have hok := h.each t (by simp)
  refine ⟨⟨fun q hq => h.each q (by simp [hq]), ownsRow_block hpop fun q hq => ?_, ⟨es.push { key := keyV t.1.1 b n, val := vv, born := clock }, clock + 1, ?_, keys_push hk hp hoth hm⟩, ?_, h.keeps.trans hkW, h.mlt, fun q hq => ?_⟩, hoth, hsz⟩
  · obtain ⟨h1, h2⟩ := ownBlock_lt hpop hq
    have := h.mlt
    rw [hoth q (by omega), hW.block q h2]
  · rw [hw2]
    simp [hmW]
  · have hn := h.nod
    rw [List.append_nil, abTw_append] at hn
    have e : abTw [t] = t.1.1.block :: lb t.1.2.2 := by
      obtain ⟨⟨A, cA, FA⟩, ⟨B, cB, FB⟩⟩ := t
      cases FA with
      | nil => have := hok.pos; simp [flen] at this
      | node b' o x k r =>
        have hb : b' = A.block := hok.liesA.1
        simp [abTw, ab, hb, Go.Proofs.Ytafojlockiekfaa.hb]
    rw [e] at hn
    refine (List.Perm.nodup_iff ?_).1 hn
    rw [List.append_assoc]
    refine List.Perm.append_left seen ?_
    rw [List.singleton_append]
    exact List.perm_middle
  · rcases List.mem_append.1 hq with hq | hq
    · exact h.slt q hq
    · have : q = t.1.1.block := by simpa using hq
      subst this
      obtain ⟨⟨A, cA, FA⟩, ⟨B, cB, FB⟩⟩ := t
      cases FA with
      | nil => have := hok.pos; simp [flen] at this
      | node b' o x k r => exact World.block_lt_of_cell? w1 ⟨A.block, A.off, none⟩ hok.liesA.head.1

/-- A pair more comes. -/
theorem SInv.push {T m gv cap : Nat} {w1 wr w3 : World} {v : Value} {tws : List Tw} {seen more : List Nat} {p : Tw} {ob : Obj} (h : SInv T m w1 wr v tws seen (ab p.1.2.2 ++ more)) (hp : TwOk m w1 p)
    (hown : w3.ownsRow w1.heap.size T 2 (.slice (some ⟨gv, 0, none⟩) (tws.length + 1) cap) (tws.length + 1) (twRow tws ++ twCells p)) (hgrow : (wr.alloc ob).grownBy w3 v.ownBlock) :
    SInv T m w1 w3 (.slice (some ⟨gv, 0, none⟩) (tws.length + 1) cap) (tws ++ [p]) seen more := by
  obtain ⟨es, clock, hm, hk⟩ := h.map
  have hsame : ∀ q, q < w1.heap.size → w3.heap[q]? = wr.heap[q]? := fun q hq => by
    have hlt := Nat.lt_of_lt_of_le hq h.keeps.size
    rw [hgrow.block q (by simp; omega) (fun e => by have := (ownBlock_lt h.row e.symm).1; omega), Below.heap_alloc _ _ _ hlt]
  have hb3 : Below w1.heap.size wr w3 := ((Below.refl _ _).alloc h.keeps.size _).grown hgrow (by have := h.keeps.size; simp; omega) fun q hq => (ownBlock_lt h.row hq).1
  refine ⟨fun t ht => ?_, by simpa [twRow_append] using hown, ⟨es, clock, by rw [hsame m h.mlt]; exact hm, fun x hx => ?_⟩, by simpa [abTw, List.append_assoc] using h.nod, h.keeps.below hb3, h.mlt, h.slt⟩
  · rcases List.mem_append.1 ht with ht | ht
    · exact h.each t ht
    · have : t = p := by simpa using ht
      subst this
      exact hp
  · obtain ⟨a, b, n, e, hmem, hpl⟩ := hk x hx
    refine ⟨a, b, n, e, hmem, ?_⟩
    obtain ⟨c, t, hc⟩ := hpl
    exact ⟨c, t, by rw [hsame a.block (h.slt _ hmem)]; exact hc⟩

end Go.Proofs.Ytafojlockiekfaa
