/- Lists of deeds that a call owns, and what becomes of them where another deed is put behind. Of no program. -/
/- DeedsIn of package pleachingref: the deeds of lines. Of the program's text. -/
import Derived.Test.YtkoohfkomlmhoacGreatDoorKDP19
import Derived.Test.YtkoohfkomlmhoacGreatDoorKDP23
import Derived.Test.YtkoohfkomlmhoacGreatDoorProg
import Derived.Test.YtkoohfkomlmhoacGreatDoorKDP14
namespace Go.Proofs.YtkoohfkomlmhoacGreatDoor.Deed
open Go.Deep Go.RowKit
set_option linter.unusedVariables false
set_option maxRecDepth 20000

/-- A list that lies, with all its paths, in blocks from B on; and no path in the list's own. -/
structure Row (B : Nat) (w : World) (v : Value) (A : List Pd) : Prop where
  own : w.ownsRow B 38 5 v A.length (pdCells A)
  each : PdsIn w A
  off : ∀ x, x ∈ A → x.1.path ≠ [] → ∀ a, x.2.1 = some a → v.ownBlock ≠ some a.block
  fresh : ∀ x, x ∈ A → x.1.path ≠ [] → ∀ a, x.2.1 = some a → B ≤ a.block
theorem Row.nil (B : Nat) (w : World) : Row B w (.slice none 0 0) [] := ⟨World.ownsRow_nil _ _ _ _, PdsIn.nil _, fun x hx => by simp at hx, fun x hx => by simp at hx⟩
theorem DIn.block {w w' : World} {d : Dd} {pa : Option Addr} {pc : Nat} (h : DIn w d pa pc) (hb : d.path ≠ [] → ∀ a, pa = some a → w'.heap[a.block]? = w.heap[a.block]?) : DIn w' d pa pc := by
  by_cases hp : d.path = []
  · exact ⟨Or.inl hp, h.len, h.cap, h.lab⟩
  · exact ⟨PIn.block h.path (hb hp), h.len, h.cap, h.lab⟩
theorem DIn.lt {w : World} {d : Dd} {pa : Option Addr} {pc : Nat} (h : DIn w d pa pc) (hp : d.path ≠ []) (a : Addr) (ha : pa = some a) : a.block < w.heap.size := by
  rcases h.path with h0 | ⟨b, o, e, hc⟩
  · exact absurd h0 hp
  · rw [e] at ha
    injection ha with ha
    subst ha
    obtain ⟨p, ps, hps⟩ := List.exists_cons_of_ne_nil hp
    exact World.block_lt_of_cell? _ _ (hc 0 p (by rw [hps]; rfl))
/-- Its blocks are as they were. -/
theorem Row.keep {B : Nat} {w w' : World} {v : Value} {A : List Pd} (h : Row B w v A) (hs : ∀ q, B ≤ q → q < w.heap.size → w'.heap[q]? = w.heap[q]?) : Row B w' v A :=
  ⟨ownsN_block h.own fun g hg => hs g (ownBlockN_lt h.own hg).1 (ownBlockN_lt h.own hg).2, fun x hx => (h.each x hx).block fun hp a ha => hs _ (h.fresh x hx hp a ha) ((h.each x hx).lt hp a ha), h.off, h.fresh⟩
theorem Row.below {B : Nat} {w w' : World} {v : Value} {A : List Pd} (h : Row B w v A) (hb : Below w.heap.size w w') : Row B w' v A := h.keep fun q _ hq => hb.block q hq
theorem Row.lower {B B' : Nat} {w : World} {v : Value} {A : List Pd} (h : Row B w v A) (hB : B' ≤ B) : Row B' w v A := by
  refine ⟨⟨h.own.1, ?_⟩, h.each, h.off, fun x hx hp a ha => Nat.le_trans hB (h.fresh x hx hp a ha)⟩
  rcases h.own.2 with h2 | ⟨g, cap, cur, h1, h2, h3⟩
  · exact Or.inl h2
  · exact Or.inr ⟨g, cap, cur, h1, by omega, h3⟩
theorem Row.form {B : Nat} {w : World} {v : Value} {A : List Pd} (h : Row B w v A) : ∃ va vc, v = .slice va A.length vc ∧ A.length ≤ vc ∧ vc ≤ maxLen := ownsN_form h.own
theorem Row.ds {B : Nat} {w : World} {va : Option Addr} {vc n : Nat} {A : List Pd} (h : Row B w (.slice va n vc) A) (hn : n = A.length) : DsIn w va A := by
  subst hn
  exact DsIn_of_owns h.own h.each
/-- A block has turned that is none of its. -/
theorem Row.grown {B : Nat} {w w' : World} {v : Value} {A : List Pd} {r : Option Nat} (h : Row B w v A) (hg : w.grownBy w' r) (hr : ∀ g, v.ownBlock = some g → r ≠ some g) (hp : ∀ x, x ∈ A → x.1.path ≠ [] → ∀ a, x.2.1 = some a → r ≠ some a.block) : Row B w' v A :=
  ⟨ownsN_grown h.own hg hr, fun x hx => (h.each x hx).block fun hp0 a ha => hg.block _ ((h.each x hx).lt hp0 a ha) fun e2 => hp x hx hp0 a ha e2.symm, h.off, h.fresh⟩

theorem pd_news (w : World) (T : TypeId) (x : Pd) (j : Nat) (u : Value) (h : (pdCell x)[j]? = some u) : (w.alloc (Obj.cells #[.int .i64 x.1.kind, .slice x.2.1 x.1.path.length x.2.2, .int .i64 x.1.pos, .int .i64 x.1.many, .string x.1.lab] T)).cell? ((⟨w.heap.size, 0, none⟩ : Addr).add j) = some u := by
  refine World.news_of_block (cs := #[.int .i64 x.1.kind, .slice x.2.1 x.1.path.length x.2.2, .int .i64 x.1.pos, .int .i64 x.1.many, .string x.1.lab]) (t := T) (fr := (0, 0)) ?_ j u h
  show (w.heap.push _)[w.heap.size]? = _
  simp
/-- A deed is put behind: what append comes to. -/
theorem Row.push {B : Nat} {w : World} {va : Option Addr} {vc n : Nat} {A : List Pd} (h : Row B w (.slice va n vc) A) (hn : n = A.length) (x : Pd) (hx : DIn w x.1 x.2.1 x.2.2) (hf : x.1.path ≠ [] → ∀ a, x.2.1 = some a → B ≤ a.block ∧ (Value.slice va n vc).ownBlock ≠ some a.block) (hl : A.length ≤ 1000) (hB : B ≤ w.heap.size) :
    ∃ va' vc' w', (Builtin.append_ #[22, 22] 22 #[.slice va n vc, .slice (some ⟨w.heap.size, 0, none⟩) 1 1]).run Tryz.prog (w.alloc (Obj.cells #[.int .i64 x.1.kind, .slice x.2.1 x.1.path.length x.2.2, .int .i64 x.1.pos, .int .i64 x.1.many, .string x.1.lab] 38)) = .ok (.slice va' (n + 1) vc') w' ∧ Row B w' (.slice va' (n + 1) vc') (A ++ [x]) ∧ w.grownBy w' (Value.slice va n vc).ownBlock ∧ ((Value.slice va' (n + 1) vc').ownBlock = (Value.slice va n vc).ownBlock ∨ (Value.slice va' (n + 1) vc').ownBlock = some (w.heap.size + 1)) := by
  subst hn
  obtain ⟨i0, hi0, hz0, hz1, hz2⟩ := info_parts Tryz.infoDeed
  obtain ⟨W, hW⟩ : ∃ W, W = w.alloc (Obj.cells #[.int .i64 x.1.kind, .slice x.2.1 x.1.path.length x.2.2, .int .i64 x.1.pos, .int .i64 x.1.many, .string x.1.lab] 38) := ⟨_, rfl⟩
  have bW : Below w.heap.size w W := by rw [hW]; exact (Below.refl _ _).alloc (Nat.le_refl _) _
  have sW : W.heap.size = w.heap.size + 1 := by rw [hW]; simp
  have hW1 := h.below bW
  obtain ⟨v', w', hr, hown', hgrow, _, hat⟩ := run_append_own_at (P := Tryz.prog) W B 22 22 38 i0 _ 5 64 Tryz.underlying22 hi0 hz0 hz1 hz2 rfl (by decide) _ A.length _ hW1.own ⟨w.heap.size, 0, none⟩ 1 1 (pdCell x) rfl (fun j u hu => by rw [hW]; exact pd_news w _ x j u hu) (pdCell_one x) (by unfold maxLen; omega) (by omega) (by omega)
  have e5 : pdCells A ++ pdCell x = pdCells (A ++ [x]) := by rw [pdCells_append]; simp [pdCells]
  rw [e5] at hown'
  obtain ⟨va', vc', rfl, h1, h2⟩ := ownsN_form hown'
  have hgw : w.grownBy w' (Value.slice va A.length vc).ownBlock := grownBy_trans (grownBy_of_below bW _) hgrow (Or.inl rfl)
  rw [sW] at hat
  have hall : ∀ y, y ∈ A ++ [x] → DIn w y.1 y.2.1 y.2.2 ∧ (y.1.path ≠ [] → ∀ a, y.2.1 = some a → B ≤ a.block ∧ (Value.slice va A.length vc).ownBlock ≠ some a.block) := fun y hy => by
    rcases List.mem_append.1 hy with hy | hy
    · exact ⟨h.each y hy, fun hp a ha => ⟨h.fresh y hy hp a ha, h.off y hy hp a ha⟩⟩
    · simp only [List.mem_cons, List.not_mem_nil, or_false] at hy
      subst hy
      exact ⟨hx, hf⟩
  refine ⟨va', vc', w', by rw [← hW]; exact hr, ⟨by simpa using hown', fun y hy => ?_, fun y hy hp a ha => ?_, fun y hy hp a ha => ((hall y hy).2 hp a ha).1⟩, hgw, hat⟩
  · exact (hall y hy).1.block fun hp a ha => hgw.block _ ((hall y hy).1.lt hp a ha) fun e => ((hall y hy).2 hp a ha).2 e.symm
  · rcases hat with e | e
    · rw [e]
      exact ((hall y hy).2 hp a ha).2
    · rw [e]
      have := (hall y hy).1.lt hp a ha
      intro e2
      injection e2 with e2
      omega
/-- A tree none of whose blocks has turned. -/
theorem TIn.grown {w w' : World} {r : Option Nat} (h : w.grownBy w' r) {s : ByteArray} {ka : Option Addr} {cap : Nat} {k : Fo} (ho : ∀ g, r = some g → FOff g k) (ht : TIn w s ka cap k) (hp : FPlain w k) : TIn w' s ka cap k ∧ FPlain w' k := by
  cases r with
  | none =>
    have hb : Below w.heap.size w w' := ⟨h.os, h.tape, h.output, h.size, fun q hq => h.block q hq (by simp)⟩
    exact ⟨ht.below hb, hp.below hb⟩
  | some g =>
    have hs : ∀ b, b < w.heap.size → b ≠ g → w'.heap[b]? = w.heap[b]? := fun b hb hne => h.block b hb (by simpa using hne)
    exact ⟨TIn.but hs (ho g rfl) ht, FPlain.but hs (ho g rfl) hp⟩
end Go.Proofs.YtkoohfkomlmhoacGreatDoor.Deed
namespace Go.Proofs.YtkoohfkomlmhoacGreatDoor.Pat
open Go.Deep Go.RowKit Deed
set_option linter.unusedVariables false
set_option maxRecDepth 20000

theorem wpList_append_run {P : Program} {w : World} {ops : Array Oper} {rest : List Oper} {o : Oper} {a : Act} {Q : Exit → Act → World → Prop} (hgd : o.guard = none) (s x : Operand) (t : TypeId)
    (ho : o.op = .call { callee := .builtin .append, args := #[s, x], argTypes := #[t, t] }) (ht : o.type = t) {vs vx v : Value} {w' : World} (hr : (Builtin.append_ #[t, t] t #[vs, vx]).run P w = .ok v w') (hs : a.eval s = vs) (hx : a.eval x = vx) (h : wpList P ops Q rest (a.put o.dst v) w') :
    wpList P ops Q (o :: rest) a w := by
  refine wpList_plain hgd fun K hK => ?_
  unfold Oper.wp execOp
  simp only [ho, ht, resolve, invoke, builtin, Sem.run_bind, Sem.run_pure, Result.andThen_ok, List.map_toArray, List.map_cons, List.map_nil, hs, hx, hr]
  exact hK _ _ h
theorem parse_short {s : List UInt8} (h : s ≠ []) (hl : (cutP 10 s).getLastD [] ≠ []) : parseP s = ([], 5, (((cutP 10 s).length - 1 : Nat) : Int)) := by
  unfold parseP
  rw [if_neg h, if_pos hl]
theorem parse_many {s : List UInt8} (h : s ≠ []) (hl : (cutP 10 s).getLastD [] = []) (hm : 80 < (cutP 10 s).length - 1) : parseP s = ([], 2, -1) := by
  unfold parseP
  rw [if_neg h, if_neg (fun h => h hl), if_pos hm]
theorem parse_bad {s : List UInt8} (h : s ≠ []) (hl : (cutP 10 s).getLastD [] = []) (hm : ¬ 80 < (cutP 10 s).length - 1) {i : Nat} {x : List UInt8} (h0 : ∀ y, y ∈ (cutP 10 s).dropLast.take i → deedC y = 0) (hx : (cutP 10 s).dropLast[i]? = some x) (hc : deedC x ≠ 0) : parseP s = ([], deedC x, (i : Int)) := by
  unfold parseP
  rw [if_neg h, if_neg (fun h => h hl), if_neg hm, bad_at h0 hx hc]
  simp
theorem parse_all {s : List UInt8} (h : s ≠ []) (hl : (cutP 10 s).getLastD [] = []) (hm : ¬ 80 < (cutP 10 s).length - 1) (h0 : ∀ y, y ∈ (cutP 10 s).dropLast → deedC y = 0) : parseP s = ((cutP 10 s).dropLast.map deedP, 0, 0) := by
  unfold parseP
  rw [if_neg h, if_neg (fun h => h hl), if_neg hm, none_bad h0]
/-- What DeedsIn tells. -/
def DeedsEnd (s : List UInt8) (w : World) (e : Ending) (w' : World) : Prop :=
  ∃ va vc A, e = .returned (.tuple #[.slice va (List.length (α := Pd) A) vc, .agg #[.int .i64 (parseP s).2.1, .int .i64 (parseP s).2.2]]) ∧ dds A = (parseP s).1 ∧ DsIn w' va A ∧ A.length ≤ vc ∧ vc ≤ maxLen ∧ Below w.heap.size w w'
theorem ds_nil (w : World) : DsIn w none [] := (Row.nil 0 w).ds rfl
theorem deeds_empty {s : List UInt8} {w w' : World} {e : Ending} {c q : Int} (h : parseP s = ([], c, q)) (he : e = .returned (.tuple #[.slice none 0 0, .agg #[.int .i64 c, .int .i64 q]])) (hb : Below w.heap.size w w') : DeedsEnd s w e w' := by
  refine ⟨none, 0, [], ?_, ?_, ds_nil w', Nat.le_refl _, by unfold maxLen; exact Nat.zero_le _, hb⟩
  · rw [he, h]; rfl
  · rw [h]; rfl

set_option maxHeartbeats 4000000 in
theorem deedsIn_any (s : ByteArray) (w : World) (hs : s.size ≤ 100000000) : Calls Tryz.prog 10 #[.string s] w (DeedsEnd s.data.toList w) := by
  obtain ⟨W, hW⟩ : ∃ W, W = w.alloc (Obj.cells #[.int .i64 0, .int .i64 0] 27) := ⟨_, rfl⟩
  have hB : Below w.heap.size w W := by rw [hW]; exact (Below.refl _ _).alloc (Nat.le_refl _) _
  have hWs : W.heap.size = w.heap.size + 1 := by rw [hW]; simp
  have hbox : W.heap[w.heap.size]? = some (Obj.cells #[.int .i64 0, .int .i64 0] 27) := by rw [hW]; exact heap_alloc_new _ _
  have hcells : ∀ W', Below W.heap.size W W' → W'.cell? ⟨w.heap.size, 0, none⟩ = some (.int .i64 0) ∧ W'.cell? ⟨w.heap.size, 1, none⟩ = some (.int .i64 0) ∧ (∀ o, W'.frozen? ⟨w.heap.size, o, none⟩ = false) ∧ Below w.heap.size w W' := fun W' h => by
    have hb := (h.block w.heap.size (by omega)).trans hbox
    exact ⟨by rw [cell_of_row _ _ 0 _ _ _ hb]; rfl, by rw [cell_of_row _ _ 1 _ _ _ hb]; rfl, fun o => by simp [World.frozen?, hb], hB.trans (h.mono (by omega))⟩
  have HCL := hide hcells
  have hsl : s.data.toList.length = s.size := by simp
  clear hcells hbox hB
  by_cases h0 : s.data.toList = []
  · have HE := hide (show parseP s.data.toList = ([], 0, 0) by rw [h0]; rfl)
    have hb0 : (s.toList == []) = true := beq_iff_eq.2 (by rw [ByteArray.toList_eq]; exact h0)
    obtain ⟨k0, k1, kf, hbw⟩ := HCL.out W (Below.refl _ _)
    have HBW := hide hbw
    have HWQ := hide hW
    clear h0 hbw hW
    go_enter Tryz.func10, Tryz.ntmps10
    have k0e : (w.alloc (Obj.cells #[.int .i64 0, .int .i64 0] 27)).frozen? ⟨w.heap.size, 0, none⟩ = false := by rw [← HWQ.out]; exact kf 0
    go_wp2_with fail
    refine bodyPost_ret (v := .tuple #[.slice none 0 0, .agg #[.int .i64 0, .int .i64 0]]) (by simp [results, Tryz.results10, go_sem]) rfl (deeds_empty HE.out rfl ?_)
    first | exact HWQ.out ▸ HBW.out | (rw [← HWQ.out]; exact HBW.out)
  · have hb0 : (s.toList == []) = false := beq_eq_false_iff_ne.2 (by rw [ByteArray.toList_eq]; exact h0)
    have HNE := hide h0
    have HC := hide (cut_any s 10 W hs)
    have hlen := cut_len 10 s.data.toList
    have HSZ := hide (cut_size 10 s.data.toList)
    rw [hsl] at hlen HSZ
    obtain ⟨P, hP⟩ : ∃ P, P = cutP 10 s.data.toList := ⟨_, rfl⟩
    have HP := hide hP
    have hpos : 0 < P.length := by rw [hP]; exact List.length_pos_iff.2 (cutP_ne _ _)
    rw [← hP] at HC hlen HSZ
    clear hP h0 hsl
    go_enter Tryz.func10, Tryz.ntmps10
    go_wp2_with fail
    rw [← hW]
    clear hW
    refine Calls.mono HC.out ?_
    rintro e w1 ⟨va, vc, rfl, hrow, hb1⟩
    obtain ⟨g, vc', hv, hg1, hg2, hg3, hg4⟩ := ownsN_some hrow hpos
    injection hv with hv1 hv2 hv3
    subst hv1
    have HR := hide hrow
    have hz1 := hb1.size
    have HB1 := hide hb1
    obtain ⟨m, hm⟩ : ∃ m, P.length = m + 1 := ⟨P.length - 1, by omega⟩
    have hl1 : ((P.length : Int) - 1) = (m : Int) := by omega
    have hmP : m < P.length := by omega
    have hPm : P.length ≤ m + 1 := by omega
    have HM := hide (show (cutP 10 s.data.toList).length - 1 = m by rw [← HP.out]; omega)
    have hlast : P[m]? = some (P.getLastD []) := by
      rw [List.getLastD_eq_getLast?, List.getLast?_eq_getElem?, show P.length - 1 = m by omega, List.getElem?_eq_getElem (by omega)]
      rfl
    obtain ⟨Z, hZ⟩ : ∃ Z, Z = P.getLastD [] := ⟨_, rfl⟩
    rw [← hZ] at hlast
    have cl : w1.cell? ⟨g, m, none⟩ = some (.string (str Z)) := pieces hrow hlast
    have HZ := hide (show Z = (cutP 10 s.data.toList).getLastD [] by rw [hZ, HP.out])
    clear hrow HC hv2 hv3 hb1 hlast hm hZ
    by_cases hz : Z = []
    · have hzb : Z.isEmpty = true := by rw [hz]; rfl
      have HZ0 := hide (show (cutP 10 s.data.toList).getLastD [] = [] by rw [← HZ.out]; exact hz)
      clear hz
      by_cases h80 : 80 < m
      · have HE := hide (parse_many HNE.out HZ0.out (by rw [HM.out]; exact h80))
        go_wp2_with fail
        refine Calls.mono (fF_any 2 (-1) w1) ?_
        rintro e w2 ⟨rfl, hb2⟩
        obtain ⟨k0, k1, kf, hbw⟩ := HCL.out w2 (HB1.out.trans (hb2.mono hz1))
        have HBW := hide hbw
        clear hbw hb2
        go_wp2_with fail
        obtain ⟨V, hV⟩ : ∃ V, V = (w2.setCell ⟨w.heap.size, 0, none⟩ (.int .i64 2)).setCell ⟨w.heap.size, 1, none⟩ (.int .i64 (-1)) := ⟨_, rfl⟩
        have v0 : V.cell? ⟨w.heap.size, 0, none⟩ = some (.int .i64 2) := by rw [hV]; go_simp
        have v1 : V.cell? ⟨w.heap.size, 1, none⟩ = some (.int .i64 (-1)) := by rw [hV]; go_simp
        have HBV := hide (show Below w.heap.size w V by rw [hV]; exact (HBW.out.setCell (p := ⟨w.heap.size, 0, none⟩) (Nat.le_refl _) _).setCell (p := ⟨w.heap.size, 1, none⟩) (Nat.le_refl _) _)
        rw [← hV]
        refine bodyPost_ret (v := .tuple #[.slice none 0 0, .agg #[.int .i64 2, .int .i64 (-1)]]) (by simp [results, Tryz.results10, go_sem, v0, v1]) rfl (deeds_empty HE.out rfl HBV.out)
      · go_wp2_with fail
        go_loopg [6, 7] m (fun gk v6 v7 wr => ∃ (i : Nat) (A : List Pd) (oa : Option Addr) (oc : Nat), gk = m - i ∧ i ≤ m ∧ v7 = .int .i64 (i : Nat) ∧ v6 = .slice oa i oc ∧ Hid (i = A.length) ∧ Hid (Row w1.heap.size wr (.slice oa i oc) A) ∧ Hid (dds A = (P.take i).map deedP) ∧ Hid (∀ x, x ∈ P.take i → deedC x = 0) ∧ Below w1.heap.size w1 wr)
        case atStart => exact ⟨0, [], none, 0, rfl, Nat.zero_le _, rfl, rfl, rfl, Row.nil _ _, rfl, (fun x hx => by simp at hx), Below.refl _ _⟩
        case round =>
          obtain ⟨i, A, oa, oc, hgk, hi, rfl, rfl, hA, hRow, hdd, hok, hbr⟩ := hrel
          by_cases hlt : i < m
          · obtain ⟨x, hx⟩ : ∃ x, P[i]? = some x := ⟨_, List.getElem?_eq_getElem (by omega)⟩
            have hxz : x.length ≤ s.size := HSZ.out x (List.mem_of_getElem? hx)
            have cx : wr.cell? ⟨g, i, none⟩ = some (.string (str x)) := by rw [hbr.cell hg2]; exact pieces HR.out hx
            have HTK := hide (show P.take (i + 1) = P.take i ++ [x] by
              rw [List.take_succ_eq_append_getElem (by omega)]
              congr 2
              rw [List.getElem?_eq_getElem (by omega)] at hx
              exact Option.some.inj hx)
            have HX := hide (show (cutP 10 s.data.toList).dropLast[i]? = some x by
              rw [← HP.out, List.getElem?_dropLast, if_pos (by omega)]
              exact hx)
            have HOKD := hide (show ∀ y, y ∈ (cutP 10 s.data.toList).dropLast.take i → deedC y = 0 by
              rw [← HP.out, List.dropLast_eq_take, List.take_take, Nat.min_eq_left (by omega)]
              exact hok.out)
            have hdi := deedIn_any (str x) wr (by rw [str_size]; omega)
            rw [show (str x).data.toList = x by simp] at hdi
            have HDI := hide hdi
            have HBR := hide hbr
            have hzr := hbr.size
            clear hx hdi hbr
            go_wp2_with fail
            refine Calls.mono HDI.out ?_
            rintro e w2 ⟨pa, pc, rfl, hd, hnew, hb2⟩
            have HDD := hide (show (P.take (i + 1)).map deedP = (P.take i).map deedP ++ [deedP x] by rw [HTK.out, List.map_append]; rfl)
            have hz2 := hb2.size
            obtain ⟨D, hD⟩ : ∃ D, D = deedP x := ⟨_, rfl⟩
            rw [← hD] at hd HDD ⊢
            unfold ddV
            have hdl := hd.len
            have hdc := hd.cap
            unfold maxLen at hdc
            have hb12 := HBR.out.trans (hb2.mono hzr)
            clear hD
            by_cases hc : deedC x = 0
            · have hcb : (deedC x != 0) = false := by rw [hc]; rfl
              have HCX := hide hc
              have b8 : Below w2.heap.size w2 (w2.alloc (Obj.cells #[.int .i64 D.kind, .slice pa D.path.length pc, .int .i64 D.pos, .int .i64 D.many, .string D.lab] 38)) := (Below.refl _ _).alloc (Nat.le_refl _) _
              have hrow8 := (hRow.out.below hb2).below b8
              obtain ⟨va', vc', w4, hr4, hrow4, hg4', hat4⟩ := hrow8.push (n := i) hA.out (D, pa, pc) (hd.below b8) (fun hp0 a ha => by
                obtain ⟨ab, ao, ap⟩ := a
                rcases hd.path with hp1 | ⟨pb, po, pe, _⟩
                · exact absurd hp1 hp0
                · have ha' : pa = some ⟨ab, ao, ap⟩ := ha
                  rw [ha'] at pe
                  injection pe with pe
                  injection pe with e1 e2 e3
                  subst e1 e2 e3
                  have h5 := hnew ab ao ha'
                  refine ⟨by simp only; omega, fun e => ?_⟩
                  have := (ownBlockN_lt hRow.out.own e).2
                  simp only at this
                  omega) (by have := hA.out; omega) (by simp; omega)
              simp only at hr4 hrow4
              have hs8 : (w2.alloc (Obj.cells #[.int .i64 D.kind, .slice pa D.path.length pc, .int .i64 D.pos, .int .i64 D.many, .string D.lab] 38)).heap.size = w2.heap.size + 1 := by simp
              rw [hs8] at hr4
              have HR4 := hide hr4
              have hbw4 : Below w1.heap.size w1 w4 := (hb12.trans (b8.mono (by omega))).grown hg4' (by have := hb12.size; simp; omega) (fun k hk => (ownBlockN_lt hRow.out.own hk).1)
              have HROW4 := hide hrow4
              clear hc hr4 hrow4 hg4' hat4 hrow8 b8 hs8
              go_wp2_with (at_builtin; refine wpList_append_run rfl _ _ _ rfl rfl HR4.out rfl rfl ?_)
              go_wp2_with fail
              go_roundg (m - (i + 1))
              case measure => omega
              case rel =>
                refine ⟨i + 1, A ++ [(D, pa, pc)], va', vc', rfl, by omega, by go_num, rfl, ?_, HROW4.out, ?_, ?_, hbw4⟩
                · show _ = _
                  rw [List.length_append, ← hA.out]
                  rfl
                · show _ = _
                  rw [dds_append, hdd.out, HDD.out]
                  rfl
                · show ∀ x, _ → _
                  rw [HTK.out]
                  intro y hy
                  rcases List.mem_append.1 hy with hy | hy
                  · exact hok.out y hy
                  · rw [List.mem_singleton.1 hy]; exact HCX.out
            · have hcb : (deedC x != 0) = true := by simpa using hc
              have HE := hide (parse_bad HNE.out HZ0.out (by rw [HM.out]; exact h80) HOKD.out HX.out hc)
              obtain ⟨W8, hW8⟩ : ∃ W8, W8 = w2.alloc (Obj.cells #[.int .i64 D.kind, .slice pa D.path.length pc, .int .i64 D.pos, .int .i64 D.many, .string D.lab] 38) := ⟨_, rfl⟩
              have b8 : Below w2.heap.size w2 W8 := by rw [hW8]; exact (Below.refl _ _).alloc (Nat.le_refl _) _
              have hbW8 := HB1.out.trans ((hb12.trans (b8.mono (by omega))).mono hz1)
              clear hc
              go_wp2_with fail
              rw [← hW8]
              clear hW8
              refine Calls.mono (fF_any (deedC x) (i : Int) W8) ?_
              rintro e w3 ⟨rfl, hb3⟩
              obtain ⟨k0, k1, kf, hbw⟩ := HCL.out w3 (hbW8.trans (hb3.mono hbW8.size))
              have HBW := hide hbw
              clear hbw hb3
              go_wp2_with fail
              obtain ⟨V, hV⟩ : ∃ V, V = (w3.setCell ⟨w.heap.size, 0, none⟩ (.int .i64 (deedC x))).setCell ⟨w.heap.size, 1, none⟩ (.int .i64 (i : Int)) := ⟨_, rfl⟩
              have v0 : V.cell? ⟨w.heap.size, 0, none⟩ = some (.int .i64 (deedC x)) := by rw [hV]; go_simp
              have v1 : V.cell? ⟨w.heap.size, 1, none⟩ = some (.int .i64 (i : Int)) := by rw [hV]; go_simp
              have HBV := hide (show Below w.heap.size w V by rw [hV]; exact (HBW.out.setCell (p := ⟨w.heap.size, 0, none⟩) (Nat.le_refl _) _).setCell (p := ⟨w.heap.size, 1, none⟩) (Nat.le_refl _) _)
              rw [← hV]
              refine bodyPost_ret (v := .tuple #[.slice none 0 0, .agg #[.int .i64 (deedC x), .int .i64 (i : Int)]]) (by simp [results, Tryz.results10, go_sem, v0, v1]) rfl (deeds_empty HE.out rfl HBV.out)
          · have him : i = m := by omega
            have HE := hide (parse_all HNE.out HZ0.out (by rw [HM.out]; exact h80) (show ∀ y, y ∈ (cutP 10 s.data.toList).dropLast → deedC y = 0 by
              rw [← HP.out, List.dropLast_eq_take, show P.length - 1 = i by omega]
              exact hok.out))
            have HDA := hide (show dds A = (cutP 10 s.data.toList).dropLast.map deedP by
              rw [hdd.out, ← HP.out, List.dropLast_eq_take, show P.length - 1 = i by omega])
            obtain ⟨k0, k1, kf, hbw⟩ := HCL.out wr (HB1.out.trans (hbr.mono hz1))
            have HBW := hide hbw
            obtain ⟨va2, vc2, hv2, hl2, hm2⟩ := hRow.out.form
            injection hv2 with hv3 hv4 hv5
            subst hv5
            clear hbw him hv3
            go_wp2_with fail
            obtain ⟨V, hV⟩ : ∃ V, V = (wr.setCell ⟨w.heap.size, 0, none⟩ (.int .i64 0)).setCell ⟨w.heap.size, 1, none⟩ (.int .i64 0) := ⟨_, rfl⟩
            have v0 : V.cell? ⟨w.heap.size, 0, none⟩ = some (.int .i64 0) := by rw [hV]; go_simp
            have v1 : V.cell? ⟨w.heap.size, 1, none⟩ = some (.int .i64 0) := by rw [hV]; go_simp
            have HBV := hide (show Below w.heap.size w V by rw [hV]; exact (HBW.out.setCell (p := ⟨w.heap.size, 0, none⟩) (Nat.le_refl _) _).setCell (p := ⟨w.heap.size, 1, none⟩) (Nat.le_refl _) _)
            rw [← hV]
            refine bodyPost_ret (v := .tuple #[.slice oa i oc, .agg #[.int .i64 0, .int .i64 0]]) (by simp [results, Tryz.results10, go_sem, v0, v1]) rfl ?_
            have hoff : DsIn V oa A := by
              have hk : Row w1.heap.size V (.slice oa i oc) A := hRow.out.keep fun q hq1 hq2 => by
                rw [hV, Below.heap_setCell _ _ _ _ (by show q ≠ w.heap.size; omega), Below.heap_setCell _ _ _ _ (by show q ≠ w.heap.size; omega)]
              exact hk.ds hA.out
            refine ⟨oa, oc, A, ?_, ?_, hoff, hl2, hm2, HBV.out⟩
            · rw [HE.out, ← hA.out]
            · rw [HE.out, HDA.out]
    · have hzb : Z.isEmpty = false := by
        cases hzz : Z with
        | nil => exact absurd hzz hz
        | cons a b => rfl
      have HE := hide (parse_short HNE.out (by rw [← HZ.out]; exact hz))
      rw [HM.out] at HE
      clear hz
      go_wp2_with fail
      refine Calls.mono (fF_any 5 (m : Int) w1) ?_
      rintro e w2 ⟨rfl, hb2⟩
      obtain ⟨k0, k1, kf, hbw⟩ := HCL.out w2 (HB1.out.trans (hb2.mono hz1))
      have HBW := hide hbw
      clear hbw hb2
      go_wp2_with fail
      obtain ⟨V, hV⟩ : ∃ V, V = (w2.setCell ⟨w.heap.size, 0, none⟩ (.int .i64 5)).setCell ⟨w.heap.size, 1, none⟩ (.int .i64 (m : Int)) := ⟨_, rfl⟩
      have v0 : V.cell? ⟨w.heap.size, 0, none⟩ = some (.int .i64 5) := by rw [hV]; go_simp
      have v1 : V.cell? ⟨w.heap.size, 1, none⟩ = some (.int .i64 (m : Int)) := by rw [hV]; go_simp
      have HBV := hide (show Below w.heap.size w V by rw [hV]; exact (HBW.out.setCell (p := ⟨w.heap.size, 0, none⟩) (Nat.le_refl _) _).setCell (p := ⟨w.heap.size, 1, none⟩) (Nat.le_refl _) _)
      rw [← hV]
      refine bodyPost_ret (v := .tuple #[.slice none 0 0, .agg #[.int .i64 5, .int .i64 (m : Int)]]) (by simp [results, Tryz.results10, go_sem, v0, v1]) rfl (deeds_empty HE.out rfl HBV.out)
end Go.Proofs.YtkoohfkomlmhoacGreatDoor.Pat
