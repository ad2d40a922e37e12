/- tree.Same of two trees that lie in memory, of which the first has no list twice. Of the program's text. -/
import Derived.Test.YtafojlockiekfaaProg
import Derived.Test.YtafojlockiekfaaSameInv
import Derived.Deep.RegionHeld3
import Derived.Deep.LoopGhost
namespace Go.Proofs.Ytafojlockiekfaa
open Go.Deep Go.RowKit
set_option linter.unusedVariables false
set_option maxRecDepth 20000

theorem Try.infoTwins : (Try.prog.info? 66).map (fun i => (i.zero, i.size, i.bytes)) = some (some (.agg #[.slice none 0 0, .slice none 0 0]), 2, 48) := by kernel_rfl

set_option maxHeartbeats 1600000 in
set_option maxRecDepth 100000 in
theorem same_any (s : ByteArray) (ka : Option Addr) (cap : Nat) (k : Fo) (s' : ByteArray) (ka' : Option Addr) (cap' : Nat) (k' : Fo) (w : World) (ht : TIn w s ka cap k) (ht' : TIn w s' ka' cap' k') (hp : FPlain w k) (hd : (ab k).Nodup) (hn : 1 + fnodes k ≤ 200) :
    Calls Try.prog 23 #[.agg #[.string s, .slice ka (flen k) cap], .agg #[.string s', .slice ka' (flen k') cap']] w fun e w' => e = .returned (.bool (sameT s k s' k')) ∧ Below w.heap.size w w' := by
  obtain ⟨i43, hi43, hy0', hy1', hy2'⟩ := info_parts Try.infoTwins
  go_enter Try.func23, Try.ntmps23
  have hmm : ∀ W : World, (Instr.makeMap 64 none).run Try.prog W = .ok (.map (some W.heap.size)) (W.alloc (.map #[] 0)) := fun W => by
    rfl
  obtain ⟨w1, hw1⟩ : ∃ w1, w1 = ((((w.alloc (Obj.cells #[Value.string s, Value.slice ka (flen k) cap] 24)).alloc (Obj.cells #[Value.string s', Value.slice ka' (flen k') cap'] 24)).alloc (Obj.map #[] 0)).alloc (Obj.cells #[Value.string s, Value.slice ka (flen k) cap] 24)).alloc (Obj.cells #[Value.string s', Value.slice ka' (flen k') cap'] 24) := ⟨_, rfl⟩
  have hw1b : Below w.heap.size w w1 := by
    rw [hw1]
    exact (((((Below.refl _ _).alloc (Nat.le_refl _) _).alloc (by simp) _).alloc (by simp; omega) _).alloc (by simp; omega) _).alloc (by simp; omega) _
  have hw1s : w.heap.size + 5 ≤ w1.heap.size := by rw [hw1]; simp
  have hstart : SInv 66 (w.heap.size + 1 + 1) w1 (w1.alloc (Obj.cells #[Value.slice (some ⟨w.heap.size + 1 + 1 + 1, 0, none⟩) 1 1, Value.slice (some ⟨w.heap.size + 1 + 1 + 1 + 1, 0, none⟩) 1 1] 66)) (.slice (some ⟨w.heap.size + 1 + 1 + 1 + 1 + 1, 0, none⟩) 1 1)
      [((⟨w.heap.size + 1 + 1 + 1, 0, none⟩, 1, .node (w.heap.size + 1 + 1 + 1) 0 (s, ka, cap) k .nil), (⟨w.heap.size + 1 + 1 + 1 + 1, 0, none⟩, 1, .node (w.heap.size + 1 + 1 + 1 + 1) 0 (s', ka', cap') k' .nil))] [] [] := by
    have hm0 : w1.heap[w.heap.size + 1 + 1]? = some (.map #[] 0) := by
      have e : ((w.alloc (Obj.cells #[Value.string s, Value.slice ka (flen k) cap] 24)).alloc (Obj.cells #[Value.string s', Value.slice ka' (flen k') cap'] 24)).heap.size = w.heap.size + 1 + 1 := by simp
      have h := heap_alloc_new ((w.alloc (Obj.cells #[Value.string s, Value.slice ka (flen k) cap] 24)).alloc (Obj.cells #[Value.string s', Value.slice ka' (flen k') cap'] 24)) (Obj.map #[] 0)
      rw [e] at h
      rw [hw1, Below.heap_alloc _ _ _ (by simp), Below.heap_alloc _ _ _ (by simp)]
      exact h
    have hA0 : w1.heap[w.heap.size + 1 + 1 + 1]? = some (.cells #[Value.string s, Value.slice ka (flen k) cap] 24) := by
      have e : (((w.alloc (Obj.cells #[Value.string s, Value.slice ka (flen k) cap] 24)).alloc (Obj.cells #[Value.string s', Value.slice ka' (flen k') cap'] 24)).alloc (Obj.map #[] 0)).heap.size = w.heap.size + 1 + 1 + 1 := by simp
      have h := heap_alloc_new (((w.alloc (Obj.cells #[Value.string s, Value.slice ka (flen k) cap] 24)).alloc (Obj.cells #[Value.string s', Value.slice ka' (flen k') cap'] 24)).alloc (Obj.map #[] 0)) (Obj.cells #[Value.string s, Value.slice ka (flen k) cap] 24)
      rw [e] at h
      rw [hw1, Below.heap_alloc _ _ _ (by simp)]
      exact h
    have hB0 : w1.heap[w.heap.size + 1 + 1 + 1 + 1]? = some (.cells #[Value.string s', Value.slice ka' (flen k') cap'] 24) := by
      have e : ((((w.alloc (Obj.cells #[Value.string s, Value.slice ka (flen k) cap] 24)).alloc (Obj.cells #[Value.string s', Value.slice ka' (flen k') cap'] 24)).alloc (Obj.map #[] 0)).alloc (Obj.cells #[Value.string s, Value.slice ka (flen k) cap] 24)).heap.size = w.heap.size + 1 + 1 + 1 + 1 := by simp
      have h := heap_alloc_new ((((w.alloc (Obj.cells #[Value.string s, Value.slice ka (flen k) cap] 24)).alloc (Obj.cells #[Value.string s', Value.slice ka' (flen k') cap'] 24)).alloc (Obj.map #[] 0)).alloc (Obj.cells #[Value.string s, Value.slice ka (flen k) cap] 24)) (Obj.cells #[Value.string s', Value.slice ka' (flen k') cap'] 24)
      rw [e] at h
      rw [hw1]
      exact h
    have hn2 : w1.heap.size = w.heap.size + 1 + 1 + 1 + 1 + 1 := by rw [hw1]; simp
    have hrA : FIn w1 (.node (w.heap.size + 1 + 1 + 1) 0 (s, ka, cap) k .nil) (w.heap.size + 1 + 1 + 1) 0 :=
      ⟨rfl, rfl, by rw [cell_of_row w1 _ 0 _ _ _ hA0]; rfl, by rw [cell_of_row w1 _ (0 + 1) _ _ _ hA0]; rfl, ht.size, ht.len, ht.cap, ht.kids.below hw1b, trivial⟩
    have hrB : FIn w1 (.node (w.heap.size + 1 + 1 + 1 + 1) 0 (s', ka', cap') k' .nil) (w.heap.size + 1 + 1 + 1 + 1) 0 :=
      ⟨rfl, rfl, by rw [cell_of_row w1 _ 0 _ _ _ hB0]; rfl, by rw [cell_of_row w1 _ (0 + 1) _ _ _ hB0]; rfl, ht'.size, ht'.len, ht'.cap, ht'.kids.below hw1b, trivial⟩
    refine ⟨fun t htm => ?_, ⟨rfl, Or.inr ⟨w.heap.size + 1 + 1 + 1 + 1 + 1, 1, _, rfl, by omega, by rw [← hn2]; exact heap_alloc_new _ _, by simp, by simp [maxLen], rfl, by simp [twRow, twCells, flen]⟩⟩, ⟨#[], 0, by rw [Below.heap_alloc _ _ _ (by omega)]; exact hm0, fun x hx => by simp at hx⟩, ?_, Keeps.of_below ((Below.refl _ _).alloc (Nat.le_refl _) _), by omega, fun b hb => by simp at hb⟩
    · have : t = ((⟨w.heap.size + 1 + 1 + 1, 0, none⟩, 1, .node (w.heap.size + 1 + 1 + 1) 0 (s, ka, cap) k .nil), (⟨w.heap.size + 1 + 1 + 1 + 1, 0, none⟩, 1, .node (w.heap.size + 1 + 1 + 1 + 1) 0 (s', ka', cap') k' .nil)) := by simpa using htm
      subst this
      exact ⟨rfl, rfl, hrA, hrB, rfl, by simp [flen], ⟨by simp [flen], by simp [maxLen]⟩, ⟨by simp [flen], by simp [maxLen]⟩, ⟨⟨_, _, hA0⟩, hp.below hw1b, trivial⟩, ⟨by omega, ht.kids.off (by omega), trivial⟩, ⟨by omega, ht'.kids.off (by omega), trivial⟩⟩
    · have hk2 : ∀ q, q ∈ ab k → q < w.heap.size := fun q hq => ab_lt ht.kids q hq
      have e : abTw [((⟨w.heap.size + 1 + 1 + 1, 0, none⟩, 1, .node (w.heap.size + 1 + 1 + 1) 0 (s, ka, cap) k .nil), (⟨w.heap.size + 1 + 1 + 1 + 1, 0, none⟩, 1, .node (w.heap.size + 1 + 1 + 1 + 1) 0 (s', ka', cap') k' .nil))] = (w.heap.size + 1 + 1 + 1) :: ab k := by
        simp [abTw, ab, lb, Go.Proofs.Ytafojlockiekfaa.hb]
      rw [e, List.append_nil, List.nil_append, List.nodup_cons]
      exact ⟨fun hm => by have := hk2 _ hm; omega, hd⟩
  have HS := hide hstart
  clear hstart
  go_wp2_with fail
  rw [← hw1]
  clear hw1
  go_loopg [6] (1 + fnodes k) (fun gk v wr => ∃ (tws : List Tw) (seen : List Nat), gk = totTw tws ∧ totTw tws ≤ 200 ∧ SInv 66 (w.heap.size + 1 + 1) w1 wr v tws seen [] ∧ Hid (sameT s k s' k' = sameTw tws))
  case atStart =>
    refine ⟨_, [], ?_, ?_, HS.out, ?_⟩
    · simp [totTw, fnodes]; omega
    · simp [totTw, fnodes]; omega
    · show _ = _
      simp [sameTw, sameF, sameT]
  case round =>
    obtain ⟨tws, seen, hgk, htt, hI, hsm⟩ := hrel
    rcases List.eq_nil_or_concat tws with hfs | ⟨tws0, t, hfs⟩
    · subst hfs
      have hrow := hI.row.2
      simp only [List.length_nil] at hrow
      rcases hrow with ⟨rfl, _⟩ | ⟨g, cap2, cur, rfl, _⟩
      all_goals
        go_wp2_with fail
        go_ret
        exact ⟨ret_bool hsm.out.symm, hI.keeps.to_below hw1b (fun c hc => by simp at hc; omega)⟩
    · rw [List.concat_eq_append] at hfs
      subst hfs
      obtain ⟨⟨A, capA, FA⟩, ⟨B, capB, FB⟩⟩ := t
      have hrow := hI.row
      simp only [List.length_append, List.length_cons, List.length_nil] at hrow
      obtain ⟨g, cap2, cur, rfl, hg1, hg2, hg3, hg4, hg5, hg6, hg7⟩ := own_form hrow (by omega)
      obtain ⟨hcA, hcB⟩ := hI.lastCells
      obtain ⟨hsA, hsB, hlA, hlB, hln, hps, hkA, hkB, hpl, hoA, hoB⟩ := hI.each ((A, capA, FA), (B, capB, FB)) (by simp)
      simp only at hsA hsB hlA hlB hln hps hkA hkB hpl hoA hoB hcA hcB
      rw [hln] at hcB hkB
      obtain ⟨Ab, Ao, As⟩ := A
      obtain ⟨Bb, Bo, Bs⟩ := B
      simp only at hsA hsB hlA hlB
      subst hsA
      subst hsB
      have hsl : ∀ wx, (Instr.slice 67 (.slice (some ⟨g, 0, none⟩) (tws0.length + 1) cap2) none (some (.int .i64 (tws0.length : Int))) none).run Try.prog wx = .ok (.slice (some ⟨g, 0, none⟩) tws0.length cap2) wx := fun wx => by
        rw [run_slice_h wx 67 _ _ _ Try.underlying67 .i64 _ (by omega) (by omega)]
        simp [go_sem, sliced, Addr.add]
      have htl := totTw_len _ (fun t ht => (hI.each t ht).pos)
      simp only [List.length_append, List.length_cons, List.length_nil] at htl
      have HI := hide hI
      have HG := hide hgk
      clear hI hgk hrow hg7 hg6 hg3
      have hib : (tws0.length : Int) < (tws0.length : Int) + 1 := by omega
      have hfp : (0 : Int) < (flen FA : Int) := by omega
      unfold maxLen at hg5 hkA hkB
      go_wp2_with fail
      go_region_held3 (fun w' => w'.cell? ⟨wr.heap.size, 0, none⟩ = some (.slice (some ⟨Ab, Ao, none⟩) (flen FA) capA) ∧ w'.cell? ⟨wr.heap.size, 1, none⟩ = some (.slice (some ⟨Bb, Bo, none⟩) (flen FA) capB))
        (first | go_keep | (refine ⟨?_, ?_⟩ <;> go_simp))
        (fail)
      have hW8 : Below wr.heap.size wr ((wr.alloc (Obj.cells #[Value.slice (some ⟨Ab, Ao, none⟩) (flen FA) capA, Value.slice (some ⟨Bb, Bo, none⟩) (flen FA) capB] 66)).alloc (Obj.cells #[Value.pointer (some ⟨Ab, Ao, none⟩), Value.pointer (some ⟨Bb, Bo, none⟩), Value.int .i64 (flen FA)] 70)).drew :=
        (((Below.refl _ _).alloc (Nat.le_refl _) _).alloc (by simp) _).drew
      obtain ⟨hbp8, ⟨es8, clock8, hm8, hk8⟩, hni⟩ := HI.out.taken hW8 (.agg #[])
      have hlk : (Instr.lookup 64 (.map (some (w.heap.size + 1 + 1))) (.agg #[.pointer (some ⟨Ab, Ao, none⟩), .pointer (some ⟨Bb, Bo, none⟩), .int .i64 (flen FA : Int)]) true).run Try.prog (((wr.alloc (Obj.cells #[Value.slice (some ⟨Ab, Ao, none⟩) (flen FA) capA, Value.slice (some ⟨Bb, Bo, none⟩) (flen FA) capB] 66)).alloc (Obj.cells #[Value.pointer (some ⟨Ab, Ao, none⟩), Value.pointer (some ⟨Bb, Bo, none⟩), Value.int .i64 (flen FA)] 70)).drew) = .ok (.tuple #[.agg #[], .bool false]) (((wr.alloc (Obj.cells #[Value.slice (some ⟨Ab, Ao, none⟩) (flen FA) capA, Value.slice (some ⟨Bb, Bo, none⟩) (flen FA) capB] 66)).alloc (Obj.cells #[Value.pointer (some ⟨Ab, Ao, none⟩), Value.pointer (some ⟨Bb, Bo, none⟩), Value.int .i64 (flen FA)] 70)).drew) :=
        run_seen_no (a := ⟨Ab, Ao, none⟩) (b := ⟨Bb, Bo, none⟩) (n := flen FA) hm8 hbp8 seen hk8 hni
      have hW9 : Below wr.heap.size wr ((((wr.alloc (Obj.cells #[Value.slice (some ⟨Ab, Ao, none⟩) (flen FA) capA, Value.slice (some ⟨Bb, Bo, none⟩) (flen FA) capB] 66)).alloc (Obj.cells #[Value.pointer (some ⟨Ab, Ao, none⟩), Value.pointer (some ⟨Bb, Bo, none⟩), Value.int .i64 (flen FA)] 70)).alloc (Obj.cells #[] 71)).drew) := ((((Below.refl _ _).alloc (Nat.le_refl _) _).alloc (by simp) _).alloc (by simp; omega) _).drew
      obtain ⟨hbp, ⟨es, clock, hm, hk⟩, _⟩ := HI.out.taken hW9 (.agg #[])
      obtain ⟨w2, hw2⟩ : ∃ w2 : World, w2 = { ((((wr.alloc (Obj.cells #[Value.slice (some ⟨Ab, Ao, none⟩) (flen FA) capA, Value.slice (some ⟨Bb, Bo, none⟩) (flen FA) capB] 66)).alloc (Obj.cells #[Value.pointer (some ⟨Ab, Ao, none⟩), Value.pointer (some ⟨Bb, Bo, none⟩), Value.int .i64 (flen FA)] 70)).alloc (Obj.cells #[] 71)).drew) with heap := ((((wr.alloc (Obj.cells #[Value.slice (some ⟨Ab, Ao, none⟩) (flen FA) capA, Value.slice (some ⟨Bb, Bo, none⟩) (flen FA) capB] 66)).alloc (Obj.cells #[Value.pointer (some ⟨Ab, Ao, none⟩), Value.pointer (some ⟨Bb, Bo, none⟩), Value.int .i64 (flen FA)] 70)).alloc (Obj.cells #[] 71)).drew).heap.setIfInBounds (w.heap.size + 1 + 1) (.map (es.push { key := keyV ⟨Ab, Ao, none⟩ ⟨Bb, Bo, none⟩ (flen FA), val := .agg #[], born := clock }) (clock + 1)) } := ⟨_, rfl⟩
      have hup : (Instr.mapUpdate 64 (.map (some (w.heap.size + 1 + 1))) (.agg #[.pointer (some ⟨Ab, Ao, none⟩), .pointer (some ⟨Bb, Bo, none⟩), .int .i64 (flen FA : Int)]) (.agg #[])).run Try.prog ((((wr.alloc (Obj.cells #[Value.slice (some ⟨Ab, Ao, none⟩) (flen FA) capA, Value.slice (some ⟨Bb, Bo, none⟩) (flen FA) capB] 66)).alloc (Obj.cells #[Value.pointer (some ⟨Ab, Ao, none⟩), Value.pointer (some ⟨Bb, Bo, none⟩), Value.int .i64 (flen FA)] 70)).alloc (Obj.cells #[] 71)).drew) = .ok () w2 := by
        rw [hw2]
        exact run_seen_put (a := ⟨Ab, Ao, none⟩) (b := ⟨Bb, Bo, none⟩) (n := flen FA) hm hbp seen hk hni (.agg #[])
      obtain ⟨hI2, hoth, hsz2⟩ := HI.out.start hW9 hm hk hbp hw2
      have hm2 : w.heap.size + 1 + 1 < w1.heap.size := by omega
      have hz1 := HI.out.keeps.size
      have ht0 : w2.cell? ⟨wr.heap.size, 0, none⟩ = some (.slice (some ⟨Ab, Ao, none⟩) (flen FA) capA) := by
        rw [World.cell?_of_block (hoth wr.heap.size (by omega))]; go_simp
      have ht1 : w2.cell? ⟨wr.heap.size, 1, none⟩ = some (.slice (some ⟨Bb, Bo, none⟩) (flen FA) capB) := by
        rw [World.cell?_of_block (hoth wr.heap.size (by omega))]; go_simp
      have hz2 : wr.heap.size < w2.heap.size := by rw [hsz2]; simp; omega
      have HI2 := hide hI2
      have hw2' : wr.heap.size ≤ w2.heap.size := by omega
      clear hI2 hw2 hoth hsz2 hm hm8
      obtain ⟨wo, rfl⟩ : ∃ wo, wo = wr := ⟨wr, rfl⟩
      go_wp2_with fail
      go_loopg [6, 58] (flen FA) (fun gk v c wi => ∃ (i : Nat) (psh : List Tw), i ≤ flen FA ∧ c = .int .i64 i ∧ gk = flen FA - i ∧ SInv 66 (w.heap.size + 1 + 1) w1 wi v (tws0 ++ psh) (seen ++ [Ab]) (lb (fdrop i FA)) ∧
          Hid (sameT s k s' k' = (sameTw (tws0 ++ psh) && sameF (fdrop i FA) (fdrop i FB))) ∧ totTw (tws0 ++ psh) + fnodes (fdrop i FA) + i ≤ totTw (tws0 ++ [((⟨Ab, Ao, none⟩, capA, FA), (⟨Bb, Bo, none⟩, capB, FB))]) ∧
          wi.cell? ⟨wo.heap.size, 1, none⟩ = some (.slice (some ⟨Bb, Bo, none⟩) (flen FA) capB) ∧ (∀ q, v.ownBlock = some q → q ≠ wo.heap.size) ∧ wo.heap.size < wi.heap.size)
      case atStart =>
        refine ⟨0, [], Nat.zero_le _, rfl, by simp, by simpa [fdrop] using HI2.out, ?_, ?_, ht1, fun q hq => ?_, hz2⟩
        · have := hsm.out
          rw [sameTw_append, sameTw_one] at this
          show _ = _
          simpa [fdrop] using this
        · simp [totTw_append, totTw, fdrop]
        · simp only [Value.ownBlock, Option.some.injEq] at hq
          omega
      case round =>
        obtain ⟨i, psh, hil, rfl, hgi, hin, hss, htot, hb1, hvo, hbl⟩ := hrel
        by_cases hlt : i < flen FA
        · have hlA' := FIn.keeps hin.keeps (fun c hc => by have : c = w.heap.size + 1 + 1 := by simpa using hc
                                                           subst this; exact hoA) hlA
          have hlB' := FIn.keeps hin.keeps (fun c hc => by have : c = w.heap.size + 1 + 1 := by simpa using hc
                                                           subst this; exact hoB) hlB
          obtain ⟨b1, o1, x, kk, he, hx0, hx1, htinx, hbbx⟩ := hlA'.at hlt
          obtain ⟨b2, o2, y, ll, he', hy0, hy1, htiny, hbby⟩ := hlB'.at (show i < flen FB by omega)
          have hlbs := lb_step he
          have htos := tot_step he
          have hsF := sameF_step he he'
          have HIN := hide hin
          have HGI := hide hgi
          have HE := hide he
          have HE' := hide he'
          have HLB := hide hlbs
          have HSF := hide hsF
          clear hin hgi he he' hlbs hsF
          have htn := totTw_len _ (fun t ht => (HIN.out.each t ht).pos)
          have hsz := HIN.out.keeps.size
          by_cases hlab : x.1.toList = y.1.toList
          · have hl1 : (x.1.toList == y.1.toList) = true := beq_iff_eq.2 hlab
            by_cases hlen : flen kk = flen ll
            · have hln2 : ((flen kk : Int) != (flen ll : Int)) = false := by rw [hlen]; simp
              have hkids := same_kids (x := x) (y := y) (kk := kk) (ll := ll) hlab
              have HSK := hide hkids
              have HLEN := hide hlen
              clear hlab hkids hlen
              have hi1 : i + 1 ≤ 400 := by have := flen_le_nodes FA; rw [totTw_append] at htt; simp only [totTw] at htt; omega
              by_cases hk0 : flen kk = 0
              · have hkp : ¬ (0 : Int) < (flen kk : Int) := by omega
                have hon := HIN.out.on (((Below.refl _ _).alloc (Nat.le_refl _) (Obj.cells #[Value.string x.1, Value.slice x.2.1 (flen kk) x.2.2] 24)).alloc (by simp) (Obj.cells #[Value.string y.1, Value.slice y.2.1 (flen ll) y.2.2] 24))
                have HON := hide hon
                have HK0 := hide hk0
                clear hon hk0
                go_wp2_with fail
                go_roundg (flen FA - (i + 1))
                case measure => have := HGI.out; omega
                case rel =>
                  refine ⟨i + 1, psh, by omega, by go_num, rfl, ?_, ?_, by omega, ?_, hvo, by simp; omega⟩
                  · have h1 := HON.out
                    rw [HLB.out, show ab kk = [] by rw [nil_of_len HK0.out]; rfl, List.nil_append] at h1
                    exact h1
                  · have h1 := hss.out
                    rw [HSF.out, HSK.out, nil_of_len HK0.out, nil_of_len (show flen ll = 0 by rw [← HLEN.out]; exact HK0.out)] at h1
                    exact h1
                  · go_simp
              · have hkp : (0 : Int) < (flen kk : Int) := by omega
                rcases htinx.kids with hkn | ⟨kb, ko, hxa, hkin⟩
                · rw [hkn] at hk0; simp [flen] at hk0
                rcases htiny.kids with hkn | ⟨kb', ko', hya, hkin'⟩
                · rw [HLEN.out, hkn] at hk0; simp [flen] at hk0
                have htw := (HI.out.each ((⟨Ab, Ao, none⟩, capA, FA), (⟨Bb, Bo, none⟩, capB, FB)) (by simp)).kid HE.out HE'.out hxa hya (by omega) HLEN.out.symm
                have HTW := hide htw
                rw [hxa] at hx1
                rw [hya] at hy1
                have hon := HIN.out.on (((Below.refl _ _).alloc (Nat.le_refl _) (Obj.cells #[Value.string x.1, Value.slice (some ⟨kb, ko, none⟩) (flen kk) x.2.2] 24)).alloc (by simp) (Obj.cells #[Value.string y.1, Value.slice (some ⟨kb', ko', none⟩) (flen ll) y.2.2] 24))
                rw [HLB.out] at hon
                have hrw := hon.row
                have HON := hide hon
                have HRW := hide hrw
                clear hon hrw htw
                go_wp2_with (at_builtin; refine wpList_append_lies _ rfl (.tmp 86) (.tmp 92) 67 rfl w1.heap.size 66 i43 _ 2 48 Try.underlying67 hi43 hy0' hy1' hy2' rfl (by decide) _ (tws0 ++ psh).length _ rfl (by exact ownsRow_below HRW.out ((Below.refl _ _).alloc (Nat.le_refl _) _)) ⟨wr.heap.size + 1 + 1, 0, none⟩ 1 1 (twCells ((⟨kb, ko, none⟩, x.2.2, kk), (⟨kb', ko', none⟩, y.2.2, ll))) rfl rfl (by exact tw_news' _ _ _ _ (by simp)) (tw_one _) (by decide) (by unfold maxLen; omega) (by omega) (by simp; omega) (wr.heap.size + 1 + 1 + 1) (by simp) ?_)
                intro gv cap3 w3 hown hgrow hat hlt3
                have hpu := HON.out.push (gv := gv) (cap := cap3) HTW.out (by simpa using hown) hgrow
                have HPU := hide hpu
                have hc3 : w3.cell? ⟨wo.heap.size, 1, none⟩ = some (.slice (some ⟨Bb, Bo, none⟩) (flen FA) capB) := by
                  rw [World.grownBy.cell_far hgrow ⟨wo.heap.size, 1, none⟩ (by simp; omega) (fun e => hvo _ e.symm rfl)]
                  exact (((((Below.refl wr.heap.size wr).alloc (Nat.le_refl _) _).alloc (by simp) _).alloc (by simp; omega) _).cell (p := ⟨wo.heap.size, 1, none⟩) hbl).trans hb1
                have hz3 : wo.heap.size < w3.heap.size := by have := hgrow.size; simp at this; omega
                have hgvo : ∀ q, some gv = some q → q ≠ wo.heap.size := fun q hq => by
                  simp only [Option.some.injEq] at hq
                  subst hq
                  rcases hat with hat | hat
                  · exact hvo _ hat
                  · omega
                have HVO := hide hgvo
                clear hpu hown hgrow hat hgvo
                go_wp2_with fail
                go_roundg (flen FA - (i + 1))
                case measure => have := HGI.out; omega
                case rel =>
                  refine ⟨i + 1, psh ++ [((⟨kb, ko, none⟩, x.2.2, kk), (⟨kb', ko', none⟩, y.2.2, ll))], by omega, by go_num, rfl, ?_, ?_, ?_, hc3, fun q hq => HVO.out q hq, hz3⟩
                  · have h1 := HPU.out
                    simpa [List.append_assoc] using h1
                  · have h1 := hss.out
                    show _ = _
                    rw [HSF.out, HSK.out, ← Bool.and_assoc] at h1
                    rw [h1, ← List.append_assoc, sameTw_append (tws0 ++ psh), sameTw_one]
                  · rw [← List.append_assoc, totTw_append (tws0 ++ psh)]
                    simp only [totTw]
                    omega
            · have hln2 : ((flen kk : Int) != (flen ll : Int)) = true := by simp; omega
              have hno := same_no (x := x) (y := y) (kk := kk) (ll := ll) (Or.inr hlen)
              have HNO := hide hno
              clear hno hlab hlen
              go_wp2_with fail
              go_ret
              refine ⟨ret_bool ?_, ((HIN.out.keeps.to_below hw1b (fun c hc => by simp at hc; omega)).alloc (by have := HIN.out.keeps.size; omega) _).alloc (by have := HIN.out.keeps.size; simp; omega) _⟩
              have h1 := hss.out
              rw [HSF.out, HNO.out] at h1
              rw [h1]
              simp
          · have hl1 : (x.1.toList == y.1.toList) = false := beq_eq_false_iff_ne.2 hlab
            have hno := same_no (x := x) (y := y) (kk := kk) (ll := ll) (Or.inl hlab)
            have HNO := hide hno
            clear hno hlab
            go_wp2_with fail
            go_ret
            refine ⟨ret_bool ?_, ((HIN.out.keeps.to_below hw1b (fun c hc => by simp at hc; omega)).alloc (by have := HIN.out.keeps.size; omega) _).alloc (by have := HIN.out.keeps.size; simp; omega) _⟩
            have h1 := hss.out
            rw [HSF.out, HNO.out] at h1
            rw [h1]
            simp
        · have hss' := hss.out
          rw [fdrop_end i FA (by omega), fdrop_end i FB (by omega)] at hss'
          rw [fdrop_end i FA (by omega)] at hin
          have HSS := hide hss'
          have HIN := hide hin
          clear hss hss' hin
          go_wp2_with fail
          go_roundg (totTw (tws0 ++ psh))
          case measure => have := HG.out; omega
          case rel => exact ⟨tws0 ++ psh, seen ++ [Ab], rfl, by omega, by simpa [lb] using HIN.out, by show _ = _; have := HSS.out; simpa [sameF] using this⟩

end Go.Proofs.Ytafojlockiekfaa
