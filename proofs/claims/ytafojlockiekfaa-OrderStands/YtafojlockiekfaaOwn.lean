/- tree.Own makes, of a tree that lies in memory, the same tree in new memory. Of the program's text. -/
import Derived.Test.YtafojlockiekfaaProg
import Derived.Test.YtafojlockiekfaaCheck
import Derived.Test.YtafojlockiekfaaNode
import Derived.Test.YtafojlockiekfaaOwnStep
import Derived.Deep.LoopGhost
namespace Go.Proofs.Ytafojlockiekfaa
open Go.Deep Go.RowKit
set_option linter.unusedVariables false
set_option maxRecDepth 20000

theorem Try.infoList : (Try.prog.info? 22).map (fun i => (i.zero, i.size, i.bytes)) = some (some (.slice none 0 0), 1, 24) := by kernel_rfl

set_option maxHeartbeats 1600000 in
theorem own_any (s : ByteArray) (ka : Option Addr) (cap : Nat) (k : Fo) (w : World) (ht : TIn w s ka cap k) (hp : FPlain w k) (hn : 1 + fnodes k ≤ 200) (hs : s.size ≤ 1000) (hsm : SmallF k) :
    Calls Try.prog 25 #[.agg #[.string s, .slice ka (flen k) cap]] w fun e w' => ∃ ka' cap' k', e = .returned (.agg #[.string s, .slice ka' (flen k') cap']) ∧ strip k' = strip k ∧ TIn w' s ka' cap' k' ∧ FFrom w.heap.size k' ∧ FPlain w' k' ∧ Below w.heap.size w w' := by
  have hbox : Below w.heap.size w ((w.alloc (Obj.cells #[Value.string s, Value.slice ka (flen k) cap] 24)).alloc (Obj.cells #[Value.string ⟨#[]⟩, Value.slice none 0 0] 24)) :=
    ((Below.refl _ _).alloc (Nat.le_refl _) _).alloc (by simp) _
  obtain ⟨i22, hi22, hy0, hy1, hy2⟩ := info_parts Try.infoList
  have hne : ((1 : Int) + (fnodes k : Int) == 9223372036854775807) = false := beq_eq_false_iff_ne.2 (by omega)
  go_enter Try.func25, Try.ntmps25
  go_wp2_with fail
  refine (size_any s ka cap k _ (ht.below hbox) (hp.below hbox) hn).mono ?_
  rintro e w1 ⟨rfl, hb1⟩
  have hc0 : w1.cell? ⟨w.heap.size, 0, none⟩ = some (.string s) := by (rw [hb1.cell (by simp; omega)]; go_simp)
  have hc1 : w1.cell? ⟨w.heap.size, 1, none⟩ = some (.slice ka (flen k) cap) := by (rw [hb1.cell (by simp; omega)]; go_simp)
  have hd0 : w1.cell? ⟨w.heap.size + 1, 0, none⟩ = some (.string ⟨#[]⟩) := by (rw [hb1.cell (by simp)]; go_simp)
  have hd1 : w1.cell? ⟨w.heap.size + 1, 1, none⟩ = some (.slice none 0 0) := by (rw [hb1.cell (by simp)]; go_simp)
  have hf0 : w1.frozen? ⟨w.heap.size + 1, 0, none⟩ = false := by (rw [hb1.frozen (by simp)]; go_simp)
  have hf1 : w1.frozen? ⟨w.heap.size + 1, 1, none⟩ = false := by (rw [hb1.frozen (by simp)]; go_simp)
  have hz1' : w.heap.size + 1 < w1.heap.size := by have := hb1.size; simp at this; omega
  have hz1'' : w.heap.size < w1.heap.size := by omega
  have hbW := hbox.trans (hb1.mono (by simp; omega))
  have ht1 := ht.below hbW
  have hstart : OInv 24 22 w1 ((w1.alloc (Obj.cells #[Value.string s, Value.slice ka (flen k) cap] 24)).alloc (Obj.cells #[Value.slice (some ⟨w1.heap.size, 0, none⟩) 1 1] 22)) (.slice (some ⟨w1.heap.size + 1, 0, none⟩) 1 1) [(w1.heap.size, [(s, ka, cap, k)])] [] w1.heap.size (strip (.node 0 0 (s, ka, cap) k .nil)) := by
    have e : (w1.alloc (Obj.cells #[Value.string s, Value.slice ka (flen k) cap] 24)).heap.size = w1.heap.size + 1 := by simp
    have h2 := heap_alloc_new (w1.alloc (Obj.cells #[Value.string s, Value.slice ka (flen k) cap] 24)) (Obj.cells #[Value.slice (some ⟨w1.heap.size, 0, none⟩) 1 1] 22)
    rw [e] at h2
    refine ⟨⟨rfl, Or.inr ⟨w1.heap.size + 1, 1, _, rfl, by omega, h2, by simp, by simp [maxLen], rfl, by simp [pdCell]⟩⟩, fun p hp => ?_, by simp, fun q hq => ?_, fun b hb => by simp at hb, ((Below.refl _ _).alloc (Nat.le_refl _) _).alloc (by simp) _, fun w' _ _ hr => ?_⟩
    · have : p = (w1.heap.size, [(s, ka, cap, k)]) := by simpa using hp
      subst this
      refine ⟨Nat.le_refl _, ?_, by simp, fun i hi => ?_⟩
      · rw [Below.heap_alloc _ _ _ (by simp), heap_alloc_new]
        simp [rowCells, itCells]
      · have : i = (s, ka, cap, k) := by simpa using hi
        subst this
        exact ⟨ht1, hs, hsm⟩
    · simp only [Value.ownBlock, Option.some.injEq] at hq
      simp
      omega
    · exact hr (w1.heap.size, [(s, ka, cap, k)]) (by simp)
  have HS := hide hstart
  clear hstart
  go_wp2_with fail
  go_loopg [4] (1 + fnodes k) (fun gk v wr => ∃ (pend : List Pd) (done : List Nat), gk = pTot pend ∧ pTot pend ≤ 200 ∧ OInv 24 22 w1 wr v pend done w1.heap.size (strip (.node 0 0 (s, ka, cap) k .nil)))
  case atStart => exact ⟨_, _, by simp [pTot, itNodes], by simp [pTot, itNodes]; omega, HS.out⟩
  case round =>
    obtain ⟨pend, done, hgk, hpt, hI⟩ := hrel
    rcases List.eq_nil_or_concat pend with hfs | ⟨pend0, t, hfs⟩
    · subst hfs
      obtain ⟨F, hF1, hF2, hF3, hF4⟩ := hI.wand wr hI.below (fun _ _ => rfl) (fun p hp => by simp at hp)
      cases F with
      | nil => simp [strip] at hF2
      | node b' o' x kk r =>
        simp only [strip, BT.node.injEq, Prod.mk.injEq] at hF2
        obtain ⟨_, _, ⟨hx1, _, _⟩, hkk, hr⟩ := hF2
        obtain ⟨hc0', hc1', htin, _⟩ := hF1.head
        rw [hx1] at hc0' htin
        have hbl := hI.below
        have hd0' : wr.cell? ⟨w.heap.size + 1, 0, none⟩ = some (.string ⟨#[]⟩) := by rw [hbl.cell hz1']; exact hd0
        have hd1' : wr.cell? ⟨w.heap.size + 1, 1, none⟩ = some (.slice none 0 0) := by rw [hbl.cell hz1']; exact hd1
        have hf0' : wr.frozen? ⟨w.heap.size + 1, 0, none⟩ = false := by rw [hbl.frozen hz1']; exact hf0
        have hf1' : wr.frozen? ⟨w.heap.size + 1, 1, none⟩ = false := by rw [hbl.frozen hz1']; exact hf1
        have hbF : Below w.heap.size w wr := hbW.trans (hbl.mono (by omega))
        have HK := hide hkk
        have HX := hide hx1
        have hrow := hI.row.2
        simp only [List.length_nil] at hrow
        clear hkk hx1 hr hI hF1
        rcases hrow with ⟨rfl, _⟩ | ⟨g, cap2, cur, rfl, _⟩
        all_goals
          go_wp2_with fail
          refine bodyPost_ret (v := .agg #[.string s, .slice x.2.1 (flen kk) x.2.2]) (by simp [results, Try.results25, go_sem, *]) rfl ⟨x.2.1, x.2.2, kk, rfl, HK.out, ?_, hF3.2.1.mono (by omega), ?_, ?_⟩
          · exact TIn.but (g := w.heap.size + 1) (set2_but _ _ _ _ _ _) (hF3.2.1.off (by omega)) htin
          · exact FPlain.but (g := w.heap.size + 1) (set2_but _ _ _ _ _ _) (hF3.2.1.off (by omega)) hF4.2.1
          · exact (hbF.setCell (by simp) _).setCell (by simp) _
    · rw [List.concat_eq_append] at hfs
      subst hfs
      obtain ⟨g, its⟩ := t
      have hrow := hI.row
      simp only [List.length_append, List.length_cons, List.length_nil] at hrow
      obtain ⟨tg, cap2, rfl, hg1, hg2, hg3, hg4⟩ := own1_form hrow (by omega)
      have hcT : wr.cell? ⟨tg, pend0.length, none⟩ = some (.slice (some ⟨g, 0, none⟩) its.length its.length) := own1_cell hrow _ _ (by simp [pdCell])
      unfold maxLen at hg4
      have HI := hide hI
      have HG := hide hgk
      have hpl := pTot_len _ (fun p hp => (hI.each p hp).pos)
      simp only [List.length_append, List.length_cons, List.length_nil] at hpl
      have hsl : ∀ wx, (Instr.slice 74 (.slice (some ⟨tg, 0, none⟩) (pend0.length + 1) cap2) none (some (.int .i64 (pend0.length : Int))) none).run Try.prog wx = .ok (.slice (some ⟨tg, 0, none⟩) pend0.length cap2) wx := fun wx => by
        rw [run_slice_h wx 74 _ _ _ Try.underlying74 .i64 _ (by omega) (by omega)]
        simp [go_sem, sliced, Addr.add]
      clear hI hgk hrow
      go_wp2_with fail
      go_loopg [4, 32] its.length (fun gk v c wi => ∃ (L : List Ni), c = .int .i64 L.length ∧ gk = its.length - L.length ∧ L.length ≤ its.length ∧ Match (its.take L.length) L ∧ InInv 24 22 w1 wr wi v (pend0 ++ newPd L) g done L (its.drop L.length))
      case atStart => exact ⟨[], rfl, by simp, by simp, trivial, by simpa [newPd] using HI.out.take (Below.refl _ _)⟩
      case round =>
        rename_i wi
        obtain ⟨L, rfl, hgi, hle, hma, hin⟩ := hrel
        have hpg := HI.out.each (g, its) (by simp)
        by_cases hlt : L.length < its.length
        · obtain ⟨it, hit, hdr, htk⟩ := drop_step hlt
          rw [hdr] at hin
          obtain ⟨hr0, hr1, hrf, hgl⟩ := hin.cells
          obtain ⟨hi1, hi2, hi3⟩ := hpg.each it (List.mem_of_getElem? hit)
          have hiz := itNodes_mem (List.mem_of_getElem? hit)
          have hitl := itNodes_len its
          have hpt' := hpt
          rw [pTot_append] at hpt'
          simp only [pTot] at hpt'
          have HIN := hide hin
          have HGI := hide hgi
          have HM := hide hma
          clear hgi hin hma hdr hit
          go_wp2_with fail
          have hbA : Below wr.heap.size wr (wr.alloc (Obj.cells #[Value.string it.1, Value.slice it.2.1 (flen it.2.2.2) it.2.2.1] 24)) := (Below.refl _ _).alloc (Nat.le_refl _) _
          have hbI := HIN.out.below
          refine (ownNode_any it.1 it.2.1 it.2.2.1 it.2.2.2 _ (hi1.below (hbI.trans (hbA.mono hbI.size))) hi2 (by omega)).mono ?_
          rintro e w2 ⟨he, hb2⟩
          have hbB : Below wr.heap.size wr w2 := hbA.trans (hb2.mono (by simp))
          have hin2 := HIN.out.on hbB
          obtain ⟨hs0, hs1, hsf, hgl2⟩ := hin2.cells
          have hn1 : w2.cell? ⟨wr.heap.size, 1, none⟩ = some (.slice it.2.1 (flen it.2.2.2) it.2.2.1) := by (rw [hb2.cell (by simp)]; go_simp)
          have HIN2 := hide hin2
          have hmt := HM.out.tot
          have hit2 := itNodes_take its L.length
          have hplen : (pend0 ++ newPd L).length ≤ 200 := by
            have := pTot_len _ (fun p hp => (HIN.out.each p hp).pos)
            rw [pTot_append] at this
            omega
          have hitl2 : its.length ≤ 200 := by omega
          clear hin2 hmt hit2
          rcases he with ⟨hk0, rfl⟩ | ⟨hk0, g', rfl, hg'1, hg'2⟩
          · have HK := hide hk0
            clear hk0
            have hin3 := HIN2.out.put (it.1, none) rfl
            have HIN3 := hide hin3
            have hm3 := HM.out.snoc (i := it) (n := (it.1, none)) ⟨rfl, Or.inl ⟨HK.out, rfl⟩⟩
            rw [← htk] at hm3
            have HM3 := hide hm3
            clear hin3 hm3
            have hkb : ¬ (0 : Int) < (flen it.2.2.2 : Int) := by have := HK.out; omega
            go_wp2_with fail
            go_roundg (its.length - (L.length + 1))
            case measure => have := HGI.out; omega
            case rel => exact ⟨L ++ [(it.1, none)], by simp, by simp, by simp; omega, by simpa using HM3.out, by simpa [newPd_append, niKids] using HIN3.out⟩
          · have hkb : (0 : Int) < (flen it.2.2.2 : Int) := by omega
            have HG2 := hide hg'2
            have hin3 := HIN2.out.put (w1 := (w2.setCell ⟨g, L.length * 2, none⟩ (.string it.1)).setCell ⟨g, L.length * 2 + 1, none⟩ (.slice (some ⟨g', 0, none⟩) (flen it.2.2.2) (flen it.2.2.2))) (it.1, some (g', itemsF it.2.2.2)) (by simp [niKids, pdCell, itemsF_length])
            have hg'g : g' ≠ g := by simp at hg'1; omega
            have hpd : PdOk w1 ((w2.setCell ⟨g, L.length * 2, none⟩ (.string it.1)).setCell ⟨g, L.length * 2 + 1, none⟩ (.slice (some ⟨g', 0, none⟩) (flen it.2.2.2) (flen it.2.2.2))) 24 (g', itemsF it.2.2.2) := by
              refine ⟨by simp at hg'1 ⊢; have := hbI.size; omega, ?_, by rw [itemsF_length]; omega, fun i hi => ?_⟩
              · rw [Below.heap_setCell _ _ _ _ hg'g, Below.heap_setCell _ _ _ _ hg'g]
                exact HG2.out
              · rcases hi1.kids with hk | ⟨kb, ko, _, hk⟩
                · rw [hk] at hi; simp [itemsF] at hi
                · exact ⟨hk.items i hi, (hi3.items i hi).1, (hi3.items i hi).2⟩
            have hfresh : ¬ g' ∈ (pend0 ++ newPd L).map (·.1) ++ g :: done := fun hm => by
              have hl : g' < wr.heap.size := by
                rcases List.mem_append.1 hm with hm | hm
                · obtain ⟨q, hq, rfl⟩ := List.mem_map.1 hm
                  exact heap_lt (HIN.out.each q hq).row
                · rcases List.mem_cons.1 hm with rfl | hm
                  · exact heap_lt HIN.out.grow
                  · exact HIN.out.lt _ hm
              simp at hg'1
              omega
            have hpv : ∀ q, u4.ownBlock = some q → q ≠ g' := fun q hq e => by
              have := (own1_block HIN.out.row hq).2
              simp at hg'1
              omega
            have hrow3 := hin3.row
            have hm3 := HM.out.snoc (i := it) (n := (it.1, some (g', itemsF it.2.2.2))) ⟨rfl, Or.inr ⟨hk0, g', rfl⟩⟩
            rw [← htk] at hm3
            have HM3 := hide hm3
            have HIN3 := hide hin3
            have HPD := hide hpd
            have HFR := hide hfresh
            have HPV := hide hpv
            have HRW := hide hrow3
            clear hin3 hg'2 hpd hfresh hpv hm3 hrow3
            have hz3 : w1.heap.size ≤ w2.heap.size := by have := hbI.size; have := hbB.size; omega
            go_wp2_with (at_builtin; refine wpList_append_lies _ rfl (.tmp 46) (.tmp 52) 74 rfl w1.heap.size 22 i22 _ 1 24 Try.underlying74 hi22 hy0 hy1 hy2 rfl (by decide) _ (pend0 ++ newPd L).length _ rfl (by exact own1_same HRW.out (fun q hq => Below.heap_alloc _ _ _ (own1_block HRW.out hq).2)) ⟨w2.heap.size, 0, none⟩ 1 1 [.slice (some ⟨g', 0, none⟩) (flen it.2.2.2) (flen it.2.2.2)] rfl rfl (by exact list_news' _ _ _ _ (by simp [World.setCell])) (by intro u hu; simp at hu; subst hu; rfl) (by decide) (by unfold maxLen; omega) (by omega) (by simp [World.setCell]; omega) (w2.heap.size + 1) (by simp [World.setCell]) ?_)
            intro gv cap3 w3 hown hgrow hat hlt3
            have hin4 := HIN3.out.more (gv := gv) (cap := cap3) HPD.out HFR.out HPV.out (by simpa [pdCell, itemsF_length] using hown) hgrow (by simpa [World.setCell] using hat)
            have HIN4 := hide hin4
            clear hin4 hown hgrow hat
            go_wp2_with fail
            go_roundg (its.length - (L.length + 1))
            case measure => have := HGI.out; omega
            case rel =>
              refine ⟨L ++ [(it.1, some (g', itemsF it.2.2.2))], by simp, by simp, by simp; omega, by simpa using HM3.out, ?_⟩
              have := HIN4.out
              simpa [newPd_append, List.append_assoc] using this
        · have hLe : L.length = its.length := by omega
          have hma' := hma
          rw [hLe, List.take_length] at hma'
          rw [hLe, List.drop_length] at hin
          have hfin := hin.finish hma' (fun i hi => ⟨by have := (hpg.each i hi).2.1; unfold maxLen; omega, by have := itNodes_mem hi; have := hpt; rw [pTot_append] at this; simp only [pTot] at this; unfold maxLen; omega⟩) HI.out.wand
          have htt := hma'.tot
          have HF := hide hfin
          clear hfin hin hma hma'
          go_wp2_with fail
          go_roundg (pTot (pend0 ++ newPd L))
          case measure =>
            have := HG.out
            have := hpg.pos
            rw [pTot_append] at *
            simp only [pTot] at *
            omega
          case rel =>
            refine ⟨_, _, rfl, ?_, HF.out⟩
            rw [pTot_append] at *
            simp only [pTot] at *
            omega

end Go.Proofs.Ytafojlockiekfaa
