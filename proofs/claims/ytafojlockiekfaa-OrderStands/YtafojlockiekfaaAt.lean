/- tree.At of a tree that lies in memory and a path that lies there is the node at the path, in new memory, or none. Of the program's text. -/
import Derived.Test.YtafojlockiekfaaProg
import Derived.Test.YtafojlockiekfaaOwn
import Derived.Test.YtafojlockiekfaaAtRef
namespace Go.Proofs.Ytafojlockiekfaa
open Go.Deep Go.RowKit
set_option linter.unusedVariables false
set_option maxRecDepth 20000

/-- What is asked of a tree that is walked through. -/
structure ItOk (w : World) (N : Nat) (i : It) : Prop where
  tin : ItIn w i
  plain : FPlain w i.2.2.2
  nodes : 1 + fnodes i.2.2.2 ≤ N
  label : i.1.size ≤ 1000
  small : SmallF i.2.2.2

theorem ItOk.kid {w : World} {N : Nat} {i : It} (h : ItOk w N i) {j b o : Nat} {x : ByteArray × Option Addr × Nat} {kk r : Fo} (he : fdrop j i.2.2.2 = .node b o x kk r) (ht : TIn w x.1 x.2.1 x.2.2 kk) : ItOk w N (x.1, x.2.1, x.2.2, kk) := by
  have h1 := FPlain.drop j h.plain
  have h2 := smallF_drop j h.small
  have h3 := fnodes_of_drop he
  rw [he] at h1 h2
  exact ⟨ht, h1.2.1, by have := h.nodes; simp only; omega, h2.1, h2.2.1⟩

/-- What At answers. -/
def AtPost (w : World) (i0 : It) (ps : List Int) (e : Ending) (w' : World) : Prop :=
  (atT i0 ps = none ∧ e = .returned (.tuple #[.agg #[.string ⟨#[]⟩, .slice none 0 0], .bool false])) ∨
  (∃ i ka' cap' k', atT i0 ps = some i ∧ e = .returned (.tuple #[.agg #[.string i.1, .slice ka' (flen k') cap'], .bool true]) ∧ strip k' = strip i.2.2.2 ∧ TIn w' i.1 ka' cap' k' ∧ FPlain w' k' ∧ ItOk w 200 i)

set_option maxHeartbeats 800000 in
theorem at_any (i0 : It) (ps : List Int) (pa : Option Addr) (pcap : Nat) (w : World) (ht : ItOk w 200 i0) (hps : PIn w pa ps) (hl : ps.length ≤ pcap) (hc : pcap ≤ maxLen) :
    Calls Try.prog 15 #[.agg #[.string i0.1, .slice i0.2.1 (flen i0.2.2.2) i0.2.2.1], .slice pa ps.length pcap] w fun e w' => AtPost w i0 ps e w' ∧ Below w.heap.size w w' := by
  have hbox : Below w.heap.size w ((w.alloc (Obj.cells #[Value.string i0.1, Value.slice i0.2.1 (flen i0.2.2.2) i0.2.2.1] 24)).alloc (Obj.cells #[Value.string ⟨#[]⟩, Value.slice none 0 0] 24)) :=
    ((Below.refl _ _).alloc (Nat.le_refl _) _).alloc (by simp) _
  unfold maxLen at hc
  go_enter Try.func15, Try.ntmps15
  go_wp2_with fail
  go_loopw [10] (fun c wr => ∃ (j : Nat) (i : It), j ≤ ps.length ∧ c = .int .i64 j ∧ Hid (atT i0 ps = atT i (ps.drop j)) ∧ ItOk w 200 i ∧ wr.cell? ⟨w.heap.size, 0, none⟩ = some (.string i.1) ∧ wr.cell? ⟨w.heap.size, 1, none⟩ = some (.slice i.2.1 (flen i.2.2.2) i.2.2.1) ∧
      wr.cell? ⟨w.heap.size + 1, 0, none⟩ = some (.string ⟨#[]⟩) ∧ wr.cell? ⟨w.heap.size + 1, 1, none⟩ = some (.slice none 0 0) ∧ (∀ o, wr.frozen? ⟨w.heap.size, o, none⟩ = false) ∧ (∀ o, wr.frozen? ⟨w.heap.size + 1, o, none⟩ = false) ∧ Below w.heap.size w wr) (fun c _ => ps.length - (intOf c).toNat)
  case atStart =>
    refine ⟨0, i0, Nat.zero_le _, rfl, rfl, ht, ?_, ?_, ?_, ?_, ?_, ?_, hbox⟩
    · go_simp
    · go_simp
    · go_simp
    · go_simp
    · intro o; go_simp
    · intro o; go_simp
  case round =>
    obtain ⟨j, i, hj, rfl, hat, hi, hc0, hc1, hd0, hd1, hf0, hf1, hb⟩ := hrel
    by_cases hlt : j < ps.length
    · rcases hps with hps | ⟨pb, po, rfl, hps⟩
      · rw [hps] at hlt; simp at hlt
      have hpj := hps j _ (List.getElem?_eq_getElem hlt)
      have hpb := World.block_lt_of_cell? _ _ hpj
      have hpj' : wr.cell? ⟨pb, po + j, none⟩ = some (.int .i64 ps[j]) := by rw [hb.cell hpb]; exact hpj
      have hdr : ps.drop j = ps[j] :: ps.drop (j + 1) := List.drop_eq_getElem_cons hlt
      have hat' := hat.out
      rw [hdr] at hat'
      generalize ps[j] = p at *
      have HAT := hide hat'
      clear hat hat' hdr hpj hps
      by_cases h0 : p < 0
      · go_wp2_with fail
        refine bodyPost_ret (v := .tuple #[.agg #[.string ⟨#[]⟩, .slice none 0 0], .bool false]) (by simp [results, Try.results15, go_sem, *]) rfl ⟨Or.inl ⟨?_, rfl⟩, (hb.setCell (by simp) _).setCell (by simp) _⟩
        rw [HAT.out, atT_out (by omega)]
      by_cases h1 : (flen i.2.2.2 : Int) ≤ p
      · go_wp2_with fail
        refine bodyPost_ret (v := .tuple #[.agg #[.string ⟨#[]⟩, .slice none 0 0], .bool false]) (by simp [results, Try.results15, go_sem, *]) rfl ⟨Or.inl ⟨?_, rfl⟩, (hb.setCell (by simp) _).setCell (by simp) _⟩
        rw [HAT.out, atT_out (by omega)]
      obtain ⟨q, rfl⟩ := Int.eq_ofNat_of_zero_le (show 0 ≤ p by omega)
      have hql : q < flen i.2.2.2 := by omega
      obtain ⟨is, ia, ic, ik⟩ := i
      simp only at hql hc0 hc1 h1
      have hkk := hi.tin.kids
      simp only at hkk
      rcases hkk with hk | ⟨kb, ko, rfl, hk⟩
      · rw [hk] at hql; simp [flen] at hql
      obtain ⟨b', o', x, kk, he, he0, he1, htin, hbb⟩ := hk.at hql
      have he0' : wr.cell? ⟨kb, ko + q * 2, none⟩ = some (.string x.1) := by rw [hb.cell hbb]; exact he0
      have he1' : wr.cell? ⟨kb, ko + q * 2 + 1, none⟩ = some (.slice x.2.1 (flen kk) x.2.2) := by rw [hb.cell hbb]; exact he1
      have hi2 := hi.kid he htin
      have HAT2 := hide (HAT.out.trans (atT_in (s := is) (ka := some ⟨kb, ko, none⟩) (cap := ic) (ps := ps.drop (j + 1)) hql he))
      clear he he0 he1
      have hkn : kb ≠ w.heap.size := by omega
      go_wp2_with fail
      go_roundw
      case rel =>
        refine ⟨j + 1, _, by omega, by go_num, HAT2.out, hi2, ?_, ?_, ?_, ?_, ?_, ?_, (hb.setCell (by simp) _).setCell (by simp) _⟩
        · go_simp
        · go_simp
        · go_simp
        · go_simp
        · intro o; go_simp
        · intro o; go_simp
      case measure => simp [intOf]; omega
    · have hat' := hat.out
      rw [List.drop_of_length_le (by omega)] at hat'
      have HAT := hide hat'
      clear hat hat'
      have hz := hb.size
      have hbr := World.block_lt_of_cell? _ _ hd0
      go_wp2_with fail
      refine (own_any i.1 i.2.1 i.2.2.1 i.2.2.2 wr (hi.tin.below hb) (hi.plain.below hb) hi.nodes hi.label hi.small).mono ?_
      rintro e w2 ⟨ka', cap', k', rfl, hst, ht2, hff, hpl, hb2⟩
      have hd0' : w2.cell? ⟨w.heap.size + 1, 0, none⟩ = some (.string ⟨#[]⟩) := by rw [hb2.cell hbr]; exact hd0
      have hd1' : w2.cell? ⟨w.heap.size + 1, 1, none⟩ = some (.slice none 0 0) := by rw [hb2.cell hbr]; exact hd1
      have hf0' : ∀ o, w2.frozen? ⟨w.heap.size + 1, o, none⟩ = false := fun o => by rw [hb2.frozen hbr]; exact hf1 o
      have HST := hide hst
      clear hst hf1 hf0
      go_wp2_with fail
      refine bodyPost_ret (v := .tuple #[.agg #[.string i.1, .slice ka' (flen k') cap'], .bool true]) (by simp [results, Try.results15, go_sem, *]) rfl ⟨Or.inr ⟨i, ka', cap', k', HAT.out, rfl, HST.out, ?_, ?_, hi⟩, ?_⟩
      · exact TIn.but (g := w.heap.size + 1) (set2_but _ _ _ _ _ _) (hff.off hbr) ht2
      · exact FPlain.but (g := w.heap.size + 1) (set2_but _ _ _ _ _ _) (hff.off hbr) hpl
      · exact ((hb.trans (hb2.mono hz)).setCell (by simp) _).setCell (by simp) _

end Go.Proofs.Ytafojlockiekfaa
