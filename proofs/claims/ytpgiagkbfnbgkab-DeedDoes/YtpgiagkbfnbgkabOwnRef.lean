/- Own and OwnList of package pleachingref make, of trees that lie in memory, the same trees in new memory. Of the program's text. -/
import Derived.Test.YtpgiagkbfnbgkabProg
import Derived.Test.YtpgiagkbfnbgkabRef
import Derived.Test.YtpgiagkbfnbgkabFo2
import Derived.Test.YtpgiagkbfnbgkabOwnInv
import Derived.Deep.RegionHeld3
namespace Go.Proofs.Ytpgiagkbfnbgkab
open Go.Deep Go.RowKit
set_option linter.unusedVariables false
set_option maxRecDepth 20000

theorem Try.infoTree : (Try.prog.info? 24).map (fun i => (i.zero, i.size, i.bytes)) = some (some (.agg #[.string ⟨#[]⟩, .slice none 0 0]), 2, 40) := by kernel_rfl

/-- What is asked of OwnList at a list of trees. -/
def OwnAt (k : Fo) : Prop := ∀ (ka : Option Addr) (cap : Nat) (w : World), KIn w ka k →
    Calls Try.prog 42 #[.slice ka (flen k) cap] w fun e w' => ∃ ka' cap' k', e = .returned (.slice ka' (flen k') cap') ∧ strip k' = strip k ∧ flen k' ≤ cap' ∧ cap' ≤ maxLen ∧ KIn w' ka' k' ∧ FFrom w.heap.size k' ∧ FPlain w' k' ∧ (ab k').Nodup ∧ Below w.heap.size w w'

theorem set2_but (w : World) (g o1 o2 : Nat) (u1 u2 : Value) : ∀ b, b < w.heap.size → b ≠ g → ((w.setCell ⟨g, o1, none⟩ u1).setCell ⟨g, o2, none⟩ u2).heap[b]? = w.heap[b]? := by
  intro b _ hb
  rw [Below.heap_setCell _ _ _ _ hb, Below.heap_setCell _ _ _ _ hb]

set_option maxHeartbeats 800000 in
theorem own_of (k : Fo) (h : OwnAt k) (s : ByteArray) (ka : Option Addr) (cap : Nat) (w : World) (ht : TIn w s ka cap k) :
    Calls Try.prog 19 #[.agg #[.string s, .slice ka (flen k) cap]] w fun e w' => ∃ ka' cap' k', e = .returned (.agg #[.string s, .slice ka' (flen k') cap']) ∧ strip k' = strip k ∧ TIn w' s ka' cap' k' ∧ FFrom w.heap.size k' ∧ FPlain w' k' ∧ (ab k').Nodup ∧ Below w.heap.size w w' := by
  have hbox : Below w.heap.size w ((w.alloc (Obj.cells #[Value.string s, Value.slice ka (flen k) cap] 24)).alloc (Obj.cells #[Value.string ⟨#[]⟩, Value.slice none 0 0] 24)) :=
    ((Below.refl _ _).alloc (Nat.le_refl _) _).alloc (by simp) _
  have hk := ht.kids.below hbox.drew
  have HA := hide h
  clear h
  go_enter Try.func19, Try.ntmps19
  go_wp2_with fail
  go_region_held3 (fun w' => w'.cell? ⟨w.heap.size, 0, none⟩ = some (.string s) ∧ w'.cell? ⟨w.heap.size, 1, none⟩ = some (.slice ka (flen k) cap))
    (refine ⟨?_, ?_⟩ <;> go_simp)
    ((go_at_call 42; refine (HA.out _ _ _ hk).mono ?_; rintro e w1 ⟨ka', cap', k', rfl, hst, hl', hc', hk', hfr', hpl', hnd', hb1⟩; have HST := hide hst; clear hst; have hc0 : w1.cell? ⟨w.heap.size, 0, none⟩ = some (.string s) := by (rw [hb1.cell (by simp <;> omega)]; go_simp)
      have hc1 : w1.cell? ⟨w.heap.size, 1, none⟩ = some (.slice ka (flen k) cap) := by (rw [hb1.cell (by simp <;> omega)]; go_simp)
      have hd0 : w1.cell? ⟨w.heap.size + 1, 0, none⟩ = some (.string ⟨#[]⟩) := by (rw [hb1.cell (by simp <;> omega)]; go_simp)
      have hd1 : w1.cell? ⟨w.heap.size + 1, 1, none⟩ = some (.slice none 0 0) := by (rw [hb1.cell (by simp <;> omega)]; go_simp)
      have hf0 : w1.frozen? ⟨w.heap.size + 1, 0, none⟩ = false := by (rw [hb1.frozen (by simp <;> omega)]; go_simp)
      have hf1 : w1.frozen? ⟨w.heap.size + 1, 1, none⟩ = false := by (rw [hb1.frozen (by simp <;> omega)]; go_simp)))
  go_wp2_with fail
  refine bodyPost_ret (v := .agg #[.string s, .slice ka' (flen k') cap']) (by simp [results, Try.results19, go_sem, *]) rfl ⟨ka', cap', k', rfl, HST.out, ?_, hfr'.mono (by simp <;> omega), ?_, hnd', ?_⟩
  · exact TIn.but (g := w.heap.size + 1) (set2_but _ _ _ _ _ _) (hfr'.off (by simp)) ⟨ht.size, hl', hc', hk'⟩
  · exact FPlain.but (g := w.heap.size + 1) (set2_but _ _ _ _ _ _) (hfr'.off (by simp)) hpl'
  · exact ((hbox.drew.trans (hb1.mono (by simp <;> omega))).setCell (by simp) _).setCell (by simp) _

set_option maxHeartbeats 800000 in
theorem ownList_N : ∀ (N : Nat) (k : Fo), fnodes k < N → N ≤ 100000 → OwnAt k := by
  intro N
  induction N with
  | zero => intro k hN; exact absurd hN (Nat.not_lt_zero _)
  | succ N ih =>
    intro k hN hN1 ka cap w hk
    have HI := hide ih; clear ih
    have hlk := flen_le_nodes k
    obtain ⟨i24, hi24, hz0, hz1, hz2⟩ := info_parts Try.infoTree
    go_enter Try.func42, Try.ntmps42
    go_wp2_with fail
    go_loopw [3, 4] (fun v i wr => ∃ (j : Nat) (L : List It), j ≤ flen k ∧ i = .int .i64 j ∧ OwnInv 24 w.heap.size wr k v j L ∧ Below w.heap.size w wr) (fun _ i _ => flen k - (intOf i).toNat)
    case atStart => exact ⟨0, [], Nat.zero_le _, rfl, ⟨rfl, rfl, fun _ h => (by simp at h), List.nodup_nil, rfl, Or.inl ⟨rfl, rfl⟩⟩, Below.refl _ _⟩
    case round =>
      obtain ⟨j, L, hj, rfl, hF, hb⟩ := hrel
      obtain ⟨hcell, hfr⟩ := bcell hb
      by_cases hlt : j < flen k
      · rcases hk with rfl | ⟨kb, ko, rfl, hk⟩
        · exact absurd hlt (Nat.not_lt_zero _)
        obtain ⟨b', o', x, kk, he, hc0, hc1, htin, hbb⟩ := hk.at hlt
        have HE := hide he
        clear he
        have hn : fnodes kk < N := by have := fnodes_of_drop HE.out; omega
        go_wp2_with fail
        refine (own_of _ (HI.out _ hn (by omega)) _ _ _ _ (htin.below hb)).mono ?_
        rintro e w1 ⟨ka', cap', k', rfl, hst, ht1, hfr1, hpl1, hnd1, hb1⟩
        have HST := hide hst
        clear hst
        have hz := Nat.le_trans hb.size hb1.size
        go_wp2_with (at_builtin; refine wpList_append_lies _ rfl (.tmp 11) (.tmp 17) 22 rfl w.heap.size 24 i24 _ 2 40 Try.underlying22 hi24 hz0 hz1 hz2 rfl (by decide) _ j (rowCells L) rfl (ownsRow_below (hF.below hb1).row ((Below.refl _ _).alloc (Nat.le_refl _) _)) ⟨w1.heap.size, 0, none⟩ 1 1 (itCells (x.1, ka', cap', k')) rfl rfl (own_news w1 24 (x.1, ka', cap', k')) (own_one _) (by decide) (by unfold maxLen; omega) (by omega) (by simp; omega) (w1.heap.size + 1) (by simp) ?_)
        intro g cap2 w3 hown hgrow hat hlt3
        have hF3 := hF.step hb1 HE.out HST.out ht1 hpl1 hnd1 hfr1 hb.size hown hgrow hat
        have hb3 : Below w.heap.size w w3 := ((hb.trans (hb1.mono hb.size)).alloc hz _).grown hgrow (by simp; omega) fun q hq => (ownBlock_lt hF.row hq).1
        clear hgrow hown
        go_wp2_with fail
        go_roundw
        case rel => exact ⟨j + 1, _, by omega, by go_num, hF3, hb3⟩
        case measure => simp [intOf]; omega
      · obtain ⟨ka2, cap2, k2, rfl, h1, h2, h3, h4, h5, h6, h7⟩ := hF.done (by omega)
        have HST := hide h1
        clear h1
        go_wp2_with fail
        go_ret
        exact ⟨ka2, cap2, k2, rfl, HST.out, h2, h3, h4, h5, h6, h7, hb⟩

theorem ownList_any (k : Fo) (h : fnodes k < 99999) : OwnAt k := ownList_N _ k (Nat.lt_succ_self _) (by omega)

theorem refOwn_any (s : ByteArray) (ka : Option Addr) (cap : Nat) (k : Fo) (w : World) (h : fnodes k < 99999) (ht : TIn w s ka cap k) :
    Calls Try.prog 19 #[.agg #[.string s, .slice ka (flen k) cap]] w fun e w' => ∃ ka' cap' k', e = .returned (.agg #[.string s, .slice ka' (flen k') cap']) ∧ strip k' = strip k ∧ TIn w' s ka' cap' k' ∧ FFrom w.heap.size k' ∧ FPlain w' k' ∧ (ab k').Nodup ∧ Below w.heap.size w w' :=
  own_of k (ownList_any k h) s ka cap w ht

end Go.Proofs.Ytpgiagkbfnbgkab
