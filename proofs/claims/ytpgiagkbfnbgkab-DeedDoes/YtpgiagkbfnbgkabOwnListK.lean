/- OwnList of package pleachingref makes a list of trees anew, in memory of its own. Of the program's text. -/
import Derived.Test.YtpgiagkbfnbgkabProg
import Derived.Test.YtpgiagkbfnbgkabOwnRef
import Derived.Test.YtpgiagkbfnbgkabGrowM
import Derived.Test.YtpgiagkbfnbgkabDeedP
namespace Go.Proofs.Ytpgiagkbfnbgkab.Deed
open Go.Deep Go.RowKit
set_option linter.unusedVariables false
set_option maxRecDepth 20000

theorem bares (L : List It) : ∀ x, x ∈ L.map bareIt → Bare x.2 := fun x hx => by
  obtain ⟨it, _, rfl⟩ := List.mem_map.1 hx
  exact strip_strip _
theorem bares_of {L : List It} {k : Fo} (h : strip (joinF L .nil) = strip k) : L.map bareIt = gsF k := by
  rw [strip_join] at h
  rw [← gs_toFo _ (bares L), h, gs_strip]

/-- What OwnList comes to. -/
def OwnLEnd (l : Gs) (w : World) (e : Ending) (w' : World) : Prop := ∃ va vc L, e = .returned (.slice va (List.length (α := It) L) vc) ∧ KInv 24 w.heap.size w' (.slice va L.length vc) L ∧ L.map bareIt = l ∧ Below w.heap.size w w'

set_option maxHeartbeats 800000 in
theorem ownListK_any (k : Fo) (ka : Option Addr) (cap : Nat) (w : World) (hn : fnodes k < 99999) (hk : KIn w ka k) :
    Calls Try.prog 42 #[.slice ka (flen k) cap] w (OwnLEnd (gsF k) w) := by
  have hlk := flen_le_nodes k
  obtain ⟨i24, hi24, hz0, hz1, hz2⟩ := info_parts Try.infoTree
  go_enter Try.func42, Try.ntmps42
  go_wp2_with fail
  go_loopw [3, 4] (fun v i wr => ∃ (j : Nat) (L : List It), j ≤ flen k ∧ i = .int .i64 j ∧ OwnInv 24 w.heap.size wr k v j L ∧ Below w.heap.size w wr) (fun _ i _ => flen k - (intOf i).toNat)
  case atStart => exact ⟨0, [], Nat.zero_le _, rfl, ⟨rfl, rfl, fun _ h => (by simp at h), List.nodup_nil, rfl, Or.inl ⟨rfl, rfl⟩⟩, Below.refl _ _⟩
  case round =>
    obtain ⟨j, L, hj, rfl, hF, hb⟩ := hrel
    obtain ⟨hcell, hfr⟩ := bcell hb
    by_cases hlt : j < flen k
    · rcases hk with rfl | ⟨kb, ko, rfl, hk⟩
      · exact absurd hlt (Nat.not_lt_zero _)
      obtain ⟨b', o', x, kk, he, hc0, hc1, htin, hbb⟩ := hk.at hlt
      have HE := hide he
      clear he
      have hn2 : fnodes kk < 99999 := by have := fnodes_of_drop HE.out; omega
      go_wp2_with fail
      refine (refOwn_any _ _ _ _ _ hn2 (htin.below hb)).mono ?_
      rintro e w1 ⟨ka', cap', k', rfl, hst, ht1, hfr1, hpl1, hnd1, hb1⟩
      have HST := hide hst
      clear hst
      have hz := Nat.le_trans hb.size hb1.size
      go_wp2_with (at_builtin; refine wpList_append_lies _ rfl (.tmp 11) (.tmp 17) 22 rfl w.heap.size 24 i24 _ 2 40 Try.underlying22 hi24 hz0 hz1 hz2 rfl (by decide) _ j (rowCells L) rfl (ownsRow_below (hF.below hb1).row ((Below.refl _ _).alloc (Nat.le_refl _) _)) ⟨w1.heap.size, 0, none⟩ 1 1 (itCells (x.1, ka', cap', k')) rfl rfl (own_news w1 24 (x.1, ka', cap', k')) (own_one _) (by decide) (by unfold maxLen; omega) (by omega) (by simp; omega) (w1.heap.size + 1) (by simp) ?_)
      intro g cap2 w3 hown hgrow hat hlt3
      have hF3 := hF.step hb1 HE.out HST.out ht1 hpl1 hnd1 hfr1 hb.size hown hgrow hat
      have hb3 : Below w.heap.size w w3 := ((hb.trans (hb1.mono hb.size)).alloc hz _).grown hgrow (by simp; omega) fun q hq => (ownBlock_lt hF.row hq).1
      clear hgrow hown
      go_wp2_with fail
      go_roundw
      case rel => exact ⟨j + 1, _, by omega, by go_num, hF3, hb3⟩
      case measure => simp [intOf]; omega
    · have hje : j = flen k := by omega
      have hL := hF.long
      obtain ⟨va, vc, hv⟩ : ∃ va vc, u3 = .slice va L.length vc := by
        rcases hF.row.2 with ⟨hv, h0⟩ | ⟨g, c, cur, hv, _⟩
        · exact ⟨none, 0, by rw [hv, hL, h0]⟩
        · exact ⟨_, c, by rw [hv, hL]⟩
      subst hv
      have HK := hide (show KInv 24 w.heap.size wr (.slice va L.length vc) L from ⟨hF.each, by have := hF.row; rw [← hL] at this; exact this⟩)
      have ht := hF.told
      rw [fdrop_end j k (by omega)] at ht
      have HS := hide (bares_of ht)
      clear hF hcell hfr ht hje hL
      go_wp2_with fail
      go_ret
      exact ⟨va, vc, L, rfl, HK.out, HS.out, hb⟩
end Go.Proofs.Ytpgiagkbfnbgkab.Deed
