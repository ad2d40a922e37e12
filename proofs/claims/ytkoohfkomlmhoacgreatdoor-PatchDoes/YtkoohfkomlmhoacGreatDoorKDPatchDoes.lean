/- Proved: pleachinglaw.PatchDoes answers true for every list of deeds, every path and every two texts that can be handed in, and what is handed in reads behind the call as it read before; the listed tables of the library start as the program's text lays them, and the card ties them. No condition beside the row's own. -/
import Derived.Test.YtkoohfkomlmhoacGreatDoorRows
import Derived.Test.YtkoohfkomlmhoacGreatDoorTie
import Derived.Test.YtkoohfkomlmhoacGreatDoorCards
import Derived.ProofKit
import Derived.LaidMore
import Derived.Lay
import Derived.Carry
import Derived.SizedLaws
import Derived.SevenTiedAt
import Derived.Deep.DeepHandedRow
import Derived.Test.YtkoohfkomlmhoacGreatDoorKDP36
import Derived.Test.YtkoohfkomlmhoacGreatDoorKDP37
import Derived.Test.YtkoohfkomlmhoacGreatDoorKDPOpen
namespace Go.Proofs.YtkoohfkomlmhoacGreatDoor
open Go.ChangeShapes Go.WideShapes Go.ChangeAt Go.RowKit Go.Deep
open Go.ChangeMaps (open_string)

set_option maxRecDepth 100000 in
theorem patchDoes_lifted (os : Os) (started : os.Started) (H : Type) (enc : TypeId × Value → H) :
    ReturnsInHanded {} Tryz.checked os 3 .any (fun w args => (Rows.patchDoesSpec.pre enc Tryz.prog Tryz.f3 [] false w args ∧ laidMetH Tryz.prog Rows.patchDoesRow.laid w) ∧ sizedMet enc Tryz.prog Tryz.f3 (OpenSpec.ofChange Rows.patchDoesSpec) false w args)
      (Rows.patchDoesSpec.post enc Tryz.prog Tryz.f3 false true false false) := by
  refine returnsInHanded_of_row (s := OpenSpec.ofChange Rows.patchDoesSpec) (F := fun _ _ _ => 0) (laid := Rows.patchDoesRow.laid) (C := Tryz.checked) Tryz.own started (by kernel_rfl) Tryz.func3
    (ChangeSpec.witness_shaped (enc := enc) (C := Tryz.checked) (os := os) (X := fun w _ => laidMetH Tryz.prog Rows.patchDoesRow.laid w) false (World.laidAll Tryz.prog os Rows.patchDoesRow.laid) #[.slice none 0 0, .slice none 0 0, .string ⟨#[]⟩, .string ⟨#[]⟩] 8 (World.laidAll_os _ _ _) (World.shaped_of_ZipB (by kernel_rfl) (by kernel_rfl)) (by kernel_rfl) (by kernel_rfl) (by kernel_rfl) (by rw [MakeChecks.laidMetH_plain _ _ _ (by kernel_rfl)]; exact laidMet_laidAll _ (by kernel_rfl) (by kernel_rfl))) ?_
  intro W base args ds gs before hval0 hW _ _ hsz hLd hSh _
  have hval : ∀ (j : Nat) t v, Tryz.f3.params[j]? = some t → args[j]? = some v → Value.okWide Tryz.prog W .any base t v := hval0
  have hW' := hW
  obtain ⟨p, q, hA0, hV, rfl, hfz, hnd⟩ := hW
  have hA : DataW.TrodAll enc Tryz.prog W 0 (fun _ => true) true Tryz.f3.params.toList args.toList ds p := hA0
  rw [Tryz.params3] at hA hval
  obtain ⟨v0, v1, v2, v3, d0, d1, d2, d3, p0, p1, p2, p3, rfl, rfl, rfl, h0, h1, h2, h3⟩ := trodAll_four hA
  obtain ⟨rfl, rfl⟩ := trodVars_none hV
  have h0k := h0
  have h1k := h1
  have h2k := h2
  have h3k := h3
  obtain ⟨la, L, lc, rfl, hl1, hl2, hL, _⟩ := Deed.open_deeds (hval 0 22 v0 rfl rfl) h0
  obtain ⟨ia, I, ic, rfl, hi1, hi2, hI, hir⟩ := Pat.open_path64 (hval 1 23 v1 rfl rfl) h1
  obtain ⟨s, rfl, hd2, hp2, hs⟩ := open_string Tryz.underlying9 (hval 2 9 v2 rfl rfl) h2
  obtain ⟨t, rfl, hd3, hp3, ht⟩ := open_string Tryz.underlying9 (hval 3 9 v3 rfl rfl) h3
  have hsum : s.size + t.size ≤ maxLen := by
    rw [Tryz.params3] at hsz
    have q1 := sized_string hsz (j := 2) (t := 9) rfl (by rw [hd2]; rfl)
    have q2 := sized_string hsz (j := 3) (t := 9) rfl (by rw [hd3]; rfl)
    have q3 := reachBytes_lt
    have q4 : s.data.toList.length = s.size := by simp
    have q5 : t.data.toList.length = t.size := by simp
    unfold maxLen
    omega
  clear hA0 hval0 hA hval
  refine (Pat.pdoes_any la lc L ia ic I s t W hL hl1 hl2 hI hi1 hi2 hir hs ht hsum (Pat.tab_of (by kernel_rfl) rfl hLd hSh)).mono fun r W' ⟨hr, hB⟩ => ?_
  subst hr
  have hlt0 : ∀ x ∈ p0, x.block < W.heap.size := fun x hx => hW'.lt x (by simp [hx])
  have hlt2 : ∀ x ∈ p2, x.block < W.heap.size := fun x hx => hW'.lt x (by simp [hx])
  have hlt3 : ∀ x ∈ p3, x.block < W.heap.size := fun x hx => hW'.lt x (by simp [hx])
  have hlt1 : ∀ x ∈ p1, x.block < W.heap.size := fun x hx => hW'.lt x (by simp [hx])
  have e1 : ((OpenSpec.ofChange Rows.patchDoesSpec).at fun _ _ _ => 0).fn H ([d0, d1, d2, d3] ++ []) = { results := [.lit (.bool true)], args := [d0, d1, d2, d3] } := rfl
  refine ⟨_, rfl, _, _, _, [], (p0 ++ (p1 ++ (p2 ++ p3))), [], hW', ?_, ?_, ?_, hB.frame _, fun h => by cases h⟩
  · rw [e1]; exact trodAll_mk1 (shut_bool Tryz.underlying4 true)
  · rw [e1]
    exact trodAll_mk4 (Below.trod Tryz.laidOut (by kernel_rfl) (of_decide_eq_true (by kernel_rfl)) h0k hB hlt0) (Below.trod Tryz.laidOut (by kernel_rfl) (of_decide_eq_true (by kernel_rfl)) h1k hB hlt1) (Below.trod Tryz.laidOut (by kernel_rfl) (of_decide_eq_true (by kernel_rfl)) h2k hB hlt2) (Below.trod Tryz.laidOut (by kernel_rfl) (of_decide_eq_true (by kernel_rfl)) h3k hB hlt3)
  · rw [e1]; rfl

theorem patchDoes_row : Rows.PatchDoesSaid :=
  OpenClaim.holds_of_wide 3 Tryz.f3 rfl rfl rfl rfl rfl rfl rfl ⟨rfl, rfl, rfl, rfl, rfl⟩ rfl rfl rfl rfl rfl (by kernel_rfl) Tryz.func3 (by kernel_rfl)
    (of_decide_eq_true (by kernel_rfl)) (by unfold Func.isWrapper; first | (rw [if_pos (by decide +kernel)]; kernel_rfl) | (rw [if_neg (by decide +kernel)]; exact ⟨rfl, rfl⟩))
    (fun os started H enc _ => patchDoes_lifted os started H enc)

set_option maxRecDepth 100000 in
theorem patchDoes_holds : Rows.PatchDoesCardSaid :=
  Claim7.holds_tied_plain_at .later [] Rows.patchDoesCard.laidKinds true Rows.patchDoesCard.stood.harness Rows.patchDoesCard.stood.looks
    patchDoes_row (fun _ h => by cases h) (by kernel_rfl) (fun _ h => by cases h) patchDoes_row_tie rfl ⟨rfl, rfl⟩ (by kernel_rfl) rfl
    (fun f fn hf hfn => by
      obtain rfl : f = 3 := Option.some.inj ((show Tryz.prog.funcNamed Rows.patchDoesRow.func = some 3 by kernel_rfl).symm.trans hf) |>.symm
      obtain rfl : fn = Tryz.f3 := (Option.some.inj (Tryz.func3.symm.trans hfn)).symm
      exact ⟨by kernel_rfl, fun j t ht => by
        rw [Tryz.params3] at ht
        have hm : t ∈ [22, 23, 9, 9] := by simpa using Array.mem_of_getElem? ht
        have hall : ([22, 23, 9, 9].all fun u => !Tryz.prog.wantsStandIn u) = true := by kernel_rfl
        exact (show Tryz.prog.wantsStandIn t = false by simpa using List.all_eq_true.1 hall t hm)⟩)
    (by kernel_rfl)
end Go.Proofs.YtkoohfkomlmhoacGreatDoor
