/- PatchBack of the statements. Of the program's text, by its contracts. -/
/- What a reading of an api.Tree, of a path and of a string says of memory. Of the program's types. -/
import Derived.Test.YtkoohfkomlmhoacDoorProg
import Derived.Test.YtkoohfkomlmhoacDoorKBP32
import Derived.ProofKit
import Derived.Lib.SmallJoins
import Derived.Test.YtkoohfkomlmhoacDoorKBP00
import Derived.Test.YtkoohfkomlmhoacDoorKBP04
namespace Go.Proofs.YtkoohfkomlmhoacDoor.Pat
open Go.Deep Go.RowKit Deed
set_option linter.unusedVariables false
set_option maxRecDepth 20000

theorem join_len (c : UInt8) : ∀ (ps : List (List UInt8)), (∀ p, p ∈ ps → 0 < p.length) → ps.length ≤ (joinP c ps).length
  | [], _ => Nat.zero_le _
  | [p], h => h p (by simp)
  | p :: q :: ps, h => by
    have h1 := h p (by simp)
    have h2 := join_len c (q :: ps) (fun r hr => h r (by simp [hr]))
    simp only [joinP, List.length_append, List.length_cons] at h2 ⊢
    omega
theorem join_part (c : UInt8) : ∀ (ps : List (List UInt8)) (p : List UInt8), p ∈ ps → p.length ≤ (joinP c ps).length
  | [], p, h => by simp at h
  | [q], p, h => by simp at h; rw [h]; exact Nat.le_refl _
  | q :: r :: ps, p, h => by
    rw [joinP, List.length_append, List.length_cons]
    rcases List.mem_cons.1 h with rfl | h
    · omega
    · have := join_part c (r :: ps) p h
      omega
theorem path_long (L : List Int) : L.length ≤ (pathTxt L).length := by
  unfold pathTxt
  split
  · rename_i h; rw [h]; simp
  · have := join_len 46 (L.map Lib.itoa) (fun p hp => by
      obtain ⟨n, _, rfl⟩ := List.mem_map.1 hp
      exact itoa_pos n)
    rwa [List.length_map] at this
theorem line_path {d : Dd} (h : lineC d = 0) : d.path.length ≤ (lineP d).length ∧ d.lab.size ≤ 6 := by
  obtain ⟨h1, h2, h3⟩ := lineC_zero h
  obtain ⟨g1, _, g3, _, _, _, g7, _⟩ := deedFault_zero h1
  refine ⟨?_, ?_⟩
  · have hp := path_long d.path
    have hm : pathTxt d.path ∈ wordsP d := by
      unfold wordsP
      split
      · simp
      · split <;> simp
    have := join_part 32 (wordsP d) _ hm
    rw [h3]
    omega
  · by_cases hk : d.kind = 2
    · rw [g3 hk]
      show (0 : Nat) ≤ 6
      omega
    · exact (labelB_size (g7 hk)).2
/-- What Parse tells is short. -/
theorem parse_small {s : List UInt8} {d : Dd} (h : d ∈ (parseP s).1) : d.path.length ≤ s.length ∧ d.lab.size ≤ 6 := by
  by_cases hz : (parseP s).2 = (0, 0)
  · rcases parse_zero hz with ⟨_, h1⟩ | ⟨h1, h2, h3, h4, h5⟩
    · rw [h1] at h; simp at h
    · rw [h5] at h
      obtain ⟨p, hp, rfl⟩ := List.mem_map.1 h
      obtain ⟨l1, l2⟩ := line_deed (h4 p hp)
      obtain ⟨q1, q2⟩ := line_path l1
      rw [l2] at q1
      have := cut_size 10 s p (List.dropLast_subset _ hp)
      exact ⟨by omega, q2⟩
  · exfalso
    unfold parseP at h hz
    split at h
    · simp at h
    · rename_i h1
      rw [if_neg h1] at hz
      split at h
      · simp at h
      · rename_i h2
        rw [if_neg h2] at hz
        split at h
        · simp at h
        · rename_i h3
          rw [if_neg h3] at hz
          split at h
          · simp at h
          · rename_i h4
            rw [h4] at hz
            exact hz rfl
theorem parse_code {s : List UInt8} (h : (parseP s).2.1 = 0) : (parseP s).2 = (0, 0) := by
  unfold parseP at h ⊢
  split
  · rfl
  · rename_i h1
    rw [if_neg h1] at h
    split
    · rename_i h2; rw [if_pos h2] at h; cases h
    · rename_i h2
      rw [if_neg h2] at h
      split
      · rename_i h3; rw [if_pos h3] at h; cases h
      · rename_i h3
        rw [if_neg h3] at h
        split
        · rename_i c i hb
          rw [hb] at h
          exfalso
          have key : ∀ (l : List (List UInt8)) (k : Nat), firstBad deedC l k = some (c, i) → c ≠ 0 := fun l => by
            induction l with
            | nil => intro k hk; simp [firstBad] at hk
            | cons y l ih =>
              intro k hk
              unfold firstBad at hk
              split at hk
              · rename_i h0
                simp only [Option.some.injEq, Prod.mk.injEq] at hk
                rw [← hk.1]
                exact h0
              · exact ih _ hk
          exact key _ 0 hb h
        · rfl
theorem parse_empty {s : List UInt8} (h : (parseP s).2.1 ≠ 0) : (parseP s).1 = [] := by
  unfold parseP at h ⊢
  split
  · rfl
  · rename_i h1
    rw [if_neg h1] at h
    split
    · rfl
    · rename_i h2
      rw [if_neg h2] at h
      split
      · rfl
      · rename_i h3
        rw [if_neg h3] at h
        split
        · rfl
        · rename_i h4
          rw [h4] at h
          exact absurd rfl h

set_option maxHeartbeats 2000000 in
theorem pback_any (la : Option Addr) (lc : Nat) (L : List Pd) (s : ByteArray) (w : World) (hL : DsIn w la L) (hl : L.length ≤ lc) (hlm0 : lc ≤ maxLen) (hs0 : s.size ≤ maxLen) (ht : Tab w) :
    Calls Tryd.prog 3 #[.slice la L.length lc, .string s] w fun e w' => e = .returned (.bool true) ∧ Below w.heap.size w w' := by
  have hlm := hlm0
  have hsm := hs0
  unfold maxLen at hlm hsm
  have HLL := hide hL
  have HT := hide ht
  have HBG := hide (pbegun_any w ht)
  have HG := hide (fun W' (hb : Below w.heap.size w W') => greatDs_any la lc L W' (HLL.out.below hb) hl hlm0)
  clear hL ht
  go_enter Tryd.func3, Tryd.ntmps3
  go_wp2_with fail
  refine Calls.mono HBG.out ?_
  rintro e w1 ⟨rfl, hb1⟩
  have HB1 := hide hb1
  clear hb1 HBG
  go_wp2_with fail
  refine Calls.mono (HG.out w1 HB1.out) ?_
  rintro e w2 ⟨rfl, hb2⟩
  have HB2 := hide (HB1.out.trans (hb2.mono HB1.out.size))
  clear hb2
  cases hg : greatDs (dds L)
  case true =>
    go_wp2_with fail
    go_ret
    exact ⟨rfl, HB2.out⟩
  obtain ⟨hL100, hLs⟩ := greats_not hg
  have HBL := hide (fun x (hx : x ∈ L) => show x.1.path.length ≤ 10000 ∧ x.1.lab.size ≤ 100000 by
    have := hLs x.1 (List.mem_map.2 ⟨x, hx, rfl⟩)
    omega)
  clear hg hLs
  by_cases h6 : 6000 < s.size
  · go_wp2_with fail
    go_ret
    exact ⟨rfl, HB2.out⟩
  have HPR := hide (pprint_any la lc L w2 (HLL.out.below HB2.out) hl hlm0 (HT.out.below HB2.out) HBL.out)
  go_wp2_with fail
  refine Calls.mono HPR.out ?_
  rintro e w3 ⟨rfl, hb3⟩
  obtain ⟨W4, hW4⟩ : ∃ W4, W4 = w3.alloc (Obj.cells #[.int .i64 (printP (dds L)).2.1, .int .i64 (printP (dds L)).2.2] 26) := ⟨_, rfl⟩
  have b4 : Below w3.heap.size w3 W4 := by rw [hW4]; exact (Below.refl _ _).alloc (Nat.le_refl _) _
  have hbW3 := HB2.out.trans (hb3.mono HB2.out.size)
  have HB4 := hide (hbW3.trans (b4.mono hbW3.size))
  have HW4 := hide hW4
  clear b4 hW4 hb3 hbW3 HPR
  by_cases hpc : (printP (dds L)).2.1 = 0
  · have hpb : ((printP (dds L)).2.1 == 0) = true := beq_iff_eq.2 hpc
    have hpz := print_code hpc
    obtain ⟨z1, z2, z3⟩ := print_zero hpz
    have hsz := text_len (dds L) (fun d hd => ⟨z2 d hd, by
      obtain ⟨x, hx, rfl⟩ := List.mem_map.1 hd
      exact HBL.out x hx⟩)
    rw [← z3] at hsz
    have hsz' : (printP (dds L)).1.length ≤ 26400080 := by
      generalize (dds L).length = n at z1 hsz
      omega
    have HPP := hide (parse_print hpz)
    have hpa := pparse_any (str (printP (dds L)).1) W4 (by rw [str_size]; omega) (HT.out.below HB4.out)
    rw [show (str (printP (dds L)).1).data.toList = (printP (dds L)).1 by simp] at hpa
    unfold DeedsEnd at hpa
    rw [HPP.out] at hpa
    have HPA := hide hpa
    clear hpc hpz z1 z2 z3 hsz hpa
    go_wp2_with fail
    rw [← HW4.out]
    clear HW4
    refine Calls.mono HPA.out ?_
    rintro e w5 ⟨va, vc, A, rfl, hA, hds, hlc, hlm5, hb5⟩
    have hbW5 := HB4.out.trans (hb5.mono HB4.out.size)
    obtain ⟨W6, hW6⟩ : ∃ W6, W6 = w5.alloc (Obj.cells #[.int .i64 0, .int .i64 0] 26) := ⟨_, rfl⟩
    have b6 : Below w5.heap.size w5 W6 := by rw [hW6]; exact (Below.refl _ _).alloc (Nat.le_refl _) _
    have HB6 := hide (hbW5.trans (b6.mono hbW5.size))
    have hsd := sameDs_any va la vc lc A L W6 (hds.below b6) (HLL.out.below HB6.out) hlc hlm5 hl hlm0 (fun x hx => by
      have h1 : x.1 ∈ dds L := by rw [← hA]; exact List.mem_map.2 ⟨x, hx, rfl⟩
      obtain ⟨y, hy, e⟩ := List.mem_map.1 h1
      have := (HBL.out y hy).1
      have e' : y.1 = x.1 := e
      rw [← e']
      omega)
    rw [show eqDds (dds A) (dds L) = true from (eqDds_iff _ _).2 hA] at hsd
    have HSD := hide hsd
    have HW6 := hide hW6
    clear b6 hW6 hbW5 hb5 hds hA hsd
    go_wp2_with fail
    rw [← HW6.out]
    clear HW6
    refine Calls.mono HSD.out ?_
    rintro e w7 ⟨rfl, hb7⟩
    have HB7 := hide (HB6.out.trans (hb7.mono HB6.out.size))
    clear hb7 HSD
    have hpa := pparse_any s w7 (by omega) (HT.out.below HB7.out)
    unfold DeedsEnd at hpa
    have HPA2 := hide hpa
    clear hpa
    go_wp2_with fail
    refine Calls.mono HPA2.out ?_
    rintro e w8 ⟨va8, vc8, A8, rfl, hA8, hds8, hlc8, hlm8, hb8⟩
    have hbW8 := HB7.out.trans (hb8.mono HB7.out.size)
    have hAl8 : A8.length ≤ vc8 := hlc8
    obtain ⟨W9, hW9⟩ : ∃ W9, W9 = w8.alloc (Obj.cells #[.int .i64 (parseP s.data.toList).2.1, .int .i64 (parseP s.data.toList).2.2] 26) := ⟨_, rfl⟩
    have b9 : Below w8.heap.size w8 W9 := by rw [hW9]; exact (Below.refl _ _).alloc (Nat.le_refl _) _
    have HB9 := hide (hbW8.trans (b9.mono hbW8.size))
    have HDS9 := hide (hds8.below b9)
    have HA8 := hide hA8
    have HW9 := hide hW9
    have hlmm := hlm8
    unfold maxLen at hlmm
    clear b9 hW9 hb8 hbW8 hds8 HPA2
    by_cases hqc : (parseP s.data.toList).2.1 = 0
    · have hqb : ((parseP s.data.toList).2.1 != 0) = false := by rw [hqc]; rfl
      have HQZ := hide (print_parse (parse_code hqc))
      have hpr := pprint_any va8 vc8 A8 W9 HDS9.out hlc8 hlm8 (HT.out.below HB9.out) (fun x hx => by
        have h1 : x.1 ∈ (parseP s.data.toList).1 := by rw [← HA8.out]; exact List.mem_map.2 ⟨x, hx, rfl⟩
        have h2 := parse_small h1
        have h3 : s.data.toList.length = s.size := by simp
        omega)
      rw [HA8.out, HQZ.out] at hpr
      have HPR2 := hide hpr
      clear hpr hqc hA8
      go_wp2_with fail
      rw [← HW9.out]
      clear HW9
      refine Calls.mono HPR2.out ?_
      rintro e w10 ⟨rfl, hb10⟩
      have HB10 := hide ((HB9.out.trans (hb10.mono HB9.out.size)).alloc (HB9.out.trans (hb10.mono HB9.out.size)).size (Obj.cells #[.int .i64 0, .int .i64 0] 26))
      have heq : (str s.data.toList) = s := str_self s
      rw [heq]
      clear hb10 HPR2 heq
      go_wp2_with fail
      go_ret
      exact ⟨by simp, HB10.out⟩
    · have hqb : ((parseP s.data.toList).2.1 != 0) = true := by simpa using hqc
      have h0 : A8.length = 0 := by rw [← dds_len, hA8, parse_empty hqc]; rfl
      clear hqc hA8
      go_wp2_with fail
      rw [← HW9.out]
      go_ret
      exact ⟨by simp, HB9.out⟩
  · have hpb : ((printP (dds L)).2.1 == 0) = false := beq_eq_false_iff_ne.2 hpc
    clear hpc
    go_wp2_with fail
    rw [← HW4.out]
    clear HW4
    have hpa := pparse_any s W4 (by omega) (HT.out.below HB4.out)
    unfold DeedsEnd at hpa
    have HPA2 := hide hpa
    clear hpa
    refine Calls.mono HPA2.out ?_
    rintro e w8 ⟨va8, vc8, A8, rfl, hA8, hds8, hlc8, hlm8, hb8⟩
    have hbW8 := HB4.out.trans (hb8.mono HB4.out.size)
    have hAl8 : A8.length ≤ vc8 := hlc8
    obtain ⟨W9, hW9⟩ : ∃ W9, W9 = w8.alloc (Obj.cells #[.int .i64 (parseP s.data.toList).2.1, .int .i64 (parseP s.data.toList).2.2] 26) := ⟨_, rfl⟩
    have b9 : Below w8.heap.size w8 W9 := by rw [hW9]; exact (Below.refl _ _).alloc (Nat.le_refl _) _
    have HB9 := hide (hbW8.trans (b9.mono hbW8.size))
    have HDS9 := hide (hds8.below b9)
    have HA8 := hide hA8
    have HW9 := hide hW9
    have hlmm := hlm8
    unfold maxLen at hlmm
    clear b9 hW9 hb8 hbW8 hds8 HPA2
    by_cases hqc : (parseP s.data.toList).2.1 = 0
    · have hqb : ((parseP s.data.toList).2.1 != 0) = false := by rw [hqc]; rfl
      have HQZ := hide (print_parse (parse_code hqc))
      have hpr := pprint_any va8 vc8 A8 W9 HDS9.out hlc8 hlm8 (HT.out.below HB9.out) (fun x hx => by
        have h1 : x.1 ∈ (parseP s.data.toList).1 := by rw [← HA8.out]; exact List.mem_map.2 ⟨x, hx, rfl⟩
        have h2 := parse_small h1
        have h3 : s.data.toList.length = s.size := by simp
        omega)
      rw [HA8.out, HQZ.out] at hpr
      have HPR2 := hide hpr
      clear hpr hqc hA8
      go_wp2_with fail
      rw [← HW9.out]
      clear HW9
      refine Calls.mono HPR2.out ?_
      rintro e w10 ⟨rfl, hb10⟩
      have HB10 := hide ((HB9.out.trans (hb10.mono HB9.out.size)).alloc (HB9.out.trans (hb10.mono HB9.out.size)).size (Obj.cells #[.int .i64 0, .int .i64 0] 26))
      have heq : (str s.data.toList) = s := str_self s
      rw [heq]
      clear hb10 HPR2 heq
      go_wp2_with fail
      go_ret
      exact ⟨by simp, HB10.out⟩
    · have hqb : ((parseP s.data.toList).2.1 != 0) = true := by simpa using hqc
      have h0 : A8.length = 0 := by rw [← dds_len, hA8, parse_empty hqc]; rfl
      clear hqc hA8
      go_wp2_with fail
      rw [← HW9.out]
      go_ret
      exact ⟨by simp, HB9.out⟩
end Go.Proofs.YtkoohfkomlmhoacDoor.Pat
namespace Go.Proofs.YtkoohfkomlmhoacDoor
open Go.Deep Go.RowKit Go.ChangeShapes Go.WideShapes Go.Joins
open Go.ChangeMaps (open_string)
set_option linter.unusedVariables false
set_option maxRecDepth 20000

theorem Tryd.cellsStr : Tryd.prog.cellsOf 9 = 1 := by kernel_rfl
theorem Tryd.cellsInt : Tryd.prog.cellsOf 3 = 1 := by kernel_rfl

theorem spot_none {w : World} {a : Addr} {v : Value} (h : w.cell? a = some v) : a.spot = none := by
  unfold World.cell? at h
  split at h
  · split at h
    · cases h
    · rename_i hs
      simpa using hs
  · cases h

section
variable {H : Type} {enc : TypeId × Value → H} {w : World} {base : Nat} {spare : Nat → Bool} {held : Bool}

end

end Go.Proofs.YtkoohfkomlmhoacDoor
