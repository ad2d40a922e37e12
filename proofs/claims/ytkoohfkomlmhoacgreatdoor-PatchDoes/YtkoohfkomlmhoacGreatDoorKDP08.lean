/- PathText of package pleachingref: the text of a path. Of the program's text. -/
/- What the library's searches in a text and its numbers come to, by pieces and short numbers: bytes and numbers alone. Of no program. -/
import Derived.Test.YtkoohfkomlmhoacGreatDoorProg
import Derived.Test.YtkoohfkomlmhoacGreatDoorShelf
import Derived.Lib.AppendIntMem
import Derived.Lib.ItoaLen
import Derived.Deep.LoopGhost
import Derived.WalkSmall
import Derived.Test.YtkoohfkomlmhoacGreatDoorKDP07
import Derived.Lib.SplitLaws
import Derived.Lib.Strings
import Derived.Lib.Bytealg
import Derived.Lib.Join
import Derived.Lib.AtoiAll
import Derived.Test.YtkoohfkomlmhoacGreatDoorKDP03
namespace Go.Proofs.YtkoohfkomlmhoacGreatDoor.Pat
open Go.Deep Go.RowKit Deed
set_option linter.unusedVariables false
set_option maxRecDepth 20000

/-- The library's variables lie where they are read: the powers of ten as laid, a number, and two that are whatever errors. -/
structure Tab (w : World) : Prop where
  pow : Lib.TabIs Tryz.prog w "internal/strconv.uint64pow10" .u64 Lib.pow10Tab
  most : ∃ m, w.cell? ⟨0, 0, none⟩ = some (.int .i64 m)
  bad : ∃ ev, w.cell? ⟨1, 0, none⟩ = some ev ∧ (ev = .nilIface ∨ ∃ te pe, ev = .iface te pe)
  far : ∃ ev, w.cell? ⟨2, 0, none⟩ = some ev ∧ (ev = .nilIface ∨ ∃ te pe, ev = .iface te pe)
theorem pow_below {w w' : World} (h : Lib.TabIs Tryz.prog w "internal/strconv.uint64pow10" .u64 Lib.pow10Tab) (hb : Below w.heap.size w w') : Lib.TabIs Tryz.prog w' "internal/strconv.uint64pow10" .u64 Lib.pow10Tab := by
  unfold Lib.TabIs World.var? at *
  cases hg : Tryz.prog.globalNamed "internal/strconv.uint64pow10" with
  | none => simp [hg] at h
  | some g =>
    simp only [hg, Option.bind_some] at h ⊢
    have hlt : g < w.heap.size := by
      rcases Nat.lt_or_ge g w.heap.size with h1 | h1
      · exact h1
      · rw [Array.getElem?_eq_none h1] at h
        cases h
    rw [hb.block g hlt]
    exact h
theorem Tab.below {w w' : World} (h : Tab w) (hb : Below w.heap.size w w') : Tab w' := by
  obtain ⟨h1, ⟨m, h2⟩, ⟨e, h3, h4⟩, ⟨f, h5, h6⟩⟩ := h
  exact ⟨pow_below h1 hb, ⟨m, by rw [hb.cell (World.block_lt_of_cell? _ _ h2)]; exact h2⟩, ⟨e, by rw [hb.cell (World.block_lt_of_cell? _ _ h3)]; exact h3, h4⟩, ⟨f, by rw [hb.cell (World.block_lt_of_cell? _ _ h5)]; exact h5, h6⟩⟩
/-- An int of 64 bits. -/
def In64 (n : Int) : Prop := -9223372036854775808 ≤ n ∧ n ≤ 9223372036854775807
theorem itoa_any (n : Int) (hn : In64 n) (w : World) (ht : Tab w) :
    Calls Tryz.prog 37 #[.int .i64 n] w fun e w' => e = .returned (.string (str (Lib.itoa n))) ∧ Below w.heap.size w w' := by
  refine (Tryz.strconv_Itoa n hn.1 hn.2 w ht.pow).mono ?_
  rintro e w' ⟨rfl, k, os, rfl⟩
  exact ⟨rfl, Lib.below_grow _ _ (Nat.le_refl _) _ _⟩
/-- The numbers ahead of one, with dots behind each but the last. -/
def dotted (L : List Int) : List UInt8 := joinP 46 (L.map Lib.itoa)
theorem join_snoc (c : UInt8) : ∀ (ps : List (List UInt8)) (p : List UInt8), ps ≠ [] → joinP c (ps ++ [p]) = joinP c ps ++ c :: p
  | [], p, h => absurd rfl h
  | [q], p, _ => rfl
  | q :: r :: ps, p, _ => by
    have ih := join_snoc c (r :: ps) p (by simp)
    simp only [List.cons_append] at ih ⊢
    rw [joinP, joinP, ih]
    simp
theorem dotted_len (L : List Int) (h : ∀ n, n ∈ L → In64 n) : (dotted L).length ≤ L.length * 22 := by
  have key : ∀ ps : List (List UInt8), (∀ p, p ∈ ps → p.length ≤ 21) → (joinP 46 ps).length ≤ ps.length * 22 := fun ps => by
    induction ps with
    | nil => intro _; simp [joinP]
    | cons p ps ih =>
      intro hp
      have h1 := hp p (by simp)
      have h2 := ih (fun q hq => hp q (by simp [hq]))
      cases ps with
      | nil => simp only [joinP, List.length_cons, List.length_nil]; omega
      | cons q qs =>
        simp only [joinP, List.length_append, List.length_cons] at h2 ⊢
        omega
  have := key (L.map Lib.itoa) (fun p hp => by
    obtain ⟨n, hn, rfl⟩ := List.mem_map.1 hp
    exact Lib.itoa_length_le n (h n hn).1 (h n hn).2)
  rwa [List.length_map] at this
theorem itoa_pos (n : Int) : 0 < (Lib.itoa n).length := by
  unfold Lib.itoa
  split
  · simp
  · exact List.length_pos_iff.2 (dec_ne _)
theorem dotted_ne {L : List Int} (h : L ≠ []) : 0 < (dotted L).length := by
  unfold dotted
  match L, h with
  | [a], _ => simp only [List.map_cons, List.map_nil, joinP]; exact itoa_pos a
  | a :: b :: l, _ => simp only [List.map_cons, joinP, List.length_append, List.length_cons]; omega

set_option maxHeartbeats 1000000 in
theorem pathText_any (la : Option Addr) (lc : Nat) (L : List Int) (w : World) (hL : PIn w la L) (hl : L.length ≤ 10000) (hr : ∀ n, n ∈ L → In64 n) (ht : Tab w) :
    Calls Tryz.prog 16 #[.slice la L.length lc] w fun e w' => e = .returned (.string (str (pathTxt L))) ∧ Below w.heap.size w w' := by
  have HT := hide ht
  have HR := hide hr
  clear ht hr
  go_enter Tryz.func16, Tryz.ntmps16
  go_wp2_with fail
  go_loopg [3, 4] L.length (fun gk v3 v4 wr => ∃ i : Nat, gk = L.length - i ∧ i ≤ L.length ∧ v4 = .int .i64 (i : Nat) ∧ v3 = .string (str (dotted (L.take i))) ∧ Below w.heap.size w wr)
  case atStart => exact ⟨0, rfl, Nat.zero_le _, rfl, rfl, Below.refl _ _⟩
  case round =>
    obtain ⟨i, hgk, hi, rfl, rfl, hbr⟩ := hrel
    have hsz := dotted_len (L.take i) (fun n hn => HR.out n (List.mem_of_mem_take hn))
    rw [List.length_take, Nat.min_eq_left hi] at hsz
    by_cases hlt : i < L.length
    · obtain ⟨x, hx⟩ : ∃ x, L[i]? = some x := ⟨_, List.getElem?_eq_getElem hlt⟩
      rcases hL with hL | ⟨b, o, rfl, hL⟩
      · rw [hL] at hlt; simp at hlt
      have x0 := hL i x hx
      have hbl : b < w.heap.size := World.block_lt_of_cell? _ _ x0
      have x0' : wr.cell? ⟨b, o + i, none⟩ = some (.int .i64 x) := by rw [hbr.cell hbl]; exact x0
      have hxr := HR.out x (List.mem_of_getElem? hx)
      have hxl := Lib.itoa_length_le x hxr.1 hxr.2
      have HI := hide (itoa_any x hxr wr (HT.out.below hbr))
      have htk : L.take (i + 1) = L.take i ++ [x] := by
        rw [List.take_succ_eq_append_getElem hlt]
        congr 2
        rw [List.getElem?_eq_getElem hlt] at hx
        exact Option.some.inj hx
      have HD := hide (show dotted (L.take (i + 1)) = (if i = 0 then Lib.itoa x else dotted (L.take i) ++ 46 :: Lib.itoa x) by
        rw [htk]
        split
        · rename_i h0
          subst h0
          rfl
        · rename_i h0
          unfold dotted
          rw [List.map_append, List.map_cons, List.map_nil, join_snoc 46 _ _ (fun e => by
            have := congrArg List.length e
            rw [List.length_map, List.length_take, List.length_nil] at this
            omega)])
      clear x0 hL hx hxr htk
      by_cases hi0 : i = 0
      · rw [if_pos hi0] at HD
        have HZ := hide (show dotted (L.take i) = [] by rw [hi0]; rfl)
        have hip : ¬ (0 : Int) < (i : Int) := by omega
        clear hi0
        go_wp2_with fail
        refine HI.out.mono ?_
        rintro e w1 ⟨rfl, hb1⟩
        have hb2 := hbr.trans (hb1.mono hbr.size)
        go_wp2_with fail
        go_roundg (L.length - (i + 1))
        case measure => omega
        case rel =>
          refine ⟨i + 1, rfl, by omega, by go_num, ?_, hb2⟩
          rw [HD.out, str_append, HZ.out]
          rfl
      · rw [if_neg hi0] at HD
        have hip : (0 : Int) < (i : Int) := by omega
        clear hi0
        go_wp2_with fail
        refine HI.out.mono ?_
        rintro e w1 ⟨rfl, hb1⟩
        have hb2 := hbr.trans (hb1.mono hbr.size)
        go_wp2_with fail
        go_roundg (L.length - (i + 1))
        case measure => omega
        case rel =>
          refine ⟨i + 1, rfl, by omega, by go_num, ?_, hb2⟩
          rw [HD.out, show (⟨#[46]⟩ : ByteArray) = str [46] from rfl, str_append, str_append]
          simp
    · have hiL : i = L.length := by omega
      rw [hiL, List.take_length]
      clear hsz
      by_cases h0 : L = []
      · have HP := hide (show pathTxt L = [45] by unfold pathTxt; rw [if_pos h0])
        have hne : (dotted L).isEmpty = true := by rw [h0]; rfl
        clear h0
        go_wp2_with fail
        go_ret
        exact ⟨by rw [HP.out]; rfl, hbr⟩
      · have HP := hide (show pathTxt L = dotted L by unfold pathTxt; rw [if_neg h0]; rfl)
        have hne : (dotted L).isEmpty = false := by
          have h1 := dotted_ne h0
          cases hd : dotted L with
          | nil => rw [hd] at h1; simp at h1
          | cons a b => rfl
        clear h0
        go_wp2_with fail
        go_ret
        exact ⟨by rw [HP.out]; rfl, hbr⟩
end Go.Proofs.YtkoohfkomlmhoacGreatDoor.Pat
namespace Go.Proofs.YtkoohfkomlmhoacGreatDoor.Pat
open Go.Deep Go.RowKit Deed
set_option linter.unusedVariables false
set_option maxRecDepth 20000

theorem index_cons (c b : UInt8) (l : List UInt8) : Lib.index (b :: l) [c] = if b = c then 0 else if Lib.index l [c] = -1 then -1 else Lib.index l [c] + 1 := by
  by_cases h : b = c
  · subst h
    rw [if_pos rfl, Lib.index]
    simp [List.isPrefixOf]
  · have hp : ([c] : List UInt8).isPrefixOf (b :: l) = false := by simp [List.isPrefixOf, Ne.symm h]
    rw [if_neg h, Lib.index, hp]
    simp
/-- Where a byte stands first, and what the pieces are then. -/
theorem index_one (c : UInt8) : ∀ l : List UInt8, (c ∉ l ∧ Lib.index l [c] = -1 ∧ cutP c l = [l]) ∨ (∃ p r, l = p ++ c :: r ∧ c ∉ p ∧ Lib.index l [c] = ((p.length : Nat) : Int) ∧ cutP c l = p :: cutP c r)
  | [] => Or.inl ⟨by simp, by simp [Lib.index], rfl⟩
  | b :: l => by
    by_cases h : b = c
    · exact Or.inr ⟨[], l, by rw [h]; rfl, by simp, by rw [index_cons, if_pos h]; rfl, by rw [cutP, if_pos h]⟩
    · rcases index_one c l with ⟨h1, h2, h3⟩ | ⟨p, r, h1, h2, h3, h4⟩
      · refine Or.inl ⟨fun hm => ?_, by rw [index_cons, if_neg h, if_pos h2], by rw [cutP, if_neg h, h3]⟩
        rcases List.mem_cons.1 hm with e | hm
        · exact h e.symm
        · exact h1 hm
      · refine Or.inr ⟨b :: p, r, by rw [h1]; rfl, fun hm => ?_, ?_, by rw [cutP, if_neg h, h4]⟩
        · rcases List.mem_cons.1 hm with e | hm
          · exact h e.symm
          · exact h2 hm
        · rw [index_cons, if_neg h, if_neg (by omega), h3, List.length_cons]
          omega
/-- strings.Cut at one byte. -/
theorem cut_one (c : UInt8) (l : List UInt8) : (c ∉ l ∧ Lib.cut l [c] = (l, [], false) ∧ cutP c l = [l]) ∨ (∃ p r, l = p ++ c :: r ∧ c ∉ p ∧ Lib.cut l [c] = (p, r, true) ∧ cutP c l = p :: cutP c r) := by
  rcases index_one c l with ⟨h1, h2, h3⟩ | ⟨p, r, h1, h2, h3, h4⟩
  · exact Or.inl ⟨h1, by unfold Lib.cut; rw [h2, if_neg (by omega)], h3⟩
  · refine Or.inr ⟨p, r, h1, h2, ?_, h4⟩
    unfold Lib.cut
    rw [h3, if_pos (by omega), Int.toNat_natCast, h1]
    simp
/-- strings.SplitN at one byte: the pieces, or one more than that number of cuts. -/
theorem split_one (c : UInt8) : ∀ (k : Nat) (l : List UInt8), (Lib.splitK [c] 0 k l).length = min (k + 1) (cutP c l).length ∧ ((cutP c l).length ≤ k + 1 → Lib.splitK [c] 0 k l = cutP c l)
  | 0, l => by
    have hne := cutP_ne c l
    have hl : 0 < (cutP c l).length := List.length_pos_iff.2 hne
    refine ⟨by simp only [Lib.splitK, List.length_cons, List.length_nil]; omega, fun h => ?_⟩
    rcases index_one c l with ⟨_, _, h3⟩ | ⟨p, r, _, _, _, h4⟩
    · rw [h3]; rfl
    · rw [h4, List.length_cons] at h
      have := List.length_pos_iff.2 (cutP_ne c r)
      omega
  | k + 1, l => by
    rcases index_one c l with ⟨_, h2, h3⟩ | ⟨p, r, h1, _, h3, h4⟩
    · rw [Lib.splitK, if_pos (beq_iff_eq.2 h2), h3]
      exact ⟨by simp only [List.length_cons, List.length_nil]; omega, fun _ => rfl⟩
    · obtain ⟨q1, q2⟩ := split_one c k r
      have e : Lib.splitK [c] 0 (k + 1) l = p :: Lib.splitK [c] 0 k r := by
        rw [Lib.splitK, if_neg (by simp only [beq_iff_eq]; omega), h3, Int.toNat_natCast, h1]
        simp
      rw [e, h4]
      refine ⟨by simp only [List.length_cons, q1]; omega, fun h => ?_⟩
      rw [q2 (by simp only [List.length_cons] at h; omega)]
theorem cut_count (c : UInt8) : ∀ l : List UInt8, (cutP c l).length = l.count c + 1
  | [] => rfl
  | b :: l => by
    have ih := cut_count c l
    unfold cutP
    by_cases h : b = c
    · rw [if_pos h, List.length_cons, ih, h]; simp
    · rw [if_neg h, List.count_cons_of_ne (by simpa using h), ← ih]
      split
      · rename_i h0; exact absurd h0 (cutP_ne c l)
      · rename_i p ps h0; rw [h0]; rfl
theorem last_cons (p : List UInt8) {ps : List (List UInt8)} (h : ps ≠ []) : (p :: ps).getLastD [] = ps.getLastD [] := by
  cases ps with
  | nil => exact absurd rfl h
  | cons a b => simp
theorem cut_last (c : UInt8) : ∀ l : List UInt8, l ≠ [] → ((cutP c l).getLastD [] = [] ↔ Lib.hasSuffix l [c] = true)
  | [], h => absurd rfl h
  | [b], _ => by
    unfold Lib.hasSuffix
    by_cases h : b = c
    · subst h; simp [cutP]
    · simp [cutP, h, List.isSuffixOf, List.isPrefixOf, Ne.symm h]
  | b :: d :: l, _ => by
    have ih := cut_last c (d :: l) (by simp)
    have hs : Lib.hasSuffix (b :: d :: l) [c] = Lib.hasSuffix (d :: l) [c] := by
      unfold Lib.hasSuffix
      rw [Bool.eq_iff_iff, List.isSuffixOf_iff_suffix, List.isSuffixOf_iff_suffix]
      constructor
      · rintro ⟨t, ht⟩
        cases t with
        | nil => simp at ht
        | cons a t =>
          injection ht with h1 h2
          exact ⟨t, h2⟩
      · rintro ⟨t, ht⟩
        exact ⟨b :: t, by rw [List.cons_append, ht]⟩
    rw [hs, ← ih, cutP]
    by_cases h : b = c
    · rw [if_pos h, last_cons _ (cutP_ne _ _)]
    · rw [if_neg h]
      cases hc : cutP c (d :: l) with
      | nil => exact absurd hc (cutP_ne _ _)
      | cons q qs =>
        simp only
        cases qs with
        | nil =>
          -- the one piece is the whole rest
          have hq : q = d :: l := by
            have := join_cut c (d :: l)
            rw [hc] at this
            exact this
          simp [hq]
        | cons a e => rw [last_cons (b :: q) (ps := a :: e) (by simp), last_cons q (ps := a :: e) (by simp)]
theorem join_is (c : UInt8) : ∀ ps : List (List UInt8), Lib.join ps [c] = joinP c ps
  | [] => rfl
  | [p] => by rw [Lib.join_one]; rfl
  | p :: q :: ps => by
    have ih := join_is c (q :: ps)
    unfold Lib.join at ih ⊢
    rw [joinP, ← ih]
    simp [List.intercalate, List.intersperse]
/-- A short number is read as it is. -/
theorem atoi_num_fin : ∀ n : Fin 1000, Lib.atoiAll (Lib.decDigits n.val) = .ok (n.val : Int) := by
  intro n
  by_cases h1 : n.val < 10
  · rw [Lib.decDigits_one h1]
    have : ∀ m : Fin 10, Lib.atoiAll [UInt8.ofNat (48 + m.val)] = .ok (m.val : Int) := by decide +kernel
    exact this ⟨n.val, h1⟩
  · by_cases h2 : n.val < 100
    · rw [Lib.decDigits_two h1 h2]
      have : ∀ m : Fin 100, ¬ m.val < 10 → Lib.atoiAll [UInt8.ofNat (48 + m.val / 10), UInt8.ofNat (48 + m.val % 10)] = .ok (m.val : Int) := by decide +kernel
      exact this ⟨n.val, h2⟩ h1
    · rw [Lib.decDigits, dif_neg h1, Lib.decDigits_two (by omega) (by omega)]
      have : ∀ m : Fin 1000, ¬ m.val < 100 → Lib.atoiAll ([UInt8.ofNat (48 + m.val / 10 / 10), UInt8.ofNat (48 + m.val / 10 % 10)] ++ [UInt8.ofNat (48 + m.val % 10)]) = .ok (m.val : Int) := by decide +kernel
      exact this n h2
theorem atoi_few {s : List UInt8} {n : Nat} (h : fewP s = some n) : Lib.atoiAll s = .ok (n : Int) ∧ n ≤ 999 ∧ Lib.itoa (n : Int) = s := by
  obtain ⟨h1, h2⟩ := few_is h
  have := atoi_num_fin ⟨n, by omega⟩
  simp only at this
  rw [h2] at this
  exact ⟨this, h1, by rw [Lib.itoa_nonneg, h2]⟩
theorem few_atoi {s : List UInt8} {v : Int} (h0 : 0 ≤ v) (h9 : v ≤ 999) (hi : Lib.itoa v = s) : fewP s = some v.toNat := by
  have e : v = (v.toNat : Int) := by omega
  rw [e, Lib.itoa_nonneg] at hi
  rw [← hi]
  exact few_num (by omega)
theorem few_not {s : List UInt8} (h : ∀ v : Int, Lib.atoiAll s = .ok v → ¬ (0 ≤ v ∧ v ≤ 999 ∧ Lib.itoa v = s)) : fewP s = none := by
  cases hf : fewP s with
  | none => rfl
  | some n =>
    obtain ⟨h1, h2, h3⟩ := atoi_few hf
    exact absurd ⟨by omega, by omega, h3⟩ (h _ h1)
end Go.Proofs.YtkoohfkomlmhoacGreatDoor.Pat
