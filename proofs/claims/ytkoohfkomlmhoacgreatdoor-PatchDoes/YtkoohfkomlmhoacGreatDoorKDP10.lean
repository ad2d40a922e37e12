/- Lists that are put behind each other: what append comes to where the other list lies in memory, or is empty. Of no program. -/
/- cut of package pleachingref: a text, where a byte stands. Of the program's text. -/
import Derived.Laws.OwnMore
import Derived.Lib.AppendZeros
import Derived.Test.YtkoohfkomlmhoacGreatDoorKDP06
import Derived.Test.YtkoohfkomlmhoacGreatDoorProg
import Derived.Deep.LoopGhost
import Derived.Deep.AppendLies
import Derived.WalkSmall
import Derived.Test.YtkoohfkomlmhoacGreatDoorKDP09
namespace Go.Proofs.YtkoohfkomlmhoacGreatDoor.Deed
open Go.Deep Go.RowKit
set_option linter.unusedVariables false
set_option maxRecDepth 20000

/-- A list to be read: where, how long, its capacity, its cells. -/
structure Src where
  a : Option Addr
  n : Nat
  c : Nat
  xs : List Value
def Src.val (s : Src) : Value := .slice s.a s.n s.c
structure SrcIn (w : World) (size : Nat) (s : Src) : Prop where
  len : s.xs.length = s.n * size
  one : ∀ u ∈ s.xs, u.oneCell' = true
  lie : s.n = 0 ∨ ∃ ad, s.a = some ad ∧ ∀ j u, s.xs[j]? = some u → w.cell? (ad.add j) = some u
theorem SrcIn.below {w w' : World} {size : Nat} {s : Src} (h : SrcIn w size s) (hb : Below w.heap.size w w') : SrcIn w' size s := by
  refine ⟨h.len, h.one, ?_⟩
  rcases h.lie with h0 | ⟨ad, e, h0⟩
  · exact Or.inl h0
  · refine Or.inr ⟨ad, e, fun j u hu => ?_⟩
    have h1 := h0 j u hu
    rw [hb.cell (World.block_lt_of_cell? _ _ h1)]
    exact h1
def tot : List Src → Nat
  | [] => 0
  | s :: l => s.n + tot l
theorem tot_append : ∀ (a b : List Src), tot (a ++ b) = tot a + tot b
  | [], b => by simp [tot]
  | s :: a, b => by simp [tot, tot_append a b]; omega
theorem tot_take (l : List Src) (i : Nat) : tot (l.take i) ≤ tot l := by
  have := tot_append (l.take i) (l.drop i)
  rw [List.take_append_drop] at this
  omega

theorem wrap_sum (a b : Nat) (h : a + b ≤ 1000000) : wrap64 ((a : Int) + (b : Int)) = ((a + b : Nat) : Int) := by
  unfold wrap64
  omega
theorem append_none0 {P : Program} {w : World} (base : Nat) (t ty e : TypeId) (i : TypeInfo) (size : Nat) (ht : P.underlying t = some (.slice e)) (hi : P.info? e = some i)
    (v : Value) (n : Nat) (xs : List Value) (hown : w.ownsRow base e size v n xs) (c : Nat) :
    (Builtin.append_ #[t, t] ty #[v, .slice none 0 c]).run P w = .ok v w := by
  rcases hown.2 with ⟨rfl, rfl⟩ | ⟨g, cap, cur, rfl, _, _, hnc, _⟩
  · simp [Builtin.append_, run_underlying ht, sizeOf, typeInfo, hi, Builtin.lenOf, Builtin.firstCells]
  · simp [Builtin.append_, run_underlying ht, sizeOf, typeInfo, hi, Builtin.lenOf, Builtin.firstCells, hnc, storeCells]

theorem append_src {P : Program} (w : World) (t e : TypeId) (i : TypeInfo) (z : Value) (size bytes : Nat) (ht : P.underlying t = some (.slice e)) (hi : P.info? e = some i) (hz : i.zero = some z)
    (hsize : i.size = size) (hby : i.bytes = bytes) (hzs : z.cells.size = size) (hsz : 0 < size) {B n vc : Nat} {va : Option Addr} {xs : List Value} (hown : w.ownsRow B e size (.slice va n vc) n xs) {s : Src} (hs : SrcIn w size s) (h63 : n + s.n ≤ maxLen) (hbytes : (n + s.n) * bytes ≤ 140737488355328) (hB : B ≤ w.heap.size) :
    ∃ va' vc' w', (Builtin.append_ #[t, t] t #[.slice va n vc, s.val]).run P w = .ok (.slice va' (n + s.n) vc') w' ∧ w'.ownsRow B e size (.slice va' (n + s.n) vc') (n + s.n) (xs ++ s.xs) ∧ Below B w w' := by
  obtain ⟨a, m, c, ys⟩ := s
  obtain ⟨hlen, hone, hlie⟩ := hs
  simp only at hlen hone hlie h63 hbytes
  have hb : ∀ k, (Value.slice va n vc).ownBlock = some k → B ≤ k := fun k hk => (ownBlockN_lt hown hk).1
  cases a with
  | none =>
    have h0 : m = 0 := by
      rcases hlie with h0 | ⟨ad, e, _⟩
      · exact h0
      · cases e
    subst h0
    have : ys = [] := List.length_eq_zero_iff.1 (by simpa using hlen)
    subst this
    refine ⟨va, vc, w, append_none0 B t t e i size ht hi _ n xs hown c, by simpa using hown, Below.refl _ _⟩
  | some ad =>
    obtain ⟨v', w', hr, hown', hgrow, _, _⟩ := run_append_own_at (P := P) w B t t e i z size bytes ht hi hz hsize hby hzs hsz (.slice va n vc) n xs hown ad m c ys hlen (fun j u hu => by
      rcases hlie with h0 | ⟨ad', e, h0⟩
      · subst h0
        have : ys = [] := List.length_eq_zero_iff.1 (by simpa using hlen)
        subst this
        simp at hu
      · injection e with e
        subst e
        exact h0 j u hu) hone h63 hbytes hB
    obtain ⟨va', vc', rfl, _, _⟩ := ownsN_form hown'
    exact ⟨va', vc', w', hr, hown', (Below.refl _ _).grown hgrow hB hb⟩

/-- A row that has room, and nothing in it yet. -/
theorem owns_fresh {w : World} {B e size g cap : Nat} {cur : Array Value} (hB : B ≤ g) (hg : w.heap[g]? = some (.cells cur e (0, 0))) (hc : cap ≤ maxLen) (hs : cur.size = cap * size) : w.ownsRow B e size (.slice (some ⟨g, 0, none⟩) 0 cap) 0 [] :=
  ⟨by simp, Or.inr ⟨g, cap, cur, rfl, hB, hg, Nat.zero_le _, hc, hs, by simp⟩⟩

end Go.Proofs.YtkoohfkomlmhoacGreatDoor.Deed
namespace Go.Proofs.YtkoohfkomlmhoacGreatDoor.Pat
open Go.Deep Go.RowKit Deed
set_option linter.unusedVariables false
set_option maxRecDepth 20000

/-- Pieces of text as cells. -/
def txCells (ps : List (List UInt8)) : List Value := ps.map fun p => Value.string (str p)
theorem txCells_append (a b : List (List UInt8)) : txCells (a ++ b) = txCells a ++ txCells b := by simp [txCells]
theorem Tryz.infoStr : (Tryz.prog.info? 9).map (fun i => (i.zero, i.size, i.bytes)) = some (some (.string ⟨#[]⟩), 1, 16) := by kernel_rfl
theorem own_new1 {w : World} {B e g : Nat} {u : Value} (hB : B ≤ g) (hg : w.heap[g]? = some (.cells #[u] e (0, 0))) : w.ownsRow B e 1 (.slice (some ⟨g, 0, none⟩) 1 1) 1 [u] :=
  ⟨rfl, Or.inr ⟨g, 1, #[u], rfl, hB, hg, Nat.le_refl _, by unfold maxLen; omega, rfl, rfl⟩⟩
theorem str_news (w : World) (T : TypeId) (x : ByteArray) (j : Nat) (u : Value) (h : ([Value.string x] : List Value)[j]? = some u) : (w.alloc (Obj.cells #[.string x] T)).cell? ((⟨w.heap.size, 0, none⟩ : Addr).add j) = some u := by
  refine World.news_of_block (cs := #[.string x]) (t := T) (fr := (0, 0)) ?_ j u h
  show (w.heap.push _)[w.heap.size]? = _
  simp
theorem cut_len (c : UInt8) : ∀ l, (cutP c l).length ≤ l.length + 1
  | [] => Nat.le_refl _
  | x :: l => by
    have ih := cut_len c l
    unfold cutP
    split
    · simp only [List.length_cons]; omega
    · split
      · simp
      · rename_i p ps h
        rw [h] at ih
        simp only [List.length_cons] at ih ⊢
        omega
theorem cut_size (c : UInt8) : ∀ l, ∀ p, p ∈ cutP c l → p.length ≤ l.length
  | [], p, h => by simp [cutP] at h; simp [h]
  | x :: l, p, h => by
    have ih := cut_size c l
    unfold cutP at h
    split at h
    · rcases List.mem_cons.1 h with rfl | h
      · simp
      · have := ih p h
        simp only [List.length_cons]; omega
    · split at h
      · rename_i hc
        exact absurd hc (cutP_ne c l)
      · rename_i q qs hc
        rw [hc] at ih
        rcases List.mem_cons.1 h with rfl | h
        · have := ih q (by simp)
          simp only [List.length_cons]; omega
        · have := ih p (by simp [h])
          simp only [List.length_cons]; omega
theorem ext_one (s : ByteArray) (i : Nat) (h : i < s.size) : s.extract i (i + 1) = str [s[i]] := by
  apply ByteArray.ext
  apply Array.ext'
  simp only [ByteArray.data_extract, Array.toList_extract, List.extract_eq_take_drop]
  rw [show i + 1 - i = 1 by omega]
  rw [List.drop_eq_getElem_cons (by simpa using h)]
  rfl
theorem set_last : ∀ (P : List (List UInt8)) (z : List UInt8), 0 < P.length → (txCells P).set (P.length - 1) (.string (str z)) = txCells (P.dropLast ++ [z])
  | [], z, h => by simp at h
  | [p], z, _ => rfl
  | p :: q :: P, z, _ => by
    have ih := set_last (q :: P) z (by simp)
    simp only [txCells, List.map_cons, List.length_cons, Nat.add_sub_cancel] at ih ⊢
    rw [List.set_cons_succ, ih]
    rfl

set_option maxHeartbeats 2000000 in
theorem cut_any (s : ByteArray) (c : UInt8) (w : World) (hs : s.size ≤ 100000000) :
    Calls Tryz.prog 34 #[.string s, .int .u8 (c.toNat : Int)] w fun e w' => ∃ va vc, e = .returned (.slice va (cutP c s.data.toList).length vc) ∧ w'.ownsRow w.heap.size 9 1 (.slice va (cutP c s.data.toList).length vc) (cutP c s.data.toList).length (txCells (cutP c s.data.toList)) ∧ Below w.heap.size w w' := by
  obtain ⟨iS, hiS, hi0, hi1, hi2⟩ := info_parts Tryz.infoStr
  obtain ⟨W, hW⟩ : ∃ W, W = w.alloc (Obj.cells #[Value.string ⟨#[]⟩] 9) := ⟨_, rfl⟩
  have hrow : W.ownsRow w.heap.size 9 1 (.slice (some ⟨w.heap.size, 0, none⟩) 1 1) 1 (txCells (cutP c [])) := own_new1 (Nat.le_refl _) (by rw [hW]; exact heap_alloc_new _ _)
  have hB : Below w.heap.size w W := by rw [hW]; exact (Below.refl _ _).alloc (Nat.le_refl _) _
  have HR := hide hrow
  have HB := hide hB
  clear hrow hB
  go_enter Tryz.func34, Tryz.ntmps34
  go_wp2_with fail
  rw [← hW]
  clear hW
  go_loopg [5, 6] s.size (fun gk v5 v6 wr => ∃ (i g vc : Nat), gk = s.size - i ∧ i ≤ s.size ∧ v6 = .int .i64 (i : Nat) ∧ v5 = .slice (some ⟨g, 0, none⟩) (cutP c (s.data.toList.take i)).length vc ∧ Hid (wr.ownsRow w.heap.size 9 1 (.slice (some ⟨g, 0, none⟩) (cutP c (s.data.toList.take i)).length vc) (cutP c (s.data.toList.take i)).length (txCells (cutP c (s.data.toList.take i)))) ∧ Below w.heap.size w wr)
  case atStart => exact ⟨0, w.heap.size, 1, rfl, Nat.zero_le _, rfl, rfl, HR.out, HB.out⟩
  case round =>
    obtain ⟨i, g, vc, hgk, hi, rfl, rfl, hrow, hbr⟩ := hrel
    have hsd : s.data.size = s.size := rfl
    obtain ⟨P, hP⟩ : ∃ P, P = cutP c (s.data.toList.take i) := ⟨_, rfl⟩
    have hlen : P.length ≤ i + 1 := by
      have := cut_len c (s.data.toList.take i)
      rw [List.length_take, ← hP] at this
      omega
    have hpos : 0 < P.length := by rw [hP]; exact List.length_pos_iff.2 (cutP_ne _ _)
    rw [← hP] at hrow ⊢
    have HP := hide hP
    clear hP
    by_cases hlt : i < s.size
    · have hsn := cut_snoc c s[i] (s.data.toList.take i)
      rw [← take_one s i hlt, ← HP.out] at hsn
      have HS := hide hsn
      clear hsn
      by_cases hc : s[i] = c
      · have hcb : ((s[i].toNat : Int) == (c.toNat : Int)) = true := beq_iff_eq.2 (by rw [hc])
        have HQ := hide (show cutP c (s.data.toList.take (i + 1)) = P ++ [[]] by rw [HS.out]; unfold snocP; rw [if_pos hc])
        clear hc
        go_wp2_with (at_builtin; refine wpList_append_lies _ rfl (.tmp 19) (.tmp 20) 70 rfl w.heap.size 9 iS _ 1 16 Tryz.underlying70 hiS hi0 hi1 hi2 rfl (by decide) _ P.length _ rfl (ownsN_below hrow.out ((Below.refl _ _).alloc (Nat.le_refl _) _)) ⟨wr.heap.size, 0, none⟩ 1 1 [Value.string ⟨#[]⟩] rfl rfl (str_news wr 9 ⟨#[]⟩) (by simp [Value.oneCell']) (by decide) (by unfold maxLen; omega) (by omega) (by have := hbr.size; simp; omega) (wr.heap.size + 1) (by simp) ?_)
        intro g6 cap6 w3 hown6 hgrow6 hat6 hlt6
        have hb3 : Below w.heap.size w w3 := by
          have h1 := hbr.alloc hbr.size (Obj.cells #[Value.string ⟨#[]⟩] 9)
          exact h1.grown hgrow6 h1.size fun k hk => (ownBlockN_lt hrow.out hk).1
        have HN := hide hown6
        clear hown6 hgrow6 hat6
        go_wp2_with fail
        go_roundg (s.size - (i + 1))
        case measure => omega
        case rel =>
          refine ⟨i + 1, g6, cap6, rfl, by omega, by go_num, by rw [HQ.out]; simp, ?_, hb3⟩
          rw [HQ.out, txCells_append, List.length_append]
          exact HN.out
      · have hcb : ((s[i].toNat : Int) == (c.toNat : Int)) = false := beq_eq_false_iff_ne.2 (fun e => hc (UInt8.toNat_inj.1 (by omega)))
        have HQ := hide (show cutP c (s.data.toList.take (i + 1)) = P.dropLast ++ [P.getLastD [] ++ [s[i]]] by rw [HS.out]; unfold snocP; rw [if_neg hc])
        clear hc
        have hl1 : ((P.length : Int) - 1) = ((P.length - 1 : Nat) : Int) := by omega
        have hlast : (txCells P)[P.length - 1]? = some (.string (str (P.getLastD []))) := by
          unfold txCells
          rw [List.getElem?_map, List.getLastD_eq_getLast?, List.getLast?_eq_getElem?]
          rw [List.getElem?_eq_getElem (by omega)]
          rfl
        have hcell : wr.cell? ⟨g, P.length - 1, none⟩ = some (.string (str (P.getLastD []))) := by
          have := ownsRow_cell hrow.out (P.length - 1) _ hlast
          simpa using this
        have hfr : wr.frozen? ⟨g, P.length - 1, none⟩ = false := own_frozen hrow.out _
        have hsz : (P.getLastD []).length ≤ i := by
          have h1 := cut_size c (s.data.toList.take i) (P.getLastD []) (by
            rw [← HP.out, List.getLastD_eq_getLast?, List.getLast?_eq_getElem?, List.getElem?_eq_getElem (by omega)]
            exact List.getElem_mem _)
          rw [List.length_take] at h1
          omega
        clear hlast
        generalize P.getLastD [] = Z at *
        go_wp2_with fail
        go_region
        go_wp2_with fail
        go_roundg (s.size - (i + 1))
        case measure => omega
        case rel =>
          refine ⟨i + 1, g, vc, rfl, by omega, by go_num, ?_, ?_, ?_⟩
          · rw [HQ.out]
            simp
            omega
          · show World.ownsRow _ _ _ _ _ _ _
            rw [HQ.out, List.length_append, List.length_dropLast, show P.length - 1 + [Z ++ [s[i]]].length = P.length by simp; omega]
            have h1 := own_setN (Value.string (str Z ++ s.extract i (i + 1))) hrow.out (j := P.length - 1) (by omega)
            rw [ext_one s i hlt, str_append, set_last P (Z ++ [s[i]]) hpos] at h1
            rw [ext_one s i hlt, str_append]
            exact ownsN_below h1 (Below.refl _ _).drew
          · exact (hbr.setCell (p := ⟨g, P.length - 1, none⟩) (ownBlockN_lt hrow.out (g := g) rfl).1 _).drew
    · have hiL : i = s.size := by omega
      have HE := hide (show P = cutP c s.data.toList by rw [HP.out, List.take_of_length_le (by simp; omega)])
      go_wp2_with fail
      go_ret
      rw [← HE.out]
      exact ⟨_, _, rfl, hrow.out, hbr⟩
end Go.Proofs.YtkoohfkomlmhoacGreatDoor.Pat
