/- Lists of deeds that lie in memory. Of no program. -/
/- slices.Grow and slices.Concat at lists of deeds. Of the program's text. -/
/- Own and OwnList of package pleachingref make, of trees that lie in memory, the same trees in new memory. Of the program's text. -/
import Derived.Test.YtcknganggcbkjabGS05
import Derived.Test.YtcknganggcbkjabGS02
import Derived.Test.YtcknganggcbkjabProg
import Derived.Deep.LoopGhost
import Derived.WalkSmall
import Derived.Test.YtcknganggcbkjabGS03
import Derived.Test.YtcknganggcbkjabGS00
import Derived.Test.YtcknganggcbkjabZOwnInv
import Derived.Deep.RegionHeld3
namespace Go.Proofs.Ytcknganggcbkjab.Deed
open Go.Deep Go.RowKit
set_option linter.unusedVariables false
set_option maxRecDepth 20000

/-- A deed, and where its path lies. -/
abbrev Pd := Dd × Option Addr × Nat
def pdCell (x : Pd) : List Value := [.int .i64 x.1.kind, .slice x.2.1 x.1.path.length x.2.2, .int .i64 x.1.pos, .int .i64 x.1.many, .string x.1.lab]
def pdCells : List Pd → List Value
  | [] => []
  | x :: l => pdCell x ++ pdCells l
def dds (L : List Pd) : List Dd := L.map (·.1)
theorem dds_len (L : List Pd) : (dds L).length = L.length := by simp [dds]
theorem dds_at {L : List Pd} {i : Nat} {x : Pd} (h : L[i]? = some x) : (dds L)[i]? = some x.1 := by simp [dds, h]
theorem dds_append (a b : List Pd) : dds (a ++ b) = dds a ++ dds b := by simp [dds]
theorem dds_rev (a : List Pd) : dds a.reverse = (dds a).reverse := by simp [dds]
theorem pdCells_length : ∀ l, (pdCells l).length = l.length * 5
  | [] => rfl
  | x :: l => by simp [pdCells, pdCell, pdCells_length l]; omega
theorem pdCells_append : ∀ a b, pdCells (a ++ b) = pdCells a ++ pdCells b
  | [], b => rfl
  | x :: a, b => by simp [pdCells, pdCells_append a b]
theorem pdCells_at : ∀ (l : List Pd) (i : Nat) (x : Pd), l[i]? = some x → ∀ (j : Nat), j < 5 → (pdCells l)[i * 5 + j]? = (pdCell x)[j]?
  | [], i, x, h, j, hj => by simp at h
  | a :: l, 0, x, h, j, hj => by
    simp at h
    subst h
    simp only [pdCells]
    rw [List.getElem?_append_left (by simp [pdCell]; omega)]
    congr 1
    omega
  | a :: l, i + 1, x, h, j, hj => by
    have := pdCells_at l i x (by simpa using h) j hj
    simp only [pdCells]
    rw [List.getElem?_append_right (by simp [pdCell]; omega), ← this]
    congr 1
    simp [pdCell]
    omega
theorem pdCell_one (x : Pd) (u : Value) (h : u ∈ pdCell x) : u.oneCell' = true := by
  simp only [pdCell, List.mem_cons, List.not_mem_nil, or_false] at h
  rcases h with rfl | rfl | rfl | rfl | rfl <;> rfl
theorem pdCells_one : ∀ (l : List Pd) (u : Value), u ∈ pdCells l → u.oneCell' = true
  | [], u, h => by simp [pdCells] at h
  | x :: l, u, h => by
    simp only [pdCells, List.mem_append] at h
    rcases h with h | h
    · exact pdCell_one x u h
    · exact pdCells_one l u h
/-- What stands at a place, by its element. -/
theorem pdCells_set (l : List Pd) (i : Nat) (x : Pd) (hi : i < l.length) : pdCells (l.set i x) = (((((pdCells l).set (i * 5) (.int .i64 x.1.kind)).set (i * 5 + 1) (.slice x.2.1 x.1.path.length x.2.2)).set (i * 5 + 2) (.int .i64 x.1.pos)).set (i * 5 + 3) (.int .i64 x.1.many)).set (i * 5 + 4) (.string x.1.lab) := by
  induction l generalizing i with
  | nil => simp at hi
  | cons a l ih =>
    cases i with
    | zero => simp [pdCells, pdCell]
    | succ i =>
      have := ih i (by simpa using hi)
      simp only [List.set_cons_succ, pdCells, this]
      have e : ∀ j u (L : List Value), (pdCell a ++ L).set ((i + 1) * 5 + j) u = pdCell a ++ L.set (i * 5 + j) u := fun j u L => by
        rw [List.set_append_right _ _ (by simp [pdCell]; omega)]
        congr 2
        simp [pdCell]
        omega
      have e0 : ∀ u (L : List Value), (pdCell a ++ L).set ((i + 1) * 5) u = pdCell a ++ L.set (i * 5) u := fun u L => e 0 u L
      rw [e0, e, e, e, e]

/-- Each deed's path lies in memory. -/
def PdsIn (w : World) (L : List Pd) : Prop := ∀ x, x ∈ L → DIn w x.1 x.2.1 x.2.2
theorem PdsIn.below {w w' : World} {L : List Pd} (h : PdsIn w L) (hb : Below w.heap.size w w') : PdsIn w' L := fun x hx => (h x hx).below hb
theorem PdsIn.nil (w : World) : PdsIn w [] := fun x hx => by simp at hx
theorem PdsIn.append {w : World} {L M : List Pd} (h : PdsIn w L) (h' : PdsIn w M) : PdsIn w (L ++ M) := fun x hx => by
  rcases List.mem_append.1 hx with hx | hx
  · exact h x hx
  · exact h' x hx
theorem PdsIn.one {w : World} {x : Pd} (h : DIn w x.1 x.2.1 x.2.2) : PdsIn w [x] := fun y hy => by
  simp at hy
  subst hy
  exact h
theorem PdsIn.rev {w : World} {L : List Pd} (h : PdsIn w L) : PdsIn w L.reverse := fun x hx => h x (by simpa using hx)
/-- Where nothing else has turned than a block in which no path lies. -/
def PdsAt (w : World) (g : Nat) (L : List Pd) : Prop := ∀ x, x ∈ L → ∀ a, x.2.1 = some a → a.block ≠ g
/-- The list lies behind the address a. -/
structure DsIn (w : World) (a : Option Addr) (L : List Pd) : Prop where
  lie : L = [] ∨ ∃ b o, a = some ⟨b, o, none⟩ ∧ ∀ j u, (pdCells L)[j]? = some u → w.cell? ⟨b, o + j, none⟩ = some u
  each : PdsIn w L
theorem DsIn.below {w w' : World} {a : Option Addr} {L : List Pd} (h : DsIn w a L) (hb : Below w.heap.size w w') : DsIn w' a L := by
  refine ⟨?_, h.each.below hb⟩
  rcases h.lie with h0 | ⟨b, o, e, h0⟩
  · exact Or.inl h0
  · refine Or.inr ⟨b, o, e, fun j u hu => ?_⟩
    have h1 := h0 j u hu
    rw [hb.cell (World.block_lt_of_cell? _ _ h1)]
    exact h1
theorem DsIn.at {w : World} {a : Option Addr} {L : List Pd} (h : DsIn w a L) {i : Nat} {x : Pd} (hx : L[i]? = some x) : ∃ b o, a = some ⟨b, o, none⟩ ∧ w.cell? ⟨b, o + i * 5, none⟩ = some (.int .i64 x.1.kind) ∧ w.cell? ⟨b, o + i * 5 + 1, none⟩ = some (.slice x.2.1 x.1.path.length x.2.2) ∧ w.cell? ⟨b, o + i * 5 + 2, none⟩ = some (.int .i64 x.1.pos) ∧ w.cell? ⟨b, o + i * 5 + 3, none⟩ = some (.int .i64 x.1.many) ∧ w.cell? ⟨b, o + i * 5 + 4, none⟩ = some (.string x.1.lab) ∧ DIn w x.1 x.2.1 x.2.2 := by
  rcases h.lie with rfl | ⟨b, o, e, h0⟩
  · simp at hx
  · have hj := pdCells_at L i x hx
    have c0 := h0 (i * 5 + 0) (.int .i64 x.1.kind) (by rw [hj 0 (by omega)]; rfl)
    have c1 := h0 (i * 5 + 1) (.slice x.2.1 x.1.path.length x.2.2) (by rw [hj 1 (by omega)]; rfl)
    have c2 := h0 (i * 5 + 2) (.int .i64 x.1.pos) (by rw [hj 2 (by omega)]; rfl)
    have c3 := h0 (i * 5 + 3) (.int .i64 x.1.many) (by rw [hj 3 (by omega)]; rfl)
    have c4 := h0 (i * 5 + 4) (.string x.1.lab) (by rw [hj 4 (by omega)]; rfl)
    exact ⟨b, o, e, c0, by rw [Nat.add_assoc]; exact c1, by rw [Nat.add_assoc]; exact c2, by rw [Nat.add_assoc]; exact c3, by rw [Nat.add_assoc]; exact c4, h.each x (List.mem_of_getElem? hx)⟩
/-- A row that a call owns is such a list. -/
theorem DsIn_of_owns {w : World} {B T n vc : Nat} {va : Option Addr} {L : List Pd} (h : w.ownsRow B T 5 (.slice va n vc) n (pdCells L)) (hd : PdsIn w L) : DsIn w va L := by
  refine ⟨?_, hd⟩
  rcases h.2 with ⟨h2, h0⟩ | ⟨g, cap, cur, hv, hb, hh, r⟩
  · left
    have hl := h.1
    rw [pdCells_length, h0] at hl
    exact List.length_eq_zero_iff.1 (by omega)
  · injection hv with e1 e2 e3
    subst e1 e3
    refine Or.inr ⟨g, 0, rfl, fun j u hu => ?_⟩
    have := ownsRow_cell h j u hu
    simpa [Addr.add] using this
theorem DsIn.src {w : World} {a : Option Addr} {L : List Pd} {n c : Nat} (h : DsIn w a L) (hn : n = L.length) : SrcIn w 5 ⟨a, n, c, pdCells L⟩ := by
  refine ⟨by simp only; rw [pdCells_length, hn], fun u hu => pdCells_one L u hu, ?_⟩
  rcases h.lie with h0 | ⟨b, o, e, h0⟩
  · left
    simp only
    rw [hn, h0]
    rfl
  · refine Or.inr ⟨⟨b, o, none⟩, e, fun j u hu => ?_⟩
    have := h0 j u hu
    by_cases hj : j = 0
    · subst hj
      simpa [Addr.add] using this
    · simpa [Addr.add, hj] using this
end Go.Proofs.Ytcknganggcbkjab.Deed
namespace Go.Proofs.Ytcknganggcbkjab.Deed
open Go.Deep Go.RowKit
set_option linter.unusedVariables false
set_option maxRecDepth 20000

theorem Try.infoDeed : (Try.prog.info? 44).map (fun i => (i.zero, i.size, i.bytes)) = some (some (.agg #[.int .i64 0, .slice none 0 0, .int .i64 0, .int .i64 0, .string ⟨#[]⟩]), 5, 64) := by kernel_rfl

set_option maxHeartbeats 2000000 in
theorem growD_any (n : Nat) (hn : n ≤ 100000) (w : World) :
    Calls Try.prog 92 #[.slice none 0 0, .int .i64 (n : Int)] w fun e w' => ∃ va vc, e = .returned (.slice va 0 vc) ∧ w'.ownsRow w.heap.size 44 5 (.slice va 0 vc) 0 [] ∧ Below w.heap.size w w' := by
  obtain ⟨i0, hi0, hz0, hz1, hz2⟩ := info_parts Try.infoDeed
  rcases Nat.eq_zero_or_pos n with h0 | h0
  · subst h0
    go_enter Try.func92, Try.ntmps92
    go_wp2_with fail
    go_ret
    exact ⟨none, 0, rfl, World.ownsRow_nil _ _ _ _, Below.refl _ _⟩
  · have hr := Go.Lib.run_append_nil_zeros (P := Try.prog) w 54 3 54 44 i0 _ .i64 .i64 Try.underlying54 Try.underlying3 hi0 hz0 n h0 (by rw [hz1]; decide) (by omega) (by rw [hz2]; omega)
    have hG := grownCap_le_maxLen w n 0 44 (by unfold maxLen; omega)
    have hGe := grownCap_ge w n 0 44
    obtain ⟨G, hGG⟩ : ∃ G, G = grownCap w n 0 44 := ⟨_, rfl⟩
    rw [← hGG] at hr hG hGe
    obtain ⟨cur, hcur⟩ : ∃ cur, cur = Builtin.zeroCells (.agg #[.int .i64 0, .slice none 0 0, .int .i64 0, .int .i64 0, .string ⟨#[]⟩] : Value).cells n ++ Builtin.zeroCells (.agg #[.int .i64 0, .slice none 0 0, .int .i64 0, .int .i64 0, .string ⟨#[]⟩] : Value).cells (G - n) := ⟨_, rfl⟩
    rw [← hcur] at hr
    have hcs : cur.size = G * 5 := by
      rw [hcur]
      simp [Builtin.zeroCells, Value.cells]
      omega
    clear hcur hGG
    have hp : (0 : Int) < (n : Int) := by omega
    have hG' := hG
    unfold maxLen at hG'
    go_enter Try.func92, Try.ntmps92
    go_wp2_with (at_builtin; refine Go.Lib.wpList_append_run _ rfl _ _ _ _ rfl _ _ rfl rfl _ _ hr ?_)
    go_ret
    refine ⟨_, G, rfl, owns_fresh (cur := cur) (Nat.le_refl _) (by show (w.alloc _).heap[w.heap.size]? = _; exact heap_alloc_new _ _) hG hcs, ?_⟩
    exact (Below.refl _ w).drew.alloc (by simp) _

set_option maxHeartbeats 4000000 in
theorem concatD_any (g cm : Nat) (srcs : List Src) (w : World) (fr : Nat × Nat) (hg : w.heap[g]? = some (.cells (srcs.map Src.val).toArray 54 fr)) (hs : ∀ s, s ∈ srcs → SrcIn w 5 s) (hm : srcs.length ≤ 10) (hn : tot srcs ≤ 100000) :
    Calls Try.prog 76 #[.slice (some ⟨g, 0, none⟩) srcs.length cm] w fun e w' => ∃ va vc, e = .returned (.slice va (tot srcs) vc) ∧ w'.ownsRow w.heap.size 44 5 (.slice va (tot srcs) vc) (tot srcs) (srcs.flatMap (·.xs)) ∧ Below w.heap.size w w' := by
  obtain ⟨i0, hi0, hz0, hz1, hz2⟩ := info_parts Try.infoDeed
  have hcell : ∀ i s, srcs[i]? = some s → w.cell? ⟨g, i, none⟩ = some (.slice s.a s.n s.c) := fun i s hi => by
    rw [cell_of_row _ _ i _ _ _ hg]
    simp [hi, Src.val]
  have hgw : g < w.heap.size := by
    rcases Nat.lt_or_ge g w.heap.size with h | h
    · exact h
    · rw [Array.getElem?_eq_none h] at hg
      cases hg
  clear hg
  have HS := hide hs
  have HC := hide hcell
  clear hs hcell
  go_enter Try.func76, Try.ntmps76
  go_wp2_with fail
  go_loopg [3, 11] srcs.length (fun gk v3 v11 wr => ∃ i : Nat, gk = srcs.length - i ∧ i ≤ srcs.length ∧ v3 = .int .i64 (tot (srcs.take i) : Nat) ∧ v11 = .int .i64 (i : Nat) ∧ wr = w)
  case atStart => exact ⟨0, rfl, Nat.zero_le _, by simp [tot], rfl, rfl⟩
  case round =>
    obtain ⟨i, hgk, hi, rfl, rfl, hwr⟩ := hrel
    obtain ⟨wA, hwA⟩ : ∃ wA, wA = wr := ⟨_, rfl⟩
    rw [← hwA]
    have hwB : wA = w := hwA.trans hwr
    clear hwA hwr
    subst hwB
    by_cases hin : i < srcs.length
    · obtain ⟨sa, sn, sc, hc, B, hw, hneg, HT⟩ : ∃ sa sn sc, wA.cell? ⟨g, i, none⟩ = some (.slice sa sn sc) ∧ ∃ B : Nat, wrap64 ((tot (srcs.take i) : Int) + (sn : Int)) = (B : Int) ∧ decide ((B : Int) < 0) = false ∧ Hid (tot (srcs.take (i + 1)) = B) := by
        obtain ⟨s, hsi⟩ : ∃ s, srcs[i]? = some s := ⟨_, List.getElem?_eq_getElem hin⟩
        have ht : tot (srcs.take (i + 1)) = tot (srcs.take i) + s.n := by
          rw [List.take_succ_eq_append_getElem hin, tot_append, show srcs[i] = s by simpa [List.getElem?_eq_getElem hin] using hsi]
          simp [tot]
        have hle := tot_take srcs (i + 1)
        exact ⟨s.a, s.n, s.c, HC.out i s hsi, _, wrap_sum _ _ (by omega), by simp <;> omega, ht⟩
      obtain ⟨A, hA⟩ : ∃ A, A = tot (srcs.take i) := ⟨_, rfl⟩
      rw [← hA] at hw ⊢
      clear hA
      go_wp2_with fail
      go_roundg (srcs.length - (i + 1))
      case measure => omega
      case rel => exact ⟨i + 1, rfl, by omega, by rw [HT.out, hw], by go_num, rfl⟩
    · have hie : i = srcs.length := by omega
      subst hie
      rw [List.take_length]
      clear hgk
      go_wp2_with fail
      refine (growD_any (tot srcs) hn _).mono ?_
      rintro e w1 ⟨va0, vc0, rfl, hown0, hb0⟩
      have HO := hide hown0
      clear hown0
      go_wp2_with fail
      go_loopg [6, 27] srcs.length (fun gk v6 v27 wx => ∃ (i : Nat) (va : Option Addr) (vc : Nat), gk = srcs.length - i ∧ i ≤ srcs.length ∧ v6 = .slice va (tot (srcs.take i)) vc ∧ v27 = .int .i64 (i : Nat) ∧ wx.ownsRow wA.heap.size 44 5 (.slice va (tot (srcs.take i)) vc) (tot (srcs.take i)) ((srcs.take i).flatMap (·.xs)) ∧ Below wA.heap.size wA wx)
      case atStart => exact ⟨0, va0, vc0, rfl, Nat.zero_le _, by simp [tot], rfl, by simpa [tot] using HO.out, hb0⟩
      case round =>
        obtain ⟨wx, hwx⟩ : ∃ wx, wx = wr := ⟨_, rfl⟩
        subst hwx
        obtain ⟨i, va, vc, hgk, hi, rfl, rfl, hown, hb⟩ := hrel
        by_cases hin2 : i < srcs.length
        · obtain ⟨s, hsi⟩ : ∃ s, srcs[i]? = some s := ⟨_, List.getElem?_eq_getElem hin2⟩
          have hc : wx.cell? ⟨g, i, none⟩ = some (.slice s.a s.n s.c) := by rw [hb.cell hgw]; exact HC.out i s hsi
          have htk : srcs.take (i + 1) = srcs.take i ++ [s] := by rw [List.take_succ_eq_append_getElem hin2, show srcs[i] = s by simpa [List.getElem?_eq_getElem hin2] using hsi]
          have hle := tot_take srcs (i + 1)
          rw [htk, tot_append] at hle
          simp only [tot] at hle
          obtain ⟨va', vc', w', hr, hown', hb'⟩ := append_src (P := Try.prog) wx 54 44 i0 _ 5 64 Try.underlying54 hi0 hz0 hz1 hz2 rfl (by decide) hown ((HS.out s (List.mem_of_getElem? hsi)).below hb) (by unfold maxLen; omega) (by omega) hb.size
          have HK := hide (And.intro hown' (hb.trans hb'))
          have HT := hide htk
          unfold Src.val at hr
          clear hown' hb' htk hsi hown
          go_wp2_with (at_builtin; refine Go.Lib.wpList_append_run _ rfl _ _ _ _ rfl _ _ rfl rfl _ _ hr ?_)
          go_roundg (srcs.length - (i + 1))
          case measure => omega
          case rel =>
            refine ⟨i + 1, va', vc', rfl, by omega, ?_, by go_num, ?_, HK.out.2⟩
            · rw [HT.out, tot_append]
              simp [tot]
            · rw [HT.out, tot_append, List.flatMap_append]
              simpa [tot] using HK.out.1
        · have hie : i = srcs.length := by omega
          subst hie
          rw [List.take_length] at hown ⊢
          have HK := hide hown
          clear hown hgk
          go_wp2_with fail
          go_ret
          exact ⟨va, vc, rfl, HK.out, hb⟩
end Go.Proofs.Ytcknganggcbkjab.Deed
namespace Go.Proofs.Ytcknganggcbkjab
open Go.Deep Go.RowKit
set_option linter.unusedVariables false
set_option maxRecDepth 20000

theorem Try.infoTree : (Try.prog.info? 24).map (fun i => (i.zero, i.size, i.bytes)) = some (some (.agg #[.string ⟨#[]⟩, .slice none 0 0]), 2, 40) := by kernel_rfl

/-- What is asked of OwnList at a list of trees. -/
def OwnAt (k : Fo) : Prop := ∀ (ka : Option Addr) (cap : Nat) (w : World), KIn w ka k →
    Calls Try.prog 53 #[.slice ka (flen k) cap] w fun e w' => ∃ ka' cap' k', e = .returned (.slice ka' (flen k') cap') ∧ strip k' = strip k ∧ flen k' ≤ cap' ∧ cap' ≤ maxLen ∧ KIn w' ka' k' ∧ FFrom w.heap.size k' ∧ FPlain w' k' ∧ (ab k').Nodup ∧ Below w.heap.size w w'

theorem set2_but (w : World) (g o1 o2 : Nat) (u1 u2 : Value) : ∀ b, b < w.heap.size → b ≠ g → ((w.setCell ⟨g, o1, none⟩ u1).setCell ⟨g, o2, none⟩ u2).heap[b]? = w.heap[b]? := by
  intro b _ hb
  rw [Below.heap_setCell _ _ _ _ hb, Below.heap_setCell _ _ _ _ hb]

set_option maxHeartbeats 800000 in
theorem own_of (k : Fo) (h : OwnAt k) (s : ByteArray) (ka : Option Addr) (cap : Nat) (w : World) (ht : TIn w s ka cap k) :
    Calls Try.prog 24 #[.agg #[.string s, .slice ka (flen k) cap]] w fun e w' => ∃ ka' cap' k', e = .returned (.agg #[.string s, .slice ka' (flen k') cap']) ∧ strip k' = strip k ∧ TIn w' s ka' cap' k' ∧ FFrom w.heap.size k' ∧ FPlain w' k' ∧ (ab k').Nodup ∧ Below w.heap.size w w' := by
  have hbox : Below w.heap.size w ((w.alloc (Obj.cells #[Value.string s, Value.slice ka (flen k) cap] 24)).alloc (Obj.cells #[Value.string ⟨#[]⟩, Value.slice none 0 0] 24)) :=
    ((Below.refl _ _).alloc (Nat.le_refl _) _).alloc (by simp) _
  have hk := ht.kids.below hbox.drew
  have HA := hide h
  clear h
  go_enter Try.func24, Try.ntmps24
  go_wp2_with fail
  go_region_held3 (fun w' => w'.cell? ⟨w.heap.size, 0, none⟩ = some (.string s) ∧ w'.cell? ⟨w.heap.size, 1, none⟩ = some (.slice ka (flen k) cap))
    (refine ⟨?_, ?_⟩ <;> go_simp)
    ((go_at_call 53; refine (HA.out _ _ _ hk).mono ?_; rintro e w1 ⟨ka', cap', k', rfl, hst, hl', hc', hk', hfr', hpl', hnd', hb1⟩; have HST := hide hst; clear hst; have hc0 : w1.cell? ⟨w.heap.size, 0, none⟩ = some (.string s) := by (rw [hb1.cell (by simp <;> omega)]; go_simp)
      have hc1 : w1.cell? ⟨w.heap.size, 1, none⟩ = some (.slice ka (flen k) cap) := by (rw [hb1.cell (by simp <;> omega)]; go_simp)
      have hd0 : w1.cell? ⟨w.heap.size + 1, 0, none⟩ = some (.string ⟨#[]⟩) := by (rw [hb1.cell (by simp <;> omega)]; go_simp)
      have hd1 : w1.cell? ⟨w.heap.size + 1, 1, none⟩ = some (.slice none 0 0) := by (rw [hb1.cell (by simp <;> omega)]; go_simp)
      have hf0 : w1.frozen? ⟨w.heap.size + 1, 0, none⟩ = false := by (rw [hb1.frozen (by simp <;> omega)]; go_simp)
      have hf1 : w1.frozen? ⟨w.heap.size + 1, 1, none⟩ = false := by (rw [hb1.frozen (by simp <;> omega)]; go_simp)))
  go_wp2_with fail
  refine bodyPost_ret (v := .agg #[.string s, .slice ka' (flen k') cap']) (by simp [results, Try.results24, go_sem, *]) rfl ⟨ka', cap', k', rfl, HST.out, ?_, hfr'.mono (by simp <;> omega), ?_, hnd', ?_⟩
  · exact TIn.but (g := w.heap.size + 1) (set2_but _ _ _ _ _ _) (hfr'.off (by simp)) ⟨ht.size, hl', hc', hk'⟩
  · exact FPlain.but (g := w.heap.size + 1) (set2_but _ _ _ _ _ _) (hfr'.off (by simp)) hpl'
  · exact ((hbox.drew.trans (hb1.mono (by simp <;> omega))).setCell (by simp) _).setCell (by simp) _

set_option maxHeartbeats 800000 in
theorem ownList_N : ∀ (N : Nat) (k : Fo), fnodes k < N → N ≤ 100000 → OwnAt k := by
  intro N
  induction N with
  | zero => intro k hN; exact absurd hN (Nat.not_lt_zero _)
  | succ N ih =>
    intro k hN hN1 ka cap w hk
    have HI := hide ih; clear ih
    have hlk := flen_le_nodes k
    obtain ⟨i24, hi24, hz0, hz1, hz2⟩ := info_parts Try.infoTree
    go_enter Try.func53, Try.ntmps53
    go_wp2_with fail
    go_loopw [3, 4] (fun v i wr => ∃ (j : Nat) (L : List It), j ≤ flen k ∧ i = .int .i64 j ∧ OwnInv 24 w.heap.size wr k v j L ∧ Below w.heap.size w wr) (fun _ i _ => flen k - (intOf i).toNat)
    case atStart => exact ⟨0, [], Nat.zero_le _, rfl, ⟨rfl, rfl, fun _ h => (by simp at h), List.nodup_nil, rfl, Or.inl ⟨rfl, rfl⟩⟩, Below.refl _ _⟩
    case round =>
      obtain ⟨j, L, hj, rfl, hF, hb⟩ := hrel
      obtain ⟨hcell, hfr⟩ := bcell hb
      by_cases hlt : j < flen k
      · rcases hk with rfl | ⟨kb, ko, rfl, hk⟩
        · exact absurd hlt (Nat.not_lt_zero _)
        obtain ⟨b', o', x, kk, he, hc0, hc1, htin, hbb⟩ := hk.at hlt
        have HE := hide he
        clear he
        have hn : fnodes kk < N := by have := fnodes_of_drop HE.out; omega
        go_wp2_with fail
        refine (own_of _ (HI.out _ hn (by omega)) _ _ _ _ (htin.below hb)).mono ?_
        rintro e w1 ⟨ka', cap', k', rfl, hst, ht1, hfr1, hpl1, hnd1, hb1⟩
        have HST := hide hst
        clear hst
        have hz := Nat.le_trans hb.size hb1.size
        go_wp2_with (at_builtin; refine wpList_append_lies _ rfl (.tmp 11) (.tmp 17) 22 rfl w.heap.size 24 i24 _ 2 40 Try.underlying22 hi24 hz0 hz1 hz2 rfl (by decide) _ j (rowCells L) rfl (ownsRow_below (hF.below hb1).row ((Below.refl _ _).alloc (Nat.le_refl _) _)) ⟨w1.heap.size, 0, none⟩ 1 1 (itCells (x.1, ka', cap', k')) rfl rfl (own_news w1 24 (x.1, ka', cap', k')) (own_one _) (by decide) (by unfold maxLen; omega) (by omega) (by simp; omega) (w1.heap.size + 1) (by simp) ?_)
        intro g cap2 w3 hown hgrow hat hlt3
        have hF3 := hF.step hb1 HE.out HST.out ht1 hpl1 hnd1 hfr1 hb.size hown hgrow hat
        have hb3 : Below w.heap.size w w3 := ((hb.trans (hb1.mono hb.size)).alloc hz _).grown hgrow (by simp; omega) fun q hq => (ownBlock_lt hF.row hq).1
        clear hgrow hown
        go_wp2_with fail
        go_roundw
        case rel => exact ⟨j + 1, _, by omega, by go_num, hF3, hb3⟩
        case measure => simp [intOf]; omega
      · obtain ⟨ka2, cap2, k2, rfl, h1, h2, h3, h4, h5, h6, h7⟩ := hF.done (by omega)
        have HST := hide h1
        clear h1
        go_wp2_with fail
        go_ret
        exact ⟨ka2, cap2, k2, rfl, HST.out, h2, h3, h4, h5, h6, h7, hb⟩

theorem ownList_any (k : Fo) (h : fnodes k < 99999) : OwnAt k := ownList_N _ k (Nat.lt_succ_self _) (by omega)

theorem refOwn_any (s : ByteArray) (ka : Option Addr) (cap : Nat) (k : Fo) (w : World) (h : fnodes k < 99999) (ht : TIn w s ka cap k) :
    Calls Try.prog 24 #[.agg #[.string s, .slice ka (flen k) cap]] w fun e w' => ∃ ka' cap' k', e = .returned (.agg #[.string s, .slice ka' (flen k') cap']) ∧ strip k' = strip k ∧ TIn w' s ka' cap' k' ∧ FFrom w.heap.size k' ∧ FPlain w' k' ∧ (ab k').Nodup ∧ Below w.heap.size w w' :=
  own_of k (ownList_any k h) s ka cap w ht

end Go.Proofs.Ytcknganggcbkjab
