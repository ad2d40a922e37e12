/- Lists that are put behind each other: what append comes to where the other list lies in memory, or is empty. Of no program. -/
/- The tree that the parents of nodes tell: of lists alone. Of no program. -/
/- pleachingref.SizeOf of a tree that lies in memory is the number of its nodes, but no more than one beyond the bound; Of the program's text. -/
import Derived.Test.YtcknganggcbkjabGS01
import Derived.Laws.OwnMore
import Derived.Lib.AppendZeros
import Derived.Test.YtcknganggcbkjabGS00
import Derived.Test.YtcknganggcbkjabProg
import Derived.WalkSpells
import Derived.Deep.LoopGhost
namespace Go.Proofs.Ytcknganggcbkjab.Deed
open Go.Deep Go.RowKit
set_option linter.unusedVariables false
set_option maxRecDepth 20000

/-- A list to be read: where, how long, its capacity, its cells. -/
structure Src where
  a : Option Addr
  n : Nat
  c : Nat
  xs : List Value
def Src.val (s : Src) : Value := .slice s.a s.n s.c
structure SrcIn (w : World) (size : Nat) (s : Src) : Prop where
  len : s.xs.length = s.n * size
  one : ∀ u ∈ s.xs, u.oneCell' = true
  lie : s.n = 0 ∨ ∃ ad, s.a = some ad ∧ ∀ j u, s.xs[j]? = some u → w.cell? (ad.add j) = some u
theorem SrcIn.below {w w' : World} {size : Nat} {s : Src} (h : SrcIn w size s) (hb : Below w.heap.size w w') : SrcIn w' size s := by
  refine ⟨h.len, h.one, ?_⟩
  rcases h.lie with h0 | ⟨ad, e, h0⟩
  · exact Or.inl h0
  · refine Or.inr ⟨ad, e, fun j u hu => ?_⟩
    have h1 := h0 j u hu
    rw [hb.cell (World.block_lt_of_cell? _ _ h1)]
    exact h1
def tot : List Src → Nat
  | [] => 0
  | s :: l => s.n + tot l
theorem tot_append : ∀ (a b : List Src), tot (a ++ b) = tot a + tot b
  | [], b => by simp [tot]
  | s :: a, b => by simp [tot, tot_append a b]; omega
theorem tot_take (l : List Src) (i : Nat) : tot (l.take i) ≤ tot l := by
  have := tot_append (l.take i) (l.drop i)
  rw [List.take_append_drop] at this
  omega

theorem wrap_sum (a b : Nat) (h : a + b ≤ 1000000) : wrap64 ((a : Int) + (b : Int)) = ((a + b : Nat) : Int) := by
  unfold wrap64
  omega
theorem wrap_sum' (a b : Nat) (h : a + b ≤ 1000000) : IntKind.i64.wrap ((a : Int) + (b : Int)) = (a : Int) + (b : Int) := by
  rw [IntKind.wrap_i64]
  omega
theorem append_none0 {P : Program} {w : World} (base : Nat) (t ty e : TypeId) (i : TypeInfo) (size : Nat) (ht : P.underlying t = some (.slice e)) (hi : P.info? e = some i)
    (v : Value) (n : Nat) (xs : List Value) (hown : w.ownsRow base e size v n xs) (c : Nat) :
    (Builtin.append_ #[t, t] ty #[v, .slice none 0 c]).run P w = .ok v w := by
  rcases hown.2 with ⟨rfl, rfl⟩ | ⟨g, cap, cur, rfl, _, _, hnc, _⟩
  · simp [Builtin.append_, run_underlying ht, sizeOf, typeInfo, hi, Builtin.lenOf, Builtin.firstCells]
  · simp [Builtin.append_, run_underlying ht, sizeOf, typeInfo, hi, Builtin.lenOf, Builtin.firstCells, hnc, storeCells]

theorem append_src {P : Program} (w : World) (t e : TypeId) (i : TypeInfo) (z : Value) (size bytes : Nat) (ht : P.underlying t = some (.slice e)) (hi : P.info? e = some i) (hz : i.zero = some z)
    (hsize : i.size = size) (hby : i.bytes = bytes) (hzs : z.cells.size = size) (hsz : 0 < size) {B n vc : Nat} {va : Option Addr} {xs : List Value} (hown : w.ownsRow B e size (.slice va n vc) n xs) {s : Src} (hs : SrcIn w size s) (h63 : n + s.n ≤ maxLen) (hbytes : (n + s.n) * bytes ≤ 140737488355328) (hB : B ≤ w.heap.size) :
    ∃ va' vc' w', (Builtin.append_ #[t, t] t #[.slice va n vc, s.val]).run P w = .ok (.slice va' (n + s.n) vc') w' ∧ w'.ownsRow B e size (.slice va' (n + s.n) vc') (n + s.n) (xs ++ s.xs) ∧ Below B w w' := by
  obtain ⟨a, m, c, ys⟩ := s
  obtain ⟨hlen, hone, hlie⟩ := hs
  simp only at hlen hone hlie h63 hbytes
  have hb : ∀ k, (Value.slice va n vc).ownBlock = some k → B ≤ k := fun k hk => (ownBlockN_lt hown hk).1
  cases a with
  | none =>
    have h0 : m = 0 := by
      rcases hlie with h0 | ⟨ad, e, _⟩
      · exact h0
      · cases e
    subst h0
    have : ys = [] := List.length_eq_zero_iff.1 (by simpa using hlen)
    subst this
    refine ⟨va, vc, w, append_none0 B t t e i size ht hi _ n xs hown c, by simpa using hown, Below.refl _ _⟩
  | some ad =>
    obtain ⟨v', w', hr, hown', hgrow, _, _⟩ := run_append_own_at (P := P) w B t t e i z size bytes ht hi hz hsize hby hzs hsz (.slice va n vc) n xs hown ad m c ys hlen (fun j u hu => by
      rcases hlie with h0 | ⟨ad', e, h0⟩
      · subst h0
        have : ys = [] := List.length_eq_zero_iff.1 (by simpa using hlen)
        subst this
        simp at hu
      · injection e with e
        subst e
        exact h0 j u hu) hone h63 hbytes hB
    obtain ⟨va', vc', rfl, _, _⟩ := ownsN_form hown'
    exact ⟨va', vc', w', hr, hown', (Below.refl _ _).grown hgrow hB hb⟩

/-- A row that has room, and nothing in it yet. -/
theorem owns_fresh {w : World} {B e size g cap : Nat} {cur : Array Value} (hB : B ≤ g) (hg : w.heap[g]? = some (.cells cur e (0, 0))) (hc : cap ≤ maxLen) (hs : cur.size = cap * size) : w.ownsRow B e size (.slice (some ⟨g, 0, none⟩) 0 cap) 0 [] :=
  ⟨by simp, Or.inr ⟨g, cap, cur, rfl, hB, hg, Nat.zero_le _, hc, hs, by simp⟩⟩

end Go.Proofs.Ytcknganggcbkjab.Deed
namespace Go.Proofs.Ytcknganggcbkjab
open Go.Deep Go.RowKit
set_option linter.unusedVariables false
set_option maxRecDepth 20000

/-- Trees without addresses, one behind the other. -/
abbrev Gs := List (ByteArray × Fo)
def toFo : Gs → Fo
  | [] => .nil
  | x :: l => .node 0 0 (x.1, none, 0) x.2 (toFo l)
def gsF : Fo → Gs
  | .nil => []
  | .node _ _ x k r => (x.1, strip k) :: gsF r
theorem toFo_gs : ∀ k : Fo, toFo (gsF k) = strip k
  | .nil => rfl
  | .node _ _ x k r => by simp [gsF, toFo, strip, toFo_gs r]
def upd (G : Nat → Gs) (p : Nat) (f : Gs) : Nat → Gs := fun m => if m = p then f else G m

/-- The steps of grow, from node i on. -/
def grows (n : Nat) : List Nd → Nat → (Nat → Gs) → Option (Nat → Gs)
  | [], _, G => some G
  | x :: l, i, G => if x.par ≤ (i : Int) ∨ (n : Int) ≤ x.par then none else grows n l (i + 1) (upd G x.par.toNat (G x.par.toNat ++ [(x.lab, toFo (G i))]))
def growP (L : List Nd) : Option (ByteArray × Fo) :=
  match L[L.length - 1]? with
  | none => none
  | some x => (grows L.length (L.take (L.length - 1)) 0 fun _ => []).map fun G => (x.lab, toFo (G (L.length - 1)))

theorem grows_ndF (n : Nat) : ∀ (k : Fo) (b p : Nat) (rest : List Nd) (G : Nat → Gs), b + fnodes k ≤ p → p < n → (∀ m, b ≤ m → m < b + fnodes k → G m = []) →
    ∃ G', grows n (ndF b k (p : Int) ++ rest) b G = grows n rest (b + fnodes k) G' ∧ G' p = G p ++ gsF k ∧ ∀ m, b + fnodes k ≤ m → m ≠ p → G' m = G m
  | .nil, b, p, rest, G, _, _, _ => ⟨G, rfl, by simp [gsF], fun _ _ _ => rfl⟩
  | .node b9 o9 x k r, b, p, rest, G, hp, hn, hG => by
    simp only [fnodes] at hp hG ⊢
    obtain ⟨G1, h1, h2, h3⟩ := grows_ndF n k b (b + fnodes k) (⟨x.1, (p : Int), (b : Int)⟩ :: (ndF (b + fnodes k + 1) r (p : Int) ++ rest)) G (Nat.le_refl _) (by omega) (fun m hm1 hm2 => hG m hm1 (by omega))
    have e1 : ndF b (.node b9 o9 x k r) (p : Int) ++ rest = ndF b k ((b + fnodes k : Nat) : Int) ++ (⟨x.1, (p : Int), (b : Int)⟩ :: (ndF (b + fnodes k + 1) r (p : Int) ++ rest)) := by simp [ndF]
    rw [e1, h1]
    have hi : G1 (b + fnodes k) = gsF k := by rw [h2, hG _ (by omega) (by omega)]; rfl
    have hpp : G1 p = G p := h3 p (by omega) (by omega)
    rw [grows, if_neg (by simp only [not_or]; omega), hi, toFo_gs]
    simp only [Int.toNat_natCast]
    obtain ⟨G2, g1, g2, g3⟩ := grows_ndF n r (b + fnodes k + 1) p rest (upd G1 p (G1 p ++ [(x.1, strip k)])) (by omega) hn (fun m hm1 hm2 => by
      unfold upd
      rw [if_neg (by omega), h3 m (by omega) (by omega)]
      exact hG m (by omega) (by omega))
    refine ⟨G2, ?_, ?_, ?_⟩
    · rw [g1, show b + fnodes k + 1 + fnodes r = b + (fnodes k + fnodes r + 1) by omega]
    · rw [g2]
      simp [upd, hpp, gsF]
    · intro m hm1 hm2
      rw [g3 m (by omega) hm2]
      unfold upd
      rw [if_neg hm2]
      exact h3 m (by omega) (by omega)

/-- Of a tree's nodes it is that tree. -/
theorem growP_ndT (s : ByteArray) (k : Fo) : growP (ndT 0 s k (-1)) = some (s, strip k) := by
  have hl : (ndT 0 s k (-1)).length - 1 = fnodes k := by rw [ndT_length]; omega
  have hlen : (ndT 0 s k (-1)).length = fnodes k + 1 := ndT_length _ _ _ _
  have hf : (ndF 0 k ((0 + fnodes k : Nat) : Int)).length = fnodes k := ndF_length _ _ _
  have hlast : (ndT 0 s k (-1))[fnodes k]? = some ⟨s, -1, ((0 : Nat) : Int)⟩ := by
    unfold ndT
    rw [List.getElem?_append_right (by omega), hf]
    simp
  have htake : (ndT 0 s k (-1)).take (fnodes k) = ndF 0 k ((0 + fnodes k : Nat) : Int) := by
    unfold ndT
    rw [List.take_append_of_le_length (by omega), List.take_of_length_le (by omega)]
  unfold growP
  rw [hl, hlast]
  simp only
  rw [htake, hlen]
  obtain ⟨G', h1, h2, h3⟩ := grows_ndF (fnodes k + 1) k 0 (0 + fnodes k) [] (fun _ => []) (Nat.le_refl _) (by omega) (fun _ _ _ => rfl)
  rw [List.append_nil] at h1
  rw [h1, grows]
  simp only [Option.map_some]
  rw [show fnodes k = 0 + fnodes k by omega, h2]
  simp [toFo_gs]

end Go.Proofs.Ytcknganggcbkjab
namespace Go.Proofs.Ytcknganggcbkjab
open Go.Deep Go.RowKit
set_option linter.unusedVariables false
set_option maxRecDepth 20000

/-- What SizeOf has counted ahead of kid j. -/
def sizeAt (k : Fo) (m : Int) (j : Nat) : Int := min (1 + (fnodes k : Int) - fnodes (fdrop j k)) (m + 1)

theorem fnodes_drop_le : ∀ (j : Nat) (f : Fo), fnodes (fdrop j f) ≤ fnodes f
  | 0, _ => Nat.le_refl _
  | _ + 1, .nil => Nat.le_refl _
  | j + 1, .node _ _ _ k r => by have := fnodes_drop_le j r; simp [fdrop, fnodes]; omega

theorem sizeAt_bd (k : Fo) (m : Int) (j : Nat) (hm : 0 ≤ m) : 1 ≤ sizeAt k m j ∧ sizeAt k m j ≤ m + 1 := by
  have := fnodes_drop_le j k
  unfold sizeAt
  omega

theorem fnodes_of_drop {k : Fo} {j b o : Nat} {x : ByteArray × Option Addr × Nat} {kk r : Fo} (h : fdrop j k = .node b o x kk r) : fnodes kk + fnodes r + 1 ≤ fnodes k := by
  have := fnodes_drop_le j k
  rw [h] at this
  simpa [fnodes] using this

theorem sizeAt_step (k : Fo) (m : Int) (j : Nat) (hm : 0 ≤ m) (hle : sizeAt k m j ≤ m) (b o : Nat) (x : ByteArray × Option Addr × Nat) (kk : Fo) (h : fdrop j k = .node b o x kk (fdrop (j + 1) k)) :
    sizeAt k m j + min (1 + (fnodes kk : Int)) (m - sizeAt k m j + 1) = sizeAt k m (j + 1) := by
  have h1 := fnodes_of_drop h
  unfold sizeAt at *
  rw [h] at *
  simp only [fnodes] at *
  omega

theorem sizeAt_end (k : Fo) (m : Int) (j : Nat) (h : flen k ≤ j) : sizeAt k m j = min (1 + (fnodes k : Int)) (m + 1) := by
  unfold sizeAt
  rw [fdrop_end j k h]
  simp [fnodes]

theorem sizeAt_over (k : Fo) (m : Int) (j : Nat) (h : sizeAt k m j ≤ m + 1) (h' : ¬ sizeAt k m j ≤ m) : sizeAt k m j = min (1 + (fnodes k : Int)) (m + 1) := by
  unfold sizeAt at *
  omega

theorem minbd (n : Nat) (q : Int) (h : 0 ≤ q) : 1 ≤ min (1 + (n : Int)) (q + 1) ∧ min (1 + (n : Int)) (q + 1) ≤ q + 1 := by omega

theorem ret_int {k : IntKind} {a b : Int} (h : a = b) : Ending.returned (.int k a) = .returned (.int k b) := by rw [h]

set_option maxHeartbeats 400000 in
theorem sizeOf_any : ∀ (N : Nat) (s : ByteArray) (ka : Option Addr) (cap : Nat) (k : Fo) (m : Int) (w : World), fnodes k < N → 0 ≤ m → m ≤ 100000 → TIn w s ka cap k →
    Calls Try.prog 19 #[.agg #[.string s, .slice ka (flen k) cap], .int .i64 m] w fun e w' => e = .returned (.int .i64 (min (1 + (fnodes k : Int)) (m + 1))) ∧ Below w.heap.size w w' := by
  intro N
  induction N with
  | zero => intro s ka cap k m w hN; exact absurd hN (Nat.not_lt_zero _)
  | succ N ih =>
    intro s ka cap k m w hN hm0 hm1 ht
    have HI := hide ih; clear ih
    obtain ⟨hs, hl, hc, hk⟩ := ht
    unfold maxLen at hs hc
    go_enter Try.func19, Try.ntmps19
    go_wp2
    go_loopw [5, 6] (fun n i wr => ∃ j : Nat, j ≤ flen k ∧ i = .int .i64 j ∧ n = .int .i64 (sizeAt k m j) ∧ Below (w.heap.size + 1) (w.alloc (Obj.cells #[Value.string s, Value.slice ka (flen k) cap] 24)) wr) (fun _ i _ => flen k - (intOf i).toNat)
    case atStart => exact ⟨0, Nat.zero_le _, rfl, by simp [sizeAt, fdrop]; omega, Below.refl _ _⟩
    case round =>
      obtain ⟨j, hj, rfl, rfl, hb⟩ := hrel
      obtain ⟨hcell, hfr⟩ := bcell hb
      have hbd := sizeAt_bd k m j hm0
      by_cases hlt : j < flen k
      · rcases hk with rfl | ⟨kb, ko, rfl, hk⟩
        · exact absurd hlt (Nat.not_lt_zero _)
        obtain ⟨b', o', x, kk, he, hc0, hc1, htin, hbb⟩ := hk.at hlt
        by_cases hle : sizeAt k m j ≤ m
        · have hst := sizeAt_step k m j hm0 hle b' o' x kk he
          have HE := hide he
          have HS := hide hst
          clear he hst
          go_wp2_with fail
          refine (HI.out _ _ _ _ _ _ (by have := HE.out; have := fnodes_of_drop this; omega) (by omega) (by omega) (htin.below (below_of_box hb))).mono ?_
          rintro e w1 ⟨rfl, hb1⟩
          have hb2 : Below (w.heap.size + 1) (w.alloc (Obj.cells #[Value.string s, Value.slice (some ⟨kb, ko, none⟩) (flen k) cap] 24)) w1 := hb.trans (hb1.mono (by have := hb.size; simp at this; omega))
          have hmn := minbd (fnodes kk) (m - sizeAt k m j) (by omega)
          go_wp2_with fail
          go_roundw
          case rel => exact ⟨j + 1, by omega, by go_num, by rw [← HS.out], hb2⟩
          case measure => simp [intOf]; omega
        · go_wp2_with fail
          go_ret
          exact ⟨ret_int (sizeAt_over k m j hbd.2 (by omega)), below_of_box hb⟩
      · go_wp2_with fail
        go_ret
        exact ⟨ret_int (sizeAt_end k m j (by omega)), below_of_box hb⟩
end Go.Proofs.Ytcknganggcbkjab
