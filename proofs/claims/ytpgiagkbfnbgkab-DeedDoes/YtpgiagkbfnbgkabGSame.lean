/- A map whose keys are two places and a length: a key whose first place lies in another block than all that were put in is not there. Of the program's types. -/
/- SameTree and SameTrees of package pleachingref, of trees that lie in memory, say whether the forests are the same but for where they lie. Of the program's text. -/
/- What the loops of tree.Same keep: pairs of lists of the same length that are still to be held against each other, and the places of those that were. Of the program's types. -/
/- tree.Same of two trees that lie in memory, of which the first has no list twice. Of the program's text. -/
import Derived.Test.YtpgiagkbfnbgkabProg
import Derived.Test.YtpgiagkbfnbgkabFo2
import Derived.Test.YtpgiagkbfnbgkabBack
import Derived.LaidEqlPtr
import Derived.WalkSpells
import Derived.Test.YtpgiagkbfnbgkabRef
import Derived.Deep.RegionHeld3
import Derived.Test.YtpgiagkbfnbgkabWalkStep
import Derived.Deep.LoopGhost
namespace Go.Proofs.Ytpgiagkbfnbgkab
open Go.Deep Go.RowKit
set_option linter.unusedVariables false
set_option maxRecDepth 20000
set_option linter.unusedSimpArgs false

def keyV (a b : Addr) (n : Nat) : Value := .agg #[.pointer (some a), .pointer (some b), .int .i64 (n : Int)]

theorem Try.infoUnit : (Try.prog.info? 92).map (fun i => (i.zero, i.size, i.bytes)) = some (some (.agg #[]), 0, 0) := by kernel_rfl

theorem Try.placeHeld : Try.prog.stoodInHeld 91 = false := by kernel_rfl

theorem run_ptr_other {w : World} {a b : Addr} (d : Nat) (hab : a.block ≠ b.block) (ha : BPlain w a.block) (hb : BPlain w b.block) : (Op.equalIn (d + 1) 71 (.pointer (some a)) (.pointer (some b))).run Try.prog w = .ok false w := by
  obtain ⟨i24, hi24, hz0, hz1, hz2⟩ := info_parts Try.infoTree'
  obtain ⟨ca, ta, ha⟩ := ha
  obtain ⟨cb, tb, hb⟩ := hb
  simp [Op.equalIn, run_underlying Try.underlying71, sizeOf, typeInfo, hi24, hz1, run_sameAddr_other w (fun e => hab (by rw [e])) ha hb]

set_option maxRecDepth 100000 in
theorem run_key_other {w : World} {a b a' b' : Addr} {n n' : Nat} (hab : a.block ≠ a'.block) (ha : BPlain w a.block) (hb : BPlain w a'.block) : (Op.equal 91 (keyV a b n) (keyV a' b' n')).run Try.prog w = .ok false w := by
  have h1 : (Op.equalIn 9999 71 (.pointer (some a)) (.pointer (some a'))).run Try.prog w = .ok false w := run_ptr_other (w := w) 9998 hab ha hb
  have hp1 : (part 71 #[Value.pointer (some a), Value.pointer (some b), Value.int IntKind.i64 ↑n] 0).run Try.prog w = .ok (.pointer (some a)) w := by simp [part, isAgg, run_underlying Try.underlying71]
  have hp2 : (part 71 #[Value.pointer (some a'), Value.pointer (some b'), Value.int IntKind.i64 ↑n'] 0).run Try.prog w = .ok (.pointer (some a')) w := by simp [part, isAgg, run_underlying Try.underlying71]
  unfold Op.equal Op.maxDepth
  rw [show (10000 : Nat) = 9999 + 1 from rfl, Op.equalIn]
  simp only [keyV, Sem.run_bind, run_underlying Try.underlying91, Result.andThen_ok]
  simp [Try.placeHeld, hp1, hp2, h1]

theorem run_check_ptr {w : World} {e : Bool} (d : Nat) (p : Option Addr) : (Instr.checkKey e (d + 1) 71 (.pointer p)).run Try.prog w = .ok () w := by
  simp [Instr.checkKey, run_underlying Try.underlying71]
theorem run_check_int {w : World} {e : Bool} (d : Nat) (n : Int) : (Instr.checkKey e (d + 1) 3 (.int .i64 n)).run Try.prog w = .ok () w := by
  simp [Instr.checkKey, run_underlying Try.underlying3]
theorem run_check_key' {w : World} {e : Bool} {a b : Addr} {n : Nat} (d : Nat) : (Instr.checkKey e (d + 1 + 1) 91 (keyV a b n)).run Try.prog w = .ok () w := by
  have hp1 : (part 71 #[Value.pointer (some a), Value.pointer (some b), Value.int IntKind.i64 ↑n] 0).run Try.prog w = .ok (.pointer (some a)) w := by simp [part, isAgg, run_underlying Try.underlying71]
  have hp2 : (part 71 #[Value.pointer (some a), Value.pointer (some b), Value.int IntKind.i64 ↑n] 1).run Try.prog w = .ok (.pointer (some b)) w := by simp [part, isAgg, run_underlying Try.underlying71]
  have hp3 : (part 3 #[Value.pointer (some a), Value.pointer (some b), Value.int IntKind.i64 ↑n] 2).run Try.prog w = .ok (.int .i64 n) w := by simp [part, isAgg, run_underlying Try.underlying3]
  rw [Instr.checkKey]
  simp [keyV, run_underlying Try.underlying91, hp1, hp2, hp3, run_check_ptr, run_check_int]
theorem run_check_key {w : World} {e : Bool} {a b : Addr} {n : Nat} : (Instr.checkKey e 10000 91 (keyV a b n)).run Try.prog w = .ok () w := run_check_key' 9998

/-- The keys that were put in: their first places lie in blocks without a mark. -/
def KeysOk (w : World) (es : List MapEntry) (seen : List Nat) : Prop := ∀ x, x ∈ es → ∃ a b n, x.key = keyV a b n ∧ a.block ∈ seen ∧ BPlain w a.block

theorem run_find_none {w : World} {a b : Addr} {n : Nat} (ha : BPlain w a.block) : ∀ (es : List MapEntry) (seen : List Nat) (i : Nat), KeysOk w es seen → ¬ a.block ∈ seen → (Instr.findAsking 91 (keyV a b n) es i).run Try.prog w = .ok none w
  | [], _, _, _, _ => by simp [Instr.findAsking]
  | x :: es, seen, i, hk, hn => by
    obtain ⟨a', b', n', e, hm, hp⟩ := hk x (by simp)
    have h1 := run_find_none (b := b) (n := n) ha es seen (i + 1) (fun y hy => hk y (by simp [hy])) hn
    have h2 := run_key_other (w := w) (a := a) (b := b) (a' := a') (b' := b') (n := n) (n' := n') (fun e => hn (by rw [e]; exact hm)) ha hp
    simp [Instr.findAsking, e, h2, h1]

theorem run_findKey_none {w : World} {a b : Addr} {n : Nat} (ha : BPlain w a.block) (es : List MapEntry) (seen : List Nat) (hk : KeysOk w es seen) (hn : ¬ a.block ∈ seen) : (Instr.findKey 91 (keyV a b n) es).run Try.prog w = .ok none w := by
  have h := run_find_none (b := b) (n := n) ha es seen 0 hk hn
  cases es with
  | nil => simp [Instr.findKey, run_underlying Try.underlying91, Instr.findNow]
  | cons x es =>
    obtain ⟨a', b', n', e, hm, hp⟩ := hk x (by simp)
    simp only [Instr.findKey, Sem.run_bind, run_underlying Try.underlying91, Result.andThen_ok]
    rw [show Instr.findNow _ (keyV a b n) (x :: es) 0 = none by simp [Instr.findNow, Instr.sameNow, e, keyV]]
    exact h

theorem run_seen_no {w : World} {m clock : Nat} {es : Array MapEntry} {a b : Addr} {n : Nat} (hm : w.heap[m]? = some (.map es clock)) (ha : BPlain w a.block) (seen : List Nat) (hk : KeysOk w es.toList seen) (hn : ¬ a.block ∈ seen) :
    (Instr.lookup 86 (.map (some m)) (keyV a b n) true).run Try.prog w = .ok (.tuple #[.agg #[], .bool false]) w := by
  have h1 := run_findKey_none (b := b) (n := n) ha es.toList seen hk hn
  have h2 := fun e => run_check_key (w := w) (e := e) (a := a) (b := b) (n := n)
  have h3 : (zeroValue 92).run Try.prog w = .ok (.agg #[]) w := by
    obtain ⟨i48, hi48, hy0, hy1, hy2⟩ := info_parts Try.infoUnit
    simp [zeroValue, typeInfo, hi48, hy0]
  simp [Instr.lookup, run_underlying Try.underlying86, h1, h2, h3, getObj, Sem.run, hm]

theorem run_seen_put {w : World} {m clock : Nat} {es : Array MapEntry} {a b : Addr} {n : Nat} (hm : w.heap[m]? = some (.map es clock)) (ha : BPlain w a.block) (seen : List Nat) (hk : KeysOk w es.toList seen) (hn : ¬ a.block ∈ seen) (v : Value) :
    (Instr.mapUpdate 86 (.map (some m)) (keyV a b n) v).run Try.prog w = .ok () { w with heap := w.heap.setIfInBounds m (.map (es.push { key := keyV a b n, val := v, born := clock }) (clock + 1)) } := by
  have h1 := run_findKey_none (b := b) (n := n) ha es.toList seen hk hn
  have h2 := fun e => run_check_key (w := w) (e := e) (a := a) (b := b) (n := n)
  simp [Instr.mapUpdate, run_underlying Try.underlying86, h1, h2, getObj, setObj, Sem.run, hm]

end Go.Proofs.Ytpgiagkbfnbgkab
namespace Go.Proofs.Ytpgiagkbfnbgkab
open Go.Deep Go.RowKit
set_option linter.unusedVariables false
set_option maxRecDepth 20000

def sameF : Fo → Fo → Bool
  | .nil, .nil => true
  | .node _ _ x k r, .node _ _ y l q => (x.1.toList == y.1.toList && sameF k l) && sameF r q
  | _, _ => false
def sameT (s : ByteArray) (k : Fo) (s' : ByteArray) (k' : Fo) : Bool := s.toList == s'.toList && sameF k k'

/-- What is asked of SameTrees at a list of trees, in whatever world. -/
def SameAt (k : Fo) : Prop := ∀ (ka : Option Addr) (cap : Nat) (ka' : Option Addr) (cap' : Nat) (k' : Fo) (w : World), flen k ≤ maxLen → flen k' ≤ maxLen → KIn w ka k → KIn w ka' k' →
    Calls Try.prog 53 #[.slice ka (flen k) cap, .slice ka' (flen k') cap'] w fun e w' => e = .returned (.bool (sameF k k')) ∧ Below w.heap.size w w'

set_option maxHeartbeats 400000 in
theorem sameTree_of (k : Fo) (h : SameAt k) (s : ByteArray) (ka : Option Addr) (cap : Nat) (s' : ByteArray) (ka' : Option Addr) (cap' : Nat) (k' : Fo) (w : World) (ht : TIn w s ka cap k) (ht' : TIn w s' ka' cap' k') :
    Calls Try.prog 26 #[.agg #[.string s, .slice ka (flen k) cap], .agg #[.string s', .slice ka' (flen k') cap']] w fun e w' => e = .returned (.bool (sameT s k s' k')) ∧ Below w.heap.size w w' := by
  have hbox : Below w.heap.size w ((w.alloc (Obj.cells #[Value.string s, Value.slice ka (flen k) cap] 24)).alloc (Obj.cells #[Value.string s', Value.slice ka' (flen k') cap'] 24)) :=
    ((Below.refl _ _).alloc (Nat.le_refl _) _).alloc (by simp) _
  have hl := Nat.le_trans ht.len ht.cap
  have hl' := Nat.le_trans ht'.len ht'.cap
  have hk := ht.kids.below hbox
  have hk' := ht'.kids.below hbox
  by_cases hs : s.toList = s'.toList
  · have hs1 : (s.toList == s'.toList) = true := beq_iff_eq.2 hs
    clear hs
    go_enter Try.func26, Try.ntmps26
    go_wp2_with fail
    refine (h _ _ _ _ _ _ hl hl' hk hk').mono ?_
    rintro e w1 ⟨rfl, hb1⟩
    go_wp2_with fail
    go_ret
    exact ⟨ret_bool (by simp [sameT, hs1]), hbox.trans (hb1.mono hbox.size)⟩
  · have hs1 : (s.toList == s'.toList) = false := beq_eq_false_iff_ne.2 hs
    clear hs
    go_enter Try.func26, Try.ntmps26
    go_wp2_with fail
    go_ret
    exact ⟨ret_bool (by simp [sameT, hs1]), hbox⟩

theorem sameF_len : ∀ (k l : Fo), sameF k l = true → flen k = flen l
  | .nil, .nil, _ => rfl
  | .nil, .node _ _ _ _ _, h => by simp [sameF] at h
  | .node _ _ _ _ _, .nil, h => by simp [sameF] at h
  | .node _ _ _ _ r, .node _ _ _ _ q, h => by
    simp only [sameF, Bool.and_eq_true] at h
    simp [flen, sameF_len r q h.2]

theorem sameF_step {k l : Fo} {j b o b' o' : Nat} {x y : ByteArray × Option Addr × Nat} {kk ll : Fo} (h : fdrop j k = .node b o x kk (fdrop (j + 1) k)) (h' : fdrop j l = .node b' o' y ll (fdrop (j + 1) l)) :
    sameF (fdrop j k) (fdrop j l) = (sameT x.1 kk y.1 ll && sameF (fdrop (j + 1) k) (fdrop (j + 1) l)) := by
  rw [h, h']; rfl

set_option maxHeartbeats 800000 in
theorem sameTrees_N : ∀ (N : Nat) (k : Fo), fnodes k < N → SameAt k := by
  intro N
  induction N with
  | zero => intro k hN; exact absurd hN (Nat.not_lt_zero _)
  | succ N ih =>
    intro k hN ka cap ka' cap' k' w hl hl' hk hk'
    have HI := hide ih; clear ih
    unfold maxLen at hl hl'
    by_cases hlen : flen k = flen k'
    · have hle : ((flen k : Int) != (flen k' : Int)) = false := by rw [hlen]; simp
      have HL := hide hlen
      clear hlen
      go_enter Try.func53, Try.ntmps53
      go_wp2_with fail
      go_loopw [5] (fun i wr => ∃ j : Nat, j ≤ flen k ∧ i = .int .i64 j ∧ Hid (sameF k k' = sameF (fdrop j k) (fdrop j k')) ∧ Below w.heap.size w wr) (fun i _ => flen k - (intOf i).toNat)
      case atStart => exact ⟨0, Nat.zero_le _, rfl, rfl, Below.refl _ _⟩
      case round =>
        obtain ⟨j, hj, rfl, hF, hb⟩ := hrel
        obtain ⟨hcell, hfr⟩ := bcell hb
        by_cases hlt : j < flen k
        · rcases hk with rfl | ⟨kb, ko, rfl, hk⟩
          · exact absurd hlt (Nat.not_lt_zero _)
          have hlt' : j < flen k' := by have := HL.out; omega
          rcases hk' with rfl | ⟨kb', ko', rfl, hk'⟩
          · exact absurd hlt' (Nat.not_lt_zero _)
          obtain ⟨b1, o1, x, kk, he, hc0, hc1, htin, hbb⟩ := hk.at hlt
          obtain ⟨b2, o2, y, ll, he', hd0, hd1, htin', hbb'⟩ := hk'.at hlt'
          have HE := hide he
          have HF := hide (sameF_step he he')
          clear he he'
          have hn : fnodes kk < N := by have := fnodes_of_drop HE.out; omega
          have hS : ∀ w', Below w.heap.size w w' → (w'.cell? ⟨kb, ko + j * 2, none⟩ = some (.string x.1) ∧ w'.cell? ⟨kb, ko + j * 2 + 1, none⟩ = some (.slice x.2.1 (flen kk) x.2.2) ∧
              w'.cell? ⟨kb', ko' + j * 2, none⟩ = some (.string y.1) ∧ w'.cell? ⟨kb', ko' + j * 2 + 1, none⟩ = some (.slice y.2.1 (flen ll) y.2.2)) := fun w' h =>
            ⟨(h.cell hbb).trans hc0, (h.cell hbb).trans hc1, (h.cell hbb').trans hd0, (h.cell hbb').trans hd1⟩
          have HS := hide hS
          clear hS
          cases hq : sameT x.1 kk y.1 ll
          · have HQ := hide hq
            clear hq
            go_wp2_with fail
            go_region_held3 (fun w' => w'.cell? ⟨kb, ko + j * 2, none⟩ = some (.string x.1) ∧ w'.cell? ⟨kb, ko + j * 2 + 1, none⟩ = some (.slice x.2.1 (flen kk) x.2.2) ∧
                w'.cell? ⟨kb', ko' + j * 2, none⟩ = some (.string y.1) ∧ w'.cell? ⟨kb', ko' + j * 2 + 1, none⟩ = some (.slice y.2.1 (flen ll) y.2.2))
              (first | exact HS.out _ hb.drew | exact HS.out _ (hb.drew.trans (hb1.mono hb.drew.size)))
              ((go_at_call 26; refine (sameTree_of _ (HI.out _ hn) _ _ _ _ _ _ _ _ (htin.below hb.drew) (htin'.below hb.drew)).mono ?_; rintro e w1 ⟨rfl, hb1⟩; rw [HQ.out]))
            go_wp2_with fail
            go_ret
            exact ⟨ret_bool (by have h1 := hF.out; have h2 := HF.out; rw [h1, h2, show sameT x.1 kk y.1 ll = false from HQ.out]; rfl), hb.drew.trans (hb1.mono hb.drew.size)⟩
          · have HQ := hide hq
            clear hq
            go_wp2_with fail
            go_region_held3 (fun w' => w'.cell? ⟨kb, ko + j * 2, none⟩ = some (.string x.1) ∧ w'.cell? ⟨kb, ko + j * 2 + 1, none⟩ = some (.slice x.2.1 (flen kk) x.2.2) ∧
                w'.cell? ⟨kb', ko' + j * 2, none⟩ = some (.string y.1) ∧ w'.cell? ⟨kb', ko' + j * 2 + 1, none⟩ = some (.slice y.2.1 (flen ll) y.2.2))
              (first | exact HS.out _ hb.drew | exact HS.out _ (hb.drew.trans (hb1.mono hb.drew.size)))
              ((go_at_call 26; refine (sameTree_of _ (HI.out _ hn) _ _ _ _ _ _ _ _ (htin.below hb.drew) (htin'.below hb.drew)).mono ?_; rintro e w1 ⟨rfl, hb1⟩; rw [HQ.out]))
            have hb2 : Below w.heap.size w w1 := hb.drew.trans (hb1.mono hb.drew.size)
            go_wp2_with fail
            go_roundw
            case rel => exact ⟨j + 1, by omega, by go_num, by have h1 := hF.out; have h2 := HF.out; rw [h1, h2, show sameT x.1 kk y.1 ll = true from HQ.out]; rfl, hb2⟩
            case measure => simp [intOf]; omega
        · go_wp2_with fail
          go_ret
          exact ⟨ret_bool (by have h1 := hF.out; have h2 := HL.out; rw [fdrop_end j k (by omega), fdrop_end j k' (by omega)] at h1; rw [h1]; rfl), hb⟩
    · have hle : ((flen k : Int) != (flen k' : Int)) = true := by simp; omega
      have HL := hide hlen
      clear hlen
      go_enter Try.func53, Try.ntmps53
      go_wp2_with fail
      go_ret
      exact ⟨ret_bool (by have h := HL.out; cases hq : sameF k k' with | false => rfl | true => exact absurd (sameF_len _ _ hq) h), Below.refl _ _⟩

theorem sameTrees_any (k : Fo) : SameAt k := sameTrees_N _ k (Nat.lt_succ_self _)

theorem sameTree_any (s : ByteArray) (ka : Option Addr) (cap : Nat) (k : Fo) (s' : ByteArray) (ka' : Option Addr) (cap' : Nat) (k' : Fo) (w : World) (ht : TIn w s ka cap k) (ht' : TIn w s' ka' cap' k') :
    Calls Try.prog 26 #[.agg #[.string s, .slice ka (flen k) cap], .agg #[.string s', .slice ka' (flen k') cap']] w fun e w' => e = .returned (.bool (sameT s k s' k')) ∧ Below w.heap.size w w' :=
  sameTree_of k (sameTrees_any k) s ka cap s' ka' cap' k' w ht ht'

end Go.Proofs.Ytpgiagkbfnbgkab
namespace Go.Proofs.Ytpgiagkbfnbgkab
open Go.Deep Go.RowKit
set_option linter.unusedVariables false
set_option maxRecDepth 20000

/-- A pair of lists: address, capacity, what lies there. -/
abbrev Tw := (Addr × Nat × Fo) × (Addr × Nat × Fo)
def twCells (t : Tw) : List Value := [.slice (some t.1.1) (flen t.1.2.2) t.1.2.1, .slice (some t.2.1) (flen t.2.2.2) t.2.2.1]
def twRow : List Tw → List Value
  | [] => []
  | t :: l => twCells t ++ twRow l
theorem twRow_append : ∀ (l : List Tw) (t : Tw), twRow (l ++ [t]) = twRow l ++ twCells t
  | [], t => by simp [twRow]
  | a :: l, t => by simp [twRow, twRow_append l t]
theorem twRow_length : ∀ l : List Tw, (twRow l).length = l.length * 2
  | [] => rfl
  | a :: l => by simp [twRow, twCells, twRow_length l]; omega
theorem twRow_last (l : List Tw) (t : Tw) : (twRow (l ++ [t]))[l.length * 2]? = some (.slice (some t.1.1) (flen t.1.2.2) t.1.2.1) ∧ (twRow (l ++ [t]))[l.length * 2 + 1]? = some (.slice (some t.2.1) (flen t.2.2.2) t.2.2.1) := by
  rw [twRow_append, ← twRow_length l]
  simp [twCells]

structure TwOk (m : Nat) (w : World) (t : Tw) : Prop where
  spotA : t.1.1.spot = none
  spotB : t.2.1.spot = none
  liesA : FIn w t.1.2.2 t.1.1.block t.1.1.off
  liesB : FIn w t.2.2.2 t.2.1.block t.2.1.off
  long : flen t.2.2.2 = flen t.1.2.2
  pos : 0 < flen t.1.2.2
  capA : flen t.1.2.2 ≤ t.1.2.1 ∧ t.1.2.1 ≤ maxLen
  capB : flen t.2.2.2 ≤ t.2.2.1 ∧ t.2.2.1 ≤ maxLen
  plain : FPlain w t.1.2.2
  offA : FOff m t.1.2.2
  offB : FOff m t.2.2.2

def sameTw (l : List Tw) : Bool := l.all fun t => sameF t.1.2.2 t.2.2.2
def totTw : List Tw → Nat
  | [] => 0
  | t :: l => fnodes t.1.2.2 + totTw l
theorem totTw_append : ∀ (a b : List Tw), totTw (a ++ b) = totTw a + totTw b
  | [], b => by simp [totTw]
  | p :: a, b => by simp [totTw, totTw_append a b]; omega
theorem totTw_len : ∀ l : List Tw, (∀ t, t ∈ l → 0 < flen t.1.2.2) → l.length ≤ totTw l
  | [], _ => Nat.le_refl _
  | p :: l, h => by
    have h1 := totTw_len l (fun q hq => h q (by simp [hq]))
    have h2 := h p (by simp)
    have h3 := flen_le_nodes p.1.2.2
    simp [totTw]
    omega
def abTw (l : List Tw) : List Nat := l.flatMap fun t => ab t.1.2.2
theorem abTw_append (a b : List Tw) : abTw (a ++ b) = abTw a ++ abTw b := by simp [abTw]

structure SInv (T m : Nat) (w1 wr : World) (v : Value) (tws : List Tw) (seen : List Nat) (more : List Nat) : Prop where
  each : ∀ t, t ∈ tws → TwOk m w1 t
  row : wr.ownsRow w1.heap.size T 2 v tws.length (twRow tws)
  map : ∃ es clock, wr.heap[m]? = some (.map es clock) ∧ KeysOk wr es.toList seen
  nod : (seen ++ (abTw tws ++ more)).Nodup
  keeps : Keeps [m] w1 wr
  mlt : m < w1.heap.size
  slt : ∀ b, b ∈ seen → b < w1.heap.size

theorem SInv.lastCells {T m g cap : Nat} {w1 wr : World} {tws : List Tw} {t : Tw} {seen more : List Nat} (h : SInv T m w1 wr (.slice (some ⟨g, 0, none⟩) (tws.length + 1) cap) (tws ++ [t]) seen more) :
    wr.cell? ⟨g, tws.length * 2, none⟩ = some (.slice (some t.1.1) (flen t.1.2.2) t.1.2.1) ∧ wr.cell? ⟨g, tws.length * 2 + 1, none⟩ = some (.slice (some t.2.1) (flen t.2.2.2) t.2.2.1) := by
  have hr := h.row
  simp only [List.length_append, List.length_cons, List.length_nil] at hr
  have hl := twRow_last tws t
  have h1 := ownsRow_cell hr _ _ hl.1
  have h2 := ownsRow_cell hr _ _ hl.2
  rw [Nat.zero_add] at h1 h2
  exact ⟨h1, h2⟩

/-- The last pair is taken, and its first place is put into the map. -/
theorem SInv.taken {T m g cap : Nat} {w1 wr W : World} {tws : List Tw} {t : Tw} {seen more : List Nat} (h : SInv T m w1 wr (.slice (some ⟨g, 0, none⟩) (tws.length + 1) cap) (tws ++ [t]) seen more) (hW : Below wr.heap.size wr W) (vv : Value) :
    BPlain W t.1.1.block ∧ (∃ es clock, W.heap[m]? = some (.map es clock) ∧ KeysOk W es.toList seen) ∧ ¬ t.1.1.block ∈ seen := by
  obtain ⟨es, clock, hm, hk⟩ := h.map
  have hok := h.each t (by simp)
  obtain ⟨⟨A, cA, FA⟩, ⟨B, cB, FB⟩⟩ := t
  have hkeep := h.keeps
  refine ⟨?_, ⟨es, clock, by rw [hW.block m (Nat.lt_of_lt_of_le h.mlt hkeep.size)]; exact hm, fun x hx => ?_⟩, ?_⟩
  · cases FA with
    | nil => have := hok.pos; simp [flen] at this
    | node b o x k r =>
      have hb : b = A.block := hok.liesA.1
      have hp := hok.plain.1
      have hlt := BPlain.lt hp
      obtain ⟨c, e, hp'⟩ := hp
      refine ⟨c, e, ?_⟩
      show W.heap[A.block]? = _
      rw [hW.block _ (by rw [← hb]; exact Nat.lt_of_lt_of_le hlt hkeep.size), ← hb, hkeep.block b hlt (by have := hok.offA.1; simpa using this)]
      exact hp'
  · obtain ⟨a, b, n, e, hmem, hp⟩ := hk x hx
    exact ⟨a, b, n, e, hmem, hp.below hW⟩
  · intro hmem
    have hn := h.nod
    have hab : A.block ∈ abTw (tws ++ [((A, cA, FA), (B, cB, FB))]) := by
      rw [abTw_append]
      cases FA with
      | nil => have := hok.pos; simp [flen] at this
      | node b o x k r =>
        have hb : b = A.block := hok.liesA.1
        simp [abTw, ab, hb, Go.Proofs.Ytpgiagkbfnbgkab.hb]
    exact (List.nodup_append.1 hn).2.2 _ hmem _ (List.mem_append_left _ hab) rfl

/-- The map with one more key. -/
theorem keys_push {w w2 : World} {m clock : Nat} {es : Array MapEntry} {seen : List Nat} {a b : Addr} {n : Nat} {vv : Value} (hk : KeysOk w es.toList seen) (ha : BPlain w a.block) (hs : ∀ q, q ≠ m → w2.heap[q]? = w.heap[q]?) (hm : w.heap[m]? = some (.map es clock)) :
    KeysOk w2 (es.push { key := keyV a b n, val := vv, born := clock }).toList (seen ++ [a.block]) := by
  have hne : ∀ q, BPlain w q → q ≠ m := fun q ⟨c, e, h⟩ he => by subst he; rw [hm] at h; cases h
  have hpl : ∀ q, BPlain w q → BPlain w2 q := fun q h => by
    have := hs q (hne q h)
    obtain ⟨c, e, h⟩ := h
    exact ⟨c, e, by rw [this]; exact h⟩
  intro x hx
  rw [Array.toList_push] at hx
  rcases List.mem_append.1 hx with hx | hx
  · obtain ⟨a', b', n', e, hmem, hp⟩ := hk x hx
    exact ⟨a', b', n', e, by simp [hmem], hpl _ hp⟩
  · have : x = { key := keyV a b n, val := vv, born := clock } := by simpa using hx
    subst this
    exact ⟨a, b, n, rfl, by simp, hpl _ ha⟩

theorem sameTw_append (a b : List Tw) : sameTw (a ++ b) = (sameTw a && sameTw b) := by simp [sameTw]
theorem sameTw_one (t : Tw) : sameTw [t] = sameF t.1.2.2 t.2.2.2 := by simp [sameTw]
theorem lb_step {f kk : Fo} {j b o : Nat} {x : ByteArray × Option Addr × Nat} (h : fdrop j f = .node b o x kk (fdrop (j + 1) f)) : lb (fdrop j f) = ab kk ++ lb (fdrop (j + 1) f) := by
  rw [h]; rfl
theorem tot_step {f kk : Fo} {j b o : Nat} {x : ByteArray × Option Addr × Nat} (h : fdrop j f = .node b o x kk (fdrop (j + 1) f)) : fnodes (fdrop j f) = fnodes kk + fnodes (fdrop (j + 1) f) + 1 := by
  rw [h]; rfl
theorem same_no {x y : ByteArray × Option Addr × Nat} {kk ll : Fo} (h : x.1.toList ≠ y.1.toList ∨ flen kk ≠ flen ll) : sameT x.1 kk y.1 ll = false := by
  rcases h with h | h
  · simp [sameT, beq_eq_false_iff_ne.2 h]
  · cases hq : sameF kk ll with
    | false => simp [sameT, hq]
    | true => exact absurd (sameF_len _ _ hq) h
theorem same_kids {x y : ByteArray × Option Addr × Nat} {kk ll : Fo} (h : x.1.toList = y.1.toList) : sameT x.1 kk y.1 ll = sameF kk ll := by
  simp [sameT, h]
theorem nil_of_len {f : Fo} (h : flen f = 0) : f = .nil := by
  cases f with
  | nil => rfl
  | node _ _ _ _ _ => simp [flen] at h
theorem TwOk.kid {m : Nat} {w : World} {A B : Addr} {cA cB : Nat} {FA FB : Fo} (h : TwOk m w ((A, cA, FA), (B, cB, FB))) {j b o b' o' : Nat} {x y : ByteArray × Option Addr × Nat} {kk ll r r' : Fo} {A' B' : Addr}
    (he : fdrop j FA = .node b o x kk r) (he' : fdrop j FB = .node b' o' y ll r') (hx : x.2.1 = some A') (hy : y.2.1 = some B') (hpos : 0 < flen kk) (hl : flen ll = flen kk) : TwOk m w ((A', x.2.2, kk), (B', y.2.2, ll)) := by
  have l1 := FIn.drop j h.liesA
  have l2 := FIn.drop j h.liesB
  have p1 := FPlain.drop j h.plain
  have o1 := foff_drop j h.offA
  have o2 := foff_drop j h.offB
  simp only at l1 l2 p1 o1 o2
  rw [he] at l1 p1 o1
  rw [he'] at l2 o2
  obtain ⟨_, _, t1, _⟩ := l1.head
  obtain ⟨_, _, t2, _⟩ := l2.head
  rcases t1.kids with hk | ⟨kb, ko, e, hk⟩
  · rw [hk] at hpos; simp [flen] at hpos
  rcases t2.kids with hk2 | ⟨kb2, ko2, e2, hk2⟩
  · rw [hk2] at hl; simp [flen] at hl; omega
  rw [hx] at e
  rw [hy] at e2
  simp only [Option.some.injEq] at e e2
  subst e e2
  exact ⟨rfl, rfl, hk, hk2, hl, hpos, ⟨t1.len, t1.cap⟩, ⟨t2.len, t2.cap⟩, p1.2.1, o1.2.1, o2.2.1⟩
theorem tw_news (w : World) (T : TypeId) (t : Tw) (j : Nat) (u : Value) (h : (twCells t)[j]? = some u) : (w.alloc (Obj.cells #[.slice (some t.1.1) (flen t.1.2.2) t.1.2.1, .slice (some t.2.1) (flen t.2.2.2) t.2.2.1] T)).cell? ((⟨w.heap.size, 0, none⟩ : Addr).add j) = some u := by
  refine World.news_of_block (cs := #[.slice (some t.1.1) (flen t.1.2.2) t.1.2.1, .slice (some t.2.1) (flen t.2.2.2) t.2.2.1]) (t := T) (fr := (0, 0)) ?_ j u h
  show (w.heap.push _)[w.heap.size]? = _
  simp
theorem tw_news' (w : World) (T : TypeId) (t : Tw) (n : Nat) (hn : w.heap.size = n) (j : Nat) (u : Value) (h : (twCells t)[j]? = some u) : (w.alloc (Obj.cells #[.slice (some t.1.1) (flen t.1.2.2) t.1.2.1, .slice (some t.2.1) (flen t.2.2.2) t.2.2.1] T)).cell? ((⟨n, 0, none⟩ : Addr).add j) = some u := by
  subst hn
  exact tw_news w T t j u h
theorem tw_one (t : Tw) : ∀ u ∈ twCells t, u.oneCell' = true := by
  intro u hu
  simp [twCells] at hu
  rcases hu with rfl | rfl <;> rfl

theorem SInv.on {T m : Nat} {w1 wr w2 : World} {v : Value} {tws : List Tw} {seen more : List Nat} (h : SInv T m w1 wr v tws seen more) (hb : Below wr.heap.size wr w2) : SInv T m w1 w2 v tws seen more := by
  obtain ⟨es, clock, hm, hk⟩ := h.map
  refine ⟨h.each, ownsRow_below h.row hb, ⟨es, clock, by rw [hb.block m (Nat.lt_of_lt_of_le h.mlt h.keeps.size)]; exact hm, fun x hx => ?_⟩, h.nod, h.keeps.trans (Keeps.of_below hb), h.mlt, h.slt⟩
  obtain ⟨a, b, n, e, hmem, hp⟩ := hk x hx
  exact ⟨a, b, n, e, hmem, hp.below hb⟩

/-- Behind the taking: the pair is none of those any more, its first place is in the map, the lists beneath it are still to come. -/
theorem SInv.start {T m g cap clock : Nat} {w1 wr W w2 : World} {tws : List Tw} {t : Tw} {seen : List Nat} {es : Array MapEntry} {b : Addr} {n : Nat} {vv : Value} (h : SInv T m w1 wr (.slice (some ⟨g, 0, none⟩) (tws.length + 1) cap) (tws ++ [t]) seen []) (hW : Below wr.heap.size wr W)
    (hm : W.heap[m]? = some (.map es clock)) (hk : KeysOk W es.toList seen) (hp : BPlain W t.1.1.block) (hw2 : w2 = { W with heap := W.heap.setIfInBounds m (.map (es.push { key := keyV t.1.1 b n, val := vv, born := clock }) (clock + 1)) }) :
    SInv T m w1 w2 (.slice (some ⟨g, 0, none⟩) tws.length cap) tws (seen ++ [t.1.1.block]) (lb t.1.2.2) ∧ (∀ q, q ≠ m → w2.heap[q]? = W.heap[q]?) ∧ w2.heap.size = W.heap.size := by
  have hoth : ∀ q, q ≠ m → w2.heap[q]? = W.heap[q]? := fun q hq => by
    rw [hw2]
    exact Array.getElem?_setIfInBounds_ne (Ne.symm hq)
  have hsz : w2.heap.size = W.heap.size := by rw [hw2]; simp
  have hmW : m < W.heap.size := by
    rcases Nat.lt_or_ge m W.heap.size with h' | h'
    · exact h'
    · rw [Array.getElem?_eq_none h'] at hm; cases hm
  have hkW : Keeps [m] wr w2 := ⟨by rw [hw2]; exact hW.os, by rw [hw2]; exact hW.tape, by rw [hw2]; exact hW.output, by rw [hsz]; exact hW.size, fun q hq hn => by
    rw [hoth q (by simpa using hn)]
    exact hW.block q hq⟩
  have hr := h.row
  simp only [List.length_append, List.length_cons, List.length_nil, twRow_append] at hr
  have hpop := own_pop hr (by rw [twRow_length])
  have hok := h.each t (by simp)
  refine ⟨⟨fun q hq => h.each q (by simp [hq]), ownsRow_block hpop fun q hq => ?_, ⟨es.push { key := keyV t.1.1 b n, val := vv, born := clock }, clock + 1, ?_, keys_push hk hp hoth hm⟩, ?_, h.keeps.trans hkW, h.mlt, fun q hq => ?_⟩, hoth, hsz⟩
  · obtain ⟨h1, h2⟩ := ownBlock_lt hpop hq
    have := h.mlt
    rw [hoth q (by omega), hW.block q h2]
  · rw [hw2]
    simp [hmW]
  · have hn := h.nod
    rw [List.append_nil, abTw_append] at hn
    have e : abTw [t] = t.1.1.block :: lb t.1.2.2 := by
      obtain ⟨⟨A, cA, FA⟩, ⟨B, cB, FB⟩⟩ := t
      cases FA with
      | nil => have := hok.pos; simp [flen] at this
      | node b' o x k r =>
        have hb : b' = A.block := hok.liesA.1
        simp [abTw, ab, hb, Go.Proofs.Ytpgiagkbfnbgkab.hb]
    rw [e] at hn
    refine (List.Perm.nodup_iff ?_).1 hn
    rw [List.append_assoc]
    refine List.Perm.append_left seen ?_
    rw [List.singleton_append]
    exact List.perm_middle
  · rcases List.mem_append.1 hq with hq | hq
    · exact h.slt q hq
    · have : q = t.1.1.block := by simpa using hq
      subst this
      obtain ⟨⟨A, cA, FA⟩, ⟨B, cB, FB⟩⟩ := t
      cases FA with
      | nil => have := hok.pos; simp [flen] at this
      | node b' o x k r => exact World.block_lt_of_cell? w1 ⟨A.block, A.off, none⟩ hok.liesA.head.1

/-- A pair more comes. -/
theorem SInv.push {T m gv cap : Nat} {w1 wr w3 : World} {v : Value} {tws : List Tw} {seen more : List Nat} {p : Tw} {ob : Obj} (h : SInv T m w1 wr v tws seen (ab p.1.2.2 ++ more)) (hp : TwOk m w1 p)
    (hown : w3.ownsRow w1.heap.size T 2 (.slice (some ⟨gv, 0, none⟩) (tws.length + 1) cap) (tws.length + 1) (twRow tws ++ twCells p)) (hgrow : (wr.alloc ob).grownBy w3 v.ownBlock) :
    SInv T m w1 w3 (.slice (some ⟨gv, 0, none⟩) (tws.length + 1) cap) (tws ++ [p]) seen more := by
  obtain ⟨es, clock, hm, hk⟩ := h.map
  have hsame : ∀ q, q < w1.heap.size → w3.heap[q]? = wr.heap[q]? := fun q hq => by
    have hlt := Nat.lt_of_lt_of_le hq h.keeps.size
    rw [hgrow.block q (by simp; omega) (fun e => by have := (ownBlock_lt h.row e.symm).1; omega), Below.heap_alloc _ _ _ hlt]
  have hb3 : Below w1.heap.size wr w3 := ((Below.refl _ _).alloc h.keeps.size _).grown hgrow (by have := h.keeps.size; simp; omega) fun q hq => (ownBlock_lt h.row hq).1
  refine ⟨fun t ht => ?_, by simpa [twRow_append] using hown, ⟨es, clock, by rw [hsame m h.mlt]; exact hm, fun x hx => ?_⟩, by simpa [abTw, List.append_assoc] using h.nod, h.keeps.below hb3, h.mlt, h.slt⟩
  · rcases List.mem_append.1 ht with ht | ht
    · exact h.each t ht
    · have : t = p := by simpa using ht
      subst this
      exact hp
  · obtain ⟨a, b, n, e, hmem, hpl⟩ := hk x hx
    refine ⟨a, b, n, e, hmem, ?_⟩
    obtain ⟨c, t, hc⟩ := hpl
    exact ⟨c, t, by rw [hsame a.block (h.slt _ hmem)]; exact hc⟩

end Go.Proofs.Ytpgiagkbfnbgkab
namespace Go.Proofs.Ytpgiagkbfnbgkab
open Go.Deep Go.RowKit
set_option linter.unusedVariables false
set_option maxRecDepth 20000

theorem Try.infoTwins : (Try.prog.info? 88).map (fun i => (i.zero, i.size, i.bytes)) = some (some (.agg #[.slice none 0 0, .slice none 0 0]), 2, 48) := by kernel_rfl

set_option maxHeartbeats 1600000 in
set_option maxRecDepth 100000 in
theorem same_any (s : ByteArray) (ka : Option Addr) (cap : Nat) (k : Fo) (s' : ByteArray) (ka' : Option Addr) (cap' : Nat) (k' : Fo) (w : World) (ht : TIn w s ka cap k) (ht' : TIn w s' ka' cap' k') (hp : FPlain w k) (hd : (ab k).Nodup) (hn : 1 + fnodes k ≤ 200) :
    Calls Try.prog 41 #[.agg #[.string s, .slice ka (flen k) cap], .agg #[.string s', .slice ka' (flen k') cap']] w fun e w' => e = .returned (.bool (sameT s k s' k')) ∧ Below w.heap.size w w' := by
  obtain ⟨i43, hi43, hy0', hy1', hy2'⟩ := info_parts Try.infoTwins
  go_enter Try.func41, Try.ntmps41
  have hmm : ∀ W : World, (Instr.makeMap 86 none).run Try.prog W = .ok (.map (some W.heap.size)) (W.alloc (.map #[] 0)) := fun W => by
    rfl
  obtain ⟨w1, hw1⟩ : ∃ w1, w1 = ((((w.alloc (Obj.cells #[Value.string s, Value.slice ka (flen k) cap] 24)).alloc (Obj.cells #[Value.string s', Value.slice ka' (flen k') cap'] 24)).alloc (Obj.map #[] 0)).alloc (Obj.cells #[Value.string s, Value.slice ka (flen k) cap] 24)).alloc (Obj.cells #[Value.string s', Value.slice ka' (flen k') cap'] 24) := ⟨_, rfl⟩
  have hw1b : Below w.heap.size w w1 := by
    rw [hw1]
    exact (((((Below.refl _ _).alloc (Nat.le_refl _) _).alloc (by simp) _).alloc (by simp; omega) _).alloc (by simp; omega) _).alloc (by simp; omega) _
  have hw1s : w.heap.size + 5 ≤ w1.heap.size := by rw [hw1]; simp
  have hstart : SInv 88 (w.heap.size + 1 + 1) w1 (w1.alloc (Obj.cells #[Value.slice (some ⟨w.heap.size + 1 + 1 + 1, 0, none⟩) 1 1, Value.slice (some ⟨w.heap.size + 1 + 1 + 1 + 1, 0, none⟩) 1 1] 88)) (.slice (some ⟨w.heap.size + 1 + 1 + 1 + 1 + 1, 0, none⟩) 1 1)
      [((⟨w.heap.size + 1 + 1 + 1, 0, none⟩, 1, .node (w.heap.size + 1 + 1 + 1) 0 (s, ka, cap) k .nil), (⟨w.heap.size + 1 + 1 + 1 + 1, 0, none⟩, 1, .node (w.heap.size + 1 + 1 + 1 + 1) 0 (s', ka', cap') k' .nil))] [] [] := by
    have hm0 : w1.heap[w.heap.size + 1 + 1]? = some (.map #[] 0) := by
      have e : ((w.alloc (Obj.cells #[Value.string s, Value.slice ka (flen k) cap] 24)).alloc (Obj.cells #[Value.string s', Value.slice ka' (flen k') cap'] 24)).heap.size = w.heap.size + 1 + 1 := by simp
      have h := heap_alloc_new ((w.alloc (Obj.cells #[Value.string s, Value.slice ka (flen k) cap] 24)).alloc (Obj.cells #[Value.string s', Value.slice ka' (flen k') cap'] 24)) (Obj.map #[] 0)
      rw [e] at h
      rw [hw1, Below.heap_alloc _ _ _ (by simp), Below.heap_alloc _ _ _ (by simp)]
      exact h
    have hA0 : w1.heap[w.heap.size + 1 + 1 + 1]? = some (.cells #[Value.string s, Value.slice ka (flen k) cap] 24) := by
      have e : (((w.alloc (Obj.cells #[Value.string s, Value.slice ka (flen k) cap] 24)).alloc (Obj.cells #[Value.string s', Value.slice ka' (flen k') cap'] 24)).alloc (Obj.map #[] 0)).heap.size = w.heap.size + 1 + 1 + 1 := by simp
      have h := heap_alloc_new (((w.alloc (Obj.cells #[Value.string s, Value.slice ka (flen k) cap] 24)).alloc (Obj.cells #[Value.string s', Value.slice ka' (flen k') cap'] 24)).alloc (Obj.map #[] 0)) (Obj.cells #[Value.string s, Value.slice ka (flen k) cap] 24)
      rw [e] at h
      rw [hw1, Below.heap_alloc _ _ _ (by simp)]
      exact h
    have hB0 : w1.heap[w.heap.size + 1 + 1 + 1 + 1]? = some (.cells #[Value.string s', Value.slice ka' (flen k') cap'] 24) := by
      have e : ((((w.alloc (Obj.cells #[Value.string s, Value.slice ka (flen k) cap] 24)).alloc (Obj.cells #[Value.string s', Value.slice ka' (flen k') cap'] 24)).alloc (Obj.map #[] 0)).alloc (Obj.cells #[Value.string s, Value.slice ka (flen k) cap] 24)).heap.size = w.heap.size + 1 + 1 + 1 + 1 := by simp
      have h := heap_alloc_new ((((w.alloc (Obj.cells #[Value.string s, Value.slice ka (flen k) cap] 24)).alloc (Obj.cells #[Value.string s', Value.slice ka' (flen k') cap'] 24)).alloc (Obj.map #[] 0)).alloc (Obj.cells #[Value.string s, Value.slice ka (flen k) cap] 24)) (Obj.cells #[Value.string s', Value.slice ka' (flen k') cap'] 24)
      rw [e] at h
      rw [hw1]
      exact h
    have hn2 : w1.heap.size = w.heap.size + 1 + 1 + 1 + 1 + 1 := by rw [hw1]; simp
    have hrA : FIn w1 (.node (w.heap.size + 1 + 1 + 1) 0 (s, ka, cap) k .nil) (w.heap.size + 1 + 1 + 1) 0 :=
      ⟨rfl, rfl, by rw [cell_of_row w1 _ 0 _ _ _ hA0]; rfl, by rw [cell_of_row w1 _ (0 + 1) _ _ _ hA0]; rfl, ht.size, ht.len, ht.cap, ht.kids.below hw1b, trivial⟩
    have hrB : FIn w1 (.node (w.heap.size + 1 + 1 + 1 + 1) 0 (s', ka', cap') k' .nil) (w.heap.size + 1 + 1 + 1 + 1) 0 :=
      ⟨rfl, rfl, by rw [cell_of_row w1 _ 0 _ _ _ hB0]; rfl, by rw [cell_of_row w1 _ (0 + 1) _ _ _ hB0]; rfl, ht'.size, ht'.len, ht'.cap, ht'.kids.below hw1b, trivial⟩
    refine ⟨fun t htm => ?_, ⟨rfl, Or.inr ⟨w.heap.size + 1 + 1 + 1 + 1 + 1, 1, _, rfl, by omega, by rw [← hn2]; exact heap_alloc_new _ _, by simp, by simp [maxLen], rfl, by simp [twRow, twCells, flen]⟩⟩, ⟨#[], 0, by rw [Below.heap_alloc _ _ _ (by omega)]; exact hm0, fun x hx => by simp at hx⟩, ?_, Keeps.of_below ((Below.refl _ _).alloc (Nat.le_refl _) _), by omega, fun b hb => by simp at hb⟩
    · have : t = ((⟨w.heap.size + 1 + 1 + 1, 0, none⟩, 1, .node (w.heap.size + 1 + 1 + 1) 0 (s, ka, cap) k .nil), (⟨w.heap.size + 1 + 1 + 1 + 1, 0, none⟩, 1, .node (w.heap.size + 1 + 1 + 1 + 1) 0 (s', ka', cap') k' .nil)) := by simpa using htm
      subst this
      exact ⟨rfl, rfl, hrA, hrB, rfl, by simp [flen], ⟨by simp [flen], by simp [maxLen]⟩, ⟨by simp [flen], by simp [maxLen]⟩, ⟨⟨_, _, hA0⟩, hp.below hw1b, trivial⟩, ⟨by omega, ht.kids.off (by omega), trivial⟩, ⟨by omega, ht'.kids.off (by omega), trivial⟩⟩
    · have hk2 : ∀ q, q ∈ ab k → q < w.heap.size := fun q hq => ab_lt ht.kids q hq
      have e : abTw [((⟨w.heap.size + 1 + 1 + 1, 0, none⟩, 1, .node (w.heap.size + 1 + 1 + 1) 0 (s, ka, cap) k .nil), (⟨w.heap.size + 1 + 1 + 1 + 1, 0, none⟩, 1, .node (w.heap.size + 1 + 1 + 1 + 1) 0 (s', ka', cap') k' .nil))] = (w.heap.size + 1 + 1 + 1) :: ab k := by
        simp [abTw, ab, lb, Go.Proofs.Ytpgiagkbfnbgkab.hb]
      rw [e, List.append_nil, List.nil_append, List.nodup_cons]
      exact ⟨fun hm => by have := hk2 _ hm; omega, hd⟩
  have HS := hide hstart
  clear hstart
  go_wp2_with fail
  rw [← hw1]
  clear hw1
  go_loopg [6] (1 + fnodes k) (fun gk v wr => ∃ (tws : List Tw) (seen : List Nat), gk = totTw tws ∧ totTw tws ≤ 200 ∧ SInv 88 (w.heap.size + 1 + 1) w1 wr v tws seen [] ∧ Hid (sameT s k s' k' = sameTw tws))
  case atStart =>
    refine ⟨_, [], ?_, ?_, HS.out, ?_⟩
    · simp [totTw, fnodes]; omega
    · simp [totTw, fnodes]; omega
    · show _ = _
      simp [sameTw, sameF, sameT]
  case round =>
    obtain ⟨tws, seen, hgk, htt, hI, hsm⟩ := hrel
    rcases List.eq_nil_or_concat tws with hfs | ⟨tws0, t, hfs⟩
    · subst hfs
      have hrow := hI.row.2
      simp only [List.length_nil] at hrow
      rcases hrow with ⟨rfl, _⟩ | ⟨g, cap2, cur, rfl, _⟩
      all_goals
        go_wp2_with fail
        go_ret
        exact ⟨ret_bool hsm.out.symm, hI.keeps.to_below hw1b (fun c hc => by simp at hc; omega)⟩
    · rw [List.concat_eq_append] at hfs
      subst hfs
      obtain ⟨⟨A, capA, FA⟩, ⟨B, capB, FB⟩⟩ := t
      have hrow := hI.row
      simp only [List.length_append, List.length_cons, List.length_nil] at hrow
      obtain ⟨g, cap2, cur, rfl, hg1, hg2, hg3, hg4, hg5, hg6, hg7⟩ := own_form hrow (by omega)
      obtain ⟨hcA, hcB⟩ := hI.lastCells
      obtain ⟨hsA, hsB, hlA, hlB, hln, hps, hkA, hkB, hpl, hoA, hoB⟩ := hI.each ((A, capA, FA), (B, capB, FB)) (by simp)
      simp only at hsA hsB hlA hlB hln hps hkA hkB hpl hoA hoB hcA hcB
      rw [hln] at hcB hkB
      obtain ⟨Ab, Ao, As⟩ := A
      obtain ⟨Bb, Bo, Bs⟩ := B
      simp only at hsA hsB hlA hlB
      subst hsA
      subst hsB
      have hsl : ∀ wx, (Instr.slice 89 (.slice (some ⟨g, 0, none⟩) (tws0.length + 1) cap2) none (some (.int .i64 (tws0.length : Int))) none).run Try.prog wx = .ok (.slice (some ⟨g, 0, none⟩) tws0.length cap2) wx := fun wx => by
        rw [run_slice_h wx 89 _ _ _ Try.underlying89 .i64 _ (by omega) (by omega)]
        simp [go_sem, sliced, Addr.add]
      have htl := totTw_len _ (fun t ht => (hI.each t ht).pos)
      simp only [List.length_append, List.length_cons, List.length_nil] at htl
      have HI := hide hI
      have HG := hide hgk
      clear hI hgk hrow hg7 hg6 hg3
      have hib : (tws0.length : Int) < (tws0.length : Int) + 1 := by omega
      have hfp : (0 : Int) < (flen FA : Int) := by omega
      unfold maxLen at hg5 hkA hkB
      go_wp2_with fail
      go_region_held3 (fun w' => w'.cell? ⟨wr.heap.size, 0, none⟩ = some (.slice (some ⟨Ab, Ao, none⟩) (flen FA) capA) ∧ w'.cell? ⟨wr.heap.size, 1, none⟩ = some (.slice (some ⟨Bb, Bo, none⟩) (flen FA) capB))
        (first | go_keep | (refine ⟨?_, ?_⟩ <;> go_simp))
        (fail)
      have hW8 : Below wr.heap.size wr ((wr.alloc (Obj.cells #[Value.slice (some ⟨Ab, Ao, none⟩) (flen FA) capA, Value.slice (some ⟨Bb, Bo, none⟩) (flen FA) capB] 88)).alloc (Obj.cells #[Value.pointer (some ⟨Ab, Ao, none⟩), Value.pointer (some ⟨Bb, Bo, none⟩), Value.int .i64 (flen FA)] 91)).drew :=
        (((Below.refl _ _).alloc (Nat.le_refl _) _).alloc (by simp) _).drew
      obtain ⟨hbp8, ⟨es8, clock8, hm8, hk8⟩, hni⟩ := HI.out.taken hW8 (.agg #[])
      have hlk : (Instr.lookup 86 (.map (some (w.heap.size + 1 + 1))) (.agg #[.pointer (some ⟨Ab, Ao, none⟩), .pointer (some ⟨Bb, Bo, none⟩), .int .i64 (flen FA : Int)]) true).run Try.prog (((wr.alloc (Obj.cells #[Value.slice (some ⟨Ab, Ao, none⟩) (flen FA) capA, Value.slice (some ⟨Bb, Bo, none⟩) (flen FA) capB] 88)).alloc (Obj.cells #[Value.pointer (some ⟨Ab, Ao, none⟩), Value.pointer (some ⟨Bb, Bo, none⟩), Value.int .i64 (flen FA)] 91)).drew) = .ok (.tuple #[.agg #[], .bool false]) (((wr.alloc (Obj.cells #[Value.slice (some ⟨Ab, Ao, none⟩) (flen FA) capA, Value.slice (some ⟨Bb, Bo, none⟩) (flen FA) capB] 88)).alloc (Obj.cells #[Value.pointer (some ⟨Ab, Ao, none⟩), Value.pointer (some ⟨Bb, Bo, none⟩), Value.int .i64 (flen FA)] 91)).drew) :=
        run_seen_no (a := ⟨Ab, Ao, none⟩) (b := ⟨Bb, Bo, none⟩) (n := flen FA) hm8 hbp8 seen hk8 hni
      have hW9 : Below wr.heap.size wr ((((wr.alloc (Obj.cells #[Value.slice (some ⟨Ab, Ao, none⟩) (flen FA) capA, Value.slice (some ⟨Bb, Bo, none⟩) (flen FA) capB] 88)).alloc (Obj.cells #[Value.pointer (some ⟨Ab, Ao, none⟩), Value.pointer (some ⟨Bb, Bo, none⟩), Value.int .i64 (flen FA)] 91)).alloc (Obj.cells #[] 92)).drew) := ((((Below.refl _ _).alloc (Nat.le_refl _) _).alloc (by simp) _).alloc (by simp; omega) _).drew
      obtain ⟨hbp, ⟨es, clock, hm, hk⟩, _⟩ := HI.out.taken hW9 (.agg #[])
      obtain ⟨w2, hw2⟩ : ∃ w2 : World, w2 = { ((((wr.alloc (Obj.cells #[Value.slice (some ⟨Ab, Ao, none⟩) (flen FA) capA, Value.slice (some ⟨Bb, Bo, none⟩) (flen FA) capB] 88)).alloc (Obj.cells #[Value.pointer (some ⟨Ab, Ao, none⟩), Value.pointer (some ⟨Bb, Bo, none⟩), Value.int .i64 (flen FA)] 91)).alloc (Obj.cells #[] 92)).drew) with heap := ((((wr.alloc (Obj.cells #[Value.slice (some ⟨Ab, Ao, none⟩) (flen FA) capA, Value.slice (some ⟨Bb, Bo, none⟩) (flen FA) capB] 88)).alloc (Obj.cells #[Value.pointer (some ⟨Ab, Ao, none⟩), Value.pointer (some ⟨Bb, Bo, none⟩), Value.int .i64 (flen FA)] 91)).alloc (Obj.cells #[] 92)).drew).heap.setIfInBounds (w.heap.size + 1 + 1) (.map (es.push { key := keyV ⟨Ab, Ao, none⟩ ⟨Bb, Bo, none⟩ (flen FA), val := .agg #[], born := clock }) (clock + 1)) } := ⟨_, rfl⟩
      have hup : (Instr.mapUpdate 86 (.map (some (w.heap.size + 1 + 1))) (.agg #[.pointer (some ⟨Ab, Ao, none⟩), .pointer (some ⟨Bb, Bo, none⟩), .int .i64 (flen FA : Int)]) (.agg #[])).run Try.prog ((((wr.alloc (Obj.cells #[Value.slice (some ⟨Ab, Ao, none⟩) (flen FA) capA, Value.slice (some ⟨Bb, Bo, none⟩) (flen FA) capB] 88)).alloc (Obj.cells #[Value.pointer (some ⟨Ab, Ao, none⟩), Value.pointer (some ⟨Bb, Bo, none⟩), Value.int .i64 (flen FA)] 91)).alloc (Obj.cells #[] 92)).drew) = .ok () w2 := by
        rw [hw2]
        exact run_seen_put (a := ⟨Ab, Ao, none⟩) (b := ⟨Bb, Bo, none⟩) (n := flen FA) hm hbp seen hk hni (.agg #[])
      obtain ⟨hI2, hoth, hsz2⟩ := HI.out.start hW9 hm hk hbp hw2
      have hm2 : w.heap.size + 1 + 1 < w1.heap.size := by omega
      have hz1 := HI.out.keeps.size
      have ht0 : w2.cell? ⟨wr.heap.size, 0, none⟩ = some (.slice (some ⟨Ab, Ao, none⟩) (flen FA) capA) := by
        rw [World.cell?_of_block (hoth wr.heap.size (by omega))]; go_simp
      have ht1 : w2.cell? ⟨wr.heap.size, 1, none⟩ = some (.slice (some ⟨Bb, Bo, none⟩) (flen FA) capB) := by
        rw [World.cell?_of_block (hoth wr.heap.size (by omega))]; go_simp
      have hz2 : wr.heap.size < w2.heap.size := by rw [hsz2]; simp; omega
      have HI2 := hide hI2
      have hw2' : wr.heap.size ≤ w2.heap.size := by omega
      clear hI2 hw2 hoth hsz2 hm hm8
      obtain ⟨wo, rfl⟩ : ∃ wo, wo = wr := ⟨wr, rfl⟩
      go_wp2_with fail
      go_loopg [6, 58] (flen FA) (fun gk v c wi => ∃ (i : Nat) (psh : List Tw), i ≤ flen FA ∧ c = .int .i64 i ∧ gk = flen FA - i ∧ SInv 88 (w.heap.size + 1 + 1) w1 wi v (tws0 ++ psh) (seen ++ [Ab]) (lb (fdrop i FA)) ∧
          Hid (sameT s k s' k' = (sameTw (tws0 ++ psh) && sameF (fdrop i FA) (fdrop i FB))) ∧ totTw (tws0 ++ psh) + fnodes (fdrop i FA) + i ≤ totTw (tws0 ++ [((⟨Ab, Ao, none⟩, capA, FA), (⟨Bb, Bo, none⟩, capB, FB))]) ∧
          wi.cell? ⟨wo.heap.size, 1, none⟩ = some (.slice (some ⟨Bb, Bo, none⟩) (flen FA) capB) ∧ (∀ q, v.ownBlock = some q → q ≠ wo.heap.size) ∧ wo.heap.size < wi.heap.size)
      case atStart =>
        refine ⟨0, [], Nat.zero_le _, rfl, by simp, by simpa [fdrop] using HI2.out, ?_, ?_, ht1, fun q hq => ?_, hz2⟩
        · have := hsm.out
          rw [sameTw_append, sameTw_one] at this
          show _ = _
          simpa [fdrop] using this
        · simp [totTw_append, totTw, fdrop]
        · simp only [Value.ownBlock, Option.some.injEq] at hq
          omega
      case round =>
        obtain ⟨i, psh, hil, rfl, hgi, hin, hss, htot, hb1, hvo, hbl⟩ := hrel
        by_cases hlt : i < flen FA
        · have hlA' := FIn.keeps hin.keeps (fun c hc => by have : c = w.heap.size + 1 + 1 := by simpa using hc
                                                           subst this; exact hoA) hlA
          have hlB' := FIn.keeps hin.keeps (fun c hc => by have : c = w.heap.size + 1 + 1 := by simpa using hc
                                                           subst this; exact hoB) hlB
          obtain ⟨b1, o1, x, kk, he, hx0, hx1, htinx, hbbx⟩ := hlA'.at hlt
          obtain ⟨b2, o2, y, ll, he', hy0, hy1, htiny, hbby⟩ := hlB'.at (show i < flen FB by omega)
          have hlbs := lb_step he
          have htos := tot_step he
          have hsF := sameF_step he he'
          have HIN := hide hin
          have HGI := hide hgi
          have HE := hide he
          have HE' := hide he'
          have HLB := hide hlbs
          have HSF := hide hsF
          clear hin hgi he he' hlbs hsF
          have htn := totTw_len _ (fun t ht => (HIN.out.each t ht).pos)
          have hsz := HIN.out.keeps.size
          by_cases hlab : x.1.toList = y.1.toList
          · have hl1 : (x.1.toList == y.1.toList) = true := beq_iff_eq.2 hlab
            by_cases hlen : flen kk = flen ll
            · have hln2 : ((flen kk : Int) != (flen ll : Int)) = false := by rw [hlen]; simp
              have hkids := same_kids (x := x) (y := y) (kk := kk) (ll := ll) hlab
              have HSK := hide hkids
              have HLEN := hide hlen
              clear hlab hkids hlen
              have hi1 : i + 1 ≤ 400 := by have := flen_le_nodes FA; rw [totTw_append] at htt; simp only [totTw] at htt; omega
              by_cases hk0 : flen kk = 0
              · have hkp : ¬ (0 : Int) < (flen kk : Int) := by omega
                have hon := HIN.out.on (((Below.refl _ _).alloc (Nat.le_refl _) (Obj.cells #[Value.string x.1, Value.slice x.2.1 (flen kk) x.2.2] 24)).alloc (by simp) (Obj.cells #[Value.string y.1, Value.slice y.2.1 (flen ll) y.2.2] 24))
                have HON := hide hon
                have HK0 := hide hk0
                clear hon hk0
                go_wp2_with fail
                go_roundg (flen FA - (i + 1))
                case measure => have := HGI.out; omega
                case rel =>
                  refine ⟨i + 1, psh, by omega, by go_num, rfl, ?_, ?_, by omega, ?_, hvo, by simp; omega⟩
                  · have h1 := HON.out
                    rw [HLB.out, show ab kk = [] by rw [nil_of_len HK0.out]; rfl, List.nil_append] at h1
                    exact h1
                  · have h1 := hss.out
                    rw [HSF.out, HSK.out, nil_of_len HK0.out, nil_of_len (show flen ll = 0 by rw [← HLEN.out]; exact HK0.out)] at h1
                    exact h1
                  · go_simp
              · have hkp : (0 : Int) < (flen kk : Int) := by omega
                rcases htinx.kids with hkn | ⟨kb, ko, hxa, hkin⟩
                · rw [hkn] at hk0; simp [flen] at hk0
                rcases htiny.kids with hkn | ⟨kb', ko', hya, hkin'⟩
                · rw [HLEN.out, hkn] at hk0; simp [flen] at hk0
                have htw := (HI.out.each ((⟨Ab, Ao, none⟩, capA, FA), (⟨Bb, Bo, none⟩, capB, FB)) (by simp)).kid HE.out HE'.out hxa hya (by omega) HLEN.out.symm
                have HTW := hide htw
                rw [hxa] at hx1
                rw [hya] at hy1
                have hon := HIN.out.on (((Below.refl _ _).alloc (Nat.le_refl _) (Obj.cells #[Value.string x.1, Value.slice (some ⟨kb, ko, none⟩) (flen kk) x.2.2] 24)).alloc (by simp) (Obj.cells #[Value.string y.1, Value.slice (some ⟨kb', ko', none⟩) (flen ll) y.2.2] 24))
                rw [HLB.out] at hon
                have hrw := hon.row
                have HON := hide hon
                have HRW := hide hrw
                clear hon hrw htw
                go_wp2_with (at_builtin; refine wpList_append_lies _ rfl (.tmp 86) (.tmp 92) 89 rfl w1.heap.size 88 i43 _ 2 48 Try.underlying89 hi43 hy0' hy1' hy2' rfl (by decide) _ (tws0 ++ psh).length _ rfl (by exact ownsRow_below HRW.out ((Below.refl _ _).alloc (Nat.le_refl _) _)) ⟨wr.heap.size + 1 + 1, 0, none⟩ 1 1 (twCells ((⟨kb, ko, none⟩, x.2.2, kk), (⟨kb', ko', none⟩, y.2.2, ll))) rfl rfl (by exact tw_news' _ _ _ _ (by simp)) (tw_one _) (by decide) (by unfold maxLen; omega) (by omega) (by simp; omega) (wr.heap.size + 1 + 1 + 1) (by simp) ?_)
                intro gv cap3 w3 hown hgrow hat hlt3
                have hpu := HON.out.push (gv := gv) (cap := cap3) HTW.out (by simpa using hown) hgrow
                have HPU := hide hpu
                have hc3 : w3.cell? ⟨wo.heap.size, 1, none⟩ = some (.slice (some ⟨Bb, Bo, none⟩) (flen FA) capB) := by
                  rw [World.grownBy.cell_far hgrow ⟨wo.heap.size, 1, none⟩ (by simp; omega) (fun e => hvo _ e.symm rfl)]
                  exact (((((Below.refl wr.heap.size wr).alloc (Nat.le_refl _) _).alloc (by simp) _).alloc (by simp; omega) _).cell (p := ⟨wo.heap.size, 1, none⟩) hbl).trans hb1
                have hz3 : wo.heap.size < w3.heap.size := by have := hgrow.size; simp at this; omega
                have hgvo : ∀ q, some gv = some q → q ≠ wo.heap.size := fun q hq => by
                  simp only [Option.some.injEq] at hq
                  subst hq
                  rcases hat with hat | hat
                  · exact hvo _ hat
                  · omega
                have HVO := hide hgvo
                clear hpu hown hgrow hat hgvo
                go_wp2_with fail
                go_roundg (flen FA - (i + 1))
                case measure => have := HGI.out; omega
                case rel =>
                  refine ⟨i + 1, psh ++ [((⟨kb, ko, none⟩, x.2.2, kk), (⟨kb', ko', none⟩, y.2.2, ll))], by omega, by go_num, rfl, ?_, ?_, ?_, hc3, fun q hq => HVO.out q hq, hz3⟩
                  · have h1 := HPU.out
                    simpa [List.append_assoc] using h1
                  · have h1 := hss.out
                    show _ = _
                    rw [HSF.out, HSK.out, ← Bool.and_assoc] at h1
                    rw [h1, ← List.append_assoc, sameTw_append (tws0 ++ psh), sameTw_one]
                  · rw [← List.append_assoc, totTw_append (tws0 ++ psh)]
                    simp only [totTw]
                    omega
            · have hln2 : ((flen kk : Int) != (flen ll : Int)) = true := by simp; omega
              have hno := same_no (x := x) (y := y) (kk := kk) (ll := ll) (Or.inr hlen)
              have HNO := hide hno
              clear hno hlab hlen
              go_wp2_with fail
              go_ret
              refine ⟨ret_bool ?_, ((HIN.out.keeps.to_below hw1b (fun c hc => by simp at hc; omega)).alloc (by have := HIN.out.keeps.size; omega) _).alloc (by have := HIN.out.keeps.size; simp; omega) _⟩
              have h1 := hss.out
              rw [HSF.out, HNO.out] at h1
              rw [h1]
              simp
          · have hl1 : (x.1.toList == y.1.toList) = false := beq_eq_false_iff_ne.2 hlab
            have hno := same_no (x := x) (y := y) (kk := kk) (ll := ll) (Or.inl hlab)
            have HNO := hide hno
            clear hno hlab
            go_wp2_with fail
            go_ret
            refine ⟨ret_bool ?_, ((HIN.out.keeps.to_below hw1b (fun c hc => by simp at hc; omega)).alloc (by have := HIN.out.keeps.size; omega) _).alloc (by have := HIN.out.keeps.size; simp; omega) _⟩
            have h1 := hss.out
            rw [HSF.out, HNO.out] at h1
            rw [h1]
            simp
        · have hss' := hss.out
          rw [fdrop_end i FA (by omega), fdrop_end i FB (by omega)] at hss'
          rw [fdrop_end i FA (by omega)] at hin
          have HSS := hide hss'
          have HIN := hide hin
          clear hss hss' hin
          go_wp2_with fail
          go_roundg (totTw (tws0 ++ psh))
          case measure => have := HG.out; omega
          case rel => exact ⟨tws0 ++ psh, seen ++ [Ab], rfl, by omega, by simpa [lb] using HIN.out, by show _ = _; have := HSS.out; simpa [sameF] using this⟩

end Go.Proofs.Ytpgiagkbfnbgkab
