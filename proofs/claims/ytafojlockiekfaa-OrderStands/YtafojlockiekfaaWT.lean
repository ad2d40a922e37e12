/- The writer of package text writes a tree's text. Of the program's text. -/
import Derived.Test.YtafojlockiekfaaProg
import Derived.Test.YtafojlockiekfaaWB
import Derived.Test.YtafojlockiekfaaFo2
import Derived.Test.YtafojlockiekfaaSize
import Derived.WalkSpells
import Derived.Deep.LoopGhost
import Derived.Deep.RegionHeld3
namespace Go.Proofs.Ytafojlockiekfaa
open Go.Deep Go.RowKit
set_option linter.unusedVariables false
set_option maxRecDepth 20000

/-- What closes a list of kids. -/
def clo : Fo → List UInt8
  | .nil => []
  | .node _ _ _ _ _ => [41]
/-- The texts of kids, each behind a byte: the first one's is told, the others' is a blank. -/
def txtK : Fo → UInt8 → List UInt8
  | .nil, _ => []
  | .node _ _ x k r, c => c :: (x.1.data.toList ++ (txtK k 40 ++ clo k)) ++ txtK r 32
def txtT (s : ByteArray) (k : Fo) : List UInt8 := s.data.toList ++ (txtK k 40 ++ clo k)

theorem strCells_eq (s : ByteArray) : Lib.strCells s = Lib.byteCells s.data.toList := by
  simp [Lib.strCells, Lib.byteCells]

theorem txtK_step {k : Fo} {j b o : Nat} {x : ByteArray × Option Addr × Nat} {kk : Fo} {c : UInt8} (h : fdrop j k = .node b o x kk (fdrop (j + 1) k)) : txtK (fdrop j k) c = c :: txtT x.1 kk ++ txtK (fdrop (j + 1) k) 32 := by
  rw [h]; rfl

theorem isW_same {B b : Nat} {bs : List Value} {w w' : World} (h : IsW B b bs w) (hs : ∀ i, i < w.heap.size → w'.heap[i]? = w.heap[i]?) : IsW B b bs w' := by
  have key : ∀ p, Lib.BuilderAt 80 5 B b p bs w → Lib.BuilderAt 80 5 B b p bs w' := fun p h => by
    have hlt := h.lt
    obtain ⟨h1, v, hv, hown, hne⟩ := h
    refine ⟨h1, v, by rw [hs b hlt]; exact hv, ?_, hne⟩
    obtain ⟨g1, g2⟩ := hown
    refine ⟨g1, ?_⟩
    rcases g2 with g2 | ⟨g, cap, cur, e, hg, hh, r⟩
    · exact Or.inl g2
    · have hlg : g < w.heap.size := by
        rcases Nat.lt_or_ge g w.heap.size with h | h
        · exact h
        · rw [Array.getElem?_eq_none h] at hh; cases hh
      exact Or.inr ⟨g, cap, cur, e, hg, by rw [hs g hlg]; exact hh, r⟩
  rcases h with h | h
  · exact Or.inl (key _ h)
  · exact Or.inr (key _ h)
theorem isW_lt {B b : Nat} {bs : List Value} {w : World} (h : IsW B b bs w) : b < w.heap.size := by
  rcases h with h | h
  · exact h.lt
  · exact h.lt
/-- A block that came behind the writer's row is kept. -/
theorem box_kept {B b : Nat} {bs : List Value} {w w1 w2 : World} {n : Nat} (h : IsW B b bs w) (hs : ∀ i, i < w.heap.size → w1.heap[i]? = w.heap[i]?) (hn : w.heap.size ≤ n) (hn1 : n < w1.heap.size) (hk : WKeep b w1 w2) : w2.heap[n]? = w1.heap[n]? := by
  have hlt := isW_lt h
  refine hk n hn1 (by omega) fun p v hv e => ?_
  rw [hs b hlt] at hv
  obtain ⟨p', v', hv', hown⟩ : ∃ p' v', w.heap[b]? = some (.cells #[p', v'] 80) ∧ w.ownsRow B 5 1 v' bs.length bs := by
    rcases h with ⟨_, v', h1, h2, _⟩ | ⟨_, v', h1, h2, _⟩
    · exact ⟨_, v', h1, h2⟩
    · exact ⟨_, v', h1, h2⟩
  rw [hv] at hv'
  simp at hv'
  rw [← hv'.2] at hown
  have := (hown.lt n e).2
  omega

def WritesAt (w0 : World) (b : Nat) (k : Fo) : Prop := ∀ (s : ByteArray) (ka : Option Addr) (cap : Nat) (bs : List UInt8) (w : World), TIn w0 s ka cap k → Below w0.heap.size w0 w → IsW w0.heap.size b (Lib.byteCells bs) w → bs.length + (txtT s k).length ≤ 1000000 →
    Calls Try.prog 49 #[.pointer (some ⟨b, 0, none⟩), .agg #[.string s, .slice ka (flen k) cap]] w fun e w' => e = .returned (.tuple #[]) ∧ WAt w0.heap.size b (Lib.byteCells (bs ++ txtT s k)) w' ∧ Below w0.heap.size w w'

set_option maxHeartbeats 1000000 in
theorem writes_N (w0 : World) (b : Nat) : ∀ (N : Nat) (k : Fo), fnodes k < N → WritesAt w0 b k := by
  intro N
  induction N with
  | zero => intro k hN; omega
  | succ N ih =>
    intro k hN s ka cap bs w ht hB hw hlen
    have HI := hide ih; clear ih
    obtain ⟨hs, hl, hc, hk⟩ := ht
    unfold maxLen at hs hc
    have hlb := isW_lt hw
    have hsame : ∀ i, i < w.heap.size → (w.alloc (Obj.cells #[Value.string s, Value.slice ka (flen k) cap] 24)).drew.heap[i]? = w.heap[i]? := fun i hi => Below.heap_alloc _ _ _ hi
    have hw1 := isW_same hw hsame
    have hB1 : Below w0.heap.size w (w.alloc (Obj.cells #[Value.string s, Value.slice ka (flen k) cap] 24)).drew := ((Below.refl _ _).alloc hB.size _).drew
    have hlenT : (txtT s k).length = s.size + ((txtK k 40).length + (clo k).length) := by simp [txtT]
    have hz0 := hB.size
    have hbn : ¬ w.heap.size = b := by omega
    have hcall := writeString_any w0.heap.size b (Lib.byteCells bs) s _ hw1 (by rw [Lib.byteCells_length]; omega) (by simp; omega)
    have HC := hide hcall
    clear hcall
    go_enter Try.func49, Try.ntmps49
    go_wp2_with fail
    go_region_held3 (fun w' => w'.cell? ⟨w.heap.size, 0, none⟩ = some (.string s) ∧ w'.cell? ⟨w.heap.size, 1, none⟩ = some (.slice ka (flen k) cap))
      (first | go_keep | (refine ⟨?_, ?_⟩ <;> go_simp))
      ((go_at_call 64; refine Calls.mono HC.out ?_; rintro e w2 ⟨rfl, hw2, hB2, hkeep⟩; have hbox : w2.heap[w.heap.size]? = some (Obj.cells #[Value.string s, Value.slice ka (flen k) cap] 24) := ((box_kept hw hsame (Nat.le_refl _) (by simp) hkeep).trans (heap_alloc_new _ _))
        have d0 : w2.cell? ⟨w.heap.size, 0, none⟩ = some (.string s) := by (rw [cell_of_row _ _ 0 _ _ _ hbox]; rfl)
        have d1 : w2.cell? ⟨w.heap.size, 1, none⟩ = some (.slice ka (flen k) cap) := by (rw [cell_of_row _ _ 1 _ _ _ hbox]; rfl)))
    have HW2 := hide hw2
    have HB2 := hide (hB1.trans hB2)
    clear hw2 hB2 hkeep hbox HC hw1 hsame hB1
    by_cases hk0 : flen k = 0
    · have hkb : ((flen k : Int) == 0) = true := beq_iff_eq.2 (by omega)
      have hkn : k = .nil := by cases k with | nil => rfl | node _ _ _ _ _ => simp [flen] at hk0
      go_wp2_with fail
      refine bodyPost_ret (v := .tuple #[]) (results_none rfl _ _ _) rfl ⟨rfl, ?_, HB2.out⟩
      have := HW2.out
      rw [strCells_eq] at this
      rw [hkn]
      simpa [txtT, txtK, clo, Lib.byteCells] using this
    · have hkb : ((flen k : Int) == 0) = false := beq_eq_false_iff_ne.2 (by omega)
      rcases hk with hk | ⟨kb, ko, rfl, hk⟩
      · rw [hk] at hk0; simp [flen] at hk0
      have hkc : (clo k).length = 1 := by cases k with | nil => simp [flen] at hk0 | node _ _ _ _ _ => rfl
      have HKC := hide (show clo k = [41] by cases k with | nil => simp [flen] at hk0 | node _ _ _ _ _ => rfl)
      clear d0 d1
      go_wp2_with fail
      go_loopg [4, 20] (flen k) (fun gk v4 v20 wr => ∃ (j : Nat) (cb : UInt8) (done : List UInt8), gk = flen k - j ∧ j ≤ flen k ∧ v20 = .int .i64 j ∧ v4 = .int .u8 (cb.toNat : Int) ∧ Hid (s.data.toList ++ txtK k 40 = done ++ txtK (fdrop j k) cb) ∧ Hid (WAt w0.heap.size b (Lib.byteCells (bs ++ done)) wr) ∧ Below w0.heap.size w wr)
      case atStart =>
        refine ⟨0, 40, s.data.toList, rfl, Nat.zero_le _, rfl, rfl, rfl, ?_, HB2.out⟩
        have := HW2.out
        rw [strCells_eq] at this
        show Lib.BuilderAt _ _ _ _ _ _ _
        simpa [Lib.byteCells] using this
      case round =>
        obtain ⟨j, cb, done, hgk, hj, rfl, rfl, hrun, hwr, hBr⟩ := hrel
        have hzr := hBr.size
        have hlr := congrArg List.length hrun.out
        simp only [List.length_append, Array.length_toList] at hlr
        have hss : s.data.size = s.size := rfl
        by_cases hlt : j < flen k
        · obtain ⟨b', o', x, kk, he, hc0, hc1, htin, hbb⟩ := hk.at hlt
          have hBw := hB.trans hBr
          have hc0' : wr.cell? ⟨kb, ko + j * 2, none⟩ = some (.string x.1) := by rw [hBw.cell hbb]; exact hc0
          have hc1' : wr.cell? ⟨kb, ko + j * 2 + 1, none⟩ = some (.slice x.2.1 (flen kk) x.2.2) := by rw [hBw.cell hbb]; exact hc1
          have hstep := txtK_step (c := cb) he
          have hlen2 := congrArg List.length hstep
          simp only [List.cons_append, List.length_cons, List.length_append] at hlen2
          have HS := hide hstep
          have HE := hide he
          have hn : fnodes kk < N := by have := fnodes_of_drop he; omega
          clear hstep he hc0 hc1
          have hsame : ∀ i, i < wr.heap.size → (wr.alloc (Obj.cells #[Value.string x.1, Value.slice x.2.1 (flen kk) x.2.2] 24)).heap[i]? = wr.heap[i]? := fun i hi => Below.heap_alloc _ _ _ hi
          have hWr : IsW w0.heap.size b (Lib.byteCells (bs ++ done)) wr := Or.inr hwr.out
          have hw1 := isW_same hWr hsame
          have hB1 : Below w0.heap.size wr (wr.alloc (Obj.cells #[Value.string x.1, Value.slice x.2.1 (flen kk) x.2.2] 24)) := (Below.refl _ _).alloc (by omega) _
          have hcall := writeByte_any w0.heap.size b (Lib.byteCells (bs ++ done)) (cb.toNat : Int) _ hw1 (by rw [Lib.byteCells_length]; simp; omega) (by simp; omega)
          have HC := hide hcall
          clear hcall
          go_wp2_with fail
          refine Calls.mono HC.out ?_
          rintro e w5 ⟨rfl, hw5, hB5, hk5⟩
          have hbox : w5.heap[wr.heap.size]? = some (Obj.cells #[Value.string x.1, Value.slice x.2.1 (flen kk) x.2.2] 24) := (box_kept hWr hsame (Nat.le_refl _) (by simp) hk5).trans (heap_alloc_new _ _)
          have e0 : w5.cell? ⟨wr.heap.size, 0, none⟩ = some (.string x.1) := by rw [cell_of_row _ _ 0 _ _ _ hbox]; rfl
          have e1 : w5.cell? ⟨wr.heap.size, 1, none⟩ = some (.slice x.2.1 (flen kk) x.2.2) := by rw [cell_of_row _ _ 1 _ _ _ hbox]; rfl
          have hw5' : IsW w0.heap.size b (Lib.byteCells (bs ++ done ++ [cb])) w5 := Or.inr (by simpa [Lib.byteCells] using hw5)
          have hB15 := hB1.trans hB5
          have hcall2 := HI.out kk hn x.1 x.2.1 x.2.2 (bs ++ done ++ [cb]) w5 htin (hBw.trans hB15) hw5' (by simp; omega)
          have HC2 := hide hcall2
          clear hcall2 hw5 hB5 hk5 hbox HC hw1 hsame hB1 hWr hw5'
          go_wp2_with fail
          refine Calls.mono HC2.out ?_
          rintro e w6 ⟨rfl, hw6, hB6⟩
          go_wp2_with fail
          go_roundg (flen k - (j + 1))
          case measure => omega
          case rel =>
            refine ⟨j + 1, 32, done ++ (cb :: txtT x.1 kk), rfl, by omega, by go_num, rfl, ?_, ?_, hBr.trans (hB15.trans hB6)⟩
            · show _ = _
              have h1 := hrun.out
              rw [h1, HS.out]
              simp
            · show Lib.BuilderAt _ _ _ _ _ _ _
              simpa [Lib.byteCells] using hw6
        · have hjn : fdrop j k = .nil := fdrop_end j k (by omega)
          have hlb3 := isW_lt (Or.inr hwr.out : IsW w0.heap.size b _ wr)
          have hcall := writeByte_any w0.heap.size b (Lib.byteCells (bs ++ done)) 41 wr (Or.inr hwr.out) (by rw [Lib.byteCells_length]; simp; omega) (by omega)
          have HC := hide hcall
          clear hcall
          go_wp2_with fail
          refine Calls.mono HC.out ?_
          rintro e w5 ⟨rfl, hw5, hB5, hk5⟩
          go_wp2_with fail
          go_end0
          refine ⟨rfl, ?_, hBr.trans hB5⟩
          have h1 := hrun.out
          rw [hjn] at h1
          have h2 : txtT s k = done ++ [41] := by
            unfold txtT
            rw [HKC.out, ← List.append_assoc, h1]
            simp [txtK]
          rw [h2]
          simpa [Lib.byteCells] using hw5
end Go.Proofs.Ytafojlockiekfaa
