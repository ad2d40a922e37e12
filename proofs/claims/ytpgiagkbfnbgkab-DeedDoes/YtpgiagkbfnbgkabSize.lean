/- pleachingref.SizeOf of a tree that lies in memory is the number of its nodes, but no more than one beyond the bound; Of the program's text. -/
import Derived.Test.YtpgiagkbfnbgkabProg
import Derived.Test.YtpgiagkbfnbgkabFo
import Derived.WalkSpells
import Derived.Deep.LoopGhost
namespace Go.Proofs.Ytpgiagkbfnbgkab
open Go.Deep Go.RowKit
set_option linter.unusedVariables false
set_option maxRecDepth 20000

/-- What SizeOf has counted ahead of kid j. -/
def sizeAt (k : Fo) (m : Int) (j : Nat) : Int := min (1 + (fnodes k : Int) - fnodes (fdrop j k)) (m + 1)

theorem fnodes_drop_le : ∀ (j : Nat) (f : Fo), fnodes (fdrop j f) ≤ fnodes f
  | 0, _ => Nat.le_refl _
  | _ + 1, .nil => Nat.le_refl _
  | j + 1, .node _ _ _ k r => by have := fnodes_drop_le j r; simp [fdrop, fnodes]; omega

theorem sizeAt_bd (k : Fo) (m : Int) (j : Nat) (hm : 0 ≤ m) : 1 ≤ sizeAt k m j ∧ sizeAt k m j ≤ m + 1 := by
  have := fnodes_drop_le j k
  unfold sizeAt
  omega

theorem fnodes_of_drop {k : Fo} {j b o : Nat} {x : ByteArray × Option Addr × Nat} {kk r : Fo} (h : fdrop j k = .node b o x kk r) : fnodes kk + fnodes r + 1 ≤ fnodes k := by
  have := fnodes_drop_le j k
  rw [h] at this
  simpa [fnodes] using this

theorem sizeAt_step (k : Fo) (m : Int) (j : Nat) (hm : 0 ≤ m) (hle : sizeAt k m j ≤ m) (b o : Nat) (x : ByteArray × Option Addr × Nat) (kk : Fo) (h : fdrop j k = .node b o x kk (fdrop (j + 1) k)) :
    sizeAt k m j + min (1 + (fnodes kk : Int)) (m - sizeAt k m j + 1) = sizeAt k m (j + 1) := by
  have h1 := fnodes_of_drop h
  unfold sizeAt at *
  rw [h] at *
  simp only [fnodes] at *
  omega

theorem sizeAt_end (k : Fo) (m : Int) (j : Nat) (h : flen k ≤ j) : sizeAt k m j = min (1 + (fnodes k : Int)) (m + 1) := by
  unfold sizeAt
  rw [fdrop_end j k h]
  simp [fnodes]

theorem sizeAt_over (k : Fo) (m : Int) (j : Nat) (h : sizeAt k m j ≤ m + 1) (h' : ¬ sizeAt k m j ≤ m) : sizeAt k m j = min (1 + (fnodes k : Int)) (m + 1) := by
  unfold sizeAt at *
  omega

theorem minbd (n : Nat) (q : Int) (h : 0 ≤ q) : 1 ≤ min (1 + (n : Int)) (q + 1) ∧ min (1 + (n : Int)) (q + 1) ≤ q + 1 := by omega

theorem ret_int {k : IntKind} {a b : Int} (h : a = b) : Ending.returned (.int k a) = .returned (.int k b) := by rw [h]

set_option maxHeartbeats 400000 in
theorem sizeOf_any : ∀ (N : Nat) (s : ByteArray) (ka : Option Addr) (cap : Nat) (k : Fo) (m : Int) (w : World), fnodes k < N → 0 ≤ m → m ≤ 100000 → TIn w s ka cap k →
    Calls Try.prog 14 #[.agg #[.string s, .slice ka (flen k) cap], .int .i64 m] w fun e w' => e = .returned (.int .i64 (min (1 + (fnodes k : Int)) (m + 1))) ∧ Below w.heap.size w w' := by
  intro N
  induction N with
  | zero => intro s ka cap k m w hN; exact absurd hN (Nat.not_lt_zero _)
  | succ N ih =>
    intro s ka cap k m w hN hm0 hm1 ht
    have HI := hide ih; clear ih
    obtain ⟨hs, hl, hc, hk⟩ := ht
    unfold maxLen at hs hc
    go_enter Try.func14, Try.ntmps14
    go_wp2
    go_loopw [5, 6] (fun n i wr => ∃ j : Nat, j ≤ flen k ∧ i = .int .i64 j ∧ n = .int .i64 (sizeAt k m j) ∧ Below (w.heap.size + 1) (w.alloc (Obj.cells #[Value.string s, Value.slice ka (flen k) cap] 24)) wr) (fun _ i _ => flen k - (intOf i).toNat)
    case atStart => exact ⟨0, Nat.zero_le _, rfl, by simp [sizeAt, fdrop]; omega, Below.refl _ _⟩
    case round =>
      obtain ⟨j, hj, rfl, rfl, hb⟩ := hrel
      obtain ⟨hcell, hfr⟩ := bcell hb
      have hbd := sizeAt_bd k m j hm0
      by_cases hlt : j < flen k
      · rcases hk with rfl | ⟨kb, ko, rfl, hk⟩
        · exact absurd hlt (Nat.not_lt_zero _)
        obtain ⟨b', o', x, kk, he, hc0, hc1, htin, hbb⟩ := hk.at hlt
        by_cases hle : sizeAt k m j ≤ m
        · have hst := sizeAt_step k m j hm0 hle b' o' x kk he
          have HE := hide he
          have HS := hide hst
          clear he hst
          go_wp2_with fail
          refine (HI.out _ _ _ _ _ _ (by have := HE.out; have := fnodes_of_drop this; omega) (by omega) (by omega) (htin.below (below_of_box hb))).mono ?_
          rintro e w1 ⟨rfl, hb1⟩
          have hb2 : Below (w.heap.size + 1) (w.alloc (Obj.cells #[Value.string s, Value.slice (some ⟨kb, ko, none⟩) (flen k) cap] 24)) w1 := hb.trans (hb1.mono (by have := hb.size; simp at this; omega))
          have hmn := minbd (fnodes kk) (m - sizeAt k m j) (by omega)
          go_wp2_with fail
          go_roundw
          case rel => exact ⟨j + 1, by omega, by go_num, by rw [← HS.out], hb2⟩
          case measure => simp [intOf]; omega
        · go_wp2_with fail
          go_ret
          exact ⟨ret_int (sizeAt_over k m j hbd.2 (by omega)), below_of_box hb⟩
      · go_wp2_with fail
        go_ret
        exact ⟨ret_int (sizeAt_end k m j (by omega)), below_of_box hb⟩
end Go.Proofs.Ytpgiagkbfnbgkab
