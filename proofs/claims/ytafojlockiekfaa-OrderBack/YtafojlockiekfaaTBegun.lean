/- pleachinglaw.textBegun answers true. Of the program's text. -/
import Derived.Test.YtafojlockiekfaaProg
import Derived.Test.YtafojlockiekfaaParse
import Derived.Test.YtafojlockiekfaaPrint
import Derived.Test.YtafojlockiekfaaCheck
namespace Go.Proofs.Ytafojlockiekfaa
open Go.Deep Go.RowKit
set_option linter.unusedVariables false
set_option maxRecDepth 20000

def begunB : ByteArray := ⟨#[97, 40, 98, 32, 99, 40, 100, 41, 41]⟩
def begunK : Fo := .node 0 0 (⟨#[98]⟩, none, 0) .nil (.node 0 0 (⟨#[99]⟩, none, 0) (.node 0 0 (⟨#[100]⟩, none, 0) .nil .nil) .nil)
theorem begunB_prs : prs begunB = .ok ⟨#[97]⟩ begunK := by kernel_rfl
theorem begunB_txt : txtT ⟨#[97]⟩ begunK = begunB.data.toList := by kernel_rfl
theorem begunB_fault : faultT ⟨#[97]⟩ begunK = 0 := by kernel_rfl

theorem txtK_strip : ∀ (f : Fo) (c : UInt8), txtK (strip f) c = txtK f c
  | .nil, _ => rfl
  | .node _ _ x k r, c => by
    have : clo (strip k) = clo k := by cases k <;> rfl
    simp [txtK, strip, txtK_strip k, txtK_strip r, this]
theorem txtT_strip (s : ByteArray) (f : Fo) : txtT s (strip f) = txtT s f := by
  have : clo (strip f) = clo f := by cases f <;> rfl
  unfold txtT
  rw [txtK_strip, this]

/-- Print of a tree without marks. -/
theorem print_any (s : ByteArray) (ka : Option Addr) (cap : Nat) (k : Fo) (w : World) (ht : TIn w s ka cap k) (hp : FPlain w k) (hn : 1 + fnodes k ≤ 200) :
    Calls Try.prog 27 #[.agg #[.string s, .slice ka (flen k) cap]] w fun e w' => e = .returned (.tuple #[.string (if faultT s k = 0 then ⟨(txtT s k).toArray⟩ else ⟨#[]⟩), .int .i64 (faultT s k)]) ∧ Below w.heap.size w w' := by
  refine (print_of (fun c => c = faultT s k) s ka cap k w ht (fun h => h.symm) (fun W hW => ?_)).mono ?_
  · refine (check_any s ka cap k W (ht.below hW) (hp.below hW) hn).mono ?_
    rintro e w' ⟨rfl, hb⟩
    exact ⟨⟨_, rfl, rfl⟩, hb⟩
  · rintro e w' ⟨he, hb⟩
    refine ⟨?_, hb⟩
    rcases he with ⟨c, rfl, hc, rfl⟩ | ⟨h0, rfl⟩
    · rw [if_neg hc]
    · rw [if_pos h0.symm, ← h0]

set_option maxHeartbeats 1000000 in
theorem tbegun_any (w : World) : Calls Try.prog 26 #[] w fun e w' => e = .returned (.bool true) ∧ Below w.heap.size w w' := by
  go_enter Try.func26, Try.ntmps26
  go_wp2_with fail
  refine (parse_any begunB _ (by decide)).mono ?_
  rintro e w1 ⟨hp, hb1⟩
  rcases hp with ⟨c, p, h1, _⟩ | ⟨x, k, ka, cap, k', h1, rfl, hst, ht, hpl, h40, hfr⟩
  · rw [begunB_prs] at h1; cases h1
  rw [begunB_prs] at h1
  cases h1
  have hf : faultT ⟨#[97]⟩ k' = 0 := by rw [← faultT_strip, hst]; exact begunB_fault
  have htx : (⟨(txtT ⟨#[97]⟩ k').toArray⟩ : ByteArray) = ⟨#[97, 40, 98, 32, 99, 40, 100, 41, 41]⟩ := by rw [← txtT_strip, hst, begunB_txt]; rfl
  have hl2 : flen k' = 2 := by rw [← flen_strip, hst]; rfl
  have hpr : ∀ W, Below w1.heap.size w1 W → Calls Try.prog 27 #[.agg #[.string ⟨#[97]⟩, .slice ka (flen k') cap]] W fun e w' => e = .returned (.tuple #[.string ⟨#[97, 40, 98, 32, 99, 40, 100, 41, 41]⟩, .int .i64 0]) ∧ Below W.heap.size W w' := fun W hW => by
    have := print_any ⟨#[97]⟩ ka cap k' W (ht.below hW) (hpl.below hW) (by omega)
    rw [if_pos hf, hf, htx] at this
    exact this
  rw [hl2] at hpr ⊢
  have HP := hide hpr
  clear hpr hf htx hl2 hst ht hpl h40 hfr
  have hbx : Below w1.heap.size w1 ((w1.alloc (Obj.cells #[Value.string ⟨#[97]⟩, Value.slice ka 2 cap] 24)).alloc (Obj.cells #[Value.int .i64 0, Value.int .i64 0] 42)) := ((Below.refl _ _).alloc (Nat.le_refl _) _).alloc (by simp) _
  go_wp2_with fail
  refine (HP.out _ hbx).mono ?_
  rintro e w2 ⟨rfl, hb2⟩
  have u0 : w2.cell? ⟨w1.heap.size + 1, 0, none⟩ = some (.int .i64 0) := by rw [hb2.cell (by simp)]; go_simp
  have t1 : w2.cell? ⟨w1.heap.size, 1, none⟩ = some (.slice ka 2 cap) := by rw [hb2.cell (by simp; omega)]; go_simp
  have hB2 := hb1.trans ((hbx.trans (hb2.mono (by simp; omega))).mono hb1.size)
  clear hbx hb2 HP
  go_wp2_with fail
  go_ret
  exact ⟨rfl, hB2⟩
end Go.Proofs.Ytafojlockiekfaa
