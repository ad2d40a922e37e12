/- SameTree and SameTrees of package pleachingref, of trees that lie in memory, say whether the forests are the same but for where they lie. Of the program's text. -/
import Derived.Test.YtafojlockiekfaaProg
import Derived.Test.YtafojlockiekfaaRef
import Derived.Deep.RegionHeld3
namespace Go.Proofs.Ytafojlockiekfaa
open Go.Deep Go.RowKit
set_option linter.unusedVariables false
set_option maxRecDepth 20000

def sameF : Fo → Fo → Bool
  | .nil, .nil => true
  | .node _ _ x k r, .node _ _ y l q => (x.1.toList == y.1.toList && sameF k l) && sameF r q
  | _, _ => false
def sameT (s : ByteArray) (k : Fo) (s' : ByteArray) (k' : Fo) : Bool := s.toList == s'.toList && sameF k k'

/-- What is asked of SameTrees at a list of trees, in whatever world. -/
def SameAt (k : Fo) : Prop := ∀ (ka : Option Addr) (cap : Nat) (ka' : Option Addr) (cap' : Nat) (k' : Fo) (w : World), flen k ≤ maxLen → flen k' ≤ maxLen → KIn w ka k → KIn w ka' k' →
    Calls Try.prog 47 #[.slice ka (flen k) cap, .slice ka' (flen k') cap'] w fun e w' => e = .returned (.bool (sameF k k')) ∧ Below w.heap.size w w'

set_option maxHeartbeats 400000 in
theorem sameTree_of (k : Fo) (h : SameAt k) (s : ByteArray) (ka : Option Addr) (cap : Nat) (s' : ByteArray) (ka' : Option Addr) (cap' : Nat) (k' : Fo) (w : World) (ht : TIn w s ka cap k) (ht' : TIn w s' ka' cap' k') :
    Calls Try.prog 24 #[.agg #[.string s, .slice ka (flen k) cap], .agg #[.string s', .slice ka' (flen k') cap']] w fun e w' => e = .returned (.bool (sameT s k s' k')) ∧ Below w.heap.size w w' := by
  have hbox : Below w.heap.size w ((w.alloc (Obj.cells #[Value.string s, Value.slice ka (flen k) cap] 24)).alloc (Obj.cells #[Value.string s', Value.slice ka' (flen k') cap'] 24)) :=
    ((Below.refl _ _).alloc (Nat.le_refl _) _).alloc (by simp) _
  have hl := Nat.le_trans ht.len ht.cap
  have hl' := Nat.le_trans ht'.len ht'.cap
  have hk := ht.kids.below hbox
  have hk' := ht'.kids.below hbox
  by_cases hs : s.toList = s'.toList
  · have hs1 : (s.toList == s'.toList) = true := beq_iff_eq.2 hs
    clear hs
    go_enter Try.func24, Try.ntmps24
    go_wp2_with fail
    refine (h _ _ _ _ _ _ hl hl' hk hk').mono ?_
    rintro e w1 ⟨rfl, hb1⟩
    go_wp2_with fail
    go_ret
    exact ⟨ret_bool (by simp [sameT, hs1]), hbox.trans (hb1.mono hbox.size)⟩
  · have hs1 : (s.toList == s'.toList) = false := beq_eq_false_iff_ne.2 hs
    clear hs
    go_enter Try.func24, Try.ntmps24
    go_wp2_with fail
    go_ret
    exact ⟨ret_bool (by simp [sameT, hs1]), hbox⟩

theorem sameF_len : ∀ (k l : Fo), sameF k l = true → flen k = flen l
  | .nil, .nil, _ => rfl
  | .nil, .node _ _ _ _ _, h => by simp [sameF] at h
  | .node _ _ _ _ _, .nil, h => by simp [sameF] at h
  | .node _ _ _ _ r, .node _ _ _ _ q, h => by
    simp only [sameF, Bool.and_eq_true] at h
    simp [flen, sameF_len r q h.2]

theorem sameF_step {k l : Fo} {j b o b' o' : Nat} {x y : ByteArray × Option Addr × Nat} {kk ll : Fo} (h : fdrop j k = .node b o x kk (fdrop (j + 1) k)) (h' : fdrop j l = .node b' o' y ll (fdrop (j + 1) l)) :
    sameF (fdrop j k) (fdrop j l) = (sameT x.1 kk y.1 ll && sameF (fdrop (j + 1) k) (fdrop (j + 1) l)) := by
  rw [h, h']; rfl

set_option maxHeartbeats 800000 in
theorem sameTrees_N : ∀ (N : Nat) (k : Fo), fnodes k < N → SameAt k := by
  intro N
  induction N with
  | zero => intro k hN; exact absurd hN (Nat.not_lt_zero _)
  | succ N ih =>
    intro k hN ka cap ka' cap' k' w hl hl' hk hk'
    have HI := hide ih; clear ih
    unfold maxLen at hl hl'
    by_cases hlen : flen k = flen k'
    · have hle : ((flen k : Int) != (flen k' : Int)) = false := by rw [hlen]; simp
      have HL := hide hlen
      clear hlen
      go_enter Try.func47, Try.ntmps47
      go_wp2_with fail
      go_loopw [5] (fun i wr => ∃ j : Nat, j ≤ flen k ∧ i = .int .i64 j ∧ Hid (sameF k k' = sameF (fdrop j k) (fdrop j k')) ∧ Below w.heap.size w wr) (fun i _ => flen k - (intOf i).toNat)
      case atStart => exact ⟨0, Nat.zero_le _, rfl, rfl, Below.refl _ _⟩
      case round =>
        obtain ⟨j, hj, rfl, hF, hb⟩ := hrel
        obtain ⟨hcell, hfr⟩ := bcell hb
        by_cases hlt : j < flen k
        · rcases hk with rfl | ⟨kb, ko, rfl, hk⟩
          · exact absurd hlt (Nat.not_lt_zero _)
          have hlt' : j < flen k' := by have := HL.out; omega
          rcases hk' with rfl | ⟨kb', ko', rfl, hk'⟩
          · exact absurd hlt' (Nat.not_lt_zero _)
          obtain ⟨b1, o1, x, kk, he, hc0, hc1, htin, hbb⟩ := hk.at hlt
          obtain ⟨b2, o2, y, ll, he', hd0, hd1, htin', hbb'⟩ := hk'.at hlt'
          have HE := hide he
          have HF := hide (sameF_step he he')
          clear he he'
          have hn : fnodes kk < N := by have := fnodes_of_drop HE.out; omega
          have hS : ∀ w', Below w.heap.size w w' → (w'.cell? ⟨kb, ko + j * 2, none⟩ = some (.string x.1) ∧ w'.cell? ⟨kb, ko + j * 2 + 1, none⟩ = some (.slice x.2.1 (flen kk) x.2.2) ∧
              w'.cell? ⟨kb', ko' + j * 2, none⟩ = some (.string y.1) ∧ w'.cell? ⟨kb', ko' + j * 2 + 1, none⟩ = some (.slice y.2.1 (flen ll) y.2.2)) := fun w' h =>
            ⟨(h.cell hbb).trans hc0, (h.cell hbb).trans hc1, (h.cell hbb').trans hd0, (h.cell hbb').trans hd1⟩
          have HS := hide hS
          clear hS
          cases hq : sameT x.1 kk y.1 ll
          · have HQ := hide hq
            clear hq
            go_wp2_with fail
            go_region_held3 (fun w' => w'.cell? ⟨kb, ko + j * 2, none⟩ = some (.string x.1) ∧ w'.cell? ⟨kb, ko + j * 2 + 1, none⟩ = some (.slice x.2.1 (flen kk) x.2.2) ∧
                w'.cell? ⟨kb', ko' + j * 2, none⟩ = some (.string y.1) ∧ w'.cell? ⟨kb', ko' + j * 2 + 1, none⟩ = some (.slice y.2.1 (flen ll) y.2.2))
              (first | exact HS.out _ hb.drew | exact HS.out _ (hb.drew.trans (hb1.mono hb.drew.size)))
              ((go_at_call 24; refine (sameTree_of _ (HI.out _ hn) _ _ _ _ _ _ _ _ (htin.below hb.drew) (htin'.below hb.drew)).mono ?_; rintro e w1 ⟨rfl, hb1⟩; rw [HQ.out]))
            go_wp2_with fail
            go_ret
            exact ⟨ret_bool (by have h1 := hF.out; have h2 := HF.out; rw [h1, h2, show sameT x.1 kk y.1 ll = false from HQ.out]; rfl), hb.drew.trans (hb1.mono hb.drew.size)⟩
          · have HQ := hide hq
            clear hq
            go_wp2_with fail
            go_region_held3 (fun w' => w'.cell? ⟨kb, ko + j * 2, none⟩ = some (.string x.1) ∧ w'.cell? ⟨kb, ko + j * 2 + 1, none⟩ = some (.slice x.2.1 (flen kk) x.2.2) ∧
                w'.cell? ⟨kb', ko' + j * 2, none⟩ = some (.string y.1) ∧ w'.cell? ⟨kb', ko' + j * 2 + 1, none⟩ = some (.slice y.2.1 (flen ll) y.2.2))
              (first | exact HS.out _ hb.drew | exact HS.out _ (hb.drew.trans (hb1.mono hb.drew.size)))
              ((go_at_call 24; refine (sameTree_of _ (HI.out _ hn) _ _ _ _ _ _ _ _ (htin.below hb.drew) (htin'.below hb.drew)).mono ?_; rintro e w1 ⟨rfl, hb1⟩; rw [HQ.out]))
            have hb2 : Below w.heap.size w w1 := hb.drew.trans (hb1.mono hb.drew.size)
            go_wp2_with fail
            go_roundw
            case rel => exact ⟨j + 1, by omega, by go_num, by have h1 := hF.out; have h2 := HF.out; rw [h1, h2, show sameT x.1 kk y.1 ll = true from HQ.out]; rfl, hb2⟩
            case measure => simp [intOf]; omega
        · go_wp2_with fail
          go_ret
          exact ⟨ret_bool (by have h1 := hF.out; have h2 := HL.out; rw [fdrop_end j k (by omega), fdrop_end j k' (by omega)] at h1; rw [h1]; rfl), hb⟩
    · have hle : ((flen k : Int) != (flen k' : Int)) = true := by simp; omega
      have HL := hide hlen
      clear hlen
      go_enter Try.func47, Try.ntmps47
      go_wp2_with fail
      go_ret
      exact ⟨ret_bool (by have h := HL.out; cases hq : sameF k k' with | false => rfl | true => exact absurd (sameF_len _ _ hq) h), Below.refl _ _⟩

theorem sameTrees_any (k : Fo) : SameAt k := sameTrees_N _ k (Nat.lt_succ_self _)

theorem sameTree_any (s : ByteArray) (ka : Option Addr) (cap : Nat) (k : Fo) (s' : ByteArray) (ka' : Option Addr) (cap' : Nat) (k' : Fo) (w : World) (ht : TIn w s ka cap k) (ht' : TIn w s' ka' cap' k') :
    Calls Try.prog 24 #[.agg #[.string s, .slice ka (flen k) cap], .agg #[.string s', .slice ka' (flen k') cap']] w fun e w' => e = .returned (.bool (sameT s k s' k')) ∧ Below w.heap.size w w' :=
  sameTree_of k (sameTrees_any k) s ka cap s' ka' cap' k' w ht ht'

end Go.Proofs.Ytafojlockiekfaa
