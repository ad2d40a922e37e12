/- pleachinglaw.treeBegun answers true. Of the program's text. -/
import Derived.Test.YtafojlockiekfaaProg
import Derived.Test.YtafojlockiekfaaCheck
import Derived.Test.YtafojlockiekfaaAt
import Derived.Test.YtafojlockiekfaaSame
import Derived.Deep.RegionHeld3
namespace Go.Proofs.Ytafojlockiekfaa
open Go.Deep Go.RowKit
set_option linter.unusedVariables false
set_option maxRecDepth 20000

theorem sameF_strip : ∀ (f g : Fo), sameF f (strip g) = sameF f g
  | .nil, .nil => rfl
  | .nil, .node _ _ _ _ _ => rfl
  | .node _ _ _ _ _, .nil => rfl
  | .node _ _ x k r, .node _ _ y l q => by simp [sameF, strip, sameF_strip k l, sameF_strip r q]
theorem sameF_refl : ∀ f : Fo, sameF f f = true
  | .nil => rfl
  | .node _ _ x k r => by simp [sameF, sameF_refl k, sameF_refl r]
theorem sameF_of_strip {f g h : Fo} (e : strip g = strip h) : sameF f g = sameF f h := by rw [← sameF_strip f g, e, sameF_strip]
theorem sameF_strip_left : ∀ (f g : Fo), sameF (strip f) g = sameF f g
  | .nil, .nil => rfl
  | .nil, .node _ _ _ _ _ => rfl
  | .node _ _ _ _ _, .nil => rfl
  | .node _ _ x k r, .node _ _ y l q => by simp [sameF, strip, sameF_strip_left k l, sameF_strip_left r q]
theorem sameF_of_strip_left {f g h : Fo} (e : strip g = strip h) : sameF g f = sameF h f := by rw [← sameF_strip_left g f, e, sameF_strip_left]

/-- The tree of treeBegun, a(b c(d)), its lists in blocks N and N + 1. -/
def begunF (N : Nat) : Fo := .node (N + 1) 0 (⟨#[98]⟩, none, 0) .nil (.node (N + 1) 2 (⟨#[99]⟩, some ⟨N, 0, none⟩, 1) (.node N 0 (⟨#[100]⟩, none, 0) .nil .nil) .nil)

theorem begunF_len (N : Nat) : flen (begunF N) = 2 := rfl
theorem begunF_nodes (N : Nat) : fnodes (begunF N) = 3 := rfl

/-- The four blocks that treeBegun lays. -/
def begunW (w : World) : World := (((w.alloc (Obj.cells #[Value.string ⟨#[100]⟩, Value.slice none 0 0] 24)).alloc (Obj.cells #[Value.string ⟨#[98]⟩, Value.slice none 0 0, Value.string ⟨#[99]⟩, Value.slice (some ⟨w.heap.size, 0, none⟩) 1 1] 24)).alloc
  (Obj.cells #[Value.string ⟨#[97]⟩, Value.slice (some ⟨w.heap.size + 1, 0, none⟩) 2 2] 24)).alloc (Obj.cells #[Value.int .i64 1, Value.int .i64 0] 3)

theorem begunW_below (w : World) : Below w.heap.size w (begunW w) :=
  ((((Below.refl _ _).alloc (Nat.le_refl _) _).alloc (by simp) _).alloc (by simp; omega) _).alloc (by simp; omega) _
theorem begunW_size (w : World) : (begunW w).heap.size = w.heap.size + 4 := by simp [begunW]

theorem begunW_heap (w : World) : (begunW w).heap[w.heap.size]? = some (Obj.cells #[Value.string ⟨#[100]⟩, Value.slice none 0 0] 24) ∧
    (begunW w).heap[w.heap.size + 1]? = some (Obj.cells #[Value.string ⟨#[98]⟩, Value.slice none 0 0, Value.string ⟨#[99]⟩, Value.slice (some ⟨w.heap.size, 0, none⟩) 1 1] 24) ∧
    (begunW w).heap[w.heap.size + 1 + 1]? = some (Obj.cells #[Value.string ⟨#[97]⟩, Value.slice (some ⟨w.heap.size + 1, 0, none⟩) 2 2] 24) ∧
    (begunW w).heap[w.heap.size + 1 + 1 + 1]? = some (Obj.cells #[Value.int .i64 1, Value.int .i64 0] 3) := by
  unfold begunW
  generalize Obj.cells #[Value.string ⟨#[100]⟩, Value.slice none 0 0] 24 = a
  generalize Obj.cells #[Value.string ⟨#[98]⟩, Value.slice none 0 0, Value.string ⟨#[99]⟩, Value.slice (some ⟨w.heap.size, 0, none⟩) 1 1] 24 = b
  generalize Obj.cells #[Value.string ⟨#[97]⟩, Value.slice (some ⟨w.heap.size + 1, 0, none⟩) 2 2] 24 = c
  generalize Obj.cells #[Value.int .i64 1, Value.int .i64 0] 3 = d
  have e1 : (w.alloc a).heap.size = w.heap.size + 1 := by simp
  have e2 : ((w.alloc a).alloc b).heap.size = w.heap.size + 1 + 1 := by simp
  have e3 : (((w.alloc a).alloc b).alloc c).heap.size = w.heap.size + 1 + 1 + 1 := by simp
  have h1 := heap_alloc_new (w.alloc a) b
  have h2 := heap_alloc_new ((w.alloc a).alloc b) c
  have h3 := heap_alloc_new (((w.alloc a).alloc b).alloc c) d
  rw [e1] at h1
  rw [e2] at h2
  rw [e3] at h3
  refine ⟨?_, ?_, ?_, h3⟩
  · rw [Below.heap_alloc _ _ _ (by omega), Below.heap_alloc _ _ _ (by omega), Below.heap_alloc _ _ _ (by omega)]
    exact heap_alloc_new _ _
  · rw [Below.heap_alloc _ _ _ (by omega), Below.heap_alloc _ _ _ (by omega)]
    exact h1
  · rw [Below.heap_alloc _ _ _ (by omega)]
    exact h2

theorem sz1 (c : UInt8) : (⟨#[c]⟩ : ByteArray).size ≤ maxLen := by show 1 ≤ maxLen; unfold maxLen; decide
theorem sz1k (c : UInt8) : (⟨#[c]⟩ : ByteArray).size ≤ 1000 := by show 1 ≤ 1000; decide

theorem begun_ok (w : World) : ItOk (begunW w) 200 (⟨#[97]⟩, some ⟨w.heap.size + 1, 0, none⟩, 2, begunF w.heap.size) := by
  obtain ⟨h0, h1, h2, h3⟩ := begunW_heap w
  have hd : FIn (begunW w) (.node w.heap.size 0 (⟨#[100]⟩, none, 0) .nil .nil) w.heap.size 0 :=
    ⟨rfl, rfl, by rw [cell_of_row _ _ 0 _ _ _ h0]; rfl, by rw [cell_of_row _ _ (0 + 1) _ _ _ h0]; rfl, sz1 _, by simp [flen], by simp [maxLen], Or.inl rfl, trivial⟩
  have hF : FIn (begunW w) (begunF w.heap.size) (w.heap.size + 1) 0 :=
    ⟨rfl, rfl, by rw [cell_of_row _ _ 0 _ _ _ h1]; rfl, by rw [cell_of_row _ _ (0 + 1) _ _ _ h1]; rfl, sz1 _, by simp [flen], by simp [maxLen], Or.inl rfl,
      rfl, rfl, by rw [cell_of_row _ _ (0 + 2) _ _ _ h1]; rfl, by rw [cell_of_row _ _ (0 + 2 + 1) _ _ _ h1]; rfl, sz1 _, by simp [flen], by simp [maxLen], Or.inr ⟨_, _, rfl, hd⟩, trivial⟩
  exact ⟨⟨sz1 _, by simp [begunF_len], by simp [maxLen], Or.inr ⟨_, _, rfl, hF⟩⟩, ⟨⟨_, _, h1⟩, trivial, ⟨_, _, h1⟩, ⟨⟨_, _, h0⟩, trivial, trivial⟩, trivial⟩, by simp [begunF_nodes], sz1k _, ⟨sz1k _, trivial, sz1k _, ⟨sz1k _, trivial, trivial⟩, trivial⟩⟩

theorem begun_nodup (N : Nat) : (ab (begunF N)).Nodup := by
  simp [ab, hb, lb, begunF]

theorem begun_fault (N : Nat) : faultT ⟨#[97]⟩ (begunF N) = 0 := by
  have h1 : deepT (begunF N) 0 = false := rfl
  have h2 : badT ⟨#[97]⟩ (begunF N) = false := by
    have a : labelB ⟨#[97]⟩ = true := by decide
    have b : labelB ⟨#[98]⟩ = true := by decide
    have c : labelB ⟨#[99]⟩ = true := by decide
    have d : labelB ⟨#[100]⟩ = true := by decide
    simp [badT, badF, begunF, a, b, c, d]
  unfold faultT
  rw [if_neg (by simp [begunF_nodes]), if_neg (by rw [h1]; decide), if_neg (by rw [h2]; decide)]
theorem none_fault : faultT ⟨#[]⟩ .nil = 1 := by
  have h2 : badT ⟨#[]⟩ .nil = true := by
    have a : labelB ⟨#[]⟩ = false := by decide
    simp [badT, a]
  unfold faultT
  rw [if_neg (by decide), if_neg (by decide), if_pos h2]
theorem abc_label : labelB ⟨#[97, 98, 99]⟩ = true := by decide
theorem begun_at (N : Nat) : atT (⟨#[97]⟩, some ⟨N + 1, 0, none⟩, 2, begunF N) [1, 0] = some (⟨#[100]⟩, none, 0, .nil) := rfl

theorem begun_path (w : World) : PIn (begunW w) (some ⟨w.heap.size + 1 + 1 + 1, 0, none⟩) [1, 0] := by
  obtain ⟨h0, h1, h2, h3⟩ := begunW_heap w
  refine Or.inr ⟨_, _, rfl, fun i p hp => ?_⟩
  rw [cell_of_row _ _ (0 + i) _ _ _ h3]
  match i, hp with
  | 0, hp => simpa using hp
  | 1, hp => simpa using hp
  | i + 2, hp => simp at hp

/-- What stays of the world while treeBegun's last row runs. -/
def BegunS (w : World) (n : Nat) (ka : Option Addr) (l cap : Nat) (W : World) (w' : World) : Prop :=
  Below W.heap.size W w' ∧ w'.cell? ⟨w.heap.size + 1 + 1, 0, none⟩ = some (.string ⟨#[97]⟩) ∧ w'.cell? ⟨w.heap.size + 1 + 1, 1, none⟩ = some (.slice (some ⟨w.heap.size + 1, 0, none⟩) 2 2) ∧
  w'.cell? ⟨n, 0, none⟩ = some (.string ⟨#[100]⟩) ∧ w'.cell? ⟨n, 1, none⟩ = some (.slice ka l cap)

theorem cellOf {w w' : World} (h : Below w.heap.size w w') {b o : Nat} {v : Value} (hc : w.cell? ⟨b, o, none⟩ = some v) : w'.cell? ⟨b, o, none⟩ = some v := by
  rw [h.cell (World.block_lt_of_cell? _ _ hc)]; exact hc
theorem okBelow {w w' : World} {n : Nat} {i : It} (h : ItOk w n i) (hb : Below w.heap.size w w') : ItOk w' n i := ⟨TIn.below hb h.tin, FPlain.below hb h.plain, h.nodes, h.label, h.small⟩

theorem BegunS.on {w : World} {n : Nat} {ka : Option Addr} {l cap : Nat} {W w1 w2 : World} (h : BegunS w n ka l cap W w1) (hb : Below w1.heap.size w1 w2) : BegunS w n ka l cap W w2 :=
  ⟨h.1.trans (hb.mono h.1.size), cellOf hb h.2.1, cellOf hb h.2.2.1, cellOf hb h.2.2.2.1, cellOf hb h.2.2.2.2⟩

theorem begun_same (s : ByteArray) (N : Nat) {k : Fo} (h : strip k = strip (begunF N)) : sameT s (begunF N) s k = true := by
  unfold sameT
  rw [sameF_of_strip h, sameF_refl]
  simp
theorem begun_other (N : Nat) (k : Fo) : sameT ⟨#[97]⟩ (begunF N) ⟨#[100]⟩ k = false := by
  unfold sameT
  simp

set_option maxHeartbeats 4000000 in
set_option maxRecDepth 100000 in
theorem begun_any (w : World) : Calls Try.prog 12 #[] w fun e w' => e = .returned (.bool true) ∧ Below w.heap.size w w' := by
  have hok := begun_ok w
  have hB := begunW_below w
  have hsz := begunW_size w
  obtain ⟨g0, g1, g2, g3⟩ := begunW_heap w
  have ht0 : (begunW w).cell? ⟨w.heap.size + 1 + 1, 0, none⟩ = some (.string ⟨#[97]⟩) := by rw [cell_of_row _ _ 0 _ _ _ g2]; rfl
  have ht1 : (begunW w).cell? ⟨w.heap.size + 1 + 1, 1, none⟩ = some (.slice (some ⟨w.heap.size + 1, 0, none⟩) 2 2) := by rw [cell_of_row _ _ 1 _ _ _ g2]; rfl
  have hAt : Calls Try.prog 15 #[(.agg #[.string ⟨#[97]⟩, .slice (some ⟨w.heap.size + 1, 0, none⟩) 2 2]), .slice (some ⟨w.heap.size + 1 + 1 + 1, 0, none⟩) 2 2] (begunW w) fun e w' => AtPost (begunW w) (⟨#[97]⟩, some ⟨w.heap.size + 1, 0, none⟩, 2, begunF w.heap.size) [1, 0] e w' ∧ Below (begunW w).heap.size (begunW w) w' :=
    at_any (⟨#[97]⟩, some ⟨w.heap.size + 1, 0, none⟩, 2, begunF w.heap.size) [1, 0] (some ⟨w.heap.size + 1 + 1 + 1, 0, none⟩) 2 (begunW w) hok (begun_path w) (by simp) (by simp [maxLen])
  have HAT := hide hAt
  clear hAt g0 g1 g2 g3
  go_enter Try.func12, Try.ntmps12
  go_wp2_with fail
  refine Calls.mono HAT.out ?_
  rintro e w1 ⟨hp, hb1⟩
  rcases hp with ⟨hp, _⟩ | ⟨i, ka', cap', k', hi, rfl, hst, ht, hpl, _⟩
  · rw [begun_at] at hp; cases hp
  rw [begun_at] at hi
  simp only [Option.some.injEq] at hi
  subst hi
  simp only at hst ht ⊢
  have HST := hide hst
  clear hst
  go_wp2_with fail
  have hbx : Below w1.heap.size w1 (w1.alloc (Obj.cells #[Value.string ⟨#[100]⟩, Value.slice ka' (flen k') cap'] 24)) := (Below.refl _ _).alloc (Nat.le_refl _) _
  have hx0 : (w1.alloc (Obj.cells #[Value.string ⟨#[100]⟩, Value.slice ka' (flen k') cap'] 24)).cell? ⟨w1.heap.size, 0, none⟩ = some (.string ⟨#[100]⟩) := by go_simp
  have hx1 : (w1.alloc (Obj.cells #[Value.string ⟨#[100]⟩, Value.slice ka' (flen k') cap'] 24)).cell? ⟨w1.heap.size, 1, none⟩ = some (.slice ka' (flen k') cap') := by go_simp
  have hWok := fun (W' : World) (h : Below (begunW w).heap.size (begunW w) W') => okBelow hok h
  generalize hW1 : w1.alloc (Obj.cells #[Value.string ⟨#[100]⟩, Value.slice ka' (flen k') cap'] 24) = W1 at hbx hx0 hx1 ⊢
  have hbW : Below (begunW w).heap.size (begunW w) W1 := hb1.trans (hbx.mono hb1.size)
  have hS0 : BegunS w w1.heap.size ka' (flen k') cap' W1 W1.drew := ⟨(Below.refl _ _).drew, cellOf (hbW.drew) ht0, cellOf (hbW.drew) ht1, cellOf (Below.refl _ _).drew hx0, cellOf (Below.refl _ _).drew hx1⟩
  have hxW : ∀ W', Below W1.heap.size W1 W' → TIn W' ⟨#[100]⟩ ka' cap' k' := fun W' h => (ht.below hbx).below h
  have hcheck : ∀ W', BegunS w w1.heap.size ka' (flen k') cap' W1 W' → Calls Try.prog 19 #[.agg #[.string ⟨#[97]⟩, .slice (some ⟨w.heap.size + 1, 0, none⟩) 2 2]] W' fun e w' => e = .returned (.int .i64 0) ∧ Below W'.heap.size W' w' := fun W' h => by
    obtain ⟨h1, h2, h3, h4, h5⟩ := hWok W' (hbW.trans (h.1.mono hbW.size))
    have := check_any ⟨#[97]⟩ (some ⟨w.heap.size + 1, 0, none⟩) 2 (begunF w.heap.size) W' h1 h2 h3
    rw [begun_fault] at this
    exact this
  have hsize : ∀ W', BegunS w w1.heap.size ka' (flen k') cap' W1 W' → Calls Try.prog 21 #[.agg #[.string ⟨#[97]⟩, .slice (some ⟨w.heap.size + 1, 0, none⟩) 2 2]] W' fun e w' => e = .returned (.int .i64 4) ∧ Below W'.heap.size W' w' := fun W' h => by
    obtain ⟨h1, h2, h3, h4, h5⟩ := hWok W' (hbW.trans (h.1.mono hbW.size))
    exact size_any ⟨#[97]⟩ (some ⟨w.heap.size + 1, 0, none⟩) 2 (begunF w.heap.size) W' h1 h2 h3
  have hown : ∀ W', BegunS w w1.heap.size ka' (flen k') cap' W1 W' → Calls Try.prog 25 #[.agg #[.string ⟨#[97]⟩, .slice (some ⟨w.heap.size + 1, 0, none⟩) 2 2]] W' fun e w' => ∃ ka2 cap2 k2, e = .returned (.agg #[.string ⟨#[97]⟩, .slice ka2 (flen k2) cap2]) ∧ strip k2 = strip (begunF w.heap.size) ∧ TIn w' ⟨#[97]⟩ ka2 cap2 k2 ∧ FFrom W'.heap.size k2 ∧ FPlain w' k2 ∧ Below W'.heap.size W' w' := fun W' h => by
    obtain ⟨h1, h2, h3, h4, h5⟩ := hWok W' (hbW.trans (h.1.mono hbW.size))
    exact own_any ⟨#[97]⟩ (some ⟨w.heap.size + 1, 0, none⟩) 2 (begunF w.heap.size) W' h1 h2 h3 h4 h5
  have hsame : ∀ W' ka2 cap2 k2, BegunS w w1.heap.size ka' (flen k') cap' W1 W' → TIn W' ⟨#[97]⟩ ka2 cap2 k2 → Hid (strip k2 = strip (begunF w.heap.size)) → Calls Try.prog 23 #[.agg #[.string ⟨#[97]⟩, .slice (some ⟨w.heap.size + 1, 0, none⟩) 2 2], .agg #[.string ⟨#[97]⟩, .slice ka2 (flen k2) cap2]] W' fun e w' => e = .returned (.bool true) ∧ Below W'.heap.size W' w' := fun W' ka2 cap2 k2 h ht2 hst2 => by
    obtain ⟨h1, h2, h3, h4, h5⟩ := hWok W' (hbW.trans (h.1.mono hbW.size))
    have := same_any ⟨#[97]⟩ (some ⟨w.heap.size + 1, 0, none⟩) 2 (begunF w.heap.size) ⟨#[97]⟩ ka2 cap2 k2 W' h1 ht2 h2 (begun_nodup _) h3
    rw [begun_same _ _ hst2.out] at this
    exact this
  have hother : ∀ W', BegunS w w1.heap.size ka' (flen k') cap' W1 W' → Calls Try.prog 23 #[.agg #[.string ⟨#[97]⟩, .slice (some ⟨w.heap.size + 1, 0, none⟩) 2 2], .agg #[.string ⟨#[100]⟩, .slice ka' (flen k') cap']] W' fun e w' => e = .returned (.bool false) ∧ Below W'.heap.size W' w' := fun W' h => by
    obtain ⟨h1, h2, h3, h4, h5⟩ := hWok W' (hbW.trans (h.1.mono hbW.size))
    have := same_any ⟨#[97]⟩ (some ⟨w.heap.size + 1, 0, none⟩) 2 (begunF w.heap.size) ⟨#[100]⟩ ka' cap' k' W' h1 (hxW W' h.1) h2 (begun_nodup _) h3
    rw [begun_other] at this
    exact this
  have hlabel : ∀ W', Calls Try.prog 17 #[.string ⟨#[97, 98, 99]⟩] W' fun e w' => e = .returned (.bool true) ∧ w' = W' := fun W' => by
    have := label_any ⟨#[97, 98, 99]⟩ W' (by show 3 ≤ maxLen; unfold maxLen; decide)
    rw [abc_label] at this
    exact this
  have hnone : ∀ W', Calls Try.prog 19 #[.agg #[.string ⟨#[]⟩, .slice none 0 0]] W' fun e w' => e = .returned (.int .i64 1) ∧ Below W'.heap.size W' w' := fun W' => by
    have := check_any ⟨#[]⟩ none 0 .nil W' ⟨by show 0 ≤ maxLen; omega, by simp [flen], by omega, Or.inl rfl⟩ trivial (by decide)
    rw [none_fault] at this
    exact this
  have hbEnd : ∀ W', Below W1.heap.size W1 W' → Below w.heap.size w W' := fun W' h => (hB.trans (hbW.mono hB.size)).trans (h.mono (by have := hbW.size; have := hB.size; omega))
  have H1 := hide hcheck
  have H2 := hide hsize
  have H3 := hide hown
  have H4 := hide hsame
  have H5 := hide hother
  have H6 := hide hlabel
  have H7 := hide hnone
  have HE := hide hbEnd
  have HS0 := hide hS0
  clear hcheck hsize hown hsame hother hlabel hnone hbEnd hS0 hxW hWok hok hbW hbx hb1 hB hsz ht hpl HAT hW1 hx0 hx1 ht0 ht1
  generalize w1.heap.size = n1 at *
  go_region_held3 (fun w' => Below W1.heap.size W1 w' ∧ w'.cell? ⟨w.heap.size + 1 + 1, 0, none⟩ = some (.string ⟨#[97]⟩) ∧ w'.cell? ⟨w.heap.size + 1 + 1, 1, none⟩ = some (.slice (some ⟨w.heap.size + 1, 0, none⟩) 2 2) ∧
      w'.cell? ⟨n1, 0, none⟩ = some (.string ⟨#[100]⟩) ∧ w'.cell? ⟨n1, 1, none⟩ = some (.slice ka' (flen k') cap'))
    (first | exact BegunS.on (by assumption) (by assumption) | assumption | exact HS0.out)
    (first
      | (go_at_call_of 19 w; refine (H1.out _ (by assumption)).mono ?_; rintro e w2 ⟨rfl, hb2⟩)
      | (go_at_call 19; refine (H7.out _).mono ?_; rintro e w2 ⟨rfl, hb2⟩)
      | (go_at_call 21; refine (H2.out _ (by assumption)).mono ?_; rintro e w2 ⟨rfl, hb2⟩)
      | (go_at_call 25; refine (H3.out _ (by assumption)).mono ?_; rintro e w2 ⟨ka2, cap2, k2, rfl, hst2, ht2, hfr2, hpl2, hb2⟩; have HST2 := hide hst2; clear hst2)
      | (go_at_call_of 23 ka'; refine (H5.out _ (by assumption)).mono ?_; rintro e w3 ⟨rfl, hb3⟩)
      | (go_at_call 23; refine (H4.out _ _ _ _ (by assumption) (by assumption) (by assumption)).mono ?_; rintro e w3 ⟨rfl, hb3⟩)
      | (go_at_call 17; refine (H6.out _).mono ?_; rintro e w2 ⟨rfl, rfl⟩))
  go_wp2_with fail
  go_ret
  exact ⟨rfl, HE.out _ (And.left (by assumption))⟩

end Go.Proofs.Ytafojlockiekfaa
