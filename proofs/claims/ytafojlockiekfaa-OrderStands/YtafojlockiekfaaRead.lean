/- read and Parse of package text. Of the program's text. -/
import Derived.Test.YtafojlockiekfaaProg
import Derived.Test.YtafojlockiekfaaRdT
import Derived.Defers
import Derived.Recover
namespace Go.Proofs.Ytafojlockiekfaa
open Go.Deep Go.RowKit
set_option linter.unusedVariables false
set_option maxRecDepth 20000

theorem run_assert_stop (v : Value) (w : World) : (Instr.typeAssert (.iface 107 v) 20 107 true).run Try.prog w = .ok (.tuple #[v, .bool true]) w := by
  have h := Try.underlying107
  simp [Instr.typeAssert, run_underlying h]

set_option maxHeartbeats 1000000 in
theorem catch_stop (f c q : Nat) (x0 x1 : Value) (T : TypeId) (older : List PanicEntry) (w : World) (hb : w.heap[f]? = some (.cells #[x0, x1] T)) :
    CallsD Try.prog 66 #[.pointer (some ⟨f, 0, none⟩)] (.panicking ({ v := stopV c q, recovered := false } :: older)) w fun e u' w' =>
      e = .returned (.tuple #[]) ∧ u' = .panicking ({ v := stopV c q, recovered := true } :: older) ∧ w' = ((w.alloc (.cells #[.int .i64 c, .int .i64 q] 107)).setCell ⟨f, 0, none⟩ (.int .i64 c)).setCell ⟨f, 1, none⟩ (.int .i64 q) := by
  have hb' : (w.alloc (.cells #[.int .i64 c, .int .i64 q] 107)).heap[f]? = some (.cells #[x0, x1] T) := by rw [Below.heap_alloc _ _ _ (lt_of_heap hb)]; exact hb
  have h0 : (w.alloc (.cells #[.int .i64 c, .int .i64 q] 107)).cell? ⟨f, 0, none⟩ = some x0 := by rw [cell_of_row _ _ 0 _ _ _ hb']; rfl
  have h1 : (w.alloc (.cells #[.int .i64 c, .int .i64 q] 107)).cell? ⟨f, 1, none⟩ = some x1 := by rw [cell_of_row _ _ 1 _ _ _ hb']; rfl
  have hz : ∀ o, (w.alloc (.cells #[.int .i64 c, .int .i64 q] 107)).frozen? ⟨f, o, none⟩ = false := fun o => by simp [World.frozen?, hb']
  clear hb hb'
  unfold stopV
  have hta := run_assert_stop (.agg #[.int .i64 c, .int .i64 q])
  refine callsD_of_wpS Try.func66 rfl fun c₀ cs hu => ?_
  apply wpS_seq
  apply wpS_region
  simp [wpOpsS, go_sem, recoverD, hu, Try.ntmps66, Exit.thenS]
  rw [show (#[Value.pointer (some ⟨f, 0, none⟩)] ++ (Array.replicate 11 undef).setIfInBounds 3 (Value.iface 107 (Value.agg #[Value.int IntKind.i64 c, Value.int IntKind.i64 q]))) = #[Value.pointer (some ⟨f, 0, none⟩), undef, undef, undef, Value.iface 107 (Value.agg #[Value.int IntKind.i64 c, Value.int IntKind.i64 q]), undef, undef, undef, undef, undef, undef, undef] from rfl]
  refine wpS_of_wp ?_
  go_wp2
  simp [bodyPostS, results, Try.results66]

theorem catch_idle (f : Nat) (w : World) :
    CallsD Try.prog 66 #[.pointer (some ⟨f, 0, none⟩)] .returning w fun e u' w' => e = .returned (.tuple #[]) ∧ u' = .returning ∧ w' = w := by
  refine callsD_of_wpS Try.func66 rfl fun c₀ cs hu => ?_
  apply wpS_seq
  apply wpS_region
  simp [wpOpsS, go_sem, recoverD, hu, Try.ntmps66, Exit.thenS]
  rw [show (#[Value.pointer (some ⟨f, 0, none⟩)] ++ (Array.replicate 11 undef).setIfInBounds 3 Value.nilIface) = #[Value.pointer (some ⟨f, 0, none⟩), undef, undef, undef, Value.nilIface, undef, undef, undef, undef, undef, undef, undef] from rfl]
  refine wpS_of_wp ?_
  go_wp2
  cases c₀
  simp_all [bodyPostS, results, Try.results66]

/-- The whole text. -/
def rdAll (l : List UInt8) : Rd (ByteArray × Fo) :=
  match rdT (2 * l.length + 1) 0 l with
  | .bad c r => .bad c r
  | .ok x r =>
    match skip r with
    | [] => .ok x []
    | d :: q => .bad 6 (d :: q)

/-- What reading a text comes to. -/
def ReadEnd (s : ByteArray) (w : World) (e : Ending) (w' : World) : Prop :=
  (∃ c q x0 a0 l0 c0, rdAll (rst s 0) = .bad c (rst s q) ∧ 0 < c ∧ q ≤ s.size ∧ e = .returned (.tuple #[.agg #[.string x0, .slice a0 l0 c0], .agg #[.int .i64 c, .int .i64 q]])) ∨
  (∃ x k ka cap k', rdAll (rst s 0) = .ok (x, k) [] ∧ x.size ≤ s.size ∧ e = .returned (.tuple #[.agg #[.string x, .slice ka (flen k') cap], .agg #[.int .i64 0, .int .i64 0]]) ∧ strip k' = k ∧ TIn w' x ka cap k' ∧ FFrom w.heap.size k' ∧ FPlain w' k')

theorem TIn.keepsT {C : List Nat} {w w' : World} (h : Keeps C w w') {s : ByteArray} {ka : Option Addr} {cap : Nat} {k : Fo} (hC : ∀ c, c ∈ C → FOff c k) (ht : TIn w s ka cap k) : TIn w' s ka cap k := by
  obtain ⟨h1, h2, h3, h4⟩ := ht
  refine ⟨h1, h2, h3, ?_⟩
  rcases h4 with h4 | ⟨kb, ko, e, h4⟩
  · exact Or.inl h4
  · exact Or.inr ⟨kb, ko, e, FIn.keeps h hC h4⟩

theorem rdL_size {l r : List UInt8} {x : ByteArray} (h : rdL l = .ok x r) : x.size ≤ l.length := by
  unfold rdL at h
  split at h
  · cases h
  · rename_i c q hs
    split at h
    · cases h
    · cases h
      have h1 := skip_length l
      rw [hs] at h1
      have h2 : (lets (c :: q)).length ≤ (c :: q).length := (List.takeWhile_prefix _).sublist.length_le
      show (lets (c :: q)).toArray.size ≤ _
      rw [List.size_toArray]
      omega
theorem rdT_size {N a : Nat} {l r : List UInt8} {y : ByteArray × Fo} (h : rdT N a l = .ok y r) : y.1.size ≤ l.length := by
  cases N with
  | zero => rw [rdT] at h; cases h
  | succ n =>
    rw [rdT] at h
    split at h
    · cases h
    · split at h
      · cases h
      · rename_i s r1 hL
        split at h
        · cases h
          exact rdL_size hL
        · rename_i q _
          cases hk : rdK n (a + 1) q with
          | bad c r => rw [hk] at h; cases h
          | ok f r =>
            rw [hk] at h
            cases h
            exact rdL_size hL
theorem reads_size {s : ByteArray} {N a : Nat} {r : List UInt8} {y : ByteArray × Fo} (h : rdT N a (rst s 0) = .ok y r) : y.1.size ≤ s.size := by
  have := rdT_size h
  rw [rst_length] at this
  omega

/-- The world in which a text is read. -/
def readW (w : World) (s : ByteArray) : World := ((w.alloc (Obj.cells #[Value.string ⟨#[]⟩, Value.slice none 0 0] 24)).alloc (Obj.cells #[Value.int .i64 0, Value.int .i64 0] 42)).alloc (Obj.cells #[Value.string s, Value.int .i64 0] 109)
theorem readW_below (w : World) (s : ByteArray) : Below w.heap.size w (readW w s) := (((Below.refl _ _).alloc (Nat.le_refl _) _).alloc (by simp) _).alloc (by simp; omega) _
theorem readW_size (w : World) (s : ByteArray) : (readW w s).heap.size = w.heap.size + 3 := by simp [readW]
theorem readW_heap (w : World) (s : ByteArray) : (readW w s).heap[w.heap.size]? = some (Obj.cells #[Value.string ⟨#[]⟩, Value.slice none 0 0] 24) ∧ (readW w s).heap[w.heap.size + 1]? = some (Obj.cells #[Value.int .i64 0, Value.int .i64 0] 42) ∧ RAt (w.heap.size + 1 + 1) s 0 (readW w s) := by
  unfold readW RAt
  generalize Obj.cells #[Value.string ⟨#[]⟩, Value.slice none 0 0] 24 = a
  generalize Obj.cells #[Value.int .i64 0, Value.int .i64 0] 42 = b
  have e1 : (w.alloc a).heap.size = w.heap.size + 1 := by simp
  have e2 : ((w.alloc a).alloc b).heap.size = w.heap.size + 1 + 1 := by simp
  have h1 := heap_alloc_new (w.alloc a) b
  have h2 := heap_alloc_new ((w.alloc a).alloc b) (Obj.cells #[Value.string s, Value.int .i64 0] 109)
  rw [e1] at h1
  rw [e2] at h2
  refine ⟨?_, ?_, h2⟩
  · rw [Below.heap_alloc _ _ _ (by omega), Below.heap_alloc _ _ _ (by omega)]
    exact heap_alloc_new _ _
  · rw [Below.heap_alloc _ _ _ (by omega)]
    exact h1

theorem rdAll_form {l r : List UInt8} {x : ByteArray × Fo} {c : UInt8} {q : List UInt8} (h : rdT (2 * l.length + 1) 0 l = .ok x r) (hs : skip r = c :: q) : rdAll l = .bad 6 (c :: q) := by
  unfold rdAll
  rw [h]
  simp only
  rw [hs]
theorem rdAll_ok {l r : List UInt8} {x : ByteArray × Fo} (h : rdT (2 * l.length + 1) 0 l = .ok x r) (hs : skip r = []) : rdAll l = .ok x [] := by
  unfold rdAll
  rw [h]
  simp only
  rw [hs]
theorem rdAll_bad {l r : List UInt8} {c : Nat} (h : rdT (2 * l.length + 1) 0 l = .bad c r) : rdAll l = .bad c r := by
  unfold rdAll
  rw [h]

set_option maxHeartbeats 2000000 in
theorem read_any (s : ByteArray) (w : World) (hs : s.size ≤ 4000) :
    Calls Try.prog 51 #[.string s] w fun e w' => ReadEnd s w e w' ∧ Below w.heap.size w w' := by
  have hmf : ∀ (fn : Fn) (first cap : Array Value) (w : World), (Instr.makeFunc fn first cap).run Try.prog w = .ok (.func fn first cap) w := fun _ _ _ _ => rfl
  have hl : (rst s 0).length = s.size := by rw [rst_length]; rfl
  obtain ⟨g0, g1, g2⟩ := readW_heap w s
  have hz := readW_size w s
  have hB := readW_below w s
  have hRA := reads_upto (2 * (rst s 0).length + 2) (2 * (rst s 0).length + 1) (by omega)
  cases hq : rdT (2 * (rst s 0).length + 1) 0 (rst s 0) with
  | bad c r =>
    have hcall := reads_bad hRA (a := 0) g2 (Nat.zero_le _) hs (by omega) (by omega) hq
    have HQ := hide hq
    have HC := hide hcall
    clear hq hcall hl hRA
    go_enter_defers Try.func51, Try.ntmps51
    go_wp2_with fail
    refine Calls.mono HC.out ?_
    rintro e w3 ⟨q, hr, hc, hq0, hq1, rfl, hk⟩
    have k0 := (hk.block w.heap.size (by omega) (by simp; omega)).trans g0
    have k1 := (hk.block (w.heap.size + 1) (by omega) (by simp)).trans g1
    have hB3 := hk.to_below hB (by simp; omega)
    refine leaves_cons (f := 66) (args := #[.pointer (some ⟨w.heap.size + 1, 0, none⟩)]) (by simp) (by simp [go_sem]) ?_
    refine (catch_stop (w.heap.size + 1) c q _ _ _ [] _ k1).mono ?_
    rintro e u' w'' ⟨rfl, rfl, rfl⟩
    have k0' : (w3.alloc (.cells #[.int .i64 c, .int .i64 q] 107)).heap[w.heap.size]? = some (Obj.cells #[Value.string ⟨#[]⟩, Value.slice none 0 0] 24) := by rw [Below.heap_alloc _ _ _ (lt_of_heap k0)]; exact k0
    have t0 : (w3.alloc (.cells #[.int .i64 c, .int .i64 q] 107)).cell? ⟨w.heap.size, 0, none⟩ = some (.string ⟨#[]⟩) := by rw [cell_of_row _ _ 0 _ _ _ k0']; rfl
    have t1 : (w3.alloc (.cells #[.int .i64 c, .int .i64 q] 107)).cell? ⟨w.heap.size, 1, none⟩ = some (.slice none 0 0) := by rw [cell_of_row _ _ 1 _ _ _ k0']; rfl
    have k1' : (w3.alloc (.cells #[.int .i64 c, .int .i64 q] 107)).heap[w.heap.size + 1]? = some (Obj.cells #[Value.int .i64 0, Value.int .i64 0] 42) := by rw [Below.heap_alloc _ _ _ (lt_of_heap k1)]; exact k1
    have u0 : (w3.alloc (.cells #[.int .i64 c, .int .i64 q] 107)).cell? ⟨w.heap.size + 1, 0, none⟩ = some (.int .i64 0) := by rw [cell_of_row _ _ 0 _ _ _ k1']; rfl
    have u1 : (w3.alloc (.cells #[.int .i64 c, .int .i64 q] 107)).cell? ⟨w.heap.size + 1, 1, none⟩ = some (.int .i64 0) := by rw [cell_of_row _ _ 1 _ _ _ k1']; rfl
    have hB4 : Below w.heap.size w (((w3.alloc (.cells #[.int .i64 c, .int .i64 q] 107)).setCell ⟨w.heap.size + 1, 0, none⟩ (.int .i64 c)).setCell ⟨w.heap.size + 1, 1, none⟩ (.int .i64 q)) :=
      ((hB3.alloc hB3.size _).setCell (p := ⟨w.heap.size + 1, 0, none⟩) (by simp) _).setCell (p := ⟨w.heap.size + 1, 1, none⟩) (by simp) _
    have hE : ReadEnd s w (.returned (.tuple #[.agg #[.string ⟨#[]⟩, .slice none 0 0], .agg #[.int .i64 c, .int .i64 q]])) (((w3.alloc (.cells #[.int .i64 c, .int .i64 q] 107)).setCell ⟨w.heap.size + 1, 0, none⟩ (.int .i64 c)).setCell ⟨w.heap.size + 1, 1, none⟩ (.int .i64 q)) :=
      Or.inl ⟨c, q, _, _, _, _, by rw [rdAll_bad HQ.out, hr], hc, hq1, rfl⟩
    clear hB3 k0 k1 k0' k1' HC HQ g0 g1 g2 hB hk
    simp [Leaves, settle, results, Try.results51, go_sem, t0, t1, u0, u1]
    exact ⟨hE, hB4⟩
  | ok y r =>
    have hcall := reads_ok hRA (a := 0) g2 (Nat.zero_le _) hs (by omega) (by omega) hq
    have hsz : y.1.size ≤ s.size := reads_size hq
    have HQ := hide hq
    have HC := hide hcall
    clear hq hcall hl hRA
    go_enter_defers Try.func51, Try.ntmps51
    go_wp2_with fail
    refine Calls.mono HC.out ?_
    rintro e w3 ⟨ka, cap, k', q, hr, hlt, hq1, rfl, hst, ht, hfr, hpl, hra, hk⟩
    have k0 := (hk.block w.heap.size (by omega) (by simp; omega)).trans g0
    have k1 := (hk.block (w.heap.size + 1) (by omega) (by simp)).trans g1
    have hB3 := hk.to_below hB (by simp; omega)
    have t0 : w3.cell? ⟨w.heap.size, 0, none⟩ = some (.string ⟨#[]⟩) := by rw [cell_of_row _ _ 0 _ _ _ k0]; rfl
    have t1 : w3.cell? ⟨w.heap.size, 1, none⟩ = some (.slice none 0 0) := by rw [cell_of_row _ _ 1 _ _ _ k0]; rfl
    have f0 : ∀ o, w3.frozen? ⟨w.heap.size, o, none⟩ = false := fun o => by simp [World.frozen?, k0]
    obtain ⟨W4, hW4⟩ : ∃ W4, W4 = (w3.setCell ⟨w.heap.size, 0, none⟩ (.string y.1)).setCell ⟨w.heap.size, 1, none⟩ (.slice ka (flen k') cap) := ⟨_, rfl⟩
    have hbut : ∀ i, i < w3.heap.size → i ≠ w.heap.size → W4.heap[i]? = w3.heap[i]? := by rw [hW4]; exact set2_but _ _ _ _ _ _
    have hra4 := hra.but (by omega) hbut
    have k04 : W4.heap[w.heap.size]? = some (Obj.cells #[Value.string y.1, Value.slice ka (flen k') cap] 24) := by
      rw [hW4]
      simp [World.setCell, Array.getElem?_modify, k0]
    have k14 := (hbut (w.heap.size + 1) (lt_of_heap k1) (by omega)).trans k1
    have hB4 : Below w.heap.size w W4 := by rw [hW4]; exact (hB3.setCell (p := ⟨w.heap.size, 0, none⟩) (by simp) _).setCell (p := ⟨w.heap.size, 1, none⟩) (by simp) _
    have hoff : FOff w.heap.size k' := hfr.off (by omega)
    have ht4 := TIn.but hbut hoff ht
    have hpl4 := FPlain.but hbut hoff hpl
    have HST := hide hst
    have HR := hide hr
    clear hB3 k0 k1 HC g0 g1 g2 hB hk ht hpl hra hbut hst hr
    go_wp2_with fail
    rw [← hW4]
    clear hW4
    refine (blanks_any (w.heap.size + 1 + 1) s q _ hra4 hq1 (by unfold maxLen; omega)).mono ?_
    rintro e w5 ⟨q5, rfl, h51, h52, h53, hra5, hk5⟩
    have k05 := (hk5.block w.heap.size (lt_of_heap k04) (by simp; omega)).trans k04
    have k15 := (hk5.block (w.heap.size + 1) (lt_of_heap k14) (by simp)).trans k14
    have hB5 := hk5.to_below hB4 (by simp; omega)
    have hoff5 : ∀ c, c ∈ [w.heap.size + 1 + 1] → FOff c k' := fun c hc => by
      have : c = w.heap.size + 1 + 1 := by simpa using hc
      subst this
      exact hfr.off (by omega)
    have ht5 := TIn.keepsT hk5 hoff5 ht4
    have hpl5 := FPlain.but (g := w.heap.size + 1 + 1) (fun i hi hne => hk5.block i hi (by simpa using hne)) (hoff5 _ (by simp)) hpl4
    have c0 := hra5.c0
    have c1 := hra5.c1
    have t0 : w5.cell? ⟨w.heap.size, 0, none⟩ = some (.string y.1) := by rw [cell_of_row _ _ 0 _ _ _ k05]; rfl
    have t1 : w5.cell? ⟨w.heap.size, 1, none⟩ = some (.slice ka (flen k') cap) := by rw [cell_of_row _ _ 1 _ _ _ k05]; rfl
    have u0 : w5.cell? ⟨w.heap.size + 1, 0, none⟩ = some (.int .i64 0) := by rw [cell_of_row _ _ 0 _ _ _ k15]; rfl
    have u1 : w5.cell? ⟨w.heap.size + 1, 1, none⟩ = some (.int .i64 0) := by rw [cell_of_row _ _ 1 _ _ _ k15]; rfl
    have ft : ∀ o, w5.frozen? ⟨w.heap.size, o, none⟩ = false := fun o => by simp [World.frozen?, k05]
    have fu : ∀ o, w5.frozen? ⟨w.heap.size + 1, o, none⟩ = false := fun o => by simp [World.frozen?, k15]
    have H53 := hide h53
    clear h53 hk5 k04 k14 hB4 ht4 hpl4 hra4
    by_cases hend : q5 < s.size
    · go_wp2_with fail
      refine (giveUp_any _ s q5 (6 : Nat) _ hra5).mono ?_
      rintro e w6 ⟨rfl, hk6⟩
      have k06 := (hk6.block w.heap.size (lt_of_heap k05) (by simp; omega)).trans k05
      have k16 := (hk6.block (w.heap.size + 1) (lt_of_heap k15) (by simp)).trans k15
      have hB6 := hk6.to_below hB5 (by simp; omega)
      refine leaves_cons (f := 66) (args := #[.pointer (some ⟨w.heap.size + 1, 0, none⟩)]) (by simp) (by simp [go_sem]) ?_
      refine (catch_stop (w.heap.size + 1) 6 q5 _ _ _ [] _ k16).mono ?_
      rintro e u' w'' ⟨rfl, rfl, rfl⟩
      obtain ⟨W7, hW7⟩ : ∃ W7, W7 = w6.alloc (.cells #[.int .i64 ((6 : Nat) : Int), .int .i64 q5] 107) := ⟨_, rfl⟩
      have k07 : W7.heap[w.heap.size]? = some (Obj.cells #[Value.string y.1, Value.slice ka (flen k') cap] 24) := by rw [hW7, Below.heap_alloc _ _ _ (lt_of_heap k06)]; exact k06
      have k17 : W7.heap[w.heap.size + 1]? = some (Obj.cells #[Value.int .i64 0, Value.int .i64 0] 42) := by rw [hW7, Below.heap_alloc _ _ _ (lt_of_heap k16)]; exact k16
      have t0 : W7.cell? ⟨w.heap.size, 0, none⟩ = some (.string y.1) := by rw [cell_of_row _ _ 0 _ _ _ k07]; rfl
      have t1 : W7.cell? ⟨w.heap.size, 1, none⟩ = some (.slice ka (flen k') cap) := by rw [cell_of_row _ _ 1 _ _ _ k07]; rfl
      have u0 : W7.cell? ⟨w.heap.size + 1, 0, none⟩ = some (.int .i64 0) := by rw [cell_of_row _ _ 0 _ _ _ k17]; rfl
      have u1 : W7.cell? ⟨w.heap.size + 1, 1, none⟩ = some (.int .i64 0) := by rw [cell_of_row _ _ 1 _ _ _ k17]; rfl
      have hB7 : Below w.heap.size w ((W7.setCell ⟨w.heap.size + 1, 0, none⟩ (.int .i64 6)).setCell ⟨w.heap.size + 1, 1, none⟩ (.int .i64 q5)) := by
        rw [hW7]
        exact ((hB6.alloc hB6.size _).setCell (p := ⟨w.heap.size + 1, 0, none⟩) (by simp) _).setCell (p := ⟨w.heap.size + 1, 1, none⟩) (by simp) _
      have hE : ReadEnd s w (.returned (.tuple #[.agg #[.string y.1, .slice ka (flen k') cap], .agg #[.int .i64 6, .int .i64 q5]])) ((W7.setCell ⟨w.heap.size + 1, 0, none⟩ (.int .i64 6)).setCell ⟨w.heap.size + 1, 1, none⟩ (.int .i64 q5)) := by
        refine Or.inl ⟨6, q5, _, _, _, _, ?_, by omega, h52, rfl⟩
        have h1 := H53.out
        rw [← HR.out, rst_cons hend] at h1
        rw [rdAll_form HQ.out h1.symm, rst_cons hend]
      rw [← hW7]
      clear hW7 hB6 hB5 k05 k15 k06 k16 k07 k17 HQ HR H53 HST hk6 hra5 ht5 hpl5 hfr
      simp [Leaves, settle, results, Try.results51, go_sem, t0, t1, u0, u1]
      exact ⟨hE, hB7⟩
    · have hE : ∀ W, TIn W y.1 ka cap k' → FPlain W k' → ReadEnd s w (.returned (.tuple #[.agg #[.string y.1, .slice ka (flen k') cap], .agg #[.int .i64 0, .int .i64 0]])) W := fun W hT hP => by
        refine Or.inr ⟨y.1, y.2, ka, cap, k', ?_, hsz, rfl, HST.out, hT, hfr.mono (by omega), hP⟩
        have h1 := H53.out
        rw [← HR.out, rst_end (by omega)] at h1
        exact rdAll_ok HQ.out h1.symm
      obtain ⟨W6, hW6⟩ : ∃ W6, W6 = ((w5.setCell ⟨w.heap.size, 0, none⟩ (.string y.1)).setCell ⟨w.heap.size, 1, none⟩ (.slice ka (flen k') cap)) := ⟨_, rfl⟩
      have hbut6 : ∀ i, i < w5.heap.size → i ≠ w.heap.size → W6.heap[i]? = w5.heap[i]? := by rw [hW6]; exact set2_but _ _ _ _ _ _
      have hz6 : W6.heap.size = w5.heap.size := by rw [hW6]; simp [World.setCell]
      have hbut7 : ∀ i, i < W6.heap.size → i ≠ w.heap.size + 1 → ((W6.setCell ⟨w.heap.size + 1, 0, none⟩ (.int .i64 0)).setCell ⟨w.heap.size + 1, 1, none⟩ (.int .i64 0)).heap[i]? = W6.heap[i]? := set2_but _ _ _ _ _ _
      have hE2 := hE _ (TIn.but hbut7 (hfr.off (by omega)) (TIn.but hbut6 hoff ht5)) (FPlain.but hbut7 (hfr.off (by omega)) (FPlain.but hbut6 hoff hpl5))
      have hB7 : Below w.heap.size w ((W6.setCell ⟨w.heap.size + 1, 0, none⟩ (.int .i64 0)).setCell ⟨w.heap.size + 1, 1, none⟩ (.int .i64 0)) := by
        rw [hW6]
        exact (((hB5.setCell (p := ⟨w.heap.size, 0, none⟩) (by simp) _).setCell (p := ⟨w.heap.size, 1, none⟩) (by simp) _).setCell (p := ⟨w.heap.size + 1, 0, none⟩) (by simp) _).setCell (p := ⟨w.heap.size + 1, 1, none⟩) (by simp) _
      rw [hW6] at hE2 hB7
      have HE2 := hide hE2
      have HB7 := hide hB7
      clear hE2 hB7 hE hbut6 hbut7 hz6 hW6 hB5 HQ HR H53 HST hra5 ht5 hpl5 hfr
      go_wp2_with fail
      refine leaves_cons (f := 66) (args := #[.pointer (some ⟨w.heap.size + 1, 0, none⟩)]) (by simp) (by simp [go_sem]) ?_
      refine (catch_idle (w.heap.size + 1) _).mono ?_
      rintro e u' w'' ⟨rfl, rfl, rfl⟩
      simp [Leaves, settle, results, Try.results51, go_sem, t0, t1, u0, u1]
      exact ⟨HE2.out, HB7.out⟩
end Go.Proofs.Ytafojlockiekfaa
