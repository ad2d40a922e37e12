/- What package pleachingref says of deeds: DeedFault, SameDeed. Of the program's text. -/
/- DeedIn of package pleachingref, where the words are too few, too many, or no path: no deed. Of the program's text. -/
import Derived.Test.YtkoohfkomlmhoacDoorProg
import Derived.Deep.LoopGhost
import Derived.WalkSmall
import Derived.Test.YtkoohfkomlmhoacDoorKBP03
import Derived.Test.YtkoohfkomlmhoacDoorKBP06
import Derived.Test.YtkoohfkomlmhoacDoorKBP12
namespace Go.Proofs.YtkoohfkomlmhoacDoor.Deed
open Go.Deep Go.RowKit
set_option linter.unusedVariables false
set_option maxRecDepth 20000

/-- A deed as a value, its path behind an address. -/
def ddV (d : Dd) (pa : Option Addr) (pcap : Nat) : Value := .agg #[.int .i64 d.kind, .slice pa d.path.length pcap, .int .i64 d.pos, .int .i64 d.many, .string d.lab]
structure DIn (w : World) (d : Dd) (pa : Option Addr) (pcap : Nat) : Prop where
  path : PIn w pa d.path
  len : d.path.length ≤ pcap
  cap : pcap ≤ maxLen
  lab : d.lab.size ≤ maxLen
theorem DIn.below {w w' : World} {d : Dd} {pa : Option Addr} {pcap : Nat} (h : DIn w d pa pcap) (hb : Below w.heap.size w w') : DIn w' d pa pcap := ⟨h.path.below hb, h.len, h.cap, h.lab⟩

/-- Are they the same? -/
def sameDd (d e : Dd) : Bool := d.kind == e.kind && decide (d.path = e.path) && d.pos == e.pos && d.many == e.many && d.lab.toList == e.lab.toList
theorem sameDd_iff (d e : Dd) : sameDd d e = true ↔ d = e := by
  obtain ⟨a, b, c, m, l⟩ := d
  obtain ⟨a', b', c', m', l'⟩ := e
  simp only [sameDd, Bool.and_eq_true, beq_iff_eq, decide_eq_true_eq, Dd.mk.injEq]
  constructor
  · rintro ⟨⟨⟨⟨h1, h2⟩, h3⟩, h4⟩, h5⟩
    refine ⟨h1, h2, h3, h4, ?_⟩
    rw [ByteArray.toList_eq, ByteArray.toList_eq] at h5
    obtain ⟨⟨x⟩⟩ := l
    obtain ⟨⟨y⟩⟩ := l'
    have : x = y := h5
    rw [this]
  · rintro ⟨h1, h2, h3, h4, h5⟩
    exact ⟨⟨⟨⟨h1, h2⟩, h3⟩, h4⟩, by rw [h5]⟩

set_option maxHeartbeats 2000000 in
theorem sameD_any (d e : Dd) (pa pb : Option Addr) (pc qc : Nat) (w : World) (hd : DIn w d pa pc) (he : DIn w e pb qc) (hl : d.path.length ≤ 100000) :
    Calls Tryd.prog 13 #[ddV d pa pc, ddV e pb qc] w fun r w' => r = .returned (.bool (sameDd d e)) ∧ Below w.heap.size w w' := by
  unfold ddV
  have hbx : Below w.heap.size w ((w.alloc (Obj.cells #[.int .i64 d.kind, .slice pa d.path.length pc, .int .i64 d.pos, .int .i64 d.many, .string d.lab] 35)).alloc (Obj.cells #[.int .i64 e.kind, .slice pb e.path.length qc, .int .i64 e.pos, .int .i64 e.many, .string e.lab] 35)) := ((Below.refl _ _).alloc (Nat.le_refl _) _).alloc (by simp) _
  have HS := hide (sameI_any pa pb pc qc d.path e.path _ (hd.path.below hbx) (he.path.below hbx) hl (Nat.le_trans he.len he.cap))
  have HB := hide hbx
  have hc1 := hd.cap
  have hc2 := he.cap
  unfold maxLen at hc1 hc2
  by_cases h1 : d.kind = e.kind
  case neg =>
    have b1 : (d.kind == e.kind) = false := beq_eq_false_iff_ne.2 h1
    have HV := hide (show sameDd d e = false by unfold sameDd; simp [b1])
    clear hd he h1 hbx HS
    go_enter Tryd.func13, Tryd.ntmps13
    go_wp2_with fail
    go_ret
    exact ⟨by rw [HV.out]; rfl, HB.out⟩
  have b1 : (d.kind == e.kind) = true := beq_iff_eq.2 h1
  by_cases h2 : d.path = e.path
  case neg =>
    have b2 := decide_eq_false h2
    have HV := hide (show sameDd d e = false by unfold sameDd; simp [b2])
    rw [b2] at HS
    clear hd he h1 h2 hbx b2
    go_enter Tryd.func13, Tryd.ntmps13
    go_wp2_with fail
    refine Calls.mono HS.out ?_
    rintro r w2 ⟨rfl, hb2⟩
    have HB2 := hide (HB.out.trans (hb2.mono HB.out.size))
    clear hb2
    go_wp2_with fail
    go_ret
    exact ⟨by rw [HV.out]; rfl, HB2.out⟩
  have b2 := decide_eq_true h2
  rw [b2] at HS
  have HX : Hid (∀ w2, Below ((w.alloc (Obj.cells #[.int .i64 d.kind, .slice pa d.path.length pc, .int .i64 d.pos, .int .i64 d.many, .string d.lab] 35)).alloc (Obj.cells #[.int .i64 e.kind, .slice pb e.path.length qc, .int .i64 e.pos, .int .i64 e.many, .string e.lab] 35)).heap.size ((w.alloc (Obj.cells #[.int .i64 d.kind, .slice pa d.path.length pc, .int .i64 d.pos, .int .i64 d.many, .string d.lab] 35)).alloc (Obj.cells #[.int .i64 e.kind, .slice pb e.path.length qc, .int .i64 e.pos, .int .i64 e.many, .string e.lab] 35)) w2 →
      (w2.cell? ⟨w.heap.size, 2, none⟩ = some (.int .i64 d.pos) ∧ w2.cell? ⟨w.heap.size, 3, none⟩ = some (.int .i64 d.many) ∧ w2.cell? ⟨w.heap.size, 4, none⟩ = some (.string d.lab)) ∧ (w2.cell? ⟨w.heap.size + 1, 2, none⟩ = some (.int .i64 e.pos) ∧ w2.cell? ⟨w.heap.size + 1, 3, none⟩ = some (.int .i64 e.many) ∧ w2.cell? ⟨w.heap.size + 1, 4, none⟩ = some (.string e.lab))) := hide fun w2 hb => by
    refine ⟨⟨?_, ?_, ?_⟩, ⟨?_, ?_, ?_⟩⟩
    · rw [hb.cell (by simp <;> omega)]; go_simp
    · rw [hb.cell (by simp <;> omega)]; go_simp
    · rw [hb.cell (by simp <;> omega)]; go_simp
    · rw [hb.cell (by simp)]; go_simp
    · rw [hb.cell (by simp)]; go_simp
    · rw [hb.cell (by simp)]; go_simp
  have HV := hide (show sameDd d e = (d.pos == e.pos && d.many == e.many && d.lab.toList == e.lab.toList) by unfold sameDd; rw [b1, b2]; simp)
  clear hd he h1 h2 hbx b2
  by_cases h3 : d.pos = e.pos
  · have b3 : (d.pos == e.pos) = true := beq_iff_eq.2 h3
    rw [b3] at HV
    by_cases h4 : d.many = e.many
    · have b4 : (d.many == e.many) = true := beq_iff_eq.2 h4
      rw [b4] at HV
      clear h3 h4
      go_enter Tryd.func13, Tryd.ntmps13
      go_wp2_with fail
      refine Calls.mono HS.out ?_
      rintro r w2 ⟨rfl, hb2⟩
      obtain ⟨⟨x2, x3, x4⟩, ⟨y2, y3, y4⟩⟩ := HX.out w2 hb2
      have HB2 := hide (HB.out.trans (hb2.mono HB.out.size))
      clear hb2
      cases hb5 : (d.lab.toList == e.lab.toList)
      · rw [hb5] at HV
        go_wp2_with fail
        go_ret
        exact ⟨by rw [HV.out]; rfl, HB2.out⟩
      · rw [hb5] at HV
        go_wp2_with fail
        go_ret
        exact ⟨by rw [HV.out]; rfl, HB2.out⟩
    · have b4 : (d.many == e.many) = false := beq_eq_false_iff_ne.2 h4
      rw [b4] at HV
      clear h3 h4
      go_enter Tryd.func13, Tryd.ntmps13
      go_wp2_with fail
      refine Calls.mono HS.out ?_
      rintro r w2 ⟨rfl, hb2⟩
      obtain ⟨⟨x2, x3, x4⟩, ⟨y2, y3, y4⟩⟩ := HX.out w2 hb2
      have HB2 := hide (HB.out.trans (hb2.mono HB.out.size))
      clear hb2
      go_wp2_with fail
      go_ret
      exact ⟨by rw [HV.out]; rfl, HB2.out⟩
  · have b3 : (d.pos == e.pos) = false := beq_eq_false_iff_ne.2 h3
    rw [b3] at HV
    clear h3
    go_enter Tryd.func13, Tryd.ntmps13
    go_wp2_with fail
    refine Calls.mono HS.out ?_
    rintro r w2 ⟨rfl, hb2⟩
    obtain ⟨⟨x2, x3, x4⟩, ⟨y2, y3, y4⟩⟩ := HX.out w2 hb2
    have HB2 := hide (HB.out.trans (hb2.mono HB.out.size))
    clear hb2
    go_wp2_with fail
    go_ret
    exact ⟨by rw [HV.out]; rfl, HB2.out⟩
end Go.Proofs.YtkoohfkomlmhoacDoor.Deed
namespace Go.Proofs.YtkoohfkomlmhoacDoor.Pat
open Go.Deep Go.RowKit Deed
set_option linter.unusedVariables false
set_option maxRecDepth 20000

theorem words_none {a : List UInt8} {P : List (List UInt8)} (h : map3P a = 0 ∨ (a :: P).length ≠ map3P a) : wordsD (a :: P) = none := by
  have key : ∀ n, map3P a = n → n = 3 ∨ n = 2 ∨ n = 5 ∨ n = 0 := fun n hn => by
    unfold map3P at hn
    split at hn
    · omega
    · split at hn
      · omega
      · split at hn <;> omega
  have hd : a = delW → map3P a = 2 := fun e => by rw [e]; rfl
  have hn : a = nameW → map3P a = 3 := fun e => by rw [e]; rfl
  have hi : a = insW → map3P a = 5 := fun e => by rw [e]; rfl
  unfold wordsD
  split
  · rename_i b p e
    injection e with e1 e2
    subst e1
    rw [if_neg (fun e => by have := hd e; simp [e2] at h; omega)]
  · rename_i b p l e
    injection e with e1 e2
    subst e1
    rw [if_neg (fun e => by have := hn e; simp [e2] at h; omega)]
  · rename_i b p x y l e
    injection e with e1 e2
    subst e1
    rw [if_neg (fun e => by have := hi e; simp [e2] at h; omega)]
  · rfl
theorem deed_none {s : List UInt8} (h : wordsD (cutP 32 s) = none) : deedC s = 6 ∧ deedP s = noD := by
  unfold deedC deedP
  rw [h]
  exact ⟨rfl, rfl⟩
theorem deed_some {s : List UInt8} {d : Dd} (h : wordsD (cutP 32 s) = some d) : deedC s = deedFault d ∧ deedP s = if deedFault d = 0 then d else noD := by
  unfold deedC deedP
  rw [h]
  exact ⟨rfl, rfl⟩
/-- What DeedIn tells: a deed whose path lies in new memory. -/
def DeedEnd (s : List UInt8) (w : World) (e : Ending) (w' : World) : Prop :=
  ∃ pa pc, e = .returned (.tuple #[ddV (deedP s) pa pc, .int .i64 (deedC s)]) ∧ DIn w' (deedP s) pa pc ∧ (∀ g o, pa = some ⟨g, o, none⟩ → w.heap.size ≤ g) ∧ Below w.heap.size w w'
theorem DIn.noD (w : World) : DIn w noD none 0 := ⟨Or.inl rfl, Nat.le_refl _, Nat.zero_le _, by unfold maxLen; exact Nat.zero_le _⟩
theorem end_none {s : List UInt8} {w w' : World} {e : Ending} (h : wordsD (cutP 32 s) = none) (he : e = .returned (.tuple #[.agg #[.int .i64 0, .slice none 0 0, .int .i64 0, .int .i64 0, .string ⟨#[]⟩], .int .i64 6])) (hb : Below w.heap.size w w') : DeedEnd s w e w' := by
  obtain ⟨h1, h2⟩ := deed_none h
  refine ⟨none, 0, ?_, ?_, (fun g o h => by cases h), hb⟩
  · rw [he, h1, h2]; rfl
  · rw [h2]; exact DIn.noD w'
abbrev zeroD : Array Value := #[.int .i64 0, .slice none 0 0, .int .i64 0, .int .i64 0, .string ⟨#[]⟩]
/-- The pieces of the line, where they lie. -/
theorem pieces {w : World} {B T g vc : Nat} {P : List (List UInt8)} (h : w.ownsRow B T 1 (.slice (some ⟨g, 0, none⟩) P.length vc) P.length (txCells P)) {i : Nat} {x : List UInt8} (hx : P[i]? = some x) : w.cell? ⟨g, i, none⟩ = some (.string (str x)) := by
  have := ownsRow_cell h i _ (show (txCells P)[i]? = some (.string (str x)) by unfold txCells; rw [List.getElem?_map, hx]; rfl)
  simpa using this

theorem row_path {w : World} {B T vc : Nat} {va : Option Addr} {q : List Nat} (h : w.ownsRow B T 1 (.slice va q.length vc) q.length (intCells q)) : PIn w va (ints q) ∧ (q.length ≤ vc ∧ vc ≤ maxLen) ∧ ∀ g o, va = some ⟨g, o, none⟩ → B ≤ g := by
  refine ⟨PIn_of_owns h, ?_, fun g o hg => ?_⟩
  · obtain ⟨va', vc', e, h1, h2⟩ := ownsN_form h
    injection e with e1 e2 e3
    subst e3
    exact ⟨h1, h2⟩
  · subst hg
    rcases h.2 with ⟨h0, _⟩ | ⟨g', cap, cur, hv, hb, _⟩
    · cases h0
    · injection hv with h1 h2 h3
      injection h1 with h1
      injection h1 with h1
      omega
/-- A box that is written elsewhere leaves a path. -/
theorem DIn_set5 {w V : World} {B : Nat} {d : Dd} {pa : Option Addr} {pc : Nat} {a0 a1 a2 a3 a4 : Value} (h : DIn w d pa pc) (hn : ∀ g o, pa = some ⟨g, o, none⟩ → g ≠ B) (hV : V = ((((w.setCell ⟨B, 0, none⟩ a0).setCell ⟨B, 1, none⟩ a1).setCell ⟨B, 2, none⟩ a2).setCell ⟨B, 3, none⟩ a3).setCell ⟨B, 4, none⟩ a4) : DIn V d pa pc := by
  refine ⟨?_, h.len, h.cap, h.lab⟩
  rcases h.path with h0 | ⟨b, o, e, h0⟩
  · exact Or.inl h0
  · refine Or.inr ⟨b, o, e, fun i p hp => ?_⟩
    have hne := hn b o e
    have h1 := h0 i p hp
    have key : ∀ (W : World) (k : Nat) (u : Value), (W.setCell ⟨B, k, none⟩ u).cell? ⟨b, o + i, none⟩ = W.cell? ⟨b, o + i, none⟩ := fun W k u => World.cell?_of_block (Below.heap_setCell _ _ _ _ hne)
    rw [hV, key, key, key, key, key]
    exact h1

end Go.Proofs.YtkoohfkomlmhoacDoor.Pat
