/- A text read as a tree, and a tree told as a text: of lists of bytes alone. Of no program. -/
import Derived.Test.YtpgiagkbfnbgkabFo2
import Derived.Test.YtpgiagkbfnbgkabLabel
namespace Go.Proofs.Ytpgiagkbfnbgkab
open Go.Deep Go.RowKit
set_option linter.unusedVariables false
set_option maxRecDepth 20000

/-- a blank -/
def blB (c : UInt8) : Bool := decide ((c.toNat : Int) = 32) || decide ((c.toNat : Int) = 10)
/-- what is left of a text from a place on -/
def rst (s : ByteArray) (p : Nat) : List UInt8 := s.data.toList.drop p
def skip (l : List UInt8) : List UInt8 := l.dropWhile blB

theorem rst_length (s : ByteArray) (p : Nat) : (rst s p).length = s.size - p := by simp [rst]
theorem rst_cons {s : ByteArray} {p : Nat} (h : p < s.size) : rst s p = s[p] :: rst s (p + 1) := by
  unfold rst
  rw [List.drop_eq_getElem_cons (by simpa using h)]
  rfl
theorem rst_end {s : ByteArray} {p : Nat} (h : s.size ≤ p) : rst s p = [] := by
  unfold rst
  exact List.drop_of_length_le (by simpa using h)
theorem rst_zero (s : ByteArray) : rst s 0 = s.data.toList := rfl
/-- a place is told by what is left -/
theorem rst_inj {s : ByteArray} {p q : Nat} (hp : p ≤ s.size) (hq : q ≤ s.size) (h : rst s p = rst s q) : p = q := by
  have := congrArg List.length h
  rw [rst_length, rst_length] at this
  omega

theorem blB_yes {c : UInt8} (h : (c.toNat : Int) = 32 ∨ (c.toNat : Int) = 10) : blB c = true := by
  unfold blB
  rcases h with h | h <;> simp [h]
theorem blB_no {c : UInt8} (h1 : ¬ (c.toNat : Int) = 32) (h2 : ¬ (c.toNat : Int) = 10) : blB c = false := by
  unfold blB
  simp [h1, h2]
theorem skip_step {s : ByteArray} {p : Nat} (h : p < s.size) (hc : blB s[p] = true) : skip (rst s p) = skip (rst s (p + 1)) := by
  rw [rst_cons h]
  simp [skip, hc]
theorem skip_stop {s : ByteArray} {p : Nat} (h : p < s.size) (hc : blB s[p] = false) : skip (rst s p) = rst s p := by
  rw [rst_cons h]
  simp [skip, hc]
theorem skip_end {s : ByteArray} {p : Nat} (h : s.size ≤ p) : skip (rst s p) = rst s p := by
  rw [rst_end h]
  rfl
theorem skip_length (l : List UInt8) : (skip l).length ≤ l.length := by
  unfold skip
  exact (List.dropWhile_suffix _).sublist.length_le

/-- the letters at the head, and what is behind them -/
def lets (l : List UInt8) : List UInt8 := l.takeWhile okByte
def unlet (l : List UInt8) : List UInt8 := l.dropWhile okByte
theorem lets_unlet (l : List UInt8) : lets l ++ unlet l = l := List.takeWhile_append_dropWhile

/-- Behind blanks a mark: what is left behind it. -/
def eat (m : Int) (l : List UInt8) : Option (List UInt8) :=
  match skip l with
  | [] => none
  | c :: r => if (c.toNat : Int) = m then some r else none

/-- What is read: a fault (its code; what is left where it stands), or a thing and what is left. -/
inductive Rd (α : Type) where
  | bad (code : Nat) (rest : List UInt8)
  | ok (x : α) (rest : List UInt8)

def Rd.map {α β : Type} (f : α → β) : Rd α → Rd β
  | .bad c l => .bad c l
  | .ok x l => .ok (f x) l

/-- A label. -/
def rdL (l : List UInt8) : Rd ByteArray :=
  match skip l with
  | [] => .bad 5 []
  | c :: r => if okByte c = false then .bad 4 (c :: r) else .ok ⟨(lets (c :: r)).toArray⟩ (unlet (c :: r))

mutual
/-- A tree beneath so many others, by so many steps. -/
def rdT : Nat → Nat → List UInt8 → Rd (ByteArray × Fo)
  | 0, _, l => .bad 0 l
  | n + 1, a, l =>
    if 10 < a then .bad 3 l
    else match rdL l with
      | .bad c r => .bad c r
      | .ok s r =>
        match eat 40 r with
        | none => .ok (s, .nil) (skip r)
        | some q => (rdK n (a + 1) q).map fun k => (s, k)
/-- Trees as far as the bracket that ends them. -/
def rdK : Nat → Nat → List UInt8 → Rd Fo
  | 0, _, l => .bad 0 l
  | n + 1, a, l =>
    match rdT n a l with
    | .bad c r => .bad c r
    | .ok x r =>
      match eat 41 r with
      | some q => .ok (.node 0 0 (x.1, none, 0) x.2 .nil) q
      | none => (rdK n a (skip r)).map fun f => .node 0 0 (x.1, none, 0) x.2 f
end

theorem eat_end {m : Int} {s : ByteArray} {p : Nat} (h : s.size ≤ p) (hp : skip (rst s p) = rst s p) : eat m (rst s p) = none := by
  unfold eat
  rw [hp, rst_end h]
theorem eat_yes {m : Int} {l : List UInt8} {s : ByteArray} {p : Nat} (hl : skip l = rst s p) (h : p < s.size) (hc : (s[p].toNat : Int) = m) : eat m l = some (rst s (p + 1)) := by
  unfold eat
  rw [hl, rst_cons h]
  simp [hc]
theorem eat_no {m : Int} {l : List UInt8} {s : ByteArray} {p : Nat} (hl : skip l = rst s p) (h : p < s.size) (hc : ¬ (s[p].toNat : Int) = m) : eat m l = none := by
  unfold eat
  rw [hl, rst_cons h]
  simp [hc]
theorem eat_out {m : Int} {l : List UInt8} {s : ByteArray} {p : Nat} (hl : skip l = rst s p) (h : s.size ≤ p) : eat m l = none := by
  unfold eat
  rw [hl, rst_end h]
theorem skip_skip (l : List UInt8) : skip (skip l) = skip l := by
  unfold skip
  induction l with
  | nil => rfl
  | cons c l ih =>
    by_cases h : blB c = true
    · simp [h, ih]
    · simp [h]

end Go.Proofs.Ytpgiagkbfnbgkab
