/-
  NARROWER THAN 'FOR EVERY INPUT', by the rows' own cells (each row's printed sentence says how): DistBounds: loops · DistBeneath: loops · DeedDoes: loops · DeedBack: loops · DeedOne: loops · ScriptRuns: loops · ScriptBack: loops · ScriptMakes: loops · ScriptShort: loops · ScriptJoins: loops.
  DERIVED. THE GIVEN ROWS OF THIS SEAT. 10 by the template 'for every input the law returns true; each argument reads behind the call as it read before'; 0 by the template 'total and deterministic' (their statements: YtcknganggcbkjabTotals.lean).
  GIVEN WITH THE SEED: the statements are not yours to turn. If you find one false, say at which input.
  Laid BY PROGRAM, IN A SANDBOX (cutbox-rows.mjs): the forced cells as the released guide's own fill.sh prints them over the translation 11edba3e16de921c… (all of the seat's roots in one cut). By AI agents, Wed Nov 11 2026. No macro, syntax, notation, axiom, sorry.
-/
import Derived.Test.YtcknganggcbkjabChecked
import GoSem.Claim
import GoSem.ClaimJoined
import GoSem.ClaimMapViews
import Derived.JoinedTies
import Derived.KernelRfl
namespace Go.Proofs.Ytcknganggcbkjab
/- THE CELL 'sum', in the pinned program and in every row, IS THE sha256 OF THE DUMP (.gsa) THAT YtcknganggcbkjabProg.lean LOADS. Nothing in Lean hashes anything: it is a label: what it is worth is what the hold of that sum in a sandbox is worth. -/
noncomputable def Try.pinned : Pinned := { name := "ytcknganggcbkjab", sum := "11edba3e16de921c2a029ead39dfe38d57ee98b61dad2926f874f38275982a66", checked := Try.checked }
namespace Rows
def none {H : Type} : Left H := { results := [], args := [] }

/-- 'pleachinglaw.DistBounds': WHATEVER THE INPUT: true; the input reads as it did. -/
def distBoundsSpec : ChangeSpec := { name := "distBounds", fn := fun _ => fun
  | [d1, d2] => { results := [.lit (.bool true)], args := [d1, d2] }
  | _ => none }
def distBoundsRow : OpenClaim := { program := "ytcknganggcbkjab", sum := "11edba3e16de921c2a029ead39dfe38d57ee98b61dad2926f874f38275982a66", func := "pleaching/pleachinglaw.DistBounds", spec := "distBounds", unfollowed := true, recurses := true, loops := true, plainKeys := false, apart := false }
def DistBoundsSaid : Prop := distBoundsRow.holds Try.pinned (OpenSpec.ofChange distBoundsSpec)

/-- ITS FALSE NEIGHBOUR: 'it returns false'. Refute it at one input. -/
def distBoundsWrong : ChangeSpec := { name := "distBounds", fn := fun _ => fun
  | [d1, d2] => { results := [.lit (.bool false)], args := [d1, d2] }
  | _ => none }
def DistBoundsWrongFalsely : Prop := distBoundsRow.holds Try.pinned (OpenSpec.ofChange distBoundsWrong)

/-- 'pleachinglaw.DistBeneath': WHATEVER THE INPUT: true; the input reads as it did. -/
def distBeneathSpec : ChangeSpec := { name := "distBeneath", fn := fun _ => fun
  | [d1, d2, d3] => { results := [.lit (.bool true)], args := [d1, d2, d3] }
  | _ => none }
def distBeneathRow : OpenClaim := { program := "ytcknganggcbkjab", sum := "11edba3e16de921c2a029ead39dfe38d57ee98b61dad2926f874f38275982a66", func := "pleaching/pleachinglaw.DistBeneath", spec := "distBeneath", unfollowed := true, recurses := true, loops := true, plainKeys := false, apart := false }
def DistBeneathSaid : Prop := distBeneathRow.holds Try.pinned (OpenSpec.ofChange distBeneathSpec)

/-- ITS FALSE NEIGHBOUR: 'it returns false'. Refute it at one input. -/
def distBeneathWrong : ChangeSpec := { name := "distBeneath", fn := fun _ => fun
  | [d1, d2, d3] => { results := [.lit (.bool false)], args := [d1, d2, d3] }
  | _ => none }
def DistBeneathWrongFalsely : Prop := distBeneathRow.holds Try.pinned (OpenSpec.ofChange distBeneathWrong)

/-- 'pleachinglaw.DeedDoes': WHATEVER THE INPUT: true; the input reads as it did. -/
def deedDoesSpec : ChangeSpec := { name := "deedDoes", fn := fun _ => fun
  | [d1, d2, d3] => { results := [.lit (.bool true)], args := [d1, d2, d3] }
  | _ => none }
def deedDoesRow : OpenClaim := { program := "ytcknganggcbkjab", sum := "11edba3e16de921c2a029ead39dfe38d57ee98b61dad2926f874f38275982a66", func := "pleaching/pleachinglaw.DeedDoes", spec := "deedDoes", unfollowed := true, recurses := true, loops := true, plainKeys := false, apart := false }
def DeedDoesSaid : Prop := deedDoesRow.holds Try.pinned (OpenSpec.ofChange deedDoesSpec)

/-- ITS FALSE NEIGHBOUR: 'it returns false'. Refute it at one input. -/
def deedDoesWrong : ChangeSpec := { name := "deedDoes", fn := fun _ => fun
  | [d1, d2, d3] => { results := [.lit (.bool false)], args := [d1, d2, d3] }
  | _ => none }
def DeedDoesWrongFalsely : Prop := deedDoesRow.holds Try.pinned (OpenSpec.ofChange deedDoesWrong)

/-- 'pleachinglaw.DeedBack': WHATEVER THE INPUT: true; the input reads as it did. -/
def deedBackSpec : ChangeSpec := { name := "deedBack", fn := fun _ => fun
  | [d1, d2] => { results := [.lit (.bool true)], args := [d1, d2] }
  | _ => none }
def deedBackRow : OpenClaim := { program := "ytcknganggcbkjab", sum := "11edba3e16de921c2a029ead39dfe38d57ee98b61dad2926f874f38275982a66", func := "pleaching/pleachinglaw.DeedBack", spec := "deedBack", unfollowed := true, recurses := true, loops := true, plainKeys := false, apart := false }
def DeedBackSaid : Prop := deedBackRow.holds Try.pinned (OpenSpec.ofChange deedBackSpec)

/-- ITS FALSE NEIGHBOUR: 'it returns false'. Refute it at one input. -/
def deedBackWrong : ChangeSpec := { name := "deedBack", fn := fun _ => fun
  | [d1, d2] => { results := [.lit (.bool false)], args := [d1, d2] }
  | _ => none }
def DeedBackWrongFalsely : Prop := deedBackRow.holds Try.pinned (OpenSpec.ofChange deedBackWrong)

/-- 'pleachinglaw.DeedOne': WHATEVER THE INPUT: true; the input reads as it did. -/
def deedOneSpec : ChangeSpec := { name := "deedOne", fn := fun _ => fun
  | [d1, d2] => { results := [.lit (.bool true)], args := [d1, d2] }
  | _ => none }
def deedOneRow : OpenClaim := { program := "ytcknganggcbkjab", sum := "11edba3e16de921c2a029ead39dfe38d57ee98b61dad2926f874f38275982a66", func := "pleaching/pleachinglaw.DeedOne", spec := "deedOne", unfollowed := true, recurses := true, loops := true, plainKeys := false, apart := false }
def DeedOneSaid : Prop := deedOneRow.holds Try.pinned (OpenSpec.ofChange deedOneSpec)

/-- ITS FALSE NEIGHBOUR: 'it returns false'. Refute it at one input. -/
def deedOneWrong : ChangeSpec := { name := "deedOne", fn := fun _ => fun
  | [d1, d2] => { results := [.lit (.bool false)], args := [d1, d2] }
  | _ => none }
def DeedOneWrongFalsely : Prop := deedOneRow.holds Try.pinned (OpenSpec.ofChange deedOneWrong)

/-- 'pleachinglaw.ScriptRuns': WHATEVER THE INPUT: true; the input reads as it did. -/
def scriptRunsSpec : ChangeSpec := { name := "scriptRuns", fn := fun _ => fun
  | [d1, d2] => { results := [.lit (.bool true)], args := [d1, d2] }
  | _ => none }
def scriptRunsRow : OpenClaim := { program := "ytcknganggcbkjab", sum := "11edba3e16de921c2a029ead39dfe38d57ee98b61dad2926f874f38275982a66", func := "pleaching/pleachinglaw.ScriptRuns", spec := "scriptRuns", unfollowed := true, recurses := true, loops := true, plainKeys := false, apart := false }
def ScriptRunsSaid : Prop := scriptRunsRow.holds Try.pinned (OpenSpec.ofChange scriptRunsSpec)

/-- ITS FALSE NEIGHBOUR: 'it returns false'. Refute it at one input. -/
def scriptRunsWrong : ChangeSpec := { name := "scriptRuns", fn := fun _ => fun
  | [d1, d2] => { results := [.lit (.bool false)], args := [d1, d2] }
  | _ => none }
def ScriptRunsWrongFalsely : Prop := scriptRunsRow.holds Try.pinned (OpenSpec.ofChange scriptRunsWrong)

/-- 'pleachinglaw.ScriptBack': WHATEVER THE INPUT: true; the input reads as it did. -/
def scriptBackSpec : ChangeSpec := { name := "scriptBack", fn := fun _ => fun
  | [d1, d2] => { results := [.lit (.bool true)], args := [d1, d2] }
  | _ => none }
def scriptBackRow : OpenClaim := { program := "ytcknganggcbkjab", sum := "11edba3e16de921c2a029ead39dfe38d57ee98b61dad2926f874f38275982a66", func := "pleaching/pleachinglaw.ScriptBack", spec := "scriptBack", unfollowed := true, recurses := true, loops := true, plainKeys := false, apart := false }
def ScriptBackSaid : Prop := scriptBackRow.holds Try.pinned (OpenSpec.ofChange scriptBackSpec)

/-- ITS FALSE NEIGHBOUR: 'it returns false'. Refute it at one input. -/
def scriptBackWrong : ChangeSpec := { name := "scriptBack", fn := fun _ => fun
  | [d1, d2] => { results := [.lit (.bool false)], args := [d1, d2] }
  | _ => none }
def ScriptBackWrongFalsely : Prop := scriptBackRow.holds Try.pinned (OpenSpec.ofChange scriptBackWrong)

/-- 'pleachinglaw.ScriptMakes': WHATEVER THE INPUT: true; the input reads as it did. -/
def scriptMakesSpec : ChangeSpec := { name := "scriptMakes", fn := fun _ => fun
  | [d1, d2] => { results := [.lit (.bool true)], args := [d1, d2] }
  | _ => none }
def scriptMakesRow : OpenClaim := { program := "ytcknganggcbkjab", sum := "11edba3e16de921c2a029ead39dfe38d57ee98b61dad2926f874f38275982a66", func := "pleaching/pleachinglaw.ScriptMakes", spec := "scriptMakes", unfollowed := true, recurses := true, loops := true, plainKeys := false, apart := false }
def ScriptMakesSaid : Prop := scriptMakesRow.holds Try.pinned (OpenSpec.ofChange scriptMakesSpec)

/-- ITS FALSE NEIGHBOUR: 'it returns false'. Refute it at one input. -/
def scriptMakesWrong : ChangeSpec := { name := "scriptMakes", fn := fun _ => fun
  | [d1, d2] => { results := [.lit (.bool false)], args := [d1, d2] }
  | _ => none }
def ScriptMakesWrongFalsely : Prop := scriptMakesRow.holds Try.pinned (OpenSpec.ofChange scriptMakesWrong)

/-- 'pleachinglaw.ScriptShort': WHATEVER THE INPUT: true; the input reads as it did. -/
def scriptShortSpec : ChangeSpec := { name := "scriptShort", fn := fun _ => fun
  | [d1, d2] => { results := [.lit (.bool true)], args := [d1, d2] }
  | _ => none }
def scriptShortRow : OpenClaim := { program := "ytcknganggcbkjab", sum := "11edba3e16de921c2a029ead39dfe38d57ee98b61dad2926f874f38275982a66", func := "pleaching/pleachinglaw.ScriptShort", spec := "scriptShort", unfollowed := true, recurses := true, loops := true, plainKeys := false, apart := false }
def ScriptShortSaid : Prop := scriptShortRow.holds Try.pinned (OpenSpec.ofChange scriptShortSpec)

/-- ITS FALSE NEIGHBOUR: 'it returns false'. Refute it at one input. -/
def scriptShortWrong : ChangeSpec := { name := "scriptShort", fn := fun _ => fun
  | [d1, d2] => { results := [.lit (.bool false)], args := [d1, d2] }
  | _ => none }
def ScriptShortWrongFalsely : Prop := scriptShortRow.holds Try.pinned (OpenSpec.ofChange scriptShortWrong)

/-- 'pleachinglaw.ScriptJoins': WHATEVER THE INPUT: true; the input reads as it did. -/
def scriptJoinsSpec : ChangeSpec := { name := "scriptJoins", fn := fun _ => fun
  | [d1, d2, d3] => { results := [.lit (.bool true)], args := [d1, d2, d3] }
  | _ => none }
def scriptJoinsRow : OpenClaim := { program := "ytcknganggcbkjab", sum := "11edba3e16de921c2a029ead39dfe38d57ee98b61dad2926f874f38275982a66", func := "pleaching/pleachinglaw.ScriptJoins", spec := "scriptJoins", unfollowed := true, recurses := true, loops := true, plainKeys := false, apart := false }
def ScriptJoinsSaid : Prop := scriptJoinsRow.holds Try.pinned (OpenSpec.ofChange scriptJoinsSpec)

/-- ITS FALSE NEIGHBOUR: 'it returns false'. Refute it at one input. -/
def scriptJoinsWrong : ChangeSpec := { name := "scriptJoins", fn := fun _ => fun
  | [d1, d2, d3] => { results := [.lit (.bool false)], args := [d1, d2, d3] }
  | _ => none }
def ScriptJoinsWrongFalsely : Prop := scriptJoinsRow.holds Try.pinned (OpenSpec.ofChange scriptJoinsWrong)

/- THE SECOND FORM. 'bulk': how many values and letters a reading holds, each counted each time it is reached (what is shared counts as often as it is met; a slice's spare places count too). A statement '..UptoSaid' is the law's where the arguments, and the package variables that the reading takes, are together of bulk at most 1048576: NARROWER than '..Said'. Prove '..Said' where nothing that the law and all that it calls make is longer than what came in: it says more and counts as full. Else prove '..UptoSaid'. A law counts once. -/
mutual
def uptoBulk {H : Type} : DataW H → Nat
  | .lit (.string bytes) => bytes.length + 1
  | .lit _ => 1
  | .nil => 1
  | .ptr d => uptoBulk d + 1
  | .slice elems spare => uptoBulkAll elems + uptoBulkAll spare + 1
  | .agg parts => uptoBulkAll parts + 1
  | .iface _ d => uptoBulk d + 1
  | .map entries => uptoBulkEntries entries + 1
  | .held _ => 1
def uptoBulkAll {H : Type} : List (DataW H) → Nat
  | [] => 0
  | d :: r => uptoBulk d + uptoBulkAll r
def uptoBulkEntries {H : Type} : List (Lit × DataW H) → Nat
  | [] => 0
  | x :: r => uptoBulkEntry x + uptoBulkEntries r
def uptoBulkEntry {H : Type} : Lit × DataW H → Nat
  | (.string bytes, d) => bytes.length + uptoBulk d + 1
  | (_, d) => uptoBulk d + 1
 end
def uptoSmall : (H : Type) → List (DataW H) → Bool := fun _ ds => decide (uptoBulkAll ds ≤ 1048576)
def OpenSpec.upto (s : _root_.Go.ChangeSpec) : _root_.Go.OpenSpec := { _root_.Go.OpenSpec.ofChange s with cond := some uptoSmall }

/-- 'pleachinglaw.DistBounds', WHERE WHAT IT READS IS OF BULK AT MOST 1048576: true; the input reads as it did. -/
def distBoundsUptoRow : OpenClaim := { program := "ytcknganggcbkjab", sum := "11edba3e16de921c2a029ead39dfe38d57ee98b61dad2926f874f38275982a66", func := "pleaching/pleachinglaw.DistBounds", spec := "distBounds", unfollowed := true, recurses := true, loops := true, plainKeys := false, apart := false, narrowed := true }
def DistBoundsUptoSaid : Prop := distBoundsUptoRow.holds Try.pinned (OpenSpec.upto distBoundsSpec)

/-- 'pleachinglaw.DistBeneath', WHERE WHAT IT READS IS OF BULK AT MOST 1048576: true; the input reads as it did. -/
def distBeneathUptoRow : OpenClaim := { program := "ytcknganggcbkjab", sum := "11edba3e16de921c2a029ead39dfe38d57ee98b61dad2926f874f38275982a66", func := "pleaching/pleachinglaw.DistBeneath", spec := "distBeneath", unfollowed := true, recurses := true, loops := true, plainKeys := false, apart := false, narrowed := true }
def DistBeneathUptoSaid : Prop := distBeneathUptoRow.holds Try.pinned (OpenSpec.upto distBeneathSpec)

/-- 'pleachinglaw.DeedDoes', WHERE WHAT IT READS IS OF BULK AT MOST 1048576: true; the input reads as it did. -/
def deedDoesUptoRow : OpenClaim := { program := "ytcknganggcbkjab", sum := "11edba3e16de921c2a029ead39dfe38d57ee98b61dad2926f874f38275982a66", func := "pleaching/pleachinglaw.DeedDoes", spec := "deedDoes", unfollowed := true, recurses := true, loops := true, plainKeys := false, apart := false, narrowed := true }
def DeedDoesUptoSaid : Prop := deedDoesUptoRow.holds Try.pinned (OpenSpec.upto deedDoesSpec)

/-- 'pleachinglaw.DeedBack', WHERE WHAT IT READS IS OF BULK AT MOST 1048576: true; the input reads as it did. -/
def deedBackUptoRow : OpenClaim := { program := "ytcknganggcbkjab", sum := "11edba3e16de921c2a029ead39dfe38d57ee98b61dad2926f874f38275982a66", func := "pleaching/pleachinglaw.DeedBack", spec := "deedBack", unfollowed := true, recurses := true, loops := true, plainKeys := false, apart := false, narrowed := true }
def DeedBackUptoSaid : Prop := deedBackUptoRow.holds Try.pinned (OpenSpec.upto deedBackSpec)

/-- 'pleachinglaw.DeedOne', WHERE WHAT IT READS IS OF BULK AT MOST 1048576: true; the input reads as it did. -/
def deedOneUptoRow : OpenClaim := { program := "ytcknganggcbkjab", sum := "11edba3e16de921c2a029ead39dfe38d57ee98b61dad2926f874f38275982a66", func := "pleaching/pleachinglaw.DeedOne", spec := "deedOne", unfollowed := true, recurses := true, loops := true, plainKeys := false, apart := false, narrowed := true }
def DeedOneUptoSaid : Prop := deedOneUptoRow.holds Try.pinned (OpenSpec.upto deedOneSpec)

/-- 'pleachinglaw.ScriptRuns', WHERE WHAT IT READS IS OF BULK AT MOST 1048576: true; the input reads as it did. -/
def scriptRunsUptoRow : OpenClaim := { program := "ytcknganggcbkjab", sum := "11edba3e16de921c2a029ead39dfe38d57ee98b61dad2926f874f38275982a66", func := "pleaching/pleachinglaw.ScriptRuns", spec := "scriptRuns", unfollowed := true, recurses := true, loops := true, plainKeys := false, apart := false, narrowed := true }
def ScriptRunsUptoSaid : Prop := scriptRunsUptoRow.holds Try.pinned (OpenSpec.upto scriptRunsSpec)

/-- 'pleachinglaw.ScriptBack', WHERE WHAT IT READS IS OF BULK AT MOST 1048576: true; the input reads as it did. -/
def scriptBackUptoRow : OpenClaim := { program := "ytcknganggcbkjab", sum := "11edba3e16de921c2a029ead39dfe38d57ee98b61dad2926f874f38275982a66", func := "pleaching/pleachinglaw.ScriptBack", spec := "scriptBack", unfollowed := true, recurses := true, loops := true, plainKeys := false, apart := false, narrowed := true }
def ScriptBackUptoSaid : Prop := scriptBackUptoRow.holds Try.pinned (OpenSpec.upto scriptBackSpec)

/-- 'pleachinglaw.ScriptMakes', WHERE WHAT IT READS IS OF BULK AT MOST 1048576: true; the input reads as it did. -/
def scriptMakesUptoRow : OpenClaim := { program := "ytcknganggcbkjab", sum := "11edba3e16de921c2a029ead39dfe38d57ee98b61dad2926f874f38275982a66", func := "pleaching/pleachinglaw.ScriptMakes", spec := "scriptMakes", unfollowed := true, recurses := true, loops := true, plainKeys := false, apart := false, narrowed := true }
def ScriptMakesUptoSaid : Prop := scriptMakesUptoRow.holds Try.pinned (OpenSpec.upto scriptMakesSpec)

/-- 'pleachinglaw.ScriptShort', WHERE WHAT IT READS IS OF BULK AT MOST 1048576: true; the input reads as it did. -/
def scriptShortUptoRow : OpenClaim := { program := "ytcknganggcbkjab", sum := "11edba3e16de921c2a029ead39dfe38d57ee98b61dad2926f874f38275982a66", func := "pleaching/pleachinglaw.ScriptShort", spec := "scriptShort", unfollowed := true, recurses := true, loops := true, plainKeys := false, apart := false, narrowed := true }
def ScriptShortUptoSaid : Prop := scriptShortUptoRow.holds Try.pinned (OpenSpec.upto scriptShortSpec)

/-- 'pleachinglaw.ScriptJoins', WHERE WHAT IT READS IS OF BULK AT MOST 1048576: true; the input reads as it did. -/
def scriptJoinsUptoRow : OpenClaim := { program := "ytcknganggcbkjab", sum := "11edba3e16de921c2a029ead39dfe38d57ee98b61dad2926f874f38275982a66", func := "pleaching/pleachinglaw.ScriptJoins", spec := "scriptJoins", unfollowed := true, recurses := true, loops := true, plainKeys := false, apart := false, narrowed := true }
def ScriptJoinsUptoSaid : Prop := scriptJoinsUptoRow.holds Try.pinned (OpenSpec.upto scriptJoinsSpec)

end Rows
end Go.Proofs.Ytcknganggcbkjab
