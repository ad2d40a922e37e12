/- joined and swapped of package deed: lists of its own. Of the program's text. -/
/- Do of package pleachingref, whatever the tree and the deed; greatDeed of package pleachinglaw. Of the program's text. -/
import Derived.Test.YtkoohfkomlmhoacDoorProg
import Derived.Deep.LoopGhost
import Derived.WalkSmall
import Derived.Deep.RegionHeld3
import Derived.Test.YtkoohfkomlmhoacDoorKBP10
import Derived.Test.YtkoohfkomlmhoacDoorKBP19
import Derived.Test.YtkoohfkomlmhoacDoorKBP30
import Derived.Test.YtkoohfkomlmhoacDoorKBP27
import Derived.Test.YtkoohfkomlmhoacDoorKBP04
import Derived.BigQuiet
import Derived.Test.YtkoohfkomlmhoacDoorKBP29
namespace Go.Proofs.YtkoohfkomlmhoacDoor.Deed
open Go.Deep Go.RowKit
set_option linter.unusedVariables false
set_option maxRecDepth 20000

def ints (l : List Int) : List Value := l.map fun p => Value.int .i64 p
end Go.Proofs.YtkoohfkomlmhoacDoor.Deed
namespace Go.Proofs.YtkoohfkomlmhoacDoor.Deed
open Go.Deep Go.RowKit
set_option linter.unusedVariables false
set_option maxRecDepth 20000

def greatD (d : Dd) : Bool := decide (60 < d.path.length) || decide (100 < d.lab.size)
set_option maxHeartbeats 1000000 in
theorem greatD_any (d : Dd) (pa : Option Addr) (pc : Nat) (w : World) (hd : DIn w d pa pc) :
    Calls Tryd.prog 10 #[ddV d pa pc] w fun e w' => e = .returned (.bool (greatD d)) ∧ Below w.heap.size w w' := by
  have h1 := hd.len
  have h2 := hd.cap
  have h3 := hd.lab
  unfold maxLen at h2 h3
  have hB := (Below.refl w.heap.size w).alloc (Nat.le_refl _) (Obj.cells #[.int .i64 d.kind, .slice pa d.path.length pc, .int .i64 d.pos, .int .i64 d.many, .string d.lab] 35)
  have HB := hide hB
  clear hB hd
  unfold ddV
  by_cases hl : 60 < d.path.length
  · have HV := hide (show greatD d = true by unfold greatD; simp [hl])
    go_enter Tryd.func10, Tryd.ntmps10
    go_wp2_with fail
    go_ret
    exact ⟨by rw [HV.out]; simp, HB.out⟩
  · by_cases hm : 100 < d.lab.size
    · have HV := hide (show greatD d = true by unfold greatD; simp [hm])
      go_enter Tryd.func10, Tryd.ntmps10
      go_wp2_with fail
      go_ret
      exact ⟨by rw [HV.out]; simp; omega, HB.out⟩
    · have HV := hide (show greatD d = false by unfold greatD; simp [hl, hm])
      go_enter Tryd.func10, Tryd.ntmps10
      go_wp2_with fail
      go_ret
      exact ⟨by rw [HV.out]; simp; omega, HB.out⟩
end Go.Proofs.YtkoohfkomlmhoacDoor.Deed
