/- The nodes of a tree in order: lists of nodes alone. Of no program. -/
/- The tree that the parents of nodes tell: of lists alone. Of no program. -/
import Derived.Test.YtkoohfkomlmhoacDoorKLP00
namespace Go.Proofs.YtkoohfkomlmhoacDoor
open Go.Deep Go.RowKit
set_option linter.unusedVariables false
set_option maxRecDepth 20000

/-- A node: its label, its parent's number, the lowest number beneath it. -/
structure Nd where
  lab : ByteArray
  par : Int
  left : Int
deriving DecidableEq
end Go.Proofs.YtkoohfkomlmhoacDoor
namespace Go.Proofs.YtkoohfkomlmhoacDoor
open Go.Deep Go.RowKit
set_option linter.unusedVariables false
set_option maxRecDepth 20000

/-- Trees without addresses, one behind the other. -/
abbrev Gs := List (ByteArray × Fo)
def toFo : Gs → Fo
  | [] => .nil
  | x :: l => .node 0 0 (x.1, none, 0) x.2 (toFo l)
def gsF : Fo → Gs
  | .nil => []
  | .node _ _ x k r => (x.1, strip k) :: gsF r
end Go.Proofs.YtkoohfkomlmhoacDoor
