/- What the rows of package patch's statements are opened with. -/
import Derived.Test.YtkoohfkomlmhoacDoorRows
import Derived.Lib.LaidTab
import Derived.Stop.LaidErr
import Derived.MakeChecks
import Derived.SizedLaws
import Derived.Shelf.Vars
import Derived.LaidLaws
import Derived.Test.YtkoohfkomlmhoacDoorKLP07
import Derived.Test.YtkoohfkomlmhoacDoorKLP32
namespace Go.Proofs.YtkoohfkomlmhoacDoor
open Go.Deep Go.RowKit Go.ChangeShapes Go.WideShapes Go.Joins
theorem Tryd.own : ownKnob Tryd.prog.godebug = none := by kernel_rfl
theorem Tryd.laidOut : laidOutB Tryd.prog = true := by kernel_rfl
namespace Pat
set_option maxRecDepth 100000
theorem star_err : "*" ++ "errors.errorString" = "*errors.errorString" := by decide
theorem Tryd.rowErr (u : TypeId) (h : Tryd.prog.typeName? 3 u = some "*errors.errorString") : u = 127 :=
  typeName_ptr_named (nm := "errors.errorString") (by rw [star_err]; kernel_rfl) (by kernel_rfl) (by decide) u (by rw [star_err]; exact h)
/-- A variable that holds an error. -/
theorem err_at {n : String} {g : Nat} {text : List UInt8} {r : List (String × DataW Unit)} {W : World} (h : Go.laidMet Tryd.prog ((n, .iface "*errors.errorString" (.ptr (.agg [.lit (.string text)]))) :: r) W) (hg : Tryd.prog.globalNamed n = some g) (ht : (Tryd.prog.globals[g]?).map (·.type) = some 48) :
    ∃ ev, W.cell? ⟨g, 0, none⟩ = some ev ∧ (ev = .nilIface ∨ ∃ te pe, ev = .iface te pe) := by
  obtain ⟨a, s, hv, _, _, _⟩ := laid_sentinel h hg ht Tryd.underlying48 Tryd.rowErr Tryd.underlying127 Tryd.underlying129 rfl rfl Tryd.underlying9 (by kernel_rfl) (by kernel_rfl)
  exact ⟨_, World.var?_cell hg hv 0, Or.inr ⟨_, _, rfl⟩⟩
theorem tab_of {laid r : List (String × DataW Unit)} {a b c : String × DataW Unit} {t1 t2 : List UInt8} {W : World} (h0 : (laid.all fun x => x.2.handleName?.isNone) = true)
    (h1 : laid = a :: b :: ("internal/strconv.uint64pow10", Lib.tabData .u64 Lib.pow10Tab) :: c :: ("strconv.ErrRange", .iface "*errors.errorString" (.ptr (.agg [.lit (.string t1)]))) :: ("strconv.ErrSyntax", .iface "*errors.errorString" (.ptr (.agg [.lit (.string t2)]))) :: r)
    (h : laidMetH Tryd.prog laid W) (hs : W.ShapedOpen Tryd.prog) : Tab W := by
  rw [MakeChecks.laidMetH_plain _ _ _ h0, h1] at h
  refine ⟨?_, ?_, ?_, ?_⟩
  · exact Lib.tabIs_of_head (g := 1) (t := 105) (e := 95) (n := 20) (by kernel_rfl) (by kernel_rfl) Tryd.underlying105 Tryd.underlying95 (by kernel_rfl) (by kernel_rfl) h.tail.tail
  · exact cell_of_shapedOpen_int (t := 3) (k := .i64) (zero := #[.int .i64 0]) hs (of_decide_eq_true (by kernel_rfl)) (by kernel_rfl) rfl (by kernel_rfl) (by kernel_rfl) Tryd.underlying3
  · exact err_at (n := "strconv.ErrSyntax") (g := 4) h.tail.tail.tail.tail.tail (by kernel_rfl) (by kernel_rfl)
  · exact err_at (n := "strconv.ErrRange") (g := 5) h.tail.tail.tail.tail (by kernel_rfl) (by kernel_rfl)
section
variable {H : Type} {enc : TypeId × Value → H} {w : World} {base : Nat} {spare : Nat → Bool} {held : Bool}
end
end Pat
end Go.Proofs.YtkoohfkomlmhoacDoor
