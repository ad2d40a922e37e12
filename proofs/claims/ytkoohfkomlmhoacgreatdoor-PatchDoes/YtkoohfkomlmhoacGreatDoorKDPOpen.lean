/- What the rows of package patch's statements are opened with. -/
import Derived.Test.YtkoohfkomlmhoacGreatDoorRows
import Derived.Lib.LaidTab
import Derived.Stop.LaidErr
import Derived.MakeChecks
import Derived.SizedLaws
import Derived.Shelf.Vars
import Derived.LaidLaws
import Derived.Test.YtkoohfkomlmhoacGreatDoorKDP08
import Derived.Test.YtkoohfkomlmhoacGreatDoorKDP36
namespace Go.Proofs.YtkoohfkomlmhoacGreatDoor
open Go.Deep Go.RowKit Go.ChangeShapes Go.WideShapes Go.Joins
theorem Tryz.own : ownKnob Tryz.prog.godebug = none := by kernel_rfl
theorem Tryz.laidOut : laidOutB Tryz.prog = true := by kernel_rfl
namespace Pat
set_option maxRecDepth 100000
theorem star_err : "*" ++ "errors.errorString" = "*errors.errorString" := by decide
theorem Tryz.rowErr (u : TypeId) (h : Tryz.prog.typeName? 3 u = some "*errors.errorString") : u = 198 :=
  typeName_ptr_named (nm := "errors.errorString") (by rw [star_err]; kernel_rfl) (by kernel_rfl) (by decide) u (by rw [star_err]; exact h)
/-- A variable that holds an error. -/
theorem err_at {n : String} {g : Nat} {text : List UInt8} {r : List (String × DataW Unit)} {W : World} (h : Go.laidMet Tryz.prog ((n, .iface "*errors.errorString" (.ptr (.agg [.lit (.string text)]))) :: r) W) (hg : Tryz.prog.globalNamed n = some g) (ht : (Tryz.prog.globals[g]?).map (·.type) = some 60) :
    ∃ ev, W.cell? ⟨g, 0, none⟩ = some ev ∧ (ev = .nilIface ∨ ∃ te pe, ev = .iface te pe) := by
  obtain ⟨a, s, hv, _, _, _⟩ := laid_sentinel h hg ht Tryz.underlying60 Tryz.rowErr Tryz.underlying198 Tryz.underlying200 rfl rfl Tryz.underlying9 (by kernel_rfl) (by kernel_rfl)
  exact ⟨_, World.var?_cell hg hv 0, Or.inr ⟨_, _, rfl⟩⟩
theorem tab_of {laid r : List (String × DataW Unit)} {a b c : String × DataW Unit} {t1 t2 : List UInt8} {W : World} (h0 : (laid.all fun x => x.2.handleName?.isNone) = true)
    (h1 : laid = a :: b :: ("internal/strconv.uint64pow10", Lib.tabData .u64 Lib.pow10Tab) :: c :: ("strconv.ErrRange", .iface "*errors.errorString" (.ptr (.agg [.lit (.string t1)]))) :: ("strconv.ErrSyntax", .iface "*errors.errorString" (.ptr (.agg [.lit (.string t2)]))) :: r)
    (h : laidMetH Tryz.prog laid W) (hs : W.ShapedOpen Tryz.prog) : Tab W := by
  rw [MakeChecks.laidMetH_plain _ _ _ h0, h1] at h
  refine ⟨?_, ?_, ?_, ?_⟩
  · exact Lib.tabIs_of_head (g := 3) (t := 190) (e := 161) (n := 20) (by kernel_rfl) (by kernel_rfl) Tryz.underlying190 Tryz.underlying161 (by kernel_rfl) (by kernel_rfl) h.tail.tail
  · exact cell_of_shapedOpen_int (t := 3) (k := .i64) (zero := #[.int .i64 0]) hs (of_decide_eq_true (by kernel_rfl)) (by kernel_rfl) rfl (by kernel_rfl) (by kernel_rfl) Tryz.underlying3
  · exact err_at (n := "strconv.ErrSyntax") (g := 1) h.tail.tail.tail.tail.tail (by kernel_rfl) (by kernel_rfl)
  · exact err_at (n := "strconv.ErrRange") (g := 2) h.tail.tail.tail.tail (by kernel_rfl) (by kernel_rfl)
section
variable {H : Type} {enc : TypeId × Value → H} {w : World} {base : Nat} {spare : Nat → Bool} {held : Bool}
theorem open_path64 {r : Reach} {b0 : Nat} {v : Value} {d : DataW H} {p : List MemPlace} (hv : Value.okWide Tryz.prog w r b0 23 v) (h : DataW.Trod enc Tryz.prog w base spare held 23 v d p) :
    ∃ pa ps pcap, v = .slice pa (List.length (α := Int) ps) pcap ∧ ps.length ≤ pcap ∧ pcap ≤ maxLen ∧ PIn w pa ps ∧ ∀ n, n ∈ ps → In64 n := by
  obtain ⟨a0, len, cap, rfl⟩ := okWide_slice Tryz.underlying23 hv
  obtain ⟨fuel, hf⟩ := h
  rcases open_ints Tryz.underlying23 Tryz.underlying3 Tryz.cellsInt hf with ⟨hcs, hx⟩ | ⟨a, len', cap', zs, hcs, _, hl, hm, hz, hx, hcell, hwz⟩
  · simp [Value.cells] at hcs
    obtain ⟨rfl, rfl, rfl⟩ := hcs
    exact ⟨none, [], 0, rfl, Nat.le_refl _, by unfold maxLen; omega, Or.inl rfl, fun n hn => by simp at hn⟩
  · simp [Value.cells] at hcs
    obtain ⟨rfl, rfl, rfl⟩ := hcs
    have hzl : len ≤ zs.length := by rw [hz]; split <;> omega
    have htl : (zs.take len).length = len := by rw [List.length_take]; omega
    refine ⟨some a, zs.take len, cap, by rw [htl], by rw [htl]; exact hl, hm, ?_, fun n hn => ?_⟩
    rotate_left
    · have h1 := hwz n (List.mem_of_mem_take hn)
      simp only [Lit.wf, Bool.and_eq_true, decide_eq_true_eq] at h1
      exact ⟨h1.1, h1.2⟩
    by_cases h0 : len = 0
    · exact Or.inl (by rw [h0]; rfl)
    · have hs := spot_none (hcell 0 (by omega))
      obtain ⟨b, o, sp⟩ := a
      simp [Addr.add] at hs
      subst hs
      refine Or.inr ⟨b, o, rfl, fun i q hq => ?_⟩
      have hi : i < len := by
        have := (List.getElem?_eq_some_iff.1 hq).1
        omega
      have hc := hcell i (by omega)
      rw [add_plain] at hc
      rw [hc]
      rw [List.getElem?_take_of_lt hi] at hq
      simp [hq]
end
end Pat
end Go.Proofs.YtkoohfkomlmhoacGreatDoor
