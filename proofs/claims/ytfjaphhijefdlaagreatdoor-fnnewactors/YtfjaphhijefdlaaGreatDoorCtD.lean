/-
  What is laid, for the laws on texts.
-/
import Derived.Test.YtfjaphhijefdlaaGreatDoorCoL
import Derived.Test.YtfjaphhijefdlaaGreatDoorCtC
namespace Go.Proofs.YtfjaphhijefdlaaGreatDoor.Code
open Go.ChangeShapes Go.WideShapes Go.ChangeAt Go.RowKit
set_option linter.unusedVariables false

theorem in64_of {n : Int} (h : (Lit.int .i64 n).wf = true) : -9223372036854775808 ≤ n ∧ n ≤ 9223372036854775807 := bounds_i64 h
theorem powData : (Rows.laid_internal_strconv_uint64pow10 : DataW Unit) = Lib.tabData .u64 Lib.pow10Tab := by kernel_rfl
theorem shp_of_met {W : World} {n : String} {rest : List (String × DataW Unit)} (h : laidMet Tryz.prog ((n, Rows.laid_loop_example_g00248_impl_shapes) :: rest) W) (hn : Tryz.prog.globalNamed n = some 1 := by kernel_rfl) : Shp W := by
  obtain ⟨ps, ⟨g0, t0, cs0, f0, p0, q0, hg0, ht0, hv0, hd0, _, _⟩, _, _⟩ := h
  obtain rfl := Option.some.inj (hn.symm.trans hg0)
  obtain rfl := Option.some.inj ((show (Tryz.prog.globals[1]?).map (·.type) = some 185 by kernel_rfl).symm.trans ht0)
  rw [shapesD] at hd0
  exact shp_of_trod hg0 hv0 hd0
theorem pow_of_met {W : World} {rest : List (String × DataW Unit)} (h : laidMet Tryz.prog (("internal/strconv.uint64pow10", Rows.laid_internal_strconv_uint64pow10) :: rest) W) : Pow W := by
  rw [powData] at h
  exact Lib.tabIs_of_head (g := 2) (t := 199) (e := 102) (n := 20) (by kernel_rfl) (by kernel_rfl) (by kernel_rfl) (by kernel_rfl) (by kernel_rfl) (by kernel_rfl) h
end Go.Proofs.YtfjaphhijefdlaaGreatDoor.Code
