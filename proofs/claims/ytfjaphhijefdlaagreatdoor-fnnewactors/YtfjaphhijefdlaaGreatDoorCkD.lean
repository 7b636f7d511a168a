/-
  A row of instructions that came in, opened; what is laid, for the laws on code.
-/
import Derived.Test.YtfjaphhijefdlaaGreatDoorCkB
import Derived.Test.YtfjaphhijefdlaaGreatDoorCkC
import Derived.Test.YtfjaphhijefdlaaGreatDoorCoN
import Derived.Test.YtfjaphhijefdlaaGreatDoorCtD
import Derived.LaidHandle
import Derived.Deep.Slices
namespace Go.Proofs.YtfjaphhijefdlaaGreatDoor.Code
open Go.ChangeShapes Go.WideShapes Go.ChangeAt Go.RowKit
set_option linter.unusedVariables false

theorem choose_below {α : Type} [Inhabited α] {n : Nat} {p : Nat → α → Prop} (h : ∀ i, i < n → ∃ a, p i a) : ∃ f : Nat → α, ∀ i, i < n → p i (f i) := by
  classical
  exact ⟨fun i => if hi : i < n then (h i hi).choose else default, fun i hi => by simp only [dif_pos hi]; exact (h i hi).choose_spec⟩

theorem ety_of {W : World} {n : String} (hn : Tryz.prog.globalNamed n = some 0) (h : handlesMet Tryz.prog [(n, Rows.laid_errors_errorType)] W) : Es.Ety W := by
  have rt : (Tryz.prog.cutTypes.find? (·.1 == "internal/reflectlite.rtype")).map (·.2) = some 172 := by kernel_rfl
  have oneRow : ((List.range 232).filter fun t => Tryz.prog.rowNamed t [101, 114, 114, 111, 114]) = [112] := by kernel_rfl
  have size : Tryz.prog.types.size = 232 := by kernel_rfl
  have hhn : (Rows.laid_errors_errorType : DataW Unit).handleName? = some [101, 114, 114, 111, 114] := by kernel_rfl
  obtain ⟨name, u, ty, e1, e2, e3, e4, e5⟩ := h _ (List.mem_singleton.2 rfl)
  obtain rfl := Option.some.inj (hhn.symm.trans e1)
  obtain rfl := Option.some.inj (rt.symm.trans e2)
  have hm : ty ∈ (List.range 232).filter fun t => Tryz.prog.rowNamed t [101, 114, 114, 111, 114] := List.mem_filter.2 ⟨List.mem_range.2 (by rw [← size]; exact e3), e4⟩
  rw [oneRow] at hm
  obtain rfl := List.mem_singleton.1 hm
  have hh : typeHandle Tryz.prog 112 = .pointer (some ⟨5, 112, none⟩) := by kernel_rfl
  rw [hh] at e5
  have := World.var?_cell hn e5 0
  unfold Es.Ety
  simpa using this
end Go.Proofs.YtfjaphhijefdlaaGreatDoor.Code
