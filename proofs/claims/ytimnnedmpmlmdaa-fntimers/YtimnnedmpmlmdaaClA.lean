/-
  A copy of a text is that text.
-/
import Derived.Test.YtimnnedmpmlmdaaShelf
import Derived.Outline
namespace Go.Proofs.Ytimnnedmpmlmdaa
open Go.RowKit
set_option linter.unusedVariables false

theorem strClone_any (s : ByteArray) (w : World) (h : s.size ≤ 1048576) :
    Calls Try.prog 73 #[.string s] w fun e w' => e = .returned (.string s) ∧ Below w.heap.size w w' := by
  have HC : Hid (∀ w, Calls Try.prog 78 #[.string s] w fun e w' => e = .returned (.string s) ∧ Below w.heap.size w w') := fun w => Try.stringslite_Clone s w (by omega)
  go_enter Try.func73, Try.ntmps73
  go_wp2_with (go_at_call 78; fail)
  refine (HC.out _).mono ?_
  rintro e w1 ⟨rfl, hb1⟩
  have HB : Hid (Below w.heap.size w w1) := hb1
  clear hb1
  go_wp2_with fail
  go_ret
  exact ⟨rfl, HB.out⟩
end Go.Proofs.Ytimnnedmpmlmdaa
