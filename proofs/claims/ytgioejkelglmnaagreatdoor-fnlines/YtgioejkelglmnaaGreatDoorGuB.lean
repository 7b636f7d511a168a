/-
  A drawn place, length and use: what DrawGuard answers, and that the law of guards holds of it.
-/
import Derived.Test.YtgioejkelglmnaaGreatDoorCurA
import Derived.OpenShut
import Derived.ChangeOld
namespace Go.Proofs.YtgioejkelglmnaaGreatDoor
open Go.RowKit
set_option linter.unusedVariables false

theorem big_any (ao : Option Addr) (len cap : Nat) (hl : len ≤ maxLen) (w : World) :
    Calls Tryz.prog 4 #[.slice ao len cap] w fun e w' => e = .returned (.bool (decide (1048576 < len))) ∧ w' = w := by
  unfold maxLen at hl
  go_enter Tryz.func4, Tryz.ntmps4
  go_wp2
  go_ret
  exact ⟨by simp; try omega, rfl⟩

theorem gw_facts (p n : Int) (u : Bool) (h0 : 0 ≤ p) (h1 : p ≤ 4000) (h2 : 0 ≤ n) (h3 : n < 4000) :
    ¬ gw p n u 1000 = gw p n u 1001 ∧ ¬ gw p n u 1000 = gw p n (!u) 1000 ∧ ¬ gw p n u 1000 = gw p (n + 1) u 1000 ∧ ¬ gw p n u 1000 = gw p (n + 1) (!u) 1000 ∧ ¬ gw p n u 1001 = gw p n (!u) 1001 ∧ 0 ≤ gw p n u 1000 ∧ gw p n u 1000 < 1000003 := by
  have e1 : inA p = true := by simp [inA, h0, h1]
  have e2 : inA n = true := by simp [inA, h2]; omega
  have e3 : inA (n + 1) = true := by simp [inA]; omega
  cases u <;> simp only [gw, e1, e2, e3, useOf, Bool.and_self, if_true, Bool.not_true, Bool.not_false, Bool.false_eq_true, if_false] <;> omega
theorem gw_ge (p n : Int) (u : Bool) (m : Int) : 0 ≤ gw p n u m := by
  unfold gw
  split
  · exact Int.emod_nonneg _ (by decide)
  · exact Int.le_refl _

end Go.Proofs.YtgioejkelglmnaaGreatDoor
