/-
  Guards and poison: what both kinds of Guard, Rear and Poison answer.
-/
import Derived.Test.YtabgfaafpgholaaRows
import Derived.WalkKit
import Derived.ProofKit
import Derived.Outline
import Derived.Below
namespace Go.Proofs.Ytabgfaafpgholaa
open Go.RowKit
set_option linter.unusedVariables false

def inA (x : Int) : Bool := decide (0 ≤ x ∧ x ≤ 4000)
def useOf (u : Bool) : Int := if u then 2 else 1
/-- A guard word: more is 1000 ahead and 1001 behind. -/
def gw (a n : Int) (u : Bool) (more : Int) : Int := if inA a && inA n then ((a * 7919 + n * 104729 + useOf u) * 3 + more) % 1000003 else 0
def pois (a : Int) : Int := if inA a then (a * 31 + 7777) % 1000003 else 0

theorem ret_bool {a b : Bool} (h : a = b) : Ending.returned (.bool a) = .returned (.bool b) := by rw [h]
theorem ret_int {k : IntKind} {a b : Int} (h : a = b) : Ending.returned (.int k a) = .returned (.int k b) := by rw [h]

def inB (x a b : Int) : Bool := decide (a ≤ x ∧ x ≤ b)
theorem in_any (x a b : Int) (w : World) :
    Calls Try.prog 90 #[.int .i64 x, .int .i64 a, .int .i64 b] w fun e w' => e = .returned (.bool (inB x a b)) ∧ w' = w := by
  by_cases h1 : a ≤ x
  · go_enter Try.func90, Try.ntmps90
    go_wp2
    go_ret
    exact ⟨by simp [inB, h1], rfl⟩
  · go_enter Try.func90, Try.ntmps90
    go_wp2
    go_ret
    exact ⟨by simp [inB]; omega, rfl⟩

theorem inA_true {x : Int} (h : inA x = true) : 0 ≤ x ∧ x ≤ 4000 := by simpa [inA] using h

end Go.Proofs.Ytabgfaafpgholaa
