/-
  How the exact laws over arenas begin: the size of an arena, and a copy of it.
-/
import Derived.Test.YtmongbpdbcbhlaaAuA
namespace Go.Proofs.Ytmongbpdbcbhlaa
open Go.RowKit
set_option linter.unusedVariables false

/-- What is left of the purse: below 0, there is too much. -/
def szI (N : Nat) (left : Int) : Int := if left - N < 0 then -1 else left - N
theorem szI_ge (N : Nat) (left : Int) : -1 ≤ szI N left := by unfold szI; split <;> omega
end Go.Proofs.Ytmongbpdbcbhlaa
