/-
  spendTerm answers as l1Look.
-/
import Derived.Test.YtdglefedbkgghaaTmF
import Derived.Test.YtdglefedbkgghaaTmG
namespace Go.Proofs.Ytdglefedbkgghaa
open Go.RowKit Atom
set_option linter.unusedVariables false

/-- What spendTerm answers. -/
def spendN (o : Option Nat) : Int := match o with | none => 0 | some x => x
theorem ret_pair {a b : Int} {x y : Bool} (h : a = b) (k : x = y) : Ending.returned (.tuple #[.int .i64 a, .bool x]) = .returned (.tuple #[.int .i64 b, .bool y]) := by rw [h, k]

end Go.Proofs.Ytdglefedbkgghaa
