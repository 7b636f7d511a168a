/-
  What the specification's l2Copy, l3Holds and WriteWord answer at an arena of any length.
-/
import Derived.Test.YtmongbpdbcbhlaaAnA
import Derived.Test.YtmongbpdbcbhlaaExB
import Derived.Deep.Upon
namespace Go.Proofs.Ytmongbpdbcbhlaa
open Go.RowKit
set_option linter.unusedVariables false

/-- An i-th word of a used block. -/
def hol : Option (Nat × Bool) → Int → Bool
  | some (n, true), i => inB i 0 ((n : Int) - 1)
  | _, _ => false

end Go.Proofs.Ytmongbpdbcbhlaa
