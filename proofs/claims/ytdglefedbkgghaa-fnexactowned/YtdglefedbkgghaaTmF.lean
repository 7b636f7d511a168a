/-
  rightAlone answers as l1Shape.
-/
import Derived.Test.YtdglefedbkgghaaTmE
import Derived.WalkSmall
namespace Go.Proofs.Ytdglefedbkgghaa
open Go.RowKit Atom
set_option linter.unusedVariables false

end Go.Proofs.Ytdglefedbkgghaa
