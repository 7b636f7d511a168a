/-
  Actors compared.
-/
import Derived.Test.YtdglefedbkgghaaAcC
namespace Go.Proofs.Ytdglefedbkgghaa
open Go.RowKit Atom
set_option linter.unusedVariables false

end Go.Proofs.Ytdglefedbkgghaa
