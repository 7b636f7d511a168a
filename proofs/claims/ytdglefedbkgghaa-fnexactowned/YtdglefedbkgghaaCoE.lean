/-
  The program's slots: what an instruction names, as a list of its own.
-/
import Derived.Test.YtdglefedbkgghaaCoD
namespace Go.Proofs.Ytdglefedbkgghaa.Code
open Go.RowKit
open Go.Proofs.Ytdglefedbkgghaa.Atom
set_option linter.unusedVariables false

end Go.Proofs.Ytdglefedbkgghaa.Code
