/-
  An instruction that came in, opened; what the frames of the laws on code share.
-/
import Derived.Test.YtllogpekbdlfiabGreatDoorCoL
import Derived.Test.YtllogpekbdlfiabGreatDoorCoM
namespace Go.Proofs.YtllogpekbdlfiabGreatDoor.Code
open Go.ChangeShapes Go.WideShapes Go.ChangeAt Go.RowKit
set_option linter.unusedVariables false

end Go.Proofs.YtllogpekbdlfiabGreatDoor.Code
