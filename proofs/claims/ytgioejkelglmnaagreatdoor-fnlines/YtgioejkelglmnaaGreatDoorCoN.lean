/-
  An instruction that came in, opened; what the frames of the laws on code share.
-/
import Derived.Test.YtgioejkelglmnaaGreatDoorCoL
import Derived.Test.YtgioejkelglmnaaGreatDoorCoM
namespace Go.Proofs.YtgioejkelglmnaaGreatDoor.Code
open Go.ChangeShapes Go.WideShapes Go.ChangeAt Go.RowKit
set_option linter.unusedVariables false

end Go.Proofs.YtgioejkelglmnaaGreatDoor.Code
