/-
  An instruction that came in, opened; what the frames of the laws on code share.
-/
import Derived.Test.YtfjaphhijefdlaaGreatDoorCoL
import Derived.Test.YtfjaphhijefdlaaGreatDoorCoM
namespace Go.Proofs.YtfjaphhijefdlaaGreatDoor.Code
open Go.ChangeShapes Go.WideShapes Go.ChangeAt Go.RowKit
set_option linter.unusedVariables false

end Go.Proofs.YtfjaphhijefdlaaGreatDoor.Code
