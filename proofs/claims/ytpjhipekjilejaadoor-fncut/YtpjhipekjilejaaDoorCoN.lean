/-
  An instruction that came in, opened; what the frames of the laws on code share.
-/
import Derived.Test.YtpjhipekjilejaaDoorCoL
import Derived.Test.YtpjhipekjilejaaDoorCoM
namespace Go.Proofs.YtpjhipekjilejaaDoor.Code
open Go.ChangeShapes Go.WideShapes Go.ChangeAt Go.RowKit
set_option linter.unusedVariables false

end Go.Proofs.YtpjhipekjilejaaDoor.Code
