/-
  Where a timer comes to stand: the program's search.
-/
import Derived.Test.YtnfncdoiabgdjaaTrF
import Derived.Test.YtnfncdoiabgdjaaTrK
namespace Go.Proofs.Ytnfncdoiabgdjaa.Tr
open Go.RowKit Atom
set_option linter.unusedVariables false

end Go.Proofs.Ytnfncdoiabgdjaa.Tr
