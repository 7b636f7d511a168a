/-
  A timer put into a row that has no room: the program's slices.Insert.
-/
import Derived.Test.YtnfncdoiabgdjaaTrS
namespace Go.Proofs.Ytnfncdoiabgdjaa.Tr
open Go.RowKit Atom
set_option linter.unusedVariables false

end Go.Proofs.Ytnfncdoiabgdjaa.Tr
