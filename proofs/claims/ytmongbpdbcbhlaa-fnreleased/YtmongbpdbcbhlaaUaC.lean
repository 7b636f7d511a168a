/-
  What the program's WriteWord answers.
-/
import Derived.Test.YtmongbpdbcbhlaaUaB
namespace Go.Proofs.Ytmongbpdbcbhlaa
open Go.RowKit Go.Shelf
set_option linter.unusedVariables false
attribute [local go_sem] Oper.semAt_some

end Go.Proofs.Ytmongbpdbcbhlaa
