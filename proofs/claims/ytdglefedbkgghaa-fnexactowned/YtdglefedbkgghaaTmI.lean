/-
  TermOk, the specification's and the program's; and the walk of the law.
-/
import Derived.Test.YtdglefedbkgghaaTmC
import Derived.Test.YtdglefedbkgghaaTmD
import Derived.Test.YtdglefedbkgghaaTmH
namespace Go.Proofs.Ytdglefedbkgghaa
open Go.RowKit Atom
set_option linter.unusedVariables false

theorem RepV.form {B : Nat} {w : World} {t : Tm} {v : Value} (h : RepV B w t v) : ∃ a b c d e f, v = .agg #[.int .i64 a, .int .i64 b, .string c, .slice d e f] := by
  obtain ⟨k', n', s', l'⟩ := t
  obtain ⟨ao', cap', e', _⟩ := h
  exact ⟨_, _, _, _, _, _, e'⟩

theorem Below.repV {w w' : World} {B : Nat} {t : Tm} {v : Value} (h : Below w.heap.size w w') (hv : RepV B w t v) : RepV B w' t v := (Keeps.below h B).repV hv

end Go.Proofs.Ytdglefedbkgghaa
