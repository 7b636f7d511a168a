/-
  The laws' own functions on instructions: sizes and copies.
-/
import Derived.Test.YtfjaphhijefdlaaGreatDoorCoI
namespace Go.Proofs.YtfjaphhijefdlaaGreatDoor.Code
open Go.RowKit
open Go.Proofs.YtfjaphhijefdlaaGreatDoor.Atom
set_option linter.unusedVariables false

/-- What is left of a purse behind a text of m bytes. -/
def leftS (left : Int) (m : Nat) : Int := if left < (m : Int) then -1 else left - m

theorem res_ins {w : World} {R : Nat} {a b c d e f : Value} {tmps : Array Value} {fn : Func} {q : Nat} (hf : fn.results = #[.cell q 77]) (h : w.heap[R]? = some (.cells #[a, b, c, d, e, f] 77 (0, 0)))
    (h4 : tmps.getD q undef = .pointer (some ⟨R, 0, none⟩)) : (results fn tmps).run Tryz.prog w = .ok (.agg #[a, b, c, d, e, f]) w :=
  results_cell_row hf tmps w R 77 #[a, b, c, d, e, f] (0, 0) _ h4 h Tryz.underlying77 rfl (by kernel_rfl)

end Go.Proofs.YtfjaphhijefdlaaGreatDoor.Code
