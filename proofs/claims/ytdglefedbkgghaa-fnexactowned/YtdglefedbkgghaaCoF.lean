/-
  The program's slots: where what is named stands, its bounds, whether it is right; how it is blanked.
-/
import Derived.Test.YtdglefedbkgghaaCoE
namespace Go.Proofs.Ytdglefedbkgghaa.Code
open Go.RowKit
open Go.Proofs.Ytdglefedbkgghaa.Atom
set_option linter.unusedVariables false

/-- The place of what stands at a slot, among an instruction's six. -/
def fld : Nat → Nat
  | 1 => 1 | 2 => 2 | 3 => 3 | 4 => 2 | _ => 4
theorem below10 {j : Nat} (h : 1 ≤ j) (h9 : j ≤ 9) : j = 1 ∨ j = 2 ∨ j = 3 ∨ j = 4 ∨ j = 5 ∨ j = 6 ∨ j = 7 ∨ j = 8 ∨ j = 9 := by omega

/-- The least and the most that may stand at a slot. -/
def lowS : Nat → Int
  | 4 => 1 | 5 => -1000000 | _ => 0
def highS (b N : Int) : Nat → Int
  | 4 => 6 | 5 => 1000000 | 6 => min 8 (wrap64 (8 - b)) | 8 => wrap64 (N - 1) | _ => 7

end Go.Proofs.Ytdglefedbkgghaa.Code
