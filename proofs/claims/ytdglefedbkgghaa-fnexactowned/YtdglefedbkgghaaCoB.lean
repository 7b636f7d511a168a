/-
  The specification's small functions on instructions: letters, registers, numbers.
-/
import Derived.Test.YtdglefedbkgghaaCoA
import Derived.Test.YtdglefedbkgghaaArA
import Derived.BigQuiet
namespace Go.Proofs.Ytdglefedbkgghaa.Code
open Go.RowKit
open Go.Proofs.Ytdglefedbkgghaa.Atom
set_option linter.unusedVariables false

theorem getD_at' (s : ByteArray) (k : Nat) (h : k < s.size) : s.data.toList[k]'(by simpa using h) = s[k] := rfl
theorem let_take (s : ByteArray) (ch : Int) (k : Nat) (h : k < s.size) : letB (s.data.toList.take (k + 1)) ch = (letB (s.data.toList.take k) ch || ((s[k].toNat : Int) == ch)) := by
  unfold letB
  have h' : k < s.data.toList.length := by simpa using h
  rw [List.take_succ_eq_append_getElem h', List.any_append]
  simp [getD_at' s k h]
theorem let_hit (s : ByteArray) (ch : Int) (k : Nat) (h : k < s.size) (he : ((s[k].toNat : Int) == ch) = true) : letB s.data.toList ch = true := by
  unfold letB
  rw [List.any_eq_true]
  exact ⟨s[k], by rw [← getD_at' s k h]; exact List.getElem_mem _, he⟩
theorem let_end (s : ByteArray) (ch : Int) : letB (s.data.toList.take s.size) ch = letB s.data.toList ch := by
  rw [show s.size = s.data.toList.length by simp, List.take_length]

end Go.Proofs.Ytdglefedbkgghaa.Code
