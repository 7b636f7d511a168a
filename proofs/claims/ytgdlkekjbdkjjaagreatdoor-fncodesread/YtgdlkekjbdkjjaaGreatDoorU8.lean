/-
  Two lists of the same instructions are the same: structs compared whole.
  What the law FnLines asks: drawn code is right, its text is short.
-/
import Derived.Test.YtgdlkekjbdkjjaaGreatDoorCkC
import Derived.Test.YtgdlkekjbdkjjaaGreatDoorDcB
import Derived.Test.YtgdlkekjbdkjjaaGreatDoorCkE
import Derived.Test.YtgdlkekjbdkjjaaGreatDoorU7
namespace Go.Proofs.YtgdlkekjbdkjjaaGreatDoor.Code
open Go.RowKit
open Go.Proofs.YtgdlkekjbdkjjaaGreatDoor.Atom
set_option linter.unusedVariables false

end Go.Proofs.YtgdlkekjbdkjjaaGreatDoor.Code

namespace Go.Proofs.YtgdlkekjbdkjjaaGreatDoor.Code
open Go.RowKit
open Go.Proofs.YtgdlkekjbdkjjaaGreatDoor.Atom
set_option linter.unusedVariables false

theorem wee_in64 {x : I} (h : Wee x) : In64 x := ⟨by have := h.a; omega, by have := h.b; omega, by have := h.c; omega, by have := h.n; omega⟩
theorem slotT_wee {x : I} (h : Wee x) (k : Nat) : (slotT x k).length ≤ 1000 := by
  unfold slotT
  split
  · have := h.s; simpa using this
  · exact Nat.le_trans (Lib.itoa_length_le _ ((wee_in64 h).val k).1 ((wee_in64 h).val k).2) (by omega)
theorem textI_wee {x : I} (h : Wee x) : (textI x).length ≤ 4000 := by
  unfold textI
  split
  · rename_i h1
    obtain ⟨k, hk, he⟩ : ∃ k : Nat, k < 20 ∧ x.op.toNat = k + 1 := by
      have := of_decide_eq_true h1
      exact ⟨(x.op - 1).toNat, by omega, by omega⟩
    rw [he]
    unfold accT
    have h2 := flat_len (fun j => 32 :: slotT x j) 1001 (fun j => by have := slotT_wee h j; simp; omega) (names (k + 1))
    have h3 := word_len (k + 1)
    have h4 : 1001 * (names (k + 1)).length ≤ 1001 * 3 := Nat.mul_le_mul_left _ (names_len k hk).2
    rw [List.length_append]; omega
  · simp
theorem codeT_wee (l : List I) (h : ∀ x ∈ l, Wee x) : (codeT l).length ≤ 4001 * l.length := by
  induction l with
  | nil => simp [codeT]
  | cons x l ih =>
    have h1 := ih (fun y hy => h y (List.mem_cons_of_mem _ hy))
    have h2 := textI_wee (h x List.mem_cons_self)
    unfold codeT at *
    simp only [List.flatMap_cons, List.length_append, List.length_cons, List.length_nil]
    omega

end Go.Proofs.YtgdlkekjbdkjjaaGreatDoor.Code
