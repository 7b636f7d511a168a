/-
  Links that are right: the specification's and the program's.
-/
import Derived.Test.YtdglefedbkgghaaAcA
namespace Go.Proofs.Ytdglefedbkgghaa
open Go.RowKit Atom
set_option linter.unusedVariables false

theorem in_bel (x a b : Int) (w : World) : Calls Try.prog 40 #[.int .i64 x, .int .i64 a, .int .i64 b] w fun e w' => e = .returned (.bool (Atom.inB x a b)) ∧ Below w.heap.size w w' :=
  (Atom.in_any x a b w).mono fun e w' ⟨h1, h2⟩ => ⟨h1, by rw [h2]; exact Below.refl _ _⟩
def pidB (x : Int) : Bool := decide (1 ≤ x ∧ x ≤ 99999)
def lnkOne (f : Nat → Int) (pid : Int) (j : Nat) : Bool := decide (1 ≤ f j ∧ f j ≤ 99999 ∧ f j ≠ pid ∧ (0 < j → f (j - 1) < f j))
def lnkB (f : Nat → Int) (pid : Int) (k : Nat) : Bool := (List.range k).all (lnkOne f pid)
theorem lnkB_succ (f : Nat → Int) (pid : Int) (k : Nat) : lnkB f pid (k + 1) = (lnkB f pid k && lnkOne f pid k) := by
  unfold lnkB
  rw [List.range_succ, List.all_append]; simp
theorem lnkB_no {f : Nat → Int} {pid : Int} {k N : Nat} (h : k < N) (hn : lnkOne f pid k = false) : lnkB f pid N = false := by
  unfold lnkB
  rw [List.all_eq_false]
  exact ⟨k, by simp; exact h, by rw [hn]; simp⟩

end Go.Proofs.Ytdglefedbkgghaa
