/-
  The program's guards of a block, and how a free block is made.
-/
import Derived.Test.YthdoamdjhpkimaaArB
import Derived.RegionTactic
import Derived.ChangeAlike
namespace Go.Proofs.Ythdoamdjhpkimaa
open Go.RowKit
set_option linter.unusedVariables false

theorem Turn.drew' {cb : Nat} {a w : World} (h : Turn cb a w) : Turn cb a w.drew := ⟨h.os, h.tape, h.output, h.size, h.block⟩
theorem Ints.drew' {w : World} {b o N : Nat} {f : Nat → Int} (h : Ints w b o N f) : Ints w.drew b o N f := ⟨h.cell, h.free⟩

/-- The guards about a row of N words that stands at the place p. -/
def setF (f : Nat → Int) (N : Nat) (p : Int) (u : Bool) : Nat → Int := fun j =>
  if j = 0 then gw p (N - 3 : Nat) u 1000 else if j = 1 then (N - 3 : Nat) else if j = N - 1 then gw p (N - 3 : Nat) u 1001 else f j

/-- The holder's words ahead of m + 2 are poison. -/
def freeK (f : Nat → Int) (N p m : Nat) : Nat → Int := fun j => if 2 ≤ j ∧ j < m + 2 then pois (p + j : Nat) else setF f N p false j
theorem freeK_step (f : Nat → Int) (N p m : Nat) : ∀ j, upd (freeK f N p m) (m + 2) (pois (p + (m + 2) : Nat)) j = freeK f N p (m + 1) j := by
  intro j
  unfold freeK upd
  dsimp only
  by_cases h1 : j = m + 2
  · subst h1
    rw [if_pos rfl, if_pos (by omega)]
  · rw [if_neg h1]
    by_cases h2 : 2 ≤ j ∧ j < m + 2
    · rw [if_pos h2, if_pos (by omega)]
    · rw [if_neg h2, if_neg (by omega)]

end Go.Proofs.Ythdoamdjhpkimaa
