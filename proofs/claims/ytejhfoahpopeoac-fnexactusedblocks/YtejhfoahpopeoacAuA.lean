/-
  What both kinds of Audit answer.
-/
import Derived.Test.YtejhfoahpopeoacBsA
namespace Go.Proofs.Ytejhfoahpopeoac
open Go.RowKit
set_option linter.unusedVariables false

/-- The audit from the place p on, behind a free block or not. -/
noncomputable def aud (f : Nat → Int) (N : Nat) (p : Nat) (fr : Bool) : Int :=
  if p < N then (if (blkO f N p).isNone || (fr && !((blkO f N p).elim false (·.2))) then (p : Int) else aud f N (p + (blkO f N p).elim 0 (·.1) + 3) (!((blkO f N p).elim false (·.2)))) else -1
termination_by N - p
theorem aud_end {f : Nat → Int} {N p : Nat} {fr : Bool} (h : ¬ p < N) : aud f N p fr = -1 := by rw [aud, if_neg h]
theorem aud_none {f : Nat → Int} {N p : Nat} {fr : Bool} (hp : p < N) (h : blkO f N p = none) : aud f N p fr = p := by rw [aud, if_pos hp, h]; simp
theorem aud_two {f : Nat → Int} {N p n : Nat} (hp : p < N) (h : blkO f N p = some (n, false)) : aud f N p true = p := by rw [aud, if_pos hp, h]; simp
theorem aud_on {f : Nat → Int} {N p n : Nat} {u fr : Bool} (hp : p < N) (h : blkO f N p = some (n, u)) (hk : (fr && !u) = false) : aud f N p fr = aud f N (p + n + 3) (!u) := by
  rw [aud, if_pos hp, h]
  simp only [Option.isNone_some, Option.elim_some, Bool.false_or, hk, Bool.false_eq_true, if_false]

end Go.Proofs.Ytejhfoahpopeoac
