/-
  What the specification's l2Copy, l3Holds and WriteWord answer at an arena of any length.
-/
import Derived.Test.YtejhfoahpopeoaaAnA
import Derived.Test.YtejhfoahpopeoaaExB
import Derived.Deep.Upon
namespace Go.Proofs.Ytejhfoahpopeoaa
open Go.RowKit
set_option linter.unusedVariables false

/-- An i-th word of a used block. -/
def hol : Option (Nat × Bool) → Int → Bool
  | some (n, true), i => inB i 0 ((n : Int) - 1)
  | _, _ => false

set_option maxHeartbeats 1000000 in
theorem holds_any (ao : Option Addr) (N cap : Nat) (f : Nat → Int) (x i : Int) (w : World) (hr : Rd w ao N f) (hN : N ≤ 1048576) :
    Calls Try.prog 59 #[.agg #[.slice ao N cap], .int .i64 x, .int .i64 i] w fun e w' => e = .returned (.bool (hol (blkI f N x) i)) ∧ Below w.heap.size w w' := by
  have hbA := (Below.refl w.heap.size w).alloc (Nat.le_refl _) (.cells #[.slice ao N cap] 26)
  have HR : Hid (Rd w ao N f) := hr
  clear hr
  obtain ⟨y, hy⟩ : ∃ y, blkI f N x = y := ⟨_, rfl⟩
  have HN : Hid (∀ n u, y = some (n, u) → n ≤ 4000) := fun n u e => by
    rw [← hy] at e
    unfold blkI at e
    split at e
    · cases e
    · exact (blkO_of e).hn
  have HY : Hid (blkI f N x = y) := hy
  go_enter Try.func59, Try.ntmps59
  go_wp2_with fail
  refine (specAt_int ao N cap f x _ (HR.out.below hbA) hN).mono ?_
  rintro e w1 ⟨rfl, hb1⟩
  rw [hy]
  have HB1 : Hid (Below w.heap.size w w1) := below_join hbA hb1
  clear hbA hb1 hy
  cases y with
  | none =>
    dsimp only [bv]
    go_wp2_with fail
    refine bodyPost_ret (v := .bool false) (by simp [results, Try.results59, go_sem]) rfl ⟨?_, HB1.out⟩
    rw [HY.out]; rfl
  | some z =>
    obtain ⟨n, u⟩ := z
    cases u with
    | false =>
      dsimp only [bv]
      go_wp2_with fail
      refine bodyPost_ret (v := .bool false) (by simp [results, Try.results59, go_sem]) rfl ⟨?_, HB1.out⟩
      rw [HY.out]; rfl
    | true =>
      have hn := HN.out n true rfl
      have V1 : IntKind.i64.wrap ((n : Int) - 1) = (n : Int) - 1 := by rw [IntKind.wrap_i64]; omega
      clear hn
      dsimp only [bv]
      go_wp2_with (go_at_call 51; refine (in_any _ _ _ _).mono ?_; rintro e w' ⟨rfl, rfl⟩)
      refine bodyPost_ret (v := .bool (inB i 0 ((n : Int) - 1))) (by simp [results, Try.results59, go_sem]) rfl ⟨?_, HB1.out⟩
      rw [HY.out]; rfl
end Go.Proofs.Ytejhfoahpopeoaa
