/-
  Guards and poison: what both kinds of Guard, Rear and Poison answer.
-/
import Derived.Test.YtdglefedbkgghaaRows
import Derived.WalkKit
import Derived.ProofKit
import Derived.Outline
import Derived.Below
namespace Go.Proofs.Ytdglefedbkgghaa
open Go.RowKit
set_option linter.unusedVariables false

def inA (x : Int) : Bool := decide (0 ≤ x ∧ x ≤ 4000)
def useOf (u : Bool) : Int := if u then 2 else 1
/-- A guard word: more is 1000 ahead and 1001 behind. -/
def gw (a n : Int) (u : Bool) (more : Int) : Int := if inA a && inA n then ((a * 7919 + n * 104729 + useOf u) * 3 + more) % 1000003 else 0
def pois (a : Int) : Int := if inA a then (a * 31 + 7777) % 1000003 else 0

theorem ret_bool {a b : Bool} (h : a = b) : Ending.returned (.bool a) = .returned (.bool b) := by rw [h]
theorem ret_int {k : IntKind} {a b : Int} (h : a = b) : Ending.returned (.int k a) = .returned (.int k b) := by rw [h]

def inB (x a b : Int) : Bool := decide (a ≤ x ∧ x ≤ b)
theorem in_any (x a b : Int) (w : World) :
    Calls Try.prog 40 #[.int .i64 x, .int .i64 a, .int .i64 b] w fun e w' => e = .returned (.bool (inB x a b)) ∧ w' = w := by
  by_cases h1 : a ≤ x
  · go_enter Try.func40, Try.ntmps40
    go_wp2
    go_ret
    exact ⟨by simp [inB, h1], rfl⟩
  · go_enter Try.func40, Try.ntmps40
    go_wp2
    go_ret
    exact ⟨by simp [inB]; omega, rfl⟩

theorem l2In_any (x : Int) (w : World) :
    Calls Try.prog 39 #[.int .i64 x] w fun e w' => e = .returned (.bool (inA x)) ∧ w' = w := by
  go_enter Try.func39, Try.ntmps39
  go_wp2_with (go_at_call 40; refine (in_any _ _ _ _).mono ?_; rintro e w' ⟨rfl, rfl⟩)
  go_ret
  exact ⟨rfl, rfl⟩

theorem inArena_any (x : Int) (w : World) :
    Calls Try.prog 70 #[.int .i64 x] w fun e w' => e = .returned (.bool (inA x)) ∧ w' = w := by
  by_cases h1 : 0 ≤ x
  · go_enter Try.func70, Try.ntmps70
    go_wp2
    go_ret
    exact ⟨by simp [inA, h1], rfl⟩
  · go_enter Try.func70, Try.ntmps70
    go_wp2
    go_ret
    exact ⟨by simp [inA]; omega, rfl⟩

theorem inA_true {x : Int} (h : inA x = true) : 0 ≤ x ∧ x ≤ 4000 := by simpa [inA] using h

theorem mix_any (a n : Int) (u : Bool) (ha : 0 ≤ a ∧ a ≤ 4000) (hn : 0 ≤ n ∧ n ≤ 4000) (w : World) :
    Calls Try.prog 59 #[.int .i64 a, .int .i64 n, .bool u] w fun e w' => e = .returned (.int .i64 ((a * 7919 + n * 104729 + useOf u) * 3)) ∧ w' = w := by
  cases u
  · go_enter Try.func59, Try.ntmps59
    go_wp2
    go_ret
    exact ⟨ret_int (by simp [useOf]), rfl⟩
  · go_enter Try.func59, Try.ntmps59
    go_wp2
    go_ret
    exact ⟨ret_int (by simp [useOf]), rfl⟩

theorem specGuard_any (a n : Int) (u : Bool) (w : World) :
    Calls Try.prog 41 #[.int .i64 a, .int .i64 n, .bool u] w fun e w' => e = .returned (.int .i64 (gw a n u 1000)) ∧ w' = w := by
  have hu : 1 ≤ useOf u ∧ useOf u ≤ 2 := by cases u <;> simp [useOf]
  have HG : Hid (gw a n u 1000 = if inA a && inA n then ((a * 7919 + n * 104729 + useOf u) * 3 + 1000) % 1000003 else 0) := by show _ = _; rfl
  have ht : inA a = true → 0 ≤ a ∧ a ≤ 4000 := inA_true
  have hs : inA n = true → 0 ≤ n ∧ n ≤ 4000 := inA_true
  cases h1 : inA a
  · go_enter Try.func41, Try.ntmps41
    go_wp2_with (go_at_call 39; refine (l2In_any _ _).mono ?_; rintro e w' ⟨rfl, rfl⟩)
    go_ret
    exact ⟨ret_int (by rw [HG.out, h1]; rfl), rfl⟩
  · cases h2 : inA n
    · go_enter Try.func41, Try.ntmps41
      go_wp2_with (go_at_call 39; refine (l2In_any _ _).mono ?_; rintro e w' ⟨rfl, rfl⟩)
      go_ret
      exact ⟨ret_int (by rw [HG.out, h1, h2]; rfl), rfl⟩
    · have hra := ht h1
      have hrn := hs h2
      have HM : Hid (∀ w, Calls Try.prog 59 #[.int .i64 a, .int .i64 n, .bool u] w fun e w' => e = .returned (.int .i64 ((a * 7919 + n * 104729 + useOf u) * 3)) ∧ w' = w) := fun w => mix_any a n u hra hrn w
      generalize useOf u = z at *
      go_enter Try.func41, Try.ntmps41
      go_wp2_with (first | (go_at_call 39; refine (l2In_any _ _).mono ?_; rintro e w' ⟨rfl, rfl⟩) | (go_at_call 59; refine (HM.out _).mono ?_; rintro e w' ⟨rfl, rfl⟩))
      go_ret
      exact ⟨ret_int (by rw [HG.out, h1, h2]; simp), rfl⟩

theorem specRear_any (a n : Int) (u : Bool) (w : World) :
    Calls Try.prog 42 #[.int .i64 a, .int .i64 n, .bool u] w fun e w' => e = .returned (.int .i64 (gw a n u 1001)) ∧ w' = w := by
  have hu : 1 ≤ useOf u ∧ useOf u ≤ 2 := by cases u <;> simp [useOf]
  have HG : Hid (gw a n u 1001 = if inA a && inA n then ((a * 7919 + n * 104729 + useOf u) * 3 + 1001) % 1000003 else 0) := by show _ = _; rfl
  have ht : inA a = true → 0 ≤ a ∧ a ≤ 4000 := inA_true
  have hs : inA n = true → 0 ≤ n ∧ n ≤ 4000 := inA_true
  cases h1 : inA a
  · go_enter Try.func42, Try.ntmps42
    go_wp2_with (go_at_call 39; refine (l2In_any _ _).mono ?_; rintro e w' ⟨rfl, rfl⟩)
    go_ret
    exact ⟨ret_int (by rw [HG.out, h1]; rfl), rfl⟩
  · cases h2 : inA n
    · go_enter Try.func42, Try.ntmps42
      go_wp2_with (go_at_call 39; refine (l2In_any _ _).mono ?_; rintro e w' ⟨rfl, rfl⟩)
      go_ret
      exact ⟨ret_int (by rw [HG.out, h1, h2]; rfl), rfl⟩
    · have hra := ht h1
      have hrn := hs h2
      have HM : Hid (∀ w, Calls Try.prog 59 #[.int .i64 a, .int .i64 n, .bool u] w fun e w' => e = .returned (.int .i64 ((a * 7919 + n * 104729 + useOf u) * 3)) ∧ w' = w) := fun w => mix_any a n u hra hrn w
      generalize useOf u = z at *
      go_enter Try.func42, Try.ntmps42
      go_wp2_with (first | (go_at_call 39; refine (l2In_any _ _).mono ?_; rintro e w' ⟨rfl, rfl⟩) | (go_at_call 59; refine (HM.out _).mono ?_; rintro e w' ⟨rfl, rfl⟩))
      go_ret
      exact ⟨ret_int (by rw [HG.out, h1, h2]; simp), rfl⟩

theorem guardWord_any (a n : Int) (u : Bool) (more : Int) (hm : 0 ≤ more ∧ more ≤ 2000) (w : World) :
    Calls Try.prog 86 #[.int .i64 a, .int .i64 n, .bool u, .int .i64 more] w fun e w' => e = .returned (.int .i64 (gw a n u more)) ∧ w' = w := by
  have HG : Hid (gw a n u more = if inA a && inA n then ((a * 7919 + n * 104729 + useOf u) * 3 + more) % 1000003 else 0) := by show _ = _; rfl
  have ht : inA a = true → 0 ≤ a ∧ a ≤ 4000 := inA_true
  have hs : inA n = true → 0 ≤ n ∧ n ≤ 4000 := inA_true
  cases h1 : inA a
  · go_enter Try.func86, Try.ntmps86
    go_wp2_with (go_at_call 70; refine (inArena_any _ _).mono ?_; rintro e w' ⟨rfl, rfl⟩)
    go_ret
    exact ⟨ret_int (by rw [HG.out, h1]; rfl), rfl⟩
  · cases h2 : inA n
    · go_enter Try.func86, Try.ntmps86
      go_wp2_with (go_at_call 70; refine (inArena_any _ _).mono ?_; rintro e w' ⟨rfl, rfl⟩)
      go_ret
      exact ⟨ret_int (by rw [HG.out, h1, h2]; rfl), rfl⟩
    · have hra := ht h1
      have hrn := hs h2
      cases u
      · go_enter Try.func86, Try.ntmps86
        go_wp2_with (go_at_call 70; refine (inArena_any _ _).mono ?_; rintro e w' ⟨rfl, rfl⟩)
        go_ret
        exact ⟨ret_int (by rw [HG.out, h1, h2]; simp [useOf]), rfl⟩
      · go_enter Try.func86, Try.ntmps86
        go_wp2_with (go_at_call 70; refine (inArena_any _ _).mono ?_; rintro e w' ⟨rfl, rfl⟩)
        go_ret
        exact ⟨ret_int (by rw [HG.out, h1, h2]; simp [useOf]), rfl⟩

theorem implGuard_any (a n : Int) (u : Bool) (w : World) :
    Calls Try.prog 71 #[.int .i64 a, .int .i64 n, .bool u] w fun e w' => e = .returned (.int .i64 (gw a n u 1000)) ∧ w' = w := by
  go_enter Try.func71, Try.ntmps71
  go_wp2_with (go_at_call 86; refine (guardWord_any _ _ _ _ ⟨by decide, by decide⟩ _).mono ?_; rintro e w' ⟨rfl, rfl⟩)
  go_ret
  exact ⟨rfl, rfl⟩
theorem implRear_any (a n : Int) (u : Bool) (w : World) :
    Calls Try.prog 72 #[.int .i64 a, .int .i64 n, .bool u] w fun e w' => e = .returned (.int .i64 (gw a n u 1001)) ∧ w' = w := by
  go_enter Try.func72, Try.ntmps72
  go_wp2_with (go_at_call 86; refine (guardWord_any _ _ _ _ ⟨by decide, by decide⟩ _).mono ?_; rintro e w' ⟨rfl, rfl⟩)
  go_ret
  exact ⟨rfl, rfl⟩

theorem implPois_any (a : Int) (w : World) :
    Calls Try.prog 73 #[.int .i64 a] w fun e w' => e = .returned (.int .i64 (pois a)) ∧ w' = w := by
  have HG : Hid (pois a = if inA a then (a * 31 + 7777) % 1000003 else 0) := by show _ = _; rfl
  have ht : inA a = true → 0 ≤ a ∧ a ≤ 4000 := inA_true
  cases h1 : inA a
  · go_enter Try.func73, Try.ntmps73
    go_wp2_with (go_at_call 70; refine (inArena_any _ _).mono ?_; rintro e w' ⟨rfl, rfl⟩)
    go_ret
    exact ⟨ret_int (by rw [HG.out, h1]; rfl), rfl⟩
  · have hra := ht h1
    go_enter Try.func73, Try.ntmps73
    go_wp2_with (go_at_call 70; refine (inArena_any _ _).mono ?_; rintro e w' ⟨rfl, rfl⟩)
    go_ret
    exact ⟨ret_int (by rw [HG.out, h1]; simp), rfl⟩
theorem specPois_any (a : Int) (w : World) :
    Calls Try.prog 43 #[.int .i64 a] w fun e w' => e = .returned (.int .i64 (pois a)) ∧ w' = w := by
  have HG : Hid (pois a = if inA a then (a * 31 + 7777) % 1000003 else 0) := by show _ = _; rfl
  have ht : inA a = true → 0 ≤ a ∧ a ≤ 4000 := inA_true
  cases h1 : inA a
  · go_enter Try.func43, Try.ntmps43
    go_wp2_with (go_at_call 39; refine (l2In_any _ _).mono ?_; rintro e w' ⟨rfl, rfl⟩)
    go_ret
    exact ⟨ret_int (by rw [HG.out, h1]; rfl), rfl⟩
  · have hra := ht h1
    go_enter Try.func43, Try.ntmps43
    go_wp2_with (go_at_call 39; refine (l2In_any _ _).mono ?_; rintro e w' ⟨rfl, rfl⟩)
    go_ret
    exact ⟨ret_int (by rw [HG.out, h1]; simp), rfl⟩
end Go.Proofs.Ytdglefedbkgghaa
