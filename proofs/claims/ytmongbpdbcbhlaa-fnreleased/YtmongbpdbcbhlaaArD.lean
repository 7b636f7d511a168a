/-
  The program's new arena is the specification's; how the law compares, marks and holds a row of numbers.
-/
import Derived.Test.YtmongbpdbcbhlaaArC
namespace Go.Proofs.Ytmongbpdbcbhlaa
open Go.RowKit
set_option linter.unusedVariables false

theorem free_fresh (n : Nat) (h4 : 4 ≤ n) (j : Nat) (hj : j < n) : freeK (fun _ => 0) n 0 (n - 3) j = freshF n j := by
  unfold freeK freshF layF upd midF setF
  dsimp only
  by_cases h1 : j = n - 1
  · have a1 : ¬ (2 ≤ j ∧ j < n - 3 + 2) := by omega
    have a2 : ¬ j = 0 := by omega
    have a3 : ¬ j = 1 := by omega
    have a4 : j = 0 + 2 + (n - 3) := by omega
    rw [if_neg a1, if_neg a2, if_neg a3, if_pos h1, if_pos a4]
  · have a4 : ¬ j = 0 + 2 + (n - 3) := by omega
    rw [if_neg a4]
    by_cases h0 : j = 0
    · have a1 : ¬ (2 ≤ j ∧ j < n - 3 + 2) := by omega
      rw [if_neg a1, if_pos h0, if_pos h0]
    · rw [if_neg h0, if_neg h0]
      by_cases h2 : j = 1
      · have a1 : ¬ (2 ≤ j ∧ j < n - 3 + 2) := by omega
        have a5 : j = 0 + 1 := by omega
        rw [if_neg a1, if_pos h2, if_pos a5]
      · have a1 : 2 ≤ j ∧ j < n - 3 + 2 := by omega
        have a5 : ¬ j = 0 + 1 := by omega
        have a6 : 0 + 2 ≤ j ∧ j < 0 + 2 + (n - 3) := by omega
        rw [if_pos a1, if_neg a5, if_pos a6, Nat.zero_add]
        simp

theorem specNew_none (x : Int) (hx : ¬ (4 ≤ x ∧ x ≤ 4000)) (w : World) :
    Calls Try.prog 42 #[.int .i64 x] w fun e w' => e = .returned (.agg #[.slice none 0 0]) ∧ Below w.heap.size w w' := by
  have hin : inB x 4 4000 = false := by simp [inB]; omega
  go_enter Try.func42, Try.ntmps42
  go_wp2_with (go_at_call 55; refine (in_any _ _ _ _).mono ?_; rintro e w' ⟨rfl, rfl⟩)
  exact bodyPost_ret (v := .agg #[.slice none 0 0]) (by simp [results, Try.results42, go_sem]) rfl ⟨rfl, (Below.refl _ _).alloc (Nat.le_refl _) _⟩
/-- N numbers that are read only. -/
def Rd (w : World) (ao : Option Addr) (N : Nat) (f : Nat → Int) : Prop :=
  N ≠ 0 → ∃ b o, ao = some ⟨b, o, none⟩ ∧ ∀ j, j < N → w.cell? ⟨b, o + j, none⟩ = some (.int .i64 (f j))
theorem Ints.rd {w : World} {b o N : Nat} {f : Nat → Int} (h : Ints w b o N f) : Rd w (some ⟨b, o, none⟩) N f := fun _ => ⟨b, o, rfl, h.cell⟩
theorem Rd.nil (w : World) (f : Nat → Int) (ao : Option Addr) : Rd w ao 0 f := fun h => absurd rfl h
theorem Rd.below {w w' : World} {ao : Option Addr} {N : Nat} {f : Nat → Int} (h : Rd w ao N f) (hb : Below w.heap.size w w') : Rd w' ao N f := fun hn => by
  obtain ⟨b, o, e, hc⟩ := h hn
  exact ⟨b, o, e, fun j hj => by rw [hb.cell (p := ⟨b, o + j, none⟩) (World.block_lt_of_cell? w _ (hc j hj))]; exact hc j hj⟩

end Go.Proofs.Ytmongbpdbcbhlaa
