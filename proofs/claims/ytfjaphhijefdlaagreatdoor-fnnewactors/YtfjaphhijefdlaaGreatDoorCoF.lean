/-
  The program's slots: where what is named stands, its bounds, whether it is right; how it is blanked.
-/
import Derived.Test.YtfjaphhijefdlaaGreatDoorCoE
namespace Go.Proofs.YtfjaphhijefdlaaGreatDoor.Code
open Go.RowKit
open Go.Proofs.YtfjaphhijefdlaaGreatDoor.Atom
set_option linter.unusedVariables false

/-- The place of what stands at a slot, among an instruction's six. -/
def fld : Nat → Nat
  | 1 => 1 | 2 => 2 | 3 => 3 | 4 => 2 | _ => 4
theorem below10 {j : Nat} (h : 1 ≤ j) (h9 : j ≤ 9) : j = 1 ∨ j = 2 ∨ j = 3 ∨ j = 4 ∨ j = 5 ∨ j = 6 ∨ j = 7 ∨ j = 8 ∨ j = 9 := by omega

theorem number_any (k : Nat) (h1 : 1 ≤ k) (h9 : k ≤ 9) (b o : Nat) (w : World) :
    Calls Tryz.prog 99 #[.int .i64 (k : Int), .pointer (some ⟨b, o, none⟩)] w fun e w' => e = .returned (.pointer (some ⟨b, o + fld k, none⟩)) ∧ w' = w := by
  rcases below10 h1 h9 with rfl | rfl | rfl | rfl | rfl | rfl | rfl | rfl | rfl <;>
  · go_enter Tryz.func99, Tryz.ntmps99
    go_wp2
    go_ret
    exact ⟨rfl, rfl⟩

/-- The least and the most that may stand at a slot. -/
def lowS : Nat → Int
  | 4 => 1 | 5 => -1000000 | _ => 0
def highS (b N : Int) : Nat → Int
  | 4 => 6 | 5 => 1000000 | 6 => min 8 (wrap64 (8 - b)) | 8 => wrap64 (N - 1) | _ => 7

theorem bounds_any (k : Nat) (h1 : 1 ≤ k) (h9 : k ≤ 9) (op a b c n N : Int) (s : ByteArray) (w : World) :
    Calls Tryz.prog 98 #[.int .i64 (k : Int), .agg #[.int .i64 op, .int .i64 a, .int .i64 b, .int .i64 c, .int .i64 n, .string s], .int .i64 N] w fun e w' => e = .returned (.tuple #[.int .i64 (lowS k), .int .i64 (highS b N k)]) ∧ Below w.heap.size w w' := by
  have hbn := (Below.refl w.heap.size w).alloc (Nat.le_refl _) (.cells #[.int .i64 op, .int .i64 a, .int .i64 b, .int .i64 c, .int .i64 n, .string s] 77)
  by_cases h6 : k = 6
  · subst h6
    by_cases hm : wrap64 (8 - b) < 8
    · have HH : Hid (highS b N 6 = wrap64 (8 - b)) := by show min 8 (wrap64 (8 - b)) = _; omega
      go_enter Tryz.func98, Tryz.ntmps98
      go_wp2
      go_quiet (fail)
      all_goals go_wp2
      all_goals go_ret2
      all_goals exact ⟨by rw [HH.out]; first | rfl | omega, below_drewN hbn _⟩
    · have HH : Hid (highS b N 6 = 8) := by show min 8 (wrap64 (8 - b)) = _; omega
      go_enter Tryz.func98, Tryz.ntmps98
      go_wp2
      go_quiet (fail)
      all_goals go_wp2
      all_goals go_ret2
      all_goals exact ⟨by rw [HH.out]; first | rfl | omega, below_drewN hbn _⟩
  · rcases below10 h1 h9 with rfl | rfl | rfl | rfl | rfl | rfl | rfl | rfl | rfl
    case inr.inr.inr.inr.inr.inl => exact absurd rfl h6
    all_goals
      go_enter Tryz.func98, Tryz.ntmps98
      go_wp2
      go_ret2
      exact ⟨rfl, hbn⟩
end Go.Proofs.YtfjaphhijefdlaaGreatDoor.Code
