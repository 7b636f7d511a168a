/-
  The specification's small functions on instructions: letters, registers, numbers.
-/
import Derived.Test.YtfjaphhijefdlaaGreatDoorCoA
import Derived.Test.YtfjaphhijefdlaaGreatDoorArA
import Derived.BigQuiet
namespace Go.Proofs.YtfjaphhijefdlaaGreatDoor.Code
open Go.RowKit
open Go.Proofs.YtfjaphhijefdlaaGreatDoor.Atom
set_option linter.unusedVariables false

theorem getD_at' (s : ByteArray) (k : Nat) (h : k < s.size) : s.data.toList[k]'(by simpa using h) = s[k] := rfl
theorem let_take (s : ByteArray) (ch : Int) (k : Nat) (h : k < s.size) : letB (s.data.toList.take (k + 1)) ch = (letB (s.data.toList.take k) ch || ((s[k].toNat : Int) == ch)) := by
  unfold letB
  have h' : k < s.data.toList.length := by simpa using h
  rw [List.take_succ_eq_append_getElem h', List.any_append]
  simp [getD_at' s k h]
theorem let_hit (s : ByteArray) (ch : Int) (k : Nat) (h : k < s.size) (he : ((s[k].toNat : Int) == ch) = true) : letB s.data.toList ch = true := by
  unfold letB
  rw [List.any_eq_true]
  exact ⟨s[k], by rw [← getD_at' s k h]; exact List.getElem_mem _, he⟩
theorem let_end (s : ByteArray) (ch : Int) : letB (s.data.toList.take s.size) ch = letB s.data.toList ch := by
  rw [show s.size = s.data.toList.length by simp, List.take_length]

theorem letter_any (s : ByteArray) (ch : Int) (w : World) (hs : s.size ≤ maxLen) :
    Calls Tryz.prog 62 #[.string s, .int .u8 ch] w fun e w' => e = .returned (.bool (letB s.data.toList ch)) ∧ w' = w := by
  unfold maxLen at hs
  go_enter Tryz.func62, Tryz.ntmps62
  go_wp2_with fail
  go_loop [5] (fun i => ∃ k : Nat, k ≤ s.size ∧ i = .int .i64 k ∧ letB (s.data.toList.take k) ch = false) (fun i => s.size - (intOf i).toNat)
  case atStart => exact ⟨0, Nat.zero_le _, rfl, by simp [letB]⟩
  case round =>
    obtain ⟨k, hk, rfl, ha⟩ := hrel
    have HA : Hid (letB (s.data.toList.take k) ch = false) := ha
    clear ha
    by_cases hlt : k < s.size
    · cases he : ((s[k].toNat : Int) == ch)
      · have HS : Hid (letB (s.data.toList.take (k + 1)) ch = false) := by
          show _ = _
          rw [let_take s ch k hlt, HA.out, he]; rfl
        go_wp2
        go_round
        case rel => exact ⟨k + 1, by omega, by go_num, HS.out⟩
        case measure => simp [intOf]; omega
      · have HS : Hid (letB s.data.toList ch = true) := let_hit s ch k hlt he
        go_wp2
        go_ret
        exact ⟨ret_bool HS.out.symm, rfl⟩
    · have HS : Hid (letB s.data.toList ch = false) := by
        have h := HA.out
        rw [show k = s.size by omega, let_end] at h; exact h
      go_wp2
      go_ret
      exact ⟨ret_bool HS.out.symm, rfl⟩

theorem reg_any (s : ByteArray) (ch r : Int) (w : World) (hs : s.size ≤ maxLen) :
    Calls Tryz.prog 93 #[.string s, .int .u8 ch, .int .i64 r] w fun e w' => e = .returned (.bool (regB s.data.toList ch r)) ∧ w' = w := by
  cases hl : letB s.data.toList ch
  · have HR : Hid (regB s.data.toList ch r = (r == 0)) := by show _ = _; unfold regB; rw [hl]; rfl
    go_enter Tryz.func93, Tryz.ntmps93
    go_wp2_with (go_at_call 62; refine (letter_any s ch _ hs).mono ?_; rintro e w' ⟨rfl, rfl⟩)
    go_ret
    exact ⟨ret_bool HR.out.symm, rfl⟩
  · have HR : Hid (regB s.data.toList ch r = Atom.inB r 0 7) := by show _ = _; unfold regB; rw [hl]; rfl
    go_enter Tryz.func93, Tryz.ntmps93
    go_wp2_with (first
      | (go_at_call 62; refine (letter_any s ch _ hs).mono ?_; rintro e w' ⟨rfl, rfl⟩)
      | (go_at_call 21; refine (Atom.in_any _ _ _ _).mono ?_; rintro e w' ⟨rfl, rfl⟩))
    go_ret
    exact ⟨ret_bool HR.out.symm, rfl⟩

theorem num_any (op a b c n N : Int) (s : ByteArray) (w : World) :
    Calls Tryz.prog 94 #[.agg #[.int .i64 op, .int .i64 a, .int .i64 b, .int .i64 c, .int .i64 n, .string s], .int .i64 N] w fun e w' => e = .returned (.bool (numB ⟨op, a, b, c, n, s⟩ N)) ∧ Below w.heap.size w w' := by
  by_cases o1 : op = 1
  · subst o1
    have HR : Hid (numB ⟨1, a, b, c, n, s⟩ N = Atom.inB n (-1000000) 1000000) := by show _ = _; simp [numB]
    go_enter Tryz.func94, Tryz.ntmps94
    go_wp2_with (go_at_call 21; refine (Atom.in_any _ _ _ _).mono ?_; rintro e w' ⟨rfl, rfl⟩)
    go_ret
    exact ⟨ret_bool HR.out.symm, (Below.refl _ w).alloc (Nat.le_refl _) _⟩
  by_cases o4 : op = 4
  · subst o4
    cases h8 : Atom.inB n 0 8
    · have HR : Hid (numB ⟨4, a, b, c, n, s⟩ N = false) := by show _ = _; simp [numB, h8]
      go_enter Tryz.func94, Tryz.ntmps94
      go_wp2_with (go_at_call 21; refine (Atom.in_any _ _ _ _).mono ?_; rintro e w' ⟨rfl, rfl⟩)
      go_ret
      exact ⟨ret_bool HR.out.symm, (Below.refl _ w).alloc (Nat.le_refl _) _⟩
    · have HR : Hid (numB ⟨4, a, b, c, n, s⟩ N = decide (wrap64 (b + n) ≤ 8)) := by show _ = _; simp [numB, h8]
      go_enter Tryz.func94, Tryz.ntmps94
      go_wp2_with (go_at_call 21; refine (Atom.in_any _ _ _ _).mono ?_; rintro e w' ⟨rfl, rfl⟩)
      go_ret
      exact ⟨ret_bool HR.out.symm, (Below.refl _ w).alloc (Nat.le_refl _) _⟩
  by_cases o6 : op = 6
  · subst o6
    have HR : Hid (numB ⟨6, a, b, c, n, s⟩ N = Atom.inB n 0 7) := by show _ = _; simp [numB]
    go_enter Tryz.func94, Tryz.ntmps94
    go_wp2_with (go_at_call 21; refine (Atom.in_any _ _ _ _).mono ?_; rintro e w' ⟨rfl, rfl⟩)
    go_ret
    exact ⟨ret_bool HR.out.symm, (Below.refl _ w).alloc (Nat.le_refl _) _⟩
  by_cases oP : op = 10 ∨ op = 11 ∨ op = 12 ∨ op = 16
  · have HR : Hid (numB ⟨op, a, b, c, n, s⟩ N = decide (0 ≤ n ∧ n < N)) := by show _ = _; unfold numB; simp only [if_neg o1, if_neg o4, if_neg o6, if_pos oP]
    by_cases hn : 0 ≤ n
    · rcases oP with rfl | rfl | rfl | rfl <;>
      · go_enter Tryz.func94, Tryz.ntmps94
        go_wp2
        go_ret
        exact ⟨ret_bool (by rw [HR.out]; simp; omega), (Below.refl _ w).alloc (Nat.le_refl _) _⟩
    · rcases oP with rfl | rfl | rfl | rfl <;>
      · go_enter Tryz.func94, Tryz.ntmps94
        go_wp2
        go_ret
        exact ⟨ret_bool (by rw [HR.out]; simp; omega), (Below.refl _ w).alloc (Nat.le_refl _) _⟩
  · have HR : Hid (numB ⟨op, a, b, c, n, s⟩ N = (n == 0)) := by show _ = _; unfold numB; simp only [if_neg o1, if_neg o4, if_neg o6, if_neg oP]
    have o10 : ¬ op = 10 := fun h => oP (.inl h)
    have o11 : ¬ op = 11 := fun h => oP (.inr (.inl h))
    have o12 : ¬ op = 12 := fun h => oP (.inr (.inr (.inl h)))
    have o16 : ¬ op = 16 := fun h => oP (.inr (.inr (.inr h)))
    clear oP
    go_enter Tryz.func94, Tryz.ntmps94
    go_wp2
    go_ret
    exact ⟨ret_bool HR.out.symm, (Below.refl _ w).alloc (Nat.le_refl _) _⟩
end Go.Proofs.YtfjaphhijefdlaaGreatDoor.Code
