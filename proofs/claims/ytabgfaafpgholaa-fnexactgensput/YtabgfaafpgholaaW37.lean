/-
  Two terms held against each other, without what stands within: forms, and cmp.Compare.
-/
import Derived.Test.YtabgfaafpgholaaW8
import Derived.Test.YtabgfaafpgholaaW36
namespace Go.Proofs.Ytabgfaafpgholaa
open Go.RowKit
set_option linter.unusedVariables false

/-- The form of a term, as the program sees it. -/
def frm (k n : Int) (s : ByteArray) (x : Value) : Value :=
  if k = 1 then .iface 149 (.int .i64 n) else if k = 2 then .iface 150 (.string s) else if k = 3 then .iface 151 (.int .i64 n)
  else if k = 4 then .iface 137 x else if k = 5 then .iface 139 x else if k = 6 then .iface 140 (.string s) else .iface 152 (.int .i64 k)
theorem frm_1 (n : Int) (s : ByteArray) (x : Value) : frm 1 n s x = .iface 149 (.int .i64 n) := rfl
theorem frm_2 (n : Int) (s : ByteArray) (x : Value) : frm 2 n s x = .iface 150 (.string s) := rfl
theorem frm_3 (n : Int) (s : ByteArray) (x : Value) : frm 3 n s x = .iface 151 (.int .i64 n) := rfl
theorem frm_4 (n : Int) (s : ByteArray) (x : Value) : frm 4 n s x = .iface 137 x := rfl
theorem frm_5 (n : Int) (s : ByteArray) (x : Value) : frm 5 n s x = .iface 139 x := rfl
theorem frm_6 (n : Int) (s : ByteArray) (x : Value) : frm 6 n s x = .iface 140 (.string s) := rfl
theorem frm_no {k : Int} (n : Int) (s : ByteArray) (x : Value) (h : ¬ (1 ≤ k ∧ k ≤ 6)) : frm k n s x = .iface 152 (.int .i64 k) := by
  unfold frm
  rw [if_neg (by omega), if_neg (by omega), if_neg (by omega), if_neg (by omega), if_neg (by omega), if_neg (by omega)]

theorem kinds {k : Int} (h : 1 ≤ k ∧ k ≤ 6) : k = 1 ∨ k = 2 ∨ k = 3 ∨ k = 4 ∨ k = 5 ∨ k = 6 := by omega

set_option maxHeartbeats 1000000 in
theorem formOf_any (k n : Int) (s : ByteArray) (ao : Option Addr) (len cap : Nat) (w : World) :
    Calls Try.prog 83 #[.agg #[.int .i64 k, .int .i64 n, .string s, .slice ao len cap]] w fun e w' => e = .returned (frm k n s (.slice ao len cap)) ∧ Below w.heap.size w w' := by
  by_cases hk : 1 ≤ k ∧ k ≤ 6
  · rcases kinds hk with rfl | rfl | rfl | rfl | rfl | rfl
    all_goals
      go_enter Try.func83, Try.ntmps83
      go_wp2_with fail
      go_ret
      exact ⟨rfl, (Below.refl _ _).alloc (Nat.le_refl _) _⟩
  · have e1 : (k == 1) = false := beq_eq_false_iff_ne.2 (by omega)
    have e2 : (k == 2) = false := beq_eq_false_iff_ne.2 (by omega)
    have e3 : (k == 3) = false := beq_eq_false_iff_ne.2 (by omega)
    have e4 : (k == 4) = false := beq_eq_false_iff_ne.2 (by omega)
    have e5 : (k == 5) = false := beq_eq_false_iff_ne.2 (by omega)
    have e6 : (k == 6) = false := beq_eq_false_iff_ne.2 (by omega)
    have HF : Hid (frm k n s (.slice ao len cap) = .iface 152 (.int .i64 k)) := frm_no n s _ hk
    go_enter Try.func83, Try.ntmps83
    go_wp2_with fail
    go_ret
    exact ⟨by rw [HF.out]; rfl, (Below.refl _ _).alloc (Nat.le_refl _) _⟩

/-- What stands within, of a kind that has it. -/
def inn (k : Int) (x : Value) : Value := if k = 4 ∨ k = 5 then x else .slice none 0 0

theorem gtr_string (t : TypeId) (a b : ByteArray) : binOp .gtr t (.string a) (.string b) = pure (.bool !(Op.bytesLess a.toList b.toList || a.toList == b.toList)) := by simp [binOp, Op.stringOp]
theorem gtr_bytes (a b : ByteArray) (h : Op.bytesLess a.toList b.toList = false) : (!(Op.bytesLess a.toList b.toList || a.toList == b.toList)) = Op.bytesLess b.toList a.toList := by
  rw [h, Bool.false_or]
  cases h2 : Op.bytesLess b.toList a.toList
  · rw [bl_tot _ _ h h2]; simp
  · have : a.toList ≠ b.toList := fun e => by rw [e, bl_irr] at h2; cases h2
    simp [this]
theorem cmpInt_any (x y : Int) (w : World) :
    Calls Try.prog 82 #[.int .i64 x, .int .i64 y] w fun e w' => e = .returned (.int .i64 (cmpI x y)) ∧ w' = w := by
  by_cases h1 : x < y
  · have HC : Hid (cmpI x y = -1) := if_pos h1
    go_enter Try.func82, Try.ntmps82
    go_wp2_with (go_at_call 109; go_in)
    go_ret
    exact ⟨by rw [HC.out]; rfl, rfl⟩
  · by_cases h2 : y < x
    · have HC : Hid (cmpI x y = 1) := (if_neg h1).trans (if_pos h2)
      go_enter Try.func82, Try.ntmps82
      go_wp2_with (go_at_call 109; go_in)
      go_ret
      exact ⟨by rw [HC.out]; rfl, rfl⟩
    · have HC : Hid (cmpI x y = 0) := (if_neg h1).trans (if_neg h2)
      go_enter Try.func82, Try.ntmps82
      go_wp2_with (go_at_call 109; go_in)
      go_ret
      exact ⟨by rw [HC.out]; rfl, rfl⟩
theorem cmp_intForm (x y : Int) (w : World) :
    Calls Try.prog 110 #[.int .i64 x, .int .i64 y] w fun e w' => e = .returned (.int .i64 (cmpI x y)) ∧ w' = w := by
  by_cases h1 : x < y
  · have HC : Hid (cmpI x y = -1) := if_pos h1
    go_enter Try.func110, Try.ntmps110
    go_wp2_with (go_at_call 127; go_in)
    go_ret
    exact ⟨by rw [HC.out]; rfl, rfl⟩
  · by_cases h2 : y < x
    · have HC : Hid (cmpI x y = 1) := (if_neg h1).trans (if_pos h2)
      go_enter Try.func110, Try.ntmps110
      go_wp2_with (go_at_call 127; go_in)
      go_ret
      exact ⟨by rw [HC.out]; rfl, rfl⟩
    · have HC : Hid (cmpI x y = 0) := (if_neg h1).trans (if_neg h2)
      go_enter Try.func110, Try.ntmps110
      go_wp2_with (go_at_call 127; go_in)
      go_ret
      exact ⟨by rw [HC.out]; rfl, rfl⟩
theorem cmp_pidForm (x y : Int) (w : World) :
    Calls Try.prog 112 #[.int .i64 x, .int .i64 y] w fun e w' => e = .returned (.int .i64 (cmpI x y)) ∧ w' = w := by
  by_cases h1 : x < y
  · have HC : Hid (cmpI x y = -1) := if_pos h1
    go_enter Try.func112, Try.ntmps112
    go_wp2_with (go_at_call 129; go_in)
    go_ret
    exact ⟨by rw [HC.out]; rfl, rfl⟩
  · by_cases h2 : y < x
    · have HC : Hid (cmpI x y = 1) := (if_neg h1).trans (if_pos h2)
      go_enter Try.func112, Try.ntmps112
      go_wp2_with (go_at_call 129; go_in)
      go_ret
      exact ⟨by rw [HC.out]; rfl, rfl⟩
    · have HC : Hid (cmpI x y = 0) := (if_neg h1).trans (if_neg h2)
      go_enter Try.func112, Try.ntmps112
      go_wp2_with (go_at_call 129; go_in)
      go_ret
      exact ⟨by rw [HC.out]; rfl, rfl⟩
theorem cmp_atomForm (x y : ByteArray) (w : World) :
    Calls Try.prog 111 #[.string x, .string y] w fun e w' => e = .returned (.int .i64 (cmpS x y)) ∧ w' = w := by
  cases h1 : Op.bytesLess x.toList y.toList
  · cases h2 : Op.bytesLess y.toList x.toList
    · have HC : Hid (cmpS x y = 0) := by show _ = _; unfold cmpS; rw [h1, h2]; rfl
      have hg : ∀ w : World, (binOp .gtr 150 (.string x) (.string y)).run Try.prog w = .ok (.bool false) w := fun w => by rw [gtr_string, gtr_bytes x y h1, h2]; rfl
      go_enter Try.func111, Try.ntmps111
      go_wp2_with (go_at_call 128; go_in)
      go_ret
      exact ⟨by rw [HC.out]; rfl, rfl⟩
    · have HC : Hid (cmpS x y = 1) := by show _ = _; unfold cmpS; rw [h1, h2]; rfl
      have hg : ∀ w : World, (binOp .gtr 150 (.string x) (.string y)).run Try.prog w = .ok (.bool true) w := fun w => by rw [gtr_string, gtr_bytes x y h1, h2]; rfl
      go_enter Try.func111, Try.ntmps111
      go_wp2_with (go_at_call 128; go_in)
      go_ret
      exact ⟨by rw [HC.out]; rfl, rfl⟩
  · have HC : Hid (cmpS x y = -1) := by show _ = _; unfold cmpS; rw [h1]; rfl
    go_enter Try.func111, Try.ntmps111
    go_wp2_with (go_at_call 128; go_in)
    go_ret
    exact ⟨by rw [HC.out]; rfl, rfl⟩
theorem cmp_binForm (x y : ByteArray) (w : World) :
    Calls Try.prog 113 #[.string x, .string y] w fun e w' => e = .returned (.int .i64 (cmpS x y)) ∧ w' = w := by
  cases h1 : Op.bytesLess x.toList y.toList
  · cases h2 : Op.bytesLess y.toList x.toList
    · have HC : Hid (cmpS x y = 0) := by show _ = _; unfold cmpS; rw [h1, h2]; rfl
      have hg : ∀ w : World, (binOp .gtr 140 (.string x) (.string y)).run Try.prog w = .ok (.bool false) w := fun w => by rw [gtr_string, gtr_bytes x y h1, h2]; rfl
      go_enter Try.func113, Try.ntmps113
      go_wp2_with (go_at_call 130; go_in)
      go_ret
      exact ⟨by rw [HC.out]; rfl, rfl⟩
    · have HC : Hid (cmpS x y = 1) := by show _ = _; unfold cmpS; rw [h1, h2]; rfl
      have hg : ∀ w : World, (binOp .gtr 140 (.string x) (.string y)).run Try.prog w = .ok (.bool true) w := fun w => by rw [gtr_string, gtr_bytes x y h1, h2]; rfl
      go_enter Try.func113, Try.ntmps113
      go_wp2_with (go_at_call 130; go_in)
      go_ret
      exact ⟨by rw [HC.out]; rfl, rfl⟩
  · have HC : Hid (cmpS x y = -1) := by show _ = _; unfold cmpS; rw [h1]; rfl
    go_enter Try.func113, Try.ntmps113
    go_wp2_with (go_at_call 130; go_in)
    go_ret
    exact ⟨by rw [HC.out]; rfl, rfl⟩
end Go.Proofs.Ytabgfaafpgholaa
