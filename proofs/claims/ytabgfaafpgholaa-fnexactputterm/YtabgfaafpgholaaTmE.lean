/-
  What is right of a term but for what is in its L: l1Shape and rightAlone answer the same.
-/
import Derived.Test.YtabgfaafpgholaaTmB
import Derived.Test.YtabgfaafpgholaaAtB
import Derived.Deep.RegionWith
import Derived.BigQuiet
namespace Go.Proofs.Ytabgfaafpgholaa
open Go.RowKit Atom

def shapeB (k n : Int) (s : ByteArray) (len : Nat) : Bool :=
  if k = 1 then inB n (-1000000) 1000000 && decide (s.toList = []) && ((len : Int) == 0)
  else if k = 2 then atomB s && (n == 0) && ((len : Int) == 0)
  else if k = 3 then inB n 0 99999 && decide (s.toList = []) && ((len : Int) == 0)
  else if k = 4 then (n == 0) && decide (s.toList = []) && decide ((len : Int) ≤ 8)
  else if k = 5 then (n == 0) && decide (s.toList = []) && decide ((len : Int) ≤ 20)
  else if k = 6 then (n == 0) && decide ((s.size : Int) ≤ 40) && ((len : Int) == 0)
  else false
theorem atom_below (s : ByteArray) (w : World) (hs : s.size ≤ maxLen) :
    Calls Try.prog 76 #[.string s] w fun e w' => e = .returned (.bool (atomB s)) ∧ Below w.heap.size w w' :=
  (impl_any s w hs).mono fun e w' ⟨he, hw⟩ => ⟨he, by
    rcases hw with rfl | ⟨pos, rfl⟩
    · exact Below.refl _ _
    · exact (Below.refl _ _).alloc (Nat.le_refl _) _⟩

set_option maxHeartbeats 1000000 in
theorem shape_1 (n : Int) (s : ByteArray) (hm : s.size ≤ maxLen) (ao : Option Addr) (len cap : Nat) (w : World) :
    Calls Try.prog 89 #[.agg #[.int .i64 1, .int .i64 n, .string s, .slice ao len cap]] w fun e w' => e = .returned (.bool (shapeB 1 n s len)) ∧ Below w.heap.size w w' := by
  have HM : Hid (s.size ≤ maxLen) := hm
  unfold maxLen at hm
  cases h1 : inB n (-1000000) 1000000 <;> by_cases hs : s.toList = []
  all_goals
    go_enter Try.func89, Try.ntmps89
    go_wp2_with (first | (go_at_call 90; refine (in_any _ _ _ _).mono ?_; rintro e w' ⟨rfl, rfl⟩) | (go_at_call 92; refine (spec_any s _ HM.out).mono ?_; rintro e w' ⟨rfl, rfl⟩))
    go_ret
    exact ⟨ret_bool (by simp [shapeB, h1, hs]), (Below.refl _ _).alloc (Nat.le_refl _) _⟩

set_option maxHeartbeats 1000000 in
theorem shape_2 (n : Int) (s : ByteArray) (hm : s.size ≤ maxLen) (ao : Option Addr) (len cap : Nat) (w : World) :
    Calls Try.prog 89 #[.agg #[.int .i64 2, .int .i64 n, .string s, .slice ao len cap]] w fun e w' => e = .returned (.bool (shapeB 2 n s len)) ∧ Below w.heap.size w w' := by
  have HM : Hid (s.size ≤ maxLen) := hm
  unfold maxLen at hm
  cases h1 : atomB s <;> by_cases hn : n = 0
  all_goals
    go_enter Try.func89, Try.ntmps89
    go_wp2_with (first | (go_at_call 90; refine (in_any _ _ _ _).mono ?_; rintro e w' ⟨rfl, rfl⟩) | (go_at_call 92; refine (spec_any s _ HM.out).mono ?_; rintro e w' ⟨rfl, rfl⟩))
    go_ret
    exact ⟨ret_bool (by simp [shapeB, h1, hn]), (Below.refl _ _).alloc (Nat.le_refl _) _⟩

set_option maxHeartbeats 1000000 in
theorem shape_3 (n : Int) (s : ByteArray) (hm : s.size ≤ maxLen) (ao : Option Addr) (len cap : Nat) (w : World) :
    Calls Try.prog 89 #[.agg #[.int .i64 3, .int .i64 n, .string s, .slice ao len cap]] w fun e w' => e = .returned (.bool (shapeB 3 n s len)) ∧ Below w.heap.size w w' := by
  have HM : Hid (s.size ≤ maxLen) := hm
  unfold maxLen at hm
  cases h1 : inB n 0 99999 <;> by_cases hs : s.toList = []
  all_goals
    go_enter Try.func89, Try.ntmps89
    go_wp2_with (first | (go_at_call 90; refine (in_any _ _ _ _).mono ?_; rintro e w' ⟨rfl, rfl⟩) | (go_at_call 92; refine (spec_any s _ HM.out).mono ?_; rintro e w' ⟨rfl, rfl⟩))
    go_ret
    exact ⟨ret_bool (by simp [shapeB, h1, hs]), (Below.refl _ _).alloc (Nat.le_refl _) _⟩

set_option maxHeartbeats 1000000 in
theorem shape_4 (n : Int) (s : ByteArray) (hm : s.size ≤ maxLen) (ao : Option Addr) (len cap : Nat) (w : World) :
    Calls Try.prog 89 #[.agg #[.int .i64 4, .int .i64 n, .string s, .slice ao len cap]] w fun e w' => e = .returned (.bool (shapeB 4 n s len)) ∧ Below w.heap.size w w' := by
  have HM : Hid (s.size ≤ maxLen) := hm
  unfold maxLen at hm
  by_cases hn : n = 0 <;> by_cases hs : s.toList = []
  all_goals
    go_enter Try.func89, Try.ntmps89
    go_wp2_with (first | (go_at_call 90; refine (in_any _ _ _ _).mono ?_; rintro e w' ⟨rfl, rfl⟩) | (go_at_call 92; refine (spec_any s _ HM.out).mono ?_; rintro e w' ⟨rfl, rfl⟩))
    go_ret
    exact ⟨ret_bool (by simp [shapeB, hn, hs]), (Below.refl _ _).alloc (Nat.le_refl _) _⟩

set_option maxHeartbeats 1000000 in
theorem shape_5 (n : Int) (s : ByteArray) (hm : s.size ≤ maxLen) (ao : Option Addr) (len cap : Nat) (w : World) :
    Calls Try.prog 89 #[.agg #[.int .i64 5, .int .i64 n, .string s, .slice ao len cap]] w fun e w' => e = .returned (.bool (shapeB 5 n s len)) ∧ Below w.heap.size w w' := by
  have HM : Hid (s.size ≤ maxLen) := hm
  unfold maxLen at hm
  by_cases hn : n = 0 <;> by_cases hs : s.toList = []
  all_goals
    go_enter Try.func89, Try.ntmps89
    go_wp2_with (first | (go_at_call 90; refine (in_any _ _ _ _).mono ?_; rintro e w' ⟨rfl, rfl⟩) | (go_at_call 92; refine (spec_any s _ HM.out).mono ?_; rintro e w' ⟨rfl, rfl⟩))
    go_ret
    exact ⟨ret_bool (by simp [shapeB, hn, hs]), (Below.refl _ _).alloc (Nat.le_refl _) _⟩

set_option maxHeartbeats 1000000 in
theorem shape_6 (n : Int) (s : ByteArray) (hm : s.size ≤ maxLen) (ao : Option Addr) (len cap : Nat) (w : World) :
    Calls Try.prog 89 #[.agg #[.int .i64 6, .int .i64 n, .string s, .slice ao len cap]] w fun e w' => e = .returned (.bool (shapeB 6 n s len)) ∧ Below w.heap.size w w' := by
  have HM : Hid (s.size ≤ maxLen) := hm
  unfold maxLen at hm
  by_cases hn : n = 0 <;> by_cases hs : (s.size : Int) ≤ 40
  all_goals
    go_enter Try.func89, Try.ntmps89
    go_wp2_with (first | (go_at_call 90; refine (in_any _ _ _ _).mono ?_; rintro e w' ⟨rfl, rfl⟩) | (go_at_call 92; refine (spec_any s _ HM.out).mono ?_; rintro e w' ⟨rfl, rfl⟩))
    go_ret
    exact ⟨ret_bool (by first | (simp [shapeB, hn, hs]; done) | (simp [shapeB]; omega)), (Below.refl _ _).alloc (Nat.le_refl _) _⟩

set_option maxHeartbeats 1000000 in
theorem shape_0 (k n : Int) (h1 : (k == 1) = false) (h2 : (k == 2) = false) (h3 : (k == 3) = false) (h4 : (k == 4) = false) (h5 : (k == 5) = false) (h6 : (k == 6) = false) (s : ByteArray) (ao : Option Addr) (len cap : Nat) (w : World) :
    Calls Try.prog 89 #[.agg #[.int .i64 k, .int .i64 n, .string s, .slice ao len cap]] w fun e w' => e = .returned (.bool (shapeB k n s len)) ∧ Below w.heap.size w w' := by
  have HE : Hid (shapeB k n s len = false) := by
    show _ = _
    simp at h1 h2 h3 h4 h5 h6
    simp [shapeB, h1, h2, h3, h4, h5, h6]
  go_enter Try.func89, Try.ntmps89
  go_wp2_with fail
  go_ret
  exact ⟨ret_bool HE.out.symm, (Below.refl _ _).alloc (Nat.le_refl _) _⟩
theorem shape_any (k n : Int) (s : ByteArray) (hm : s.size ≤ maxLen) (ao : Option Addr) (len cap : Nat) (w : World) :
    Calls Try.prog 89 #[.agg #[.int .i64 k, .int .i64 n, .string s, .slice ao len cap]] w fun e w' => e = .returned (.bool (shapeB k n s len)) ∧ Below w.heap.size w w' := by
  by_cases h1 : k = 1
  · subst h1; exact shape_1 n s hm ao len cap w
  by_cases h2 : k = 2
  · subst h2; exact shape_2 n s hm ao len cap w
  by_cases h3 : k = 3
  · subst h3; exact shape_3 n s hm ao len cap w
  by_cases h4 : k = 4
  · subst h4; exact shape_4 n s hm ao len cap w
  by_cases h5 : k = 5
  · subst h5; exact shape_5 n s hm ao len cap w
  by_cases h6 : k = 6
  · subst h6; exact shape_6 n s hm ao len cap w
  exact shape_0 k n (by simpa using h1) (by simpa using h2) (by simpa using h3) (by simpa using h4) (by simpa using h5) (by simpa using h6) s ao len cap w

end Go.Proofs.Ytabgfaafpgholaa
