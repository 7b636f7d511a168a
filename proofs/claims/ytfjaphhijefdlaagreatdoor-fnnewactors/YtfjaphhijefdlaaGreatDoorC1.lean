/-
  TermOk, the specification's and the program's; and the walk of the law.
  (Ahead of it, in this text: What is right of a term but for what is in its L: l1Shape and rightAlone answer the same. rightAlone answers as l1Shape. How deep and how many: l1Look and spendTerm answer the same. spendTerm answers as l1Look.)
-/
import Derived.Test.YtfjaphhijefdlaaGreatDoorTmB
import Derived.Test.YtfjaphhijefdlaaGreatDoorAtB
import Derived.Deep.RegionWith
import Derived.BigQuiet
import Derived.WalkSmall
import Derived.Test.YtfjaphhijefdlaaGreatDoorTmC
import Derived.Test.YtfjaphhijefdlaaGreatDoorTmD
namespace Go.Proofs.YtfjaphhijefdlaaGreatDoor
open Go.RowKit Atom

def shapeB (k n : Int) (s : ByteArray) (len : Nat) : Bool :=
  if k = 1 then inB n (-1000000) 1000000 && decide (s.toList = []) && ((len : Int) == 0)
  else if k = 2 then atomB s && (n == 0) && ((len : Int) == 0)
  else if k = 3 then inB n 0 99999 && decide (s.toList = []) && ((len : Int) == 0)
  else if k = 4 then (n == 0) && decide (s.toList = []) && decide ((len : Int) ≤ 8)
  else if k = 5 then (n == 0) && decide (s.toList = []) && decide ((len : Int) ≤ 20)
  else if k = 6 then (n == 0) && decide ((s.size : Int) ≤ 40) && ((len : Int) == 0)
  else false
theorem atom_below (s : ByteArray) (w : World) (hs : s.size ≤ maxLen) :
    Calls Tryz.prog 68 #[.string s] w fun e w' => e = .returned (.bool (atomB s)) ∧ Below w.heap.size w w' :=
  (impl_any s w hs).mono fun e w' ⟨he, hw⟩ => ⟨he, by
    rcases hw with rfl | ⟨pos, rfl⟩
    · exact Below.refl _ _
    · exact (Below.refl _ _).alloc (Nat.le_refl _) _⟩

set_option maxHeartbeats 1000000 in
theorem shape_1 (n : Int) (s : ByteArray) (hm : s.size ≤ maxLen) (ao : Option Addr) (len cap : Nat) (w : World) :
    Calls Tryz.prog 55 #[.agg #[.int .i64 1, .int .i64 n, .string s, .slice ao len cap]] w fun e w' => e = .returned (.bool (shapeB 1 n s len)) ∧ Below w.heap.size w w' := by
  have HM : Hid (s.size ≤ maxLen) := hm
  unfold maxLen at hm
  cases h1 : inB n (-1000000) 1000000 <;> by_cases hs : s.toList = []
  all_goals
    go_enter Tryz.func55, Tryz.ntmps55
    go_wp2_with (first | (go_at_call 21; refine (in_any _ _ _ _).mono ?_; rintro e w' ⟨rfl, rfl⟩) | (go_at_call 71; refine (spec_any s _ HM.out).mono ?_; rintro e w' ⟨rfl, rfl⟩))
    go_ret
    exact ⟨ret_bool (by simp [shapeB, h1, hs]), (Below.refl _ _).alloc (Nat.le_refl _) _⟩

set_option maxHeartbeats 1000000 in
theorem shape_2 (n : Int) (s : ByteArray) (hm : s.size ≤ maxLen) (ao : Option Addr) (len cap : Nat) (w : World) :
    Calls Tryz.prog 55 #[.agg #[.int .i64 2, .int .i64 n, .string s, .slice ao len cap]] w fun e w' => e = .returned (.bool (shapeB 2 n s len)) ∧ Below w.heap.size w w' := by
  have HM : Hid (s.size ≤ maxLen) := hm
  unfold maxLen at hm
  cases h1 : atomB s <;> by_cases hn : n = 0
  all_goals
    go_enter Tryz.func55, Tryz.ntmps55
    go_wp2_with (first | (go_at_call 21; refine (in_any _ _ _ _).mono ?_; rintro e w' ⟨rfl, rfl⟩) | (go_at_call 71; refine (spec_any s _ HM.out).mono ?_; rintro e w' ⟨rfl, rfl⟩))
    go_ret
    exact ⟨ret_bool (by simp [shapeB, h1, hn]), (Below.refl _ _).alloc (Nat.le_refl _) _⟩

set_option maxHeartbeats 1000000 in
theorem shape_3 (n : Int) (s : ByteArray) (hm : s.size ≤ maxLen) (ao : Option Addr) (len cap : Nat) (w : World) :
    Calls Tryz.prog 55 #[.agg #[.int .i64 3, .int .i64 n, .string s, .slice ao len cap]] w fun e w' => e = .returned (.bool (shapeB 3 n s len)) ∧ Below w.heap.size w w' := by
  have HM : Hid (s.size ≤ maxLen) := hm
  unfold maxLen at hm
  cases h1 : inB n 0 99999 <;> by_cases hs : s.toList = []
  all_goals
    go_enter Tryz.func55, Tryz.ntmps55
    go_wp2_with (first | (go_at_call 21; refine (in_any _ _ _ _).mono ?_; rintro e w' ⟨rfl, rfl⟩) | (go_at_call 71; refine (spec_any s _ HM.out).mono ?_; rintro e w' ⟨rfl, rfl⟩))
    go_ret
    exact ⟨ret_bool (by simp [shapeB, h1, hs]), (Below.refl _ _).alloc (Nat.le_refl _) _⟩

set_option maxHeartbeats 1000000 in
theorem shape_4 (n : Int) (s : ByteArray) (hm : s.size ≤ maxLen) (ao : Option Addr) (len cap : Nat) (w : World) :
    Calls Tryz.prog 55 #[.agg #[.int .i64 4, .int .i64 n, .string s, .slice ao len cap]] w fun e w' => e = .returned (.bool (shapeB 4 n s len)) ∧ Below w.heap.size w w' := by
  have HM : Hid (s.size ≤ maxLen) := hm
  unfold maxLen at hm
  by_cases hn : n = 0 <;> by_cases hs : s.toList = []
  all_goals
    go_enter Tryz.func55, Tryz.ntmps55
    go_wp2_with (first | (go_at_call 21; refine (in_any _ _ _ _).mono ?_; rintro e w' ⟨rfl, rfl⟩) | (go_at_call 71; refine (spec_any s _ HM.out).mono ?_; rintro e w' ⟨rfl, rfl⟩))
    go_ret
    exact ⟨ret_bool (by simp [shapeB, hn, hs]), (Below.refl _ _).alloc (Nat.le_refl _) _⟩

set_option maxHeartbeats 1000000 in
theorem shape_5 (n : Int) (s : ByteArray) (hm : s.size ≤ maxLen) (ao : Option Addr) (len cap : Nat) (w : World) :
    Calls Tryz.prog 55 #[.agg #[.int .i64 5, .int .i64 n, .string s, .slice ao len cap]] w fun e w' => e = .returned (.bool (shapeB 5 n s len)) ∧ Below w.heap.size w w' := by
  have HM : Hid (s.size ≤ maxLen) := hm
  unfold maxLen at hm
  by_cases hn : n = 0 <;> by_cases hs : s.toList = []
  all_goals
    go_enter Tryz.func55, Tryz.ntmps55
    go_wp2_with (first | (go_at_call 21; refine (in_any _ _ _ _).mono ?_; rintro e w' ⟨rfl, rfl⟩) | (go_at_call 71; refine (spec_any s _ HM.out).mono ?_; rintro e w' ⟨rfl, rfl⟩))
    go_ret
    exact ⟨ret_bool (by simp [shapeB, hn, hs]), (Below.refl _ _).alloc (Nat.le_refl _) _⟩

set_option maxHeartbeats 1000000 in
theorem shape_6 (n : Int) (s : ByteArray) (hm : s.size ≤ maxLen) (ao : Option Addr) (len cap : Nat) (w : World) :
    Calls Tryz.prog 55 #[.agg #[.int .i64 6, .int .i64 n, .string s, .slice ao len cap]] w fun e w' => e = .returned (.bool (shapeB 6 n s len)) ∧ Below w.heap.size w w' := by
  have HM : Hid (s.size ≤ maxLen) := hm
  unfold maxLen at hm
  by_cases hn : n = 0 <;> by_cases hs : (s.size : Int) ≤ 40
  all_goals
    go_enter Tryz.func55, Tryz.ntmps55
    go_wp2_with (first | (go_at_call 21; refine (in_any _ _ _ _).mono ?_; rintro e w' ⟨rfl, rfl⟩) | (go_at_call 71; refine (spec_any s _ HM.out).mono ?_; rintro e w' ⟨rfl, rfl⟩))
    go_ret
    exact ⟨ret_bool (by first | (simp [shapeB, hn, hs]; done) | (simp [shapeB]; omega)), (Below.refl _ _).alloc (Nat.le_refl _) _⟩

set_option maxHeartbeats 1000000 in
theorem shape_0 (k n : Int) (h1 : (k == 1) = false) (h2 : (k == 2) = false) (h3 : (k == 3) = false) (h4 : (k == 4) = false) (h5 : (k == 5) = false) (h6 : (k == 6) = false) (s : ByteArray) (ao : Option Addr) (len cap : Nat) (w : World) :
    Calls Tryz.prog 55 #[.agg #[.int .i64 k, .int .i64 n, .string s, .slice ao len cap]] w fun e w' => e = .returned (.bool (shapeB k n s len)) ∧ Below w.heap.size w w' := by
  have HE : Hid (shapeB k n s len = false) := by
    show _ = _
    simp at h1 h2 h3 h4 h5 h6
    simp [shapeB, h1, h2, h3, h4, h5, h6]
  go_enter Tryz.func55, Tryz.ntmps55
  go_wp2_with fail
  go_ret
  exact ⟨ret_bool HE.out.symm, (Below.refl _ _).alloc (Nat.le_refl _) _⟩
theorem shape_any (k n : Int) (s : ByteArray) (hm : s.size ≤ maxLen) (ao : Option Addr) (len cap : Nat) (w : World) :
    Calls Tryz.prog 55 #[.agg #[.int .i64 k, .int .i64 n, .string s, .slice ao len cap]] w fun e w' => e = .returned (.bool (shapeB k n s len)) ∧ Below w.heap.size w w' := by
  by_cases h1 : k = 1
  · subst h1; exact shape_1 n s hm ao len cap w
  by_cases h2 : k = 2
  · subst h2; exact shape_2 n s hm ao len cap w
  by_cases h3 : k = 3
  · subst h3; exact shape_3 n s hm ao len cap w
  by_cases h4 : k = 4
  · subst h4; exact shape_4 n s hm ao len cap w
  by_cases h5 : k = 5
  · subst h5; exact shape_5 n s hm ao len cap w
  by_cases h6 : k = 6
  · subst h6; exact shape_6 n s hm ao len cap w
  exact shape_0 k n (by simpa using h1) (by simpa using h2) (by simpa using h3) (by simpa using h4) (by simpa using h5) (by simpa using h6) s ao len cap w

end Go.Proofs.YtfjaphhijefdlaaGreatDoor
namespace Go.Proofs.YtfjaphhijefdlaaGreatDoor
open Go.RowKit Atom
set_option linter.unusedVariables false

theorem assert_80_80 (v : Value) (W : World) : (Instr.typeAssert (.iface 118 v) 86 118 true).run Tryz.prog W = .ok (.tuple #[v, .bool true]) W := by kernel_rfl
theorem assert_81_80 (v : Value) (W : World) : (Instr.typeAssert (.iface 119 v) 86 118 true).run Tryz.prog W = .ok (.tuple #[.int .i64 0, .bool false]) W := by kernel_rfl
theorem assert_81_81 (v : Value) (W : World) : (Instr.typeAssert (.iface 119 v) 86 119 true).run Tryz.prog W = .ok (.tuple #[v, .bool true]) W := by kernel_rfl
theorem assert_82_80 (v : Value) (W : World) : (Instr.typeAssert (.iface 120 v) 86 118 true).run Tryz.prog W = .ok (.tuple #[.int .i64 0, .bool false]) W := by kernel_rfl
theorem assert_82_81 (v : Value) (W : World) : (Instr.typeAssert (.iface 120 v) 86 119 true).run Tryz.prog W = .ok (.tuple #[.string ⟨#[]⟩, .bool false]) W := by kernel_rfl
theorem assert_82_82 (v : Value) (W : World) : (Instr.typeAssert (.iface 120 v) 86 120 true).run Tryz.prog W = .ok (.tuple #[v, .bool true]) W := by kernel_rfl
theorem assert_83_80 (v : Value) (W : World) : (Instr.typeAssert (.iface 121 v) 86 118 true).run Tryz.prog W = .ok (.tuple #[.int .i64 0, .bool false]) W := by kernel_rfl
theorem assert_83_81 (v : Value) (W : World) : (Instr.typeAssert (.iface 121 v) 86 119 true).run Tryz.prog W = .ok (.tuple #[.string ⟨#[]⟩, .bool false]) W := by kernel_rfl
theorem assert_83_82 (v : Value) (W : World) : (Instr.typeAssert (.iface 121 v) 86 120 true).run Tryz.prog W = .ok (.tuple #[.int .i64 0, .bool false]) W := by kernel_rfl
theorem assert_83_83 (v : Value) (W : World) : (Instr.typeAssert (.iface 121 v) 86 121 true).run Tryz.prog W = .ok (.tuple #[v, .bool true]) W := by kernel_rfl
theorem assert_84_80 (v : Value) (W : World) : (Instr.typeAssert (.iface 122 v) 86 118 true).run Tryz.prog W = .ok (.tuple #[.int .i64 0, .bool false]) W := by kernel_rfl
theorem assert_84_81 (v : Value) (W : World) : (Instr.typeAssert (.iface 122 v) 86 119 true).run Tryz.prog W = .ok (.tuple #[.string ⟨#[]⟩, .bool false]) W := by kernel_rfl
theorem assert_84_82 (v : Value) (W : World) : (Instr.typeAssert (.iface 122 v) 86 120 true).run Tryz.prog W = .ok (.tuple #[.int .i64 0, .bool false]) W := by kernel_rfl
theorem assert_84_83 (v : Value) (W : World) : (Instr.typeAssert (.iface 122 v) 86 121 true).run Tryz.prog W = .ok (.tuple #[.slice none 0 0, .bool false]) W := by kernel_rfl
theorem assert_84_84 (v : Value) (W : World) : (Instr.typeAssert (.iface 122 v) 86 122 true).run Tryz.prog W = .ok (.tuple #[v, .bool true]) W := by kernel_rfl
theorem assert_85_80 (v : Value) (W : World) : (Instr.typeAssert (.iface 123 v) 86 118 true).run Tryz.prog W = .ok (.tuple #[.int .i64 0, .bool false]) W := by kernel_rfl
theorem assert_85_81 (v : Value) (W : World) : (Instr.typeAssert (.iface 123 v) 86 119 true).run Tryz.prog W = .ok (.tuple #[.string ⟨#[]⟩, .bool false]) W := by kernel_rfl
theorem assert_85_82 (v : Value) (W : World) : (Instr.typeAssert (.iface 123 v) 86 120 true).run Tryz.prog W = .ok (.tuple #[.int .i64 0, .bool false]) W := by kernel_rfl
theorem assert_85_83 (v : Value) (W : World) : (Instr.typeAssert (.iface 123 v) 86 121 true).run Tryz.prog W = .ok (.tuple #[.slice none 0 0, .bool false]) W := by kernel_rfl
theorem assert_85_84 (v : Value) (W : World) : (Instr.typeAssert (.iface 123 v) 86 122 true).run Tryz.prog W = .ok (.tuple #[.slice none 0 0, .bool false]) W := by kernel_rfl
theorem assert_85_85 (v : Value) (W : World) : (Instr.typeAssert (.iface 123 v) 86 123 true).run Tryz.prog W = .ok (.tuple #[v, .bool true]) W := by kernel_rfl
theorem assert_86_80 (v : Value) (W : World) : (Instr.typeAssert (.iface 124 v) 86 118 true).run Tryz.prog W = .ok (.tuple #[.int .i64 0, .bool false]) W := by kernel_rfl
theorem assert_86_81 (v : Value) (W : World) : (Instr.typeAssert (.iface 124 v) 86 119 true).run Tryz.prog W = .ok (.tuple #[.string ⟨#[]⟩, .bool false]) W := by kernel_rfl
theorem assert_86_82 (v : Value) (W : World) : (Instr.typeAssert (.iface 124 v) 86 120 true).run Tryz.prog W = .ok (.tuple #[.int .i64 0, .bool false]) W := by kernel_rfl
theorem assert_86_83 (v : Value) (W : World) : (Instr.typeAssert (.iface 124 v) 86 121 true).run Tryz.prog W = .ok (.tuple #[.slice none 0 0, .bool false]) W := by kernel_rfl
theorem assert_86_84 (v : Value) (W : World) : (Instr.typeAssert (.iface 124 v) 86 122 true).run Tryz.prog W = .ok (.tuple #[.slice none 0 0, .bool false]) W := by kernel_rfl
theorem assert_86_85 (v : Value) (W : World) : (Instr.typeAssert (.iface 124 v) 86 123 true).run Tryz.prog W = .ok (.tuple #[.string ⟨#[]⟩, .bool false]) W := by kernel_rfl

set_option maxRecDepth 100000 in
set_option maxHeartbeats 1000000 in
theorem right_1y (n : Int) (s : ByteArray) (hm : s.size ≤ maxLen) (ao : Option Addr) (len cap : Nat) (w : World) (g1 : -1000000 ≤ n) (g2 : n ≤ 1000000) (g3 : s.toList = []) :
    Calls Tryz.prog 50 #[.agg #[.int .i64 1, .int .i64 n, .string s, .slice ao len cap]] w fun e w' => e = .returned (.bool ((len : Int) == 0)) ∧ Below w.heap.size w w' := by
  unfold maxLen at hm
  have a80 := assert_80_80
  go_enter Tryz.func50, Tryz.ntmps50
  go_wp2_with fail
  go_quiet (fail)
  go_wp2_with (go_at_call 44; go_in)
  go_ret
  exact ⟨rfl, (below_drewN ((Below.refl _ _).alloc (Nat.le_refl _) _) _).alloc (by simp) _⟩

set_option maxRecDepth 100000 in
set_option maxHeartbeats 1000000 in
theorem right_1a (n : Int) (s : ByteArray) (hm : s.size ≤ maxLen) (ao : Option Addr) (len cap : Nat) (w : World) (g1 : n < -1000000) :
    Calls Tryz.prog 50 #[.agg #[.int .i64 1, .int .i64 n, .string s, .slice ao len cap]] w fun e w' => e = .returned (.bool false) ∧ Below w.heap.size w w' := by
  unfold maxLen at hm
  have a80 := assert_80_80
  go_enter Tryz.func50, Tryz.ntmps50
  go_wp2_with fail
  go_quiet (fail)
  go_wp2_with (go_at_call 44; go_in)
  go_ret
  exact ⟨rfl, (below_drewN ((Below.refl _ _).alloc (Nat.le_refl _) _) _).alloc (by simp) _⟩

set_option maxRecDepth 100000 in
set_option maxHeartbeats 1000000 in
theorem right_1b (n : Int) (s : ByteArray) (hm : s.size ≤ maxLen) (ao : Option Addr) (len cap : Nat) (w : World) (g1 : -1000000 ≤ n) (g2 : 1000000 < n) :
    Calls Tryz.prog 50 #[.agg #[.int .i64 1, .int .i64 n, .string s, .slice ao len cap]] w fun e w' => e = .returned (.bool false) ∧ Below w.heap.size w w' := by
  unfold maxLen at hm
  have a80 := assert_80_80
  go_enter Tryz.func50, Tryz.ntmps50
  go_wp2_with fail
  go_quiet (fail)
  go_wp2_with (go_at_call 44; go_in)
  go_ret
  exact ⟨rfl, (below_drewN ((Below.refl _ _).alloc (Nat.le_refl _) _) _).alloc (by simp) _⟩

set_option maxRecDepth 100000 in
set_option maxHeartbeats 1000000 in
theorem right_1c (n : Int) (s : ByteArray) (hm : s.size ≤ maxLen) (ao : Option Addr) (len cap : Nat) (w : World) (g1 : -1000000 ≤ n) (g2 : n ≤ 1000000) (g3 : ¬ s.toList = []) :
    Calls Tryz.prog 50 #[.agg #[.int .i64 1, .int .i64 n, .string s, .slice ao len cap]] w fun e w' => e = .returned (.bool false) ∧ Below w.heap.size w w' := by
  unfold maxLen at hm
  have a80 := assert_80_80
  go_enter Tryz.func50, Tryz.ntmps50
  go_wp2_with fail
  go_quiet (fail)
  go_wp2_with (go_at_call 44; go_in)
  go_ret
  exact ⟨rfl, (below_drewN ((Below.refl _ _).alloc (Nat.le_refl _) _) _).alloc (by simp) _⟩

set_option maxRecDepth 100000 in
set_option maxHeartbeats 1000000 in
theorem right_3y (n : Int) (s : ByteArray) (hm : s.size ≤ maxLen) (ao : Option Addr) (len cap : Nat) (w : World) (g1 : 0 ≤ n) (g2 : n ≤ 99999) (g3 : s.toList = []) :
    Calls Tryz.prog 50 #[.agg #[.int .i64 3, .int .i64 n, .string s, .slice ao len cap]] w fun e w' => e = .returned (.bool ((len : Int) == 0)) ∧ Below w.heap.size w w' := by
  unfold maxLen at hm
  have a80 := assert_82_80
  have a81 := assert_82_81
  have a82 := assert_82_82
  go_enter Tryz.func50, Tryz.ntmps50
  go_wp2_with fail
  go_quiet (fail)
  go_wp2_with (go_at_call 44; go_in)
  go_ret
  exact ⟨rfl, (below_drewN ((Below.refl _ _).alloc (Nat.le_refl _) _) _).alloc (by simp) _⟩

set_option maxRecDepth 100000 in
set_option maxHeartbeats 1000000 in
theorem right_3a (n : Int) (s : ByteArray) (hm : s.size ≤ maxLen) (ao : Option Addr) (len cap : Nat) (w : World) (g1 : n < 0) :
    Calls Tryz.prog 50 #[.agg #[.int .i64 3, .int .i64 n, .string s, .slice ao len cap]] w fun e w' => e = .returned (.bool false) ∧ Below w.heap.size w w' := by
  unfold maxLen at hm
  have a80 := assert_82_80
  have a81 := assert_82_81
  have a82 := assert_82_82
  go_enter Tryz.func50, Tryz.ntmps50
  go_wp2_with fail
  go_quiet (fail)
  go_wp2_with (go_at_call 44; go_in)
  go_ret
  exact ⟨rfl, (below_drewN ((Below.refl _ _).alloc (Nat.le_refl _) _) _).alloc (by simp) _⟩

set_option maxRecDepth 100000 in
set_option maxHeartbeats 1000000 in
theorem right_3b (n : Int) (s : ByteArray) (hm : s.size ≤ maxLen) (ao : Option Addr) (len cap : Nat) (w : World) (g1 : 0 ≤ n) (g2 : 99999 < n) :
    Calls Tryz.prog 50 #[.agg #[.int .i64 3, .int .i64 n, .string s, .slice ao len cap]] w fun e w' => e = .returned (.bool false) ∧ Below w.heap.size w w' := by
  unfold maxLen at hm
  have a80 := assert_82_80
  have a81 := assert_82_81
  have a82 := assert_82_82
  go_enter Tryz.func50, Tryz.ntmps50
  go_wp2_with fail
  go_quiet (fail)
  go_wp2_with (go_at_call 44; go_in)
  go_ret
  exact ⟨rfl, (below_drewN ((Below.refl _ _).alloc (Nat.le_refl _) _) _).alloc (by simp) _⟩

set_option maxRecDepth 100000 in
set_option maxHeartbeats 1000000 in
theorem right_3c (n : Int) (s : ByteArray) (hm : s.size ≤ maxLen) (ao : Option Addr) (len cap : Nat) (w : World) (g1 : 0 ≤ n) (g2 : n ≤ 99999) (g3 : ¬ s.toList = []) :
    Calls Tryz.prog 50 #[.agg #[.int .i64 3, .int .i64 n, .string s, .slice ao len cap]] w fun e w' => e = .returned (.bool false) ∧ Below w.heap.size w w' := by
  unfold maxLen at hm
  have a80 := assert_82_80
  have a81 := assert_82_81
  have a82 := assert_82_82
  go_enter Tryz.func50, Tryz.ntmps50
  go_wp2_with fail
  go_quiet (fail)
  go_wp2_with (go_at_call 44; go_in)
  go_ret
  exact ⟨rfl, (below_drewN ((Below.refl _ _).alloc (Nat.le_refl _) _) _).alloc (by simp) _⟩

set_option maxRecDepth 100000 in
set_option maxHeartbeats 1000000 in
theorem right_2y (n : Int) (s : ByteArray) (hm : s.size ≤ maxLen) (ao : Option Addr) (len cap : Nat) (w : World) (g1 : atomB s = true) (g3 : (n == 0) = true) :
    Calls Tryz.prog 50 #[.agg #[.int .i64 2, .int .i64 n, .string s, .slice ao len cap]] w fun e w' => e = .returned (.bool ((len : Int) == 0)) ∧ Below w.heap.size w w' := by
  have HM : Hid (s.size ≤ maxLen) := hm
  unfold maxLen at hm
  have a80 := assert_81_80
  have a81 := assert_81_81
  go_enter Tryz.func50, Tryz.ntmps50
  go_wp2_with fail
  go_quiet (fail)
  go_wp2_with (first | (go_at_call 44; go_in) | (go_at_call 68; refine (atom_below s _ HM.out).mono ?_; rintro e w1 ⟨rfl, hb1⟩))
  go_ret
  exact ⟨rfl, ((below_drewN ((Below.refl _ _).alloc (Nat.le_refl _) _) _).alloc (by simp) _).trans (hb1.mono (by simp; omega))⟩

set_option maxRecDepth 100000 in
set_option maxHeartbeats 1000000 in
theorem right_2a (n : Int) (s : ByteArray) (hm : s.size ≤ maxLen) (ao : Option Addr) (len cap : Nat) (w : World) (g1 : atomB s = false) :
    Calls Tryz.prog 50 #[.agg #[.int .i64 2, .int .i64 n, .string s, .slice ao len cap]] w fun e w' => e = .returned (.bool false) ∧ Below w.heap.size w w' := by
  have HM : Hid (s.size ≤ maxLen) := hm
  unfold maxLen at hm
  have a80 := assert_81_80
  have a81 := assert_81_81
  go_enter Tryz.func50, Tryz.ntmps50
  go_wp2_with fail
  go_quiet (fail)
  go_wp2_with (first | (go_at_call 44; go_in) | (go_at_call 68; refine (atom_below s _ HM.out).mono ?_; rintro e w1 ⟨rfl, hb1⟩))
  go_ret
  exact ⟨rfl, ((below_drewN ((Below.refl _ _).alloc (Nat.le_refl _) _) _).alloc (by simp) _).trans (hb1.mono (by simp; omega))⟩

set_option maxRecDepth 100000 in
set_option maxHeartbeats 1000000 in
theorem right_2b (n : Int) (s : ByteArray) (hm : s.size ≤ maxLen) (ao : Option Addr) (len cap : Nat) (w : World) (g1 : atomB s = true) (g3 : (n == 0) = false) :
    Calls Tryz.prog 50 #[.agg #[.int .i64 2, .int .i64 n, .string s, .slice ao len cap]] w fun e w' => e = .returned (.bool false) ∧ Below w.heap.size w w' := by
  have HM : Hid (s.size ≤ maxLen) := hm
  unfold maxLen at hm
  have a80 := assert_81_80
  have a81 := assert_81_81
  go_enter Tryz.func50, Tryz.ntmps50
  go_wp2_with fail
  go_quiet (fail)
  go_wp2_with (first | (go_at_call 44; go_in) | (go_at_call 68; refine (atom_below s _ HM.out).mono ?_; rintro e w1 ⟨rfl, hb1⟩))
  go_ret
  exact ⟨rfl, ((below_drewN ((Below.refl _ _).alloc (Nat.le_refl _) _) _).alloc (by simp) _).trans (hb1.mono (by simp; omega))⟩

set_option maxRecDepth 100000 in
set_option maxHeartbeats 1000000 in
theorem right_4y (n : Int) (s : ByteArray) (hm : s.size ≤ maxLen) (ao : Option Addr) (len cap : Nat) (w : World) (g1 : (len : Int) ≤ 8) (g2 : (n == 0) = true) (g3 : s.toList = []) :
    Calls Tryz.prog 50 #[.agg #[.int .i64 4, .int .i64 n, .string s, .slice ao len cap]] w fun e w' => e = .returned (.bool true) ∧ Below w.heap.size w w' := by
  unfold maxLen at hm
  have a80 := assert_83_80
  have a81 := assert_83_81
  have a82 := assert_83_82
  have a83 := assert_83_83
  go_enter Tryz.func50, Tryz.ntmps50
  go_wp2_with fail
  go_quiet (fail)
  go_wp2_with (go_at_call 44; go_in)
  go_ret
  exact ⟨rfl, (below_drewN ((Below.refl _ _).alloc (Nat.le_refl _) _) _).alloc (by simp) _⟩

set_option maxRecDepth 100000 in
set_option maxHeartbeats 1000000 in
theorem right_4a (n : Int) (s : ByteArray) (hm : s.size ≤ maxLen) (ao : Option Addr) (len cap : Nat) (w : World) (g1 : 8 < (len : Int)) :
    Calls Tryz.prog 50 #[.agg #[.int .i64 4, .int .i64 n, .string s, .slice ao len cap]] w fun e w' => e = .returned (.bool false) ∧ Below w.heap.size w w' := by
  unfold maxLen at hm
  have a80 := assert_83_80
  have a81 := assert_83_81
  have a82 := assert_83_82
  have a83 := assert_83_83
  go_enter Tryz.func50, Tryz.ntmps50
  go_wp2_with fail
  go_quiet (fail)
  go_wp2_with (go_at_call 44; go_in)
  go_ret
  exact ⟨rfl, (below_drewN ((Below.refl _ _).alloc (Nat.le_refl _) _) _).alloc (by simp) _⟩

set_option maxRecDepth 100000 in
set_option maxHeartbeats 1000000 in
theorem right_4b (n : Int) (s : ByteArray) (hm : s.size ≤ maxLen) (ao : Option Addr) (len cap : Nat) (w : World) (g1 : (len : Int) ≤ 8) (g2 : (n == 0) = false) :
    Calls Tryz.prog 50 #[.agg #[.int .i64 4, .int .i64 n, .string s, .slice ao len cap]] w fun e w' => e = .returned (.bool false) ∧ Below w.heap.size w w' := by
  unfold maxLen at hm
  have a80 := assert_83_80
  have a81 := assert_83_81
  have a82 := assert_83_82
  have a83 := assert_83_83
  go_enter Tryz.func50, Tryz.ntmps50
  go_wp2_with fail
  go_quiet (fail)
  go_wp2_with (go_at_call 44; go_in)
  go_ret
  exact ⟨rfl, (below_drewN ((Below.refl _ _).alloc (Nat.le_refl _) _) _).alloc (by simp) _⟩

set_option maxRecDepth 100000 in
set_option maxHeartbeats 1000000 in
theorem right_4c (n : Int) (s : ByteArray) (hm : s.size ≤ maxLen) (ao : Option Addr) (len cap : Nat) (w : World) (g1 : (len : Int) ≤ 8) (g2 : (n == 0) = true) (g3 : s.toList.isEmpty = false) :
    Calls Tryz.prog 50 #[.agg #[.int .i64 4, .int .i64 n, .string s, .slice ao len cap]] w fun e w' => e = .returned (.bool false) ∧ Below w.heap.size w w' := by
  unfold maxLen at hm
  have a80 := assert_83_80
  have a81 := assert_83_81
  have a82 := assert_83_82
  have a83 := assert_83_83
  go_enter Tryz.func50, Tryz.ntmps50
  go_wp2_with fail
  go_quiet (fail)
  go_wp2_with (go_at_call 44; go_in)
  go_ret
  exact ⟨rfl, (below_drewN ((Below.refl _ _).alloc (Nat.le_refl _) _) _).alloc (by simp) _⟩

set_option maxRecDepth 100000 in
set_option maxHeartbeats 1000000 in
theorem right_5y (n : Int) (s : ByteArray) (hm : s.size ≤ maxLen) (ao : Option Addr) (len cap : Nat) (w : World) (g1 : (len : Int) ≤ 20) (g2 : (n == 0) = true) (g3 : s.toList = []) :
    Calls Tryz.prog 50 #[.agg #[.int .i64 5, .int .i64 n, .string s, .slice ao len cap]] w fun e w' => e = .returned (.bool true) ∧ Below w.heap.size w w' := by
  unfold maxLen at hm
  have a80 := assert_84_80
  have a81 := assert_84_81
  have a82 := assert_84_82
  have a83 := assert_84_83
  have a84 := assert_84_84
  go_enter Tryz.func50, Tryz.ntmps50
  go_wp2_with fail
  go_quiet (fail)
  go_wp2_with (go_at_call 44; go_in)
  go_ret
  exact ⟨rfl, (below_drewN ((Below.refl _ _).alloc (Nat.le_refl _) _) _).alloc (by simp) _⟩

set_option maxRecDepth 100000 in
set_option maxHeartbeats 1000000 in
theorem right_5a (n : Int) (s : ByteArray) (hm : s.size ≤ maxLen) (ao : Option Addr) (len cap : Nat) (w : World) (g1 : 20 < (len : Int)) :
    Calls Tryz.prog 50 #[.agg #[.int .i64 5, .int .i64 n, .string s, .slice ao len cap]] w fun e w' => e = .returned (.bool false) ∧ Below w.heap.size w w' := by
  unfold maxLen at hm
  have a80 := assert_84_80
  have a81 := assert_84_81
  have a82 := assert_84_82
  have a83 := assert_84_83
  have a84 := assert_84_84
  go_enter Tryz.func50, Tryz.ntmps50
  go_wp2_with fail
  go_quiet (fail)
  go_wp2_with (go_at_call 44; go_in)
  go_ret
  exact ⟨rfl, (below_drewN ((Below.refl _ _).alloc (Nat.le_refl _) _) _).alloc (by simp) _⟩

set_option maxRecDepth 100000 in
set_option maxHeartbeats 1000000 in
theorem right_5b (n : Int) (s : ByteArray) (hm : s.size ≤ maxLen) (ao : Option Addr) (len cap : Nat) (w : World) (g1 : (len : Int) ≤ 20) (g2 : (n == 0) = false) :
    Calls Tryz.prog 50 #[.agg #[.int .i64 5, .int .i64 n, .string s, .slice ao len cap]] w fun e w' => e = .returned (.bool false) ∧ Below w.heap.size w w' := by
  unfold maxLen at hm
  have a80 := assert_84_80
  have a81 := assert_84_81
  have a82 := assert_84_82
  have a83 := assert_84_83
  have a84 := assert_84_84
  go_enter Tryz.func50, Tryz.ntmps50
  go_wp2_with fail
  go_quiet (fail)
  go_wp2_with (go_at_call 44; go_in)
  go_ret
  exact ⟨rfl, (below_drewN ((Below.refl _ _).alloc (Nat.le_refl _) _) _).alloc (by simp) _⟩

set_option maxRecDepth 100000 in
set_option maxHeartbeats 1000000 in
theorem right_5c (n : Int) (s : ByteArray) (hm : s.size ≤ maxLen) (ao : Option Addr) (len cap : Nat) (w : World) (g1 : (len : Int) ≤ 20) (g2 : (n == 0) = true) (g3 : s.toList.isEmpty = false) :
    Calls Tryz.prog 50 #[.agg #[.int .i64 5, .int .i64 n, .string s, .slice ao len cap]] w fun e w' => e = .returned (.bool false) ∧ Below w.heap.size w w' := by
  unfold maxLen at hm
  have a80 := assert_84_80
  have a81 := assert_84_81
  have a82 := assert_84_82
  have a83 := assert_84_83
  have a84 := assert_84_84
  go_enter Tryz.func50, Tryz.ntmps50
  go_wp2_with fail
  go_quiet (fail)
  go_wp2_with (go_at_call 44; go_in)
  go_ret
  exact ⟨rfl, (below_drewN ((Below.refl _ _).alloc (Nat.le_refl _) _) _).alloc (by simp) _⟩

set_option maxRecDepth 100000 in
set_option maxHeartbeats 1000000 in
theorem right_6y (n : Int) (s : ByteArray) (hm : s.size ≤ maxLen) (ao : Option Addr) (len cap : Nat) (w : World) (g1 : (s.size : Int) ≤ 40) (g3 : (n == 0) = true) :
    Calls Tryz.prog 50 #[.agg #[.int .i64 6, .int .i64 n, .string s, .slice ao len cap]] w fun e w' => e = .returned (.bool ((len : Int) == 0)) ∧ Below w.heap.size w w' := by
  unfold maxLen at hm
  have a80 := assert_85_80
  have a81 := assert_85_81
  have a82 := assert_85_82
  have a83 := assert_85_83
  have a84 := assert_85_84
  have a85 := assert_85_85
  go_enter Tryz.func50, Tryz.ntmps50
  go_wp2_with fail
  go_quiet (fail)
  go_wp2_with (go_at_call 44; go_in)
  go_ret
  exact ⟨rfl, (below_drewN ((Below.refl _ _).alloc (Nat.le_refl _) _) _).alloc (by simp) _⟩

set_option maxRecDepth 100000 in
set_option maxHeartbeats 1000000 in
theorem right_6a (n : Int) (s : ByteArray) (hm : s.size ≤ maxLen) (ao : Option Addr) (len cap : Nat) (w : World) (g1 : 40 < (s.size : Int)) :
    Calls Tryz.prog 50 #[.agg #[.int .i64 6, .int .i64 n, .string s, .slice ao len cap]] w fun e w' => e = .returned (.bool false) ∧ Below w.heap.size w w' := by
  unfold maxLen at hm
  have a80 := assert_85_80
  have a81 := assert_85_81
  have a82 := assert_85_82
  have a83 := assert_85_83
  have a84 := assert_85_84
  have a85 := assert_85_85
  go_enter Tryz.func50, Tryz.ntmps50
  go_wp2_with fail
  go_quiet (fail)
  go_wp2_with (go_at_call 44; go_in)
  go_ret
  exact ⟨rfl, (below_drewN ((Below.refl _ _).alloc (Nat.le_refl _) _) _).alloc (by simp) _⟩

set_option maxRecDepth 100000 in
set_option maxHeartbeats 1000000 in
theorem right_6b (n : Int) (s : ByteArray) (hm : s.size ≤ maxLen) (ao : Option Addr) (len cap : Nat) (w : World) (g1 : (s.size : Int) ≤ 40) (g3 : (n == 0) = false) :
    Calls Tryz.prog 50 #[.agg #[.int .i64 6, .int .i64 n, .string s, .slice ao len cap]] w fun e w' => e = .returned (.bool false) ∧ Below w.heap.size w w' := by
  unfold maxLen at hm
  have a80 := assert_85_80
  have a81 := assert_85_81
  have a82 := assert_85_82
  have a83 := assert_85_83
  have a84 := assert_85_84
  have a85 := assert_85_85
  go_enter Tryz.func50, Tryz.ntmps50
  go_wp2_with fail
  go_quiet (fail)
  go_wp2_with (go_at_call 44; go_in)
  go_ret
  exact ⟨rfl, (below_drewN ((Below.refl _ _).alloc (Nat.le_refl _) _) _).alloc (by simp) _⟩

set_option maxRecDepth 100000 in
set_option maxHeartbeats 1000000 in
theorem right_0 (k n : Int) (h1 : (k == 1) = false) (h2 : (k == 2) = false) (h3 : (k == 3) = false) (h4 : (k == 4) = false) (h5 : (k == 5) = false) (h6 : (k == 6) = false) (s : ByteArray) (ao : Option Addr) (len cap : Nat) (w : World) :
    Calls Tryz.prog 50 #[.agg #[.int .i64 k, .int .i64 n, .string s, .slice ao len cap]] w fun e w' => e = .returned (.bool false) ∧ Below w.heap.size w w' := by
  have a80 := assert_86_80
  have a81 := assert_86_81
  have a82 := assert_86_82
  have a83 := assert_86_83
  have a84 := assert_86_84
  have a85 := assert_86_85
  go_enter Tryz.func50, Tryz.ntmps50
  go_wp2_with fail
  go_quiet (fail)
  go_wp2_with (go_at_call 44; go_in)
  go_ret
  exact ⟨rfl, (below_drewN ((Below.refl _ _).alloc (Nat.le_refl _) _) _).alloc (by simp) _⟩

theorem as_shape {k n : Int} {s : ByteArray} {len : Nat} {x : Bool} {v : Value} {w : World} (e : shapeB k n s len = x) (h : Calls Tryz.prog 50 #[v] w fun e w' => e = .returned (.bool x) ∧ Below w.heap.size w w') :
    Calls Tryz.prog 50 #[v] w fun e w' => e = .returned (.bool (shapeB k n s len)) ∧ Below w.heap.size w w' := by rw [e]; exact h

theorem right_any (k n : Int) (s : ByteArray) (hm : s.size ≤ maxLen) (ao : Option Addr) (len cap : Nat) (w : World) :
    Calls Tryz.prog 50 #[.agg #[.int .i64 k, .int .i64 n, .string s, .slice ao len cap]] w fun e w' => e = .returned (.bool (shapeB k n s len)) ∧ Below w.heap.size w w' := by
  by_cases h1 : k = 1
  · subst h1
    by_cases g1 : -1000000 ≤ n
    · by_cases g2 : n ≤ 1000000
      · by_cases g3 : s.toList = []
        · exact as_shape (by simp [shapeB, inB, g1, g2, g3]) (right_1y n s hm ao len cap w g1 g2 g3)
        · exact as_shape (by simp [shapeB, g3]) (right_1c n s hm ao len cap w g1 g2 g3)
      · exact as_shape (by simp [shapeB, inB, g1, g2]) (right_1b n s hm ao len cap w g1 (by omega))
    · exact as_shape (by simp [shapeB, inB, g1]) (right_1a n s hm ao len cap w (by omega))
  by_cases h2 : k = 2
  · subst h2
    cases g1 : atomB s
    · exact as_shape (by simp [shapeB, g1]) (right_2a n s hm ao len cap w g1)
    · by_cases g3 : n = 0
      · exact as_shape (by simp [shapeB, g1, g3]) (right_2y n s hm ao len cap w g1 (by simpa using g3))
      · exact as_shape (by simp [shapeB, g3]) (right_2b n s hm ao len cap w g1 (by simpa using g3))
  by_cases h3 : k = 3
  · subst h3
    by_cases g1 : 0 ≤ n
    · by_cases g2 : n ≤ 99999
      · by_cases g3 : s.toList = []
        · exact as_shape (by simp [shapeB, inB, g1, g2, g3]) (right_3y n s hm ao len cap w g1 g2 g3)
        · exact as_shape (by simp [shapeB, g3]) (right_3c n s hm ao len cap w g1 g2 g3)
      · exact as_shape (by simp [shapeB, inB, g1, g2]) (right_3b n s hm ao len cap w g1 (by omega))
    · exact as_shape (by simp [shapeB, inB, g1]) (right_3a n s hm ao len cap w (by omega))
  by_cases h4 : k = 4
  · subst h4
    by_cases g1 : (len : Int) ≤ 8
    · by_cases g2 : n = 0
      · by_cases g3 : s.toList = []
        · exact as_shape (by simp [shapeB, g2, g3]; omega) (right_4y n s hm ao len cap w g1 (by simpa using g2) g3)
        · exact as_shape (by simp [shapeB, g3]) (right_4c n s hm ao len cap w g1 (by simpa using g2) (by simpa using g3))
      · exact as_shape (by simp [shapeB, g2]) (right_4b n s hm ao len cap w g1 (by simpa using g2))
    · exact as_shape (by simp [shapeB]; omega) (right_4a n s hm ao len cap w (by omega))
  by_cases h5 : k = 5
  · subst h5
    by_cases g1 : (len : Int) ≤ 20
    · by_cases g2 : n = 0
      · by_cases g3 : s.toList = []
        · exact as_shape (by simp [shapeB, g2, g3]; omega) (right_5y n s hm ao len cap w g1 (by simpa using g2) g3)
        · exact as_shape (by simp [shapeB, g3]) (right_5c n s hm ao len cap w g1 (by simpa using g2) (by simpa using g3))
      · exact as_shape (by simp [shapeB, g2]) (right_5b n s hm ao len cap w g1 (by simpa using g2))
    · exact as_shape (by simp [shapeB]; omega) (right_5a n s hm ao len cap w (by omega))
  by_cases h6 : k = 6
  · subst h6
    by_cases g1 : (s.size : Int) ≤ 40
    · by_cases g3 : n = 0
      · exact as_shape (by simp [shapeB, g3]; omega) (right_6y n s hm ao len cap w g1 (by simpa using g3))
      · exact as_shape (by simp [shapeB, g3]) (right_6b n s hm ao len cap w g1 (by simpa using g3))
    · exact as_shape (by simp [shapeB]; omega) (right_6a n s hm ao len cap w (by omega))
  exact as_shape (by simp [shapeB, h1, h2, h3, h4, h5, h6]) (right_0 k n (by simpa using h1) (by simpa using h2) (by simpa using h3) (by simpa using h4) (by simpa using h5) (by simpa using h6) s ao len cap w)
end Go.Proofs.YtfjaphhijefdlaaGreatDoor
namespace Go.Proofs.YtfjaphhijefdlaaGreatDoor
open Go.RowKit Atom
set_option linter.unusedVariables false

mutual
/-- How many are left behind t and all within it; nothing: t is not right. -/
def look : Tm → Nat → Nat → Option Nat
  | .mk k n s l, deep, left => if deep = 0 ∨ left = 0 ∨ shapeB k n s l.length = false then none else lookL l (deep - 1) (left - 1)
def lookL : List Tm → Nat → Nat → Option Nat
  | [], _, left => some left
  | t :: r, deep, left => match look t deep left with
    | none => none
    | some x => lookL r deep x
end
mutual
theorem look_le : ∀ (t : Tm) (d m x : Nat), look t d m = some x → x ≤ m
  | .mk k n s l, d, m, x, h => by
    rw [look] at h
    split at h
    · cases h
    · have := lookL_le l _ _ _ h; omega
theorem lookL_le : ∀ (l : List Tm) (d m x : Nat), lookL l d m = some x → x ≤ m
  | [], d, m, x, h => by rw [lookL] at h; cases h; exact Nat.le_refl _
  | t :: r, d, m, x, h => by
    rw [lookL] at h
    split at h
    · cases h
    · rename_i y hy
      have h1 := look_le t d m y hy
      have h2 := lookL_le r d y x h
      omega
end
theorem lookL_drop (l : List Tm) (k : Nat) (h : k < l.length) (d m : Nat) : lookL (l.drop k) d m = match look l[k] d m with | none => none | some x => lookL (l.drop (k + 1)) d x := by
  rw [List.drop_eq_getElem_cons h, lookL]

/-- What l1Look answers. -/
def lookI (o : Option Nat) : Int := match o with | none => -1 | some x => x

def LookT (t : Tm) : Prop := ∀ (B : Nat) (w : World) (v : Value) (deep left : Nat), RepV B w t v → deep ≤ 6 → left ≤ 100 →
  Calls Tryz.prog 37 #[v, .int .i64 deep, .int .i64 left] w fun e w' => e = .returned (.int .i64 (lookI (look t deep left))) ∧ Below w.heap.size w w'

/-- The first new block behind a call that lets it be. -/
theorem one_new {w w1 : World} {c1 : Array Value} {t1 : TypeId} (hb : Below (w.heap.size + 1) (w.alloc (.cells c1 t1)) w1) :
    w.heap.size + 1 ≤ w1.heap.size ∧ (∀ o, w1.cell? ⟨w.heap.size, o, none⟩ = c1[o]?) ∧ (∀ o, w1.frozen? ⟨w.heap.size, o, none⟩ = false) := by
  have e1 : (w.alloc (.cells c1 t1)).heap[w.heap.size]? = some (.cells c1 t1 (0, 0)) := by
    show (w.heap.push _)[w.heap.size]? = _
    simp
  have hs : (w.alloc (.cells c1 t1)).heap.size = w.heap.size + 1 := by
    show (w.heap.push _).size = _
    simp
  refine ⟨by have := hb.size; omega, fun o => ?_, fun o => ?_⟩
  · rw [hb.cell (p := ⟨w.heap.size, o, none⟩) (by show w.heap.size < _; omega)]
    unfold World.cell?; rw [e1]; rfl
  · rw [hb.frozen (p := ⟨w.heap.size, o, none⟩) (by show w.heap.size < _; omega)]
    unfold World.frozen?; rw [e1]; simp

set_option maxRecDepth 100000 in
set_option maxHeartbeats 1000000 in
theorem look_of (k n : Int) (s : ByteArray) (l : List Tm) (ih : ∀ t, t ∈ l → LookT t) : LookT (.mk k n s l) := by
  intro B w v deep left hv hd hm
  obtain ⟨ao, cap, rfl, hs, hl, hc, hr⟩ := hv
  have IH : Hid (∀ t, t ∈ l → LookT t) := ih
  have HR : Hid (RepL B w l ao) := hr
  have HE : Hid (look (.mk k n s l) deep left = if deep = 0 ∨ left = 0 ∨ shapeB k n s l.length = false then none else lookL l (deep - 1) (left - 1)) := by
    show look _ _ _ = _; rw [look]
  have HS : Hid (s.size ≤ maxLen) := hs
  clear ih hr hs
  unfold maxLen at hc
  by_cases h0 : deep = 0 ∨ left = 0
  · have HF : Hid (lookI (look (.mk k n s l) deep left) = -1) := by
      show _ = _; rw [HE.out, if_pos (by omega)]; rfl
    by_cases h1 : deep = 0
    · subst h1
      go_enter Tryz.func37, Tryz.ntmps37
      go_wp2_with fail
      go_ret
      exact ⟨ret_int HF.out.symm, (Below.refl _ _).alloc (Nat.le_refl _) _⟩
    · have h2 : left = 0 := by omega
      subst h2
      go_enter Tryz.func37, Tryz.ntmps37
      go_wp2_with fail
      go_ret
      exact ⟨ret_int HF.out.symm, (Below.refl _ _).alloc (Nat.le_refl _) _⟩
  · have h1 : 1 ≤ deep := by omega
    have h2 : 1 ≤ left := by omega
    have d1 : decide ((deep : Int) < 1) = false := by simp; omega
    have d2 : decide ((left : Int) < 1) = false := by simp; omega
    clear h0
    go_enter Tryz.func37, Tryz.ntmps37
    go_wp2_with fail
    refine (shape_any k n s HS.out ao l.length cap _).mono ?_
    rintro e w1 ⟨rfl, hb1⟩
    obtain ⟨hz, q1, f1⟩ := one_new (hb1.mono (by simp))
    have HB1 : Hid (Below w.heap.size w w1) := ((Below.refl _ _).alloc (Nat.le_refl _) _).trans (hb1.mono (by simp))
    clear hb1
    cases hsh : shapeB k n s l.length
    · have HF : Hid (lookI (look (.mk k n s l) deep left) = -1) := by
        show _ = _; rw [HE.out, if_pos (by right; right; exact hsh)]; rfl
      clear HE
      go_wp2_with fail
      go_ret
      exact ⟨ret_int HF.out.symm, HB1.out⟩
    · have HF : Hid (look (.mk k n s l) deep left = lookL l (deep - 1) (left - 1)) := by
        show _ = _; rw [HE.out, if_neg (by rw [hsh]; simp; omega)]
      clear HE
      go_wp2_with fail
      go_loopw [2, 7] (fun a i w' => ∃ (j : Nat) (o : Option Nat), j ≤ l.length ∧ i = .int .i64 j ∧ a = .int .i64 (lookI o) ∧ (∀ x, o = some x → x ≤ left ∧ lookL (l.drop j) (deep - 1) x = lookL l (deep - 1) (left - 1)) ∧
          (o = none → lookL l (deep - 1) (left - 1) = none) ∧ Below w1.heap.size w1 w') (fun _ i _ => l.length - (intOf i).toNat)
      case atStart => exact ⟨0, some (left - 1), Nat.zero_le _, rfl, by show _ = Value.int .i64 (((left - 1 : Nat) : Nat) : Int); congr 1; omega, fun x hx => by cases hx; exact ⟨by omega, rfl⟩, (fun h => by cases h), Below.refl _ _⟩
      case round =>
        obtain ⟨j, o, hj, rfl, rfl, ho, hno, hb2⟩ := hrel
        have HB2 : Hid (Below w.heap.size w wr) := HB1.out.trans (hb2.mono (by omega))
        have q2 : wr.cell? ⟨w.heap.size, 3, none⟩ = some (.slice ao l.length cap) := by rw [hb2.cell (p := ⟨w.heap.size, 3, none⟩) (by show w.heap.size < _; omega), q1]; rfl
        have HB3 : Hid (Below w1.heap.size w1 wr) := hb2
        clear hb2 q1 f1
        cases o with
        | none =>
          have HN : Hid (lookI (look (.mk k n s l) deep left) = -1) := by show _ = _; rw [HF.out, hno rfl]; rfl
          clear ho hno
          by_cases hlt : j < l.length
          · simp only [lookI]
            go_wp2_with fail
            go_ret
            exact ⟨ret_int HN.out.symm, HB2.out⟩
          · simp only [lookI]
            go_wp2_with fail
            go_ret
            exact ⟨ret_int HN.out.symm, HB2.out⟩
        | some x =>
          obtain ⟨hx, hlk⟩ := ho x rfl
          have HK : Hid (lookL (l.drop j) (deep - 1) x = lookL l (deep - 1) (left - 1)) := hlk
          clear ho hno hlk
          simp only [lookI]
          by_cases hlt : j < l.length
          · obtain ⟨b, off, rfl, hB, ht⟩ := RepL.at l ao ((Keeps.below HB2.out B).repL _ _ HR.out) j hlt
            obtain ⟨tk, tn, ts, tao, tlen, tcap, c0, c1, c2, c3, hv⟩ := ht.cells
            have HV : Hid (RepV B wr l[j] (.agg #[.int .i64 tk, .int .i64 tn, .string ts, .slice tao tlen tcap])) := hv
            have HT : Hid (LookT l[j]) := IH.out _ (List.getElem_mem hlt)
            have HD := lookL_drop l j hlt (deep - 1) x
            have HD' : Hid (lookL (l.drop j) (deep - 1) x = match look l[j] (deep - 1) x with | none => none | some y => lookL (l.drop (j + 1)) (deep - 1) y) := HD
            have HLe : Hid (∀ y, look l[j] (deep - 1) x = some y → y ≤ x) := fun y hy => look_le _ _ _ _ hy
            clear hv ht HD
            go_wp2_with fail
            rw [show ((deep : Int) - 1) = ((deep - 1 : Nat) : Int) by omega]
            refine (HT.out B _ _ (deep - 1) x HV.out (by omega) (by omega)).mono ?_
            rintro e w2 ⟨rfl, hb4⟩
            have HB4 : Hid (Below w1.heap.size w1 w2) := HB3.out.trans (hb4.mono HB3.out.size)
            clear hb4
            revert HD' HLe
            generalize look l[j] (deep - 1) x = o'
            intro HD' HLe
            go_wp2_with fail
            go_roundw
            case rel =>
              refine ⟨j + 1, o', by omega, by go_num, rfl, fun y hy => ?_, fun hn => ?_, HB4.out⟩
              · subst hy
                exact ⟨by have := HLe.out y rfl; omega, by rw [← HK.out, HD'.out]⟩
              · subst hn
                rw [← HK.out, HD'.out]
            case measure => simp [intOf]; omega
          · go_wp2_with fail
            go_ret
            have hjl : j = l.length := by omega
            have h := HK.out
            rw [hjl, List.drop_length, lookL] at h
            exact ⟨ret_int (by rw [HF.out, ← h]; rfl), HB2.out⟩
theorem look_all : ∀ t, LookT t := Tm.ind fun k n s l ih => look_of k n s l ih
end Go.Proofs.YtfjaphhijefdlaaGreatDoor
namespace Go.Proofs.YtfjaphhijefdlaaGreatDoor
open Go.RowKit Atom
set_option linter.unusedVariables false

/-- What spendTerm answers. -/
def spendN (o : Option Nat) : Int := match o with | none => 0 | some x => x
theorem ret_pair {a b : Int} {x y : Bool} (h : a = b) (k : x = y) : Ending.returned (.tuple #[.int .i64 a, .bool x]) = .returned (.tuple #[.int .i64 b, .bool y]) := by rw [h, k]

def SpendT (t : Tm) : Prop := ∀ (B : Nat) (w : World) (v : Value) (deep left : Nat), RepV B w t v → deep ≤ 6 → left ≤ 100 →
  Calls Tryz.prog 34 #[v, .int .i64 deep, .int .i64 left] w fun e w' => e = .returned (.tuple #[.int .i64 (spendN (look t deep left)), .bool (look t deep left).isSome]) ∧ Below w.heap.size w w'

set_option maxRecDepth 100000 in
set_option maxHeartbeats 1000000 in
theorem spend_of (k n : Int) (s : ByteArray) (l : List Tm) (ih : ∀ t, t ∈ l → SpendT t) : SpendT (.mk k n s l) := by
  intro B w v deep left hv hd hm
  obtain ⟨ao, cap, rfl, hs, hl, hc, hr⟩ := hv
  have IH : Hid (∀ t, t ∈ l → SpendT t) := ih
  have HR : Hid (RepL B w l ao) := hr
  have HE : Hid (look (.mk k n s l) deep left = if deep = 0 ∨ left = 0 ∨ shapeB k n s l.length = false then none else lookL l (deep - 1) (left - 1)) := by
    show look _ _ _ = _; rw [look]
  have HS : Hid (s.size ≤ maxLen) := hs
  clear ih hr hs
  unfold maxLen at hc
  by_cases h0 : deep = 0 ∨ left = 0
  · have HF : Hid (look (.mk k n s l) deep left = none) := by
      show _ = _; rw [HE.out, if_pos (by omega)]
    by_cases h1 : deep = 0
    · subst h1
      go_enter Tryz.func34, Tryz.ntmps34
      go_wp2_with fail
      go_ret2
      exact ⟨ret_pair (by rw [HF.out]; rfl) (by rw [HF.out]; rfl), (Below.refl _ _).alloc (Nat.le_refl _) _⟩
    · have h2 : left = 0 := by omega
      subst h2
      have d1 : ((deep : Int) == 0) = false := by simp; omega
      go_enter Tryz.func34, Tryz.ntmps34
      go_wp2_with fail
      go_ret2
      exact ⟨ret_pair (by rw [HF.out]; rfl) (by rw [HF.out]; rfl), (Below.refl _ _).alloc (Nat.le_refl _) _⟩
  · have h1 : 1 ≤ deep := by omega
    have h2 : 1 ≤ left := by omega
    have d1 : ((deep : Int) == 0) = false := by simp; omega
    have d2 : ((left : Int) == 0) = false := by simp; omega
    clear h0
    go_enter Tryz.func34, Tryz.ntmps34
    go_wp2_with fail
    refine (right_any k n s HS.out ao l.length cap _).mono ?_
    rintro e w1 ⟨rfl, hb1⟩
    obtain ⟨hz, q1, f1⟩ := one_new (hb1.mono (by simp))
    have HB1 : Hid (Below w.heap.size w w1) := ((Below.refl _ _).alloc (Nat.le_refl _) _).trans (hb1.mono (by simp))
    clear hb1
    cases hsh : shapeB k n s l.length
    · have HF : Hid (look (.mk k n s l) deep left = none) := by
        show _ = _; rw [HE.out, if_pos (by right; right; exact hsh)]
      clear HE
      go_wp2_with fail
      go_ret2
      exact ⟨ret_pair (by rw [HF.out]; rfl) (by rw [HF.out]; rfl), HB1.out⟩
    · have HF : Hid (look (.mk k n s l) deep left = lookL l (deep - 1) (left - 1)) := by
        show _ = _; rw [HE.out, if_neg (by rw [hsh]; simp; omega)]
      clear HE
      go_wp2_with fail
      go_loopw [2, 28] (fun a i w' => ∃ (j x : Nat), j ≤ l.length ∧ i = .int .i64 j ∧ a = .int .i64 x ∧ x ≤ left ∧ lookL (l.drop j) (deep - 1) x = lookL l (deep - 1) (left - 1) ∧ Below w1.heap.size w1 w') (fun _ i _ => l.length - (intOf i).toNat)
      case atStart => exact ⟨0, left - 1, Nat.zero_le _, rfl, by congr 1; omega, by omega, rfl, Below.refl _ _⟩
      case round =>
        obtain ⟨j, x, hj, rfl, rfl, hx, hlk, hb2⟩ := hrel
        have HB2 : Hid (Below w.heap.size w wr) := HB1.out.trans (hb2.mono (by omega))
        have HB3 : Hid (Below w1.heap.size w1 wr) := hb2
        have HK : Hid (lookL (l.drop j) (deep - 1) x = lookL l (deep - 1) (left - 1)) := hlk
        clear hb2 q1 f1 hlk
        by_cases hlt : j < l.length
        · obtain ⟨b, off, rfl, hB, ht⟩ := RepL.at l ao ((Keeps.below HB2.out B).repL _ _ HR.out) j hlt
          obtain ⟨tk, tn, ts, tao, tlen, tcap, c0, c1, c2, c3, hv⟩ := ht.cells
          have HV : Hid (RepV B wr l[j] (.agg #[.int .i64 tk, .int .i64 tn, .string ts, .slice tao tlen tcap])) := hv
          have HT : Hid (SpendT l[j]) := IH.out _ (List.getElem_mem hlt)
          have HD := lookL_drop l j hlt (deep - 1) x
          have HD' : Hid (lookL (l.drop j) (deep - 1) x = match look l[j] (deep - 1) x with | none => none | some y => lookL (l.drop (j + 1)) (deep - 1) y) := HD
          have HLe : Hid (∀ y, look l[j] (deep - 1) x = some y → y ≤ x) := fun y hy => look_le _ _ _ _ hy
          clear hv ht HD
          go_wp2_with fail
          rw [show ((deep : Int) - 1) = ((deep - 1 : Nat) : Int) by omega]
          refine (HT.out B _ _ (deep - 1) x ((Keeps.below ?_ B).repV HV.out) (by omega) (by omega)).mono ?_
          · exact (Below.refl _ _).alloc (Nat.le_refl _) _
          rintro e w2 ⟨rfl, hb4⟩
          have HB4 : Hid (Below w1.heap.size w1 w2) := (HB3.out.alloc HB3.out.size _).trans (hb4.mono (by have := HB3.out.size; simp; omega))
          clear hb4 c0 c1 c2 c3
          revert HD' HLe
          generalize look l[j] (deep - 1) x = o'
          intro HD' HLe
          cases o' with
          | none =>
            have HN : Hid (look (.mk k n s l) deep left = none) := by show _ = _; rw [HF.out, ← HK.out, HD'.out]
            simp only [spendN, Option.isSome_none]
            go_wp2_with fail
            go_ret2
            exact ⟨ret_pair (by rw [HN.out]; rfl) (by rw [HN.out]; rfl), HB1.out.trans (HB4.out.mono (by omega))⟩
          | some y =>
            simp only [spendN, Option.isSome_some]
            go_wp2_with fail
            go_roundw
            case rel => exact ⟨j + 1, y, by omega, by go_num, rfl, by have := HLe.out y rfl; omega, by rw [← HK.out, HD'.out], HB4.out⟩
            case measure => simp [intOf]; omega
        · go_wp2_with fail
          go_ret2
          have hjl : j = l.length := by omega
          have h := HK.out
          rw [hjl, List.drop_length, lookL] at h
          exact ⟨ret_pair (by rw [HF.out, ← h]; rfl) (by rw [HF.out, ← h]; rfl), HB2.out⟩
theorem spend_all : ∀ t, SpendT t := Tm.ind fun k n s l ih => spend_of k n s l ih
end Go.Proofs.YtfjaphhijefdlaaGreatDoor
namespace Go.Proofs.YtfjaphhijefdlaaGreatDoor
open Go.RowKit Atom
set_option linter.unusedVariables false

theorem RepV.form {B : Nat} {w : World} {t : Tm} {v : Value} (h : RepV B w t v) : ∃ a b c d e f, v = .agg #[.int .i64 a, .int .i64 b, .string c, .slice d e f] := by
  obtain ⟨k', n', s', l'⟩ := t
  obtain ⟨ao', cap', e', _⟩ := h
  exact ⟨_, _, _, _, _, _, e'⟩

set_option maxHeartbeats 400000 in
theorem specOk_any (t : Tm) (B : Nat) (w : World) (v : Value) (hv : RepV B w t v) :
    Calls Tryz.prog 22 #[v] w fun e w' => e = .returned (.bool (look t 6 100).isSome) ∧ Below w.heap.size w w' := by
  obtain ⟨a, b, c, d, e, f, rfl⟩ := hv.form
  have HV : Hid (RepV B w t (.agg #[.int .i64 a, .int .i64 b, .string c, .slice d e f])) := hv
  clear hv
  go_enter Tryz.func22, Tryz.ntmps22
  go_wp2_with fail
  refine (look_all t B _ _ 6 100 ((Keeps.below ?_ B).repV HV.out) (by omega) (by omega)).mono ?_
  · exact (Below.refl _ _).alloc (Nat.le_refl _) _
  rintro e w1 ⟨rfl, hb1⟩
  have HB1 : Hid (Below w.heap.size w w1) := ((Below.refl _ _).alloc (Nat.le_refl _) _).trans (hb1.mono (by simp))
  clear hb1
  generalize ho : look t 6 100 = o
  have HO : Hid (look t 6 100 = o) := ho
  clear ho
  cases o with
  | none =>
    simp only [lookI]
    go_wp2_with fail
    go_ret
    exact ⟨ret_bool (by rw [HO.out]; rfl), HB1.out⟩
  | some x =>
    simp only [lookI]
    have hx : (0 : Int) ≤ (x : Int) := by omega
    go_wp2_with fail
    go_ret
    exact ⟨ret_bool (by rw [HO.out]; simp), HB1.out⟩

set_option maxHeartbeats 400000 in
theorem implOk_any (t : Tm) (B : Nat) (w : World) (v : Value) (hv : RepV B w t v) :
    Calls Tryz.prog 16 #[v] w fun e w' => e = .returned (.bool (look t 6 100).isSome) ∧ Below w.heap.size w w' := by
  obtain ⟨a, b, c, d, e, f, rfl⟩ := hv.form
  have HV : Hid (RepV B w t (.agg #[.int .i64 a, .int .i64 b, .string c, .slice d e f])) := hv
  clear hv
  go_enter Tryz.func16, Tryz.ntmps16
  go_wp2_with fail
  refine (spend_all t B _ _ 6 100 ((Keeps.below ?_ B).repV HV.out) (by omega) (by omega)).mono ?_
  · exact (Below.refl _ _).alloc (Nat.le_refl _) _
  rintro e w1 ⟨rfl, hb1⟩
  have HB1 : Hid (Below w.heap.size w w1) := ((Below.refl _ _).alloc (Nat.le_refl _) _).trans (hb1.mono (by simp))
  clear hb1
  go_wp2_with fail
  go_ret
  exact ⟨rfl, HB1.out⟩

theorem Below.repV {w w' : World} {B : Nat} {t : Tm} {v : Value} (h : Below w.heap.size w w') (hv : RepV B w t v) : RepV B w' t v := (Keeps.below h B).repV hv

end Go.Proofs.YtfjaphhijefdlaaGreatDoor
