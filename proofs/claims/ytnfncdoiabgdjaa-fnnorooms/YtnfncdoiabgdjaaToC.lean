/-
  Two forms held against each other: orderAlone.
-/
import Derived.Test.YtnfncdoiabgdjaaToB
namespace Go.Proofs.Ytnfncdoiabgdjaa
open Go.RowKit
set_option linter.unusedVariables false

theorem is_int (v : Value) (W : World) : (Instr.typeAssert (.iface 96 v) 78 96 false).run Try.prog W = .ok v W := by kernel_rfl
theorem is_atom (v : Value) (W : World) : (Instr.typeAssert (.iface 97 v) 78 97 false).run Try.prog W = .ok v W := by kernel_rfl
theorem is_pid (v : Value) (W : World) : (Instr.typeAssert (.iface 98 v) 78 98 false).run Try.prog W = .ok v W := by kernel_rfl
theorem is_tuple (v : Value) (W : World) : (Instr.typeAssert (.iface 99 v) 78 99 false).run Try.prog W = .ok v W := by kernel_rfl
theorem is_bin (v : Value) (W : World) : (Instr.typeAssert (.iface 101 v) 78 101 false).run Try.prog W = .ok v W := by kernel_rfl
theorem assert_84_85 (v : Value) (W : World) : (Instr.typeAssert (.iface 100 v) 78 101 true).run Try.prog W = .ok (.tuple #[.string ⟨#[]⟩, .bool false]) W := by kernel_rfl

set_option maxRecDepth 100000 in
set_option maxHeartbeats 1000000 in
theorem alone_int (n n' : Int) (w : World) :
    Calls Try.prog 43 #[.iface 96 (.int .i64 n), .iface 96 (.int .i64 n')] w fun e w' => e = .returned (.int .i64 (cmpI n n')) ∧ w' = w := by
  have m1 := meth_int
  have a80 := assert_80_80
  have i1 := is_int
  go_enter Try.func43, Try.ntmps43
  go_wp2_with (first | (go_at_call 86; refine (kind_int _ _).mono ?_; rintro e w1 ⟨rfl, hw⟩; obtain rfl := hw.symm) | (go_at_call 51; refine (cmp_intForm _ _ _).mono ?_; rintro e w1 ⟨rfl, hw⟩; obtain rfl := hw.symm))
  go_ret
  exact ⟨rfl, rfl⟩
set_option maxRecDepth 100000 in
set_option maxHeartbeats 1000000 in
theorem alone_atom (s s' : ByteArray) (w : World) :
    Calls Try.prog 43 #[.iface 97 (.string s), .iface 97 (.string s')] w fun e w' => e = .returned (.int .i64 (cmpS s s')) ∧ w' = w := by
  have m1 := meth_atom
  have a80 := assert_81_80
  have a81 := assert_81_81
  have i1 := is_atom
  go_enter Try.func43, Try.ntmps43
  go_wp2_with (first | (go_at_call 87; refine (kind_atom _ _).mono ?_; rintro e w1 ⟨rfl, hw⟩; obtain rfl := hw.symm) | (go_at_call 52; refine (cmp_atomForm _ _ _).mono ?_; rintro e w1 ⟨rfl, hw⟩; obtain rfl := hw.symm))
  go_ret
  exact ⟨rfl, rfl⟩
set_option maxRecDepth 100000 in
set_option maxHeartbeats 1000000 in
theorem alone_pid (n n' : Int) (w : World) :
    Calls Try.prog 43 #[.iface 98 (.int .i64 n), .iface 98 (.int .i64 n')] w fun e w' => e = .returned (.int .i64 (cmpI n n')) ∧ w' = w := by
  have m1 := meth_pid
  have a80 := assert_82_80
  have a81 := assert_82_81
  have a82 := assert_82_82
  have i1 := is_pid
  go_enter Try.func43, Try.ntmps43
  go_wp2_with (first | (go_at_call 88; refine (kind_pid _ _).mono ?_; rintro e w1 ⟨rfl, hw⟩; obtain rfl := hw.symm) | (go_at_call 53; refine (cmp_pidForm _ _ _).mono ?_; rintro e w1 ⟨rfl, hw⟩; obtain rfl := hw.symm))
  go_ret
  exact ⟨rfl, rfl⟩
set_option maxRecDepth 100000 in
set_option maxHeartbeats 1000000 in
theorem alone_tuple (ao ao' : Option Addr) (len len' cap cap' : Nat) (w : World) :
    Calls Try.prog 43 #[.iface 99 (.slice ao len cap), .iface 99 (.slice ao' len' cap')] w fun e w' => e = .returned (.int .i64 (cmpI len len')) ∧ w' = w := by
  have m1 := meth_tuple
  have a80 := assert_83_80
  have a81 := assert_83_81
  have a82 := assert_83_82
  have a83 := assert_83_83
  have i1 := is_tuple
  go_enter Try.func43, Try.ntmps43
  go_wp2_with (first | (go_at_call 89; refine (kind_tuple _ _).mono ?_; rintro e w1 ⟨rfl, hw⟩; obtain rfl := hw.symm) | (go_at_call 41; refine (cmpInt_any _ _ _).mono ?_; rintro e w1 ⟨rfl, hw⟩; obtain rfl := hw.symm))
  go_ret
  exact ⟨rfl, rfl⟩
set_option maxRecDepth 100000 in
set_option maxHeartbeats 1000000 in
theorem alone_list (x x' : Value) (w : World) :
    Calls Try.prog 43 #[.iface 100 (x), .iface 100 (x')] w fun e w' => e = .returned (.int .i64 (0)) ∧ w' = w := by
  have m1 := meth_list
  have a80 := assert_84_80
  have a81 := assert_84_81
  have a82 := assert_84_82
  have a83 := assert_84_83
  have a85 := assert_84_85
  go_enter Try.func43, Try.ntmps43
  go_wp2_with (first | (go_at_call 90; refine (kind_list _ _).mono ?_; rintro e w1 ⟨rfl, hw⟩; obtain rfl := hw.symm))
  go_ret
  exact ⟨rfl, rfl⟩
set_option maxRecDepth 100000 in
set_option maxHeartbeats 1000000 in
theorem alone_bin (s s' : ByteArray) (w : World) :
    Calls Try.prog 43 #[.iface 101 (.string s), .iface 101 (.string s')] w fun e w' => e = .returned (.int .i64 (cmpS s s')) ∧ w' = w := by
  have m1 := meth_bin
  have a80 := assert_85_80
  have a81 := assert_85_81
  have a82 := assert_85_82
  have a83 := assert_85_83
  have a85 := assert_85_85
  have i1 := is_bin
  go_enter Try.func43, Try.ntmps43
  go_wp2_with (first | (go_at_call 91; refine (kind_bin _ _).mono ?_; rintro e w1 ⟨rfl, hw⟩; obtain rfl := hw.symm) | (go_at_call 54; refine (cmp_binForm _ _ _).mono ?_; rintro e w1 ⟨rfl, hw⟩; obtain rfl := hw.symm))
  go_ret
  exact ⟨rfl, rfl⟩
set_option maxRecDepth 100000 in
set_option maxHeartbeats 1000000 in
theorem alone_no (k : Int) (w : World) :
    Calls Try.prog 43 #[.iface 102 (.int .i64 k), .iface 102 (.int .i64 k)] w fun e w' => e = .returned (.int .i64 (0)) ∧ w' = w := by
  have m1 := meth_no
  have a80 := assert_86_80
  have a81 := assert_86_81
  have a82 := assert_86_82
  have a83 := assert_86_83
  have a85 := assert_86_85
  go_enter Try.func43, Try.ntmps43
  go_wp2_with (first | (go_at_call 92; refine (kind_no _ _).mono ?_; rintro e w1 ⟨rfl, hw⟩; obtain rfl := hw.symm))
  go_ret
  exact ⟨rfl, rfl⟩

/-- Both forms of two terms. -/
theorem orderAlone_any (k n : Int) (s : ByteArray) (ao : Option Addr) (len cap : Nat) (k' n' : Int) (s' : ByteArray) (ao' : Option Addr) (len' cap' : Nat) (w : World) :
    Calls Try.prog 43 #[frm k n s (.slice ao len cap), frm k' n' s' (.slice ao' len' cap')] w fun e w' => e = .returned (.int .i64 (thenC (cmpI k k') (ownC k n s len n' s' len'))) ∧ w' = w := by
  by_cases he : k = k'
  · subst he
    have h0 : cmpI k k = 0 := (cmpI_zero k k).2 rfl
    have h1 : thenC (cmpI k k) (ownC k n s len n' s' len') = ownC k n s len n' s' len' := by unfold thenC; rw [if_pos h0]
    rw [h1]
    by_cases hk : 1 ≤ k ∧ k ≤ 6
    · rcases kinds hk with rfl | rfl | rfl | rfl | rfl | rfl
      · exact alone_int n n' w
      · exact alone_atom s s' w
      · exact alone_pid n n' w
      · exact alone_tuple ao ao' len len' cap cap' w
      · exact alone_list _ _ w
      · exact alone_bin s s' w
    · have h2 : ownC k n s len n' s' len' = 0 := by
        unfold ownC
        rw [if_neg (by omega), if_neg (by omega), if_neg (by omega)]
      rw [h2, frm_no n s _ hk, frm_no n' s' _ hk]
      exact alone_no k w
  · have h1 : thenC (cmpI k k') (ownC k n s len n' s' len') = cmpI k k' := by
      unfold thenC; rw [if_neg (fun h => he ((cmpI_zero k k').1 h))]
    rw [h1]
    obtain ⟨t, u, f, h⟩ := fm_of k n s (.slice ao len cap)
    obtain ⟨t', u', f', h'⟩ := fm_of k' n' s' (.slice ao' len' cap')
    exact alone_unlike h h' he w
end Go.Proofs.Ytnfncdoiabgdjaa
