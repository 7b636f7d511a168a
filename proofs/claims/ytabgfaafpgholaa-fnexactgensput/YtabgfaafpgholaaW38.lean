/-
  Two forms held against each other.
-/
import Derived.Test.YtabgfaafpgholaaW37
namespace Go.Proofs.Ytabgfaafpgholaa
open Go.RowKit
set_option linter.unusedVariables false

theorem innerOf_any (k n : Int) (s : ByteArray) (ao : Option Addr) (len cap : Nat) (w : World) :
    Calls Try.prog 85 #[frm k n s (.slice ao len cap)] w fun e w' => e = .returned (inn k (.slice ao len cap)) ∧ w' = w := by
  by_cases hk : 1 ≤ k ∧ k ≤ 6
  · rcases kinds hk with rfl | rfl | rfl | rfl | rfl | rfl
    · rw [frm_1]
      have q1 : ∀ W, (Instr.typeAssert (.iface 149 (.int .i64 n)) 122 137 true).run Try.prog W = .ok (.tuple #[.slice none 0 0, .bool false]) W := fun W => by kernel_rfl
      have q2 : ∀ W, (Instr.typeAssert (.iface 149 (.int .i64 n)) 122 139 true).run Try.prog W = .ok (.tuple #[.slice none 0 0, .bool false]) W := fun W => by kernel_rfl
      go_enter Try.func85, Try.ntmps85
      go_wp2_with fail
      go_ret
      exact ⟨rfl, rfl⟩
    · rw [frm_2]
      have q1 : ∀ W, (Instr.typeAssert (.iface 150 (.string s)) 122 137 true).run Try.prog W = .ok (.tuple #[.slice none 0 0, .bool false]) W := fun W => by kernel_rfl
      have q2 : ∀ W, (Instr.typeAssert (.iface 150 (.string s)) 122 139 true).run Try.prog W = .ok (.tuple #[.slice none 0 0, .bool false]) W := fun W => by kernel_rfl
      go_enter Try.func85, Try.ntmps85
      go_wp2_with fail
      go_ret
      exact ⟨rfl, rfl⟩
    · rw [frm_3]
      have q1 : ∀ W, (Instr.typeAssert (.iface 151 (.int .i64 n)) 122 137 true).run Try.prog W = .ok (.tuple #[.slice none 0 0, .bool false]) W := fun W => by kernel_rfl
      have q2 : ∀ W, (Instr.typeAssert (.iface 151 (.int .i64 n)) 122 139 true).run Try.prog W = .ok (.tuple #[.slice none 0 0, .bool false]) W := fun W => by kernel_rfl
      go_enter Try.func85, Try.ntmps85
      go_wp2_with fail
      go_ret
      exact ⟨rfl, rfl⟩
    · rw [frm_4]
      have q1 := assert_83_83
      go_enter Try.func85, Try.ntmps85
      go_wp2_with fail
      go_ret
      exact ⟨rfl, rfl⟩
    · rw [frm_5]
      have q1 := assert_84_83
      have q2 := assert_84_84
      go_enter Try.func85, Try.ntmps85
      go_wp2_with fail
      go_ret
      exact ⟨rfl, rfl⟩
    · rw [frm_6]
      have q1 := assert_85_83
      have q2 := assert_85_84
      go_enter Try.func85, Try.ntmps85
      go_wp2_with fail
      go_ret
      exact ⟨rfl, rfl⟩
  · rw [frm_no n s _ hk]
    have HI : Hid (inn k (.slice ao len cap) = .slice none 0 0) := if_neg (by omega)
    have q1 := assert_86_83
    have q2 := assert_86_84
    go_enter Try.func85, Try.ntmps85
    go_wp2_with fail
    go_ret
    exact ⟨by rw [HI.out]; rfl, rfl⟩

theorem meth_int (v : Value) (w : World) : (method 290 149 v "loop.example/g00248/impl.kind").run Try.prog w = .ok (153, v) w := by kernel_rfl
theorem meth_atom (v : Value) (w : World) : (method 290 150 v "loop.example/g00248/impl.kind").run Try.prog w = .ok (154, v) w := by kernel_rfl
theorem meth_pid (v : Value) (w : World) : (method 290 151 v "loop.example/g00248/impl.kind").run Try.prog w = .ok (155, v) w := by kernel_rfl
theorem meth_tuple (v : Value) (w : World) : (method 290 137 v "loop.example/g00248/impl.kind").run Try.prog w = .ok (150, v) w := by kernel_rfl
theorem meth_list (v : Value) (w : World) : (method 290 139 v "loop.example/g00248/impl.kind").run Try.prog w = .ok (151, v) w := by kernel_rfl
theorem meth_bin (v : Value) (w : World) : (method 290 140 v "loop.example/g00248/impl.kind").run Try.prog w = .ok (152, v) w := by kernel_rfl
theorem meth_no (v : Value) (w : World) : (method 290 152 v "loop.example/g00248/impl.kind").run Try.prog w = .ok (156, v) w := by kernel_rfl
/-- A form, as its method kind sees it. -/
structure Fm (v : Value) (k : Int) (t : TypeId) (u : Value) (f : FuncId) : Prop where
  eq : v = .iface t u
  meth : ∀ w : World, (method 290 t u "loop.example/g00248/impl.kind").run Try.prog w = .ok (f, u) w
  call : ∀ w : World, (callFunc f #[u]).run Try.prog w = .ok (.enter f #[u]) w
  kind : ∀ w : World, Calls Try.prog f #[u] w fun e w' => e = .returned (.int .i64 k) ∧ w' = w
theorem kind_int (u : Value) (w : World) : Calls Try.prog 153 #[u] w fun e w' => e = .returned (.int .i64 1) ∧ w' = w := by
  go_enter Try.func153, Try.ntmps153
  go_wp2_with fail
  go_ret
  exact ⟨rfl, rfl⟩
theorem kind_atom (u : Value) (w : World) : Calls Try.prog 154 #[u] w fun e w' => e = .returned (.int .i64 2) ∧ w' = w := by
  go_enter Try.func154, Try.ntmps154
  go_wp2_with fail
  go_ret
  exact ⟨rfl, rfl⟩
theorem kind_pid (u : Value) (w : World) : Calls Try.prog 155 #[u] w fun e w' => e = .returned (.int .i64 3) ∧ w' = w := by
  go_enter Try.func155, Try.ntmps155
  go_wp2_with fail
  go_ret
  exact ⟨rfl, rfl⟩
theorem kind_tuple (u : Value) (w : World) : Calls Try.prog 150 #[u] w fun e w' => e = .returned (.int .i64 4) ∧ w' = w := by
  go_enter Try.func150, Try.ntmps150
  go_wp2_with fail
  go_ret
  exact ⟨rfl, rfl⟩
theorem kind_list (u : Value) (w : World) : Calls Try.prog 151 #[u] w fun e w' => e = .returned (.int .i64 5) ∧ w' = w := by
  go_enter Try.func151, Try.ntmps151
  go_wp2_with fail
  go_ret
  exact ⟨rfl, rfl⟩
theorem kind_bin (u : Value) (w : World) : Calls Try.prog 152 #[u] w fun e w' => e = .returned (.int .i64 6) ∧ w' = w := by
  go_enter Try.func152, Try.ntmps152
  go_wp2_with fail
  go_ret
  exact ⟨rfl, rfl⟩
theorem kind_no (k : Int) (w : World) : Calls Try.prog 156 #[.int .i64 k] w fun e w' => e = .returned (.int .i64 k) ∧ w' = w := by
  go_enter Try.func156, Try.ntmps156
  go_wp2_with fail
  go_ret
  exact ⟨rfl, rfl⟩
theorem fm_of (k n : Int) (s : ByteArray) (x : Value) : ∃ t u f, Fm (frm k n s x) k t u f := by
  by_cases hk : 1 ≤ k ∧ k ≤ 6
  · rcases kinds hk with rfl | rfl | rfl | rfl | rfl | rfl
    · exact ⟨_, _, _, frm_1 n s x, meth_int _, fun w => by kernel_rfl, kind_int _⟩
    · exact ⟨_, _, _, frm_2 n s x, meth_atom _, fun w => by kernel_rfl, kind_atom _⟩
    · exact ⟨_, _, _, frm_3 n s x, meth_pid _, fun w => by kernel_rfl, kind_pid _⟩
    · exact ⟨_, _, _, frm_4 n s x, meth_tuple _, fun w => by kernel_rfl, kind_tuple _⟩
    · exact ⟨_, _, _, frm_5 n s x, meth_list _, fun w => by kernel_rfl, kind_list _⟩
    · exact ⟨_, _, _, frm_6 n s x, meth_bin _, fun w => by kernel_rfl, kind_bin _⟩
  · exact ⟨_, _, _, frm_no n s x hk, meth_no _, fun w => by kernel_rfl, kind_no k⟩

set_option maxRecDepth 100000 in
set_option maxHeartbeats 1000000 in
theorem alone_unlike {v v' : Value} {k k' : Int} {t t' : TypeId} {u u' : Value} {f f' : FuncId} (h : Fm v k t u f) (h' : Fm v' k' t' u' f') (hne : k ≠ k') (w : World) :
    Calls Try.prog 84 #[v, v'] w fun e w' => e = .returned (.int .i64 (cmpI k k')) ∧ w' = w := by
  obtain ⟨rfl, m1, f1, c1⟩ := h
  obtain ⟨rfl, m2, f2, c2⟩ := h'
  have HC1 : Hid (∀ w : World, Calls Try.prog f #[u] w fun e w' => e = .returned (.int .i64 k) ∧ w' = w) := c1
  have HC2 : Hid (∀ w : World, Calls Try.prog f' #[u'] w fun e w' => e = .returned (.int .i64 k') ∧ w' = w) := c2
  have HCM : Hid (∀ w : World, Calls Try.prog 82 #[.int .i64 k, .int .i64 k'] w fun e w' => e = .returned (.int .i64 (cmpI k k')) ∧ w' = w) := fun w => cmpInt_any k k' w
  have b1 : (k == k') = false := beq_eq_false_iff_ne.2 hne
  generalize cmpI k k' = C at HCM ⊢
  clear c1 c2
  go_enter Try.func84, Try.ntmps84
  go_wp2_with (first | (refine (HC1.out _).mono ?_; rintro e w1 ⟨rfl, hw⟩; obtain rfl := hw.symm) | (refine (HC2.out _).mono ?_; rintro e w1 ⟨rfl, hw⟩; obtain rfl := hw.symm) | (refine (HCM.out _).mono ?_; rintro e w1 ⟨rfl, hw⟩; obtain rfl := hw.symm))
  go_ret
  exact ⟨rfl, rfl⟩
end Go.Proofs.Ytabgfaafpgholaa
