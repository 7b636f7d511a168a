/-
  The order of terms, as reckoning: two right terms that are not told apart are one.
  (Ahead of it, in this text: Two forms held against each other. Two forms held against each other: orderAlone. Maps whose keys are pairs of names of lists. Lookup and update of a map whose keys are pairs of names of lists. What lies at one address is one term; what a stack of pairs of lists answers. The program's comparison of two terms: what its stack of pairs of lists holds. The program's comparison of two terms: its stack and its map, round by round. The program's comparison of two terms, walked.)
-/
import Derived.Test.YtfjaphhijefdlaaGreatDoorC7
import Derived.Test.YtfjaphhijefdlaaGreatDoorC2
import Derived.Test.YtfjaphhijefdlaaGreatDoorInn
import Derived.Laws.OwnMore
import Derived.Maps.AppendAt
import Derived.WalkSmall
import Derived.Deep.LoopGhost
import Derived.Deep.CutRange
import Derived.Deep.RegionHeld3
import Derived.Deep.RegionLaw
namespace Go.Proofs.YtfjaphhijefdlaaGreatDoor
open Go.RowKit
set_option linter.unusedVariables false

theorem innerOf_any (k n : Int) (s : ByteArray) (ao : Option Addr) (len cap : Nat) (w : World) :
    Calls Tryz.prog 46 #[frm k n s (.slice ao len cap)] w fun e w' => e = .returned (inn k (.slice ao len cap)) ∧ w' = w := by
  by_cases hk : 1 ≤ k ∧ k ≤ 6
  · rcases kinds hk with rfl | rfl | rfl | rfl | rfl | rfl
    · rw [frm_1]
      have q1 : ∀ W, (Instr.typeAssert (.iface 118 (.int .i64 n)) 86 121 true).run Tryz.prog W = .ok (.tuple #[.slice none 0 0, .bool false]) W := fun W => by kernel_rfl
      have q2 : ∀ W, (Instr.typeAssert (.iface 118 (.int .i64 n)) 86 122 true).run Tryz.prog W = .ok (.tuple #[.slice none 0 0, .bool false]) W := fun W => by kernel_rfl
      go_enter Tryz.func46, Tryz.ntmps46
      go_wp2_with fail
      go_ret
      exact ⟨rfl, rfl⟩
    · rw [frm_2]
      have q1 : ∀ W, (Instr.typeAssert (.iface 119 (.string s)) 86 121 true).run Tryz.prog W = .ok (.tuple #[.slice none 0 0, .bool false]) W := fun W => by kernel_rfl
      have q2 : ∀ W, (Instr.typeAssert (.iface 119 (.string s)) 86 122 true).run Tryz.prog W = .ok (.tuple #[.slice none 0 0, .bool false]) W := fun W => by kernel_rfl
      go_enter Tryz.func46, Tryz.ntmps46
      go_wp2_with fail
      go_ret
      exact ⟨rfl, rfl⟩
    · rw [frm_3]
      have q1 : ∀ W, (Instr.typeAssert (.iface 120 (.int .i64 n)) 86 121 true).run Tryz.prog W = .ok (.tuple #[.slice none 0 0, .bool false]) W := fun W => by kernel_rfl
      have q2 : ∀ W, (Instr.typeAssert (.iface 120 (.int .i64 n)) 86 122 true).run Tryz.prog W = .ok (.tuple #[.slice none 0 0, .bool false]) W := fun W => by kernel_rfl
      go_enter Tryz.func46, Tryz.ntmps46
      go_wp2_with fail
      go_ret
      exact ⟨rfl, rfl⟩
    · rw [frm_4]
      have q1 := assert_83_83
      go_enter Tryz.func46, Tryz.ntmps46
      go_wp2_with fail
      go_ret
      exact ⟨rfl, rfl⟩
    · rw [frm_5]
      have q1 := assert_84_83
      have q2 := assert_84_84
      go_enter Tryz.func46, Tryz.ntmps46
      go_wp2_with fail
      go_ret
      exact ⟨rfl, rfl⟩
    · rw [frm_6]
      have q1 := assert_85_83
      have q2 := assert_85_84
      go_enter Tryz.func46, Tryz.ntmps46
      go_wp2_with fail
      go_ret
      exact ⟨rfl, rfl⟩
  · rw [frm_no n s _ hk]
    have HI : Hid (inn k (.slice ao len cap) = .slice none 0 0) := if_neg (by omega)
    have q1 := assert_86_83
    have q2 := assert_86_84
    go_enter Tryz.func46, Tryz.ntmps46
    go_wp2_with fail
    go_ret
    exact ⟨by rw [HI.out]; rfl, rfl⟩

theorem meth_int (v : Value) (w : World) : (method 332 118 v "loop.example/g00248/impl.kind").run Tryz.prog w = .ok (130, v) w := by kernel_rfl
theorem meth_atom (v : Value) (w : World) : (method 332 119 v "loop.example/g00248/impl.kind").run Tryz.prog w = .ok (131, v) w := by kernel_rfl
theorem meth_pid (v : Value) (w : World) : (method 332 120 v "loop.example/g00248/impl.kind").run Tryz.prog w = .ok (132, v) w := by kernel_rfl
theorem meth_tuple (v : Value) (w : World) : (method 332 121 v "loop.example/g00248/impl.kind").run Tryz.prog w = .ok (133, v) w := by kernel_rfl
theorem meth_list (v : Value) (w : World) : (method 332 122 v "loop.example/g00248/impl.kind").run Tryz.prog w = .ok (134, v) w := by kernel_rfl
theorem meth_bin (v : Value) (w : World) : (method 332 123 v "loop.example/g00248/impl.kind").run Tryz.prog w = .ok (135, v) w := by kernel_rfl
theorem meth_no (v : Value) (w : World) : (method 332 124 v "loop.example/g00248/impl.kind").run Tryz.prog w = .ok (136, v) w := by kernel_rfl
/-- A form, as its method kind sees it. -/
structure Fm (v : Value) (k : Int) (t : TypeId) (u : Value) (f : FuncId) : Prop where
  eq : v = .iface t u
  meth : ∀ w : World, (method 332 t u "loop.example/g00248/impl.kind").run Tryz.prog w = .ok (f, u) w
  call : ∀ w : World, (callFunc f #[u]).run Tryz.prog w = .ok (.enter f #[u]) w
  kind : ∀ w : World, Calls Tryz.prog f #[u] w fun e w' => e = .returned (.int .i64 k) ∧ w' = w
theorem kind_int (u : Value) (w : World) : Calls Tryz.prog 130 #[u] w fun e w' => e = .returned (.int .i64 1) ∧ w' = w := by
  go_enter Tryz.func130, Tryz.ntmps130
  go_wp2_with fail
  go_ret
  exact ⟨rfl, rfl⟩
theorem kind_atom (u : Value) (w : World) : Calls Tryz.prog 131 #[u] w fun e w' => e = .returned (.int .i64 2) ∧ w' = w := by
  go_enter Tryz.func131, Tryz.ntmps131
  go_wp2_with fail
  go_ret
  exact ⟨rfl, rfl⟩
theorem kind_pid (u : Value) (w : World) : Calls Tryz.prog 132 #[u] w fun e w' => e = .returned (.int .i64 3) ∧ w' = w := by
  go_enter Tryz.func132, Tryz.ntmps132
  go_wp2_with fail
  go_ret
  exact ⟨rfl, rfl⟩
theorem kind_tuple (u : Value) (w : World) : Calls Tryz.prog 133 #[u] w fun e w' => e = .returned (.int .i64 4) ∧ w' = w := by
  go_enter Tryz.func133, Tryz.ntmps133
  go_wp2_with fail
  go_ret
  exact ⟨rfl, rfl⟩
theorem kind_list (u : Value) (w : World) : Calls Tryz.prog 134 #[u] w fun e w' => e = .returned (.int .i64 5) ∧ w' = w := by
  go_enter Tryz.func134, Tryz.ntmps134
  go_wp2_with fail
  go_ret
  exact ⟨rfl, rfl⟩
theorem kind_bin (u : Value) (w : World) : Calls Tryz.prog 135 #[u] w fun e w' => e = .returned (.int .i64 6) ∧ w' = w := by
  go_enter Tryz.func135, Tryz.ntmps135
  go_wp2_with fail
  go_ret
  exact ⟨rfl, rfl⟩
theorem kind_no (k : Int) (w : World) : Calls Tryz.prog 136 #[.int .i64 k] w fun e w' => e = .returned (.int .i64 k) ∧ w' = w := by
  go_enter Tryz.func136, Tryz.ntmps136
  go_wp2_with fail
  go_ret
  exact ⟨rfl, rfl⟩
theorem fm_of (k n : Int) (s : ByteArray) (x : Value) : ∃ t u f, Fm (frm k n s x) k t u f := by
  by_cases hk : 1 ≤ k ∧ k ≤ 6
  · rcases kinds hk with rfl | rfl | rfl | rfl | rfl | rfl
    · exact ⟨_, _, _, frm_1 n s x, meth_int _, fun w => by kernel_rfl, kind_int _⟩
    · exact ⟨_, _, _, frm_2 n s x, meth_atom _, fun w => by kernel_rfl, kind_atom _⟩
    · exact ⟨_, _, _, frm_3 n s x, meth_pid _, fun w => by kernel_rfl, kind_pid _⟩
    · exact ⟨_, _, _, frm_4 n s x, meth_tuple _, fun w => by kernel_rfl, kind_tuple _⟩
    · exact ⟨_, _, _, frm_5 n s x, meth_list _, fun w => by kernel_rfl, kind_list _⟩
    · exact ⟨_, _, _, frm_6 n s x, meth_bin _, fun w => by kernel_rfl, kind_bin _⟩
  · exact ⟨_, _, _, frm_no n s x hk, meth_no _, fun w => by kernel_rfl, kind_no k⟩

set_option maxRecDepth 100000 in
set_option maxHeartbeats 1000000 in
theorem alone_unlike {v v' : Value} {k k' : Int} {t t' : TypeId} {u u' : Value} {f f' : FuncId} (h : Fm v k t u f) (h' : Fm v' k' t' u' f') (hne : k ≠ k') (w : World) :
    Calls Tryz.prog 45 #[v, v'] w fun e w' => e = .returned (.int .i64 (cmpI k k')) ∧ w' = w := by
  obtain ⟨rfl, m1, f1, c1⟩ := h
  obtain ⟨rfl, m2, f2, c2⟩ := h'
  have HC1 : Hid (∀ w : World, Calls Tryz.prog f #[u] w fun e w' => e = .returned (.int .i64 k) ∧ w' = w) := c1
  have HC2 : Hid (∀ w : World, Calls Tryz.prog f' #[u'] w fun e w' => e = .returned (.int .i64 k') ∧ w' = w) := c2
  have HCM : Hid (∀ w : World, Calls Tryz.prog 43 #[.int .i64 k, .int .i64 k'] w fun e w' => e = .returned (.int .i64 (cmpI k k')) ∧ w' = w) := fun w => cmpInt_any k k' w
  have b1 : (k == k') = false := beq_eq_false_iff_ne.2 hne
  generalize cmpI k k' = C at HCM ⊢
  clear c1 c2
  go_enter Tryz.func45, Tryz.ntmps45
  go_wp2_with (first | (refine (HC1.out _).mono ?_; rintro e w1 ⟨rfl, hw⟩; obtain rfl := hw.symm) | (refine (HC2.out _).mono ?_; rintro e w1 ⟨rfl, hw⟩; obtain rfl := hw.symm) | (refine (HCM.out _).mono ?_; rintro e w1 ⟨rfl, hw⟩; obtain rfl := hw.symm))
  go_ret
  exact ⟨rfl, rfl⟩
end Go.Proofs.YtfjaphhijefdlaaGreatDoor
namespace Go.Proofs.YtfjaphhijefdlaaGreatDoor
open Go.RowKit
set_option linter.unusedVariables false

theorem is_int (v : Value) (W : World) : (Instr.typeAssert (.iface 118 v) 86 118 false).run Tryz.prog W = .ok v W := by kernel_rfl
theorem is_atom (v : Value) (W : World) : (Instr.typeAssert (.iface 119 v) 86 119 false).run Tryz.prog W = .ok v W := by kernel_rfl
theorem is_pid (v : Value) (W : World) : (Instr.typeAssert (.iface 120 v) 86 120 false).run Tryz.prog W = .ok v W := by kernel_rfl
theorem is_tuple (v : Value) (W : World) : (Instr.typeAssert (.iface 121 v) 86 121 false).run Tryz.prog W = .ok v W := by kernel_rfl
theorem is_bin (v : Value) (W : World) : (Instr.typeAssert (.iface 123 v) 86 123 false).run Tryz.prog W = .ok v W := by kernel_rfl
theorem assert_84_85 (v : Value) (W : World) : (Instr.typeAssert (.iface 122 v) 86 123 true).run Tryz.prog W = .ok (.tuple #[.string ⟨#[]⟩, .bool false]) W := by kernel_rfl

set_option maxRecDepth 100000 in
set_option maxHeartbeats 1000000 in
theorem alone_int (n n' : Int) (w : World) :
    Calls Tryz.prog 45 #[.iface 118 (.int .i64 n), .iface 118 (.int .i64 n')] w fun e w' => e = .returned (.int .i64 (cmpI n n')) ∧ w' = w := by
  have m1 := meth_int
  have a80 := assert_80_80
  have i1 := is_int
  go_enter Tryz.func45, Tryz.ntmps45
  go_wp2_with (first | (go_at_call 130; refine (kind_int _ _).mono ?_; rintro e w1 ⟨rfl, hw⟩; obtain rfl := hw.symm) | (go_at_call 64; refine (cmp_intForm _ _ _).mono ?_; rintro e w1 ⟨rfl, hw⟩; obtain rfl := hw.symm))
  go_ret
  exact ⟨rfl, rfl⟩
set_option maxRecDepth 100000 in
set_option maxHeartbeats 1000000 in
theorem alone_atom (s s' : ByteArray) (w : World) :
    Calls Tryz.prog 45 #[.iface 119 (.string s), .iface 119 (.string s')] w fun e w' => e = .returned (.int .i64 (cmpS s s')) ∧ w' = w := by
  have m1 := meth_atom
  have a80 := assert_81_80
  have a81 := assert_81_81
  have i1 := is_atom
  go_enter Tryz.func45, Tryz.ntmps45
  go_wp2_with (first | (go_at_call 131; refine (kind_atom _ _).mono ?_; rintro e w1 ⟨rfl, hw⟩; obtain rfl := hw.symm) | (go_at_call 65; refine (cmp_atomForm _ _ _).mono ?_; rintro e w1 ⟨rfl, hw⟩; obtain rfl := hw.symm))
  go_ret
  exact ⟨rfl, rfl⟩
set_option maxRecDepth 100000 in
set_option maxHeartbeats 1000000 in
theorem alone_pid (n n' : Int) (w : World) :
    Calls Tryz.prog 45 #[.iface 120 (.int .i64 n), .iface 120 (.int .i64 n')] w fun e w' => e = .returned (.int .i64 (cmpI n n')) ∧ w' = w := by
  have m1 := meth_pid
  have a80 := assert_82_80
  have a81 := assert_82_81
  have a82 := assert_82_82
  have i1 := is_pid
  go_enter Tryz.func45, Tryz.ntmps45
  go_wp2_with (first | (go_at_call 132; refine (kind_pid _ _).mono ?_; rintro e w1 ⟨rfl, hw⟩; obtain rfl := hw.symm) | (go_at_call 66; refine (cmp_pidForm _ _ _).mono ?_; rintro e w1 ⟨rfl, hw⟩; obtain rfl := hw.symm))
  go_ret
  exact ⟨rfl, rfl⟩
set_option maxRecDepth 100000 in
set_option maxHeartbeats 1000000 in
theorem alone_tuple (ao ao' : Option Addr) (len len' cap cap' : Nat) (w : World) :
    Calls Tryz.prog 45 #[.iface 121 (.slice ao len cap), .iface 121 (.slice ao' len' cap')] w fun e w' => e = .returned (.int .i64 (cmpI len len')) ∧ w' = w := by
  have m1 := meth_tuple
  have a80 := assert_83_80
  have a81 := assert_83_81
  have a82 := assert_83_82
  have a83 := assert_83_83
  have i1 := is_tuple
  go_enter Tryz.func45, Tryz.ntmps45
  go_wp2_with (first | (go_at_call 133; refine (kind_tuple _ _).mono ?_; rintro e w1 ⟨rfl, hw⟩; obtain rfl := hw.symm) | (go_at_call 43; refine (cmpInt_any _ _ _).mono ?_; rintro e w1 ⟨rfl, hw⟩; obtain rfl := hw.symm))
  go_ret
  exact ⟨rfl, rfl⟩
set_option maxRecDepth 100000 in
set_option maxHeartbeats 1000000 in
theorem alone_list (x x' : Value) (w : World) :
    Calls Tryz.prog 45 #[.iface 122 (x), .iface 122 (x')] w fun e w' => e = .returned (.int .i64 (0)) ∧ w' = w := by
  have m1 := meth_list
  have a80 := assert_84_80
  have a81 := assert_84_81
  have a82 := assert_84_82
  have a83 := assert_84_83
  have a85 := assert_84_85
  go_enter Tryz.func45, Tryz.ntmps45
  go_wp2_with (first | (go_at_call 134; refine (kind_list _ _).mono ?_; rintro e w1 ⟨rfl, hw⟩; obtain rfl := hw.symm))
  go_ret
  exact ⟨rfl, rfl⟩
set_option maxRecDepth 100000 in
set_option maxHeartbeats 1000000 in
theorem alone_bin (s s' : ByteArray) (w : World) :
    Calls Tryz.prog 45 #[.iface 123 (.string s), .iface 123 (.string s')] w fun e w' => e = .returned (.int .i64 (cmpS s s')) ∧ w' = w := by
  have m1 := meth_bin
  have a80 := assert_85_80
  have a81 := assert_85_81
  have a82 := assert_85_82
  have a83 := assert_85_83
  have a85 := assert_85_85
  have i1 := is_bin
  go_enter Tryz.func45, Tryz.ntmps45
  go_wp2_with (first | (go_at_call 135; refine (kind_bin _ _).mono ?_; rintro e w1 ⟨rfl, hw⟩; obtain rfl := hw.symm) | (go_at_call 67; refine (cmp_binForm _ _ _).mono ?_; rintro e w1 ⟨rfl, hw⟩; obtain rfl := hw.symm))
  go_ret
  exact ⟨rfl, rfl⟩
set_option maxRecDepth 100000 in
set_option maxHeartbeats 1000000 in
theorem alone_no (k : Int) (w : World) :
    Calls Tryz.prog 45 #[.iface 124 (.int .i64 k), .iface 124 (.int .i64 k)] w fun e w' => e = .returned (.int .i64 (0)) ∧ w' = w := by
  have m1 := meth_no
  have a80 := assert_86_80
  have a81 := assert_86_81
  have a82 := assert_86_82
  have a83 := assert_86_83
  have a85 := assert_86_85
  go_enter Tryz.func45, Tryz.ntmps45
  go_wp2_with (first | (go_at_call 136; refine (kind_no _ _).mono ?_; rintro e w1 ⟨rfl, hw⟩; obtain rfl := hw.symm))
  go_ret
  exact ⟨rfl, rfl⟩

/-- Both forms of two terms. -/
theorem orderAlone_any (k n : Int) (s : ByteArray) (ao : Option Addr) (len cap : Nat) (k' n' : Int) (s' : ByteArray) (ao' : Option Addr) (len' cap' : Nat) (w : World) :
    Calls Tryz.prog 45 #[frm k n s (.slice ao len cap), frm k' n' s' (.slice ao' len' cap')] w fun e w' => e = .returned (.int .i64 (thenC (cmpI k k') (ownC k n s len n' s' len'))) ∧ w' = w := by
  by_cases he : k = k'
  · subst he
    have h0 : cmpI k k = 0 := (cmpI_zero k k).2 rfl
    have h1 : thenC (cmpI k k) (ownC k n s len n' s' len') = ownC k n s len n' s' len' := by unfold thenC; rw [if_pos h0]
    rw [h1]
    by_cases hk : 1 ≤ k ∧ k ≤ 6
    · rcases kinds hk with rfl | rfl | rfl | rfl | rfl | rfl
      · exact alone_int n n' w
      · exact alone_atom s s' w
      · exact alone_pid n n' w
      · exact alone_tuple ao ao' len len' cap cap' w
      · exact alone_list _ _ w
      · exact alone_bin s s' w
    · have h2 : ownC k n s len n' s' len' = 0 := by
        unfold ownC
        rw [if_neg (by omega), if_neg (by omega), if_neg (by omega)]
      rw [h2, frm_no n s _ hk, frm_no n' s' _ hk]
      exact alone_no k w
  · have h1 : thenC (cmpI k k') (ownC k n s len n' s' len') = cmpI k k' := by
      unfold thenC; rw [if_neg (fun h => he ((cmpI_zero k k').1 h))]
    rw [h1]
    obtain ⟨t, u, f, h⟩ := fm_of k n s (.slice ao len cap)
    obtain ⟨t', u', f', h'⟩ := fm_of k' n' s' (.slice ao' len' cap')
    exact alone_unlike h h' he w
end Go.Proofs.YtfjaphhijefdlaaGreatDoor
namespace Go.Proofs.YtfjaphhijefdlaaGreatDoor
open Go.RowKit
set_option linter.unusedVariables false

/-- A name: where the list begins (nowhere, of an empty one), and how long it is. -/
abbrev Nm := Option (Nat × Nat) × Int
def npV : Option (Nat × Nat) → Value
  | none => .pointer none
  | some (b, o) => .pointer (some ⟨b, o, none⟩)
def PlainP (w : World) : Option (Nat × Nat) → Prop
  | none => True
  | some (b, _) => Plain w b
theorem npV_inj {p q : Option (Nat × Nat)} (h : npV p = npV q) : p = q := by
  rcases p with _ | ⟨b, o⟩ <;> rcases q with _ | ⟨b', o'⟩ <;> simp_all [npV]
theorem eq_np {w : World} {p q : Option (Nat × Nat)} (hp : PlainP w p) (hq : PlainP w q) (d : Nat) : (Op.equalIn (d + 1) 90 (npV p) (npV q)).run Tryz.prog w = .ok (decide (p = q)) w := by
  rcases p with _ | ⟨b, o⟩ <;> rcases q with _ | ⟨b', o'⟩
  · simp [npV, Op.equalIn, run_underlying ptrTerm]
  · simp [npV, Op.equalIn, run_underlying ptrTerm]
  · simp [npV, Op.equalIn, run_underlying ptrTerm]
  · rw [npV, npV, eq_ptr hp hq d]
    simp
def nV (x : Nm) : Value := .agg #[npV x.1, .int .i64 x.2]
theorem eq_nm {w : World} {x y : Nm} (hx : PlainP w x.1) (hy : PlainP w y.1) (d : Nat) : (Op.equalIn (d + 2) 92 (nV x) (nV y)).run Tryz.prog w = .ok (decide (x = y)) w := by
  obtain ⟨p, n⟩ := x
  obtain ⟨q, m⟩ := y
  obtain ⟨f1, f2, hu, e1, e2, e3, e4, e5, e6⟩ := undName
  have p1 : ∀ (x y : Value), (part 90 #[x, y] 0).run Tryz.prog w = .ok x w := fun x y => by simp [part]
  have p2 : ∀ (x y : Value), (part 3 #[x, y] 1).run Tryz.prog w = .ok y w := fun x y => by simp [part]
  have q1 := eq_np hx hy d
  have q2 := eq_int9 (w := w) (n := n) (n' := m) d
  show (Op.equalIn (d + 1 + 1) 92 (.agg #[npV p, .int .i64 n]) (.agg #[npV q, .int .i64 m])).run Tryz.prog w = _
  rw [Op.equalIn]
  simp only [Sem.run_bind, run_underlying hu, Result.andThen_ok]
  by_cases e : p = q
  · subst e
    rw [decide_eq_true rfl] at q1
    by_cases en : n = m
    · subst en
      simp [e1, e2, e3, e4, e5, e6, p1, p2, q1, q2]
    · have en2 : (n == m) = false := by simp [en]
      rw [en2] at q2
      simp [e1, e2, e3, e4, e5, e6, p1, p2, q1, q2, en]
  · rw [decide_eq_false e] at q1
    simp [e1, e2, e3, e4, e5, e6, p1, q1, e]

/-- A key: two names. -/
def kV (x y : Nm) : Value := .agg #[npV x.1, .int .i64 x.2, npV y.1, .int .i64 y.2]
theorem kV_inj {x y x' y' : Nm} (h : kV x y = kV x' y') : x = x' ∧ y = y' := by
  simp only [kV, Value.agg.injEq, Array.mk.injEq, List.cons.injEq, and_true, Value.int.injEq, true_and] at h
  exact ⟨Prod.ext (npV_inj h.1) h.2.1, Prod.ext (npV_inj h.2.2.1) h.2.2.2⟩
theorem undPair : Tryz.prog.underlying 94 = some (.array 2 92) := by kernel_rfl
theorem infoName : ∃ i, Tryz.prog.info? 92 = some i := by
  have h : (Tryz.prog.info? 92).isSome = true := by kernel_rfl
  exact Option.isSome_iff_exists.1 h
theorem cellsName : Tryz.prog.cellsOf 92 = 2 := by kernel_rfl
theorem partName (w : World) (cs : Array Value) (o : Nat) : (part 92 cs o).run Tryz.prog w = .ok (.agg (cs.extract o (o + 2))) w := by
  have h1 : (isAgg 92).run Tryz.prog w = .ok true w := by kernel_rfl
  simp [part, h1]
theorem eq_pairIn {w : World} {x y x' y' : Nm} (hx : PlainP w x.1) (hy : PlainP w y.1) (hx' : PlainP w x'.1) (hy' : PlainP w y'.1) (d : Nat) :
    (Op.equalIn (d + 3) 94 (kV x y) (kV x' y')).run Tryz.prog w = .ok (decide (x = x' ∧ y = y')) w := by
  obtain ⟨i, hi⟩ := infoName
  have q1 := eq_nm hx hx' d
  have q2 := eq_nm hy hy' d
  unfold nV at q1 q2
  show (Op.equalIn ((d + 2) + 1) 94 (.agg _) (.agg _)).run Tryz.prog w = _
  rw [run_equalIn_array w (d + 2) _ _ undPair hi, cellsName]
  have r : List.range 2 = [0, 1] := rfl
  rw [r]
  by_cases e : x = x'
  · subst e
    rw [decide_eq_true rfl] at q1
    by_cases e2 : y = y'
    · subst e2
      rw [decide_eq_true rfl] at q2
      simp [Op.eqItems, partName, q1, q2]
    · rw [decide_eq_false e2] at q2
      simp [Op.eqItems, partName, q1, q2, e2]
  · rw [decide_eq_false e] at q1
    simp [Op.eqItems, partName, q1, e]
theorem eq_pair {w : World} {x y x' y' : Nm} (hx : PlainP w x.1) (hy : PlainP w y.1) (hx' : PlainP w x'.1) (hy' : PlainP w y'.1) :
    (Op.equal 94 (kV x y) (kV x' y')).run Tryz.prog w = .ok (decide (x = x' ∧ y = y')) w := eq_pairIn hx hy hx' hy' 9997

/-- An entry of such a map; S tells which pairs may be named. -/
def PrE (w : World) (S : Nm → Nm → Prop) (e : MapEntry) : Prop := ∃ x y, e.key = kV x y ∧ PlainP w x.1 ∧ PlainP w y.1 ∧ S x y ∧ e.val = .agg #[]
/-- The block mb is such a map. -/
def PrMap (w : World) (mb : Nat) (S : Nm → Nm → Prop) : Prop := ∃ es clk, w.heap[mb]? = some (.map es clk) ∧ ∀ e ∈ es.toList, PrE w S e
theorem undPm : Tryz.prog.underlying 82 = some (.map 94 95) := by kernel_rfl
theorem find_pair {w : World} {S : Nm → Nm → Prop} {x y : Nm} (hx : PlainP w x.1) (hy : PlainP w y.1) : ∀ (es : List MapEntry) (i : Nat), (∀ e ∈ es, PrE w S e) →
    (Instr.findAsking 94 (kV x y) es i).run Tryz.prog w = .ok (nmFind (kV x y) es i) w
  | [], i, _ => by simp [Instr.findAsking, nmFind]
  | e :: es, i, h => by
    obtain ⟨x', y', hk, h1, h2, hs, hv⟩ := h e (by simp)
    have q := eq_pair hx hy h1 h2
    rw [← hk] at q
    rw [nmFind]
    by_cases hq : e.key = kV x y
    · obtain ⟨rfl, rfl⟩ := kV_inj (hk.symm.trans hq)
      rw [decide_eq_true ⟨rfl, rfl⟩] at q
      rw [if_pos hq, Instr.findAsking, Sem.run_bind, q]
      simp
    · have hf : ¬ (x = x' ∧ y = y') := fun ⟨a, b⟩ => hq (by rw [hk, a, b])
      rw [decide_eq_false hf] at q
      rw [if_neg hq, Instr.findAsking, Sem.run_bind, q]
      simpa using find_pair hx hy es (i + 1) (fun z hz => h z (by simp [hz]))
theorem findKey_pair {w : World} {S : Nm → Nm → Prop} {x y : Nm} (hx : PlainP w x.1) (hy : PlainP w y.1) (es : List MapEntry) (h : ∀ e ∈ es, PrE w S e) :
    (Instr.findKey 94 (kV x y) es).run Tryz.prog w = .ok (nmFind (kV x y) es 0) w := by
  have key : (Instr.findKey 94 (kV x y) es).run Tryz.prog w = (Instr.findAsking 94 (kV x y) es 0).run Tryz.prog w := by
    unfold Instr.findKey
    rw [Sem.run_bind, run_underlying undPair, Result.andThen_ok]
    cases es with
    | nil => simp [Instr.findNow, Instr.findAsking]
    | cons e r => simp [kV, Instr.findNow, Instr.sameNow]
  rw [key]
  exact find_pair hx hy es 0 h
end Go.Proofs.YtfjaphhijefdlaaGreatDoor
namespace Go.Proofs.YtfjaphhijefdlaaGreatDoor
open Go.RowKit
set_option linter.unusedVariables false

theorem checkKey_nm {w : World} (p : Value) (n : Value) (em : Bool) (d : Nat) : (Instr.checkKey em (d + 2) 92 (.agg #[p, n])).run Tryz.prog w = .ok () w := by
  obtain ⟨f1, f2, hu, e1, e2, e3, e4, e5, e6⟩ := undName
  have p1 : ∀ (x y : Value), (part 90 #[x, y] 0).run Tryz.prog w = .ok x w := fun x y => by simp [part]
  have p2 : ∀ (x y : Value), (part 3 #[x, y] 1).run Tryz.prog w = .ok y w := fun x y => by simp [part]
  have c1 : ∀ v, (Instr.checkKey em (d + 1) 90 v).run Tryz.prog w = .ok () w := fun v => by simp [Instr.checkKey, run_underlying ptrTerm]
  have c2 : ∀ v, (Instr.checkKey em (d + 1) 3 v).run Tryz.prog w = .ok () w := fun v => by simp [Instr.checkKey, run_underlying Tryz.underlying3]
  rw [show d + 2 = (d + 1) + 1 from rfl, Instr.checkKey]
  simp only [Sem.run_bind, run_underlying hu, Result.andThen_ok]
  simp [e1, e2, e3, e4, e5, e6, p1, p2, c1, c2]
theorem checkKey_pair {w : World} (x y : Nm) (em : Bool) (d : Nat) : (Instr.checkKey em (d + 3) 94 (kV x y)).run Tryz.prog w = .ok () w := by
  obtain ⟨i, hi⟩ := infoName
  have c1 := fun p n => checkKey_nm (w := w) p n em d
  have hs : (sizeOf 92).run Tryz.prog w = .ok 2 w := by kernel_rfl
  rw [kV, show d + 3 = (d + 2) + 1 from rfl, Instr.checkKey]
  simp only [Sem.run_bind, run_underlying undPair, Result.andThen_ok]
  simp only [Std.Legacy.Range.forIn_eq_forIn_range', Std.Legacy.Range.size, Nat.sub_zero, Nat.add_one_sub_one, Nat.div_one]
  have r : List.range' 0 2 = [0, 1] := rfl
  rw [r]
  simp [hs, partName, c1]
theorem PlainP.heap {w w' : World} (e : w'.heap = w.heap) : ∀ {p : Option (Nat × Nat)}, PlainP w p → PlainP w' p
  | none, _ => trivial
  | some (b, o), ⟨⟨c, t, f, h1⟩, h2⟩ => ⟨⟨c, t, f, by rw [e]; exact h1⟩, fun y => by rw [World.frozen?_of_block (w := w) (by rw [e])]; exact h2 y⟩
theorem PlainP.turn {w w' : World} {mb : Nat} (ht : Turn mb w w') (hm : ∀ b, Plain w b → b ≠ mb) : ∀ {p : Option (Nat × Nat)}, PlainP w p → PlainP w' p
  | none, _ => trivial
  | some (b, o), h => Plain.turn ht (hm b h) h
/-- Lookup, in every world that has this heap. -/
theorem lookup_pair {w : World} {mb : Nat} {S : Nm → Nm → Prop} (h : PrMap w mb S) {x y : Nm} (hx : PlainP w x.1) (hy : PlainP w y.1) :
    ∃ q, (∀ w' : World, w'.heap = w.heap → (Instr.lookup 82 (.map (some mb)) (kV x y) true).run Tryz.prog w' = .ok (.tuple #[.agg #[], .bool q]) w') ∧ (q = true → S x y) := by
  obtain ⟨es, clk, hm, he⟩ := h
  have hc : ∀ w' : World, (Instr.checkKey es.isEmpty 10000 94 (kV x y)).run Tryz.prog w' = .ok () w' := fun w' => checkKey_pair x y es.isEmpty 9997
  have hf : ∀ w' : World, w'.heap = w.heap → (Instr.findKey 94 (kV x y) es.toList).run Tryz.prog w' = .ok (nmFind (kV x y) es.toList 0) w' := fun w' e =>
    findKey_pair (hx.heap e) (hy.heap e) es.toList (fun z hz => by obtain ⟨x', y', k1, k2, k3, k4, k5⟩ := he z hz; exact ⟨x', y', k1, k2.heap e, k3.heap e, k4, k5⟩)
  cases hr : nmFind (kV x y) es.toList 0 with
  | none =>
    refine ⟨false, fun w' e => ?_, fun h => by cases h⟩
    have h1 := hf w' e
    rw [hr] at h1
    have hm' : w'.heap[mb]? = some (.map es clk) := by rw [e]; exact hm
    simp [Instr.lookup, run_underlying undPm, MapKept.run_getObj_map hm', hc, h1]
  | some z =>
    obtain ⟨j, v⟩ := z
    obtain ⟨e0, m1, m2, m3⟩ := nmFind_hit hr
    obtain ⟨x', y', k1, k2, k3, k4, k5⟩ := he e0 m1
    obtain ⟨rfl, rfl⟩ := kV_inj (k1.symm.trans m2)
    refine ⟨true, fun w' e => ?_, fun _ => k4⟩
    have h1 := hf w' e
    rw [hr] at h1
    rw [← m3, k5] at h1
    have hm' : w'.heap[mb]? = some (.map es clk) := by rw [e]; exact hm
    simp [Instr.lookup, run_underlying undPm, MapKept.run_getObj_map hm', hc, h1]
theorem nmFind_from {k : Value} : ∀ {es : List MapEntry} {i j : Nat} {v : Value}, nmFind k es i = some (j, v) → i ≤ j ∧ ∃ e, es[j - i]? = some e ∧ e.key = k
  | [], i, j, v, h => by simp [nmFind] at h
  | e :: es, i, j, v, h => by
    rw [nmFind] at h
    split at h
    · rename_i hk
      simp only [Option.some.injEq, Prod.mk.injEq] at h
      obtain ⟨rfl, _⟩ := h
      exact ⟨Nat.le_refl _, e, by simp, hk⟩
    · obtain ⟨h1, e', h2, h3⟩ := nmFind_from h
      refine ⟨by omega, e', ?_, h3⟩
      rw [show j - i = (j - (i + 1)) + 1 by omega, List.getElem?_cons_succ]
      exact h2
theorem nmFind_at {k : Value} {es : List MapEntry} {j : Nat} {v : Value} (h : nmFind k es 0 = some (j, v)) : ∃ e, es[j]? = some e ∧ e.key = k := (nmFind_from h).2
theorem stays_pair {w : World} (x y : Nm) : (Instr.keyThatStays (kV x y) (kV x y)).run Tryz.prog w = .ok (kV x y) w := by
  have : Instr.sameBits 10000 (kV x y) (kV x y) = true := by
    show Instr.sameBits (9998 + 1 + 1) _ _ = true
    obtain ⟨p, n⟩ := x
    obtain ⟨q, m⟩ := y
    rcases p with _ | ⟨b, o⟩ <;> rcases q with _ | ⟨b', o'⟩ <;> simp [kV, npV, Instr.sameBits]
  simp [Instr.keyThatStays, this]
theorem update_pair {w : World} {mb : Nat} {S : Nm → Nm → Prop} (h : PrMap w mb S) {x y : Nm} (hx : PlainP w x.1) (hy : PlainP w y.1) :
    ∃ w', (Instr.mapUpdate 82 (.map (some mb)) (kV x y) (.agg #[])).run Tryz.prog w = .ok () w' ∧ Turn mb w w' ∧ PrMap w' mb (fun a b => S a b ∨ (a = x ∧ b = y)) := by
  obtain ⟨es, clk, hm, he⟩ := h
  have hc : (Instr.checkKey false 10000 94 (kV x y)).run Tryz.prog w = .ok () w := checkKey_pair x y false 9997
  have hml : mb < w.heap.size := by
    rcases Nat.lt_or_ge mb w.heap.size with h | h
    · exact h
    · rw [Array.getElem?_eq_none h] at hm; cases hm
  have hpl : ∀ b, Plain w b → b ≠ mb := fun b hb e => by
    subst e
    obtain ⟨⟨c, t, f, h⟩, _⟩ := hb
    rw [hm] at h; cases h
  have turn : ∀ O, Turn mb w { w with heap := w.heap.setIfInBounds mb O } := fun O => ⟨rfl, rfl, rfl, by simp, fun k hk hne => by
    show (w.heap.setIfInBounds mb O)[k]? = _
    rw [Array.getElem?_setIfInBounds_ne (Ne.symm hne)]⟩
  have new : ∀ O, ({ w with heap := w.heap.setIfInBounds mb O } : World).heap[mb]? = some O := fun O => by
    show (w.heap.setIfInBounds mb O)[mb]? = _
    rw [Array.getElem?_setIfInBounds_self_of_lt hml]
  have old : ∀ O e, PrE w S e → PrE { w with heap := w.heap.setIfInBounds mb O } (fun a b => S a b ∨ (a = x ∧ b = y)) e := fun O e ⟨x', y', k1, k2, k3, k4, k5⟩ =>
    ⟨x', y', k1, k2.turn (turn O) hpl, k3.turn (turn O) hpl, .inl k4, k5⟩
  have mine : ∀ O cl, PrE { w with heap := w.heap.setIfInBounds mb O } (fun a b => S a b ∨ (a = x ∧ b = y)) ⟨kV x y, .agg #[], cl⟩ := fun O cl =>
    ⟨x, y, rfl, hx.turn (turn O) hpl, hy.turn (turn O) hpl, .inr ⟨rfl, rfl⟩, rfl⟩
  have h0 := findKey_pair hx hy es.toList he
  cases hr : nmFind (kV x y) es.toList 0 with
  | none =>
    rw [hr] at h0
    refine ⟨{ w with heap := w.heap.setIfInBounds mb (.map (es.push ⟨kV x y, .agg #[], clk⟩) (clk + 1)) }, by simp [Instr.mapUpdate, run_underlying undPm, MapKept.run_getObj_map hm, hc, h0, MapKept.run_setObj_map _ hm], turn _, _, _, new _, ?_⟩
    intro z hz
    simp only [Array.toList_push, List.mem_append, List.mem_singleton] at hz
    rcases hz with hz | rfl
    · exact old _ z (he z hz)
    · exact mine _ _
  | some r =>
    obtain ⟨j, v⟩ := r
    rw [hr] at h0
    obtain ⟨e, hj, hk⟩ := nmFind_at hr
    have hj' : es[j]? = some e := by simpa using hj
    refine ⟨{ w with heap := w.heap.setIfInBounds mb (.map (es.modify j fun e' => { e' with key := kV x y, val := .agg #[] }) clk) }, by simp [Instr.mapUpdate, run_underlying undPm, MapKept.run_getObj_map hm, hc, h0, hj', hk, stays_pair, MapKept.run_setObj_map _ hm], turn _, _, _, new _, ?_⟩
    intro z hz
    rcases MapFrom.mem_modify hz with hz | ⟨e', _, rfl⟩
    · exact old _ z (he z hz)
    · exact mine _ _
theorem PrMap.mono {w : World} {mb : Nat} {S S' : Nm → Nm → Prop} (h : PrMap w mb S) (hs : ∀ x y, S x y → S' x y) : PrMap w mb S' := by
  obtain ⟨es, clk, hm, he⟩ := h
  exact ⟨es, clk, hm, fun e hx => by obtain ⟨x', y', k1, k2, k3, k4, k5⟩ := he e hx; exact ⟨x', y', k1, k2, k3, hs _ _ k4, k5⟩⟩
/-- Another world that keeps the map and all blocks of cells that are named. -/
theorem PrMap.keep {w w' : World} {mb : Nat} {S : Nm → Nm → Prop} (h : PrMap w mb S) (hm : w'.heap[mb]? = w.heap[mb]?) (hk : ∀ x y, S x y → PlainP w x.1 → PlainP w y.1 → PlainP w' x.1 ∧ PlainP w' y.1) : PrMap w' mb S := by
  obtain ⟨es, clk, hm', he⟩ := h
  exact ⟨es, clk, hm.trans hm', fun e hx => by obtain ⟨x', y', k1, k2, k3, k4, k5⟩ := he e hx; exact ⟨x', y', k1, (hk _ _ k4 k2 k3).1, (hk _ _ k4 k2 k3).2, k4, k5⟩⟩
end Go.Proofs.YtfjaphhijefdlaaGreatDoor
namespace Go.Proofs.YtfjaphhijefdlaaGreatDoor
open Go.RowKit
set_option linter.unusedVariables false

theorem repT_one {B B' : Nat} {w : World} : ∀ (t t' : Tm) (b off : Nat), RepT B w t b off → RepT B' w t' b off → t = t' := by
  refine Tm.ind ?_
  intro k n s l ih t' b off h h'
  obtain ⟨k', n', s', l'⟩ := t'
  rw [RepT] at h h'
  obtain ⟨h0, h1, h2, _, ao, cap, h3, _, _, hr⟩ := h
  obtain ⟨g0, g1, g2, _, ao', cap', g3, _, _, gr⟩ := h'
  rw [h0] at g0
  rw [h1] at g1
  rw [h2] at g2
  rw [h3] at g3
  simp only [Option.some.injEq, Value.int.injEq, Value.string.injEq, Value.slice.injEq, true_and] at g0 g1 g2 g3
  obtain ⟨rfl, hlen, _⟩ := g3
  have hl : ∀ (l l' : List Tm) (ao : Option Addr), (∀ t, t ∈ l → ∀ (t' : Tm) (b off : Nat), RepT B w t b off → RepT B' w t' b off → t = t') → l.length = l'.length → RepL B w l ao → RepL B' w l' ao → l = l' := by
    intro l
    induction l with
    | nil => intro l' ao _ e _ _; exact (List.length_eq_zero_iff.1 e.symm).symm
    | cons t r ihr =>
      intro l' ao hi e h h'
      rcases l' with _ | ⟨t', r'⟩
      · simp at e
      rw [RepL] at h h'
      obtain ⟨b1, o1, rfl, _, q1, q2⟩ := h
      obtain ⟨b2, o2, e2, _, p1, p2⟩ := h'
      simp only [Option.some.injEq, Addr.mk.injEq, and_true] at e2
      obtain ⟨rfl, rfl⟩ := e2
      rw [hi t (List.mem_cons_self ..) t' _ _ q1 p1, ihr r' _ (fun x hx => hi x (List.mem_cons_of_mem _ hx)) (by simpa using e) q2 p2]
  rw [hl l l' ao ih hlen hr gr, g0, g1, g2]
theorem repL_one {B B' : Nat} {w : World} : ∀ (l l' : List Tm) (ao : Option Addr), l.length = l'.length → RepL B w l ao → RepL B' w l' ao → l = l' := by
  intro l
  induction l with
  | nil => intro l' ao e _ _; exact (List.length_eq_zero_iff.1 e.symm).symm
  | cons t r ihr =>
    intro l' ao e h h'
    rcases l' with _ | ⟨t', r'⟩
    · simp at e
    rw [RepL] at h h'
    obtain ⟨b1, o1, rfl, _, q1, q2⟩ := h
    obtain ⟨b2, o2, e2, _, p1, p2⟩ := h'
    simp only [Option.some.injEq, Addr.mk.injEq, and_true] at e2
    obtain ⟨rfl, rfl⟩ := e2
    rw [repT_one t t' _ _ q1 p1, ihr r' _ (by simpa using e) q2 p2]

/-- What a stack of pairs of lists answers, its top first. -/
def stackC : List (List Tm × List Tm) → Int
  | [] => 0
  | (a, b) :: r => thenC (cmpL a b) (stackC r)
theorem thenC_assoc (a b c : Int) : thenC (thenC a b) c = thenC a (thenC b c) := by
  unfold thenC
  by_cases h : a = 0
  · simp [h]
  · simp [h]
theorem thenC_zero (a : Int) : thenC 0 a = a := by simp [thenC]
/-- What stands within, of a kind that has it. -/
def wiL (k : Int) (l : List Tm) : List Tm := if k = 4 ∨ k = 5 then l else []
theorem cmpL_nil : cmpL [] [] = 0 := by rw [cmpL]
/-- Two kinds that are one: within is held against within. -/
theorem cmpT_in (k n : Int) (s : ByteArray) (l : List Tm) (k' n' : Int) (s' : ByteArray) (l' : List Tm) :
    cmpT (.mk k n s l) (.mk k' n' s' l') = thenC (thenC (cmpI k k') (ownC k n s l.length n' s' l'.length)) (if k = k' then cmpL (wiL k l) (wiL k' l') else 0) := by
  rw [cmpT, thenC_assoc]
  by_cases h : k = k'
  · subst h
    rw [if_pos rfl]
    unfold wiL
    by_cases h2 : k = 4 ∨ k = 5
    · rw [if_pos h2, if_pos h2, if_pos h2]
    · rw [if_neg h2, if_neg h2, if_neg h2, cmpL_nil]
  · have h0 : cmpI k k' ≠ 0 := fun e => h ((cmpI_zero k k').1 e)
    unfold thenC
    rw [if_neg h0, if_neg h0]
theorem stackC_step (k n : Int) (s : ByteArray) (l : List Tm) (k' n' : Int) (s' : ByteArray) (l' : List Tm) (r r' : List Tm) (st : List (List Tm × List Tm)) (h0 : thenC (cmpI k k') (ownC k n s l.length n' s' l'.length) = 0) :
    stackC ((.mk k n s l :: r, .mk k' n' s' l' :: r') :: st) = stackC ((wiL k l, wiL k' l') :: (r, r') :: st) := by
  have hk : k = k' := by
    apply (cmpI_zero k k').1
    unfold thenC at h0
    split at h0
    · assumption
    · exact h0
  rw [stackC, cmpL, stackC, stackC, cmpT_in, h0, thenC_zero, if_pos hk, thenC_assoc]
theorem stackC_unlike (k n : Int) (s : ByteArray) (l : List Tm) (k' n' : Int) (s' : ByteArray) (l' : List Tm) (r r' : List Tm) (st : List (List Tm × List Tm)) (h0 : thenC (cmpI k k') (ownC k n s l.length n' s' l'.length) ≠ 0) :
    stackC ((.mk k n s l :: r, .mk k' n' s' l' :: r') :: st) = thenC (cmpI k k') (ownC k n s l.length n' s' l'.length) := by
  rw [stackC, cmpL, cmpT_in]
  generalize thenC (cmpI k k') (ownC k n s l.length n' s' l'.length) = c at h0
  rw [thenC_assoc, thenC_assoc]
  unfold thenC
  rw [if_neg h0]
theorem stackC_ends (l l' : List Tm) (st : List (List Tm × List Tm)) (h : l = [] ∨ l' = []) (hne : l.length ≠ l'.length) : stackC ((l, l') :: st) = cmpI l.length l'.length := by
  rw [stackC]
  rcases l with _ | ⟨x, r⟩ <;> rcases l' with _ | ⟨y, s⟩
  · exact absurd rfl hne
  · rw [cmpL]
    unfold thenC cmpI
    rw [if_neg (by decide), if_pos (by simp)]
  · rw [cmpL]
    unfold thenC cmpI
    rw [if_neg (by decide), if_neg (by simp; omega), if_pos (by simp)]
  · simp at h
theorem stackC_pop (st : List (List Tm × List Tm)) : stackC (([], []) :: st) = stackC st := by rw [stackC, cmpL_nil, thenC_zero]

mutual
/-- How many terms there are. -/
def cntT : Tm → Nat
  | .mk _ _ _ l => 1 + cntL l
def cntL : List Tm → Nat
  | [] => 0
  | t :: r => cntT t + cntL r
end
theorem cnt_in (k n : Int) (s : ByteArray) (l r : List Tm) : cntL (wiL k l) < cntL (.mk k n s l :: r) ∧ cntL r ≤ cntL (.mk k n s l :: r) := by
  rw [cntL, cntT]
  unfold wiL
  split
  · omega
  · rw [cntL]; omega
/-- What is known of two lists that have met: they are the same, or what is still open of them stands on the stack. -/
def Mok (st : List (List Tm × List Tm)) (l l' : List Tm) : Prop :=
  cmpL l l' = 0 ∨ ∃ top rest, st = top ++ rest ∧ cmpL l l' = stackC top ∧ ∀ p ∈ top, cntL p.1 ≤ cntL l
theorem Mok.pop {st : List (List Tm × List Tm)} {l l' : List Tm} (h : Mok (([], []) :: st) l l') : Mok st l l' := by
  rcases h with h | ⟨top, rest, e, h1, h2⟩
  · exact .inl h
  rcases top with _ | ⟨p, top⟩
  · exact .inl h1
  simp only [List.cons_append, List.cons.injEq] at e
  obtain ⟨rfl, rfl⟩ := e
  exact .inr ⟨top, rest, rfl, by rw [h1, stackC_pop], fun p hp => h2 p (List.mem_cons_of_mem _ hp)⟩
theorem Mok.push {k n : Int} {s : ByteArray} {i : List Tm} {k' n' : Int} {s' : ByteArray} {i' : List Tm} {r r' : List Tm} {st : List (List Tm × List Tm)} {l l' : List Tm}
    (h0 : thenC (cmpI k k') (ownC k n s i.length n' s' i'.length) = 0) (h : Mok ((.mk k n s i :: r, .mk k' n' s' i' :: r') :: st) l l') : Mok ((wiL k i, wiL k' i') :: (r, r') :: st) l l' := by
  rcases h with h | ⟨top, rest, e, h1, h2⟩
  · exact .inl h
  rcases top with _ | ⟨p, top⟩
  · exact .inl h1
  simp only [List.cons_append, List.cons.injEq] at e
  obtain ⟨rfl, rfl⟩ := e
  have hc := h2 _ (List.mem_cons_self ..)
  have hn := cnt_in k n s i r
  refine .inr ⟨(wiL k i, wiL k' i') :: (r, r') :: top, rest, rfl, by rw [h1, stackC_step _ _ _ _ _ _ _ _ _ _ _ h0], ?_⟩
  intro p hp
  simp only [List.mem_cons] at hp
  rcases hp with rfl | rfl | hp
  · show cntL (wiL k i) ≤ _
    have hc' : cntL (.mk k n s i :: r) ≤ cntL l := hc
    omega
  · show cntL r ≤ _
    have hc' : cntL (.mk k n s i :: r) ≤ cntL l := hc
    omega
  · exact h2 p (List.mem_cons_of_mem _ hp)
theorem thenC_right (a : Int) : thenC a 0 = a := by unfold thenC; split <;> simp_all
theorem Mok.new (i i' : List Tm) (st : List (List Tm × List Tm)) : Mok ((i, i') :: st) i i' :=
  .inr ⟨[(i, i')], st, rfl, by rw [stackC, stackC, thenC_right], fun p hp => by simp only [List.mem_singleton] at hp; subst hp; exact Nat.le_refl _⟩
/-- Two lists within the top that have met are the same. -/
theorem Mok.same {k n : Int} {s : ByteArray} {i : List Tm} {t' : Tm} {i' : List Tm} {r r' : List Tm} {st : List (List Tm × List Tm)}
    (h : Mok ((.mk k n s i :: r, t' :: r') :: st) (wiL k i) i') : cmpL (wiL k i) i' = 0 := by
  rcases h with h | ⟨top, rest, e, h1, h2⟩
  · exact h
  rcases top with _ | ⟨p, top⟩
  · exact h1
  simp only [List.cons_append, List.cons.injEq] at e
  obtain ⟨rfl, rfl⟩ := e
  have hc : cntL (.mk k n s i :: r) ≤ cntL (wiL k i) := h2 _ (List.mem_cons_self ..)
  have := (cnt_in k n s i r).1
  omega
theorem Mok.skip {k n : Int} {s : ByteArray} {i : List Tm} {k' n' : Int} {s' : ByteArray} {i' : List Tm} {r r' : List Tm} {st : List (List Tm × List Tm)} {l l' : List Tm}
    (h0 : thenC (cmpI k k') (ownC k n s i.length n' s' i'.length) = 0) (hz : cmpL (wiL k i) (wiL k' i') = 0) (h : Mok ((.mk k n s i :: r, .mk k' n' s' i' :: r') :: st) l l') : Mok ((r, r') :: st) l l' := by
  rcases h.push h0 with h | ⟨top, rest, e, h1, h2⟩
  · exact .inl h
  rcases top with _ | ⟨p, top⟩
  · exact .inl h1
  simp only [List.cons_append, List.cons.injEq] at e
  obtain ⟨rfl, e⟩ := e
  rw [stackC, hz, thenC_zero] at h1
  rw [e]
  exact .inr ⟨top, rest, rfl, h1, fun p hp => h2 p (List.mem_cons_of_mem _ hp)⟩
theorem stackC_skip {k n : Int} {s : ByteArray} {i : List Tm} {k' n' : Int} {s' : ByteArray} {i' : List Tm} {r r' : List Tm} {st : List (List Tm × List Tm)}
    (h0 : thenC (cmpI k k') (ownC k n s i.length n' s' i'.length) = 0) (hz : cmpL (wiL k i) (wiL k' i') = 0) : stackC ((.mk k n s i :: r, .mk k' n' s' i' :: r') :: st) = stackC ((r, r') :: st) := by
  rw [stackC_step _ _ _ _ _ _ _ _ _ _ _ h0, stackC, hz, thenC_zero]
end Go.Proofs.YtfjaphhijefdlaaGreatDoor
namespace Go.Proofs.YtfjaphhijefdlaaGreatDoor
open Go.RowKit
set_option linter.unusedVariables false

/-- Where a list begins, if it has something. -/
def nmL (l : List Tm) : Option Addr → Nm
  | some ⟨b, o, _⟩ => if l = [] then (none, 0) else (some (b, o), l.length)
  | none => (none, 0)
theorem nmL_nil (ao : Option Addr) : nmL [] ao = (none, 0) := by
  rcases ao with _ | ⟨b, o, s⟩
  · rfl
  · show (if ([] : List Tm) = [] then ((none, 0) : Nm) else (some (b, o), ((0 : Nat) : Int))) = _
    rw [if_pos rfl]
theorem nmL_cons {l : List Tm} (h : l ≠ []) (b o : Nat) : nmL l (some ⟨b, o, none⟩) = ((some (b, o), (l.length : Int)) : Nm) := by
  show (if l = [] then ((none, 0) : Nm) else _) = _
  rw [if_neg h]
theorem nmL_one {w : World} {l l' : List Tm} {ao ao' : Option Addr} (h : RepL 0 w l ao) (h' : RepL 0 w l' ao') (e : nmL l ao = nmL l' ao') : l = l' := by
  rcases l with _ | ⟨x, r⟩
  · rcases l' with _ | ⟨y, s⟩
    · rfl
    · rw [RepL] at h'
      obtain ⟨b, o, rfl, _, _, _⟩ := h'
      rw [nmL_nil, nmL_cons (by simp)] at e
      cases e
  · have h0 := h
    rw [RepL] at h
    obtain ⟨b, o, rfl, _, _, _⟩ := h
    rcases l' with _ | ⟨y, s⟩
    · rw [nmL_nil, nmL_cons (by simp)] at e
      cases e
    · have h0' := h'
      rw [RepL] at h'
      obtain ⟨b', o', rfl, _, _, _⟩ := h'
      rw [nmL_cons (by simp), nmL_cons (by simp)] at e
      simp only [Prod.mk.injEq, Option.some.injEq] at e
      obtain ⟨⟨rfl, rfl⟩, e2⟩ := e
      exact repL_one _ _ _ (by omega) h0 h0'
/-- Its block can be told from others. -/
def PlA (w : World) (l : List Tm) (ao : Option Addr) : Prop := PlainP w (nmL l ao).1
mutual
/-- Wherever two within are held against each other their blocks can be told from others. -/
def HpT (w : World) : Tm → Option Addr → Tm → Option Addr → Prop
  | .mk k _ _ l, ao, .mk k' _ _ l', ao' => (k = 4 ∨ k = 5) → k = k' → HpL w l ao l' ao' ∧ PlA w l ao ∧ PlA w l' ao'
def HpL (w : World) : List Tm → Option Addr → List Tm → Option Addr → Prop
  | t :: r, ao, t' :: r', ao' => ∀ b o b' o', ao = some ⟨b, o, none⟩ → ao' = some ⟨b', o', none⟩ →
      (∀ ax n c ay n' c', w.cell? ⟨b, o + 3, none⟩ = some (.slice ax n c) → w.cell? ⟨b', o' + 3, none⟩ = some (.slice ay n' c') → HpT w t ax t' ay) ∧ HpL w r (some ⟨b, o + 4, none⟩) r' (some ⟨b', o' + 4, none⟩)
  | [], _, _, _ => True
  | _ :: _, _, [], _ => True
end
/-- One list of a pair: its slice, and what it holds in the world W. -/
structure Sl (W : World) (v : Value) (l : List Tm) (ao : Option Addr) : Prop where
  e : ∃ cap, v = .slice ao l.length cap ∧ l.length ≤ cap ∧ cap ≤ maxLen
  r : RepL 0 W l ao
/-- The stack, its bottom first: the cells of its row. -/
def Stk (W : World) : List (List Tm × List Tm) → List Value → Prop
  | [], xs => xs = []
  | (l, l') :: ps, xs => ∃ v v' ao ao' ys, xs = v :: v' :: ys ∧ Sl W v l ao ∧ Sl W v' l' ao' ∧ HpL W l ao l' ao' ∧ Stk W ps ys
theorem Stk.len {W : World} : ∀ {ps : List (List Tm × List Tm)} {xs : List Value}, Stk W ps xs → xs.length = ps.length * 2
  | [], xs, h => by rw [Stk] at h; subst h; rfl
  | (l, l') :: ps, xs, h => by
    rw [Stk] at h
    obtain ⟨v, v', ao, ao', ys, rfl, _, _, _, h5⟩ := h
    have := h5.len
    simp only [List.length_cons]; omega
theorem Stk.split {W : World} {p : List Tm × List Tm} : ∀ {ps : List (List Tm × List Tm)} {xs : List Value}, Stk W (ps ++ [p]) xs → ∃ ys v v' ao ao', xs = ys ++ [v, v'] ∧ Stk W ps ys ∧ Sl W v p.1 ao ∧ Sl W v' p.2 ao' ∧ HpL W p.1 ao p.2 ao'
  | [], xs, h => by
    rw [List.nil_append, Stk] at h
    obtain ⟨v, v', ao, ao', ys, rfl, h1, h2, h3, h5⟩ := h
    rw [Stk] at h5
    subst h5
    exact ⟨[], v, v', ao, ao', rfl, by rw [Stk], h1, h2, h3⟩
  | (l, l') :: ps, xs, h => by
    rw [List.cons_append, Stk] at h
    obtain ⟨v, v', ao, ao', ys, rfl, h1, h2, h3, h5⟩ := h
    obtain ⟨zs, u, u', bo, bo', rfl, k1, k2, k3, k4⟩ := h5.split
    exact ⟨v :: v' :: zs, u, u', bo, bo', rfl, by rw [Stk]; exact ⟨v, v', ao, ao', zs, rfl, h1, h2, h3, k1⟩, k2, k3, k4⟩
theorem Stk.snoc {W : World} {l l' : List Tm} {v v' : Value} {bo bo' : Option Addr} (hv : Sl W v l bo) (hv' : Sl W v' l' bo') (hp : HpL W l bo l' bo') : ∀ {ps : List (List Tm × List Tm)} {xs : List Value}, Stk W ps xs → Stk W (ps ++ [(l, l')]) (xs ++ [v, v'])
  | [], xs, h => by
    rw [Stk] at h
    subst h
    rw [List.nil_append, Stk]
    exact ⟨v, v', bo, bo', [], rfl, hv, hv', hp, by rw [Stk]⟩
  | (a, a') :: ps, xs, h => by
    rw [Stk] at h
    obtain ⟨u, u', ao, ao', ys, rfl, h1, h2, h3, h5⟩ := h
    rw [List.cons_append, Stk]
    exact ⟨u, u', ao, ao', ys ++ [v, v'], rfl, h1, h2, h3, Stk.snoc hv hv' hp h5⟩
/-- What the map knows: pairs of lists by their names. -/
def Kn (W : World) (st : List (List Tm × List Tm)) (x y : Nm) : Prop := ∃ l l' ao ao', x = nmL l ao ∧ y = nmL l' ao' ∧ RepL 0 W l ao ∧ RepL 0 W l' ao' ∧ Mok st l l'
theorem Kn.mono {W : World} {st st' : List (List Tm × List Tm)} (h : ∀ l l', Mok st l l' → Mok st' l l') {x y : Nm} (hk : Kn W st x y) : Kn W st' x y := by
  obtain ⟨l, l', ao, ao', h1, h2, h3, h4, h5⟩ := hk
  exact ⟨l, l', ao, ao', h1, h2, h3, h4, h _ _ h5⟩
theorem Kn.hit {W : World} {st : List (List Tm × List Tm)} {l l' : List Tm} {ao ao' : Option Addr} (h : Kn W st (nmL l ao) (nmL l' ao')) (hr : RepL 0 W l ao) (hr' : RepL 0 W l' ao') : Mok st l l' := by
  obtain ⟨m, m', bo, bo', h1, h2, h3, h4, h5⟩ := h
  rw [nmL_one hr h3 h1, nmL_one hr' h4 h2]
  exact h5
theorem infoSides : (Tryz.prog.info? 80).map (fun i => (i.zero, i.size, i.bytes)) = some (some (.agg #[.slice none 0 0, .slice none 0 0]), 2, 48) := by kernel_rfl
theorem undSides : Tryz.prog.underlying 81 = some (.slice 80) := by kernel_rfl
theorem nameOf_nil (ao : Option Addr) (cap : Nat) (w : World) : Calls Tryz.prog 47 #[.slice ao 0 cap] w fun e w' => e = .returned (.agg #[.pointer none, .int .i64 0]) ∧ Below w.heap.size w w' := by
  go_enter Tryz.func47, Tryz.ntmps47
  go_wp2
  refine bodyPost_ret (v := .agg #[.pointer none, .int .i64 0]) (by simp [results, Tryz.results47, go_sem]) rfl ⟨rfl, ?_⟩
  exact (Below.refl _ _).alloc (Nat.le_refl _) _
theorem nameOf_some (b o n cap : Nat) (w : World) (hn : n ≠ 0) :
    Calls Tryz.prog 47 #[.slice (some ⟨b, o, none⟩) n cap] w fun e w' => e = .returned (.agg #[.pointer (some ⟨b, o, none⟩), .int .i64 n]) ∧ Below w.heap.size w w' := by
  have q : ((n : Int) == 0) = false := by simp; omega
  have hpos : 0 < n := by omega
  clear hn
  go_enter Tryz.func47, Tryz.ntmps47
  go_wp2
  refine bodyPost_ret (v := .agg #[.pointer (some ⟨b, o, none⟩), .int .i64 n]) (by simp [results, Tryz.results47, go_sem]) rfl ⟨rfl, ?_⟩
  exact (Below.refl _ _).alloc (Nat.le_refl _) _
theorem nameOf_all {W : World} {l : List Tm} {ao : Option Addr} (h : RepL 0 W l ao) (cap : Nat) (w : World) : Calls Tryz.prog 47 #[.slice ao l.length cap] w fun e w' => e = .returned (.agg #[npV (nmL l ao).1, .int .i64 (nmL l ao).2]) ∧ Below w.heap.size w w' := by
  rcases l with _ | ⟨t, r⟩
  · rw [nmL_nil]
    exact nameOf_nil ao cap w
  · rw [RepL] at h
    obtain ⟨b, o, rfl, _⟩ := h
    rw [nmL_cons (by simp)]
    exact nameOf_some b o _ cap w (by simp)
end Go.Proofs.YtfjaphhijefdlaaGreatDoor
namespace Go.Proofs.YtfjaphhijefdlaaGreatDoor
open Go.RowKit
set_option linter.unusedVariables false

def msr : List (List Tm × List Tm) → Nat
  | [] => 0
  | p :: r => 2 * cntL p.1 + 1 + msr r
theorem msr_snoc (p : List Tm × List Tm) : ∀ ps, msr (ps ++ [p]) = msr ps + (2 * cntL p.1 + 1)
  | [] => by simp [msr]
  | q :: r => by rw [List.cons_append, msr, msr, msr_snoc p r]; omega
theorem own_keepR {w w' : World} {base : Nat} {T : TypeId} {size n : Nat} {v : Value} {xs : List Value} (h : w.ownsRow base T size v n xs) (hk : ∀ g, v.ownBlock = some g → w'.heap[g]? = w.heap[g]?) : w'.ownsRow base T size v n xs := by
  obtain ⟨h1, h2⟩ := h
  refine ⟨h1, ?_⟩
  rcases h2 with h2 | ⟨g, c, cur, rfl, q1, q2, q3, q4, q5, q6⟩
  · exact .inl h2
  · exact .inr ⟨g, c, cur, rfl, q1, (hk g rfl).trans q2, q3, q4, q5, q6⟩
/-- Stack and map in the world wr; what is compared stands in W. -/
structure TO (W wr : World) (mb : Nat) (u : Value) (ps : List (List Tm × List Tm)) (xs : List Value) (st : List (List Tm × List Tm)) : Prop where
  bel : Below W.heap.size W wr
  row : wr.ownsRow W.heap.size 80 2 u ps.length xs
  stk : Stk W ps xs
  map : PrMap wr mb (Kn W st)
  mlo : W.heap.size ≤ mb
theorem TO.ne {W wr : World} {mb : Nat} {u : Value} {ps st : List (List Tm × List Tm)} {xs : List Value} (h : TO W wr mb u ps xs st) {g : Nat} (hg : u.ownBlock = some g) : g ≠ mb ∧ W.heap.size ≤ g ∧ g < wr.heap.size := by
  obtain ⟨es, clk, hm, _⟩ := h.map
  rcases h.row.2 with ⟨e, _⟩ | ⟨g', c, cur, rfl, q1, q2, _⟩
  · rw [e] at hg; cases hg
  · have hgg : g' = g := by
      have : some g' = some g := hg
      injection this
    subst hgg
    refine ⟨fun e => ?_, q1, ?_⟩
    · rw [e, hm] at q2; cases q2
    · rcases Nat.lt_or_ge g' wr.heap.size with h9 | h9
      · exact h9
      · rw [Array.getElem?_eq_none h9] at q2; cases q2
theorem TO.mlt {W wr : World} {mb : Nat} {u : Value} {ps st : List (List Tm × List Tm)} {xs : List Value} (h : TO W wr mb u ps xs st) : mb < wr.heap.size := by
  obtain ⟨es, clk, hm, _⟩ := h.map
  rcases Nat.lt_or_ge mb wr.heap.size with h9 | h9
  · exact h9
  · rw [Array.getElem?_eq_none h9] at hm; cases hm
theorem nm_lt {W : World} {l : List Tm} {ao : Option Addr} (h : RepL 0 W l ao) {b o : Nat} (e : (nmL l ao).1 = some (b, o)) : b < W.heap.size := by
  rcases l with _ | ⟨t, r⟩
  · rw [nmL_nil] at e; cases e
  · rw [RepL] at h
    obtain ⟨b', o', rfl, _, h2, _⟩ := h
    rw [nmL_cons (by simp)] at e
    simp only [Option.some.injEq, Prod.mk.injEq] at e
    obtain ⟨rfl, rfl⟩ := e
    obtain ⟨k, n, s, l'⟩ := t
    rw [RepT] at h2
    exact World.block_lt_of_cell? W _ h2.1
theorem plainP_keep {w w' : World} : ∀ {p : Option (Nat × Nat)}, PlainP w p → (∀ b o, p = some (b, o) → w'.heap[b]? = w.heap[b]?) → PlainP w' p
  | none, _, _ => trivial
  | some (b, o), ⟨⟨c, t, f, h1⟩, h2⟩, hk => ⟨⟨c, t, f, by rw [hk b o rfl]; exact h1⟩, fun y => by rw [World.frozen?_of_block (w := w) (hk b o rfl)]; exact h2 y⟩
theorem Kn.keep {W w w' : World} {st : List (List Tm × List Tm)} (hb : ∀ b, b < W.heap.size → w'.heap[b]? = w.heap[b]?) (x y : Nm) (hk : Kn W st x y) (hx : PlainP w x.1) (hy : PlainP w y.1) : PlainP w' x.1 ∧ PlainP w' y.1 := by
  obtain ⟨l, l', ao, ao', rfl, rfl, h3, h4, h5⟩ := hk
  exact ⟨plainP_keep hx (fun b o e => hb b (nm_lt h3 e)), plainP_keep hy (fun b o e => hb b (nm_lt h4 e))⟩
theorem TO.call {W wr w1 : World} {mb : Nat} {u : Value} {ps st : List (List Tm × List Tm)} {xs : List Value} (h : TO W wr mb u ps xs st) (hb : Below wr.heap.size wr w1) : TO W w1 mb u ps xs st :=
  ⟨h.bel.trans (hb.mono h.bel.size), own_keepR h.row (fun g hg => hb.block g (h.ne hg).2.2), h.stk, h.map.keep (hb.block mb h.mlt) (Kn.keep fun b hl => hb.block b (Nat.lt_of_lt_of_le hl h.bel.size)), h.mlo⟩
/-- The top of the stack. -/
theorem TO.top {W wr : World} {mb : Nat} {u : Value} {qs st : List (List Tm × List Tm)} {l l' : List Tm} {xs : List Value} (h : TO W wr mb u (qs ++ [(l, l')]) xs st) :
    ∃ g c ys ao ao' ca ca', u = .slice (some ⟨g, 0, none⟩) (qs.length + 1) c ∧ xs = ys ++ [.slice ao l.length ca, .slice ao' l'.length ca'] ∧ ys.length = qs.length * 2 ∧ Stk W qs ys ∧ RepL 0 W l ao ∧ RepL 0 W l' ao' ∧ HpL W l ao l' ao' ∧ l.length ≤ ca ∧ ca ≤ maxLen ∧ l'.length ≤ ca' ∧ ca' ≤ maxLen ∧ qs.length + 1 ≤ c ∧ c ≤ maxLen ∧
      wr.cell? ⟨g, qs.length * 2, none⟩ = some (.slice ao l.length ca) ∧ wr.cell? ⟨g, qs.length * 2 + 1, none⟩ = some (.slice ao' l'.length ca') ∧ ∀ o, wr.frozen? ⟨g, o, none⟩ = false := by
  obtain ⟨ys, v, v', ao, ao', rfl, h1, h2, h3, h4⟩ := h.stk.split
  obtain ⟨ca, rfl, k1, k2⟩ := h2.e
  obtain ⟨ca', rfl, k3, k4⟩ := h3.e
  have hyl := h1.len
  have hr := h.row
  rw [List.length_append] at hr
  rcases hr.2 with ⟨_, e⟩ | ⟨g, c, cur, rfl, q1, q2, q3, q4, q5, q6⟩
  · simp at e
  · have hcell : ∀ j v, (ys ++ [Value.slice ao l.length ca, .slice ao' l'.length ca'])[j]? = some v → wr.cell? ⟨g, j, none⟩ = some v := fun j v hj => by
      rw [← q6, List.getElem?_take] at hj
      split at hj
      · simpa [World.cell?, q2] using hj
      · cases hj
    refine ⟨g, c, ys, ao, ao', ca, ca', by simp, rfl, hyl, h1, h2.r, h3.r, h4, k1, k2, k3, k4, by simpa using q3, q4, hcell _ _ ?_, hcell _ _ ?_, fun o => by simp [World.frozen?, q2]⟩
    · rw [List.getElem?_append_right (by omega), hyl, Nat.sub_self]; rfl
    · rw [List.getElem?_append_right (by omega), hyl, show qs.length * 2 + 1 - qs.length * 2 = 1 by omega]; rfl
theorem TO.pop {W wr : World} {mb g c : Nat} {qs : List (List Tm × List Tm)} {xs : List Value} (h : TO W wr mb (.slice (some ⟨g, 0, none⟩) (qs.length + 1) c) (qs ++ [([], [])]) xs (([], []) :: qs.reverse)) : ∃ ys, TO W wr mb (.slice (some ⟨g, 0, none⟩) qs.length c) qs ys qs.reverse := by
  obtain ⟨g', c', ys, ao, ao', ca, ca', e1, e2, e3, e4, _⟩ := h.top
  cases e1
  have hr := h.row
  rw [List.length_append, e2] at hr
  refine ⟨ys, h.bel, ownsRow_pop e3 hr, e4, ?_, h.mlo⟩
  exact h.map.mono (fun x y hk => Kn.mono (fun l l' hm => hm.pop) hk)
/-- The rest of a list, as a slice behind its first. -/
def ofs (o c : Nat) : Nat := if c = 1 then o else o + 4
theorem sl_tail {W : World} {t : Tm} {r : List Tm} {b o c : Nat} (h : RepL 0 W (t :: r) (some ⟨b, o, none⟩)) (hl : (t :: r).length ≤ c) (hc : c ≤ maxLen) : Sl W (.slice (some ⟨b, ofs o c, none⟩) r.length (c - 1)) r (some ⟨b, ofs o c, none⟩) := by
  rw [List.length_cons] at hl
  refine ⟨⟨c - 1, rfl, by omega, by omega⟩, ?_⟩
  rw [RepL] at h
  obtain ⟨b', o', e, _, _, h2⟩ := h
  cases e
  unfold ofs
  by_cases hc1 : c = 1
  · have : r = [] := by
      cases r with
      | nil => rfl
      | cons a b => simp at hl; omega
    subst this
    rw [RepL]; trivial
  · rw [if_neg hc1]; exact h2
theorem hp_tail {W : World} {t t' : Tm} {r r' : List Tm} {b o c b' o' c' : Nat} (h : HpL W (t :: r) (some ⟨b, o, none⟩) (t' :: r') (some ⟨b', o', none⟩)) (hl : (t :: r).length ≤ c) (hl' : (t' :: r').length ≤ c') : HpL W r (some ⟨b, ofs o c, none⟩) r' (some ⟨b', ofs o' c', none⟩) := by
  rw [HpL] at h
  have h2 := (h b o b' o' rfl rfl).2
  cases r with
  | nil => rw [HpL]; trivial
  | cons a r =>
    cases r' with
    | nil => rw [HpL]; trivial
    | cons a' r' =>
      simp only [List.length_cons] at hl hl'
      unfold ofs
      rw [if_neg (by omega), if_neg (by omega)]
      exact h2
theorem TO.set {W wr : World} {mb g c : Nat} {qs st : List (List Tm × List Tm)} {l l' r r' : List Tm} {ys : List Value} {v v' u u' : Value} {ao ao' : Option Addr}
    (h : TO W wr mb (.slice (some ⟨g, 0, none⟩) (qs.length + 1) c) (qs ++ [(l, l')]) (ys ++ [v, v']) st) (hy : Stk W qs ys) (hu : Sl W u r ao) (hu' : Sl W u' r' ao') (hp : HpL W r ao r' ao') :
    TO W ((wr.setCell ⟨g, qs.length * 2, none⟩ u).setCell ⟨g, qs.length * 2 + 1, none⟩ u') mb (.slice (some ⟨g, 0, none⟩) (qs.length + 1) c) (qs ++ [(r, r')]) (ys ++ [u, u']) st := by
  have hr := h.row
  have hyl := hy.len
  have hn := h.ne (g := g) rfl
  rw [List.length_append, List.length_singleton] at hr
  obtain ⟨r1, g1⟩ := hr.stored (qs.length * 2) u
  obtain ⟨r2, g2⟩ := r1.stored (qs.length * 2 + 1) u'
  have hx : ((ys ++ [v, v']).set (qs.length * 2) u).set (qs.length * 2 + 1) u' = ys ++ [u, u'] := by
    rw [List.set_append_right _ _ (by omega), hyl, Nat.sub_self, List.set_append_right _ _ (by omega), hyl, show qs.length * 2 + 1 - qs.length * 2 = 1 by omega]
    rfl
  rw [hx] at r2
  have hk : ∀ b, b < wr.heap.size → b ≠ g → ((wr.setCell ⟨g, qs.length * 2, none⟩ u).setCell ⟨g, qs.length * 2 + 1, none⟩ u').heap[b]? = wr.heap[b]? := fun b hb hg => by
    have hs : (wr.setCell ⟨g, qs.length * 2, none⟩ u).heap.size = wr.heap.size := World.size_setCell _ _ _
    exact (g2.block b (by omega) (by simpa using hg)).trans (g1.block b hb (by simpa using hg))
  refine ⟨(h.bel.setCell hn.2.1 _).setCell hn.2.1 _, by rw [List.length_append, List.length_singleton]; exact r2, Stk.snoc hu hu' hp hy, h.map.keep (hk mb h.mlt (fun e => hn.1 e.symm)) (Kn.keep fun b hl => hk b (Nat.lt_of_lt_of_le hl h.bel.size) (by omega)), h.mlo⟩
theorem TO.upd {W wr w' : World} {mb : Nat} {u : Value} {ps st st' : List (List Tm × List Tm)} {xs : List Value} (h : TO W wr mb u ps xs st) (ht : Turn mb wr w') (hm : PrMap w' mb (Kn W st')) : TO W w' mb u ps xs st' :=
  ⟨Turn.below h.bel h.bel.size ht h.mlo, own_keepR h.row (fun g hg => ht.block g (h.ne hg).2.2 (h.ne hg).1), h.stk, hm, h.mlo⟩
theorem TO.more {W w5 w8 : World} {mb : Nat} {u v' : Value} {ps st : List (List Tm × List Tm)} {xs : List Value} {l l' : List Tm} {v1 v2 : Value} {ao ao' : Option Addr} (h : TO W w5 mb u ps xs st) (hv : Sl W v1 l ao) (hv' : Sl W v2 l' ao') (hp : HpL W l ao l' ao')
    (hown : w8.ownsRow W.heap.size 80 2 v' (ps.length + 1) (xs ++ [v1, v2])) (hgr : w5.grownBy w8 u.ownBlock) : TO W w8 mb v' (ps ++ [(l, l')]) (xs ++ [v1, v2]) st := by
  have hk : ∀ b, b < w5.heap.size → u.ownBlock ≠ some b → w8.heap[b]? = w5.heap[b]? := fun b hb hg => hgr.block b hb (fun e => hg e.symm)
  refine ⟨⟨hgr.os.trans h.bel.os, hgr.tape.trans h.bel.tape, hgr.output.trans h.bel.output, Nat.le_trans h.bel.size hgr.size, fun b hb => (hk b (Nat.lt_of_lt_of_le hb h.bel.size) (fun e => by have := (h.ne e).2.1; omega)).trans (h.bel.block b hb)⟩, by rw [List.length_append]; exact hown, Stk.snoc hv hv' hp h.stk, h.map.keep (hk mb h.mlt (fun e => (h.ne e).1 rfl)) (Kn.keep fun b hl => hk b (Nat.lt_of_lt_of_le hl h.bel.size) (fun e => by have := (h.ne e).2.1; omega)), h.mlo⟩
/-- What stands within, where it is. -/
def wiA (k : Int) (ao : Option Addr) : Option Addr := if k = 4 ∨ k = 5 then ao else none
theorem sl_wi {W : World} {k : Int} {l : List Tm} {ao : Option Addr} {cap : Nat} (h : RepL 0 W l ao) (hl : l.length ≤ cap) (hc : cap ≤ maxLen) : Sl W (inn k (.slice ao l.length cap)) (wiL k l) (wiA k ao) := by
  unfold inn wiL wiA
  by_cases hk : k = 4 ∨ k = 5
  · rw [if_pos hk, if_pos hk, if_pos hk]; exact ⟨⟨cap, rfl, hl, hc⟩, h⟩
  · rw [if_neg hk, if_neg hk, if_neg hk]; exact ⟨⟨0, rfl, Nat.zero_le _, Nat.zero_le _⟩, by rw [RepL]; trivial⟩
theorem hp_wi {W : World} {k n : Int} {s : ByteArray} {l : List Tm} {k' n' : Int} {s' : ByteArray} {l' : List Tm} {ax ay : Option Addr} (h : HpT W (.mk k n s l) ax (.mk k' n' s' l') ay) (he : k = k') : HpL W (wiL k l) (wiA k ax) (wiL k' l') (wiA k' ay) ∧ PlA W (wiL k l) (wiA k ax) ∧ PlA W (wiL k' l') (wiA k' ay) := by
  subst he
  unfold wiL wiA
  by_cases hk : k = 4 ∨ k = 5
  · rw [if_pos hk, if_pos hk, if_pos hk, if_pos hk]
    rw [HpT] at h
    exact h hk rfl
  · rw [if_neg hk, if_neg hk, if_neg hk, if_neg hk]
    refine ⟨by rw [HpL]; trivial, ?_, ?_⟩ <;> (unfold PlA; rw [nmL_nil]; trivial)
theorem own_same {k n : Int} {s : ByteArray} {a : Nat} {k' n' : Int} {s' : ByteArray} {a' : Nat} (h : thenC (cmpI k k') (ownC k n s a n' s' a') = 0) : k = k' := by
  apply (cmpI_zero k k').1
  unfold thenC at h
  split at h
  · assumption
  · exact h
end Go.Proofs.YtfjaphhijefdlaaGreatDoor
namespace Go.Proofs.YtfjaphhijefdlaaGreatDoor
open Go.RowKit
set_option linter.unusedVariables false

mutual
theorem HpT.below {w W : World} (hb : Below w.heap.size w W) : ∀ (t : Tm) (ax : Option Addr) (t' : Tm) (ay : Option Addr), (∀ k n s l k' n' s' l', t = .mk k n s l → t' = .mk k' n' s' l' → RepL 0 w l ax ∧ RepL 0 w l' ay) → HpT w t ax t' ay → HpT W t ax t' ay
  | .mk k n s l, ax, .mk k' n' s' l', ay, hr, h => by
    rw [HpT] at h ⊢
    intro hk he
    obtain ⟨h1, h2, h3⟩ := h hk he
    obtain ⟨r1, r2⟩ := hr k n s l k' n' s' l' rfl rfl
    exact ⟨HpL.below hb l ax l' ay r1 r2 h1, plainP_keep h2 (fun b o e => hb.block b (nm_lt r1 e)), plainP_keep h3 (fun b o e => hb.block b (nm_lt r2 e))⟩
theorem HpL.below {w W : World} (hb : Below w.heap.size w W) : ∀ (l : List Tm) (ao : Option Addr) (l' : List Tm) (ao' : Option Addr), RepL 0 w l ao → RepL 0 w l' ao' → HpL w l ao l' ao' → HpL W l ao l' ao'
  | [], ao, l', ao', _, _, _ => by rw [HpL]; trivial
  | t :: r, ao, [], ao', _, _, _ => by rw [HpL]; trivial
  | t :: r, ao, t' :: r', ao', h1, h2, h => by
    rw [HpL] at h ⊢
    rw [RepL] at h1 h2
    obtain ⟨b, o, rfl, _, q1, q2⟩ := h1
    obtain ⟨b', o', rfl, _, p1, p2⟩ := h2
    intro b1 o1 b2 o2 e1 e2
    cases e1
    cases e2
    obtain ⟨h3, h4⟩ := h b o b' o' rfl rfl
    refine ⟨fun ax n c ay n' c' c1 c2 => ?_, HpL.below hb r _ r' _ q2 p2 h4⟩
    obtain ⟨k, n0, s, l⟩ := t
    obtain ⟨k', n0', s', l'⟩ := t'
    rw [RepT] at q1 p1
    obtain ⟨a0, _, _, _, bo, cap, a3, _, _, rl⟩ := q1
    obtain ⟨a0', _, _, _, bo', cap', a3', _, _, rl'⟩ := p1
    have d1 := hb.cell (p := ⟨b, o + 3, none⟩) (World.block_lt_of_cell? w _ a3)
    have d2 := hb.cell (p := ⟨b', o' + 3, none⟩) (World.block_lt_of_cell? w _ a3')
    rw [d1, a3] at c1
    rw [d2, a3'] at c2
    have h5 := h3 _ _ _ _ _ _ a3 a3'
    cases c1
    cases c2
    exact HpT.below hb _ _ _ _ (fun k1 n1 s1 l1 k2 n2 s2 l2 e3 e4 => by cases e3; cases e4; exact ⟨rl, rl'⟩) h5
end
theorem four_newJ (w : World) (A B C D : Array Value) (ta tb tc td : TypeId) :
    let W := (((w.alloc (.cells A ta)).alloc (.cells B tb)).alloc (.cells C tc)).alloc (.cells D td)
    W.heap[w.heap.size]? = some (.cells A ta (0, 0)) ∧ W.heap[w.heap.size + 1]? = some (.cells B tb (0, 0)) ∧ W.heap[w.heap.size + 1 + 1]? = some (.cells C tc (0, 0)) ∧ W.heap[w.heap.size + 1 + 1 + 1]? = some (.cells D td (0, 0)) ∧ Below w.heap.size w W ∧ W.heap.size = w.heap.size + 1 + 1 + 1 + 1 := by
  intro W
  have z1 : (w.alloc (.cells A ta)).heap.size = w.heap.size + 1 := World.size_alloc _ _
  have z2 : ((w.alloc (.cells A ta)).alloc (.cells B tb)).heap.size = w.heap.size + 1 + 1 := by rw [World.size_alloc, z1]
  have z3 : (((w.alloc (.cells A ta)).alloc (.cells B tb)).alloc (.cells C tc)).heap.size = w.heap.size + 1 + 1 + 1 := by rw [World.size_alloc, z2]
  have k1 : ∀ k, k < w.heap.size + 1 → ((w.alloc (.cells A ta)).alloc (.cells B tb)).heap[k]? = (w.alloc (.cells A ta)).heap[k]? := fun k hk => ((Below.refl _ _).alloc (Nat.le_refl _) _).block k (by rw [z1]; exact hk)
  have k2 : ∀ k, k < w.heap.size + 1 + 1 → (((w.alloc (.cells A ta)).alloc (.cells B tb)).alloc (.cells C tc)).heap[k]? = ((w.alloc (.cells A ta)).alloc (.cells B tb)).heap[k]? := fun k hk => ((Below.refl _ _).alloc (Nat.le_refl _) _).block k (by rw [z2]; exact hk)
  have k3 : ∀ k, k < w.heap.size + 1 + 1 + 1 → W.heap[k]? = (((w.alloc (.cells A ta)).alloc (.cells B tb)).alloc (.cells C tc)).heap[k]? := fun k hk => ((Below.refl _ _).alloc (Nat.le_refl _) _).block k (by rw [z3]; exact hk)
  refine ⟨?_, ?_, ?_, ?_, (((Below.refl w.heap.size w).alloc (Nat.le_refl _) _).alloc (by rw [World.size_alloc]; omega) _).alloc (by rw [World.size_alloc, World.size_alloc]; omega) _ |>.alloc (by rw [World.size_alloc, World.size_alloc, World.size_alloc]; omega) _, by rw [World.size_alloc, World.size_alloc, World.size_alloc, World.size_alloc]⟩
  · rw [k3 _ (by omega), k2 _ (by omega), k1 _ (by omega)]; exact heap_alloc_new w _
  · rw [k3 _ (by omega), k2 _ (by omega)]
    have := heap_alloc_new (w.alloc (.cells A ta)) (.cells B tb)
    rw [z1] at this; exact this
  · rw [k3 _ (by omega)]
    have := heap_alloc_new ((w.alloc (.cells A ta)).alloc (.cells B tb)) (.cells C tc)
    rw [z2] at this; exact this
  · have := heap_alloc_new (((w.alloc (.cells A ta)).alloc (.cells B tb)).alloc (.cells C tc)) (.cells D td)
    rw [z3] at this; exact this
theorem cell_blkJ {w : World} {R o : Nat} {cs : Array Value} {t : TypeId} {f : Nat × Nat} (h : w.heap[R]? = some (.cells cs t f)) : w.cell? ⟨R, o, none⟩ = cs[o]? := by simp [World.cell?, h]
theorem run_tail (b o r c : Nat) (hc : r + 1 ≤ c) (W : World) :
    (Instr.slice 24 (.slice (some ⟨b, o, none⟩) (r + 1) c) (some (.int .i64 1)) none none).run Tryz.prog W = .ok (.slice (some ⟨b, ofs o c, none⟩) r (c - 1)) W := by
  have hs : (sizeOf (Tryz.prog.elem 24)).run Tryz.prog W = .ok 4 W := by kernel_rfl
  have h := run_slice_l (P := Tryz.prog) (w := W) (t := 24) (a := some ⟨b, o, none⟩) (len := r + 1) (cap := c) (by kernel_rfl) .i64 1 (by omega) (by omega)
  rw [h, hs]
  unfold ofs
  by_cases hci : c = 1
  · rw [if_pos hci]
    simp [Result.andThen, sliced, hci]
  · rw [if_neg hci]
    simp [Result.andThen, sliced, hci, Addr.add]

theorem keepJ {w w' : World} (h : Below w.heap.size w w') {b o : Nat} {v : Value} (hc : w.cell? ⟨b, o, none⟩ = some v) : w'.cell? ⟨b, o, none⟩ = some v := by
  rw [h.cell (p := ⟨b, o, none⟩) (World.block_lt_of_cell? w _ hc)]; exact hc
theorem TO.drew {W wr : World} {mb : Nat} {u : Value} {ps st : List (List Tm × List Tm)} {xs : List Value} (h : TO W wr mb u ps xs st) : TO W wr.drew mb u ps xs st := h.call (Below.refl _ _).drew
theorem np_ptr (p : Option (Nat × Nat)) : ∃ P, npV p = .pointer P := by
  rcases p with _ | ⟨b, o⟩
  · exact ⟨none, rfl⟩
  · exact ⟨_, rfl⟩
theorem belAJ {w X : World} (h : Below w.heap.size w X) (o : Obj) : Below w.heap.size w (X.alloc o) := h.alloc h.size o
theorem belDJ {w X : World} (h : Below w.heap.size w X) : Below w.heap.size w X.drew := h.drew
theorem belSJ {w X : World} {g o : Nat} {v : Value} (h : Below w.heap.size w X) (hg : w.heap.size ≤ g) : Below w.heap.size w (X.setCell ⟨g, o, none⟩ v) := h.setCell hg _
theorem belNJ {w X Y : World} (h : Below w.heap.size w X) (k : Below X.heap.size X Y) : Below w.heap.size w Y := h.trans (k.mono h.size)
/-- A new variable for two names. -/
def ZQ (Y : World) (nb : Nat) : Prop := Y.cell? ⟨nb, 0, none⟩ = some (.pointer none) ∧ Y.cell? ⟨nb, 1, none⟩ = some (.int .i64 0) ∧ Y.cell? ⟨nb, 2, none⟩ = some (.pointer none) ∧ Y.cell? ⟨nb, 3, none⟩ = some (.int .i64 0) ∧ (∀ x, Y.frozen? ⟨nb, x, none⟩ = false) ∧ nb < Y.heap.size
theorem ZQ.new (w : World) : ZQ (w.alloc (.cells #[.pointer none, .int .i64 0, .pointer none, .int .i64 0] 94)) w.heap.size :=
  ⟨by rw [World.cell?_alloc_new]; rfl, by rw [World.cell?_alloc_new]; rfl, by rw [World.cell?_alloc_new]; rfl, by rw [World.cell?_alloc_new]; rfl, fun x => by rw [World.frozen?_alloc_new], by rw [World.size_alloc]; omega⟩
theorem ZQ.below {Y Y' : World} {nb : Nat} (hb : Below Y.heap.size Y Y') (h : ZQ Y nb) : ZQ Y' nb :=
  ⟨keepJ hb h.1, keepJ hb h.2.1, keepJ hb h.2.2.1, keepJ hb h.2.2.2.1, fun x => by rw [hb.frozen (p := ⟨nb, x, none⟩) h.2.2.2.2.2]; exact h.2.2.2.2.1 x, Nat.lt_of_lt_of_le h.2.2.2.2.2 hb.size⟩
theorem ZQ.set {w Y : World} {nb : Nat} (h : ZQ Y nb) (hb : Below w.heap.size w Y) (hn : w.heap.size ≤ nb) (a b c d : Value) :
    Below w.heap.size w ((((Y.setCell ⟨nb, 0, none⟩ a).setCell ⟨nb, 1, none⟩ b).setCell ⟨nb, 2, none⟩ c).setCell ⟨nb, 3, none⟩ d) ∧ ((((Y.setCell ⟨nb, 0, none⟩ a).setCell ⟨nb, 1, none⟩ b).setCell ⟨nb, 2, none⟩ c).setCell ⟨nb, 3, none⟩ d).cell? ⟨nb, 0, none⟩ = some a ∧ ((((Y.setCell ⟨nb, 0, none⟩ a).setCell ⟨nb, 1, none⟩ b).setCell ⟨nb, 2, none⟩ c).setCell ⟨nb, 3, none⟩ d).cell? ⟨nb, 1, none⟩ = some b ∧ ((((Y.setCell ⟨nb, 0, none⟩ a).setCell ⟨nb, 1, none⟩ b).setCell ⟨nb, 2, none⟩ c).setCell ⟨nb, 3, none⟩ d).cell? ⟨nb, 2, none⟩ = some c ∧ ((((Y.setCell ⟨nb, 0, none⟩ a).setCell ⟨nb, 1, none⟩ b).setCell ⟨nb, 2, none⟩ c).setCell ⟨nb, 3, none⟩ d).cell? ⟨nb, 3, none⟩ = some d := by
  have hin := World.cell?_setCells_in nb [a, b, c, d] 0 Y (fun j hj => by
    have hj' : j < 4 := hj
    match j, hj' with
    | 0, _ => rw [h.1]; rfl
    | 1, _ => rw [h.2.1]; rfl
    | 2, _ => rw [h.2.2.1]; rfl
    | 3, _ => rw [h.2.2.2.1]; rfl)
  exact ⟨(((hb.setCell hn _).setCell hn _).setCell hn _).setCell hn _, hin 0 (by show 0 < 4; omega), hin 1 (by show 1 < 4; omega), hin 2 (by show 2 < 4; omega), hin 3 (by show 3 < 4; omega)⟩
theorem cnt_sum (k n : Int) (s : ByteArray) (l r : List Tm) : cntL (wiL k l) + cntL r + 1 ≤ cntL (.mk k n s l :: r) := by
  rw [cntL, cntT]
  unfold wiL
  split
  · omega
  · rw [cntL]; omega
theorem msr_len : ∀ ps : List (List Tm × List Tm), ps.length ≤ msr ps
  | [] => Nat.le_refl _
  | p :: r => by have := msr_len r; rw [List.length_cons, msr]; omega
theorem twoOne {a c : Option Addr} {b d e f : Nat} : ∀ v ∈ ([.slice a b e, .slice c d f] : List Value), v.oneCell' = true := fun v hv => by
  simp at hv
  rcases hv with rfl | rfl <;> rfl
theorem twoCells {w : World} {a b : Value} {t : TypeId} : ∀ j u, [a, b][j]? = some u → (w.alloc (.cells #[a, b] t)).cell? ((⟨w.heap.size, 0, none⟩ : Addr).add j) = some u := fun j u h => by
  rw [Addr.add_lit, Nat.zero_add, World.cell?_alloc_new]
  simpa using h
theorem hidJ {p : Prop} (h : p) : Hid p := h
theorem stackC_one (t t' : Tm) : stackC [([t], [t'])] = cmpT t t' := by
  rw [stackC, stackC, cmpL, cmpL_nil, thenC_right, thenC_right]
theorem ret_i {x y : Int} (h : x = y) : Ending.returned (.int .i64 x) = .returned (.int .i64 y) := by rw [h]

set_option maxHeartbeats 4000000 in
set_option maxRecDepth 100000 in
theorem termOrder_any (k n : Int) (s : ByteArray) (l : List Tm) (ax : Option Addr) (cx : Nat) (k' n' : Int) (s' : ByteArray) (l' : List Tm) (ay : Option Addr) (cy : Nat) (w : World)
    (hv : RepV 0 w (.mk k n s l) (.agg #[.int .i64 k, .int .i64 n, .string s, .slice ax l.length cx])) (hv' : RepV 0 w (.mk k' n' s' l') (.agg #[.int .i64 k', .int .i64 n', .string s', .slice ay l'.length cy]))
    (hp : HpT w (.mk k n s l) ax (.mk k' n' s' l') ay) (hcnt : cntT (.mk k n s l) ≤ 1000000000) :
    Calls Tryz.prog 29 #[.agg #[.int .i64 k, .int .i64 n, .string s, .slice ax l.length cx], .agg #[.int .i64 k', .int .i64 n', .string s', .slice ay l'.length cy]] w fun e w' => e = .returned (.int .i64 (cmpT (.mk k n s l) (.mk k' n' s' l'))) ∧ Below w.heap.size w w' := by
  obtain ⟨W, hW⟩ : ∃ W, W = (((w.alloc (.cells #[.int .i64 k, .int .i64 n, .string s, .slice ax l.length cx] 26)).alloc (.cells #[.int .i64 k', .int .i64 n', .string s', .slice ay l'.length cy] 26)).alloc (.cells #[.int .i64 k, .int .i64 n, .string s, .slice ax l.length cx] 26)).alloc (.cells #[.int .i64 k', .int .i64 n', .string s', .slice ay l'.length cy] 26) := ⟨_, rfl⟩
  obtain ⟨C, hC⟩ : ∃ C, C = cmpT (.mk k n s l) (.mk k' n' s' l') := ⟨_, rfl⟩
  have hbW : Below w.heap.size w W := by rw [hW]; exact ((((Below.refl _ _).alloc (Nat.le_refl _) _).alloc (by simp) _).alloc (by simp; omega) _).alloc (by simp; omega) _
  have hzW : W.heap.size = w.heap.size + 4 := by rw [hW]; simp
  obtain ⟨b0, b1, b2, b3, -⟩ := four_newJ w #[.int .i64 k, .int .i64 n, .string s, .slice ax l.length cx] #[.int .i64 k', .int .i64 n', .string s', .slice ay l'.length cy] #[.int .i64 k, .int .i64 n, .string s, .slice ax l.length cx] #[.int .i64 k', .int .i64 n', .string s', .slice ay l'.length cy] 26 26 26 26
  rw [← hW] at b0 b1 b2 b3
  obtain ⟨ax', cx', ex, hs, hlx, hcx, rl⟩ := hv
  obtain ⟨ay', cy', ey, hs', hly, hcy, rl'⟩ := hv'
  cases ex
  cases ey
  have rW : RepL 0 W l ax := (Keeps.below hbW 0).repL _ _ rl
  have rW' : RepL 0 W l' ay := (Keeps.below hbW 0).repL _ _ rl'
  have r1 : RepL 0 W [.mk k n s l] (some ⟨w.heap.size + 1 + 1, 0, none⟩) := by
    rw [RepL]
    refine ⟨_, 0, rfl, Nat.zero_le _, ?_, by rw [RepL]; trivial⟩
    rw [RepT]
    exact ⟨cell_blkJ b2, cell_blkJ b2, cell_blkJ b2, hs, ax, cx, cell_blkJ b2, hlx, hcx, rW⟩
  have r2 : RepL 0 W [.mk k' n' s' l'] (some ⟨w.heap.size + 1 + 1 + 1, 0, none⟩) := by
    rw [RepL]
    refine ⟨_, 0, rfl, Nat.zero_le _, ?_, by rw [RepL]; trivial⟩
    rw [RepT]
    exact ⟨cell_blkJ b3, cell_blkJ b3, cell_blkJ b3, hs', ay, cy, cell_blkJ b3, hly, hcy, rW'⟩
  have hpW : HpL W [.mk k n s l] (some ⟨w.heap.size + 1 + 1, 0, none⟩) [.mk k' n' s' l'] (some ⟨w.heap.size + 1 + 1 + 1, 0, none⟩) := by
    rw [HpL]
    intro b o b' o' e e'
    cases e
    cases e'
    refine ⟨fun ax2 n2 c2 ay2 n2' c2' d1 d2 => ?_, by rw [HpL]; trivial⟩
    rw [cell_blkJ b2] at d1
    rw [cell_blkJ b3] at d2
    cases d1
    cases d2
    exact HpT.below hbW _ _ _ _ (fun k1 n1 s1 l1 k2 n2 s2 l2 e3 e4 => by cases e3; cases e4; exact ⟨rl, rl'⟩) hp
  obtain ⟨w0, hw0⟩ : ∃ w0, w0 = (W.alloc (.cells #[.slice (some ⟨w.heap.size + 1 + 1, 0, none⟩) 1 1, .slice (some ⟨w.heap.size + 1 + 1 + 1, 0, none⟩) 1 1] 80)).alloc (.map #[] 0) := ⟨_, rfl⟩
  have hT0 : TO W w0 (w.heap.size + 1 + 1 + 1 + 1 + 1) (.slice (some ⟨w.heap.size + 1 + 1 + 1 + 1, 0, none⟩) 1 1) [([.mk k n s l], [.mk k' n' s' l'])] [.slice (some ⟨w.heap.size + 1 + 1, 0, none⟩) 1 1, .slice (some ⟨w.heap.size + 1 + 1 + 1, 0, none⟩) 1 1] [([.mk k n s l], [.mk k' n' s' l'])] := by
    have hz1 : (W.alloc (.cells #[.slice (some ⟨w.heap.size + 1 + 1, 0, none⟩) 1 1, .slice (some ⟨w.heap.size + 1 + 1 + 1, 0, none⟩) 1 1] 80)).heap.size = w.heap.size + 1 + 1 + 1 + 1 + 1 := by rw [World.size_alloc, hzW]
    have hm := heap_alloc_new (W.alloc (.cells #[.slice (some ⟨w.heap.size + 1 + 1, 0, none⟩) 1 1, .slice (some ⟨w.heap.size + 1 + 1 + 1, 0, none⟩) 1 1] 80)) (.map #[] 0)
    have ho := World.ownsRow_lit (base := W.heap.size) (e := 80) (size := 2) W #[.slice (some ⟨w.heap.size + 1 + 1, 0, none⟩) 1 1, .slice (some ⟨w.heap.size + 1 + 1 + 1, 0, none⟩) 1 1] 1 (Nat.le_refl _) (by decide) rfl
    rw [hz1] at hm
    rw [hzW] at ho
    refine ⟨by rw [hw0]; exact ((Below.refl _ _).alloc (Nat.le_refl _) _).alloc (by rw [World.size_alloc]; omega) _, ?_, ?_, ⟨#[], 0, by rw [hw0]; exact hm, fun e he => by simp at he⟩, by omega⟩
    · rw [hw0, hzW]; exact ho.alloc _
    · rw [Stk]
      exact ⟨_, _, _, _, [], rfl, ⟨⟨1, rfl, Nat.le_refl _, by decide⟩, r1⟩, ⟨⟨1, rfl, Nat.le_refl _, by decide⟩, r2⟩, hpW, by rw [Stk]⟩
  have HT0 := hidJ hT0
  have HBW : Hid (Below w.heap.size w W) := hbW
  have HC : Hid (stackC [([.mk k n s l], [.mk k' n' s' l'])] = C) := by rw [stackC_one]; exact hC.symm
  have HB0 : Hid (msr [([.mk k n s l], [.mk k' n' s' l'])] ≤ 2000000001) := by
    show _ ≤ _
    simp only [msr, cntL]; omega
  obtain ⟨p0, hp0⟩ : ∃ p0, p0 = (([.mk k n s l], [.mk k' n' s' l']) : List Tm × List Tm) := ⟨_, rfl⟩
  rw [← hp0] at HC HT0 HB0
  rw [← hC]
  obtain ⟨i0, hi0, hzz⟩ := Option.map_eq_some_iff.1 infoSides
  simp only [Prod.mk.injEq] at hzz
  have HI : Hid (Tryz.prog.info? 80 = some i0 ∧ i0.zero = some (.agg #[.slice none 0 0, .slice none 0 0]) ∧ i0.size = 2 ∧ i0.bytes = 48) := ⟨hi0, hzz⟩
  clear hcnt hT0 hpW r1 r2 rW rW' b0 b1 b2 b3 rl rl' hs hs' hp hbW hzW hC hp0 hlx hcx hly hcy hi0 hzz
  have hmm := @run_makeMap Tryz.prog
  go_enter Tryz.func29, Tryz.ntmps29
  go_wp2_with fail
  clear hmm
  rw [← hW, ← hw0]
  clear hW hw0
  go_loopg [5] (msr [p0]) (fun gk u wr => ∃ ps xs, gk = msr ps ∧ msr ps ≤ 2000000001 ∧ TO W wr (w.heap.size + 1 + 1 + 1 + 1 + 1) u ps xs ps.reverse ∧ stackC ps.reverse = C)
  case atStart => exact ⟨[p0], _, rfl, HB0.out, HT0.out, HC.out⟩
  case round =>
    obtain ⟨ps, xs, rfl, hms, hto, hst⟩ := hrel
    have HMS : Hid (msr ps ≤ 2000000001) := hms
    clear HT0 HC HB0 hms
    rcases ps.eq_nil_or_concat with rfl | ⟨qs, p, hps⟩
    · obtain ⟨a, c, rfl⟩ : ∃ a c, _ = Value.slice a 0 c := by
        rcases hto.row.2 with ⟨e, _⟩ | ⟨g, c, cur, e, _⟩
        · exact ⟨none, 0, e⟩
        · exact ⟨_, c, e⟩
      have HF : Hid (C = 0 ∧ Below w.heap.size w wr) := ⟨hst.symm, HBW.out.trans (hto.bel.mono HBW.out.size)⟩
      clear hto hst
      go_wp2_with fail
      go_ret
      exact ⟨ret_i HF.out.1.symm, HF.out.2⟩
    · rw [List.concat_eq_append] at hps
      subst hps
      obtain ⟨m, m'⟩ := p
      obtain ⟨g, c, ys, ao, ao', ca, ca', rfl, rfl, hyl, hys, ra, ra', hpl, h1, h2, h3, h4, h5, h6, c0, c1, hfz⟩ := hto.top
      rw [List.reverse_append] at hto hst
      have hst' : stackC ((m, m') :: qs.reverse) = C := hst
      have HTO : Hid (TO W wr (w.heap.size + 1 + 1 + 1 + 1 + 1) (.slice (some ⟨g, 0, none⟩) (qs.length + 1) c) (qs ++ [(m, m')]) (ys ++ [.slice ao m.length ca, .slice ao' m'.length ca']) ((m, m') :: qs.reverse)) := hto
      have HST : Hid (stackC ((m, m') :: qs.reverse) = C) := hst'
      have HQC : Hid (qs.length + 1 ≤ c ∧ c ≤ maxLen) := ⟨h5, h6⟩
      obtain ⟨N, hN⟩ : ∃ N, N = qs.length := ⟨_, rfl⟩
      obtain ⟨M, hM⟩ : ∃ M, M = N + 1 := ⟨_, rfl⟩
      have HN : Hid (N = qs.length ∧ M = N + 1) := ⟨hN, hM⟩
      rw [← hN] at HTO c0 c1 HQC
      rw [← hN]
      rw [← hM] at HTO HQC
      rw [← hM]
      have em : IntKind.i64.wrap ((M : Int) - 1) = (N : Int) := by have h := HQC.out; unfold maxLen at h; rw [IntKind.wrap_i64]; omega
      have hq1 : N < M := by omega
      have hM0 : (0 : Int) < (M : Int) := by omega
      have hM1 : ¬ (M : Int) ≤ 0 := by omega
      haveI := inn_ne wr
      clear hto hst hst' hN hM h5 h6
      have HINN : Hid (∀ w7, (∃ x : Inn wr, w7 = x.val) → Below wr.heap.size wr w7) := fun w7 ⟨x7, h7⟩ => by rw [h7]; exact x7.bel
      by_cases hend : m = [] ∨ m' = []
      · have hz : (((m.length : Int) == 0) = true ∨ ((m'.length : Int) == 0) = true) := by
          rcases hend with h | h
          · left; rw [h]; rfl
          · right; rw [h]; rfl
        by_cases hlen : m.length = m'.length
        · have hm : m = [] := by
            rcases hend with h | h
            · exact h
            · rw [h] at hlen; exact List.length_eq_zero_iff.1 (by simpa using hlen)
          have hm' : m' = [] := List.length_eq_zero_iff.1 (by rw [hm] at hlen; simpa using hlen.symm)
          subst hm hm'
          have HF : Hid (∃ zs, TO W wr (w.heap.size + 1 + 1 + 1 + 1 + 1) (.slice (some ⟨g, 0, none⟩) N c) qs zs qs.reverse) := by
            have h := HTO.out
            rw [HN.out.2, HN.out.1] at h
            rw [HN.out.1]
            exact h.pop
          have HS : Hid (stackC qs.reverse = C) := by have h := HST.out; rw [stackC_pop] at h; exact h
          clear hz hend hlen
          have d0 := Inn.keep c0
          have d1 := Inn.keep c1
          have hNc : (N : Int) ≤ (c : Int) := by have := HQC.out.1; omega
          go_wp2_with fail
          refine wp_region_inn ?_ ?_ ?_
          · kernel_rfl
          · kernel_rfl
          repeat (go_big_quiet_step (fail))
          refine wpQuiet_nil ?_
          intro w7 h7
          have H7 : Hid (∃ zs, TO W w7 (w.heap.size + 1 + 1 + 1 + 1 + 1) (.slice (some ⟨g, 0, none⟩) N c) qs zs qs.reverse) := by
            obtain ⟨zs, h⟩ := HF.out
            exact ⟨zs, h.call (HINN.out w7 h7)⟩
          clear h7 d0 d1 c0 c1
          go_wp2_with fail
          go_roundg (msr qs)
          case measure => rw [msr_snoc]; omega
          case rel =>
            obtain ⟨zs, h⟩ := H7.out
            exact ⟨qs, zs, rfl, by have h9 := HMS.out; rw [msr_snoc] at h9; omega, h, HS.out⟩
        · have HF : Hid (cmpI m.length m'.length = C) := (stackC_ends m m' _ hend hlen).symm.trans HST.out
          clear hz
          rcases hend with rfl | rfl
          · obtain ⟨L, hL⟩ : ∃ L, L = m'.length := ⟨_, rfl⟩
            rw [← hL] at HF c1
            have hL0 : 0 < L := by rw [hL]; simp at hlen; omega
            have HCM : Hid (∀ x : World, Calls Tryz.prog 43 #[.int .i64 0, .int .i64 L] x fun e w' => e = .returned (.int .i64 C) ∧ Below x.heap.size x w') := fun x => (cmpInt_any 0 L x).mono fun e w' ⟨q1, q2⟩ => ⟨by rw [q1, ← HF.out]; rfl, by rw [q2]; exact Below.refl _ _⟩
            have HB9 : Hid (∀ wq, Below wr.heap.size wr wq → Below w.heap.size w wq) := fun wq hb => HBW.out.trans ((HTO.out.call hb).bel.mono HBW.out.size)
            have z0 : ((0 : Int) != (L : Int)) = true := by simp [bne]; omega
            have z1 : ((0 : Int) == (L : Int)) = false := by simp; omega
            have z2 : ¬ (0 : Int) = (L : Int) := by omega
            have z3 : ((L : Int) == 0) = false := by simp; omega
            clear hL hlen
            have d0 := Inn.keep c0
            have d1 := Inn.keep c1
            go_wp2_with fail
            refine wp_region_inn ?_ ?_ ?_
            · kernel_rfl
            · kernel_rfl
            repeat (go_big_quiet_step (fail))
            refine wpQuiet_nil ?_
            intro w7 h7
            have HB7 : Hid (Below wr.heap.size wr w7) := HINN.out w7 h7
            have e0 := Inn.keep (keepJ HB7.out c0)
            have e1 := Inn.keep (keepJ HB7.out c1)
            haveI := inn_ne w7
            clear h7 d0 d1 c0 c1
            go_wp2_with fail
            refine wp_region_inn ?_ ?_ ?_
            · kernel_rfl
            · kernel_rfl
            repeat (go_big_quiet_step (first | (go_at_call 43; exact calls_inn (HCM.out _))))
            refine wpQuiet_nil ?_
            intro w8 h8
            have HB8 : Hid (Below w.heap.size w w8) := by
              obtain ⟨x8, h8⟩ := h8
              have hb8 : Below w7.heap.size w7 w8 := by rw [h8]; exact x8.bel
              exact HB9.out w8 (HB7.out.trans (hb8.mono HB7.out.size))
            clear h8 e0 e1
            go_wp2_with fail
            go_ret
            exact ⟨rfl, HB8.out⟩
          · obtain ⟨L, hL⟩ : ∃ L, L = m.length := ⟨_, rfl⟩
            rw [← hL] at HF c0
            have hL0 : 0 < L := by
              rcases Nat.eq_zero_or_pos m.length with h | h
              · exact absurd h hlen
              · rw [hL]; exact h
            have HCM : Hid (∀ x : World, Calls Tryz.prog 43 #[.int .i64 L, .int .i64 0] x fun e w' => e = .returned (.int .i64 C) ∧ Below x.heap.size x w') := fun x => (cmpInt_any L 0 x).mono fun e w' ⟨q1, q2⟩ => ⟨by rw [q1, ← HF.out]; rfl, by rw [q2]; exact Below.refl _ _⟩
            have HB9 : Hid (∀ wq, Below wr.heap.size wr wq → Below w.heap.size w wq) := fun wq hb => HBW.out.trans ((HTO.out.call hb).bel.mono HBW.out.size)
            have z0 : ((L : Int) != (0 : Int)) = true := by simp [bne]; omega
            have z1 : ((0 : Int) == (L : Int)) = false := by simp; omega
            have z2 : ¬ (L : Int) = (0 : Int) := by omega
            have z3 : ((L : Int) == 0) = false := by simp; omega
            clear hL hlen
            have d0 := Inn.keep c0
            have d1 := Inn.keep c1
            go_wp2_with fail
            refine wp_region_inn ?_ ?_ ?_
            · kernel_rfl
            · kernel_rfl
            repeat (go_big_quiet_step (fail))
            refine wpQuiet_nil ?_
            intro w7 h7
            have HB7 : Hid (Below wr.heap.size wr w7) := HINN.out w7 h7
            have e0 := Inn.keep (keepJ HB7.out c0)
            have e1 := Inn.keep (keepJ HB7.out c1)
            haveI := inn_ne w7
            clear h7 d0 d1 c0 c1
            go_wp2_with fail
            refine wp_region_inn ?_ ?_ ?_
            · kernel_rfl
            · kernel_rfl
            repeat (go_big_quiet_step (first | (go_at_call 43; exact calls_inn (HCM.out _))))
            refine wpQuiet_nil ?_
            intro w8 h8
            have HB8 : Hid (Below w.heap.size w w8) := by
              obtain ⟨x8, h8⟩ := h8
              have hb8 : Below w7.heap.size w7 w8 := by rw [h8]; exact x8.bel
              exact HB9.out w8 (HB7.out.trans (hb8.mono HB7.out.size))
            clear h8 e0 e1
            go_wp2_with fail
            go_ret
            exact ⟨rfl, HB8.out⟩
      · obtain ⟨x, r, rfl⟩ : ∃ x r, m = x :: r := by
          rcases m with _ | ⟨x, r⟩
          · exact absurd (.inl rfl) hend
          · exact ⟨x, r, rfl⟩
        obtain ⟨y, r', rfl⟩ : ∃ y r', m' = y :: r' := by
          rcases m' with _ | ⟨y, r'⟩
          · exact absurd (.inr rfl) hend
          · exact ⟨y, r', rfl⟩
        have hl1 : (x :: r).length = r.length + 1 := rfl
        have hl2 : (y :: r').length = r'.length + 1 := rfl
        have ra0 := ra
        have ra0' := ra'
        rw [RepL] at ra ra'
        obtain ⟨b, o, rfl, _, qt, _⟩ := ra
        obtain ⟨b', o', rfl, _, qt', _⟩ := ra'
        obtain ⟨xk, xn, xs, xl⟩ := x
        obtain ⟨yk, yn, ys', yl⟩ := y
        rw [RepT] at qt qt'
        obtain ⟨x0, x1, x2, hx3, xa, xc, x3, hx4, hx5, rx⟩ := qt
        obtain ⟨y0, y1, y2, hy3, ya, yc, y3, hy4, hy5, ry⟩ := qt'
        rw [HpL] at hpl
        have hpt := (hpl b o b' o' rfl rfl).1 _ _ _ _ _ _ x3 y3
        have hpl' : HpL W (.mk xk xn xs xl :: r) (some ⟨b, o, none⟩) (.mk yk yn ys' yl :: r') (some ⟨b', o', none⟩) := by rw [HpL]; exact hpl
        obtain ⟨oa, hoa⟩ : ∃ oa, oa = ofs o ca := ⟨_, rfl⟩
        obtain ⟨ob, hob⟩ : ∃ ob, ob = ofs o' ca' := ⟨_, rfl⟩
        obtain ⟨ka, hka⟩ : ∃ ka, ka = ca - 1 := ⟨_, rfl⟩
        obtain ⟨kb, hkb⟩ : ∃ kb, kb = ca' - 1 := ⟨_, rfl⟩
        have ht1 := run_tail b o r.length ca h1
        have ht2 := run_tail b' o' r'.length ca' h3
        have hsa := sl_tail ra0 h1 h2
        have hsb := sl_tail ra0' h3 h4
        have hst := hp_tail hpl' h1 h3
        rw [← hoa, ← hka] at ht1 hsa
        rw [← hob, ← hkb] at ht2 hsb
        rw [← hoa, ← hob] at hst
        obtain ⟨ST, hSTe⟩ : ∃ ST, ST = ((.mk xk xn xs xl :: r, .mk yk yn ys' yl :: r') :: qs.reverse : List (List Tm × List Tm)) := ⟨_, rfl⟩
        have HSTE : Hid (ST = (.mk xk xn xs xl :: r, .mk yk yn ys' yl :: r') :: qs.reverse) := hSTe
        rw [← hSTe] at HTO HST
        have HSET : Hid (∀ wq, TO W wq (w.heap.size + 1 + 1 + 1 + 1 + 1) (.slice (some ⟨g, 0, none⟩) M c) (qs ++ [(.mk xk xn xs xl :: r, .mk yk yn ys' yl :: r')]) (ys ++ [.slice (some ⟨b, o, none⟩) (r.length + 1) ca, .slice (some ⟨b', o', none⟩) (r'.length + 1) ca']) ST → TO W ((wq.setCell ⟨g, N * 2, none⟩ (.slice (some ⟨b, oa, none⟩) r.length ka)).setCell ⟨g, N * 2 + 1, none⟩ (.slice (some ⟨b', ob, none⟩) r'.length kb)) (w.heap.size + 1 + 1 + 1 + 1 + 1) (.slice (some ⟨g, 0, none⟩) M c) (qs ++ [(r, r')]) (ys ++ [.slice (some ⟨b, oa, none⟩) r.length ka, .slice (some ⟨b', ob, none⟩) r'.length kb]) ST) := fun wq h => by
          rw [HN.out.2, HN.out.1] at h ⊢
          exact h.set hys hsa hsb hst
        have HPT : Hid (HpT W (.mk xk xn xs xl) xa (.mk yk yn ys' yl) ya) := hpt
        have HCL : Hid (∀ wq, Below W.heap.size W wq → wq.cell? ⟨b, o, none⟩ = some (.int .i64 xk) ∧ wq.cell? ⟨b, o + 1, none⟩ = some (.int .i64 xn) ∧ wq.cell? ⟨b, o + 2, none⟩ = some (.string xs) ∧ wq.cell? ⟨b, o + 3, none⟩ = some (.slice xa xl.length xc) ∧ wq.cell? ⟨b', o', none⟩ = some (.int .i64 yk) ∧ wq.cell? ⟨b', o' + 1, none⟩ = some (.int .i64 yn) ∧ wq.cell? ⟨b', o' + 2, none⟩ = some (.string ys') ∧ wq.cell? ⟨b', o' + 3, none⟩ = some (.slice ya yl.length yc)) := fun wq hb => ⟨keepJ hb x0, keepJ hb x1, keepJ hb x2, keepJ hb x3, keepJ hb y0, keepJ hb y1, keepJ hb y2, keepJ hb y3⟩
        obtain ⟨fx, hfx⟩ : ∃ fx, fx = frm xk xn xs (.slice xa xl.length xc) := ⟨_, rfl⟩
        obtain ⟨fy, hfy⟩ : ∃ fy, fy = frm yk yn ys' (.slice ya yl.length yc) := ⟨_, rfl⟩
        obtain ⟨cc, hcc⟩ : ∃ cc, cc = thenC (cmpI xk yk) (ownC xk xn xs xl.length yn ys' yl.length) := ⟨_, rfl⟩
        have HFX : Hid (∀ wq : World, Calls Tryz.prog 44 #[.agg #[.int .i64 xk, .int .i64 xn, .string xs, .slice xa xl.length xc]] wq fun e w' => e = .returned fx ∧ Below wq.heap.size wq w') := fun wq => by rw [hfx]; exact formOf_any xk xn xs xa xl.length xc wq
        have HFY : Hid (∀ wq : World, Calls Tryz.prog 44 #[.agg #[.int .i64 yk, .int .i64 yn, .string ys', .slice ya yl.length yc]] wq fun e w' => e = .returned fy ∧ Below wq.heap.size wq w') := fun wq => by rw [hfy]; exact formOf_any yk yn ys' ya yl.length yc wq
        have HOA : Hid (∀ wq : World, Calls Tryz.prog 45 #[fx, fy] wq fun e w' => e = .returned (.int .i64 cc) ∧ w' = wq) := fun wq => by rw [hfx, hfy, hcc]; exact orderAlone_any xk xn xs xa xl.length xc yk yn ys' ya yl.length yc wq
        have hsi := sl_wi (k := xk) rx hx4 hx5
        have hsj := sl_wi (k := yk) ry hy4 hy5
        obtain ⟨il, hil⟩ : ∃ il, il = wiL xk xl := ⟨_, rfl⟩
        obtain ⟨jl, hjl⟩ : ∃ jl, jl = wiL yk yl := ⟨_, rfl⟩
        obtain ⟨ia, hia⟩ : ∃ ia, ia = wiA xk xa := ⟨_, rfl⟩
        obtain ⟨ja, hja⟩ : ∃ ja, ja = wiA yk ya := ⟨_, rfl⟩
        rw [← hil, ← hia] at hsi
        rw [← hjl, ← hja] at hsj
        obtain ⟨ic, eic, hi1, hi2⟩ := hsi.e
        obtain ⟨jc, ejc, hj1, hj2⟩ := hsj.e
        have HIX : Hid (∀ wq : World, Calls Tryz.prog 46 #[fx] wq fun e w' => e = .returned (.slice ia il.length ic) ∧ w' = wq) := fun wq => by rw [hfx, ← eic]; exact innerOf_any xk xn xs xa xl.length xc wq
        have HIY : Hid (∀ wq : World, Calls Tryz.prog 46 #[fy] wq fun e w' => e = .returned (.slice ja jl.length jc) ∧ w' = wq) := fun wq => by rw [hfy, ← ejc]; exact innerOf_any yk yn ys' ya yl.length yc wq
        rw [eic] at hsi
        rw [ejc] at hsj
        have HSI : Hid (Sl W (.slice ia il.length ic) il ia ∧ Sl W (.slice ja jl.length jc) jl ja) := ⟨hsi, hsj⟩
        have HCC : Hid (cc = thenC (cmpI xk yk) (ownC xk xn xs xl.length yn ys' yl.length) ∧ il = wiL xk xl ∧ jl = wiL yk yl ∧ ia = wiA xk xa ∧ ja = wiA yk ya) := ⟨hcc, hil, hjl, hia, hja⟩
        have HB9 : Hid (∀ wq, Below W.heap.size W wq → Below w.heap.size w wq) := fun wq hb => HBW.out.trans (hb.mono HBW.out.size)
        rw [hl1] at c0 HTO
        rw [hl2] at c1 HTO
        obtain ⟨L1, hL1⟩ : ∃ L1, L1 = r.length + 1 := ⟨_, rfl⟩
        obtain ⟨L2, hL2⟩ : ∃ L2, L2 = r'.length + 1 := ⟨_, rfl⟩
        rw [← hL1] at c0 ht1
        rw [← hL2] at c1 ht2
        rw [← hL1, ← hL2] at HTO
        simp only [← hL1, ← hL2] at HSET
        obtain ⟨z0, z1, z2, z3, z4, z5, z6, z7⟩ := HCL.out wr HTO.out.bel
        have d0 := Inn.keep c0
        have d1 := Inn.keep c1
        have v0 := Inn.keep z0
        have v1 := Inn.keep z1
        have v2 := Inn.keep z2
        have v3 := Inn.keep z3
        have v4 := Inn.keep z4
        have v5 := Inn.keep z5
        have v6 := Inn.keep z6
        have v7 := Inn.keep z7
        have hr1 : 0 < L1 := by omega
        have hr2 : 0 < L2 := by omega
        have hr3 : ((L1 : Int) == 0) = false := by simp; omega
        have hr4 : ((L2 : Int) == 0) = false := by simp; omega
        have hr5 : ¬ (L1 : Int) = 0 := by omega
        have hr6 : ¬ (L2 : Int) = 0 := by omega
        clear hsi hsj hoa hob hka hkb hsa hsb hst hSTe hpt hpl hpl' hfx hfy hcc hil hjl hia hja eic ejc rx ry x0 x1 x2 x3 y0 y1 y2 y3 hx3 hx4 hx5 hy3 hy4 hy5 ra0 ra0' hl1 hl2 h1 h2 h3 h4 hi1 hi2 hj1 hj2 hend hL1 hL2 z0 z1 z2 z3 z4 z5 z6 z7 hyl hys
        go_wp2_with fail
        refine wp_region_inn ?_ ?_ ?_
        · kernel_rfl
        · kernel_rfl
        repeat (go_big_quiet_step (first | (go_at_call 44; first | with_reducible exact calls_inn (HFX.out _) | with_reducible exact calls_inn (HFY.out _))))
        refine wpQuiet_nil ?_
        intro w7 h7
        have HT7 : Hid (TO W w7 (w.heap.size + 1 + 1 + 1 + 1 + 1) (.slice (some ⟨g, 0, none⟩) M c) (qs ++ [(.mk xk xn xs xl :: r, .mk yk yn ys' yl :: r')]) (ys ++ [.slice (some ⟨b, o, none⟩) L1 ca, .slice (some ⟨b', o', none⟩) L2 ca']) ST) := HTO.out.call (HINN.out w7 h7)
        have e0 := keepJ (HINN.out w7 h7) c0
        have e1 := keepJ (HINN.out w7 h7) c1
        have hgl : g < wr.heap.size := World.block_lt_of_cell? wr _ c0
        have hf7 : ∀ j, w7.frozen? ⟨g, j, none⟩ = false := fun j => by
          rw [(HINN.out w7 h7).frozen (p := ⟨g, j, none⟩) hgl]; exact hfz j
        clear hgl
        clear h7 d0 d1 v0 v1 v2 v3 v4 v5 v6 v7 c0 c1 hfz HTO
        go_wp2_with fail
        go_cut [] from 85 to 100 (fun wx => TO W wx (w.heap.size + 1 + 1 + 1 + 1 + 1) (.slice (some ⟨g, 0, none⟩) M c) (qs ++ [(r, r')]) (ys ++ [.slice (some ⟨b, oa, none⟩) r.length ka, .slice (some ⟨b', ob, none⟩) r'.length kb]) ST)
        case first =>
          go_region_law (fail)
          all_goals
            go_wp2_with fail
            go_meet
            case rel => first | exact HSET.out _ HT7.out | exact HSET.out _ HT7.out.drew | exact (HSET.out _ HT7.out).drew
        case rest =>
        obtain ⟨w8, hw8⟩ : ∃ w8, w8 = wc := ⟨_, rfl⟩
        obtain rfl := hw8
        have HT8 : Hid (TO W w8 (w.heap.size + 1 + 1 + 1 + 1 + 1) (.slice (some ⟨g, 0, none⟩) M c) (qs ++ [(r, r')]) (ys ++ [.slice (some ⟨b, oa, none⟩) r.length ka, .slice (some ⟨b', ob, none⟩) r'.length kb]) ST) := hcut
        clear hcut e0 e1 hf7 HT7 HSET ht1 ht2
        go_wp2_with (go_at_call 45; fail)
        refine (HOA.out w8).mono ?_
        rintro e w9 ⟨rfl, hw9⟩
        obtain rfl := hw9.symm
        clear hw9
        by_cases hc0 : cc = 0
        · have HZ : Hid (thenC (cmpI xk yk) (ownC xk xn xs xl.length yn ys' yl.length) = 0) := by rw [← HCC.out.1]; exact hc0
          subst hc0
          have HKK : Hid (xk = yk) := own_same HZ.out
          have HPW : Hid (HpL W il ia jl ja ∧ PlA W il ia ∧ PlA W jl ja) := by
            have h := hp_wi HPT.out HKK.out
            rw [HCC.out.2.1, HCC.out.2.2.1, HCC.out.2.2.2.1, HCC.out.2.2.2.2]
            exact h
          obtain ⟨P1, hP1⟩ := np_ptr (nmL il ia).1
          obtain ⟨P2, hP2⟩ := np_ptr (nmL jl ja).1
          obtain ⟨n1, hn1⟩ : ∃ n1, n1 = (nmL il ia).2 := ⟨_, rfl⟩
          obtain ⟨n2, hn2⟩ : ∃ n2, n2 = (nmL jl ja).2 := ⟨_, rfl⟩
          have HNX : Hid (∀ wq : World, Calls Tryz.prog 47 #[.slice ia il.length ic] wq fun e w' => e = .returned (.agg #[.pointer P1, .int .i64 n1]) ∧ Below wq.heap.size wq w') := fun wq => by rw [← hP1, hn1]; exact nameOf_all HSI.out.1.r ic wq
          have HNY : Hid (∀ wq : World, Calls Tryz.prog 47 #[.slice ja jl.length jc] wq fun e w' => e = .returned (.agg #[.pointer P2, .int .i64 n2]) ∧ Below wq.heap.size wq w') := fun wq => by rw [← hP2, hn2]; exact nameOf_all HSI.out.2.r jc wq
          have HNN : Hid (∀ (wq : World) (v q : Value), (v = .slice ia il.length ic ∧ q = .agg #[.pointer P1, .int .i64 n1]) ∨ (v = .slice ja jl.length jc ∧ q = .agg #[.pointer P2, .int .i64 n2]) → Calls Tryz.prog 47 #[v] wq fun e w' => e = .returned q ∧ Below wq.heap.size wq w') := fun wq v q h => by
            rcases h with ⟨rfl, rfl⟩ | ⟨rfl, rfl⟩
            · exact HNX.out wq
            · exact HNY.out wq
          have HKV : Hid (kV (nmL il ia) (nmL jl ja) = .agg #[.pointer P1, .int .i64 n1, .pointer P2, .int .i64 n2]) := by show kV _ _ = _; unfold kV; rw [hP1, hP2, hn1, hn2]
          clear hP1 hP2 hn1 hn2
          obtain ⟨wA, hwA⟩ : ∃ wA, wA = w8.alloc (.cells #[.slice ia il.length ic, .slice ja jl.length jc] 80) := ⟨_, rfl⟩
          have hbA : Below w8.heap.size w8 wA := by rw [hwA]; exact (Below.refl _ _).alloc (Nat.le_refl _) _
          have HTA : Hid (TO W wA (w.heap.size + 1 + 1 + 1 + 1 + 1) (.slice (some ⟨g, 0, none⟩) M c) (qs ++ [(r, r')]) (ys ++ [.slice (some ⟨b, oa, none⟩) r.length ka, .slice (some ⟨b', ob, none⟩) r'.length kb]) ST ∧ w8.heap.size < wA.heap.size) := ⟨HT8.out.call hbA, by rw [hwA, World.size_alloc]; omega⟩
          have qA : ∀ x, wA.cell? ⟨w8.heap.size, x, none⟩ = (#[.slice ia il.length ic, .slice ja jl.length jc] : Array Value)[x]? := fun x => by rw [hwA, World.cell?_alloc_new]
          have HQA : Hid (∀ wc, Below wA.heap.size wA wc → (wc.cell? ⟨w8.heap.size, 0, none⟩ = some (.slice ia il.length ic) ∧ wc.cell? ⟨w8.heap.size, 1, none⟩ = some (.slice ja jl.length jc))) := fun wc hb => ⟨keepJ hb (qA 0), keepJ hb (qA 1)⟩
          clear hbA qA
          go_wp2_with (go_at_call 46; fail)
          refine (HIX.out w8).mono ?_
          rintro e w9 ⟨rfl, hw9⟩
          obtain rfl := hw9.symm
          clear hw9
          go_wp2_with (go_at_call 46; fail)
          refine (HIY.out w8).mono ?_
          rintro e w9 ⟨rfl, hw9⟩
          obtain rfl := hw9.symm
          clear hw9
          go_wp2_with fail
          rw [← hwA]
          clear hwA
          go_cut [12] from 112 to 118 (fun v wx => ∃ nb, v = .pointer (some ⟨nb, 0, none⟩) ∧ Below wA.heap.size wA wx ∧ wx.cell? ⟨nb, 0, none⟩ = some (.pointer P1) ∧ wx.cell? ⟨nb, 1, none⟩ = some (.int .i64 n1) ∧ wx.cell? ⟨nb, 2, none⟩ = some (.pointer P2) ∧ wx.cell? ⟨nb, 3, none⟩ = some (.int .i64 n2))
          case first =>
            have S0 := HQA.out wA.drew (Below.refl _ _).drew
            go_region_held3 (fun wc => (wc.cell? ⟨w8.heap.size, 0, none⟩ = some (.slice ia il.length ic) ∧ wc.cell? ⟨w8.heap.size, 1, none⟩ = some (.slice ja jl.length jc))) (first | (refine HQA.out _ ?_; (repeat' first | with_reducible exact HkN2.out | with_reducible exact HkN.out | with_reducible exact Below.refl _ _ | with_reducible refine belAJ ?_ _ | with_reducible refine belDJ ?_ | with_reducible refine belSJ ?_ ?_ | with_reducible exact HkN.out.size | with_reducible exact HkN2.out.size | with_reducible exact Nat.le_refl _ | omega); done) | go_keep) (first
              | (go_at_call 47; (with_reducible refine (HNX.out wA.drew).mono ?_); rintro e wX ⟨rfl, hbx⟩; have HkN : Hid (Below wA.heap.size wA wX) := belNJ (Below.refl _ _).drew hbx; clear hbx)
              | (go_at_call 47; (with_reducible refine (HNX.out (wA.alloc (.cells #[.pointer none, .int .i64 0, .pointer none, .int .i64 0] 94)).drew).mono ?_); rintro e wX ⟨rfl, hbx⟩; have HkN : Hid (Below wA.heap.size wA wX) := belNJ (belDJ (belAJ (Below.refl _ _) _)) hbx; have HZX : Hid (ZQ wX wA.heap.size) := ZQ.below hbx (ZQ.below (Below.refl _ _).drew (ZQ.new wA)); obtain ⟨_, _, _, _, _, _⟩ := HZX.out; clear hbx)
              | (go_at_call 47; (with_reducible refine (HNX.out (wA.drew.alloc (.cells #[.pointer none, .int .i64 0, .pointer none, .int .i64 0] 94))).mono ?_); rintro e wX ⟨rfl, hbx⟩; have HkN : Hid (Below wA.heap.size wA wX) := belNJ (belAJ (Below.refl _ _).drew _) hbx; have HZX : Hid (ZQ wX wA.heap.size) := ZQ.below hbx (ZQ.new wA.drew); obtain ⟨_, _, _, _, _, _⟩ := HZX.out; clear hbx)
              | (go_at_call 47; (with_reducible refine (HNY.out wX).mono ?_); rintro e wY ⟨rfl, hby⟩; have HkN2 : Hid (Below wA.heap.size wA wY) := belNJ HkN.out hby; (try (refine (have HZY : Hid (ZQ wY wA.heap.size) := ZQ.below hby ?_; ?_); (focus (with_reducible exact HZX.out)); obtain ⟨_, _, _, _, _, _⟩ := HZY.out)); clear hby)
              | (go_at_call 47; (with_reducible refine (HNY.out (wX.alloc (.cells #[.pointer none, .int .i64 0, .pointer none, .int .i64 0] 94))).mono ?_); rintro e wY ⟨rfl, hby⟩; have HkN2 : Hid (Below wA.heap.size wA wY) := belNJ (belAJ HkN.out _) hby; have HZY : Hid (ZQ wY wX.heap.size) := ZQ.below hby (ZQ.new wX); obtain ⟨_, _, _, _, _, _⟩ := HZY.out; clear hby)
              | fail)
            all_goals
              go_wp2_with fail
              go_meet
              case rel =>
                first
                  | exact ⟨_, rfl, ZQ.set HZY.out HkN2.out (Nat.le_refl _) _ _ _ _⟩
                  | exact ⟨_, rfl, ZQ.set HZY.out HkN2.out HkN.out.size _ _ _ _⟩
                  | exact ⟨wY.heap.size, rfl, belAJ HkN2.out _, by rw [World.cell?_alloc_new]; rfl, by rw [World.cell?_alloc_new]; rfl, by rw [World.cell?_alloc_new]; rfl, by rw [World.cell?_alloc_new]; rfl⟩
          case rest =>
          obtain ⟨nb, rfl, hbx, k0, k1, k2, k3⟩ := hcut
          obtain ⟨wx, hwx⟩ : ∃ wx, wx = wc := ⟨_, rfl⟩
          obtain rfl := hwx
          have HTX : Hid (TO W wx (w.heap.size + 1 + 1 + 1 + 1 + 1) (.slice (some ⟨g, 0, none⟩) M c) (qs ++ [(r, r')]) (ys ++ [.slice (some ⟨b, oa, none⟩) r.length ka, .slice (some ⟨b', ob, none⟩) r'.length kb]) ST) := HTA.out.1.call hbx
          have HMB : Hid (w8.heap.size ≠ w.heap.size + 1 + 1 + 1 + 1 + 1) := by have := HT8.out.mlt; show _ ≠ _; omega
          obtain ⟨m0, m1⟩ := HQA.out wx hbx
          have HPX : Hid (∀ wq, Below W.heap.size W wq → PlainP wq (nmL il ia).1 ∧ PlainP wq (nmL jl ja).1) := fun wq hb => ⟨plainP_keep HPW.out.2.1 (fun b o e => hb.block b (nm_lt HSI.out.1.r e)), plainP_keep HPW.out.2.2 (fun b o e => hb.block b (nm_lt HSI.out.2.r e))⟩
          obtain ⟨q, hlk, hq⟩ := lookup_pair HTX.out.map (HPX.out wx HTX.out.bel).1 (HPX.out wx HTX.out.bel).2
          rw [HKV.out] at hlk
          have hlk0 := hlk wx rfl
          have hlk1 := hlk wx.drew rfl
          have HQ : Hid (q = true → Kn W ST (nmL il ia) (nmL jl ja)) := hq
          have hal : ∀ O, Below wx.heap.size wx (wx.alloc O) := fun O => (Below.refl _ _).alloc (Nat.le_refl _) _
          have HSUM : Hid (msr (qs ++ [(r, r')]) < msr (qs ++ [(.mk xk xn xs xl :: r, .mk yk yn ys' yl :: r')]) ∧ msr (qs ++ [(r, r')] ++ [(il, jl)]) < msr (qs ++ [(.mk xk xn xs xl :: r, .mk yk yn ys' yl :: r')])) := by
            have h9 := cnt_sum xk xn xs xl r
            rw [← HCC.out.2.1] at h9
            rw [msr_snoc, msr_snoc, msr_snoc, msr_snoc]
            dsimp only
            exact ⟨by omega, by omega⟩
          have HMQ : Hid (msr (qs ++ [(.mk xk xn xs xl :: r, .mk yk yn ys' yl :: r')]) ≤ 2000000001) := HMS.out
          clear hbx hlk hq HT8 HNX HNY HNN HIX HIY HOA HFX HFY HTA HQA HPT
          cases q
          · obtain ⟨wB, hwB⟩ : ∃ wB, wB = wx.alloc (.cells #[] 95) := ⟨_, rfl⟩
            have hbB : Below wx.heap.size wx wB := by rw [hwB]; exact hal _
            have hTB := HTX.out.call hbB
            obtain ⟨wU, hup, htn, hmp⟩ := update_pair hTB.map (HPX.out wB hTB.bel).1 (HPX.out wB hTB.bel).2
            rw [HKV.out] at hup
            have hTU : TO W wU (w.heap.size + 1 + 1 + 1 + 1 + 1) (.slice (some ⟨g, 0, none⟩) M c) (qs ++ [(r, r')]) (ys ++ [.slice (some ⟨b, oa, none⟩) r.length ka, .slice (some ⟨b', ob, none⟩) r'.length kb]) ((il, jl) :: (r, r') :: qs.reverse) := hTB.upd htn (hmp.mono (fun a b' hab => by
              rcases hab with hab | ⟨rfl, rfl⟩
              · rw [HSTE.out] at hab
                refine Kn.mono (fun l1 l2 hm => ?_) hab
                rw [HCC.out.2.1, HCC.out.2.2.1]
                exact hm.push HZ.out
              · exact ⟨il, jl, ia, ja, rfl, rfl, HSI.out.1.r, HSI.out.2.r, Mok.new _ _ _⟩))
            have t0 : wU.cell? ⟨w8.heap.size, 0, none⟩ = some (.slice ia il.length ic) := htn.cell HMB.out (keepJ hbB m0)
            have t1 : wU.cell? ⟨w8.heap.size, 1, none⟩ = some (.slice ja jl.length jc) := htn.cell HMB.out (keepJ hbB m1)
            have HTU := hidJ hTU
            have HFIN : Hid (∀ v' w9, w9.ownsRow W.heap.size 80 2 v' (M + 1) ((ys ++ [.slice (some ⟨b, oa, none⟩) r.length ka, .slice (some ⟨b', ob, none⟩) r'.length kb]) ++ [.slice ia il.length ic, .slice ja jl.length jc]) → (wU.alloc (.cells #[.slice ia il.length ic, .slice ja jl.length jc] 80)).grownBy w9 (Value.slice (some ⟨g, 0, none⟩) M c).ownBlock → ∃ xs, msr (qs ++ [(r, r')] ++ [(il, jl)]) ≤ 2000000001 ∧ TO W w9 (w.heap.size + 1 + 1 + 1 + 1 + 1) v' (qs ++ [(r, r')] ++ [(il, jl)]) xs (qs ++ [(r, r')] ++ [(il, jl)]).reverse ∧ stackC (qs ++ [(r, r')] ++ [(il, jl)]).reverse = C) := fun v' w9 h1 h2 => by
              have hTa := HTU.out.call ((Below.refl _ _).alloc (Nat.le_refl _) (.cells #[.slice ia il.length ic, .slice ja jl.length jc] 80))
              have h3 := hTa.more HSI.out.1 HSI.out.2 HPW.out.1 (by rw [List.length_append, List.length_singleton, ← HN.out.1, ← HN.out.2]; exact h1) h2
              have e9 : (qs ++ [(r, r')] ++ [(il, jl)]).reverse = (il, jl) :: (r, r') :: qs.reverse := by simp
              refine ⟨_, by have := HSUM.out.2; have := HMQ.out; omega, by rw [e9]; exact h3, ?_⟩
              have h5 := HST.out
              rw [HSTE.out, stackC_step _ _ _ _ _ _ _ _ _ _ _ HZ.out, ← HCC.out.2.1, ← HCC.out.2.2.1] at h5
              rw [e9]; exact h5
            have HO7 : Hid ((wU.alloc (.cells #[.slice ia il.length ic, .slice ja jl.length jc] 80)).ownsRow W.heap.size 80 2 (.slice (some ⟨g, 0, none⟩) M c) M (ys ++ [.slice (some ⟨b, oa, none⟩) r.length ka, .slice (some ⟨b', ob, none⟩) r'.length kb]) ∧ W.heap.size ≤ (wU.alloc (.cells #[.slice ia il.length ic, .slice ja jl.length jc] 80)).heap.size) := by
              have h5 := HTU.out.row
              rw [List.length_append, List.length_singleton, ← HN.out.1, ← HN.out.2] at h5
              refine ⟨h5.alloc _, ?_⟩
              have := HTU.out.bel.size
              rw [World.size_alloc]; omega
            have HNW : Hid (∀ j u, ([.slice ia il.length ic, .slice ja jl.length jc] : List Value)[j]? = some u → (wU.alloc (.cells #[.slice ia il.length ic, .slice ja jl.length jc] 80)).cell? ((⟨wU.heap.size, 0, none⟩ : Addr).add j) = some u) := twoCells
            have C3 : Hid (M + 1 ≤ maxLen ∧ (M + 1) * 48 ≤ 140737488355328) := by
              have h5 := msr_len (qs ++ [(.mk xk xn xs xl :: r, .mk yk yn ys' yl :: r')])
              rw [List.length_append, List.length_singleton] at h5
              have h6 := HMQ.out
              have h7 := HN.out
              exact ⟨by unfold maxLen; omega, by omega⟩
            have k0' : wB.cell? ⟨nb, 0, none⟩ = some (.pointer P1) := keepJ hbB k0
            have k1' : wB.cell? ⟨nb, 1, none⟩ = some (.int .i64 n1) := keepJ hbB k1
            have k2' : wB.cell? ⟨nb, 2, none⟩ = some (.pointer P2) := keepJ hbB k2
            have k3' : wB.cell? ⟨nb, 3, none⟩ = some (.int .i64 n2) := keepJ hbB k3
            rw [hwB] at k0' k1' k2' k3' hup
            have HSU : Hid (msr (qs ++ [(r, r')] ++ [(il, jl)]) < msr (qs ++ [(.mk xk xn xs xl :: r, .mk yk yn ys' yl :: r')])) := HSUM.out.2
            clear hwB hbB hTB htn hmp hTU hal m0 m1 HTX HQ HSUM
            go_wp2_with (at_builtin; refine wpList_append_own_at _ rfl _ _ 81 rfl W.heap.size 80 i0 (.agg #[.slice none 0 0, .slice none 0 0]) 2 48 undSides HI.out.1 HI.out.2.1 HI.out.2.2.1 HI.out.2.2.2 rfl (by decide) (.slice (some ⟨g, 0, none⟩) M c) M (ys ++ [.slice (some ⟨b, oa, none⟩) r.length ka, .slice (some ⟨b', ob, none⟩) r'.length kb]) rfl HO7.out.1 ⟨wU.heap.size, 0, none⟩ 1 1 [.slice ia il.length ic, .slice ja jl.length jc] rfl rfl HNW.out twoOne C3.out.1 C3.out.2 HO7.out.2 ?_; intro v8 w9 hown8 hgr8 hnn8 hat8; have HG8 := hidJ (HFIN.out v8 w9 hown8 hgr8); clear hown8 hgr8 hnn8 hat8)
            go_roundg (msr (qs ++ [(r, r')] ++ [(il, jl)]))
            case measure => exact HSU.out
            case rel =>
              obtain ⟨zs, g1, g2, g3⟩ := HG8.out
              exact ⟨_, zs, rfl, g1, g2, g3⟩
          · obtain ⟨WK, hWK⟩ : ∃ WK, WK = wx.alloc (.cells #[] 95) := ⟨_, rfl⟩
            have HTK : Hid (TO W WK (w.heap.size + 1 + 1 + 1 + 1 + 1) (.slice (some ⟨g, 0, none⟩) M c) (qs ++ [(r, r')]) (ys ++ [.slice (some ⟨b, oa, none⟩) r.length ka, .slice (some ⟨b', ob, none⟩) r'.length kb]) ((r, r') :: qs.reverse) ∧ stackC ((r, r') :: qs.reverse) = C) := by
              have hbK : Below wx.heap.size wx WK := by rw [hWK]; exact hal _
              have h := HTX.out.call hbK
              have hm := Kn.hit (HQ.out rfl) HSI.out.1.r HSI.out.2.r
              have hz : cmpL (wiL xk xl) (wiL yk yl) = 0 := by
                rw [HSTE.out, HCC.out.2.1, HCC.out.2.2.1] at hm
                exact hm.same
              refine ⟨⟨h.bel, h.row, h.stk, h.map.mono (fun a b2 hab => ?_), h.mlo⟩, ?_⟩
              · rw [HSTE.out] at hab
                exact Kn.mono (fun l1 l2 hm2 => hm2.skip HZ.out hz) hab
              · have h5 := HST.out
                rw [HSTE.out, stackC_skip HZ.out hz] at h5
                exact h5
            have HSU : Hid (msr (qs ++ [(r, r')]) < msr (qs ++ [(.mk xk xn xs xl :: r, .mk yk yn ys' yl :: r')]) ∧ msr (qs ++ [(r, r')]) ≤ 2000000001) := ⟨HSUM.out.1, by have := HSUM.out.1; have := HMQ.out; omega⟩
            clear hal m0 m1 HTX HQ HSUM
            go_wp2_with fail
            rw [← hWK]
            clear hWK
            go_roundg (msr (qs ++ [(r, r')]))
            case measure => exact HSU.out.1
            case rel => exact ⟨_, _, rfl, HSU.out.2, by rw [List.reverse_append]; exact HTK.out.1, by rw [List.reverse_append]; exact HTK.out.2⟩
        · have HF : Hid (cc = C) := by
            have h := HST.out
            rw [HSTE.out, stackC_unlike xk xn xs xl yk yn ys' yl r r' qs.reverse (by rw [← HCC.out.1]; exact hc0), ← HCC.out.1] at h
            exact h
          have hc1 : (cc != 0) = true := by simp [bne, hc0]
          have hc2 : (cc == 0) = false := by simp [hc0]
          have HBR : Hid (Below w.heap.size w w8) := HB9.out _ HT8.out.bel
          go_wp2_with fail
          go_ret
          exact ⟨ret_i HF.out, HBR.out⟩
end Go.Proofs.YtfjaphhijefdlaaGreatDoor
namespace Go.Proofs.YtfjaphhijefdlaaGreatDoor
open Go.RowKit
set_option linter.unusedVariables false

theorem thenC_iff {a b : Int} : thenC a b = 0 ↔ a = 0 ∧ b = 0 := by
  unfold thenC
  by_cases h : a = 0
  · rw [if_pos h]; exact ⟨fun e => ⟨h, e⟩, fun e => e.2⟩
  · rw [if_neg h]; exact ⟨fun e => absurd e h, fun e => absurd e.1 h⟩
theorem ba_ext {s t : ByteArray} (h : s.toList = t.toList) : s = t := by
  rw [ByteArray.toList_eq, ByteArray.toList_eq] at h
  obtain ⟨⟨a⟩⟩ := s
  obtain ⟨⟨b⟩⟩ := t
  have : a = b := h
  rw [this]
theorem ownC_self (k n : Int) (s : ByteArray) (a : Nat) : ownC k n s a n s a = 0 := by
  have := own_anti k n s a n s a
  omega
theorem cmpT_self (t : Tm) : cmpT t t = 0 := by
  have := cmpT_anti t t
  omega
theorem cmpL_self : ∀ l : List Tm, cmpL l l = 0
  | [] => by rw [cmpL]
  | t :: r => by rw [cmpL]; exact thenC_iff.2 ⟨cmpT_self t, cmpL_self r⟩
theorem cmpT_zero : ∀ a b : Tm, WfT a → WfT b → cmpT a b = 0 → a = b := by
  refine Tm.ind ?_
  intro k n s l ih
  have hl : ∀ (r m : List Tm), (∀ t, t ∈ r → t ∈ l) → (∀ t, t ∈ r → WfT t) → (∀ t, t ∈ m → WfT t) → cmpL r m = 0 → r = m := by
    intro r
    induction r with
    | nil =>
      intro m _ _ _ h
      cases m with
      | nil => rfl
      | cons y m => rw [cmpL] at h; exact absurd h (by decide)
    | cons x r ihr =>
      intro m hr hw hw' h
      cases m with
      | nil => rw [cmpL] at h; exact absurd h (by decide)
      | cons y m =>
        rw [cmpL] at h
        obtain ⟨h1, h2⟩ := thenC_iff.1 h
        rw [ih x (hr x (List.mem_cons_self ..)) y (hw x (List.mem_cons_self ..)) (hw' y (List.mem_cons_self ..)) h1, ihr m (fun t ht => hr t (List.mem_cons_of_mem _ ht)) (fun t ht => hw t (List.mem_cons_of_mem _ ht)) (fun t ht => hw' t (List.mem_cons_of_mem _ ht)) h2]
  rintro ⟨k', n', s', l'⟩ hw hw' h
  rw [cmpT] at h
  obtain ⟨h1, h2⟩ := thenC_iff.1 h
  obtain ⟨h3, h4⟩ := thenC_iff.1 h2
  have e1 := (cmpI_zero _ _).1 h1
  subst e1
  rw [WfT] at hw hw'
  obtain ⟨p, _, q⟩ := hw
  obtain ⟨p', _, q'⟩ := hw'
  unfold ownC at h3
  rcases p with ⟨rfl, rfl, rfl, _, _⟩ | ⟨rfl, rfl, rfl, _⟩ | ⟨rfl, rfl, rfl, _, _⟩ | ⟨hk, rfl, rfl⟩ | ⟨rfl, rfl, rfl, _⟩
  · have h5 := (cmpI_zero n n').1 (by simpa using h3)
    rcases p' with ⟨_, rfl, rfl, _, _⟩ | ⟨e, _⟩ | ⟨e, _⟩ | ⟨e, _⟩ | ⟨e, _⟩
    · rw [h5]
    all_goals exact absurd e (by decide)
  · have h5 := ba_ext ((cmpS_zero s s').1 (by simpa using h3))
    rcases p' with ⟨e, _⟩ | ⟨_, rfl, rfl, _⟩ | ⟨e, _⟩ | ⟨e, _⟩ | ⟨e, _⟩
    · exact absurd e (by decide)
    · rw [h5]
    all_goals exact absurd e (by decide)
  · have h5 := (cmpI_zero n n').1 (by simpa using h3)
    rcases p' with ⟨e, _⟩ | ⟨e, _⟩ | ⟨_, rfl, rfl, _, _⟩ | ⟨e, _⟩ | ⟨e, _⟩
    · exact absurd e (by decide)
    · exact absurd e (by decide)
    · rw [h5]
    all_goals exact absurd e (by decide)
  · rw [if_pos hk] at h4
    have h5 := hl l l' (fun t ht => ht) q q' h4
    rcases p' with ⟨e, _⟩ | ⟨e, _⟩ | ⟨e, _⟩ | ⟨_, rfl, rfl⟩ | ⟨e, _⟩
    · omega
    · omega
    · omega
    · rw [h5]
    · omega
  · have h5 := ba_ext ((cmpS_zero s s').1 (by simpa using h3))
    rcases p' with ⟨e, _⟩ | ⟨e, _⟩ | ⟨e, _⟩ | ⟨e, _⟩ | ⟨_, rfl, rfl, _⟩
    · exact absurd e (by decide)
    · exact absurd e (by decide)
    · exact absurd e (by decide)
    · exact absurd e (by decide)
    · rw [h5]
/-- Two lists that are one so far. -/
theorem cmpL_take : ∀ (j : Nat) (l l' : List Tm), l.take j = l'.take j → j ≤ l.length → j ≤ l'.length → cmpL l l' = cmpL (l.drop j) (l'.drop j)
  | 0, l, l', _, _, _ => rfl
  | j + 1, [], l', _, h, _ => absurd h (Nat.not_succ_le_zero _)
  | j + 1, _ :: _, [], _, _, h => absurd h (Nat.not_succ_le_zero _)
  | j + 1, x :: r, y :: m, e, h, h' => by
    simp only [List.take_succ_cons, List.cons.injEq] at e
    obtain ⟨rfl, e⟩ := e
    rw [cmpL, cmpT_self]
    unfold thenC
    rw [if_pos rfl]
    simp only [List.drop_succ_cons]
    exact cmpL_take j r m e (by simpa using h) (by simpa using h')
theorem cmpL_at {j : Nat} {l l' : List Tm} (h : l.take j = l'.take j) (h1 : j < l.length) (h2 : j < l'.length) (hn : cmpT l[j] l'[j] ≠ 0) : cmpL l l' = cmpT l[j] l'[j] := by
  rw [cmpL_take j l l' h (by omega) (by omega), List.drop_eq_getElem_cons h1, List.drop_eq_getElem_cons h2, cmpL]
  unfold thenC
  rw [if_neg hn]
theorem cmpL_end {j : Nat} {l l' : List Tm} (h : l.take j = l'.take j) (h1 : j ≤ l.length) (h2 : j ≤ l'.length) (he : j = l.length ∨ j = l'.length) : cmpL l l' < 0 ↔ l.length < l'.length := by
  rw [cmpL_take j l l' h h1 h2]
  rcases he with rfl | rfl
  · rw [List.drop_length]
    cases hd : l'.drop l.length with
    | nil =>
      have := List.drop_eq_nil_iff.1 hd
      rw [cmpL]; omega
    | cons y m =>
      rw [cmpL]
      have h3 : l.length < l'.length := by
        rcases Nat.lt_or_ge l.length l'.length with h4 | h4
        · exact h4
        · rw [List.drop_eq_nil_iff.2 h4] at hd; cases hd
      exact ⟨fun _ => h3, fun _ => by decide⟩
  · rw [List.drop_length]
    cases hd : l.drop l'.length with
    | nil => rw [cmpL]; omega
    | cons y m => rw [cmpL]; omega

/-! ### Nothing frozen: names can be told apart -/
theorem pl_nf {w : World} {S : Nat → Prop} (hS : ∀ b, S b → Nf w b) {l : List Tm} {ao : Option Addr} (h : RpL S w l ao) : PlA w l ao := by
  unfold PlA
  cases l with
  | nil => rw [nmL_nil]; trivial
  | cons t r =>
    rw [RpL] at h
    obtain ⟨b, off, rfl, hb, ht, _⟩ := h
    rw [nmL_cons (by simp)]
    obtain ⟨v, hv⟩ := ht.head
    exact ⟨blk_of_cell hv, hS b hb⟩
mutual
theorem hpT_nf {w : World} {S S' : Nat → Prop} (hS : ∀ b, S b → Nf w b) (hS' : ∀ b, S' b → Nf w b) : ∀ (t : Tm) (ao : Option Addr) (t' : Tm) (ao' : Option Addr), (∀ k n s l k' n' s' l', t = .mk k n s l → t' = .mk k' n' s' l' → RpL S w l ao ∧ RpL S' w l' ao') → HpT w t ao t' ao'
  | .mk k n s l, ao, .mk k' n' s' l', ao', h => by
    rw [HpT]
    intro _ _
    obtain ⟨h1, h2⟩ := h k n s l k' n' s' l' rfl rfl
    exact ⟨hpL_nf hS hS' l ao l' ao' h1 h2, pl_nf hS h1, pl_nf hS' h2⟩
theorem hpL_nf {w : World} {S S' : Nat → Prop} (hS : ∀ b, S b → Nf w b) (hS' : ∀ b, S' b → Nf w b) : ∀ (l : List Tm) (ao : Option Addr) (l' : List Tm) (ao' : Option Addr), RpL S w l ao → RpL S' w l' ao' → HpL w l ao l' ao'
  | [], ao, l', ao', _, _ => by rw [HpL]; trivial
  | t :: r, ao, [], ao', _, _ => by rw [HpL]; trivial
  | t :: r, ao, t' :: r', ao', h1, h2 => by
    rw [HpL]
    rw [RpL] at h1 h2
    obtain ⟨b, o, rfl, _, q1, q2⟩ := h1
    obtain ⟨b', o', rfl, _, p1, p2⟩ := h2
    intro b1 o1 b2 o2 e1 e2
    cases e1
    cases e2
    refine ⟨fun ax n c ay n' c' c1 c2 => ?_, hpL_nf hS hS' r _ r' _ q2 p2⟩
    obtain ⟨k, n0, s, l⟩ := t
    obtain ⟨k', n0', s', l'⟩ := t'
    rw [RpT] at q1 p1
    obtain ⟨_, _, _, _, bo, cap, a3, _, _, rl⟩ := q1
    obtain ⟨_, _, _, _, bo', cap', a3', _, _, rl'⟩ := p1
    rw [a3] at c1
    rw [a3'] at c2
    cases c1
    cases c2
    exact hpT_nf hS hS' _ _ _ _ (fun k1 n1 s1 l1 k2 n2 s2 l2 e3 e4 => by cases e3; cases e4; exact ⟨rl, rl'⟩)
end
end Go.Proofs.YtfjaphhijefdlaaGreatDoor
