/-
  The count of a term's words, the program's: what it calls.
-/
import Derived.Test.YtabgfaafpgholaaW35
import Derived.Test.YtabgfaafpgholaaW38
namespace Go.Proofs.Ytabgfaafpgholaa
open Go.RowKit
set_option linter.unusedVariables false

theorem assertN_1 (v : Value) (W : World) (T : TypeId) (h : T = 137 ∨ T = 139) : (Instr.typeAssert (.iface 149 v) 122 T true).run Try.prog W = .ok (.tuple #[.slice none 0 0, .bool false]) W := by
  rcases h with rfl | rfl <;> kernel_rfl
theorem assertN_2 (v : Value) (W : World) (T : TypeId) (h : T = 137 ∨ T = 139) : (Instr.typeAssert (.iface 150 v) 122 T true).run Try.prog W = .ok (.tuple #[.slice none 0 0, .bool false]) W := by
  rcases h with rfl | rfl <;> kernel_rfl
theorem assertN_3 (v : Value) (W : World) (T : TypeId) (h : T = 137 ∨ T = 139) : (Instr.typeAssert (.iface 151 v) 122 T true).run Try.prog W = .ok (.tuple #[.slice none 0 0, .bool false]) W := by
  rcases h with rfl | rfl <;> kernel_rfl
theorem assertB_1 (v : Value) (W : World) : (Instr.typeAssert (.iface 149 v) 122 140 true).run Try.prog W = .ok (.tuple #[.string ⟨#[]⟩, .bool false]) W := by kernel_rfl
theorem assertB_2 (v : Value) (W : World) : (Instr.typeAssert (.iface 150 v) 122 140 true).run Try.prog W = .ok (.tuple #[.string ⟨#[]⟩, .bool false]) W := by kernel_rfl
theorem assertB_3 (v : Value) (W : World) : (Instr.typeAssert (.iface 151 v) 122 140 true).run Try.prog W = .ok (.tuple #[.string ⟨#[]⟩, .bool false]) W := by kernel_rfl
theorem bytes_len9 (s : ByteArray) : s.toList.length = s.size := by
  rw [ByteArray.toList_eq]; rfl

set_option maxHeartbeats 1000000 in
theorem needAlone_any (k n : Int) (s : ByteArray) (ao : Option Addr) (len cap : Nat) (w : World) (hk : 1 ≤ k ∧ k ≤ 6) (hs : s.size ≤ 1048576) (hl : len ≤ 1048576) :
    Calls Try.prog 118 #[frm k n s (.slice ao len cap)] w fun e w' => e = .returned (.int .i64 ((ndO k s len : Nat) : Int)) ∧ w' = w := by
  have e4 : IntKind.i64.wrap (1 + (len : Int)) = ((1 + len : Nat) : Int) := by rw [IntKind.wrap_i64]; omega
  have e5 : IntKind.i64.wrap (2 * (len : Int)) = ((2 * len : Nat) : Int) := by rw [IntKind.wrap_i64]; omega
  have e6 : IntKind.i64.wrap (1 + (s.size : Int)) = ((1 + s.size : Nat) : Int) := by rw [IntKind.wrap_i64]; omega
  clear hs hl
  rcases kinds hk with rfl | rfl | rfl | rfl | rfl | rfl
  · rw [frm_1]
    have q1 := fun v W => assertN_1 v W _ (.inl rfl)
    have q2 := fun v W => assertN_1 v W _ (.inr rfl)
    have q3 := assertB_1
    go_enter Try.func118, Try.ntmps118
    go_wp2_with fail
    go_ret
    exact ⟨rfl, rfl⟩
  · rw [frm_2]
    have q1 := fun v W => assertN_2 v W _ (.inl rfl)
    have q2 := fun v W => assertN_2 v W _ (.inr rfl)
    have q3 := assertB_2
    go_enter Try.func118, Try.ntmps118
    go_wp2_with fail
    go_ret
    exact ⟨rfl, rfl⟩
  · rw [frm_3]
    have q1 := fun v W => assertN_3 v W _ (.inl rfl)
    have q2 := fun v W => assertN_3 v W _ (.inr rfl)
    have q3 := assertB_3
    go_enter Try.func118, Try.ntmps118
    go_wp2_with fail
    go_ret
    exact ⟨rfl, rfl⟩
  · rw [frm_4]
    have q1 := assert_83_83
    go_enter Try.func118, Try.ntmps118
    go_wp2_with fail
    go_ret
    exact ⟨rfl, rfl⟩
  · rw [frm_5]
    have q1 := assert_84_83
    have q2 := assert_84_84
    go_enter Try.func118, Try.ntmps118
    go_wp2_with fail
    go_ret
    exact ⟨rfl, rfl⟩
  · rw [frm_6]
    have q1 := assert_85_83
    have q2 := assert_85_84
    have q3 := assert_85_85
    go_enter Try.func118, Try.ntmps118
    go_wp2_with fail
    go_ret
    exact ⟨rfl, rfl⟩
theorem addNd_any (g o a d : Nat) (w : World) (hc : w.cell? ⟨g, o + 3, none⟩ = some (.int .i64 (a : Int))) (hf : w.frozen? ⟨g, o + 3, none⟩ = false) (hb : a + d ≤ 1000000) :
    Calls Try.prog 117 #[.pointer (some ⟨g, o, none⟩), .int .i64 (d : Int)] w fun e w' => e = .returned (.tuple #[]) ∧ w' = w.setCell ⟨g, o + 3, none⟩ (.int .i64 ((a + d : Nat) : Int)) := by
  have e : IntKind.i64.wrap ((a : Int) + (d : Int)) = ((a + d : Nat) : Int) := by rw [IntKind.wrap_i64]; omega
  obtain ⟨m, hm⟩ : ∃ m : Nat, m = a + d := ⟨_, rfl⟩
  rw [← hm] at e ⊢
  have hle : ¬ (4611686018427387903 : Int) < (m : Int) := by omega
  have hle2 : (m : Int) < 4611686018427387903 := by omega
  have hle3 : (m : Int) ≤ 4611686018427387903 := by omega
  clear hb hm
  go_enter Try.func117, Try.ntmps117
  go_wp2_with fail
  refine bodyPost_end (v := .tuple #[]) ?_ rfl ⟨rfl, rfl⟩
  simp [results, Try.results117, go_sem]
theorem nameN_nil (ao : Option Addr) (cap : Nat) (w : World) : Calls Try.prog 86 #[.slice ao 0 cap] w fun e w' => e = .returned (.agg #[.pointer none, .int .i64 0]) ∧ Below w.heap.size w w' := by
  go_enter Try.func86, Try.ntmps86
  go_wp2
  refine bodyPost_ret (v := .agg #[.pointer none, .int .i64 0]) (by simp [results, Try.results86, go_sem]) rfl ⟨rfl, ?_⟩
  exact (Below.refl _ _).alloc (Nat.le_refl _) _
theorem nameN_some (b o n cap : Nat) (w : World) (hn : n ≠ 0) :
    Calls Try.prog 86 #[.slice (some ⟨b, o, none⟩) n cap] w fun e w' => e = .returned (.agg #[.pointer (some ⟨b, o, none⟩), .int .i64 n]) ∧ Below w.heap.size w w' := by
  have q : ((n : Int) == 0) = false := by simp; omega
  have hpos : 0 < n := by omega
  clear hn
  go_enter Try.func86, Try.ntmps86
  go_wp2
  refine bodyPost_ret (v := .agg #[.pointer (some ⟨b, o, none⟩), .int .i64 n]) (by simp [results, Try.results86, go_sem]) rfl ⟨rfl, ?_⟩
  exact (Below.refl _ _).alloc (Nat.le_refl _) _
theorem run_tailN (b o r c : Nat) (hc : r + 1 ≤ c) (W : World) :
    (Instr.slice 37 (.slice (some ⟨b, o, none⟩) (r + 1) c) (some (.int .i64 1)) none none).run Try.prog W = .ok (.slice (some ⟨b, ofsN o c, none⟩) r (c - 1)) W := by
  have hs : (sizeOf (Try.prog.elem 37)).run Try.prog W = .ok 4 W := by kernel_rfl
  have h := run_slice_l (P := Try.prog) (w := W) (t := 37) (a := some ⟨b, o, none⟩) (len := r + 1) (cap := c) (by kernel_rfl) .i64 1 (by omega) (by omega)
  rw [h, hs]
  unfold ofsN
  by_cases hci : c = 1
  · rw [if_pos hci]
    simp [Result.andThen, sliced, hci]
  · rw [if_neg hci]
    simp [Result.andThen, sliced, hci, Addr.add]
theorem infoNeeding : (Try.prog.info? 160).map (fun i => (i.zero, i.size, i.bytes)) = some (some (.agg #[.pointer none, .int .i64 0, .slice none 0 0, .int .i64 0]), 4, 48) := by kernel_rfl
theorem undNeeding : Try.prog.underlying 161 = some (.slice 160) := by kernel_rfl
end Go.Proofs.Ytabgfaafpgholaa
