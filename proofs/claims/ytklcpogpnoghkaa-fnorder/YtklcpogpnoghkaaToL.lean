/-
  The specification's LessTerm: of two right terms, which is less.
-/
import Derived.Test.YtklcpogpnoghkaaToG
import Derived.Test.YtklcpogpnoghkaaToK
namespace Go.Proofs.Ytklcpogpnoghkaa
open Go.RowKit
set_option linter.unusedVariables false

theorem ret_b {q r : Bool} (h : q = r) : Ending.returned (.bool r) = Ending.returned (.bool q) := by rw [h]
def LsT (t : Tm) : Prop := ∀ (t' : Tm) (q : Bool), WfT t → WfT t' → (q = true ↔ cmpT t t' < 0) → ∀ (B : Nat) (w : World) (v v' : Value), RepV B w t v → RepV B w t' v' →
  Calls Try.prog 8 #[v, v'] w fun e w' => e = .returned (.bool q) ∧ Below w.heap.size w w'
theorem bool_dec {q : Bool} {p : Prop} [Decidable p] (h : q = true ↔ p) : q = decide p := by
  cases q
  · exact (decide_eq_false (fun hp => absurd (h.2 hp) (by decide))).symm
  · exact (decide_eq_true (h.1 rfl)).symm
theorem thenC_nil (a : Int) : thenC a 0 = a := by
  unfold thenC
  by_cases h : a = 0
  · rw [if_pos h, h]
  · rw [if_neg h]
theorem thenC_left (b : Int) : thenC 0 b = b := by unfold thenC; rw [if_pos rfl]
theorem cmpI_self (k : Int) : cmpI k k = 0 := (cmpI_zero k k).2 rfl
theorem keepK {w w' : World} (h : Below w.heap.size w w') {b o : Nat} {v : Value} (hc : w.cell? ⟨b, o, none⟩ = some v) : w'.cell? ⟨b, o, none⟩ = some v := by
  rw [h.cell (p := ⟨b, o, none⟩) (World.block_lt_of_cell? w _ hc)]; exact hc

set_option maxHeartbeats 4000000 in
theorem lsT_leaf (k n : Int) (s : ByteArray) (l : List Tm) (n' : Int) (s' : ByteArray) (l' : List Tm) (hk : k = 1 ∨ k = 3 ∨ k = 2 ∨ k = 6) (q : Bool) (hq : q = true ↔ cmpT (.mk k n s l) (.mk k n' s' l') < 0) (ao ao' : Option Addr) (c c' : Nat) (w : World) :
    Calls Try.prog 8 #[.agg #[.int .i64 k, .int .i64 n, .string s, .slice ao l.length c], .agg #[.int .i64 k, .int .i64 n', .string s', .slice ao' l'.length c']] w fun e w' => e = .returned (.bool q) ∧ Below w.heap.size w w' := by
  have HB2 : Hid (∀ a b, Below w.heap.size w ((w.alloc a).alloc b)) := fun a b => ((Below.refl _ _).alloc (Nat.le_refl _) _).alloc (by simp) _
  rw [cmpT, cmpI_self, thenC_left] at hq
  rcases hk with rfl | rfl | rfl | rfl
  · have HE : Hid (q = decide (n < n')) := bool_dec (by rw [hq, if_neg (by decide), thenC_nil]; exact cmpI_neg n n')
    clear hq
    go_enter Try.func8, Try.ntmps8
    go_wp2_with fail
    go_ret
    exact ⟨ret_b HE.out, HB2.out _ _⟩
  · have HE : Hid (q = decide (n < n')) := bool_dec (by rw [hq, if_neg (by decide), thenC_nil]; exact cmpI_neg n n')
    clear hq
    go_enter Try.func8, Try.ntmps8
    go_wp2_with fail
    go_ret
    exact ⟨ret_b HE.out, HB2.out _ _⟩
  · have HE : Hid (q = Op.bytesLess s.toList s'.toList) := by
      have h := bool_dec (p := Op.bytesLess s.toList s'.toList = true) (by rw [hq, if_neg (by decide), thenC_nil]; exact cmpS_neg s s')
      show _ = _
      rw [h]; simp
    clear hq
    go_enter Try.func8, Try.ntmps8
    go_wp2_with fail
    go_ret
    exact ⟨ret_b HE.out, HB2.out _ _⟩
  · have HE : Hid (q = Op.bytesLess s.toList s'.toList) := by
      have h := bool_dec (p := Op.bytesLess s.toList s'.toList = true) (by rw [hq, if_neg (by decide), thenC_nil]; exact cmpS_neg s s')
      show _ = _
      rw [h]; simp
    clear hq
    go_enter Try.func8, Try.ntmps8
    go_wp2_with fail
    go_ret
    exact ⟨ret_b HE.out, HB2.out _ _⟩
set_option maxHeartbeats 4000000 in
theorem lsT_kind (k n : Int) (s : ByteArray) (k' n' : Int) (s' : ByteArray) (x x' : Value) (hk : k ≠ k') (w : World) :
    Calls Try.prog 8 #[.agg #[.int .i64 k, .int .i64 n, .string s, x], .agg #[.int .i64 k', .int .i64 n', .string s', x']] w fun e w' => e = .returned (.bool (decide (k < k'))) ∧ Below w.heap.size w w' := by
  have HB2 : Hid (∀ a b, Below w.heap.size w ((w.alloc a).alloc b)) := fun a b => ((Below.refl _ _).alloc (Nat.le_refl _) _).alloc (by simp) _
  have e1 : (k == k') = false := beq_eq_false_iff_ne.2 hk
  clear hk
  go_enter Try.func8, Try.ntmps8
  go_wp2_with fail
  go_ret
  exact ⟨rfl, HB2.out _ _⟩
set_option maxHeartbeats 4000000 in
theorem lsT_len (n : Int) (s : ByteArray) (n' : Int) (s' : ByteArray) (ao ao' : Option Addr) (N N' c c' : Nat) (hk : N ≠ N') (w : World) :
    Calls Try.prog 8 #[.agg #[.int .i64 4, .int .i64 n, .string s, .slice ao N c], .agg #[.int .i64 4, .int .i64 n', .string s', .slice ao' N' c']] w fun e w' => e = .returned (.bool (decide (N < N'))) ∧ Below w.heap.size w w' := by
  have HB2 : Hid (∀ a b, Below w.heap.size w ((w.alloc a).alloc b)) := fun a b => ((Below.refl _ _).alloc (Nat.le_refl _) _).alloc (by simp) _
  have e1 : ((N : Int) == N') = false := beq_eq_false_iff_ne.2 (by omega)
  clear hk
  go_enter Try.func8, Try.ntmps8
  go_wp2_with fail
  go_ret
  exact ⟨rfl, HB2.out _ _⟩

end Go.Proofs.Ytklcpogpnoghkaa
