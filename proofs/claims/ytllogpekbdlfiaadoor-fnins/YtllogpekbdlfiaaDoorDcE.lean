/-
  The walk of the law FnIns.
-/
import Derived.Test.YtllogpekbdlfiaaDoorDcD
import Derived.Test.YtllogpekbdlfiaaDoorCtC
import Derived.Test.YtllogpekbdlfiaaDoorGuB
namespace Go.Proofs.YtllogpekbdlfiaaDoor.Code
open Go.RowKit
open Go.Proofs.YtllogpekbdlfiaaDoor.Atom
set_option linter.unusedVariables false

theorem specOk_up {x : I} {N : Int} (h : specOk x N = true) (hN : N + 1 ≤ 200) : specOk x (N + 1) = true := by
  unfold specOk at h ⊢
  simp only [Bool.and_eq_true] at h ⊢
  obtain ⟨h1, h2, h3, h4, h5, h6, h7⟩ := h
  have hn : 1 ≤ N ∧ N ≤ 200 := of_decide_eq_true h1
  refine ⟨decide_eq_true (by omega), h2, h3, h4, h5, h6, ?_⟩
  unfold numB at h7 ⊢
  split
  · rename_i e; rw [if_pos e] at h7; exact h7
  rename_i e1; rw [if_neg e1] at h7
  split
  · rename_i e; rw [if_pos e] at h7; exact h7
  rename_i e4; rw [if_neg e4] at h7
  split
  · rename_i e; rw [if_pos e] at h7; exact h7
  rename_i e6; rw [if_neg e6] at h7
  split
  · rename_i e; rw [if_pos e] at h7
    have := of_decide_eq_true h7
    exact decide_eq_true (by omega)
  · rename_i e; rw [if_neg e] at h7; exact h7
theorem specOk_rng {x : I} {N : Int} (h : specOk x N = true) : (1 ≤ N ∧ N ≤ 200) ∧ Atom.inB x.op 1 20 = true := by
  unfold specOk at h
  simp only [Bool.and_eq_true] at h
  exact ⟨of_decide_eq_true h.1, h.2.1⟩
theorem text_ne {x : I} (h : Atom.inB x.op 1 20 = true) : (⟨(textI x).toArray⟩ : ByteArray).toList.isEmpty = false := by
  rw [ByteArray.toList_eq]
  show (textI x).isEmpty = false
  unfold textI
  rw [if_pos h]
  rcases op_cases h with e | e | e | e | e | e | e | e | e | e | e | e | e | e | e | e | e | e | e | e <;> rw [e] <;> rfl
theorem wee_in {x : I} (h : Wee x) : In64 x := ⟨by have := h.a; omega, by have := h.b; omega, by have := h.c; omega, by have := h.n; omega⟩

set_option maxHeartbeats 4000000 in
theorem fnIns_walk (w : World) (ao : Option Addr) (len cap : Nat) (zs : List Int) (hr : IsRow w ao len cap zs) (hlc : len ≤ cap) (hcm : cap ≤ maxLen) (hS : Shp w) (hP : Pow w) :
    Calls Tryd.prog 3 #[.slice ao len cap] w fun e w' => e = .returned (.bool true) ∧ Below w.heap.size w w' := by
  have HR : Hid (IsRow w ao len cap zs) := hr
  have HS : Hid (Shp w) := hS
  have HP : Hid (Pow w) := hP
  clear hr hS hP
  have HBG : Hid (∀ w', Calls Tryd.prog 8 #[.slice ao len cap] w' fun e w'' => e = .returned (.bool (decide (1048576 < len))) ∧ w'' = w') := fun w' => big_any ao len cap (Nat.le_trans hlc hcm) w'
  cases hb : decide (1048576 < len)
  rotate_left
  · rw [hb] at HBG
    go_enter Tryd.func3, Tryd.ntmps3
    go_wp2_with (go_at_call 8; refine (HBG.out _).mono ?_; rintro e w' ⟨rfl, rfl⟩)
    go_ret
    exact ⟨rfl, Below.refl _ _⟩
  rw [hb] at HBG
  have hl : len ≤ 1048576 := by have := of_decide_eq_false hb; omega
  go_enter Tryd.func3, Tryd.ntmps3
  go_wp2_with (first | (go_at_call 8; refine (HBG.out _).mono ?_; rintro e w' ⟨rfl, hw'⟩; obtain rfl := hw'.symm) | (go_at_call 9; fail))
  refine (drawIns_any ao len cap zs _ HR.out hl).mono ?_
  rintro e w1 ⟨⟨op, a, b, c, n, s, N, rfl, hwe, hN⟩, hb1⟩
  have HWE : Hid (Wee ⟨op, a, b, c, n, s⟩) := hwe
  have HIN : Hid (In64 ⟨op, a, b, c, n, s⟩) := wee_in hwe
  have HSZ : Hid (s.size ≤ 1048576 ∧ s.size ≤ maxLen) := by have := hwe.s; exact ⟨by have h2 : s.size ≤ 1000 := this; omega, by have h2 : s.size ≤ 1000 := this; unfold maxLen; omega⟩
  have HNN : Hid (N ∈ [(1 : Int), 8, 200, 201, 0]) := hN
  have HX1 : Hid (Bx6 (w1.alloc (.cells #[.int .i64 op, .int .i64 a, .int .i64 b, .int .i64 c, .int .i64 n, .string s] 25)) w1.heap.size 0 ⟨op, a, b, c, n, s⟩ ∧ Below w.heap.size w (w1.alloc (.cells #[.int .i64 op, .int .i64 a, .int .i64 b, .int .i64 c, .int .i64 n, .string s] 25))) := by
    refine ⟨?_, hb1.alloc hb1.size _⟩
    constructor <;> rw [World.cell?_alloc_new] <;> rfl
  clear hwe hN hb1 HBG HR
  go_wp2_with (go_at_call 10; fail)
  generalize (w1.alloc (.cells #[.int .i64 op, .int .i64 a, .int .i64 b, .int .i64 c, .int .i64 n, .string s] 25)) = w2 at HX1 ⊢
  generalize w1.heap.size = X at HX1 ⊢
  refine (implIns_any op a b c n N s w2 HSZ.out.2 (HS.out.below HX1.out.2)).mono ?_
  rintro e w3 ⟨rfl, hb3⟩
  have HX3 : Hid (Bx6 w3 X 0 ⟨op, a, b, c, n, s⟩ ∧ Below w.heap.size w w3) := ⟨HX1.out.1.below hb3, HX1.out.2.trans (hb3.mono HX1.out.2.size)⟩
  clear hb3 HX1
  have x0 := HX3.out.1.c0
  have x1 := HX3.out.1.c1
  have x2 := HX3.out.1.c2
  have x3 := HX3.out.1.c3
  have x4 := HX3.out.1.c4
  have x5 := HX3.out.1.c5
  simp only [Nat.zero_add] at x0 x1 x2 x3 x4 x5
  go_wp2_with (go_at_call 11; fail)
  refine (implText_any op a b c n s w3 HSZ.out.1 HIN.out (HS.out.below HX3.out.2) (HP.out.below HX3.out.2)).mono ?_
  rintro e w4 ⟨rfl, hb4⟩
  have HX4 : Hid (Bx6 w4 X 0 ⟨op, a, b, c, n, s⟩ ∧ Below w.heap.size w w4) := ⟨HX3.out.1.below hb4, HX3.out.2.trans (hb4.mono HX3.out.2.size)⟩
  clear hb4 HX3 x0 x1 x2 x3 x4 x5
  have x0 := HX4.out.1.c0
  have x1 := HX4.out.1.c1
  have x2 := HX4.out.1.c2
  have x3 := HX4.out.1.c3
  have x4 := HX4.out.1.c4
  have x5 := HX4.out.1.c5
  simp only [Nat.zero_add] at x0 x1 x2 x3 x4 x5
  go_wp2_with (go_at_call 12; fail)
  refine (specIns_any op a b c n N s w4 HSZ.out.2).mono ?_
  rintro e w5 ⟨rfl, hb5⟩
  have HX5 : Hid (Bx6 w5 X 0 ⟨op, a, b, c, n, s⟩ ∧ Below w.heap.size w w5) := ⟨HX4.out.1.below hb5, HX4.out.2.trans (hb5.mono HX4.out.2.size)⟩
  clear hb5 HX4 x0 x1 x2 x3 x4 x5
  have x0 := HX5.out.1.c0
  have x1 := HX5.out.1.c1
  have x2 := HX5.out.1.c2
  have x3 := HX5.out.1.c3
  have x4 := HX5.out.1.c4
  have x5 := HX5.out.1.c5
  simp only [Nat.zero_add] at x0 x1 x2 x3 x4 x5
  rw [implOk_eq]
  have HOK : Hid (∃ q, specOk ⟨op, a, b, c, n, s⟩ N = q) := ⟨_, rfl⟩
  have HST : Hid (∀ w', Calls Tryd.prog 13 #[.agg #[.int .i64 op, .int .i64 a, .int .i64 b, .int .i64 c, .int .i64 n, .string s]] w' fun e w'' => e = .returned (.string ⟨(textI ⟨op, a, b, c, n, s⟩).toArray⟩) ∧ Below w'.heap.size w' w'') := fun w' => specText_any op a b c n s w' HSZ.out.1 HIN.out
  have HNE : Hid (specOk ⟨op, a, b, c, n, s⟩ N = true → (⟨(textI ⟨op, a, b, c, n, s⟩).toArray⟩ : ByteArray).toList.isEmpty = false) := fun h => text_ne (specOk_rng h).2
  generalize (⟨(textI ⟨op, a, b, c, n, s⟩).toArray⟩ : ByteArray) = T at HST HNE ⊢
  cases hq : specOk ⟨op, a, b, c, n, s⟩ N
  · go_wp2_with (go_at_call 13; fail)
    refine (HST.out _).mono ?_
    rintro e w6 ⟨rfl, hb6⟩
    have HB6 : Hid (Below w.heap.size w w6) := HX5.out.2.trans (hb6.mono HX5.out.2.size)
    clear hb6
    go_wp2_with fail
    go_ret
    exact ⟨rfl, HB6.out⟩
  · have hT := HNE.out hq
    go_wp2_with (go_at_call 13; fail)
    refine (HST.out _).mono ?_
    rintro e w6 ⟨rfl, hb6⟩
    have HX6 : Hid (Bx6 w6 X 0 ⟨op, a, b, c, n, s⟩ ∧ Below w.heap.size w w6) := ⟨HX5.out.1.below hb6, HX5.out.2.trans (hb6.mono HX5.out.2.size)⟩
    clear hb6 HX5 x0 x1 x2 x3 x4 x5
    have x0 := HX6.out.1.c0
    have x1 := HX6.out.1.c1
    have x2 := HX6.out.1.c2
    have x3 := HX6.out.1.c3
    have x4 := HX6.out.1.c4
    have x5 := HX6.out.1.c5
    simp only [Nat.zero_add] at x0 x1 x2 x3 x4 x5
    by_cases h200 : N = 200
    · subst h200
      go_wp2_with fail
      go_ret
      exact ⟨rfl, HX6.out.2⟩
    · have q200 : (N == 200) = false := beq_eq_false_iff_ne.2 h200
      have hr := (specOk_rng hq).1
      have e1 : IntKind.i64.wrap (N + 1) = N + 1 := by rw [IntKind.wrap_i64]; omega
      have HUP : Hid (implOk ⟨op, a, b, c, n, s⟩ (N + 1) = true) := by show _ = _; rw [implOk_eq]; exact specOk_up hq (by omega)
      go_wp2_with (go_at_call 10; fail)
      refine (implIns_any op a b c n (N + 1) s w6 HSZ.out.2 (HS.out.below HX6.out.2)).mono ?_
      rw [HUP.out]
      rintro e w7 ⟨rfl, hb7⟩
      have HB7 : Hid (Below w.heap.size w w7) := HX6.out.2.trans (hb7.mono HX6.out.2.size)
      clear hb7
      go_wp2_with fail
      go_ret
      exact ⟨by simp, HB7.out⟩
end Go.Proofs.YtllogpekbdlfiaaDoor.Code
