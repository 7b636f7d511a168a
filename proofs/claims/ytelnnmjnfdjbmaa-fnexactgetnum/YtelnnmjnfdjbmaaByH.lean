/-
  What the law FnExactGetNum does.
-/
import Derived.Test.YtelnnmjnfdjbmaaByG
namespace Go.Proofs.Ytelnnmjnfdjbmaa.By
open Go.RowKit
set_option linter.unusedVariables false

theorem ans_in (x : Option (Int × Int)) : ∃ (a b : Int) (c : Bool), ansN x = .tuple #[.int .i64 a, .int .i64 b, .bool c] := by
  rcases x with _ | ⟨a, b⟩
  · exact ⟨0, 0, false, rfl⟩
  · exact ⟨a, b, true, rfl⟩

set_option maxHeartbeats 2000000 in
set_option maxRecDepth 100000 in
theorem get_law (ao : Option Addr) (cap : Nat) (L : List UInt8) (i : Int) (w : World) (hr : RdB w ao L) (hN : L.length ≤ maxLen) :
    Calls Try.prog 5 #[.slice ao L.length cap, .int .i64 i] w fun e w' => e = .returned (.bool true) ∧ Below w.heap.size w w' := by
  have HR : Hid (RdB w ao L) := hr
  clear hr
  unfold maxLen at hN
  by_cases hbig : 1048576 < L.length
  · go_enter Try.func5, Try.ntmps5
    go_wp2_with fail
    go_ret
    exact ⟨rfl, Below.refl _ _⟩
  · have HBL : Hid (L.length ≤ 1048576) := by show _ ≤ _; omega
    obtain ⟨a, b, c, hans⟩ := ans_in (getB L i)
    have HA : Hid (ansN (getB L i) = .tuple #[.int .i64 a, .int .i64 b, .bool c]) := hans
    clear hans
    go_enter Try.func5, Try.ntmps5
    go_wp2_with fail
    refine (toB_any ao cap L w HR.out HBL.out).mono ?_
    rintro e w1 ⟨rfl, hi1, hl1, hb1⟩
    have HI1 : Hid (BAt w1 w.heap.size 0 L) := hi1.at
    have HB1 : Hid (Below w.heap.size w w1 ∧ w.heap.size < w1.heap.size) := ⟨hb1, hl1⟩
    clear hi1 hl1 hb1
    go_wp2_with fail
    refine (specGet_any (some ⟨w.heap.size, 0, none⟩) L.length L i w1 HI1.out.rd (by have := HBL.out; omega)).mono ?_
    rintro e w2 ⟨rfl, hb2⟩
    rw [HA.out]
    have HB2 : Hid (Below w.heap.size w w2) := join8 HB1.out.1 hb2
    clear hb2 HB1 HI1
    go_wp2_with fail
    refine (toB_any ao cap L w2 (HR.out.below HB2.out) HBL.out).mono ?_
    rintro e w3 ⟨rfl, hi3, hl3, hb3⟩
    have HI3 : Hid (BAt w3 w2.heap.size 0 L) := hi3.at
    have HB3 : Hid (Below w.heap.size w w3) := join8 HB2.out hb3
    clear hi3 hl3 hb3
    go_wp2_with fail
    refine (implGet_any (some ⟨w2.heap.size, 0, none⟩) L.length L i w3 HI3.out.rd (by have := HBL.out; omega) (Nat.le_refl _)).mono ?_
    rintro e w4 ⟨rfl, rfl⟩
    rw [HA.out]
    go_wp2_with fail
    refine (toB_any ao cap L w4 (HR.out.below HB3.out) HBL.out).mono ?_
    rintro e w6 ⟨rfl, hi6, hl6, hb6⟩
    have HI6 : Hid (BAt w6 w4.heap.size 0 L ∧ BAt w6 w2.heap.size 0 L) := ⟨hi6.at, HI3.out.below hb6⟩
    have HB6 : Hid (Below w.heap.size w w6) := join8 HB3.out hb6
    clear hi6 hl6 hb6
    go_wp2_with fail
    refine (eqB_same (some ⟨w2.heap.size, 0, none⟩) (some ⟨w4.heap.size, 0, none⟩) L.length L.length L w6 HI6.out.2.rd HI6.out.1.rd (by have := HBL.out; omega)).mono ?_
    rintro e w7 ⟨rfl, hb7⟩
    have HB7 : Hid (Below w.heap.size w w7) := join8 HB6.out hb7
    clear hb7
    go_wp2_with fail
    go_ret
    exact ⟨rfl, HB7.out⟩
end Go.Proofs.Ytelnnmjnfdjbmaa.By
