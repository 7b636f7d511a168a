/-
  A drawn place, length and use: what DrawGuard answers, and that the law of guards holds of it.
-/
import Derived.Test.YtihjlkcmfdhefaaCurA
import Derived.OpenShut
import Derived.ChangeOld
namespace Go.Proofs.Ytihjlkcmfdhefaa
open Go.RowKit
set_option linter.unusedVariables false

set_option maxHeartbeats 1000000 in
theorem drawGuard_any (w : World) (ao : Option Addr) (len cap : Nat) (zs : List Int) (hr : IsRow w ao len cap zs) (hsm : len ≤ 1048576) :
    Calls Try.prog 10 #[.slice ao len cap] w fun e w' => ∃ (p n : Int) (u : Bool), e = .returned (.tuple #[.int .i64 p, .int .i64 n, .bool u]) ∧ Below w.heap.size w w' := by
  have HR : Hid (IsRow w ao len cap zs) := hr
  clear hr
  go_enter Try.func10, Try.ntmps10
  go_wp2_with fail
  refine (new_any _ ao len cap zs HR.out hsm).mono ?_
  rintro e w1 ⟨rfl, hc1, hb1, hz1⟩
  have HC : Hid (Cur w.heap.size ao len cap zs w1) := hc1
  have HB : Hid (Below w.heap.size w w1 ∧ w.heap.size < w1.heap.size) := ⟨hb1, by omega⟩
  clear hc1 hb1 hz1
  go_wp2_with fail
  refine (below_any w.heap.size ao len cap zs _ HC.out 100 (by decide) (by decide)).mono ?_
  rintro e w2 ⟨x, rfl, hx0, hx1, hd⟩
  have HC2 : Hid (Cur w.heap.size ao len cap zs w2) := hd.1
  have HB2 : Hid (Below w.heap.size w w2 ∧ w.heap.size < w2.heap.size) := ⟨Turn.below HB.out.1 (by have := HB.out.2; omega) hd.2 (by omega), by have := hd.2.size; have := HB.out.2; omega⟩
  clear hd
  go_wp2_with fail
  refine (int_any w.heap.size ao len cap zs _ (HC2.out.alloc _) w2.heap.size [0, 5, 4000, 4001, -1, x] (by have := HB2.out.2; omega) (by simp) (by simp) ?_).mono ?_
  · exact news_ints w2 [0, 5, 4000, 4001, -1, x] _
  rintro e w3 ⟨p, rfl, hp, hd⟩
  have HC3 : Hid (Cur w.heap.size ao len cap zs w3) := hd.1
  have HB3 : Hid (Below w.heap.size w w3 ∧ w.heap.size < w3.heap.size) :=
    ⟨Turn.below (HB2.out.1.alloc (by have := HB2.out.2; omega) _) (by rw [World.size_alloc]; have := HB2.out.2; omega) hd.2 (by omega), by have := hd.2.size; rw [World.size_alloc] at this; have := HB2.out.2; omega⟩
  clear hd hp
  go_wp2_with fail
  refine (int_any w.heap.size ao len cap zs _ (HC3.out.alloc _) w3.heap.size [1, 7, 4000, 4001, -1] (by have := HB3.out.2; omega) (by simp) (by simp) ?_).mono ?_
  · exact news_ints w3 [1, 7, 4000, 4001, -1] _
  rintro e w4 ⟨n, rfl, hn, hd⟩
  have HC4 : Hid (Cur w.heap.size ao len cap zs w4) := hd.1
  have HB4 : Hid (Below w.heap.size w w4 ∧ w.heap.size < w4.heap.size) :=
    ⟨Turn.below (HB3.out.1.alloc (by have := HB3.out.2; omega) _) (by rw [World.size_alloc]; have := HB3.out.2; omega) hd.2 (by omega), by have := hd.2.size; rw [World.size_alloc] at this; have := HB3.out.2; omega⟩
  clear hd hn
  go_wp2_with fail
  refine (once_any w.heap.size ao len cap zs _ HC4.out 2 (by decide) (by decide)).mono ?_
  rintro e w5 ⟨u, rfl, hd⟩
  have HB5 : Hid (Below w.heap.size w w5) := Turn.below HB4.out.1 (by have := HB4.out.2; omega) hd.2 (by omega)
  clear hd
  go_wp2_with fail
  exact bodyPost_ret (v := .tuple #[.int .i64 p, .int .i64 n, .bool u]) (by simp [results, Try.results10, go_sem]) rfl ⟨_, _, _, rfl, HB5.out⟩

theorem big_any (ao : Option Addr) (len cap : Nat) (hl : len ≤ maxLen) (w : World) :
    Calls Try.prog 9 #[.slice ao len cap] w fun e w' => e = .returned (.bool (decide (1048576 < len))) ∧ w' = w := by
  unfold maxLen at hl
  go_enter Try.func9, Try.ntmps9
  go_wp2
  go_ret
  exact ⟨by simp; try omega, rfl⟩

theorem gw_facts (p n : Int) (u : Bool) (h0 : 0 ≤ p) (h1 : p ≤ 4000) (h2 : 0 ≤ n) (h3 : n < 4000) :
    ¬ gw p n u 1000 = gw p n u 1001 ∧ ¬ gw p n u 1000 = gw p n (!u) 1000 ∧ ¬ gw p n u 1000 = gw p (n + 1) u 1000 ∧ ¬ gw p n u 1000 = gw p (n + 1) (!u) 1000 ∧ ¬ gw p n u 1001 = gw p n (!u) 1001 ∧ 0 ≤ gw p n u 1000 ∧ gw p n u 1000 < 1000003 := by
  have e1 : inA p = true := by simp [inA, h0, h1]
  have e2 : inA n = true := by simp [inA, h2]; omega
  have e3 : inA (n + 1) = true := by simp [inA]; omega
  cases u <;> simp only [gw, e1, e2, e3, useOf, Bool.and_self, if_true, Bool.not_true, Bool.not_false, Bool.false_eq_true, if_false] <;> omega
theorem gw_ge (p n : Int) (u : Bool) (m : Int) : 0 ≤ gw p n u m := by
  unfold gw
  split
  · exact Int.emod_nonneg _ (by decide)
  · exact Int.le_refl _

set_option maxHeartbeats 4000000 in
set_option maxRecDepth 100000 in
theorem guards_walk (w : World) (ao : Option Addr) (len cap : Nat) (zs : List Int) (hr : IsRow w ao len cap zs) (hlc : len ≤ cap) (hcm : cap ≤ maxLen) :
    Calls Try.prog 3 #[.slice ao len cap] w fun e w' => e = .returned (.bool true) ∧ Below w.heap.size w w' := by
  have HR : Hid (IsRow w ao len cap zs) := hr
  have HL : Hid (len ≤ maxLen) := Nat.le_trans hlc hcm
  clear hr
  by_cases hbig : 1048576 < len
  · go_enter Try.func3, Try.ntmps3
    go_wp2_with fail
    refine (big_any ao len cap HL.out _).mono ?_
    rintro e w1 ⟨rfl, rfl⟩
    go_wp2_with fail
    go_ret
    exact ⟨rfl, Below.refl _ _⟩
  · go_enter Try.func3, Try.ntmps3
    go_wp2_with fail
    refine (big_any ao len cap HL.out _).mono ?_
    rintro e w1 ⟨rfl, rfl⟩
    go_wp2_with fail
    refine (drawGuard_any _ ao len cap zs HR.out (by omega)).mono ?_
    rintro e w2 ⟨p, n, u, rfl, hb⟩
    have HB : Hid (Below w1.heap.size w1 w2) := hb
    clear hb hbig hlc hcm HR HL
    have g1 := gw_ge p n u 1000
    have g2 := gw_ge p n u 1001
    by_cases h0 : p < 0
    · go_wp2_with (first
        | (go_at_call 11; refine (implGuard_any _ _ _ _).mono ?_; rintro e w' ⟨rfl, rfl⟩)
        | (go_at_call 12; refine (implRear_any _ _ _ _).mono ?_; rintro e w' ⟨rfl, rfl⟩)
        | (go_at_call 13; refine (specGuard_any _ _ _ _).mono ?_; rintro e w' ⟨rfl, rfl⟩)
        | (go_at_call 14; refine (specRear_any _ _ _ _).mono ?_; rintro e w' ⟨rfl, rfl⟩)
        | (go_at_call 15; refine (implPois_any _ _).mono ?_; rintro e w' ⟨rfl, rfl⟩)
        | (go_at_call 16; refine (specPois_any _ _).mono ?_; rintro e w' ⟨rfl, rfl⟩))
      go_ret
      exact ⟨rfl, HB.out⟩
    · by_cases h1 : 4000 < p
      · go_wp2_with (first
          | (go_at_call 11; refine (implGuard_any _ _ _ _).mono ?_; rintro e w' ⟨rfl, rfl⟩)
          | (go_at_call 12; refine (implRear_any _ _ _ _).mono ?_; rintro e w' ⟨rfl, rfl⟩)
          | (go_at_call 13; refine (specGuard_any _ _ _ _).mono ?_; rintro e w' ⟨rfl, rfl⟩)
          | (go_at_call 14; refine (specRear_any _ _ _ _).mono ?_; rintro e w' ⟨rfl, rfl⟩)
          | (go_at_call 15; refine (implPois_any _ _).mono ?_; rintro e w' ⟨rfl, rfl⟩)
          | (go_at_call 16; refine (specPois_any _ _).mono ?_; rintro e w' ⟨rfl, rfl⟩))
        go_ret
        exact ⟨rfl, HB.out⟩
      · by_cases h2 : n < 0
        · go_wp2_with (first
            | (go_at_call 11; refine (implGuard_any _ _ _ _).mono ?_; rintro e w' ⟨rfl, rfl⟩)
            | (go_at_call 12; refine (implRear_any _ _ _ _).mono ?_; rintro e w' ⟨rfl, rfl⟩)
            | (go_at_call 13; refine (specGuard_any _ _ _ _).mono ?_; rintro e w' ⟨rfl, rfl⟩)
            | (go_at_call 14; refine (specRear_any _ _ _ _).mono ?_; rintro e w' ⟨rfl, rfl⟩)
            | (go_at_call 15; refine (implPois_any _ _).mono ?_; rintro e w' ⟨rfl, rfl⟩)
            | (go_at_call 16; refine (specPois_any _ _).mono ?_; rintro e w' ⟨rfl, rfl⟩))
          go_ret
          exact ⟨rfl, HB.out⟩
        · by_cases h3 : n < 4000
          · obtain ⟨k1, k2, k3, k4, k5, k6, k7⟩ := gw_facts p n u (by omega) (by omega) (by omega) h3
            go_wp2_with (first
              | (go_at_call 11; refine (implGuard_any _ _ _ _).mono ?_; rintro e w' ⟨rfl, rfl⟩)
              | (go_at_call 12; refine (implRear_any _ _ _ _).mono ?_; rintro e w' ⟨rfl, rfl⟩)
              | (go_at_call 13; refine (specGuard_any _ _ _ _).mono ?_; rintro e w' ⟨rfl, rfl⟩)
              | (go_at_call 14; refine (specRear_any _ _ _ _).mono ?_; rintro e w' ⟨rfl, rfl⟩)
              | (go_at_call 15; refine (implPois_any _ _).mono ?_; rintro e w' ⟨rfl, rfl⟩)
              | (go_at_call 16; refine (specPois_any _ _).mono ?_; rintro e w' ⟨rfl, rfl⟩))
            go_ret
            exact ⟨ret_bool (by simp [k1, k2, k3, k4, k5]), HB.out⟩
          · go_wp2_with (first
              | (go_at_call 11; refine (implGuard_any _ _ _ _).mono ?_; rintro e w' ⟨rfl, rfl⟩)
              | (go_at_call 12; refine (implRear_any _ _ _ _).mono ?_; rintro e w' ⟨rfl, rfl⟩)
              | (go_at_call 13; refine (specGuard_any _ _ _ _).mono ?_; rintro e w' ⟨rfl, rfl⟩)
              | (go_at_call 14; refine (specRear_any _ _ _ _).mono ?_; rintro e w' ⟨rfl, rfl⟩)
              | (go_at_call 15; refine (implPois_any _ _).mono ?_; rintro e w' ⟨rfl, rfl⟩)
              | (go_at_call 16; refine (specPois_any _ _).mono ?_; rintro e w' ⟨rfl, rfl⟩))
            go_ret
            exact ⟨rfl, HB.out⟩
end Go.Proofs.Ytihjlkcmfdhefaa
