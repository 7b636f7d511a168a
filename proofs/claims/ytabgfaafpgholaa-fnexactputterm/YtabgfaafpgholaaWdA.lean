/-
  Words: what both kinds of MakeWord, TagOf and ValOf answer.
-/
import Derived.Test.YtabgfaafpgholaaGuA
namespace Go.Proofs.Ytabgfaafpgholaa
open Go.RowKit
set_option linter.unusedVariables false

def mkw (t v : Int) : Int := if inB t 0 6 && inB v 0 4000000 then v * 8 + t else 0
def tagW (x : Int) : Int := if x < 0 then 0 else x % 8
def valW (x : Int) : Int := if x < 0 then 0 else x / 8

theorem inB_yes {x a b : Int} (h : inB x a b = true) : a ≤ x ∧ x ≤ b := by simpa [inB] using h
theorem inB_no {x a b : Int} (h : ¬ (a ≤ x ∧ x ≤ b)) : inB x a b = false := by simpa [inB] using h

theorem i64_le {x : Int} (h : (Lit.int .i64 x).wf = true) : x ≤ 9223372036854775807 := by
  have h2 : decide (x ≤ IntKind.i64.max) = true := by
    have h' : (decide (IntKind.i64.min ≤ x) && decide (x ≤ IntKind.i64.max)) = true := h
    exact (Bool.and_eq_true_iff.1 h').2
  exact of_decide_eq_true h2

theorem specMake_any (t v : Int) (w : World) :
    Calls Try.prog 66 #[.int .i64 t, .int .i64 v] w fun e w' => e = .returned (.int .i64 (mkw t v)) ∧ w' = w := by
  have HM : Hid (mkw t v = if inB t 0 6 && inB v 0 4000000 then v * 8 + t else 0) := by show _ = _; rfl
  have ht : inB t 0 6 = true → 0 ≤ t ∧ t ≤ 6 := inB_yes
  have hv : inB v 0 4000000 = true → 0 ≤ v ∧ v ≤ 4000000 := inB_yes
  cases h1 : inB t 0 6
  · go_enter Try.func66, Try.ntmps66
    go_wp2_with (go_at_call 90; refine (in_any _ _ _ _).mono ?_; rintro e w' ⟨rfl, rfl⟩)
    go_ret
    exact ⟨ret_int (by rw [HM.out, h1]; rfl), rfl⟩
  · cases h2 : inB v 0 4000000
    · go_enter Try.func66, Try.ntmps66
      go_wp2_with (go_at_call 90; refine (in_any _ _ _ _).mono ?_; rintro e w' ⟨rfl, rfl⟩)
      go_ret
      exact ⟨ret_int (by rw [HM.out, h1, h2]; rfl), rfl⟩
    · have k1 := ht h1
      have k2 := hv h2
      go_enter Try.func66, Try.ntmps66
      go_wp2_with (go_at_call 90; refine (in_any _ _ _ _).mono ?_; rintro e w' ⟨rfl, rfl⟩)
      go_ret
      exact ⟨ret_int (by rw [HM.out, h1, h2]; rfl), rfl⟩

theorem implMake_any (t v : Int) (w : World) :
    Calls Try.prog 98 #[.int .i64 t, .int .i64 v] w fun e w' => e = .returned (.int .i64 (mkw t v)) ∧ w' = w := by
  have HM : Hid (mkw t v = if inB t 0 6 && inB v 0 4000000 then v * 8 + t else 0) := by show _ = _; rfl
  by_cases a1 : 0 ≤ t
  · by_cases a2 : t ≤ 6
    · by_cases a3 : 0 ≤ v
      · by_cases a4 : v ≤ 4000000
        · go_enter Try.func98, Try.ntmps98
          go_wp2
          go_ret
          exact ⟨ret_int (by rw [HM.out]; simp [inB, a1, a2, a3, a4]), rfl⟩
        · go_enter Try.func98, Try.ntmps98
          go_wp2
          go_ret
          exact ⟨ret_int (by rw [HM.out, inB_no (x := v) (by omega)]; simp), rfl⟩
      · go_enter Try.func98, Try.ntmps98
        go_wp2
        go_ret
        exact ⟨ret_int (by rw [HM.out, inB_no (x := v) (by omega)]; simp), rfl⟩
    · go_enter Try.func98, Try.ntmps98
      go_wp2
      go_ret
      exact ⟨ret_int (by rw [HM.out, inB_no (x := t) (by omega)]; simp), rfl⟩
  · go_enter Try.func98, Try.ntmps98
    go_wp2
    go_ret
    exact ⟨ret_int (by rw [HM.out, inB_no (x := t) (by omega)]; simp), rfl⟩

theorem specTag_any (x : Int) (w : World) :
    Calls Try.prog 115 #[.int .i64 x] w fun e w' => e = .returned (.int .i64 (tagW x)) ∧ w' = w := by
  by_cases h : x < 0
  · go_enter Try.func115, Try.ntmps115
    go_wp2
    go_ret
    exact ⟨ret_int (by rw [tagW, if_pos h]), rfl⟩
  · go_enter Try.func115, Try.ntmps115
    go_wp2
    go_ret
    exact ⟨ret_int (by rw [tagW, if_neg (by omega)]), rfl⟩
theorem specVal_any (x : Int) (hx : x ≤ 9223372036854775807) (w : World) :
    Calls Try.prog 114 #[.int .i64 x] w fun e w' => e = .returned (.int .i64 (valW x)) ∧ w' = w := by
  by_cases h : x < 0
  · go_enter Try.func114, Try.ntmps114
    go_wp2
    go_ret
    exact ⟨ret_int (by rw [valW, if_pos h]), rfl⟩
  · go_enter Try.func114, Try.ntmps114
    go_wp2
    go_ret
    exact ⟨ret_int (by rw [valW, if_neg (by omega)]), rfl⟩

def notB (x : Int) : Int := if x < 0 then 0 else x
theorem notB_any (x : Int) (w : World) :
    Calls Try.prog 132 #[.int .i64 x] w fun e w' => e = .returned (.int .i64 (notB x)) ∧ w' = w := by
  by_cases h : x < 0
  · go_enter Try.func132, Try.ntmps132
    go_wp2
    go_ret
    exact ⟨ret_int (by rw [notB, if_pos h]), rfl⟩
  · go_enter Try.func132, Try.ntmps132
    go_wp2
    go_ret
    exact ⟨ret_int (by rw [notB, if_neg (by omega)]), rfl⟩
theorem notB_ge (x : Int) : 0 ≤ notB x := by unfold notB; split <;> omega
theorem notB_le (x : Int) (h : x ≤ 9223372036854775807) : notB x ≤ 9223372036854775807 := by unfold notB; split <;> omega
theorem notB_tag (x : Int) : tagW x = notB x % 8 := by unfold notB tagW; split <;> simp
theorem notB_val (x : Int) : valW x = notB x / 8 := by unfold notB valW; split <;> simp
theorem implTag_any (x : Int) (hx : x ≤ 9223372036854775807) (w : World) :
    Calls Try.prog 120 #[.int .i64 x] w fun e w' => e = .returned (.int .i64 (tagW x)) ∧ w' = w := by
  have HT : Hid (tagW x = notB x % 8) := notB_tag x
  have hg := notB_ge x
  have hl := notB_le x hx
  go_enter Try.func120, Try.ntmps120
  go_wp2_with fail
  refine (notB_any _ _).mono ?_
  rintro e w' ⟨rfl, rfl⟩
  generalize notB x = y at *
  go_wp2_with fail
  go_ret
  exact ⟨ret_int HT.out.symm, rfl⟩
theorem implVal_any (x : Int) (hx : x ≤ 9223372036854775807) (w : World) :
    Calls Try.prog 121 #[.int .i64 x] w fun e w' => e = .returned (.int .i64 (valW x)) ∧ w' = w := by
  have HT : Hid (valW x = notB x / 8) := notB_val x
  have hg := notB_ge x
  have hl := notB_le x hx
  go_enter Try.func121, Try.ntmps121
  go_wp2_with fail
  refine (notB_any _ _).mono ?_
  rintro e w' ⟨rfl, rfl⟩
  generalize notB x = y at *
  go_wp2_with fail
  go_ret
  exact ⟨ret_int HT.out.symm, rfl⟩
end Go.Proofs.Ytabgfaafpgholaa
