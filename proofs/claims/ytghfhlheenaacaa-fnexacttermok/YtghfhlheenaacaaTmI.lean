/-
  TermOk, the specification's and the program's; and the walk of the law.
-/
import Derived.Test.YtghfhlheenaacaaTmC
import Derived.Test.YtghfhlheenaacaaTmD
import Derived.Test.YtghfhlheenaacaaTmH
namespace Go.Proofs.Ytghfhlheenaacaa
open Go.RowKit Atom
set_option linter.unusedVariables false

theorem RepV.form {B : Nat} {w : World} {t : Tm} {v : Value} (h : RepV B w t v) : ∃ a b c d e f, v = .agg #[.int .i64 a, .int .i64 b, .string c, .slice d e f] := by
  obtain ⟨k', n', s', l'⟩ := t
  obtain ⟨ao', cap', e', _⟩ := h
  exact ⟨_, _, _, _, _, _, e'⟩

set_option maxHeartbeats 400000 in
theorem specOk_any (t : Tm) (B : Nat) (w : World) (v : Value) (hv : RepV B w t v) :
    Calls Try.prog 14 #[v] w fun e w' => e = .returned (.bool (look t 6 100).isSome) ∧ Below w.heap.size w w' := by
  obtain ⟨a, b, c, d, e, f, rfl⟩ := hv.form
  have HV : Hid (RepV B w t (.agg #[.int .i64 a, .int .i64 b, .string c, .slice d e f])) := hv
  clear hv
  go_enter Try.func14, Try.ntmps14
  go_wp2_with fail
  refine (look_all t B _ _ 6 100 ((Keeps.below ?_ B).repV HV.out) (by omega) (by omega)).mono ?_
  · exact (Below.refl _ _).alloc (Nat.le_refl _) _
  rintro e w1 ⟨rfl, hb1⟩
  have HB1 : Hid (Below w.heap.size w w1) := ((Below.refl _ _).alloc (Nat.le_refl _) _).trans (hb1.mono (by simp))
  clear hb1
  generalize ho : look t 6 100 = o
  have HO : Hid (look t 6 100 = o) := ho
  clear ho
  cases o with
  | none =>
    simp only [lookI]
    go_wp2_with fail
    go_ret
    exact ⟨ret_bool (by rw [HO.out]; rfl), HB1.out⟩
  | some x =>
    simp only [lookI]
    have hx : (0 : Int) ≤ (x : Int) := by omega
    go_wp2_with fail
    go_ret
    exact ⟨ret_bool (by rw [HO.out]; simp), HB1.out⟩

set_option maxHeartbeats 400000 in
theorem implOk_any (t : Tm) (B : Nat) (w : World) (v : Value) (hv : RepV B w t v) :
    Calls Try.prog 16 #[v] w fun e w' => e = .returned (.bool (look t 6 100).isSome) ∧ Below w.heap.size w w' := by
  obtain ⟨a, b, c, d, e, f, rfl⟩ := hv.form
  have HV : Hid (RepV B w t (.agg #[.int .i64 a, .int .i64 b, .string c, .slice d e f])) := hv
  clear hv
  go_enter Try.func16, Try.ntmps16
  go_wp2_with fail
  refine (spend_all t B _ _ 6 100 ((Keeps.below ?_ B).repV HV.out) (by omega) (by omega)).mono ?_
  · exact (Below.refl _ _).alloc (Nat.le_refl _) _
  rintro e w1 ⟨rfl, hb1⟩
  have HB1 : Hid (Below w.heap.size w w1) := ((Below.refl _ _).alloc (Nat.le_refl _) _).trans (hb1.mono (by simp))
  clear hb1
  go_wp2_with fail
  go_ret
  exact ⟨rfl, HB1.out⟩

theorem Below.repV {w w' : World} {B : Nat} {t : Tm} {v : Value} (h : Below w.heap.size w w') (hv : RepV B w t v) : RepV B w' t v := (Keeps.below h B).repV hv

set_option maxRecDepth 100000 in
set_option maxHeartbeats 1000000 in
theorem law_walk (t : Tm) (w : World) (v : Value) (hv : RepV 0 w t v) :
    Calls Try.prog 5 #[v] w fun e w' => e = .returned (.bool true) ∧ Below w.heap.size w w' := by
  obtain ⟨a, b, c, d, e, f, rfl⟩ := hv.form
  have HV : Hid (RepV 0 w t (.agg #[.int .i64 a, .int .i64 b, .string c, .slice d e f])) := hv
  clear hv
  go_enter Try.func5, Try.ntmps5
  go_wp2_with fail
  refine (szT_all t 0 _ _ 1048576 (Below.repV ?_ HV.out) (by omega) (by omega)).mono ?_
  · exact (Below.refl _ _).alloc (Nat.le_refl _) _
  rintro e w1 ⟨rfl, hb1⟩
  have hb1' := hb1.mono (B' := w.heap.size + 1) (by simp)
  obtain ⟨z1, q1, f1⟩ := one_new hb1'
  have H1 : Hid (Below (w.heap.size + 1) (w.alloc (.cells #[.int .i64 a, .int .i64 b, .string c, .slice d e f] 33)) w1) := hb1'
  have HB1 : Hid (Below w.heap.size w w1) := ((Below.refl _ _).alloc (Nat.le_refl _) _).trans (hb1.mono (by simp))
  clear hb1 hb1'
  have hsm := sz_small t 1048576 (by omega) (by omega)
  have HS : Hid (0 ≤ szT t 1048576 → SmallT t) := hsm
  clear hsm
  generalize szT t 1048576 = x at *
  by_cases hx : x < 0
  · go_wp2_with fail
    go_ret
    exact ⟨rfl, HB1.out⟩
  · have HT : Hid (ToT t) := toT_all t (HS.out (by omega))
    clear HS
    go_wp2_with fail
    refine (HT.out 0 _ _ (Below.repV HB1.out HV.out)).mono ?_
    rintro e w2 ⟨v2, rfl, hb2, hv2⟩
    have H2 : Hid (Below (w.heap.size + 1) (w.alloc (.cells #[.int .i64 a, .int .i64 b, .string c, .slice d e f] 33)) w2) := H1.out.trans (hb2.mono (by omega))
    have HB2 : Hid (Below w.heap.size w w2) := HB1.out.trans (hb2.mono HB1.out.size)
    have HV2 : Hid (RepV w1.heap.size w2 t v2) := hv2
    clear hb2 hv2 q1 f1
    go_wp2_with fail
    refine (specOk_any t w1.heap.size _ v2 HV2.out).mono ?_
    rintro e w3 ⟨rfl, hb3⟩
    have hb3' : Below (w.heap.size + 1) (w.alloc (.cells #[.int .i64 a, .int .i64 b, .string c, .slice d e f] 33)) w3 := H2.out.trans (hb3.mono (by have := H2.out.size; simp at this; omega))
    obtain ⟨z3, q3, f3⟩ := one_new hb3'
    have H3 : Hid (Below (w.heap.size + 1) (w.alloc (.cells #[.int .i64 a, .int .i64 b, .string c, .slice d e f] 33)) w3) := hb3'
    have HB3 : Hid (Below w.heap.size w w3) := HB2.out.trans (hb3.mono HB2.out.size)
    clear hb3 hb3'
    generalize hg : (look t 6 100).isSome = bb
    have HG : Hid ((look t 6 100).isSome = bb) := hg
    clear hg
    go_wp2_with fail
    refine (HT.out 0 _ _ (Below.repV HB3.out HV.out)).mono ?_
    rintro e w4 ⟨v4, rfl, hb4, hv4⟩
    obtain ⟨a4, b4, c4, d4, e4, f4, rfl⟩ := hv4.form
    have H4 : Hid (Below (w.heap.size + 1) (w.alloc (.cells #[.int .i64 a, .int .i64 b, .string c, .slice d e f] 33)) w4) := H3.out.trans (hb4.mono (by omega))
    have HB4 : Hid (Below w.heap.size w w4) := HB3.out.trans (hb4.mono HB3.out.size)
    have HV4 : Hid (RepV 0 w4 t (.agg #[.int .i64 a4, .int .i64 b4, .string c4, .slice d4 e4 f4])) := hv4.mono (Nat.zero_le _)
    clear hb4 hv4 q3 f3
    go_wp2_with fail
    refine (implOk_any t 0 _ _ (Below.repV ?_ HV4.out)).mono ?_
    · exact (Below.refl _ _).alloc (Nat.le_refl _) _
    rintro e w5 ⟨he, hb5⟩
    rw [HG.out] at he
    subst he
    obtain ⟨z5, q5, f5⟩ := one_new (hb5.mono (B' := w4.heap.size + 1) (by simp))
    have X5 : Hid (Below (w4.heap.size + 1) (w4.alloc (.cells #[.int .i64 a4, .int .i64 b4, .string c4, .slice d4 e4 f4] 26)) w5) := hb5.mono (by simp)
    have B5 : Below (w.heap.size + 1) (w.alloc (.cells #[.int .i64 a, .int .i64 b, .string c, .slice d e f] 33)) w5 :=
      (H4.out.alloc (by have := H4.out.size; simp at this; omega) _).trans (hb5.mono (by have := H4.out.size; simp at this ⊢; omega))
    obtain ⟨z5', q5', f5'⟩ := one_new B5
    have H5 : Hid (Below (w.heap.size + 1) (w.alloc (.cells #[.int .i64 a, .int .i64 b, .string c, .slice d e f] 33)) w5) := B5
    have HV5 : Hid (RepV 0 w5 t (.agg #[.int .i64 a4, .int .i64 b4, .string c4, .slice d4 e4 f4])) := Below.repV (((Below.refl _ _).alloc (Nat.le_refl _) _).trans (hb5.mono (by simp))) HV4.out
    have HB5 : Hid (Below w.heap.size w w5) := (HB4.out.alloc HB4.out.size _).trans (hb5.mono (by have := HB4.out.size; simp; omega))
    clear hb5 B5
    cases bb
    all_goals
      go_wp2_with fail
      go_region_with (first
        | (go_at_call 15; refine (HT.out 0 _ _ ?_).mono ?_; exact (Below.repV HB5.out HV.out).drew; rintro e w6 ⟨v6, rfl, hb6, hv6⟩; obtain ⟨z6, q6, f6⟩ := one_new (X5.out.drew.trans (hb6.mono z5)))
        | (go_at_call 17; refine (eqT_all t 0 _ _ _ ?_ ?_).mono ?_; exact Below.repV hb6 HV5.out.drew; exact hv6.mono (Nat.zero_le _); rintro e w7 ⟨rfl, hb7⟩))
      all_goals
        have HB7 : Hid (Below w.heap.size w w7) := (HB5.out.drew.trans (hb6.mono HB5.out.size)).trans (hb7.mono (Nat.le_trans HB5.out.size hb6.size))
        clear hb6 hb7 hv6
        go_wp2_with fail
        go_ret
        exact ⟨rfl, HB7.out⟩
end Go.Proofs.Ytghfhlheenaacaa
