/-
  TermOk, the specification's and the program's; and the walk of the law.
-/
import Derived.Test.YtabgfaafpgholaaTmC
import Derived.Test.YtabgfaafpgholaaTmD
import Derived.Test.YtabgfaafpgholaaTmH
namespace Go.Proofs.Ytabgfaafpgholaa
open Go.RowKit Atom
set_option linter.unusedVariables false

theorem RepV.form {B : Nat} {w : World} {t : Tm} {v : Value} (h : RepV B w t v) : ∃ a b c d e f, v = .agg #[.int .i64 a, .int .i64 b, .string c, .slice d e f] := by
  obtain ⟨k', n', s', l'⟩ := t
  obtain ⟨ao', cap', e', _⟩ := h
  exact ⟨_, _, _, _, _, _, e'⟩

set_option maxHeartbeats 400000 in
theorem specOk_any (t : Tm) (B : Nat) (w : World) (v : Value) (hv : RepV B w t v) :
    Calls Try.prog 40 #[v] w fun e w' => e = .returned (.bool (look t 6 100).isSome) ∧ Below w.heap.size w w' := by
  obtain ⟨a, b, c, d, e, f, rfl⟩ := hv.form
  have HV : Hid (RepV B w t (.agg #[.int .i64 a, .int .i64 b, .string c, .slice d e f])) := hv
  clear hv
  go_enter Try.func40, Try.ntmps40
  go_wp2_with fail
  refine (look_all t B _ _ 6 100 ((Keeps.below ?_ B).repV HV.out) (by omega) (by omega)).mono ?_
  · exact (Below.refl _ _).alloc (Nat.le_refl _) _
  rintro e w1 ⟨rfl, hb1⟩
  have HB1 : Hid (Below w.heap.size w w1) := ((Below.refl _ _).alloc (Nat.le_refl _) _).trans (hb1.mono (by simp))
  clear hb1
  generalize ho : look t 6 100 = o
  have HO : Hid (look t 6 100 = o) := ho
  clear ho
  cases o with
  | none =>
    simp only [lookI]
    go_wp2_with fail
    go_ret
    exact ⟨ret_bool (by rw [HO.out]; rfl), HB1.out⟩
  | some x =>
    simp only [lookI]
    have hx : (0 : Int) ≤ (x : Int) := by omega
    go_wp2_with fail
    go_ret
    exact ⟨ret_bool (by rw [HO.out]; simp), HB1.out⟩

set_option maxHeartbeats 400000 in
theorem implOk_any (t : Tm) (B : Nat) (w : World) (v : Value) (hv : RepV B w t v) :
    Calls Try.prog 94 #[v] w fun e w' => e = .returned (.bool (look t 6 100).isSome) ∧ Below w.heap.size w w' := by
  obtain ⟨a, b, c, d, e, f, rfl⟩ := hv.form
  have HV : Hid (RepV B w t (.agg #[.int .i64 a, .int .i64 b, .string c, .slice d e f])) := hv
  clear hv
  go_enter Try.func94, Try.ntmps94
  go_wp2_with fail
  refine (spend_all t B _ _ 6 100 ((Keeps.below ?_ B).repV HV.out) (by omega) (by omega)).mono ?_
  · exact (Below.refl _ _).alloc (Nat.le_refl _) _
  rintro e w1 ⟨rfl, hb1⟩
  have HB1 : Hid (Below w.heap.size w w1) := ((Below.refl _ _).alloc (Nat.le_refl _) _).trans (hb1.mono (by simp))
  clear hb1
  go_wp2_with fail
  go_ret
  exact ⟨rfl, HB1.out⟩

theorem Below.repV {w w' : World} {B : Nat} {t : Tm} {v : Value} (h : Below w.heap.size w w') (hv : RepV B w t v) : RepV B w' t v := (Keeps.below h B).repV hv

end Go.Proofs.Ytabgfaafpgholaa
