/-
  How the specification puts a term: all of them.
-/
import Derived.Test.YthdoamdjhpkimaaPuF
namespace Go.Proofs.Ythdoamdjhpkimaa
open Go.RowKit
set_option linter.unusedVariables false

set_option maxHeartbeats 4000000 in
set_option maxRecDepth 100000 in
theorem put_5 (n : Int) (s : ByteArray) (l : List Tm) (ih : ∀ t, t ∈ l → PutC t) : PutC (.mk 5 n s l) := by
  intro Z m w xs A v hps hv hK hx hA
  obtain ⟨ao, cap, rfl, hs, hlc, hcm, hr⟩ := hv
  have hb : Below w.heap.size w (w.alloc (.cells #[.int .i64 5, .int .i64 n, .string s, .slice ao l.length cap] 32)) := (Below.refl _ _).alloc (Nat.le_refl _) _
  have HF : Hid (Fr Z m w (w.alloc (.cells #[.int .i64 5, .int .i64 n, .string s, .slice ao l.length cap] 32))) := Fr.below hb
  have HC : Hid (Calls Try.prog 120 #[.pointer (some ⟨Z.wb, Z.wo, none⟩), .pointer (some ⟨Z.nb, 0, none⟩), .agg #[.int .i64 5, .int .i64 n, .string s, .slice ao l.length cap]] (w.alloc (.cells #[.int .i64 5, .int .i64 n, .string s, .slice ao l.length cap] 32)) (Put Z m (w.alloc (.cells #[.int .i64 5, .int .i64 n, .string s, .slice ao l.length cap] 32)) xs A (ptT (.mk 5 n s l) xs.length A) (ndT (.mk 5 n s l)) (nT (.mk 5 n s l)))) :=
    l5List_any n s l ih Z m _ xs A _ (hps.below hb) ⟨ao, cap, rfl, hs, hlc, hcm, (Moves.below hb).repL _ _ hr⟩ hK hx hA
  clear hps hr hK hx hA hb hs ih
  go_enter Try.func109, Try.ntmps109
  go_wp2_with (go_at_call 120; refine HC.out.mono ?_; rintro e w5 ⟨x, ok, m2, ns, A2, rfl, r1, r2, r3, r4, r5, r6⟩; have Q1 : Hid (PS Z m2 w5 (xs ++ ns) A2) := r1; have Q2 : Hid (Fr Z m w w5) := HF.out.trans (Mv.refl _ _) r2; have Q3 : Hid (Mv m m2 w.heap.size) := (Mv.refl m w.heap.size).trans r3 HF.out.size; have Q4 : Hid (ns.length = ndT (.mk 5 n s l)) := r4; have Q5 : Hid (A2.length ≤ A.length + nT (.mk 5 n s l)) := r5; have Q6 : Hid ((ok = true ∧ ptT (.mk 5 n s l) xs.length A = some (ns, A2, x)) ∨ (ok = false ∧ ptT (.mk 5 n s l) xs.length A = none)) := r6; clear r1 r2 r3 r4 r5 r6)
  go_ret2
  exact ⟨x, ok, m2, ns, A2, rfl, Q1.out, Q2.out, Q3.out, Q4.out, Q5.out, Q6.out⟩
theorem put_all : ∀ t, PutC t := Tm.ind fun k n s l ih => by
  intro Z m w xs A v hps hv hK hx hA
  have hsh : shapeB k n s l.length = true := by have := hK; rw [goodT] at this; exact this.1
  have hnil : (l.length : Int) = 0 → l = [] := fun h => List.eq_nil_of_length_eq_zero (by omega)
  by_cases k1 : k = 1
  · subst k1
    exact put_1 n s l (by simp [shapeB] at hsh; exact hsh.2) Z m w xs A v hps hv hK hx hA
  by_cases k2 : k = 2
  · subst k2
    exact put_2 n s l (by simp [shapeB] at hsh; exact hsh.2) Z m w xs A v hps hv hK hx hA
  by_cases k3 : k = 3
  · subst k3
    exact put_3 n s l (by simp [shapeB] at hsh; exact hsh.2) Z m w xs A v hps hv hK hx hA
  by_cases k4 : k = 4
  · subst k4
    exact put_4 n s l ih Z m w xs A v hps hv hK hx hA
  by_cases k5 : k = 5
  · subst k5
    exact put_5 n s l ih Z m w xs A v hps hv hK hx hA
  by_cases k6 : k = 6
  · subst k6
    exact put_6 n s l (by simp [shapeB] at hsh; exact hsh.2) Z m w xs A v hps hv hK hx hA
  · exfalso
    simp [shapeB, k1, k2, k3, k4, k5, k6] at hsh
end Go.Proofs.Ythdoamdjhpkimaa
