/-
  What the program's Alloc answers of an arena that is whole, where no words can be given: of a number that is out of form.
-/
import Derived.Test.YtmongbpdbcbhlaaAiA
namespace Go.Proofs.Ytmongbpdbcbhlaa
open Go.RowKit Go.Shelf
set_option linter.unusedVariables false
attribute [local go_sem] Oper.semAt_some

set_option maxRecDepth 100000 in
set_option maxHeartbeats 4000000 in
theorem alloc_form (ao : Option Addr) (N cap : Nat) (f : Nat → Int) (x : Int) (w : World) (hr : Rd w ao N f) (hN : N ≤ 1048576) (hcap : N ≤ cap) (hW : Whole f N) (hx : ¬ (1 ≤ x ∧ x ≤ 4000)) :
    Calls Try.prog 11 #[.agg #[.slice ao N cap], .int .i64 x] w fun e w' => ∃ g, e = .returned (.tuple #[.agg #[.slice (some ⟨g, 0, none⟩) N N], .int .i64 0, .int .i64 2]) ∧ w.heap.size ≤ g ∧ g < w'.heap.size ∧ Ints w' g 0 N f ∧ Below w.heap.size w w' := by
  have HR : Hid (Rd w ao N f) := hr
  have HW : Hid (Whole f N) := hW
  clear hr hW
  refine (callsIn_wide (n := 8)).1 ?_
  refine callsIn_of_wp_marks Try.func11 rfl trivial ?_ rfl
  simp only [Try.ntmps11, List.size_toArray, List.length_cons, List.length_nil, Nat.reduceAdd, Nat.reduceSub, Array.replicate_succ, Array.replicate_zero, List.push_toArray, List.append_toArray, List.nil_append, List.cons_append]
  have hB : Below w.heap.size w (((((w.alloc (.cells #[.slice ao N cap] 26)).alloc (.cells #[.int .i64 x] 3)).alloc (.cells #[.slice none 0 0] 26)).alloc (.cells #[.int .i64 0] 3)).alloc (.cells #[.int .i64 0] 3)) := (((((Below.refl _ w).alloc (Nat.le_refl _) _).alloc (by simp) _).alloc (by simp; omega) _).alloc (by simp; omega) _).alloc (by simp; omega) _
  have HRB : Hid (Rd (((((w.alloc (.cells #[.slice ao N cap] 26)).alloc (.cells #[.int .i64 x] 3)).alloc (.cells #[.slice none 0 0] 26)).alloc (.cells #[.int .i64 0] 3)).alloc (.cells #[.int .i64 0] 3)) ao N f) := HR.out.below hB
  clear hB
  gi_wp2
  refine ⟨trivial, (callsIn_wide.2 (own_any ao N cap f _ HRB.out hN)).mono ?_⟩
  rintro e w1 ⟨g, rfl, hg, hl, hi, hb⟩
  have hs := AbS.start hb hg hl hi
  have HS : Hid (AbS w (w1.alloc (.cells #[.slice (some ⟨g, 0, none⟩) N N] 26)) ao N cap x w1.heap.size g f) := hs
  have c0 := hs.b0.cell
  clear hs hg hl hi hb
  gi_wp2
  have hs := HS.out
  clear HS c0
  generalize (w1.alloc (.cells #[.slice (some ⟨g, 0, none⟩) N N] 26)) = w2 at hs ⊢
  generalize w1.heap.size = Bo at hs ⊢
  refine ⟨trivial, (callsIn_wide.2 (implAudit_any ao N cap f w2 (HR.out.below hs.below) hN hcap)).mono ?_⟩
  rintro e w3 ⟨rfl, hb3⟩
  have HS3 : Hid (AbS w w3 ao N cap x Bo g f) := hs.call hb3
  have hy : aud f N 0 false = -1 := HW.out
  have c1 := HS3.out.b1.cell
  have co := HS3.out.bo.cell
  have c2 := HS3.out.b2.cell
  have f2 := HS3.out.b2.frozen
  have c3 := HS3.out.b3.cell
  have f3 := HS3.out.b3.frozen
  have c4 := HS3.out.b4.cell
  have f4 := HS3.out.b4.frozen
  clear hs hb3
  rw [hy]
  clear hy
  by_cases hx1 : x < 1
  · gi_wp2
    obtain ⟨⟨r2, r3, r4⟩, hbl, hin, hlt⟩ := HS3.out.fin (.slice (some ⟨g, 0, none⟩) N N) (.int .i64 0) (.int .i64 2)
    refine ⟨.tuple #[.agg #[.slice (some ⟨g, 0, none⟩) N N], .int .i64 0, .int .i64 2], ?_, g, rfl, by have := HS3.out.l1; omega, hlt, hin, hbl⟩
    simp [results, Try.results11, go_sem, r2, r3, r4]
  · have hx2 : 4000 < x := by omega
    gi_wp2
    obtain ⟨⟨r2, r3, r4⟩, hbl, hin, hlt⟩ := HS3.out.fin (.slice (some ⟨g, 0, none⟩) N N) (.int .i64 0) (.int .i64 2)
    refine ⟨.tuple #[.agg #[.slice (some ⟨g, 0, none⟩) N N], .int .i64 0, .int .i64 2], ?_, g, rfl, by have := HS3.out.l1; omega, hlt, hin, hbl⟩
    simp [results, Try.results11, go_sem, r2, r3, r4]
end Go.Proofs.Ytmongbpdbcbhlaa
