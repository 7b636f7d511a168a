/-
  What DrawAlloc answers.
-/
import Derived.Test.YtikedjdjfncgkaaAnA
namespace Go.Proofs.Ytikedjdjfncgkaa
open Go.RowKit
set_option linter.unusedVariables false

set_option maxHeartbeats 2000000 in
set_option maxRecDepth 100000 in
theorem drawAlloc_any (w : World) (ao : Option Addr) (len cap : Nat) (zs : List Int) (hr : IsRow w ao len cap zs) (hsm : len ≤ 1048576) :
    Calls Try.prog 10 #[.slice ao len cap] w fun e w' => ∃ (g M cc : Nat) (x : Int) (F : Nat → Int), e = .returned (.tuple #[.agg #[.slice (some ⟨g, 0, none⟩) M cc], .int .i64 x]) ∧ M ≤ 80 ∧ M ≤ cc ∧ Rd w' (some ⟨g, 0, none⟩) M F ∧ -1 ≤ x ∧ x ≤ 4001 ∧ Below w.heap.size w w' := by
  have HR : Hid (IsRow w ao len cap zs) := hr
  clear hr
  go_enter Try.func10, Try.ntmps10
  go_wp2_with fail
  have hb0 := (Below.refl w.heap.size w).alloc (Nat.le_refl _) (.cells #[.slice none 0 0] 26)
  refine (new_any _ ao len cap zs (HR.out.below hb0) hsm).mono ?_
  rintro e w1 ⟨rfl, hc1, hb1, hz1⟩
  have hz : (w.alloc (.cells #[.slice none 0 0] 26)).heap.size = w.heap.size + 1 := World.size_alloc _ _
  have q1 : w1.cell? ⟨w.heap.size, 0, none⟩ = some (.slice none 0 0) := (hb1.cell (p := ⟨w.heap.size, 0, none⟩) (by rw [hz]; exact Nat.lt_succ_self _)).trans (World.cell?_alloc_new w _ _ 0)
  have f1 : w1.frozen? ⟨w.heap.size, 0, none⟩ = false := (hb1.frozen (p := ⟨w.heap.size, 0, none⟩) (by rw [hz]; exact Nat.lt_succ_self _)).trans (World.frozen?_alloc_new w _ _ 0)
  have HC1 : Hid (Cur (w.heap.size + 1) ao len cap zs w1) := by rw [hz] at hc1; exact hc1
  have HB1 : Hid (Below w.heap.size w w1 ∧ w1.heap.size = w.heap.size + 2) := ⟨hb0.trans (hb1.mono (by omega)), by omega⟩
  clear hb0 hb1 hc1 hz1
  rw [hz]
  clear hz
  go_wp2_with fail
  refine (l2Any_any (w.heap.size + 1) ao len cap zs _ HC1.out (by have := HB1.out.2; omega)).mono ?_
  rintro e w2 ⟨g, M, cc, rfl, hM, hcc, hg, ⟨F, hF, hF0, hF1⟩, hd2⟩
  have hs1 := HB1.out.2
  have q2 := hd2.2.cell (by omega) q1
  have f2 : w2.frozen? ⟨w.heap.size, 0, none⟩ = false := (hd2.2.frozen (b := w.heap.size) (o := 0) (by omega) (by omega)).trans f1
  have HB2 : Hid (Below w.heap.size w w2 ∧ w.heap.size + 2 ≤ w2.heap.size) := ⟨Turn.below HB1.out.1 (by omega) hd2.2 (by omega), by have := hd2.2.size; omega⟩
  have HF2 : Hid (Rd w2 (some ⟨g, 0, none⟩) M F ∧ w.heap.size + 2 ≤ g) := ⟨hF.rd, by omega⟩
  have HC2 : Hid (Cur (w.heap.size + 1) ao len cap zs w2) := hd2.1
  have HQ2 : Hid (w2.cell? ⟨w.heap.size, 0, none⟩ = some (.slice none 0 0) ∧ w2.frozen? ⟨w.heap.size, 0, none⟩ = false) := ⟨q2, f2⟩
  clear hd2 hF hF0 hF1 hg q1 f1 q2 f2 hs1
  go_wp2_with fail
  refine (int_any (w.heap.size + 1) ao len cap zs _ (HC2.out.alloc _) w2.heap.size [1, 2, 5, 9, 20, 0, 4001, -1] (by have := HB2.out.2; omega) (by simp) (by simp) ?_).mono ?_
  · exact news_ints w2 [1, 2, 5, 9, 20, 0, 4001, -1] _
  rintro e w3 ⟨x, rfl, hx, hd3⟩
  have hx1 : -1 ≤ x ∧ x ≤ 4001 := by
    simp only [List.mem_cons, List.not_mem_nil, or_false] at hx
    omega
  have HX : Hid (-1 ≤ x ∧ x ≤ 4001) := hx1
  have hbn := (Below.refl w2.heap.size w2).alloc (Nat.le_refl _) (.cells #[.int .i64 1, .int .i64 2, .int .i64 5, .int .i64 9, .int .i64 20, .int .i64 0, .int .i64 4001, .int .i64 (-1)] 3)
  have hl2 := World.block_lt_of_cell? _ _ HQ2.out.1
  have q3 : w3.cell? ⟨w.heap.size, 0, none⟩ = some (.slice none 0 0) := hd3.2.cell (by omega) ((hbn.cell (p := ⟨w.heap.size, 0, none⟩) hl2).trans HQ2.out.1)
  have f3 : w3.frozen? ⟨w.heap.size, 0, none⟩ = false := (hd3.2.frozen (b := w.heap.size) (o := 0) (by omega) (by have := hbn.size; exact Nat.lt_of_lt_of_le hl2 this)).trans ((hbn.frozen (p := ⟨w.heap.size, 0, none⟩) hl2).trans HQ2.out.2)
  have HB3 : Hid (Below w.heap.size w w3 ∧ Rd w3 (some ⟨g, 0, none⟩) M F) := by
    have h1 := HB2.out.1.alloc HB2.out.1.size (.cells #[.int .i64 1, .int .i64 2, .int .i64 5, .int .i64 9, .int .i64 20, .int .i64 0, .int .i64 4001, .int .i64 (-1)] 3)
    refine ⟨Turn.below h1 h1.size hd3.2 (by omega), fun hn => ?_⟩
    obtain ⟨b', o', e', hc'⟩ := HF2.out.1.below hbn hn
    cases e'
    exact ⟨g, 0, rfl, fun j hj => hd3.2.cell (by have := HF2.out.2; omega) (hc' j hj)⟩
  clear hx hx1 hd3 hbn hl2 HQ2
  go_wp2_with fail
  refine bodyPost_ret (v := .tuple #[.agg #[.slice (some ⟨g, 0, none⟩) M cc], .int .i64 x]) (by simp [results, Try.results10, go_sem, q3]) rfl ⟨g, M, cc, x, F, rfl, hM, hcc, fun hn => ?_, HX.out.1, HX.out.2, HB3.out.1.setCell (Nat.le_refl _) _⟩
  obtain ⟨b', o', e', hc'⟩ := HB3.out.2 hn
  cases e'
  exact ⟨g, 0, rfl, fun j hj => ((Turn.refl w.heap.size _).set 0 _).cell (by have := HF2.out.2; omega) (hc' j hj)⟩
end Go.Proofs.Ytikedjdjfncgkaa
