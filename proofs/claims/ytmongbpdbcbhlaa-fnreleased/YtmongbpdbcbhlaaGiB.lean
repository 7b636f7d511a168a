/-
  The program's give: what the whole row is then.
-/
import Derived.Test.YtmongbpdbcbhlaaGiA
import Derived.Test.YtmongbpdbcbhlaaUaA
namespace Go.Proofs.Ytmongbpdbcbhlaa
open Go.RowKit
set_option linter.unusedVariables false

set_option maxHeartbeats 4000000 in
set_option maxRecDepth 100000 in
theorem give_row (g T p n x : Nat) (u : Bool) (f : Nat → Int) (w : World) (hI : Ints w g 0 T f) (hx : 1 ≤ x) (hxn : x ≤ n) (hT : p + n + 3 ≤ T) (hm : T ≤ 4000) :
    Calls Try.prog 40 #[.slice (some ⟨g, 0, none⟩) T T, .agg #[.int .i64 p, .int .i64 n, .bool u], .int .i64 x] w fun e w' => (∃ v, e = .returned v) ∧ Turn g w w' ∧ Ints w' g 0 T (allocF f p n x) := by
  have HI : Hid (Ints w g 0 T f) := hI
  have hlt : g < w.heap.size := hI.lt (by omega)
  clear hI
  obtain ⟨E, hE⟩ : ∃ E : Nat, E = p + n + 3 := ⟨_, rfl⟩
  obtain ⟨C, hC⟩ : ∃ C : Nat, C = p + x + 3 := ⟨_, rfl⟩
  have HE : Hid (E = p + n + 3 ∧ C = p + x + 3) := ⟨hE, hC⟩
  have hbA := (Below.refl w.heap.size w).alloc (Nat.le_refl _) (.cells #[.int .i64 p, .int .i64 n, .bool u] 54)
  have q0 : (w.alloc (.cells #[.int .i64 p, .int .i64 n, .bool u] 54)).cell? ⟨w.heap.size, 0, none⟩ = some (.int .i64 p) := World.cell?_alloc_new w _ _ 0
  have q1 : (w.alloc (.cells #[.int .i64 p, .int .i64 n, .bool u] 54)).cell? ⟨w.heap.size, 1, none⟩ = some (.int .i64 n) := World.cell?_alloc_new w _ _ 1
  have q2 : (w.alloc (.cells #[.int .i64 p, .int .i64 n, .bool u] 54)).cell? ⟨w.heap.size, 2, none⟩ = some (.bool u) := World.cell?_alloc_new w _ _ 2
  have HW : Hid (Turn g w (w.alloc (.cells #[.int .i64 p, .int .i64 n, .bool u] 54)) ∧ Ints (w.alloc (.cells #[.int .i64 p, .int .i64 n, .bool u] 54)) g 0 T f ∧ g ≠ w.heap.size) := ⟨Turn.of_below hbA, HI.out.below hbA hlt, by omega⟩
  have V1 : IntKind.i64.wrap ((p : Int) + x) = (p : Int) + x := by rw [IntKind.wrap_i64]; omega
  have V2 : IntKind.i64.wrap ((p : Int) + x + 3) = (C : Int) := by rw [IntKind.wrap_i64]; omega
  have V3 : IntKind.i64.wrap ((E : Int) - C) = (n : Int) - x := by rw [IntKind.wrap_i64]; omega
  have hcA : inA (C : Int) = true := by simp [inA]; omega
  clear hbA
  go_enter Try.func40, Try.ntmps40
  go_wp2_with fail
  generalize (w.alloc (.cells #[.int .i64 p, .int .i64 n, .bool u] 54)) = W at HW q0 q1 q2 ⊢
  generalize w.heap.size = X at HW q0 q1 q2 ⊢
  have HN : Hid (∀ y : Inn W, Calls Try.prog 32 #[.agg #[.int .i64 p, .int .i64 n, .bool u]] y.val fun e w' => e = .returned (.int .i64 E) ∧ Below y.val.heap.size y.val w') := fun y => by
    have h := end_any p n u (by omega) (by omega) y.val
    rw [← hE] at h
    exact h
  have k0 := Inn.keep q0
  have k1 := Inn.keep q1
  have k2 := Inn.keep q2
  haveI := inn_ne W
  clear hE hC
  refine wp_region_inn ?_ ?_ ?_
  · kernel_rfl
  · kernel_rfl
  repeat (go_big_quiet_step (first
    | (go_at_call 32; exact calls_inn (HN.out _))))
  refine wpQuiet_nil ?_
  rintro w1 ⟨y1, h1⟩
  have hb1 : Below W.heap.size W w1 := by rw [h1]; exact y1.bel
  have c0 := (hb1.cell (p := ⟨X, 0, none⟩) (World.block_lt_of_cell? _ _ q0)).trans q0
  have HW1 : Hid (Turn g w w1 ∧ Ints w1 g 0 T f ∧ g ≠ X) := ⟨HW.out.1.trans (Turn.of_below hb1), HW.out.2.1.below hb1 (HW.out.2.1.lt (by omega)), HW.out.2.2⟩
  clear h1 hb1 y1 k0 k1 k2 HN HW q0 q1 q2
  have b1 : (C : Int) ≤ E := by have := HE.out; omega
  have b2 : (E : Int) ≤ T := by have := HE.out; omega
  have b3 : (p : Int) ≤ C := by have := HE.out; omega
  have b4 : (p : Int) ≤ E := by have := HE.out; omega
  have b5 : (C : Int) ≤ T := by have := HE.out; omega
  have b1' : C ≤ E := by omega
  have b2' : E ≤ T := by omega
  have b3' : p ≤ C := by omega
  have b4' : p ≤ E := by omega
  have b5' : C ≤ T := by omega
  have d1 : ¬ E = C ↔ x < n := by have := HE.out; omega
  have d2 : ¬ C = p := by have := HE.out; omega
  have d3 : ¬ E = p := by have := HE.out; omega
  by_cases hcut : x + 4 ≤ n
  · have V4 : (4 : Int) ≤ (n : Int) - x := by omega
    have d4 : ¬ E = C := d1.2 (by omega)
    go_wp2_with (go_at_call 31; refine (inArena_any _ _).mono ?_; rintro e w' ⟨rfl, rfl⟩)
    have hEC : E - C = (n - x - 3) + 3 := by have := HE.out; omega
    rw [hEC]
    refine (free_row g T C (n - x - 3) (n - x - 3 + 3) f _ HW1.out.2.1 (by omega) (by have := HE.out; omega) (by omega) (Nat.le_refl _)).mono ?_
    rintro e w2 ⟨⟨v, rfl⟩, ht2, hi2⟩
    have c2 := ht2.cell (Ne.symm HW1.out.2.2) c0
    have HW2 : Hid (Turn g w w2 ∧ Ints w2 g 0 T (layF f C (n - x - 3) false)) := ⟨HW1.out.1.trans ht2, hi2⟩
    have HF : Hid (∀ j, layF (layF f C (n - x - 3) false) p x true j = allocF f p n x j) := fun j => by
      unfold allocF
      rw [if_pos hcut, HE.out.2]
    clear ht2 hi2 hEC c0
    have hCp : C - p = x + 3 := by have := HE.out; omega
    have KU : Hid (∀ wy, wy = w2.drew → Calls Try.prog 69 #[.slice (some ⟨g, p, none⟩) (x + 3) (x + 3), .int .i64 p] wy fun e w' => (∃ v, e = .returned v) ∧ Turn g w2.drew w' ∧ Ints w' g 0 T (layF (layF f C (n - x - 3) false) p x true)) := fun wy e => by
      subst e
      exact use_row g T p x (x + 3) _ _ HW2.out.2.drew' hx (by have := HE.out; omega) (by omega) (Nat.le_refl _)
    go_wp2_with fail
    go_region_with (go_at_call 69; refine (KU.out _ rfl).mono ?_; rintro e w3 ⟨⟨v3, rfl⟩, ht3, hi3⟩; have HW3 : Hid (Turn g w2.drew w3 ∧ Ints w3 g 0 T (layF (layF f C (n - x - 3) false) p x true)) := ⟨ht3, hi3⟩; clear ht3 hi3)
    all_goals
      go_wp2_with fail
      go_end0
      exact ⟨⟨_, rfl⟩, (HW2.out.1.drew').trans HW3.out.1, HW3.out.2.congr fun j _ => HF.out j⟩
  · have V4 : ¬ (4 : Int) ≤ (n : Int) - x := by omega
    have HF : Hid (∀ j, layF f p n true j = allocF f p n x j) := fun j => by
      unfold allocF
      rw [if_neg hcut]
    have hEp : E - p = n + 3 := by have := HE.out; omega
    have KU : Hid (∀ wy, wy = w1.drew → Calls Try.prog 69 #[.slice (some ⟨g, p, none⟩) (n + 3) (n + 3), .int .i64 p] wy fun e w' => (∃ v, e = .returned v) ∧ Turn g w1.drew w' ∧ Ints w' g 0 T (layF f p n true)) := fun wy e => by
      subst e
      exact use_row g T p n (n + 3) _ _ HW1.out.2.1.drew' (by omega) (by have := HE.out; omega) (by omega) (Nat.le_refl _)
    go_wp2_with fail
    go_region_with (go_at_call 69; refine (KU.out _ rfl).mono ?_; rintro e w3 ⟨⟨v3, rfl⟩, ht3, hi3⟩; have HW3 : Hid (Turn g w1.drew w3 ∧ Ints w3 g 0 T (layF f p n true)) := ⟨ht3, hi3⟩; clear ht3 hi3)
    all_goals
      go_wp2_with fail
      go_end0
      exact ⟨⟨_, rfl⟩, (HW1.out.1.drew').trans HW3.out.1, HW3.out.2.congr fun j _ => HF.out j⟩
end Go.Proofs.Ytmongbpdbcbhlaa
