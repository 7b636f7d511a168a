/-
  What the program's usedAt answers where there is no used block; heldAt, ReadWord, WriteWord.
-/
import Derived.Test.YtikedjdjfncgkaaUaA
import Derived.Test.YtikedjdjfncgkaaOwA
namespace Go.Proofs.Ytikedjdjfncgkaa
open Go.RowKit Go.Shelf
set_option linter.unusedVariables false
attribute [local go_sem] Oper.semAt_some

set_option maxRecDepth 100000 in
set_option maxHeartbeats 4000000 in
theorem used_no (ao : Option Addr) (N cap : Nat) (f : Nat → Int) (x : Int) (w : World) (hr : Rd w ao N f) (hN : N ≤ 1048576) (hcap : N ≤ cap) (hB : ∀ n, blkI f N x ≠ some (n, true)) :
    Calls Try.prog 59 #[.agg #[.slice ao N cap], .int .i64 x] w fun e w' => e = .returned (.tuple #[.agg #[.int .i64 0, .int .i64 0, .bool false], .bool false]) ∧ Below w.heap.size w w' := by
  have HR : Hid (Rd w ao N f) := hr
  have HB : Hid (∀ n, blkI f N x ≠ some (n, true)) := hB
  clear hr hB
  refine (callsIn_wide (n := 8)).1 ?_
  refine callsIn_of_wp_marks Try.func59 rfl trivial ?_ rfl
  simp only [Try.ntmps59, List.size_toArray, List.length_cons, List.length_nil, Nat.reduceAdd, Nat.reduceSub, Array.replicate_succ, Array.replicate_zero, List.push_toArray, List.append_toArray, List.nil_append, List.cons_append]
  have HS0 : Hid (Below w.heap.size w ((((w.alloc (.cells #[.slice ao N cap] 26)).alloc (.cells #[.int .i64 x] 3)).alloc (.cells #[.int .i64 0, .int .i64 0, .bool false] 67)).alloc (.cells #[.bool false] 4)) ∧ Zer3 ((((w.alloc (.cells #[.slice ao N cap] 26)).alloc (.cells #[.int .i64 x] 3)).alloc (.cells #[.int .i64 0, .int .i64 0, .bool false] 67)).alloc (.cells #[.bool false] 4)) (w.heap.size + 1 + 1) ∧ Boxed ((((w.alloc (.cells #[.slice ao N cap] 26)).alloc (.cells #[.int .i64 x] 3)).alloc (.cells #[.int .i64 0, .int .i64 0, .bool false] 67)).alloc (.cells #[.bool false] 4)) (w.heap.size + 1 + 1 + 1) 4 (.bool false)) := by
    have q2 : Zer3 (((w.alloc (.cells #[.slice ao N cap] 26)).alloc (.cells #[.int .i64 x] 3)).alloc (.cells #[.int .i64 0, .int .i64 0, .bool false] 67)) ((w.alloc (.cells #[.slice ao N cap] 26)).alloc (.cells #[.int .i64 x] 3)).heap.size := World.alloc_heap_new _ _
    have q3 := Boxed.new (((w.alloc (.cells #[.slice ao N cap] 26)).alloc (.cells #[.int .i64 x] 3)).alloc (.cells #[.int .i64 0, .int .i64 0, .bool false] 67)) 4 (.bool false)
    have q2' := q2.below ((Below.refl _ _).alloc (Nat.le_refl _) (.cells #[.bool false] 4))
    simp only [World.size_alloc] at q2' q3
    exact ⟨((((Below.refl _ w).alloc (Nat.le_refl _) _).alloc (by simp) _).alloc (by simp; omega) _).alloc (by simp; omega) _, q2', q3⟩
  gi_wp2
  have hs := HS0.out
  clear HS0
  generalize ((((w.alloc (.cells #[.slice ao N cap] 26)).alloc (.cells #[.int .i64 x] 3)).alloc (.cells #[.int .i64 0, .int .i64 0, .bool false] 67)).alloc (.cells #[.bool false] 4)) = w0 at hs ⊢
  refine ⟨trivial, (callsIn_wide.2 (implAt_int ao N cap f x w0 (HR.out.below hs.1) hN hcap)).mono ?_⟩
  rintro e w1 ⟨rfl, hb1⟩
  have h2 := hs.2.1.below hb1
  have h3 := boxed_below' hs.2.2 hb1
  have HW1 : Hid (Below w.heap.size w w1) := below_join hs.1 hb1
  obtain ⟨z0, z1, z2, zf⟩ := h2.cells
  have c3 := h3.cell
  have f3 := h3.frozen
  clear hs hb1
  have hfin : ∀ V5, V5 = (((w1.setCell ⟨w.heap.size + 1 + 1, 0, none⟩ (.int .i64 0)).setCell ⟨w.heap.size + 1 + 1, 1, none⟩ (.int .i64 0)).setCell ⟨w.heap.size + 1 + 1, 2, none⟩ (.bool false)).setCell ⟨w.heap.size + 1 + 1 + 1, 0, none⟩ (.bool false) → (V5.cell? ⟨w.heap.size + 1 + 1, 0, none⟩ = some (.int .i64 0) ∧ V5.cell? ⟨w.heap.size + 1 + 1, 1, none⟩ = some (.int .i64 0) ∧ V5.cell? ⟨w.heap.size + 1 + 1, 2, none⟩ = some (.bool false) ∧ V5.cell? ⟨w.heap.size + 1 + 1 + 1, 0, none⟩ = some (.bool false)) ∧ Below w.heap.size w V5 := fun V5 e => by
    subst e
    exact ⟨four_sets w1 (w.heap.size + 1 + 1) (w.heap.size + 1 + 1 + 1) (by omega) _ _ _ _ z0 z1 z2 c3, (((HW1.out.setCell (p := ⟨w.heap.size + 1 + 1, 0, none⟩) (by show _ ≤ w.heap.size + 1 + 1; omega) _).setCell (p := ⟨w.heap.size + 1 + 1, 1, none⟩) (by show _ ≤ w.heap.size + 1 + 1; omega) _).setCell (p := ⟨w.heap.size + 1 + 1, 2, none⟩) (by show _ ≤ w.heap.size + 1 + 1; omega) _).setCell (p := ⟨w.heap.size + 1 + 1 + 1, 0, none⟩) (by show _ ≤ w.heap.size + 1 + 1 + 1; omega) _⟩
  have HFIN : Hid _ := hfin
  clear hfin
  cases hO : blkI f N x with
  | none =>
    dsimp only [bv]
    gi_wp2
    obtain ⟨⟨r0, r1, r2, r3⟩, hbl⟩ := HFIN.out _ rfl
    exact ⟨.tuple #[.agg #[.int .i64 0, .int .i64 0, .bool false], .bool false], by simp [results, Try.results59, go_sem, r0, r1, r2, r3], rfl, hbl⟩
  | some y =>
    obtain ⟨n, u⟩ := y
    cases u with
    | true => exact absurd hO (HB.out n)
    | false =>
      clear hO
      dsimp only [bv]
      gi_wp2
      obtain ⟨⟨r0, r1, r2, r3⟩, hbl⟩ := HFIN.out _ rfl
      exact ⟨.tuple #[.agg #[.int .i64 0, .int .i64 0, .bool false], .bool false], by simp [results, Try.results59, go_sem, r0, r1, r2, r3], rfl, hbl⟩

set_option maxHeartbeats 1000000 in
theorem held_yes (ao : Option Addr) (N cap : Nat) (f : Nat → Int) (p n i : Nat) (w : World) (hr : Rd w ao N f) (hN : N ≤ 1048576) (hcap : N ≤ cap) (hB : blkO f N p = some (n, true)) (hno : ∀ b ∈ bk f N 0, ¬ (b.1 < p ∧ p < b.1 + b.2.1 + 3)) (hi : i < n) :
    Calls Try.prog 57 #[.agg #[.slice ao N cap], .int .i64 p, .int .i64 i] w fun e w' => e = .returned (.tuple #[.int .i64 ((p : Int) + 2 + i), .bool true]) ∧ Below w.heap.size w w' := by
  have HU : Hid (∀ w', Below w.heap.size w w' → Calls Try.prog 59 #[.agg #[.slice ao N cap], .int .i64 p] w' fun e w'' => e = .returned (.tuple #[.agg #[.int .i64 p, .int .i64 n, .bool true], .bool true]) ∧ Below w'.heap.size w' w'') := fun w' h => used_yes ao N cap f p n w' (hr.below h) hN hcap hB hno
  have hp4 := (blkO_of hB).hp
  have hn4 := (blkO_of hB).hn
  clear hr hB hno
  go_enter Try.func57, Try.ntmps57
  go_wp2_with fail
  have hbA := (Below.refl w.heap.size w).alloc (Nat.le_refl _) (.cells #[.slice ao N cap] 26)
  refine (HU.out _ hbA).mono ?_
  rintro e w1 ⟨rfl, hb1⟩
  have HB1 : Hid (Below w.heap.size w w1) := below_join hbA hb1
  have V1 : IntKind.i64.wrap ((p : Int) + 2) = (p : Int) + 2 := by rw [IntKind.wrap_i64]; omega
  have V2 : IntKind.i64.wrap ((p : Int) + 2 + i) = (p : Int) + 2 + i := by rw [IntKind.wrap_i64]; omega
  have V3 : ¬ (i : Int) < 0 := by omega
  have V4 : ¬ (n : Int) ≤ i := by omega
  clear hbA hb1
  go_wp2_with fail
  go_ret2
  exact ⟨rfl, HB1.out.alloc HB1.out.size _⟩

/-- No i-th word of a used block there. -/
theorem held_no (ao : Option Addr) (N cap : Nat) (f : Nat → Int) (x i : Int) (w : World) (hr : Rd w ao N f) (hN : N ≤ 1048576) (hcap : N ≤ cap) (hB : ∀ n, blkI f N x ≠ some (n, true)) :
    Calls Try.prog 57 #[.agg #[.slice ao N cap], .int .i64 x, .int .i64 i] w fun e w' => e = .returned (.tuple #[.int .i64 0, .bool false]) ∧ Below w.heap.size w w' := by
  have HU : Hid (∀ w', Below w.heap.size w w' → Calls Try.prog 59 #[.agg #[.slice ao N cap], .int .i64 x] w' fun e w'' => e = .returned (.tuple #[.agg #[.int .i64 0, .int .i64 0, .bool false], .bool false]) ∧ Below w'.heap.size w' w'') := fun w' h => used_no ao N cap f x w' (hr.below h) hN hcap hB
  clear hr hB
  go_enter Try.func57, Try.ntmps57
  go_wp2_with fail
  have hbA := (Below.refl w.heap.size w).alloc (Nat.le_refl _) (.cells #[.slice ao N cap] 26)
  refine (HU.out _ hbA).mono ?_
  rintro e w1 ⟨rfl, hb1⟩
  have HB1 : Hid (Below w.heap.size w w1) := below_join hbA hb1
  clear hbA hb1
  go_wp2_with fail
  go_ret2
  exact ⟨rfl, HB1.out.alloc HB1.out.size _⟩
/-- A used block there, but no i-th word of it. -/
theorem held_out (ao : Option Addr) (N cap : Nat) (f : Nat → Int) (p n : Nat) (i : Int) (w : World) (hr : Rd w ao N f) (hN : N ≤ 1048576) (hcap : N ≤ cap) (hB : blkO f N p = some (n, true)) (hno : ∀ b ∈ bk f N 0, ¬ (b.1 < p ∧ p < b.1 + b.2.1 + 3)) (hi : i < 0 ∨ (n : Int) ≤ i) :
    Calls Try.prog 57 #[.agg #[.slice ao N cap], .int .i64 p, .int .i64 i] w fun e w' => e = .returned (.tuple #[.int .i64 0, .bool false]) ∧ Below w.heap.size w w' := by
  have HU : Hid (∀ w', Below w.heap.size w w' → Calls Try.prog 59 #[.agg #[.slice ao N cap], .int .i64 p] w' fun e w'' => e = .returned (.tuple #[.agg #[.int .i64 p, .int .i64 n, .bool true], .bool true]) ∧ Below w'.heap.size w' w'') := fun w' h => used_yes ao N cap f p n w' (hr.below h) hN hcap hB hno
  clear hr hB hno
  have hbA := (Below.refl w.heap.size w).alloc (Nat.le_refl _) (.cells #[.slice ao N cap] 26)
  by_cases h0 : i < 0
  · go_enter Try.func57, Try.ntmps57
    go_wp2_with fail
    refine (HU.out _ hbA).mono ?_
    rintro e w1 ⟨rfl, hb1⟩
    have HB1 : Hid (Below w.heap.size w w1) := below_join hbA hb1
    clear hbA hb1
    go_wp2_with fail
    go_ret2
    exact ⟨rfl, HB1.out.alloc HB1.out.size _⟩
  · have h1 : (n : Int) ≤ i := by omega
    clear hi
    go_enter Try.func57, Try.ntmps57
    go_wp2_with fail
    refine (HU.out _ hbA).mono ?_
    rintro e w1 ⟨rfl, hb1⟩
    have HB1 : Hid (Below w.heap.size w w1) := below_join hbA hb1
    clear hbA hb1
    go_wp2_with fail
    go_ret2
    exact ⟨rfl, HB1.out.alloc HB1.out.size _⟩
set_option maxHeartbeats 1000000 in
theorem read_yes (b o N cap : Nat) (f : Nat → Int) (p n i : Nat) (w : World) (hc : ∀ j, j < N → w.cell? ⟨b, o + j, none⟩ = some (.int .i64 (f j))) (hN : N ≤ 1048576) (hcap : N ≤ cap) (hB : blkO f N p = some (n, true)) (hno : ∀ b ∈ bk f N 0, ¬ (b.1 < p ∧ p < b.1 + b.2.1 + 3)) (hi : i < n) :
    Calls Try.prog 18 #[.agg #[.slice (some ⟨b, o, none⟩) N cap], .int .i64 p, .int .i64 i] w fun e w' => e = .returned (.tuple #[.int .i64 (f (p + 2 + i)), .bool true]) ∧ Below w.heap.size w w' := by
  have hfit := (blkO_of hB).fit
  have hr : Rd w (some ⟨b, o, none⟩) N f := fun _ => ⟨b, o, rfl, hc⟩
  have HU : Hid (∀ w', Below w.heap.size w w' → Calls Try.prog 57 #[.agg #[.slice (some ⟨b, o, none⟩) N cap], .int .i64 p, .int .i64 i] w' fun e w'' => e = .returned (.tuple #[.int .i64 ((p : Int) + 2 + i), .bool true]) ∧ Below w'.heap.size w' w'') := fun w' h => held_yes _ N cap f p n i w' (hr.below h) hN hcap hB hno hi
  have hlt : b < w.heap.size := World.block_lt_of_cell? w _ (hc 0 (by omega))
  have HC : Hid (w.cell? ⟨b, o + (p + 2 + i), none⟩ = some (.int .i64 (f (p + 2 + i)))) := hc _ (by omega)
  clear hr hB hno hc
  go_enter Try.func18, Try.ntmps18
  go_wp2_with fail
  have hbA := (Below.refl w.heap.size w).alloc (Nat.le_refl _) (.cells #[.slice (some ⟨b, o, none⟩) N cap] 26)
  have qA : (w.alloc (.cells #[.slice (some ⟨b, o, none⟩) N cap] 26)).cell? ⟨w.heap.size, 0, none⟩ = some (.slice (some ⟨b, o, none⟩) N cap) := World.cell?_alloc_new w _ _ 0
  refine (HU.out _ hbA).mono ?_
  rintro e w1 ⟨rfl, hb1⟩
  have HB1 : Hid (Below w.heap.size w w1) := below_join hbA hb1
  have c1 := (hb1.cell (p := ⟨w.heap.size, 0, none⟩) (World.block_lt_of_cell? _ _ qA)).trans qA
  have c2 := (HB1.out.cell (p := ⟨b, o + (p + 2 + i), none⟩) hlt).trans HC.out
  have V1 : ((p : Int) + 2 + i).toNat = p + 2 + i := by omega
  have V2 : (0 : Int) ≤ (p : Int) + 2 + i := by omega
  have V3 : (p : Int) + 2 + i < N := by omega
  obtain ⟨y, hy⟩ : ∃ y, f (p + 2 + i) = y := ⟨_, rfl⟩
  have HY : Hid (f (p + 2 + i) = y) := hy
  rw [hy] at c2
  clear hbA hb1 qA hy HC
  go_wp2_with fail
  go_ret2
  exact ⟨by rw [HY.out]; rfl, HB1.out⟩
end Go.Proofs.Ytikedjdjfncgkaa
