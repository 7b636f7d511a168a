/-
  What the program's WriteWord answers.
-/
import Derived.Test.YtikedjdjfncgkaaUaB
namespace Go.Proofs.Ytikedjdjfncgkaa
open Go.RowKit Go.Shelf
set_option linter.unusedVariables false
attribute [local go_sem] Oper.semAt_some

set_option maxHeartbeats 1000000 in
theorem write_yes (ao : Option Addr) (N cap : Nat) (f : Nat → Int) (p n i : Nat) (v : Int) (w : World) (hr : Rd w ao N f) (hN : N ≤ 1048576) (hcap : N ≤ cap) (hB : blkO f N p = some (n, true)) (hno : ∀ b ∈ bk f N 0, ¬ (b.1 < p ∧ p < b.1 + b.2.1 + 3)) (hi : i < n) :
    Calls Try.prog 39 #[.agg #[.slice ao N cap], .int .i64 p, .int .i64 i, .int .i64 v] w fun e w' => ∃ g, e = .returned (.tuple #[.agg #[.slice (some ⟨g, 0, none⟩) N N], .bool true]) ∧ w.heap.size ≤ g ∧ g < w'.heap.size ∧ Ints w' g 0 N (upd f (p + 2 + i) v) ∧ Below w.heap.size w w' := by
  have hfit := (blkO_of hB).fit
  have HR : Hid (Rd w ao N f) := hr
  have HU : Hid (∀ w', Below w.heap.size w w' → Calls Try.prog 57 #[.agg #[.slice ao N cap], .int .i64 p, .int .i64 i] w' fun e w'' => e = .returned (.tuple #[.int .i64 ((p : Int) + 2 + i), .bool true]) ∧ Below w'.heap.size w' w'') := fun w' h => held_yes _ N cap f p n i w' (hr.below h) hN hcap hB hno hi
  clear hr hB hno
  go_enter Try.func39, Try.ntmps39
  go_wp2_with fail
  have hbA : Below w.heap.size w ((w.alloc (.cells #[.slice ao N cap] 26)).alloc (.cells #[.slice none 0 0] 26)) := ((Below.refl _ w).alloc (Nat.le_refl _) _).alloc (by simp) _
  have q0 : ((w.alloc (.cells #[.slice ao N cap] 26)).alloc (.cells #[.slice none 0 0] 26)).cell? ⟨w.heap.size, 0, none⟩ = some (.slice ao N cap) := by
    have h0 := World.cell?_alloc_new w #[.slice ao N cap] 26 0
    exact (((Below.refl _ (w.alloc (.cells #[.slice ao N cap] 26))).alloc (Nat.le_refl _) (.cells #[.slice none 0 0] 26)).cell (p := ⟨w.heap.size, 0, none⟩) (World.block_lt_of_cell? _ _ h0)).trans h0
  have q1 : ((w.alloc (.cells #[.slice ao N cap] 26)).alloc (.cells #[.slice none 0 0] 26)).cell? ⟨w.heap.size + 1, 0, none⟩ = some (.slice none 0 0) := by
    have a1 := World.cell?_alloc_new (w.alloc (.cells #[.slice ao N cap] 26)) #[.slice none 0 0] 26 0
    rw [World.size_alloc] at a1
    exact a1
  have q2 : ((w.alloc (.cells #[.slice ao N cap] 26)).alloc (.cells #[.slice none 0 0] 26)).frozen? ⟨w.heap.size + 1, 0, none⟩ = false := by
    have a2 := World.frozen?_alloc_new (w.alloc (.cells #[.slice ao N cap] 26)) #[.slice none 0 0] 26 0
    rw [World.size_alloc] at a2
    exact a2
  have hz : ((w.alloc (.cells #[.slice ao N cap] 26)).alloc (.cells #[.slice none 0 0] 26)).heap.size = w.heap.size + 1 + 1 := by simp
  refine (own_any ao N cap f _ (HR.out.below hbA) hN).mono ?_
  rintro e w1 ⟨g, rfl, hg1, hg2, hI, hb1⟩
  have c0 := (hb1.cell (p := ⟨w.heap.size, 0, none⟩) (World.block_lt_of_cell? _ _ q0)).trans q0
  have c1 := (hb1.cell (p := ⟨w.heap.size + 1, 0, none⟩) (World.block_lt_of_cell? _ _ q1)).trans q1
  have c2 := (hb1.frozen (p := ⟨w.heap.size + 1, 0, none⟩) (World.block_lt_of_cell? _ _ q1)).trans q2
  rw [hz] at hg1
  have hb2 := below_join hbA hb1
  clear hbA hb1 q0 q1 q2 hz
  have hbC : Below w1.heap.size w1 (w1.alloc (.cells #[.slice (some ⟨g, 0, none⟩) N N] 26)) := (Below.refl _ _).alloc (Nat.le_refl _) _
  have d0 := (hbC.cell (p := ⟨w.heap.size, 0, none⟩) (World.block_lt_of_cell? _ _ c0)).trans c0
  have d1 := (hbC.cell (p := ⟨w.heap.size + 1, 0, none⟩) (World.block_lt_of_cell? _ _ c1)).trans c1
  have d2 := (hbC.frozen (p := ⟨w.heap.size + 1, 0, none⟩) (World.block_lt_of_cell? _ _ c1)).trans c2
  have dB : (w1.alloc (.cells #[.slice (some ⟨g, 0, none⟩) N N] 26)).cell? ⟨w1.heap.size, 0, none⟩ = some (.slice (some ⟨g, 0, none⟩) N N) := World.cell?_alloc_new w1 _ _ 0
  have hsz : w1.heap.size < (w1.alloc (.cells #[.slice (some ⟨g, 0, none⟩) N N] 26)).heap.size := World.block_lt_of_cell? _ _ dB
  have hI2 := hI.below hbC hg2
  have hb3 := below_join hb2 hbC
  have hk := (World.block_lt_of_cell? _ _ c1)
  have HB : Hid (Below w.heap.size w (w1.alloc (.cells #[.slice (some ⟨g, 0, none⟩) N N] 26)) ∧ Ints (w1.alloc (.cells #[.slice (some ⟨g, 0, none⟩) N N] 26)) g 0 N f ∧ w.heap.size + 1 + 1 ≤ g ∧ g < w1.heap.size ∧ w1.heap.size < (w1.alloc (.cells #[.slice (some ⟨g, 0, none⟩) N N] 26)).heap.size ∧ (w1.alloc (.cells #[.slice (some ⟨g, 0, none⟩) N N] 26)).cell? ⟨w1.heap.size, 0, none⟩ = some (.slice (some ⟨g, 0, none⟩) N N) ∧ (w1.alloc (.cells #[.slice (some ⟨g, 0, none⟩) N N] 26)).cell? ⟨w.heap.size + 1, 0, none⟩ = some (.slice none 0 0) ∧ (w1.alloc (.cells #[.slice (some ⟨g, 0, none⟩) N N] 26)).frozen? ⟨w.heap.size + 1, 0, none⟩ = false) := ⟨hb3, hI2, hg1, hg2, hsz, dB, d1, d2⟩
  clear hb2 hI hg1 hg2 c0 c1 c2 hbC d1 d2 dB hsz hI2 hb3 hk
  go_wp2_with fail
  refine (HU.out _ HB.out.1).mono ?_
  rintro e w4 ⟨rfl, hb4⟩
  obtain ⟨h1, h2, h3, h4, h5, h6, h7, h8⟩ := HB.out
  have e6 := (hb4.cell (p := ⟨w1.heap.size, 0, none⟩) (World.block_lt_of_cell? _ _ h6)).trans h6
  have e7 := (hb4.cell (p := ⟨w.heap.size + 1, 0, none⟩) (World.block_lt_of_cell? _ _ h7)).trans h7
  have e8 := (hb4.frozen (p := ⟨w.heap.size + 1, 0, none⟩) (World.block_lt_of_cell? _ _ h7)).trans h8
  have hI4 := h2.below hb4 (by omega)
  have hx := hI4.cell (p + 2 + i) (by omega)
  have hy := hI4.free (p + 2 + i)
  rw [Nat.zero_add] at hx
  have hs4 := hb4.size
  have hn1 : g ≠ w1.heap.size := by omega
  have hn2 : g ≠ w.heap.size + 1 := by omega
  have HD : Hid (Below w.heap.size w w4 ∧ Ints w4 g 0 N f ∧ w.heap.size + 1 + 1 ≤ g ∧ g < w4.heap.size) := ⟨below_join h1 hb4, hI4, h3, by omega⟩
  have V1 : ((p : Int) + 2 + i).toNat = p + 2 + i := by omega
  have V2 : (0 : Int) ≤ (p : Int) + 2 + i := by omega
  have V3 : (p : Int) + 2 + i < N := by omega
  clear HB h1 h2 h3 h4 h5 h6 h7 h8 hb4 hI4 hs4 d0
  go_wp2_with fail
  have hgw := HD.out.2.2.1
  have hI5 := HD.out.2.1.set (p + 2 + i) (by omega) v
  rw [Nat.zero_add] at hI5
  refine bodyPost_ret (v := .tuple #[.agg #[.slice (some ⟨g, 0, none⟩) N N], .bool true]) (by simp [results, Try.results39, go_sem, e7]) rfl ⟨g, rfl, by omega, by rw [World.size_setCell, World.size_setCell]; exact HD.out.2.2.2, hI5.turn ((Turn.refl (w.heap.size + 1) _).set 0 _) (by omega) (by rw [World.size_setCell]; exact HD.out.2.2.2), ?_⟩
  exact (HD.out.1.setCell (p := ⟨g, p + 2 + i, none⟩) (by show w.heap.size ≤ g; omega) _).setCell (p := ⟨w.heap.size + 1, 0, none⟩) (by show w.heap.size ≤ w.heap.size + 1; omega) _

set_option maxHeartbeats 1000000 in
/-- Where heldAt says no the arena's words are as they were. -/
theorem write_no (ao : Option Addr) (N cap : Nat) (f : Nat → Int) (x i v : Int) (w : World) (hr : Rd w ao N f) (hN : N ≤ 1048576) (hcap : N ≤ cap)
    (hh : ∀ w', Below w.heap.size w w' → Calls Try.prog 57 #[.agg #[.slice ao N cap], .int .i64 x, .int .i64 i] w' fun e w'' => e = .returned (.tuple #[.int .i64 0, .bool false]) ∧ Below w'.heap.size w' w'') :
    Calls Try.prog 39 #[.agg #[.slice ao N cap], .int .i64 x, .int .i64 i, .int .i64 v] w fun e w' => ∃ g, e = .returned (.tuple #[.agg #[.slice (some ⟨g, 0, none⟩) N N], .bool false]) ∧ w.heap.size ≤ g ∧ g < w'.heap.size ∧ Ints w' g 0 N f ∧ Below w.heap.size w w' := by
  have HR : Hid (Rd w ao N f) := hr
  have HU : Hid (∀ w', Below w.heap.size w w' → Calls Try.prog 57 #[.agg #[.slice ao N cap], .int .i64 x, .int .i64 i] w' fun e w'' => e = .returned (.tuple #[.int .i64 0, .bool false]) ∧ Below w'.heap.size w' w'') := hh
  clear hr hh
  go_enter Try.func39, Try.ntmps39
  go_wp2_with fail
  have hbA : Below w.heap.size w ((w.alloc (.cells #[.slice ao N cap] 26)).alloc (.cells #[.slice none 0 0] 26)) := ((Below.refl _ w).alloc (Nat.le_refl _) _).alloc (by simp) _
  have q0 : ((w.alloc (.cells #[.slice ao N cap] 26)).alloc (.cells #[.slice none 0 0] 26)).cell? ⟨w.heap.size, 0, none⟩ = some (.slice ao N cap) := by
    have h0 := World.cell?_alloc_new w #[.slice ao N cap] 26 0
    exact (((Below.refl _ (w.alloc (.cells #[.slice ao N cap] 26))).alloc (Nat.le_refl _) (.cells #[.slice none 0 0] 26)).cell (p := ⟨w.heap.size, 0, none⟩) (World.block_lt_of_cell? _ _ h0)).trans h0
  have q1 : ((w.alloc (.cells #[.slice ao N cap] 26)).alloc (.cells #[.slice none 0 0] 26)).cell? ⟨w.heap.size + 1, 0, none⟩ = some (.slice none 0 0) := by
    have a1 := World.cell?_alloc_new (w.alloc (.cells #[.slice ao N cap] 26)) #[.slice none 0 0] 26 0
    rw [World.size_alloc] at a1
    exact a1
  have q2 : ((w.alloc (.cells #[.slice ao N cap] 26)).alloc (.cells #[.slice none 0 0] 26)).frozen? ⟨w.heap.size + 1, 0, none⟩ = false := by
    have a2 := World.frozen?_alloc_new (w.alloc (.cells #[.slice ao N cap] 26)) #[.slice none 0 0] 26 0
    rw [World.size_alloc] at a2
    exact a2
  have hz : ((w.alloc (.cells #[.slice ao N cap] 26)).alloc (.cells #[.slice none 0 0] 26)).heap.size = w.heap.size + 1 + 1 := by simp
  refine (own_any ao N cap f _ (HR.out.below hbA) hN).mono ?_
  rintro e w1 ⟨g, rfl, hg1, hg2, hI, hb1⟩
  have c0 := (hb1.cell (p := ⟨w.heap.size, 0, none⟩) (World.block_lt_of_cell? _ _ q0)).trans q0
  have c1 := (hb1.cell (p := ⟨w.heap.size + 1, 0, none⟩) (World.block_lt_of_cell? _ _ q1)).trans q1
  have c2 := (hb1.frozen (p := ⟨w.heap.size + 1, 0, none⟩) (World.block_lt_of_cell? _ _ q1)).trans q2
  rw [hz] at hg1
  have hb2 := below_join hbA hb1
  clear hbA hb1 q0 q1 q2 hz
  have hbC : Below w1.heap.size w1 (w1.alloc (.cells #[.slice (some ⟨g, 0, none⟩) N N] 26)) := (Below.refl _ _).alloc (Nat.le_refl _) _
  have d0 := (hbC.cell (p := ⟨w.heap.size, 0, none⟩) (World.block_lt_of_cell? _ _ c0)).trans c0
  have d1 := (hbC.cell (p := ⟨w.heap.size + 1, 0, none⟩) (World.block_lt_of_cell? _ _ c1)).trans c1
  have d2 := (hbC.frozen (p := ⟨w.heap.size + 1, 0, none⟩) (World.block_lt_of_cell? _ _ c1)).trans c2
  have dB : (w1.alloc (.cells #[.slice (some ⟨g, 0, none⟩) N N] 26)).cell? ⟨w1.heap.size, 0, none⟩ = some (.slice (some ⟨g, 0, none⟩) N N) := World.cell?_alloc_new w1 _ _ 0
  have hsz : w1.heap.size < (w1.alloc (.cells #[.slice (some ⟨g, 0, none⟩) N N] 26)).heap.size := World.block_lt_of_cell? _ _ dB
  have hI2 := hI.below hbC hg2
  have hb3 := below_join hb2 hbC
  have hk := (World.block_lt_of_cell? _ _ c1)
  have HB : Hid (Below w.heap.size w (w1.alloc (.cells #[.slice (some ⟨g, 0, none⟩) N N] 26)) ∧ Ints (w1.alloc (.cells #[.slice (some ⟨g, 0, none⟩) N N] 26)) g 0 N f ∧ w.heap.size + 1 + 1 ≤ g ∧ g < w1.heap.size ∧ w1.heap.size < (w1.alloc (.cells #[.slice (some ⟨g, 0, none⟩) N N] 26)).heap.size ∧ (w1.alloc (.cells #[.slice (some ⟨g, 0, none⟩) N N] 26)).cell? ⟨w1.heap.size, 0, none⟩ = some (.slice (some ⟨g, 0, none⟩) N N) ∧ (w1.alloc (.cells #[.slice (some ⟨g, 0, none⟩) N N] 26)).cell? ⟨w.heap.size + 1, 0, none⟩ = some (.slice none 0 0) ∧ (w1.alloc (.cells #[.slice (some ⟨g, 0, none⟩) N N] 26)).frozen? ⟨w.heap.size + 1, 0, none⟩ = false) := ⟨hb3, hI2, hg1, hg2, hsz, dB, d1, d2⟩
  clear hb2 hI hg1 hg2 c0 c1 c2 hbC d1 d2 dB hsz hI2 hb3 hk
  go_wp2_with fail
  refine (HU.out _ HB.out.1).mono ?_
  rintro e w4 ⟨rfl, hb4⟩
  obtain ⟨h1, h2, h3, h4, h5, h6, h7, h8⟩ := HB.out
  have e6 := (hb4.cell (p := ⟨w1.heap.size, 0, none⟩) (World.block_lt_of_cell? _ _ h6)).trans h6
  have e7 := (hb4.cell (p := ⟨w.heap.size + 1, 0, none⟩) (World.block_lt_of_cell? _ _ h7)).trans h7
  have e8 := (hb4.frozen (p := ⟨w.heap.size + 1, 0, none⟩) (World.block_lt_of_cell? _ _ h7)).trans h8
  have hI4 := h2.below hb4 (by omega)
  have hs4 := hb4.size
  have hn1 : g ≠ w1.heap.size := by omega
  have hn2 : g ≠ w.heap.size + 1 := by omega
  have HD : Hid (Below w.heap.size w w4 ∧ Ints w4 g 0 N f ∧ w.heap.size + 1 + 1 ≤ g ∧ g < w4.heap.size) := ⟨below_join h1 hb4, hI4, h3, by omega⟩
  clear HB h1 h2 h3 h4 h5 h6 h7 h8 hb4 hI4 hs4 d0
  go_wp2_with fail
  refine bodyPost_ret (v := .tuple #[.agg #[.slice (some ⟨g, 0, none⟩) N N], .bool false]) (by simp [results, Try.results39, go_sem, e7]) rfl ⟨g, rfl, by have := HD.out.2.2.1; omega, by rw [World.size_setCell]; exact HD.out.2.2.2, HD.out.2.1.turn ((Turn.refl (w.heap.size + 1) _).set 0 _) (by omega) HD.out.2.2.2, ?_⟩
  exact HD.out.1.setCell (p := ⟨w.heap.size + 1, 0, none⟩) (by show w.heap.size ≤ w.heap.size + 1; omega) _
end Go.Proofs.Ytikedjdjfncgkaa
