/-
  The program's new arena is the specification's; how the law compares, marks and holds a row of numbers.
-/
import Derived.Test.YtejhfoahpopeoaaArC
namespace Go.Proofs.Ytejhfoahpopeoaa
open Go.RowKit
set_option linter.unusedVariables false

theorem free_fresh (n : Nat) (h4 : 4 ≤ n) (j : Nat) (hj : j < n) : freeK (fun _ => 0) n 0 (n - 3) j = freshF n j := by
  unfold freeK freshF layF upd midF setF
  dsimp only
  by_cases h1 : j = n - 1
  · have a1 : ¬ (2 ≤ j ∧ j < n - 3 + 2) := by omega
    have a2 : ¬ j = 0 := by omega
    have a3 : ¬ j = 1 := by omega
    have a4 : j = 0 + 2 + (n - 3) := by omega
    rw [if_neg a1, if_neg a2, if_neg a3, if_pos h1, if_pos a4]
  · have a4 : ¬ j = 0 + 2 + (n - 3) := by omega
    rw [if_neg a4]
    by_cases h0 : j = 0
    · have a1 : ¬ (2 ≤ j ∧ j < n - 3 + 2) := by omega
      rw [if_neg a1, if_pos h0, if_pos h0]
    · rw [if_neg h0, if_neg h0]
      by_cases h2 : j = 1
      · have a1 : ¬ (2 ≤ j ∧ j < n - 3 + 2) := by omega
        have a5 : j = 0 + 1 := by omega
        rw [if_neg a1, if_pos h2, if_pos a5]
      · have a1 : 2 ≤ j ∧ j < n - 3 + 2 := by omega
        have a5 : ¬ j = 0 + 1 := by omega
        have a6 : 0 + 2 ≤ j ∧ j < 0 + 2 + (n - 3) := by omega
        rw [if_pos a1, if_neg a5, if_pos a6, Nat.zero_add]
        simp

set_option maxHeartbeats 1000000 in
set_option maxRecDepth 100000 in
theorem implNew_any (n : Nat) (h4 : 4 ≤ n) (hn : n ≤ 4000) (w : World) :
    Calls Try.prog 18 #[.int .i64 n] w fun e w' => ∃ g, e = .returned (.agg #[.slice (some ⟨g, 0, none⟩) n n]) ∧ w.heap.size ≤ g ∧ Below w.heap.size w w' ∧ Ints w' g 0 n (freshF n) := by
  have hmk := run_ints n (by omega)
  go_enter Try.func18, Try.ntmps18
  go_wp2_with fail
  clear hmk
  have hI : Ints (((w.alloc (.cells #[.slice none 0 0] 26)).alloc (.cells (madeCells #[.int .i64 0] n) 3)).alloc (.cells #[.slice (some ⟨w.heap.size + 1, 0, none⟩) n n] 26)) (w.heap.size + 1) 0 n (fun _ => 0) := by
    have h := ints_made (w.alloc (.cells #[.slice none 0 0] 26)) n
    rw [World.size_alloc] at h
    exact h.below ((Below.refl _ _).alloc (Nat.le_refl _) _) (by simp)
  have hB := (((Below.refl w.heap.size w).alloc (Nat.le_refl _) (.cells #[.slice none 0 0] 26)).alloc (by simp) (.cells (madeCells #[.int .i64 0] n) 3)).alloc (by simp; omega) (.cells #[.slice (some ⟨w.heap.size + 1, 0, none⟩) n n] 26)
  have q0 : (((w.alloc (.cells #[.slice none 0 0] 26)).alloc (.cells (madeCells #[.int .i64 0] n) 3)).alloc (.cells #[.slice (some ⟨w.heap.size + 1, 0, none⟩) n n] 26)).cell? ⟨w.heap.size, 0, none⟩ = some (.slice none 0 0) := (three_first w _ _ _ _ 0).1
  have f0 : (((w.alloc (.cells #[.slice none 0 0] 26)).alloc (.cells (madeCells #[.int .i64 0] n) 3)).alloc (.cells #[.slice (some ⟨w.heap.size + 1, 0, none⟩) n n] 26)).frozen? ⟨w.heap.size, 0, none⟩ = false := (three_first w _ _ _ _ 0).2
  have q2 : (((w.alloc (.cells #[.slice none 0 0] 26)).alloc (.cells (madeCells #[.int .i64 0] n) 3)).alloc (.cells #[.slice (some ⟨w.heap.size + 1, 0, none⟩) n n] 26)).cell? ⟨w.heap.size + 1 + 1, 0, none⟩ = some (.slice (some ⟨w.heap.size + 1, 0, none⟩) n n) := by
    have := World.cell?_alloc_new ((w.alloc (.cells #[.slice none 0 0] 26)).alloc (.cells (madeCells #[.int .i64 0] n) 3)) #[.slice (some ⟨w.heap.size + 1, 0, none⟩) n n] 26 0
    rw [World.size_alloc, World.size_alloc] at this; exact this
  generalize (((w.alloc (.cells #[.slice none 0 0] 26)).alloc (.cells (madeCells #[.int .i64 0] n) 3)).alloc (.cells #[.slice (some ⟨w.heap.size + 1, 0, none⟩) n n] 26)) = W at hI hB q0 f0 q2 ⊢
  refine (free_any (w.heap.size + 1) 0 n n (fun _ => 0) W hI 0 (by omega) h4 (by omega) (Nat.le_refl _)).mono ?_
  rintro e w1 ⟨⟨v, rfl⟩, ht, hi⟩
  have hlt := World.block_lt_of_cell? W _ q0
  have q0 := ht.cell (by omega) q0
  have q2 := ht.cell (by omega) q2
  have f0 : w1.frozen? ⟨w.heap.size, 0, none⟩ = false := by rw [ht.frozen (b := w.heap.size) (o := 0) (by omega) hlt]; exact f0
  have HB : Hid (Below w.heap.size w w1) := Turn.below hB (Nat.le_of_lt hlt) ht (by omega)
  have HI : Hid (Ints w1 (w.heap.size + 1) 0 n (freshF n)) := hi.congr (fun j hj => free_fresh n h4 j hj)
  have HZ : Hid (w.heap.size + 1 < w1.heap.size) := hi.lt (by omega)
  clear hI hB ht hi hlt
  go_wp2_with fail
  refine bodyPost_ret (v := .agg #[.slice (some ⟨w.heap.size + 1, 0, none⟩) n n]) (by simp [results, Try.results18, go_sem, q0]) rfl ⟨_, rfl, Nat.le_succ _, HB.out.setCell (Nat.le_refl _) _, ?_⟩
  exact HI.out.turn ((Turn.refl w.heap.size _).set 0 _) (by omega) HZ.out

theorem specNew_none (x : Int) (hx : ¬ (4 ≤ x ∧ x ≤ 4000)) (w : World) :
    Calls Try.prog 19 #[.int .i64 x] w fun e w' => e = .returned (.agg #[.slice none 0 0]) ∧ Below w.heap.size w w' := by
  have hin : inB x 4 4000 = false := by simp [inB]; omega
  go_enter Try.func19, Try.ntmps19
  go_wp2_with (go_at_call 51; refine (in_any _ _ _ _).mono ?_; rintro e w' ⟨rfl, rfl⟩)
  exact bodyPost_ret (v := .agg #[.slice none 0 0]) (by simp [results, Try.results19, go_sem]) rfl ⟨rfl, (Below.refl _ _).alloc (Nat.le_refl _) _⟩
theorem implNew_none (x : Int) (hx : ¬ (4 ≤ x ∧ x ≤ 4000)) (w : World) :
    Calls Try.prog 18 #[.int .i64 x] w fun e w' => e = .returned (.agg #[.slice none 0 0]) ∧ Below w.heap.size w w' := by
  by_cases h4 : x < 4
  · go_enter Try.func18, Try.ntmps18
    go_wp2_with fail
    exact bodyPost_ret (v := .agg #[.slice none 0 0]) (by simp [results, Try.results18, go_sem]) rfl ⟨rfl, (Below.refl _ _).alloc (Nat.le_refl _) _⟩
  · go_enter Try.func18, Try.ntmps18
    go_wp2_with fail
    exact bodyPost_ret (v := .agg #[.slice none 0 0]) (by simp [results, Try.results18, go_sem]) rfl ⟨rfl, (Below.refl _ _).alloc (Nat.le_refl _) _⟩

/-- N numbers that are read only. -/
def Rd (w : World) (ao : Option Addr) (N : Nat) (f : Nat → Int) : Prop :=
  N ≠ 0 → ∃ b o, ao = some ⟨b, o, none⟩ ∧ ∀ j, j < N → w.cell? ⟨b, o + j, none⟩ = some (.int .i64 (f j))
theorem Ints.rd {w : World} {b o N : Nat} {f : Nat → Int} (h : Ints w b o N f) : Rd w (some ⟨b, o, none⟩) N f := fun _ => ⟨b, o, rfl, h.cell⟩
theorem Rd.nil (w : World) (f : Nat → Int) (ao : Option Addr) : Rd w ao 0 f := fun h => absurd rfl h
theorem Rd.below {w w' : World} {ao : Option Addr} {N : Nat} {f : Nat → Int} (h : Rd w ao N f) (hb : Below w.heap.size w w') : Rd w' ao N f := fun hn => by
  obtain ⟨b, o, e, hc⟩ := h hn
  exact ⟨b, o, e, fun j hj => by rw [hb.cell (p := ⟨b, o + j, none⟩) (World.block_lt_of_cell? w _ (hc j hj))]; exact hc j hj⟩

end Go.Proofs.Ytejhfoahpopeoaa
