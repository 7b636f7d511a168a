/-
  What the program's blockWords and allPoison answer.
-/
import Derived.Test.YtmongbpdbcbhlaaBlA
namespace Go.Proofs.Ytmongbpdbcbhlaa
open Go.RowKit
set_option linter.unusedVariables false

set_option maxHeartbeats 1000000 in
theorem words_some (b o N cap : Nat) (f : Nat → Int) (p n : Nat) (w : World) (hc : ∀ j, j < N → w.cell? ⟨b, o + j, none⟩ = some (.int .i64 (f j))) (hN : N ≤ 1048576) (hcap : N ≤ cap) (hp : p ≤ 4000) (hn : f (p + 1) = n) (h1 : 1 ≤ n) (h4 : n ≤ 4000) (hf : p + n + 3 ≤ N) :
    Calls Try.prog 56 #[.agg #[.slice (some ⟨b, o, none⟩) N cap], .int .i64 p] w fun e w' => e = .returned (.slice (some ⟨b, o + p, none⟩) (n + 3) (n + 3)) ∧ Below w.heap.size w w' := by
  have c1 := hc (p + 1) (by omega)
  have hb : b < w.heap.size := World.block_lt_of_cell? w _ c1
  have hne : ¬ b = w.heap.size := by omega
  have i1 : inA p = true := by simp [inA]; omega
  have i2 : inA n = true := by simp [inA]; omega
  rw [hn] at c1
  clear hc hn
  go_enter Try.func56, Try.ntmps56
  go_wp2_with (go_at_call 31; refine (inArena_any _ _).mono ?_; rintro e w' ⟨rfl, rfl⟩)
  go_ret
  have e : p + n + 3 - p = n + 3 := by omega
  exact ⟨by first | rfl | (simp [e]; done) | trace_state, (Below.refl _ _).alloc (Nat.le_refl _) _⟩

set_option maxHeartbeats 1000000 in
theorem words_none (ao : Option Addr) (N cap : Nat) (f : Nat → Int) (x : Int) (w : World) (hr : Rd w ao N f) (hN : N ≤ 1048576) (h : ∀ p n : Nat, x = p → p ≤ 4000 → f (p + 1) = n → 1 ≤ n → n ≤ 4000 → ¬ p + n + 3 ≤ N) :
    Calls Try.prog 56 #[.agg #[.slice ao N cap], .int .i64 x] w fun e w' => e = .returned (.slice none 0 0) ∧ Below w.heap.size w w' := by
  cases i1 : inA x with
  | false =>
    clear h
    go_enter Try.func56, Try.ntmps56
    go_wp2_with (go_at_call 31; refine (inArena_any _ _).mono ?_; rintro e w' ⟨rfl, rfl⟩)
    go_ret
    exact ⟨rfl, (Below.refl _ _).alloc (Nat.le_refl _) _⟩
  | true =>
    have hx := inA_true i1
    obtain ⟨p, rfl⟩ : ∃ p : Nat, x = p := ⟨x.toNat, by omega⟩
    by_cases h2 : p + 4 ≤ N
    · obtain ⟨b, o, rfl, hc⟩ := hr (by omega)
      have c1 := hc (p + 1) (by omega)
      have hb : b < w.heap.size := World.block_lt_of_cell? w _ c1
      have hne : ¬ b = w.heap.size := by omega
      clear hc
      by_cases h1 : f (p + 1) < 1
      · generalize f (p + 1) = x at *
        go_enter Try.func56, Try.ntmps56
        go_wp2_with (go_at_call 31; refine (inArena_any _ _).mono ?_; rintro e w' ⟨rfl, rfl⟩)
        go_ret
        exact ⟨rfl, (Below.refl _ _).alloc (Nat.le_refl _) _⟩
      · cases i2 : inA (f (p + 1)) with
        | false =>
          clear h
          generalize f (p + 1) = x at *
          go_enter Try.func56, Try.ntmps56
          go_wp2_with (go_at_call 31; refine (inArena_any _ _).mono ?_; rintro e w' ⟨rfl, rfl⟩)
          go_ret
          exact ⟨rfl, (Below.refl _ _).alloc (Nat.le_refl _) _⟩
        | true =>
          have hy := inA_true i2
          have h3 : (N : Int) - p - 3 < f (p + 1) := by
            have := h p (f (p + 1)).toNat rfl (by omega) (by omega) (by omega) (by omega)
            omega
          clear h
          generalize f (p + 1) = x at *
          go_enter Try.func56, Try.ntmps56
          go_wp2_with (go_at_call 31; refine (inArena_any _ _).mono ?_; rintro e w' ⟨rfl, rfl⟩)
          go_ret
          exact ⟨rfl, (Below.refl _ _).alloc (Nat.le_refl _) _⟩
    · clear h
      go_enter Try.func56, Try.ntmps56
      go_wp2_with (go_at_call 31; refine (inArena_any _ _).mono ?_; rintro e w' ⟨rfl, rfl⟩)
      go_ret
      exact ⟨rfl, (Below.refl _ _).alloc (Nat.le_refl _) _⟩

/-- r tells whether all of the M numbers g are the poison of the places from q on. -/
structure PoisR (r : Bool) (M : Nat) (g : Nat → Int) (q : Nat) : Prop where
  is : r = true ↔ ∀ j, j < M → g j = pois (q + j : Nat)

set_option maxHeartbeats 1000000 in
theorem allPois_any (b o M cap : Nat) (g : Nat → Int) (q : Nat) (w : World) (hc : ∀ j, j < M → w.cell? ⟨b, o + j, none⟩ = some (.int .i64 (g j))) (hM : M ≤ 1048576) (hq : q ≤ 2097152) :
    Calls Try.prog 58 #[.slice (some ⟨b, o, none⟩) M cap, .int .i64 q] w fun e w' => ∃ r : Bool, e = .returned (.bool r) ∧ PoisR r M g q ∧ w' = w := by
  have HC : Hid (∀ j, j < M → w.cell? ⟨b, o + j, none⟩ = some (.int .i64 (g j))) := hc
  clear hc
  go_enter Try.func58, Try.ntmps58
  go_wp2_with fail
  go_loop [9] (fun i => ∃ m : Nat, m ≤ M ∧ i = .int .i64 m ∧ ∀ j, j < m → g j = pois (q + j : Nat)) (fun i => M - (intOf i).toNat)
  case atStart => exact ⟨0, Nat.zero_le _, by simp, fun j hj => absurd hj (Nat.not_lt_zero _)⟩
  case round =>
    obtain ⟨m, hm, rfl, hall⟩ := hrel
    have HALL : Hid (∀ j, j < m → g j = pois (q + j : Nat)) := hall
    clear hall
    by_cases hlt : m < M
    · have cm := HC.out m hlt
      have e2 : ((q + m : Nat) : Int) = (q : Int) + m := by omega
      by_cases hx : g m = pois (q + m : Nat)
      · have HX : Hid (g m = pois (q + m : Nat)) := hx
        rw [hx, e2] at cm
        clear hx e2
        go_wp2_with (go_at_call 63; refine (implPois_any _ _).mono ?_; rintro e w' ⟨rfl, rfl⟩)
        go_round
        case rel =>
          refine ⟨m + 1, by omega, by go_num, fun j hj => ?_⟩
          by_cases e : j = m
          · rw [e]; exact HX.out
          · exact HALL.out j (by omega)
        case measure => simp [intOf]; omega
      · have HX : Hid (¬ g m = pois (q + m : Nat)) := hx
        rw [e2] at hx
        generalize hy : g m = y at *
        have HY : Hid (g m = y) := hy
        have hx' : (y == pois ((q : Int) + m)) = false := by simpa using hx
        clear hy e2
        go_wp2_with (go_at_call 63; refine (implPois_any _ _).mono ?_; rintro e w' ⟨rfl, rfl⟩)
        go_ret
        refine ⟨false, rfl, ⟨⟨fun h => (by cases h), fun h => absurd (h m hlt) ?_⟩⟩, rfl⟩
        rw [HY.out]
        exact HX.out
    · have hme : m = M := by omega
      subst hme
      go_wp2_with fail
      go_ret
      exact Or.inr ⟨rfl, ⟨⟨fun _ => HALL.out, fun _ => rfl⟩⟩, rfl⟩
end Go.Proofs.Ytmongbpdbcbhlaa
