/-
  The program's new arena is the specification's; how the law compares, marks and holds a row of numbers.
-/
import Derived.Test.YtejhfoahpopeoabArC
namespace Go.Proofs.Ytejhfoahpopeoab
open Go.RowKit
set_option linter.unusedVariables false

theorem free_fresh (n : Nat) (h4 : 4 ≤ n) (j : Nat) (hj : j < n) : freeK (fun _ => 0) n 0 (n - 3) j = freshF n j := by
  unfold freeK freshF layF upd midF setF
  dsimp only
  by_cases h1 : j = n - 1
  · have a1 : ¬ (2 ≤ j ∧ j < n - 3 + 2) := by omega
    have a2 : ¬ j = 0 := by omega
    have a3 : ¬ j = 1 := by omega
    have a4 : j = 0 + 2 + (n - 3) := by omega
    rw [if_neg a1, if_neg a2, if_neg a3, if_pos h1, if_pos a4]
  · have a4 : ¬ j = 0 + 2 + (n - 3) := by omega
    rw [if_neg a4]
    by_cases h0 : j = 0
    · have a1 : ¬ (2 ≤ j ∧ j < n - 3 + 2) := by omega
      rw [if_neg a1, if_pos h0, if_pos h0]
    · rw [if_neg h0, if_neg h0]
      by_cases h2 : j = 1
      · have a1 : ¬ (2 ≤ j ∧ j < n - 3 + 2) := by omega
        have a5 : j = 0 + 1 := by omega
        rw [if_neg a1, if_pos h2, if_pos a5]
      · have a1 : 2 ≤ j ∧ j < n - 3 + 2 := by omega
        have a5 : ¬ j = 0 + 1 := by omega
        have a6 : 0 + 2 ≤ j ∧ j < 0 + 2 + (n - 3) := by omega
        rw [if_pos a1, if_neg a5, if_pos a6, Nat.zero_add]
        simp

theorem specNew_none (x : Int) (hx : ¬ (4 ≤ x ∧ x ≤ 4000)) (w : World) :
    Calls Try.prog 53 #[.int .i64 x] w fun e w' => e = .returned (.agg #[.slice none 0 0]) ∧ Below w.heap.size w w' := by
  have hin : inB x 4 4000 = false := by simp [inB]; omega
  go_enter Try.func53, Try.ntmps53
  go_wp2_with (go_at_call 39; refine (in_any _ _ _ _).mono ?_; rintro e w' ⟨rfl, rfl⟩)
  exact bodyPost_ret (v := .agg #[.slice none 0 0]) (by simp [results, Try.results53, go_sem]) rfl ⟨rfl, (Below.refl _ _).alloc (Nat.le_refl _) _⟩
/-- N numbers that are read only. -/
def Rd (w : World) (ao : Option Addr) (N : Nat) (f : Nat → Int) : Prop :=
  N ≠ 0 → ∃ b o, ao = some ⟨b, o, none⟩ ∧ ∀ j, j < N → w.cell? ⟨b, o + j, none⟩ = some (.int .i64 (f j))
theorem Ints.rd {w : World} {b o N : Nat} {f : Nat → Int} (h : Ints w b o N f) : Rd w (some ⟨b, o, none⟩) N f := fun _ => ⟨b, o, rfl, h.cell⟩
theorem Rd.nil (w : World) (f : Nat → Int) (ao : Option Addr) : Rd w ao 0 f := fun h => absurd rfl h
theorem Rd.below {w w' : World} {ao : Option Addr} {N : Nat} {f : Nat → Int} (h : Rd w ao N f) (hb : Below w.heap.size w w') : Rd w' ao N f := fun hn => by
  obtain ⟨b, o, e, hc⟩ := h hn
  exact ⟨b, o, e, fun j hj => by rw [hb.cell (p := ⟨b, o + j, none⟩) (World.block_lt_of_cell? w _ (hc j hj))]; exact hc j hj⟩

set_option maxHeartbeats 1000000 in
theorem eqIntS_same (ao bo : Option Addr) (N ca cb : Nat) (f g : Nat → Int) (w : World) (ha : Rd w ao N f) (hb : Rd w bo N g) (he : ∀ j, j < N → f j = g j) (hN : N ≤ 1048576) :
    Calls Try.prog 28 #[.slice ao N ca, .slice bo N cb] w fun e w' => e = .returned (.bool true) ∧ Below w.heap.size w w' := by
  have HA : Hid (Rd w ao N f) := ha
  have HB : Hid (Rd w bo N g) := hb
  have HE : Hid (∀ j, j < N → f j = g j) := he
  clear ha hb he
  go_enter Try.func28, Try.ntmps28
  go_wp2_with fail
  go_loopw [5] (fun i w' => ∃ m : Nat, m ≤ N ∧ i = .int .i64 m ∧ Below w.heap.size w w') (fun i _ => N - (intOf i).toNat)
  case atStart => exact ⟨0, Nat.zero_le _, by simp, Below.refl _ _⟩
  case round =>
    obtain ⟨m, hm, rfl, hbl⟩ := hrel
    have HBL : Hid (Below w.heap.size w wr) := hbl
    by_cases hlt : m < N
    · obtain ⟨b1, o1, rfl, c1⟩ := HA.out.below hbl (by omega)
      obtain ⟨b2, o2, rfl, c2⟩ := HB.out.below hbl (by omega)
      have q1 := c1 m hlt
      have q2 := c2 m hlt
      rw [HE.out m hlt] at q1
      clear c1 c2 hbl
      generalize g m = x at *
      go_wp2_with fail
      go_quiet (fail)
      go_wp2_with fail
      go_roundw
      case rel => exact ⟨m + 1, by omega, by go_num, by first | exact HBL.out.drew | exact below_drewN HBL.out _⟩
      case measure => simp [intOf]; omega
    · clear hbl
      go_wp2_with fail
      go_ret
      exact ⟨rfl, HBL.out⟩

theorem eqArena_same (ao bo : Option Addr) (N ca cb : Nat) (f g : Nat → Int) (w : World) (ha : Rd w ao N f) (hb : Rd w bo N g) (he : ∀ j, j < N → f j = g j) (hN : N ≤ 1048576) :
    Calls Try.prog 26 #[.agg #[.slice ao N ca], .agg #[.slice bo N cb]] w fun e w' => e = .returned (.bool true) ∧ Below w.heap.size w w' := by
  have HA : Hid (Rd w ao N f) := ha
  have HB : Hid (Rd w bo N g) := hb
  have HE : Hid (∀ j, j < N → f j = g j) := he
  clear ha hb he
  go_enter Try.func26, Try.ntmps26
  go_wp2_with fail
  have hb2 := ((Below.refl w.heap.size w).alloc (Nat.le_refl _) (.cells #[.slice ao N ca] 26)).alloc (by simp) (.cells #[.slice bo N cb] 26)
  refine (eqIntS_same ao bo N ca cb f g _ (HA.out.below hb2) (HB.out.below hb2) HE.out hN).mono ?_
  rintro e w1 ⟨rfl, hb1⟩
  have HB1 : Hid (Below w.heap.size w w1) := hb2.trans (hb1.mono (by simp; omega))
  clear hb1 hb2
  go_wp2_with fail
  go_ret
  exact ⟨rfl, HB1.out⟩

set_option maxHeartbeats 1000000 in
theorem markIntS_any (b o N cap : Nat) (f : Nat → Int) (w : World) (hI : Ints w b o N f) (k : Int) (hk : 0 ≤ k ∧ k ≤ 1048576) (hN : N ≤ 1048576) :
    Calls Try.prog 30 #[.slice (some ⟨b, o, none⟩) N cap, .int .i64 k] w fun e w' => e = .returned (.int .i64 (k + N)) ∧ Turn b w w' ∧ Ints w' b o N (fun j => k + j) := by
  have HI : Hid (Ints w b o N f) := hI
  clear hI
  go_enter Try.func30, Try.ntmps30
  go_wp2_with fail
  go_loopw [1, 5] (fun a i w' => ∃ m : Nat, m ≤ N ∧ i = .int .i64 m ∧ a = .int .i64 (k + m) ∧ Turn b w w' ∧ Ints w' b o N (fun j => if j < m then k + j else f j)) (fun _ i _ => N - (intOf i).toNat)
  case atStart => exact ⟨0, Nat.zero_le _, by simp, by simp, Turn.refl _ _, HI.out.congr (fun j _ => by rw [if_neg (by omega)])⟩
  case round =>
    obtain ⟨m, hm, rfl, rfl, ht, hi⟩ := hrel
    have HT : Hid (Turn b w wr) := ht
    have HI2 : Hid (Ints wr b o N (fun j => if j < m then k + j else f j)) := hi
    by_cases hlt : m < N
    · have cm := hi.cell m hlt
      rw [if_neg (by omega)] at cm
      have fr : ∀ x, wr.frozen? ⟨b, x, none⟩ = false := hi.free
      clear ht hi
      go_wp2_with fail
      go_roundw
      case rel =>
        refine ⟨m + 1, by omega, by go_num, by go_num, HT.out.set _ _, (HI2.out.set m hlt _).congr fun j _ => ?_⟩
        unfold upd
        by_cases e : j = m
        · subst e
          rw [if_pos rfl, if_pos (by omega)]
        · rw [if_neg e]
          dsimp only
          by_cases e2 : j < m
          · rw [if_pos e2, if_pos (by omega)]
          · rw [if_neg e2, if_neg (by omega)]
      case measure => simp [intOf]; omega
    · have hme : m = N := by omega
      subst hme
      clear ht hi
      go_wp2_with fail
      go_ret
      exact ⟨rfl, HT.out, HI2.out.congr (fun j hj => by rw [if_pos hj])⟩

set_option maxHeartbeats 1000000 in
theorem heldIntS_any (b o N cap : Nat) (w : World) (k : Int) (hI : Ints w b o N (fun j => k + j)) (hk : 0 ≤ k ∧ k ≤ 1048576) (hN : N ≤ 1048576) :
    Calls Try.prog 31 #[.slice (some ⟨b, o, none⟩) N cap, .int .i64 k] w fun e w' => e = .returned (.int .i64 (k + N)) ∧ w' = w := by
  have HI : Hid (Ints w b o N (fun j => k + j)) := hI
  clear hI
  go_enter Try.func31, Try.ntmps31
  go_wp2_with fail
  go_loop [1, 5] (fun a i => ∃ m : Nat, m ≤ N ∧ i = .int .i64 m ∧ a = .int .i64 (k + m)) (fun _ i => N - (intOf i).toNat)
  case atStart => exact ⟨0, Nat.zero_le _, by simp, by simp⟩
  case round =>
    obtain ⟨m, hm, rfl, rfl⟩ := hrel
    by_cases hlt : m < N
    · have cm := HI.out.cell m hlt
      go_wp2_with fail
      go_round
      case rel => exact ⟨m + 1, by omega, by go_num, by go_num⟩
      case measure => simp [intOf]; omega
    · have hme : m = N := by omega
      subst hme
      go_wp2_with fail
      go_ret
      exact ⟨rfl, rfl⟩

theorem markArena_any (b o N cap : Nat) (f : Nat → Int) (w : World) (hI : Ints w b o N f) (k : Int) (hk : 0 ≤ k ∧ k ≤ 1048576) (hN : N ≤ 1048576) (hlt : b < w.heap.size) :
    Calls Try.prog 29 #[.agg #[.slice (some ⟨b, o, none⟩) N cap], .int .i64 k] w fun e w' => e = .returned (.int .i64 (k + N)) ∧ Turn b w w' ∧ Ints w' b o N (fun j => k + j) := by
  have HI : Hid (Ints w b o N f) := hI
  clear hI
  go_enter Try.func29, Try.ntmps29
  go_wp2_with fail
  have hb := (Below.refl w.heap.size w).alloc (Nat.le_refl _) (.cells #[.slice (some ⟨b, o, none⟩) N cap] 26)
  refine (markIntS_any b o N cap f _ (HI.out.below hb hlt) k hk hN).mono ?_
  rintro e w1 ⟨rfl, ht, hi⟩
  have HT : Hid (Turn b w w1) := (Turn.of_below hb).trans ht
  have HI2 : Hid (Ints w1 b o N (fun j => k + j)) := hi
  clear ht hi hb
  go_wp2_with fail
  go_ret
  exact ⟨rfl, HT.out, HI2.out⟩
end Go.Proofs.Ytejhfoahpopeoab
