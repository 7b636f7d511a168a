/-
  The program's guards of a block, and how a free block is made.
-/
import Derived.Test.YtmongbpdbcbhlaaArB
import Derived.RegionTactic
import Derived.ChangeAlike
namespace Go.Proofs.Ytmongbpdbcbhlaa
open Go.RowKit
set_option linter.unusedVariables false

set_option maxHeartbeats 1000000 in
theorem guardsOf_any (p n : Int) (u : Bool) (w : World) :
    Calls Try.prog 57 #[.int .i64 p, .int .i64 n, .bool u] w fun e w' => e = .returned (.agg #[.int .i64 (gw p n u 1000), .int .i64 n, .int .i64 (gw p n u 1001)]) ∧ Below w.heap.size w w' := by
  go_enter Try.func57, Try.ntmps57
  go_wp2_with (first
    | (go_at_call 74; refine (implGuard_any _ _ _ _).mono ?_; rintro e w' ⟨rfl, rfl⟩)
    | (go_at_call 75; refine (implRear_any _ _ _ _).mono ?_; rintro e w' ⟨rfl, rfl⟩))
  refine bodyPost_ret (v := .agg #[.int .i64 (gw p n u 1000), .int .i64 n, .int .i64 (gw p n u 1001)]) (by simp [results, Try.results57, go_sem]) rfl ⟨rfl, (Below.refl _ _).alloc (Nat.le_refl _) _⟩

theorem held_any (b o N cap : Nat) (hN : 4 ≤ N) (hm : N ≤ 1048576) (hc : N ≤ cap) (w : World) :
    Calls Try.prog 59 #[.slice (some ⟨b, o, none⟩) N cap] w fun e w' => e = .returned (.slice (some ⟨b, o + 2, none⟩) (N - 3) (N - 3)) ∧ w' = w := by
  go_enter Try.func59, Try.ntmps59
  go_wp2
  go_ret
  have e : N - 1 - 2 = N - 3 := by omega
  exact ⟨by rw [← e]; rfl, rfl⟩

theorem Turn.drew' {cb : Nat} {a w : World} (h : Turn cb a w) : Turn cb a w.drew := ⟨h.os, h.tape, h.output, h.size, h.block⟩
theorem Ints.drew' {w : World} {b o N : Nat} {f : Nat → Int} (h : Ints w b o N f) : Ints w.drew b o N f := ⟨h.cell, h.free⟩

/-- The guards about a row of N words that stands at the place p. -/
def setF (f : Nat → Int) (N : Nat) (p : Int) (u : Bool) : Nat → Int := fun j =>
  if j = 0 then gw p (N - 3 : Nat) u 1000 else if j = 1 then (N - 3 : Nat) else if j = N - 1 then gw p (N - 3 : Nat) u 1001 else f j

set_option maxHeartbeats 2000000 in
set_option maxRecDepth 100000 in
theorem setGuards_any (b o N cap : Nat) (f : Nat → Int) (w : World) (hI : Ints w b o N f) (p : Int) (u : Bool) (hN : 4 ≤ N) (hm : N ≤ 1048576) :
    Calls Try.prog 62 #[.slice (some ⟨b, o, none⟩) N cap, .int .i64 p, .bool u] w fun e w' => (∃ v, e = .returned v) ∧ Turn b w w' ∧ Ints w' b o N (setF f N p u) := by
  have HI : Hid (Ints w b o N f) := hI
  have hlt : b < w.heap.size := hI.lt (by omega)
  have e3 : ((N : Int) - 3) = ((N - 3 : Nat) : Int) := by omega
  have e1 : (((N : Int) - 1).toNat) = N - 1 := by omega
  clear hI
  go_enter Try.func62, Try.ntmps62
  go_wp2_with fail
  refine (guardsOf_any _ _ _ _).mono ?_
  rintro e w1 ⟨rfl, hb1⟩
  have HT : Hid (Turn b w w1) := Turn.of_below hb1
  have HI1 : Hid (Ints w1 b o N f) := HI.out.below hb1 hlt
  have hlt1 : b < w1.heap.size := HI1.out.lt (by omega)
  have c0 := HI1.out.cell 0 (by omega)
  rw [Nat.add_zero] at c0
  have c1 := HI1.out.cell 1 (by omega)
  have c2 := HI1.out.cell (N - 1) (by omega)
  have fr : ∀ x, w1.frozen? ⟨b, x, none⟩ = false := HI1.out.free
  have hne : ¬ b = w1.heap.size := by omega
  have hN0 : 0 < N := by omega
  have hN1 : 1 < N := by omega
  have hN2 : N - 1 < N := by omega
  clear hb1
  go_wp2_with fail
  go_region
  go_end0
  refine ⟨⟨_, rfl⟩, ((((HT.out.set _ _).set _ _).set _ _).alloc _).drew', ?_⟩
  have h := ((HI1.out.set 0 (by omega) (gw p (N - 3 : Nat) u 1000)).set 1 (by omega) (N - 3 : Nat)).set (N - 1) (by omega) (gw p (N - 3 : Nat) u 1001)
  rw [Nat.add_zero] at h
  refine Ints.drew' ((h.below ((Below.refl _ _).alloc (Nat.le_refl _) _) ?_).congr fun j _ => ?_)
  · rw [World.size_setCell, World.size_setCell, World.size_setCell]; exact hlt1
  · unfold setF upd
    by_cases h0 : j = 0
    · rw [if_neg (by omega), if_neg (by omega), if_pos h0, if_pos h0]
    · by_cases h1 : j = 1
      · rw [if_neg (by omega), if_pos h1, if_neg h0, if_pos h1]
      · by_cases h2 : j = N - 1
        · rw [if_pos h2, if_neg h0, if_neg h1, if_pos h2]
        · rw [if_neg h2, if_neg h1, if_neg h0, if_neg h0, if_neg h1, if_neg h2]

/-- The holder's words ahead of m + 2 are poison. -/
def freeK (f : Nat → Int) (N p m : Nat) : Nat → Int := fun j => if 2 ≤ j ∧ j < m + 2 then pois (p + j : Nat) else setF f N p false j
theorem freeK_step (f : Nat → Int) (N p m : Nat) : ∀ j, upd (freeK f N p m) (m + 2) (pois (p + (m + 2) : Nat)) j = freeK f N p (m + 1) j := by
  intro j
  unfold freeK upd
  dsimp only
  by_cases h1 : j = m + 2
  · subst h1
    rw [if_pos rfl, if_pos (by omega)]
  · rw [if_neg h1]
    by_cases h2 : 2 ≤ j ∧ j < m + 2
    · rw [if_pos h2, if_pos (by omega)]
    · rw [if_neg h2, if_neg (by omega)]

set_option maxHeartbeats 2000000 in
set_option maxRecDepth 100000 in
theorem free_any (b o N cap : Nat) (f : Nat → Int) (w : World) (hI : Ints w b o N f) (p : Nat) (hp : p ≤ 1048576) (hN : 4 ≤ N) (hm : N ≤ 1048576) (hc : N ≤ cap) :
    Calls Try.prog 33 #[.slice (some ⟨b, o, none⟩) N cap, .int .i64 p] w fun e w' => (∃ v, e = .returned v) ∧ Turn b w w' ∧ Ints w' b o N (freeK f N p (N - 3)) := by
  have HI : Hid (Ints w b o N f) := hI
  clear hI
  go_enter Try.func33, Try.ntmps33
  go_wp2_with fail
  refine (setGuards_any b o N cap f w HI.out p false hN hm).mono ?_
  rintro e w1 ⟨⟨v, rfl⟩, ht, hi⟩
  have HT : Hid (Turn b w w1) := ht
  have HI1 : Hid (Ints w1 b o N (setF f N p false)) := hi
  clear ht hi
  go_wp2_with fail
  refine (held_any b o N cap hN hm hc w1).mono ?_
  rintro e w2 ⟨rfl, rfl⟩
  obtain ⟨M, hM⟩ : ∃ M, M = N - 3 := ⟨_, rfl⟩
  rw [← hM]
  go_wp2_with fail
  go_loopw [13] (fun i w' => ∃ m : Nat, m ≤ M ∧ i = .int .i64 m ∧ Turn b w w' ∧ Ints w' b o N (freeK f N p m)) (fun i _ => M - (intOf i).toNat)
  case atStart =>
    exact ⟨0, Nat.zero_le _, by simp, HT.out, HI1.out.congr (fun j _ => by unfold freeK; rw [if_neg (by omega)])⟩
  case round =>
    obtain ⟨m, hm1, rfl, ht, hi⟩ := hrel
    have HT2 : Hid (Turn b w wr) := ht
    have HI2 : Hid (Ints wr b o N (freeK f N p m)) := hi
    have fr : ∀ x, wr.frozen? ⟨b, x, none⟩ = false := hi.free
    by_cases hlt : m < M
    · have cm := hi.cell (m + 2) (by omega)
      have e2 : o + (m + 2) = o + 2 + m := by omega
      rw [e2] at cm
      have E2 : Hid (o + (m + 2) = o + 2 + m) := e2
      clear ht hi e2
      go_wp2_with (go_at_call 63; refine (implPois_any _ _).mono ?_; rintro e w' ⟨rfl, rfl⟩)
      go_roundw
      case rel =>
        refine ⟨m + 1, by omega, by go_num, HT2.out.set _ _, ?_⟩
        have h := (HI2.out.set (m + 2) (by omega) (pois (p + (m + 2) : Nat))).congr (fun j _ => freeK_step f N p m j)
        rw [E2.out] at h
        have e4 : ((p + (m + 2) : Nat) : Int) = (p : Int) + 2 + m := by omega
        rw [e4] at h
        exact h
      case measure => simp [intOf]; omega
    · have hme : m = M := by omega
      subst hme
      clear ht hi
      go_wp2_with fail
      go_end0
      rw [← hM]
      exact ⟨⟨_, rfl⟩, HT2.out, HI2.out⟩
end Go.Proofs.Ytmongbpdbcbhlaa
