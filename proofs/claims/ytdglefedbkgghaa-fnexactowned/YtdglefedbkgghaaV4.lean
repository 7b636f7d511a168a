/-
  What the program's blockWords and allPoison answer.
  (Ahead of it, in this text: The program's guards of a block, and how a free block is made. The program's new arena is the specification's; how the law compares, marks and holds a row of numbers. What a block is; what the specification's BlockAt answers.)
-/
import Derived.Test.YtdglefedbkgghaaArB
import Derived.RegionTactic
import Derived.ChangeAlike
namespace Go.Proofs.Ytdglefedbkgghaa
open Go.RowKit
set_option linter.unusedVariables false

set_option maxHeartbeats 1000000 in
theorem guardsOf_any (p n : Int) (u : Bool) (w : World) :
    Calls Try.prog 62 #[.int .i64 p, .int .i64 n, .bool u] w fun e w' => e = .returned (.agg #[.int .i64 (gw p n u 1000), .int .i64 n, .int .i64 (gw p n u 1001)]) ∧ Below w.heap.size w w' := by
  go_enter Try.func62, Try.ntmps62
  go_wp2_with (first
    | (go_at_call 71; refine (implGuard_any _ _ _ _).mono ?_; rintro e w' ⟨rfl, rfl⟩)
    | (go_at_call 72; refine (implRear_any _ _ _ _).mono ?_; rintro e w' ⟨rfl, rfl⟩))
  refine bodyPost_ret (v := .agg #[.int .i64 (gw p n u 1000), .int .i64 n, .int .i64 (gw p n u 1001)]) (by simp [results, Try.results62, go_sem]) rfl ⟨rfl, (Below.refl _ _).alloc (Nat.le_refl _) _⟩

theorem held_any (b o N cap : Nat) (hN : 4 ≤ N) (hm : N ≤ 1048576) (hc : N ≤ cap) (w : World) :
    Calls Try.prog 64 #[.slice (some ⟨b, o, none⟩) N cap] w fun e w' => e = .returned (.slice (some ⟨b, o + 2, none⟩) (N - 3) (N - 3)) ∧ w' = w := by
  go_enter Try.func64, Try.ntmps64
  go_wp2
  go_ret
  have e : N - 1 - 2 = N - 3 := by omega
  exact ⟨by rw [← e]; rfl, rfl⟩

theorem Turn.drew' {cb : Nat} {a w : World} (h : Turn cb a w) : Turn cb a w.drew := ⟨h.os, h.tape, h.output, h.size, h.block⟩
theorem Ints.drew' {w : World} {b o N : Nat} {f : Nat → Int} (h : Ints w b o N f) : Ints w.drew b o N f := ⟨h.cell, h.free⟩

/-- The guards about a row of N words that stands at the place p. -/
def setF (f : Nat → Int) (N : Nat) (p : Int) (u : Bool) : Nat → Int := fun j =>
  if j = 0 then gw p (N - 3 : Nat) u 1000 else if j = 1 then (N - 3 : Nat) else if j = N - 1 then gw p (N - 3 : Nat) u 1001 else f j

/-- The holder's words ahead of m + 2 are poison. -/
def freeK (f : Nat → Int) (N p m : Nat) : Nat → Int := fun j => if 2 ≤ j ∧ j < m + 2 then pois (p + j : Nat) else setF f N p false j
theorem freeK_step (f : Nat → Int) (N p m : Nat) : ∀ j, upd (freeK f N p m) (m + 2) (pois (p + (m + 2) : Nat)) j = freeK f N p (m + 1) j := by
  intro j
  unfold freeK upd
  dsimp only
  by_cases h1 : j = m + 2
  · subst h1
    rw [if_pos rfl, if_pos (by omega)]
  · rw [if_neg h1]
    by_cases h2 : 2 ≤ j ∧ j < m + 2
    · rw [if_pos h2, if_pos (by omega)]
    · rw [if_neg h2, if_neg (by omega)]

end Go.Proofs.Ytdglefedbkgghaa
namespace Go.Proofs.Ytdglefedbkgghaa
open Go.RowKit
set_option linter.unusedVariables false

theorem free_fresh (n : Nat) (h4 : 4 ≤ n) (j : Nat) (hj : j < n) : freeK (fun _ => 0) n 0 (n - 3) j = freshF n j := by
  unfold freeK freshF layF upd midF setF
  dsimp only
  by_cases h1 : j = n - 1
  · have a1 : ¬ (2 ≤ j ∧ j < n - 3 + 2) := by omega
    have a2 : ¬ j = 0 := by omega
    have a3 : ¬ j = 1 := by omega
    have a4 : j = 0 + 2 + (n - 3) := by omega
    rw [if_neg a1, if_neg a2, if_neg a3, if_pos h1, if_pos a4]
  · have a4 : ¬ j = 0 + 2 + (n - 3) := by omega
    rw [if_neg a4]
    by_cases h0 : j = 0
    · have a1 : ¬ (2 ≤ j ∧ j < n - 3 + 2) := by omega
      rw [if_neg a1, if_pos h0, if_pos h0]
    · rw [if_neg h0, if_neg h0]
      by_cases h2 : j = 1
      · have a1 : ¬ (2 ≤ j ∧ j < n - 3 + 2) := by omega
        have a5 : j = 0 + 1 := by omega
        rw [if_neg a1, if_pos h2, if_pos a5]
      · have a1 : 2 ≤ j ∧ j < n - 3 + 2 := by omega
        have a5 : ¬ j = 0 + 1 := by omega
        have a6 : 0 + 2 ≤ j ∧ j < 0 + 2 + (n - 3) := by omega
        rw [if_pos a1, if_neg a5, if_pos a6, Nat.zero_add]
        simp

/-- N numbers that are read only. -/
def Rd (w : World) (ao : Option Addr) (N : Nat) (f : Nat → Int) : Prop :=
  N ≠ 0 → ∃ b o, ao = some ⟨b, o, none⟩ ∧ ∀ j, j < N → w.cell? ⟨b, o + j, none⟩ = some (.int .i64 (f j))
theorem Ints.rd {w : World} {b o N : Nat} {f : Nat → Int} (h : Ints w b o N f) : Rd w (some ⟨b, o, none⟩) N f := fun _ => ⟨b, o, rfl, h.cell⟩
theorem Rd.nil (w : World) (f : Nat → Int) (ao : Option Addr) : Rd w ao 0 f := fun h => absurd rfl h
theorem Rd.below {w w' : World} {ao : Option Addr} {N : Nat} {f : Nat → Int} (h : Rd w ao N f) (hb : Below w.heap.size w w') : Rd w' ao N f := fun hn => by
  obtain ⟨b, o, e, hc⟩ := h hn
  exact ⟨b, o, e, fun j hj => by rw [hb.cell (p := ⟨b, o + j, none⟩) (World.block_lt_of_cell? w _ (hc j hj))]; exact hc j hj⟩

set_option maxHeartbeats 1000000 in
theorem eqIntSD_same (ao bo : Option Addr) (N ca cb : Nat) (f g : Nat → Int) (w : World) (ha : Rd w ao N f) (hb : Rd w bo N g) (he : ∀ j, j < N → f j = g j) (hN : N ≤ 1048576) :
    Calls Try.prog 52 #[.slice ao N ca, .slice bo N cb] w fun e w' => e = .returned (.bool true) ∧ Below w.heap.size w w' := by
  have HA : Hid (Rd w ao N f) := ha
  have HB : Hid (Rd w bo N g) := hb
  have HE : Hid (∀ j, j < N → f j = g j) := he
  clear ha hb he
  go_enter Try.func52, Try.ntmps52
  go_wp2_with fail
  go_loopw [5] (fun i w' => ∃ m : Nat, m ≤ N ∧ i = .int .i64 m ∧ Below w.heap.size w w') (fun i _ => N - (intOf i).toNat)
  case atStart => exact ⟨0, Nat.zero_le _, by simp, Below.refl _ _⟩
  case round =>
    obtain ⟨m, hm, rfl, hbl⟩ := hrel
    have HBL : Hid (Below w.heap.size w wr) := hbl
    by_cases hlt : m < N
    · obtain ⟨b1, o1, rfl, c1⟩ := HA.out.below hbl (by omega)
      obtain ⟨b2, o2, rfl, c2⟩ := HB.out.below hbl (by omega)
      have q1 := c1 m hlt
      have q2 := c2 m hlt
      rw [HE.out m hlt] at q1
      clear c1 c2 hbl
      generalize g m = x at *
      go_wp2_with fail
      go_quiet (fail)
      go_wp2_with fail
      go_roundw
      case rel => exact ⟨m + 1, by omega, by go_num, by first | exact HBL.out.drew | exact below_drewN HBL.out _⟩
      case measure => simp [intOf]; omega
    · clear hbl
      go_wp2_with fail
      go_ret
      exact ⟨rfl, HBL.out⟩

theorem eqArena_same (ao bo : Option Addr) (N ca cb : Nat) (f g : Nat → Int) (w : World) (ha : Rd w ao N f) (hb : Rd w bo N g) (he : ∀ j, j < N → f j = g j) (hN : N ≤ 1048576) :
    Calls Try.prog 29 #[.agg #[.slice ao N ca], .agg #[.slice bo N cb]] w fun e w' => e = .returned (.bool true) ∧ Below w.heap.size w w' := by
  have HA : Hid (Rd w ao N f) := ha
  have HB : Hid (Rd w bo N g) := hb
  have HE : Hid (∀ j, j < N → f j = g j) := he
  clear ha hb he
  go_enter Try.func29, Try.ntmps29
  go_wp2_with fail
  have hb2 := ((Below.refl w.heap.size w).alloc (Nat.le_refl _) (.cells #[.slice ao N ca] 34)).alloc (by simp) (.cells #[.slice bo N cb] 34)
  refine (eqIntSD_same ao bo N ca cb f g _ (HA.out.below hb2) (HB.out.below hb2) HE.out hN).mono ?_
  rintro e w1 ⟨rfl, hb1⟩
  have HB1 : Hid (Below w.heap.size w w1) := hb2.trans (hb1.mono (by simp; omega))
  clear hb1 hb2
  go_wp2_with fail
  go_ret
  exact ⟨rfl, HB1.out⟩

end Go.Proofs.Ytdglefedbkgghaa
namespace Go.Proofs.Ytdglefedbkgghaa
open Go.RowKit
set_option linter.unusedVariables false

/-- At the place p of the N words f stands a block of n words for its holder. -/
structure Blk (f : Nat → Int) (N p n : Nat) (u : Bool) : Prop where
  hp : p ≤ 4000
  h1 : 1 ≤ n
  hn : n ≤ 4000
  fit : p + n + 3 ≤ N
  len : f (p + 1) = n
  ahead : f p = gw p n u 1000
  behind : f (p + 2 + n) = gw p n u 1001
  free : u = false → ∀ i, i < n → f (p + 2 + i) = pois (p + 2 + i : Nat)

theorem gw_use (p n : Int) (h0 : 0 ≤ p) (h1 : p ≤ 4000) (h2 : 0 ≤ n) (h3 : n ≤ 4000) (m : Int) : gw p n true m ≠ gw p n false m := by
  have e1 : inA p = true := by simp [inA, h0, h1]
  have e2 : inA n = true := by simp [inA, h2, h3]
  simp only [gw, e1, e2, useOf, Bool.and_self, if_true, Bool.false_eq_true, if_false]
  omega
theorem Blk.uniq {f : Nat → Int} {N p n n' : Nat} {u u' : Bool} (h : Blk f N p n u) (h' : Blk f N p n' u') : n = n' ∧ u = u' := by
  have e : n = n' := by have a := h.len; rw [h'.len] at a; omega
  subst e
  refine ⟨rfl, ?_⟩
  have a := h.ahead
  rw [h'.ahead] at a
  have b := gw_use p n (by omega) (by have := h.hp; omega) (by omega) (by have := h.hn; omega) 1000
  cases u <;> cases u'
  · rfl
  · exact absurd a b
  · exact absurd a.symm b
  · rfl

open Classical in
noncomputable def blkO (f : Nat → Int) (N p : Nat) : Option (Nat × Bool) := if h : ∃ x : Nat × Bool, Blk f N p x.1 x.2 then some (Classical.choose h) else none
theorem blkO_of {f : Nat → Int} {N p n : Nat} {u : Bool} (h : blkO f N p = some (n, u)) : Blk f N p n u := by
  unfold blkO at h
  split at h
  · rename_i hx
    have e := Option.some.inj h
    have c := Classical.choose_spec hx
    rw [e] at c
    exact c
  · cases h
theorem blkO_some {f : Nat → Int} {N p n : Nat} {u : Bool} (h : Blk f N p n u) : blkO f N p = some (n, u) := by
  have hx : ∃ x : Nat × Bool, Blk f N p x.1 x.2 := ⟨(n, u), h⟩
  unfold blkO
  rw [dif_pos hx]
  obtain ⟨e1, e2⟩ := (Classical.choose_spec hx).uniq h
  congr 1
  exact Prod.ext e1 e2
theorem blkO_none {f : Nat → Int} {N p : Nat} (h : ∀ n u, ¬ Blk f N p n u) : blkO f N p = none := by
  unfold blkO
  rw [dif_neg]
  rintro ⟨x, hx⟩
  exact h _ _ hx

def bv : Option (Nat × Bool) → Value
  | none => .tuple #[.int .i64 0, .bool false, .bool false]
  | some (n, u) => .tuple #[.int .i64 n, .bool u, .bool true]
theorem ret_bv {a b : Option (Nat × Bool)} (h : a = b) : Ending.returned (bv a) = .returned (bv b) := by rw [h]

set_option maxHeartbeats 4000000 in
set_option maxRecDepth 100000 in
theorem specAt_any (ao : Option Addr) (N cap : Nat) (f : Nat → Int) (p : Nat) (w : World) (hr : Rd w ao N f) (hN : N ≤ 1048576) (hp : p ≤ 2097152) :
    Calls Try.prog 18 #[.agg #[.slice ao N cap], .int .i64 p] w fun e w' => e = .returned (bv (blkO f N p)) ∧ Below w.heap.size w w' := by
  by_cases h1 : p ≤ 4000
  · have i1 : inA p = true := by simp [inA]; omega
    by_cases h2 : p + 4 ≤ N
    · obtain ⟨b, o, rfl, hc⟩ := hr (by omega)
      have c1 := hc (p + 1) (by omega)
      have hb : b < w.heap.size := World.block_lt_of_cell? w _ c1
      have hne : ¬ b = w.heap.size := by omega
      by_cases h3 : 1 ≤ f (p + 1) ∧ f (p + 1) ≤ 4000
      · have i2 : inB (f (p + 1)) 1 4000 = true := by simp [inB, h3.1, h3.2]
        obtain ⟨n, hn⟩ : ∃ n : Nat, f (p + 1) = n := ⟨(f (p + 1)).toNat, by omega⟩
        rw [hn] at c1 i2 h3
        by_cases h4 : p + n + 3 ≤ N
        · have c0 := hc p (by omega)
          have c2 := hc (p + 2 + n) (by omega)
          have W1 : IntKind.i64.wrap ((p : Int) + 2) = (p : Int) + 2 := by rw [IntKind.wrap_i64]; omega
          have W2 : IntKind.i64.wrap ((p : Int) + 2 + n) = (p : Int) + 2 + n := by rw [IntKind.wrap_i64]; omega
          have W3 : ((p : Int) + 2 + n).toNat = p + 2 + n := by omega
          have HC0 : Hid (∀ j, j < N → w.cell? ⟨b, o + j, none⟩ = some (.int .i64 (f j))) := hc
          clear hc
          by_cases hu : f p = gw p n true 1000
          · by_cases hv : f (p + 2 + n) = gw p n true 1001
            · have HO : Hid (blkO f N p = some (n, true)) := blkO_some ⟨h1, by omega, by omega, h4, hn, hu, hv, fun h => by cases h⟩
              rw [hu] at c0
              rw [hv] at c2
              clear hu hv hn
              go_enter Try.func18, Try.ntmps18
              go_wp2_with (first
                | (go_at_call 39; refine (l2In_any _ _).mono ?_; rintro e w' ⟨rfl, rfl⟩)
                | (go_at_call 40; refine (in_any _ _ _ _).mono ?_; rintro e w' ⟨rfl, rfl⟩))
              go_big_quiet (first
                | (go_at_call 41; exact Calls.quiet_of_same (specGuard_any _ _ _ _))
                | (go_at_call 42; exact Calls.quiet_of_same (specRear_any _ _ _ _)))
              go_wp2_with fail
              have d : Below w.heap.size w ((w.alloc (.cells #[.slice (some ⟨b, o, none⟩) N cap] 34)).drewN nq) := below_drewN ((Below.refl _ _).alloc (Nat.le_refl _) _) nq
              have b0 : ((w.alloc (.cells #[.slice (some ⟨b, o, none⟩) N cap] 34)).drewN nq).cell? ⟨w.heap.size, 0, none⟩ = some (.slice (some ⟨b, o, none⟩) N cap) := World.cell?_alloc_new w _ _ 0
              have c0 := (d.cell (p := ⟨b, o + p, none⟩) hb).trans c0
              have c2 := (d.cell (p := ⟨b, o + (p + 2 + n), none⟩) hb).trans c2
              have HC : Hid (∀ j, j < N → ((w.alloc (.cells #[.slice (some ⟨b, o, none⟩) N cap] 34)).drewN nq).cell? ⟨b, o + j, none⟩ = some (.int .i64 (f j))) := fun j hj => (d.cell (p := ⟨b, o + j, none⟩) hb).trans (HC0.out j hj)
              clear HC0
              generalize ((w.alloc (.cells #[.slice (some ⟨b, o, none⟩) N cap] 34)).drewN nq) = W at d b0 c0 c2 HC ⊢
              have HD : Hid (Below w.heap.size w W) := d
              clear d
              go_big_quiet (first
                | (go_at_call 41; exact Calls.quiet_of_same (specGuard_any _ _ _ _))
                | (go_at_call 42; exact Calls.quiet_of_same (specRear_any _ _ _ _)))
              go_wp2_with fail
              go_loop [9] (fun i => i = .int .i64 (p + 2 : Nat)) (fun _ => 0)
              case atStart => simp
              case round =>
                subst hrel
                go_wp2_with fail
                exact bodyPost_ret (v := .tuple #[.int .i64 n, .bool true, .bool true]) (by simp [results, Try.results18, go_sem]) rfl ⟨ret_bv (a := some (n, true)) HO.out.symm, below_drewN HD.out _⟩
            · have HO : Hid (blkO f N p = none) := blkO_none fun n' u' hB => by
                have e : n' = n := by have := hB.len; rw [hn] at this; omega
                subst e
                cases u' with
                | true => exact hv hB.behind
                | false => exact gw_use p n' (by omega) (by omega) (by omega) (by omega) 1000 (hu.symm.trans hB.ahead)
              rw [hu] at c0
              clear hu hn
              generalize f (p + 2 + n) = x at *
              have hv' : (x == gw p n true 1001) = false := by simpa using hv
              go_enter Try.func18, Try.ntmps18
              go_wp2_with (first
                | (go_at_call 39; refine (l2In_any _ _).mono ?_; rintro e w' ⟨rfl, rfl⟩)
                | (go_at_call 40; refine (in_any _ _ _ _).mono ?_; rintro e w' ⟨rfl, rfl⟩))
              go_big_quiet (first
                | (go_at_call 41; exact Calls.quiet_of_same (specGuard_any _ _ _ _))
                | (go_at_call 42; exact Calls.quiet_of_same (specRear_any _ _ _ _)))
              go_wp2_with fail
              have d : Below w.heap.size w ((w.alloc (.cells #[.slice (some ⟨b, o, none⟩) N cap] 34)).drewN nq) := below_drewN ((Below.refl _ _).alloc (Nat.le_refl _) _) nq
              have b0 : ((w.alloc (.cells #[.slice (some ⟨b, o, none⟩) N cap] 34)).drewN nq).cell? ⟨w.heap.size, 0, none⟩ = some (.slice (some ⟨b, o, none⟩) N cap) := World.cell?_alloc_new w _ _ 0
              have c0 := (d.cell (p := ⟨b, o + p, none⟩) hb).trans c0
              have c2 := (d.cell (p := ⟨b, o + (p + 2 + n), none⟩) hb).trans c2
              have HC : Hid (∀ j, j < N → ((w.alloc (.cells #[.slice (some ⟨b, o, none⟩) N cap] 34)).drewN nq).cell? ⟨b, o + j, none⟩ = some (.int .i64 (f j))) := fun j hj => (d.cell (p := ⟨b, o + j, none⟩) hb).trans (HC0.out j hj)
              clear HC0
              generalize ((w.alloc (.cells #[.slice (some ⟨b, o, none⟩) N cap] 34)).drewN nq) = W at d b0 c0 c2 HC ⊢
              have HD : Hid (Below w.heap.size w W) := d
              clear d
              go_big_quiet (first
                | (go_at_call 41; exact Calls.quiet_of_same (specGuard_any _ _ _ _))
                | (go_at_call 42; exact Calls.quiet_of_same (specRear_any _ _ _ _)))
              go_wp2_with fail
              exact bodyPost_ret (v := .tuple #[.int .i64 0, .bool false, .bool false]) (by simp [results, Try.results18, go_sem]) rfl ⟨ret_bv (a := none) HO.out.symm, below_drewN HD.out _⟩
          · by_cases hf : f p = gw p n false 1000
            · have hg : (gw p n false 1000 == gw p n true 1000) = false := by
                have := gw_use p n (by omega) (by omega) (by omega) (by omega) 1000
                simpa using fun e => this e.symm
              by_cases hv : f (p + 2 + n) = gw p n false 1001
              · have HN : Hid (∀ j, j < n → f (p + 2 + j) ≠ pois (p + 2 + j : Nat) → blkO f N p = none) := fun j hj hx => blkO_none fun n' u' hB => by
                  have e : n' = n := by have := hB.len; rw [hn] at this; omega
                  subst e
                  cases u' with
                  | true => exact hu hB.ahead
                  | false => exact hx (hB.free rfl j hj)
                have HY : Hid ((∀ j, j < n → f (p + 2 + j) = pois (p + 2 + j : Nat)) → blkO f N p = some (n, false)) := fun hx => blkO_some ⟨h1, by omega, by omega, h4, hn, hf, hv, fun _ => hx⟩
                rw [hf] at c0
                rw [hv] at c2
                clear hu hv hn hf
                go_enter Try.func18, Try.ntmps18
                go_wp2_with (first
                  | (go_at_call 39; refine (l2In_any _ _).mono ?_; rintro e w' ⟨rfl, rfl⟩)
                  | (go_at_call 40; refine (in_any _ _ _ _).mono ?_; rintro e w' ⟨rfl, rfl⟩))
                go_big_quiet (first
                  | (go_at_call 41; exact Calls.quiet_of_same (specGuard_any _ _ _ _))
                  | (go_at_call 42; exact Calls.quiet_of_same (specRear_any _ _ _ _)))
                go_wp2_with fail
                have d : Below w.heap.size w ((w.alloc (.cells #[.slice (some ⟨b, o, none⟩) N cap] 34)).drewN nq) := below_drewN ((Below.refl _ _).alloc (Nat.le_refl _) _) nq
                have b0 : ((w.alloc (.cells #[.slice (some ⟨b, o, none⟩) N cap] 34)).drewN nq).cell? ⟨w.heap.size, 0, none⟩ = some (.slice (some ⟨b, o, none⟩) N cap) := World.cell?_alloc_new w _ _ 0
                have c0 := (d.cell (p := ⟨b, o + p, none⟩) hb).trans c0
                have c2 := (d.cell (p := ⟨b, o + (p + 2 + n), none⟩) hb).trans c2
                have HC : Hid (∀ j, j < N → ((w.alloc (.cells #[.slice (some ⟨b, o, none⟩) N cap] 34)).drewN nq).cell? ⟨b, o + j, none⟩ = some (.int .i64 (f j))) := fun j hj => (d.cell (p := ⟨b, o + j, none⟩) hb).trans (HC0.out j hj)
                clear HC0
                generalize ((w.alloc (.cells #[.slice (some ⟨b, o, none⟩) N cap] 34)).drewN nq) = W at d b0 c0 c2 HC ⊢
                have HD : Hid (Below w.heap.size w W) := d
                clear d
                go_big_quiet (first
                  | (go_at_call 41; exact Calls.quiet_of_same (specGuard_any _ _ _ _))
                  | (go_at_call 42; exact Calls.quiet_of_same (specRear_any _ _ _ _)))
                go_wp2_with fail
                have HB0 : Hid (W.cell? ⟨w.heap.size, 0, none⟩ = some (.slice (some ⟨b, o, none⟩) N cap)) := b0
                clear b0 c0 c2
                have HZ : Hid (w.heap.size < W.heap.size) := World.block_lt_of_cell? W _ HB0.out
                generalize hW2 : W.drewN nq = W2
                have HW2 : Hid (Below W.heap.size W W2) := by rw [← hW2]; exact below_drewN (Below.refl _ _) nq
                clear hW2
                go_loopw [9] (fun i w' => ∃ m : Nat, p + 2 ≤ m ∧ m ≤ p + 2 + n ∧ i = .int .i64 m ∧ Below W.heap.size W w' ∧ ∀ j, j < m - (p + 2) → f (p + 2 + j) = pois (p + 2 + j : Nat)) (fun i _ => p + 2 + n - (intOf i).toNat)
                case atStart => exact ⟨p + 2, Nat.le_refl _, Nat.le_add_right _ _, by simp, HW2.out, fun j hj => absurd hj (by omega)⟩
                case round =>
                  obtain ⟨m, hm0, hm1, rfl, hbl, hall⟩ := hrel
                  have HBL : Hid (Below W.heap.size W wr) := hbl
                  have HALL : Hid (∀ j, j < m - (p + 2) → f (p + 2 + j) = pois (p + 2 + j : Nat)) := hall
                  have b1 := (hbl.cell (p := ⟨w.heap.size, 0, none⟩) HZ.out).trans HB0.out
                  clear hall
                  by_cases hlt : m < p + 2 + n
                  · have cm := (hbl.cell (p := ⟨b, o + m, none⟩) (Nat.lt_trans hb HZ.out)).trans (HC.out m (by omega))
                    clear hbl
                    by_cases hx : f m = pois m
                    · have HX : Hid (f m = pois m) := hx
                      rw [hx] at cm
                      clear hx
                      go_wp2_with fail
                      go_big_quiet (first | (go_at_call 43; exact Calls.quiet_of_same (specPois_any _ _)))
                      go_wp2_with fail
                      go_roundw
                      case rel =>
                        refine ⟨m + 1, by omega, by omega, by go_num, below_drewN HBL.out _, fun j hj => ?_⟩
                        by_cases e : p + 2 + j = m
                        · rw [e]; exact HX.out
                        · exact HALL.out j (by omega)
                      case measure => simp [intOf]; omega
                    · have e : p + 2 + (m - (p + 2)) = m := by omega
                      have HO : Hid (blkO f N p = none) := HN.out (m - (p + 2)) (by omega) (by rw [e]; exact hx)
                      clear e
                      have hx' : (f m == pois m) = false := by simpa using hx
                      generalize f m = y at *
                      go_wp2_with fail
                      go_big_quiet (first | (go_at_call 43; exact Calls.quiet_of_same (specPois_any _ _)))
                      go_wp2_with fail
                      exact bodyPost_ret (v := .tuple #[.int .i64 0, .bool false, .bool false]) (by simp [results, Try.results18, go_sem]) rfl ⟨ret_bv (a := none) HO.out.symm, below_drewN (HD.out.trans (HBL.out.mono (Nat.le_of_lt HZ.out))) _⟩
                  · clear hbl
                    have HO : Hid (blkO f N p = some (n, false)) := HY.out (fun j hj => HALL.out j (by omega))
                    go_wp2_with fail
                    exact bodyPost_ret (v := .tuple #[.int .i64 n, .bool false, .bool true]) (by simp [results, Try.results18, go_sem]) rfl ⟨ret_bv (a := some (n, false)) HO.out.symm, HD.out.trans (HBL.out.mono (Nat.le_of_lt HZ.out))⟩
              · have HO : Hid (blkO f N p = none) := blkO_none fun n' u' hB => by
                  have e : n' = n := by have := hB.len; rw [hn] at this; omega
                  subst e
                  cases u' with
                  | true => exact hu hB.ahead
                  | false => exact hv hB.behind
                rw [hf] at c0
                clear hu hn hf
                generalize f (p + 2 + n) = x at *
                have hv' : (x == gw p n false 1001) = false := by simpa using hv
                go_enter Try.func18, Try.ntmps18
                go_wp2_with (first
                  | (go_at_call 39; refine (l2In_any _ _).mono ?_; rintro e w' ⟨rfl, rfl⟩)
                  | (go_at_call 40; refine (in_any _ _ _ _).mono ?_; rintro e w' ⟨rfl, rfl⟩))
                go_big_quiet (first
                  | (go_at_call 41; exact Calls.quiet_of_same (specGuard_any _ _ _ _))
                  | (go_at_call 42; exact Calls.quiet_of_same (specRear_any _ _ _ _)))
                go_wp2_with fail
                have d : Below w.heap.size w ((w.alloc (.cells #[.slice (some ⟨b, o, none⟩) N cap] 34)).drewN nq) := below_drewN ((Below.refl _ _).alloc (Nat.le_refl _) _) nq
                have b0 : ((w.alloc (.cells #[.slice (some ⟨b, o, none⟩) N cap] 34)).drewN nq).cell? ⟨w.heap.size, 0, none⟩ = some (.slice (some ⟨b, o, none⟩) N cap) := World.cell?_alloc_new w _ _ 0
                have c0 := (d.cell (p := ⟨b, o + p, none⟩) hb).trans c0
                have c2 := (d.cell (p := ⟨b, o + (p + 2 + n), none⟩) hb).trans c2
                have HC : Hid (∀ j, j < N → ((w.alloc (.cells #[.slice (some ⟨b, o, none⟩) N cap] 34)).drewN nq).cell? ⟨b, o + j, none⟩ = some (.int .i64 (f j))) := fun j hj => (d.cell (p := ⟨b, o + j, none⟩) hb).trans (HC0.out j hj)
                clear HC0
                generalize ((w.alloc (.cells #[.slice (some ⟨b, o, none⟩) N cap] 34)).drewN nq) = W at d b0 c0 c2 HC ⊢
                have HD : Hid (Below w.heap.size w W) := d
                clear d
                go_big_quiet (first
                  | (go_at_call 41; exact Calls.quiet_of_same (specGuard_any _ _ _ _))
                  | (go_at_call 42; exact Calls.quiet_of_same (specRear_any _ _ _ _)))
                go_wp2_with fail
                exact bodyPost_ret (v := .tuple #[.int .i64 0, .bool false, .bool false]) (by simp [results, Try.results18, go_sem]) rfl ⟨ret_bv (a := none) HO.out.symm, below_drewN HD.out _⟩
            · have HO : Hid (blkO f N p = none) := blkO_none fun n' u' hB => by
                have e : n' = n := by have := hB.len; rw [hn] at this; omega
                subst e
                cases u' with
                | true => exact hu hB.ahead
                | false => exact hf hB.ahead
              have hu' : (f p == gw p n true 1000) = false := by simpa using hu
              have hf' : (f p != gw p n false 1000) = true := by simpa using hf
              clear hn
              generalize f p = y at *
              generalize f (p + 2 + n) = x at *
              go_enter Try.func18, Try.ntmps18
              go_wp2_with (first
                | (go_at_call 39; refine (l2In_any _ _).mono ?_; rintro e w' ⟨rfl, rfl⟩)
                | (go_at_call 40; refine (in_any _ _ _ _).mono ?_; rintro e w' ⟨rfl, rfl⟩))
              go_big_quiet (first
                | (go_at_call 41; exact Calls.quiet_of_same (specGuard_any _ _ _ _))
                | (go_at_call 42; exact Calls.quiet_of_same (specRear_any _ _ _ _)))
              go_wp2_with fail
              have d : Below w.heap.size w ((w.alloc (.cells #[.slice (some ⟨b, o, none⟩) N cap] 34)).drewN nq) := below_drewN ((Below.refl _ _).alloc (Nat.le_refl _) _) nq
              have b0 : ((w.alloc (.cells #[.slice (some ⟨b, o, none⟩) N cap] 34)).drewN nq).cell? ⟨w.heap.size, 0, none⟩ = some (.slice (some ⟨b, o, none⟩) N cap) := World.cell?_alloc_new w _ _ 0
              have c0 := (d.cell (p := ⟨b, o + p, none⟩) hb).trans c0
              have c2 := (d.cell (p := ⟨b, o + (p + 2 + n), none⟩) hb).trans c2
              have HC : Hid (∀ j, j < N → ((w.alloc (.cells #[.slice (some ⟨b, o, none⟩) N cap] 34)).drewN nq).cell? ⟨b, o + j, none⟩ = some (.int .i64 (f j))) := fun j hj => (d.cell (p := ⟨b, o + j, none⟩) hb).trans (HC0.out j hj)
              clear HC0
              generalize ((w.alloc (.cells #[.slice (some ⟨b, o, none⟩) N cap] 34)).drewN nq) = W at d b0 c0 c2 HC ⊢
              have HD : Hid (Below w.heap.size w W) := d
              clear d
              go_big_quiet (first
                | (go_at_call 41; exact Calls.quiet_of_same (specGuard_any _ _ _ _))
                | (go_at_call 42; exact Calls.quiet_of_same (specRear_any _ _ _ _)))
              go_wp2_with fail
              exact bodyPost_ret (v := .tuple #[.int .i64 0, .bool false, .bool false]) (by simp [results, Try.results18, go_sem]) rfl ⟨ret_bv (a := none) HO.out.symm, below_drewN HD.out _⟩
        · have HO : Hid (blkO f N p = none) := blkO_none fun n' u' hB => by
            have e : n' = n := by have := hB.len; rw [hn] at this; omega
            subst e
            exact h4 hB.fit
          clear hc hn
          have h4' : N < p + n + 3 := by omega
          go_enter Try.func18, Try.ntmps18
          go_wp2_with (first
            | (go_at_call 39; refine (l2In_any _ _).mono ?_; rintro e w' ⟨rfl, rfl⟩)
            | (go_at_call 40; refine (in_any _ _ _ _).mono ?_; rintro e w' ⟨rfl, rfl⟩))
          exact bodyPost_ret (v := .tuple #[.int .i64 0, .bool false, .bool false]) (by simp [results, Try.results18, go_sem]) rfl ⟨ret_bv (a := none) HO.out.symm, (Below.refl _ _).alloc (Nat.le_refl _) _⟩
      · have i2 : inB (f (p + 1)) 1 4000 = false := by simp [inB]; omega
        have HO : Hid (blkO f N p = none) := blkO_none fun n' u' hB => h3 (by rw [hB.len]; have := hB.h1; have := hB.hn; omega)
        clear hc h3
        generalize f (p + 1) = x at *
        go_enter Try.func18, Try.ntmps18
        go_wp2_with (first
          | (go_at_call 39; refine (l2In_any _ _).mono ?_; rintro e w' ⟨rfl, rfl⟩)
          | (go_at_call 40; refine (in_any _ _ _ _).mono ?_; rintro e w' ⟨rfl, rfl⟩))
        exact bodyPost_ret (v := .tuple #[.int .i64 0, .bool false, .bool false]) (by simp [results, Try.results18, go_sem]) rfl ⟨ret_bv (a := none) HO.out.symm, (Below.refl _ _).alloc (Nat.le_refl _) _⟩
    · have HO : Hid (blkO f N p = none) := blkO_none fun n' u' hB => h2 (by have := hB.fit; have := hB.h1; omega)
      go_enter Try.func18, Try.ntmps18
      go_wp2_with (first
        | (go_at_call 39; refine (l2In_any _ _).mono ?_; rintro e w' ⟨rfl, rfl⟩)
        | (go_at_call 40; refine (in_any _ _ _ _).mono ?_; rintro e w' ⟨rfl, rfl⟩))
      exact bodyPost_ret (v := .tuple #[.int .i64 0, .bool false, .bool false]) (by simp [results, Try.results18, go_sem]) rfl ⟨ret_bv (a := none) HO.out.symm, (Below.refl _ _).alloc (Nat.le_refl _) _⟩
  · have i1 : inA p = false := by simp [inA]; omega
    have HO : Hid (blkO f N p = none) := blkO_none fun n' u' hB => h1 hB.hp
    go_enter Try.func18, Try.ntmps18
    go_wp2_with (first
      | (go_at_call 39; refine (l2In_any _ _).mono ?_; rintro e w' ⟨rfl, rfl⟩)
      | (go_at_call 40; refine (in_any _ _ _ _).mono ?_; rintro e w' ⟨rfl, rfl⟩))
    exact bodyPost_ret (v := .tuple #[.int .i64 0, .bool false, .bool false]) (by simp [results, Try.results18, go_sem]) rfl ⟨ret_bv (a := none) HO.out.symm, (Below.refl _ _).alloc (Nat.le_refl _) _⟩
end Go.Proofs.Ytdglefedbkgghaa
namespace Go.Proofs.Ytdglefedbkgghaa
open Go.RowKit
set_option linter.unusedVariables false

set_option maxHeartbeats 1000000 in
theorem words_some (b o N cap : Nat) (f : Nat → Int) (p n : Nat) (w : World) (hc : ∀ j, j < N → w.cell? ⟨b, o + j, none⟩ = some (.int .i64 (f j))) (hN : N ≤ 1048576) (hcap : N ≤ cap) (hp : p ≤ 4000) (hn : f (p + 1) = n) (h1 : 1 ≤ n) (h4 : n ≤ 4000) (hf : p + n + 3 ≤ N) :
    Calls Try.prog 61 #[.agg #[.slice (some ⟨b, o, none⟩) N cap], .int .i64 p] w fun e w' => e = .returned (.slice (some ⟨b, o + p, none⟩) (n + 3) (n + 3)) ∧ Below w.heap.size w w' := by
  have c1 := hc (p + 1) (by omega)
  have hb : b < w.heap.size := World.block_lt_of_cell? w _ c1
  have hne : ¬ b = w.heap.size := by omega
  have i1 : inA p = true := by simp [inA]; omega
  have i2 : inA n = true := by simp [inA]; omega
  rw [hn] at c1
  clear hc hn
  go_enter Try.func61, Try.ntmps61
  go_wp2_with (go_at_call 70; refine (inArena_any _ _).mono ?_; rintro e w' ⟨rfl, rfl⟩)
  go_ret
  have e : p + n + 3 - p = n + 3 := by omega
  exact ⟨by first | rfl | (simp [e]; done) | trace_state, (Below.refl _ _).alloc (Nat.le_refl _) _⟩

set_option maxHeartbeats 1000000 in
theorem words_none (ao : Option Addr) (N cap : Nat) (f : Nat → Int) (x : Int) (w : World) (hr : Rd w ao N f) (hN : N ≤ 1048576) (h : ∀ p n : Nat, x = p → p ≤ 4000 → f (p + 1) = n → 1 ≤ n → n ≤ 4000 → ¬ p + n + 3 ≤ N) :
    Calls Try.prog 61 #[.agg #[.slice ao N cap], .int .i64 x] w fun e w' => e = .returned (.slice none 0 0) ∧ Below w.heap.size w w' := by
  cases i1 : inA x with
  | false =>
    clear h
    go_enter Try.func61, Try.ntmps61
    go_wp2_with (go_at_call 70; refine (inArena_any _ _).mono ?_; rintro e w' ⟨rfl, rfl⟩)
    go_ret
    exact ⟨rfl, (Below.refl _ _).alloc (Nat.le_refl _) _⟩
  | true =>
    have hx := inA_true i1
    obtain ⟨p, rfl⟩ : ∃ p : Nat, x = p := ⟨x.toNat, by omega⟩
    by_cases h2 : p + 4 ≤ N
    · obtain ⟨b, o, rfl, hc⟩ := hr (by omega)
      have c1 := hc (p + 1) (by omega)
      have hb : b < w.heap.size := World.block_lt_of_cell? w _ c1
      have hne : ¬ b = w.heap.size := by omega
      clear hc
      by_cases h1 : f (p + 1) < 1
      · generalize f (p + 1) = x at *
        go_enter Try.func61, Try.ntmps61
        go_wp2_with (go_at_call 70; refine (inArena_any _ _).mono ?_; rintro e w' ⟨rfl, rfl⟩)
        go_ret
        exact ⟨rfl, (Below.refl _ _).alloc (Nat.le_refl _) _⟩
      · cases i2 : inA (f (p + 1)) with
        | false =>
          clear h
          generalize f (p + 1) = x at *
          go_enter Try.func61, Try.ntmps61
          go_wp2_with (go_at_call 70; refine (inArena_any _ _).mono ?_; rintro e w' ⟨rfl, rfl⟩)
          go_ret
          exact ⟨rfl, (Below.refl _ _).alloc (Nat.le_refl _) _⟩
        | true =>
          have hy := inA_true i2
          have h3 : (N : Int) - p - 3 < f (p + 1) := by
            have := h p (f (p + 1)).toNat rfl (by omega) (by omega) (by omega) (by omega)
            omega
          clear h
          generalize f (p + 1) = x at *
          go_enter Try.func61, Try.ntmps61
          go_wp2_with (go_at_call 70; refine (inArena_any _ _).mono ?_; rintro e w' ⟨rfl, rfl⟩)
          go_ret
          exact ⟨rfl, (Below.refl _ _).alloc (Nat.le_refl _) _⟩
    · clear h
      go_enter Try.func61, Try.ntmps61
      go_wp2_with (go_at_call 70; refine (inArena_any _ _).mono ?_; rintro e w' ⟨rfl, rfl⟩)
      go_ret
      exact ⟨rfl, (Below.refl _ _).alloc (Nat.le_refl _) _⟩

/-- r tells whether all of the M numbers g are the poison of the places from q on. -/
structure PoisR (r : Bool) (M : Nat) (g : Nat → Int) (q : Nat) : Prop where
  is : r = true ↔ ∀ j, j < M → g j = pois (q + j : Nat)

set_option maxHeartbeats 1000000 in
theorem allPois_any (b o M cap : Nat) (g : Nat → Int) (q : Nat) (w : World) (hc : ∀ j, j < M → w.cell? ⟨b, o + j, none⟩ = some (.int .i64 (g j))) (hM : M ≤ 1048576) (hq : q ≤ 2097152) :
    Calls Try.prog 63 #[.slice (some ⟨b, o, none⟩) M cap, .int .i64 q] w fun e w' => ∃ r : Bool, e = .returned (.bool r) ∧ PoisR r M g q ∧ w' = w := by
  have HC : Hid (∀ j, j < M → w.cell? ⟨b, o + j, none⟩ = some (.int .i64 (g j))) := hc
  clear hc
  go_enter Try.func63, Try.ntmps63
  go_wp2_with fail
  go_loop [9] (fun i => ∃ m : Nat, m ≤ M ∧ i = .int .i64 m ∧ ∀ j, j < m → g j = pois (q + j : Nat)) (fun i => M - (intOf i).toNat)
  case atStart => exact ⟨0, Nat.zero_le _, by simp, fun j hj => absurd hj (Nat.not_lt_zero _)⟩
  case round =>
    obtain ⟨m, hm, rfl, hall⟩ := hrel
    have HALL : Hid (∀ j, j < m → g j = pois (q + j : Nat)) := hall
    clear hall
    by_cases hlt : m < M
    · have cm := HC.out m hlt
      have e2 : ((q + m : Nat) : Int) = (q : Int) + m := by omega
      by_cases hx : g m = pois (q + m : Nat)
      · have HX : Hid (g m = pois (q + m : Nat)) := hx
        rw [hx, e2] at cm
        clear hx e2
        go_wp2_with (go_at_call 73; refine (implPois_any _ _).mono ?_; rintro e w' ⟨rfl, rfl⟩)
        go_round
        case rel =>
          refine ⟨m + 1, by omega, by go_num, fun j hj => ?_⟩
          by_cases e : j = m
          · rw [e]; exact HX.out
          · exact HALL.out j (by omega)
        case measure => simp [intOf]; omega
      · have HX : Hid (¬ g m = pois (q + m : Nat)) := hx
        rw [e2] at hx
        generalize hy : g m = y at *
        have HY : Hid (g m = y) := hy
        have hx' : (y == pois ((q : Int) + m)) = false := by simpa using hx
        clear hy e2
        go_wp2_with (go_at_call 73; refine (implPois_any _ _).mono ?_; rintro e w' ⟨rfl, rfl⟩)
        go_ret
        refine ⟨false, rfl, ⟨⟨fun h => (by cases h), fun h => absurd (h m hlt) ?_⟩⟩, rfl⟩
        rw [HY.out]
        exact HX.out
    · have hme : m = M := by omega
      subst hme
      go_wp2_with fail
      go_ret
      exact Or.inr ⟨rfl, ⟨⟨fun _ => HALL.out, fun _ => rfl⟩⟩, rfl⟩
end Go.Proofs.Ytdglefedbkgghaa
