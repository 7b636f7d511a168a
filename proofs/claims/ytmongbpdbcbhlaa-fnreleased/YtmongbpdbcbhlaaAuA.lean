/-
  What both kinds of Audit answer.
-/
import Derived.Test.YtmongbpdbcbhlaaBsA
namespace Go.Proofs.Ytmongbpdbcbhlaa
open Go.RowKit
set_option linter.unusedVariables false

/-- The audit from the place p on, behind a free block or not. -/
noncomputable def aud (f : Nat → Int) (N : Nat) (p : Nat) (fr : Bool) : Int :=
  if p < N then (if (blkO f N p).isNone || (fr && !((blkO f N p).elim false (·.2))) then (p : Int) else aud f N (p + (blkO f N p).elim 0 (·.1) + 3) (!((blkO f N p).elim false (·.2)))) else -1
termination_by N - p
theorem aud_end {f : Nat → Int} {N p : Nat} {fr : Bool} (h : ¬ p < N) : aud f N p fr = -1 := by rw [aud, if_neg h]
theorem aud_none {f : Nat → Int} {N p : Nat} {fr : Bool} (hp : p < N) (h : blkO f N p = none) : aud f N p fr = p := by rw [aud, if_pos hp, h]; simp
theorem aud_two {f : Nat → Int} {N p n : Nat} (hp : p < N) (h : blkO f N p = some (n, false)) : aud f N p true = p := by rw [aud, if_pos hp, h]; simp
theorem aud_on {f : Nat → Int} {N p n : Nat} {u fr : Bool} (hp : p < N) (h : blkO f N p = some (n, u)) (hk : (fr && !u) = false) : aud f N p fr = aud f N (p + n + 3) (!u) := by
  rw [aud, if_pos hp, h]
  simp only [Option.isNone_some, Option.elim_some, Bool.false_or, hk, Bool.false_eq_true, if_false]

set_option maxHeartbeats 2000000 in
set_option maxRecDepth 100000 in
theorem specAudit_any (ao : Option Addr) (N cap : Nat) (f : Nat → Int) (w : World) (hr : Rd w ao N f) (hN : N ≤ 1048576) :
    Calls Try.prog 35 #[.agg #[.slice ao N cap]] w fun e w' => e = .returned (.int .i64 (aud f N 0 false)) ∧ Below w.heap.size w w' := by
  have HR : Hid (Rd w ao N f) := hr
  clear hr
  go_enter Try.func35, Try.ntmps35
  go_wp2_with fail
  have hb0 : (w.alloc (.cells #[.slice ao N cap] 26)).cell? ⟨w.heap.size, 0, none⟩ = some (.slice ao N cap) := World.cell?_alloc_new w _ _ 0
  have hbw : Below w.heap.size w (w.alloc (.cells #[.slice ao N cap] 26)) := (Below.refl _ _).alloc (Nat.le_refl _) _
  generalize (w.alloc (.cells #[.slice ao N cap] 26)) = W0 at hb0 hbw ⊢
  have HB0 : Hid (W0.cell? ⟨w.heap.size, 0, none⟩ = some (.slice ao N cap) ∧ Below w.heap.size w W0) := ⟨hb0, hbw⟩
  have HZ : Hid (w.heap.size < W0.heap.size) := World.block_lt_of_cell? W0 _ hb0
  clear hb0 hbw
  go_loopw [3, 4] (fun a b wr => ∃ (p : Nat) (fr : Bool), p ≤ N ∧ a = .int .i64 p ∧ b = .bool fr ∧ Below W0.heap.size W0 wr ∧ aud f N p fr = aud f N 0 false) (fun a _ _ => N - (intOf a).toNat)
  case atStart => exact ⟨0, false, Nat.zero_le _, rfl, rfl, Below.refl _ _, rfl⟩
  case round =>
    obtain ⟨p, fr, hp, rfl, rfl, hbl, hap⟩ := hrel
    have HAP : Hid (aud f N p fr = aud f N 0 false) := hap
    have b0 := (hbl.cell (p := ⟨w.heap.size, 0, none⟩) HZ.out).trans HB0.out.1
    have hbww : Below w.heap.size w wr := HB0.out.2.trans (hbl.mono (Nat.le_of_lt HZ.out))
    have HRr : Hid (Rd wr ao N f) := HR.out.below hbww
    have HBL : Hid (Below W0.heap.size W0 wr) := hbl
    have HBW : Hid (Below w.heap.size w wr) := hbww
    clear hbl hap hbww
    by_cases hlt : p < N
    · go_wp2_with fail
      refine (specAt_any ao N cap f p _ HRr.out hN (by omega)).mono ?_
      rintro e w1 ⟨rfl, hb1⟩
      have HB1 : Hid (Below w.heap.size w w1 ∧ Below W0.heap.size W0 w1) := ⟨below_join HBW.out hb1, below_join HBL.out hb1⟩
      clear hb1
      cases hB : blkO f N p with
      | none =>
        have HO : Hid (aud f N 0 false = p) := HAP.out.symm.trans (aud_none hlt hB)
        clear hB
        dsimp only [bv]
        go_wp2_with fail
        go_ret
        exact ⟨ret_int HO.out.symm, HB1.out.1⟩
      | some x =>
        obtain ⟨n, u⟩ := x
        have hfit := (blkO_of hB).fit
        have HB : Hid (blkO f N p = some (n, u)) := hB
        clear hB
        dsimp only [bv]
        cases u with
        | true =>
          have HO : Hid (aud f N (p + n + 3) false = aud f N 0 false) := by have := aud_on (fr := fr) hlt HB.out (by simp); exact this.symm.trans HAP.out
          cases fr with
          | true =>
            go_wp2_with fail
            go_roundw
            case rel => exact ⟨p + n + 3, false, hfit, by go_num, rfl, HB1.out.2, HO.out⟩
            case measure => simp [intOf]; omega
          | false =>
            go_wp2_with fail
            go_roundw
            case rel => exact ⟨p + n + 3, false, hfit, by go_num, rfl, HB1.out.2, HO.out⟩
            case measure => simp [intOf]; omega
        | false =>
          cases fr with
          | true =>
            have HO : Hid (aud f N 0 false = p) := HAP.out.symm.trans (aud_two hlt HB.out)
            go_wp2_with fail
            go_ret
            exact ⟨ret_int HO.out.symm, HB1.out.1⟩
          | false =>
            have HO : Hid (aud f N (p + n + 3) true = aud f N 0 false) := by have := aud_on (fr := false) hlt HB.out (by simp); exact this.symm.trans HAP.out
            go_wp2_with fail
            go_roundw
            case rel => exact ⟨p + n + 3, true, hfit, by go_num, rfl, HB1.out.2, HO.out⟩
            case measure => simp [intOf]; omega
    · have HO : Hid (aud f N 0 false = -1) := HAP.out.symm.trans (aud_end hlt)
      go_wp2_with fail
      go_ret
      exact ⟨ret_int HO.out.symm, HBW.out⟩

set_option maxHeartbeats 2000000 in
set_option maxRecDepth 100000 in
theorem implAudit_any (ao : Option Addr) (N cap : Nat) (f : Nat → Int) (w : World) (hr : Rd w ao N f) (hN : N ≤ 1048576) (hcap : N ≤ cap) :
    Calls Try.prog 13 #[.agg #[.slice ao N cap]] w fun e w' => e = .returned (.int .i64 (aud f N 0 false)) ∧ Below w.heap.size w w' := by
  have HR : Hid (Rd w ao N f) := hr
  clear hr
  go_enter Try.func13, Try.ntmps13
  go_wp2_with fail
  have hb0 : (w.alloc (.cells #[.slice ao N cap] 26)).cell? ⟨w.heap.size, 0, none⟩ = some (.slice ao N cap) := World.cell?_alloc_new w _ _ 0
  have hbw : Below w.heap.size w (w.alloc (.cells #[.slice ao N cap] 26)) := (Below.refl _ _).alloc (Nat.le_refl _) _
  generalize (w.alloc (.cells #[.slice ao N cap] 26)) = W0 at hb0 hbw ⊢
  have HB0 : Hid (W0.cell? ⟨w.heap.size, 0, none⟩ = some (.slice ao N cap) ∧ Below w.heap.size w W0) := ⟨hb0, hbw⟩
  have HZ : Hid (w.heap.size < W0.heap.size) := World.block_lt_of_cell? W0 _ hb0
  clear hb0 hbw
  go_loopw [3, 4] (fun b a wr => ∃ (p : Nat) (fr : Bool), p ≤ N ∧ a = .int .i64 p ∧ b = .bool fr ∧ Below W0.heap.size W0 wr ∧ aud f N p fr = aud f N 0 false) (fun _ a _ => N - (intOf a).toNat)
  case atStart => exact ⟨0, false, Nat.zero_le _, rfl, rfl, Below.refl _ _, rfl⟩
  case round =>
    obtain ⟨p, fr, hp, rfl, rfl, hbl, hap⟩ := hrel
    have HAP : Hid (aud f N p fr = aud f N 0 false) := hap
    have b0 := (hbl.cell (p := ⟨w.heap.size, 0, none⟩) HZ.out).trans HB0.out.1
    have hbww : Below w.heap.size w wr := HB0.out.2.trans (hbl.mono (Nat.le_of_lt HZ.out))
    have HRr : Hid (Rd wr ao N f) := HR.out.below hbww
    have HBL : Hid (Below W0.heap.size W0 wr) := hbl
    have HBW : Hid (Below w.heap.size w wr) := hbww
    clear hbl hap hbww
    by_cases hlt : p < N
    · go_wp2_with fail
      refine (implAt_any ao N cap f p _ HRr.out hN hcap).mono ?_
      rintro e w1 ⟨rfl, hb1⟩
      have HB1 : Hid (Below w.heap.size w w1 ∧ Below W0.heap.size W0 w1) := ⟨below_join HBW.out hb1, below_join HBL.out hb1⟩
      clear hb1
      cases hB : blkO f N p with
      | none =>
        have HO : Hid (aud f N 0 false = p) := HAP.out.symm.trans (aud_none hlt hB)
        clear hB
        dsimp only [bv]
        go_wp2_with fail
        go_ret
        exact ⟨ret_int HO.out.symm, HB1.out.1⟩
      | some x =>
        obtain ⟨n, u⟩ := x
        have hfit := (blkO_of hB).fit
        have HB : Hid (blkO f N p = some (n, u)) := hB
        clear hB
        dsimp only [bv]
        cases u with
        | true =>
          have HO : Hid (aud f N (p + n + 3) false = aud f N 0 false) := by have := aud_on (fr := fr) hlt HB.out (by simp); exact this.symm.trans HAP.out
          cases fr with
          | true =>
            go_wp2_with fail
            go_roundw
            case rel => exact ⟨p + n + 3, false, hfit, by go_num, rfl, HB1.out.2, HO.out⟩
            case measure => simp [intOf]; omega
          | false =>
            go_wp2_with fail
            go_roundw
            case rel => exact ⟨p + n + 3, false, hfit, by go_num, rfl, HB1.out.2, HO.out⟩
            case measure => simp [intOf]; omega
        | false =>
          cases fr with
          | true =>
            have HO : Hid (aud f N 0 false = p) := HAP.out.symm.trans (aud_two hlt HB.out)
            go_wp2_with fail
            go_ret
            exact ⟨ret_int HO.out.symm, HB1.out.1⟩
          | false =>
            have HO : Hid (aud f N (p + n + 3) true = aud f N 0 false) := by have := aud_on (fr := false) hlt HB.out (by simp); exact this.symm.trans HAP.out
            go_wp2_with fail
            go_roundw
            case rel => exact ⟨p + n + 3, true, hfit, by go_num, rfl, HB1.out.2, HO.out⟩
            case measure => simp [intOf]; omega
    · have HO : Hid (aud f N 0 false = -1) := HAP.out.symm.trans (aud_end hlt)
      go_wp2_with fail
      go_ret
      exact ⟨ret_int HO.out.symm, HBW.out⟩

end Go.Proofs.Ytmongbpdbcbhlaa
