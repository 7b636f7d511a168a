/-
  What a block is; what the specification's BlockAt answers.
-/
import Derived.Test.YtmongbpdbcbhlaaArD
namespace Go.Proofs.Ytmongbpdbcbhlaa
open Go.RowKit
set_option linter.unusedVariables false

/-- At the place p of the N words f stands a block of n words for its holder. -/
structure Blk (f : Nat → Int) (N p n : Nat) (u : Bool) : Prop where
  hp : p ≤ 4000
  h1 : 1 ≤ n
  hn : n ≤ 4000
  fit : p + n + 3 ≤ N
  len : f (p + 1) = n
  ahead : f p = gw p n u 1000
  behind : f (p + 2 + n) = gw p n u 1001
  free : u = false → ∀ i, i < n → f (p + 2 + i) = pois (p + 2 + i : Nat)

theorem gw_use (p n : Int) (h0 : 0 ≤ p) (h1 : p ≤ 4000) (h2 : 0 ≤ n) (h3 : n ≤ 4000) (m : Int) : gw p n true m ≠ gw p n false m := by
  have e1 : inA p = true := by simp [inA, h0, h1]
  have e2 : inA n = true := by simp [inA, h2, h3]
  simp only [gw, e1, e2, useOf, Bool.and_self, if_true, Bool.false_eq_true, if_false]
  omega
theorem Blk.uniq {f : Nat → Int} {N p n n' : Nat} {u u' : Bool} (h : Blk f N p n u) (h' : Blk f N p n' u') : n = n' ∧ u = u' := by
  have e : n = n' := by have a := h.len; rw [h'.len] at a; omega
  subst e
  refine ⟨rfl, ?_⟩
  have a := h.ahead
  rw [h'.ahead] at a
  have b := gw_use p n (by omega) (by have := h.hp; omega) (by omega) (by have := h.hn; omega) 1000
  cases u <;> cases u'
  · rfl
  · exact absurd a b
  · exact absurd a.symm b
  · rfl

open Classical in
noncomputable def blkO (f : Nat → Int) (N p : Nat) : Option (Nat × Bool) := if h : ∃ x : Nat × Bool, Blk f N p x.1 x.2 then some (Classical.choose h) else none
theorem blkO_of {f : Nat → Int} {N p n : Nat} {u : Bool} (h : blkO f N p = some (n, u)) : Blk f N p n u := by
  unfold blkO at h
  split at h
  · rename_i hx
    have e := Option.some.inj h
    have c := Classical.choose_spec hx
    rw [e] at c
    exact c
  · cases h
theorem blkO_some {f : Nat → Int} {N p n : Nat} {u : Bool} (h : Blk f N p n u) : blkO f N p = some (n, u) := by
  have hx : ∃ x : Nat × Bool, Blk f N p x.1 x.2 := ⟨(n, u), h⟩
  unfold blkO
  rw [dif_pos hx]
  obtain ⟨e1, e2⟩ := (Classical.choose_spec hx).uniq h
  congr 1
  exact Prod.ext e1 e2
theorem blkO_none {f : Nat → Int} {N p : Nat} (h : ∀ n u, ¬ Blk f N p n u) : blkO f N p = none := by
  unfold blkO
  rw [dif_neg]
  rintro ⟨x, hx⟩
  exact h _ _ hx

def bv : Option (Nat × Bool) → Value
  | none => .tuple #[.int .i64 0, .bool false, .bool false]
  | some (n, u) => .tuple #[.int .i64 n, .bool u, .bool true]
theorem ret_bv {a b : Option (Nat × Bool)} (h : a = b) : Ending.returned (bv a) = .returned (bv b) := by rw [h]

set_option maxHeartbeats 4000000 in
set_option maxRecDepth 100000 in
theorem specAt_any (ao : Option Addr) (N cap : Nat) (f : Nat → Int) (p : Nat) (w : World) (hr : Rd w ao N f) (hN : N ≤ 1048576) (hp : p ≤ 2097152) :
    Calls Try.prog 37 #[.agg #[.slice ao N cap], .int .i64 p] w fun e w' => e = .returned (bv (blkO f N p)) ∧ Below w.heap.size w w' := by
  by_cases h1 : p ≤ 4000
  · have i1 : inA p = true := by simp [inA]; omega
    by_cases h2 : p + 4 ≤ N
    · obtain ⟨b, o, rfl, hc⟩ := hr (by omega)
      have c1 := hc (p + 1) (by omega)
      have hb : b < w.heap.size := World.block_lt_of_cell? w _ c1
      have hne : ¬ b = w.heap.size := by omega
      by_cases h3 : 1 ≤ f (p + 1) ∧ f (p + 1) ≤ 4000
      · have i2 : inB (f (p + 1)) 1 4000 = true := by simp [inB, h3.1, h3.2]
        obtain ⟨n, hn⟩ : ∃ n : Nat, f (p + 1) = n := ⟨(f (p + 1)).toNat, by omega⟩
        rw [hn] at c1 i2 h3
        by_cases h4 : p + n + 3 ≤ N
        · have c0 := hc p (by omega)
          have c2 := hc (p + 2 + n) (by omega)
          have W1 : IntKind.i64.wrap ((p : Int) + 2) = (p : Int) + 2 := by rw [IntKind.wrap_i64]; omega
          have W2 : IntKind.i64.wrap ((p : Int) + 2 + n) = (p : Int) + 2 + n := by rw [IntKind.wrap_i64]; omega
          have W3 : ((p : Int) + 2 + n).toNat = p + 2 + n := by omega
          have HC0 : Hid (∀ j, j < N → w.cell? ⟨b, o + j, none⟩ = some (.int .i64 (f j))) := hc
          clear hc
          by_cases hu : f p = gw p n true 1000
          · by_cases hv : f (p + 2 + n) = gw p n true 1001
            · have HO : Hid (blkO f N p = some (n, true)) := blkO_some ⟨h1, by omega, by omega, h4, hn, hu, hv, fun h => by cases h⟩
              rw [hu] at c0
              rw [hv] at c2
              clear hu hv hn
              go_enter Try.func37, Try.ntmps37
              go_wp2_with (first
                | (go_at_call 64; refine (l2In_any _ _).mono ?_; rintro e w' ⟨rfl, rfl⟩)
                | (go_at_call 55; refine (in_any _ _ _ _).mono ?_; rintro e w' ⟨rfl, rfl⟩))
              go_big_quiet (first
                | (go_at_call 65; exact Calls.quiet_of_same (specGuard_any _ _ _ _))
                | (go_at_call 66; exact Calls.quiet_of_same (specRear_any _ _ _ _)))
              go_wp2_with fail
              have d : Below w.heap.size w ((w.alloc (.cells #[.slice (some ⟨b, o, none⟩) N cap] 26)).drewN nq) := below_drewN ((Below.refl _ _).alloc (Nat.le_refl _) _) nq
              have b0 : ((w.alloc (.cells #[.slice (some ⟨b, o, none⟩) N cap] 26)).drewN nq).cell? ⟨w.heap.size, 0, none⟩ = some (.slice (some ⟨b, o, none⟩) N cap) := World.cell?_alloc_new w _ _ 0
              have c0 := (d.cell (p := ⟨b, o + p, none⟩) hb).trans c0
              have c2 := (d.cell (p := ⟨b, o + (p + 2 + n), none⟩) hb).trans c2
              have HC : Hid (∀ j, j < N → ((w.alloc (.cells #[.slice (some ⟨b, o, none⟩) N cap] 26)).drewN nq).cell? ⟨b, o + j, none⟩ = some (.int .i64 (f j))) := fun j hj => (d.cell (p := ⟨b, o + j, none⟩) hb).trans (HC0.out j hj)
              clear HC0
              generalize ((w.alloc (.cells #[.slice (some ⟨b, o, none⟩) N cap] 26)).drewN nq) = W at d b0 c0 c2 HC ⊢
              have HD : Hid (Below w.heap.size w W) := d
              clear d
              go_big_quiet (first
                | (go_at_call 65; exact Calls.quiet_of_same (specGuard_any _ _ _ _))
                | (go_at_call 66; exact Calls.quiet_of_same (specRear_any _ _ _ _)))
              go_wp2_with fail
              go_loop [9] (fun i => i = .int .i64 (p + 2 : Nat)) (fun _ => 0)
              case atStart => simp
              case round =>
                subst hrel
                go_wp2_with fail
                exact bodyPost_ret (v := .tuple #[.int .i64 n, .bool true, .bool true]) (by simp [results, Try.results37, go_sem]) rfl ⟨ret_bv (a := some (n, true)) HO.out.symm, below_drewN HD.out _⟩
            · have HO : Hid (blkO f N p = none) := blkO_none fun n' u' hB => by
                have e : n' = n := by have := hB.len; rw [hn] at this; omega
                subst e
                cases u' with
                | true => exact hv hB.behind
                | false => exact gw_use p n' (by omega) (by omega) (by omega) (by omega) 1000 (hu.symm.trans hB.ahead)
              rw [hu] at c0
              clear hu hn
              generalize f (p + 2 + n) = x at *
              have hv' : (x == gw p n true 1001) = false := by simpa using hv
              go_enter Try.func37, Try.ntmps37
              go_wp2_with (first
                | (go_at_call 64; refine (l2In_any _ _).mono ?_; rintro e w' ⟨rfl, rfl⟩)
                | (go_at_call 55; refine (in_any _ _ _ _).mono ?_; rintro e w' ⟨rfl, rfl⟩))
              go_big_quiet (first
                | (go_at_call 65; exact Calls.quiet_of_same (specGuard_any _ _ _ _))
                | (go_at_call 66; exact Calls.quiet_of_same (specRear_any _ _ _ _)))
              go_wp2_with fail
              have d : Below w.heap.size w ((w.alloc (.cells #[.slice (some ⟨b, o, none⟩) N cap] 26)).drewN nq) := below_drewN ((Below.refl _ _).alloc (Nat.le_refl _) _) nq
              have b0 : ((w.alloc (.cells #[.slice (some ⟨b, o, none⟩) N cap] 26)).drewN nq).cell? ⟨w.heap.size, 0, none⟩ = some (.slice (some ⟨b, o, none⟩) N cap) := World.cell?_alloc_new w _ _ 0
              have c0 := (d.cell (p := ⟨b, o + p, none⟩) hb).trans c0
              have c2 := (d.cell (p := ⟨b, o + (p + 2 + n), none⟩) hb).trans c2
              have HC : Hid (∀ j, j < N → ((w.alloc (.cells #[.slice (some ⟨b, o, none⟩) N cap] 26)).drewN nq).cell? ⟨b, o + j, none⟩ = some (.int .i64 (f j))) := fun j hj => (d.cell (p := ⟨b, o + j, none⟩) hb).trans (HC0.out j hj)
              clear HC0
              generalize ((w.alloc (.cells #[.slice (some ⟨b, o, none⟩) N cap] 26)).drewN nq) = W at d b0 c0 c2 HC ⊢
              have HD : Hid (Below w.heap.size w W) := d
              clear d
              go_big_quiet (first
                | (go_at_call 65; exact Calls.quiet_of_same (specGuard_any _ _ _ _))
                | (go_at_call 66; exact Calls.quiet_of_same (specRear_any _ _ _ _)))
              go_wp2_with fail
              exact bodyPost_ret (v := .tuple #[.int .i64 0, .bool false, .bool false]) (by simp [results, Try.results37, go_sem]) rfl ⟨ret_bv (a := none) HO.out.symm, below_drewN HD.out _⟩
          · by_cases hf : f p = gw p n false 1000
            · have hg : (gw p n false 1000 == gw p n true 1000) = false := by
                have := gw_use p n (by omega) (by omega) (by omega) (by omega) 1000
                simpa using fun e => this e.symm
              by_cases hv : f (p + 2 + n) = gw p n false 1001
              · have HN : Hid (∀ j, j < n → f (p + 2 + j) ≠ pois (p + 2 + j : Nat) → blkO f N p = none) := fun j hj hx => blkO_none fun n' u' hB => by
                  have e : n' = n := by have := hB.len; rw [hn] at this; omega
                  subst e
                  cases u' with
                  | true => exact hu hB.ahead
                  | false => exact hx (hB.free rfl j hj)
                have HY : Hid ((∀ j, j < n → f (p + 2 + j) = pois (p + 2 + j : Nat)) → blkO f N p = some (n, false)) := fun hx => blkO_some ⟨h1, by omega, by omega, h4, hn, hf, hv, fun _ => hx⟩
                rw [hf] at c0
                rw [hv] at c2
                clear hu hv hn hf
                go_enter Try.func37, Try.ntmps37
                go_wp2_with (first
                  | (go_at_call 64; refine (l2In_any _ _).mono ?_; rintro e w' ⟨rfl, rfl⟩)
                  | (go_at_call 55; refine (in_any _ _ _ _).mono ?_; rintro e w' ⟨rfl, rfl⟩))
                go_big_quiet (first
                  | (go_at_call 65; exact Calls.quiet_of_same (specGuard_any _ _ _ _))
                  | (go_at_call 66; exact Calls.quiet_of_same (specRear_any _ _ _ _)))
                go_wp2_with fail
                have d : Below w.heap.size w ((w.alloc (.cells #[.slice (some ⟨b, o, none⟩) N cap] 26)).drewN nq) := below_drewN ((Below.refl _ _).alloc (Nat.le_refl _) _) nq
                have b0 : ((w.alloc (.cells #[.slice (some ⟨b, o, none⟩) N cap] 26)).drewN nq).cell? ⟨w.heap.size, 0, none⟩ = some (.slice (some ⟨b, o, none⟩) N cap) := World.cell?_alloc_new w _ _ 0
                have c0 := (d.cell (p := ⟨b, o + p, none⟩) hb).trans c0
                have c2 := (d.cell (p := ⟨b, o + (p + 2 + n), none⟩) hb).trans c2
                have HC : Hid (∀ j, j < N → ((w.alloc (.cells #[.slice (some ⟨b, o, none⟩) N cap] 26)).drewN nq).cell? ⟨b, o + j, none⟩ = some (.int .i64 (f j))) := fun j hj => (d.cell (p := ⟨b, o + j, none⟩) hb).trans (HC0.out j hj)
                clear HC0
                generalize ((w.alloc (.cells #[.slice (some ⟨b, o, none⟩) N cap] 26)).drewN nq) = W at d b0 c0 c2 HC ⊢
                have HD : Hid (Below w.heap.size w W) := d
                clear d
                go_big_quiet (first
                  | (go_at_call 65; exact Calls.quiet_of_same (specGuard_any _ _ _ _))
                  | (go_at_call 66; exact Calls.quiet_of_same (specRear_any _ _ _ _)))
                go_wp2_with fail
                have HB0 : Hid (W.cell? ⟨w.heap.size, 0, none⟩ = some (.slice (some ⟨b, o, none⟩) N cap)) := b0
                clear b0 c0 c2
                have HZ : Hid (w.heap.size < W.heap.size) := World.block_lt_of_cell? W _ HB0.out
                generalize hW2 : W.drewN nq = W2
                have HW2 : Hid (Below W.heap.size W W2) := by rw [← hW2]; exact below_drewN (Below.refl _ _) nq
                clear hW2
                go_loopw [9] (fun i w' => ∃ m : Nat, p + 2 ≤ m ∧ m ≤ p + 2 + n ∧ i = .int .i64 m ∧ Below W.heap.size W w' ∧ ∀ j, j < m - (p + 2) → f (p + 2 + j) = pois (p + 2 + j : Nat)) (fun i _ => p + 2 + n - (intOf i).toNat)
                case atStart => exact ⟨p + 2, Nat.le_refl _, Nat.le_add_right _ _, by simp, HW2.out, fun j hj => absurd hj (by omega)⟩
                case round =>
                  obtain ⟨m, hm0, hm1, rfl, hbl, hall⟩ := hrel
                  have HBL : Hid (Below W.heap.size W wr) := hbl
                  have HALL : Hid (∀ j, j < m - (p + 2) → f (p + 2 + j) = pois (p + 2 + j : Nat)) := hall
                  have b1 := (hbl.cell (p := ⟨w.heap.size, 0, none⟩) HZ.out).trans HB0.out
                  clear hall
                  by_cases hlt : m < p + 2 + n
                  · have cm := (hbl.cell (p := ⟨b, o + m, none⟩) (Nat.lt_trans hb HZ.out)).trans (HC.out m (by omega))
                    clear hbl
                    by_cases hx : f m = pois m
                    · have HX : Hid (f m = pois m) := hx
                      rw [hx] at cm
                      clear hx
                      go_wp2_with fail
                      go_big_quiet (first | (go_at_call 67; exact Calls.quiet_of_same (specPois_any _ _)))
                      go_wp2_with fail
                      go_roundw
                      case rel =>
                        refine ⟨m + 1, by omega, by omega, by go_num, below_drewN HBL.out _, fun j hj => ?_⟩
                        by_cases e : p + 2 + j = m
                        · rw [e]; exact HX.out
                        · exact HALL.out j (by omega)
                      case measure => simp [intOf]; omega
                    · have e : p + 2 + (m - (p + 2)) = m := by omega
                      have HO : Hid (blkO f N p = none) := HN.out (m - (p + 2)) (by omega) (by rw [e]; exact hx)
                      clear e
                      have hx' : (f m == pois m) = false := by simpa using hx
                      generalize f m = y at *
                      go_wp2_with fail
                      go_big_quiet (first | (go_at_call 67; exact Calls.quiet_of_same (specPois_any _ _)))
                      go_wp2_with fail
                      exact bodyPost_ret (v := .tuple #[.int .i64 0, .bool false, .bool false]) (by simp [results, Try.results37, go_sem]) rfl ⟨ret_bv (a := none) HO.out.symm, below_drewN (HD.out.trans (HBL.out.mono (Nat.le_of_lt HZ.out))) _⟩
                  · clear hbl
                    have HO : Hid (blkO f N p = some (n, false)) := HY.out (fun j hj => HALL.out j (by omega))
                    go_wp2_with fail
                    exact bodyPost_ret (v := .tuple #[.int .i64 n, .bool false, .bool true]) (by simp [results, Try.results37, go_sem]) rfl ⟨ret_bv (a := some (n, false)) HO.out.symm, HD.out.trans (HBL.out.mono (Nat.le_of_lt HZ.out))⟩
              · have HO : Hid (blkO f N p = none) := blkO_none fun n' u' hB => by
                  have e : n' = n := by have := hB.len; rw [hn] at this; omega
                  subst e
                  cases u' with
                  | true => exact hu hB.ahead
                  | false => exact hv hB.behind
                rw [hf] at c0
                clear hu hn hf
                generalize f (p + 2 + n) = x at *
                have hv' : (x == gw p n false 1001) = false := by simpa using hv
                go_enter Try.func37, Try.ntmps37
                go_wp2_with (first
                  | (go_at_call 64; refine (l2In_any _ _).mono ?_; rintro e w' ⟨rfl, rfl⟩)
                  | (go_at_call 55; refine (in_any _ _ _ _).mono ?_; rintro e w' ⟨rfl, rfl⟩))
                go_big_quiet (first
                  | (go_at_call 65; exact Calls.quiet_of_same (specGuard_any _ _ _ _))
                  | (go_at_call 66; exact Calls.quiet_of_same (specRear_any _ _ _ _)))
                go_wp2_with fail
                have d : Below w.heap.size w ((w.alloc (.cells #[.slice (some ⟨b, o, none⟩) N cap] 26)).drewN nq) := below_drewN ((Below.refl _ _).alloc (Nat.le_refl _) _) nq
                have b0 : ((w.alloc (.cells #[.slice (some ⟨b, o, none⟩) N cap] 26)).drewN nq).cell? ⟨w.heap.size, 0, none⟩ = some (.slice (some ⟨b, o, none⟩) N cap) := World.cell?_alloc_new w _ _ 0
                have c0 := (d.cell (p := ⟨b, o + p, none⟩) hb).trans c0
                have c2 := (d.cell (p := ⟨b, o + (p + 2 + n), none⟩) hb).trans c2
                have HC : Hid (∀ j, j < N → ((w.alloc (.cells #[.slice (some ⟨b, o, none⟩) N cap] 26)).drewN nq).cell? ⟨b, o + j, none⟩ = some (.int .i64 (f j))) := fun j hj => (d.cell (p := ⟨b, o + j, none⟩) hb).trans (HC0.out j hj)
                clear HC0
                generalize ((w.alloc (.cells #[.slice (some ⟨b, o, none⟩) N cap] 26)).drewN nq) = W at d b0 c0 c2 HC ⊢
                have HD : Hid (Below w.heap.size w W) := d
                clear d
                go_big_quiet (first
                  | (go_at_call 65; exact Calls.quiet_of_same (specGuard_any _ _ _ _))
                  | (go_at_call 66; exact Calls.quiet_of_same (specRear_any _ _ _ _)))
                go_wp2_with fail
                exact bodyPost_ret (v := .tuple #[.int .i64 0, .bool false, .bool false]) (by simp [results, Try.results37, go_sem]) rfl ⟨ret_bv (a := none) HO.out.symm, below_drewN HD.out _⟩
            · have HO : Hid (blkO f N p = none) := blkO_none fun n' u' hB => by
                have e : n' = n := by have := hB.len; rw [hn] at this; omega
                subst e
                cases u' with
                | true => exact hu hB.ahead
                | false => exact hf hB.ahead
              have hu' : (f p == gw p n true 1000) = false := by simpa using hu
              have hf' : (f p != gw p n false 1000) = true := by simpa using hf
              clear hn
              generalize f p = y at *
              generalize f (p + 2 + n) = x at *
              go_enter Try.func37, Try.ntmps37
              go_wp2_with (first
                | (go_at_call 64; refine (l2In_any _ _).mono ?_; rintro e w' ⟨rfl, rfl⟩)
                | (go_at_call 55; refine (in_any _ _ _ _).mono ?_; rintro e w' ⟨rfl, rfl⟩))
              go_big_quiet (first
                | (go_at_call 65; exact Calls.quiet_of_same (specGuard_any _ _ _ _))
                | (go_at_call 66; exact Calls.quiet_of_same (specRear_any _ _ _ _)))
              go_wp2_with fail
              have d : Below w.heap.size w ((w.alloc (.cells #[.slice (some ⟨b, o, none⟩) N cap] 26)).drewN nq) := below_drewN ((Below.refl _ _).alloc (Nat.le_refl _) _) nq
              have b0 : ((w.alloc (.cells #[.slice (some ⟨b, o, none⟩) N cap] 26)).drewN nq).cell? ⟨w.heap.size, 0, none⟩ = some (.slice (some ⟨b, o, none⟩) N cap) := World.cell?_alloc_new w _ _ 0
              have c0 := (d.cell (p := ⟨b, o + p, none⟩) hb).trans c0
              have c2 := (d.cell (p := ⟨b, o + (p + 2 + n), none⟩) hb).trans c2
              have HC : Hid (∀ j, j < N → ((w.alloc (.cells #[.slice (some ⟨b, o, none⟩) N cap] 26)).drewN nq).cell? ⟨b, o + j, none⟩ = some (.int .i64 (f j))) := fun j hj => (d.cell (p := ⟨b, o + j, none⟩) hb).trans (HC0.out j hj)
              clear HC0
              generalize ((w.alloc (.cells #[.slice (some ⟨b, o, none⟩) N cap] 26)).drewN nq) = W at d b0 c0 c2 HC ⊢
              have HD : Hid (Below w.heap.size w W) := d
              clear d
              go_big_quiet (first
                | (go_at_call 65; exact Calls.quiet_of_same (specGuard_any _ _ _ _))
                | (go_at_call 66; exact Calls.quiet_of_same (specRear_any _ _ _ _)))
              go_wp2_with fail
              exact bodyPost_ret (v := .tuple #[.int .i64 0, .bool false, .bool false]) (by simp [results, Try.results37, go_sem]) rfl ⟨ret_bv (a := none) HO.out.symm, below_drewN HD.out _⟩
        · have HO : Hid (blkO f N p = none) := blkO_none fun n' u' hB => by
            have e : n' = n := by have := hB.len; rw [hn] at this; omega
            subst e
            exact h4 hB.fit
          clear hc hn
          have h4' : N < p + n + 3 := by omega
          go_enter Try.func37, Try.ntmps37
          go_wp2_with (first
            | (go_at_call 64; refine (l2In_any _ _).mono ?_; rintro e w' ⟨rfl, rfl⟩)
            | (go_at_call 55; refine (in_any _ _ _ _).mono ?_; rintro e w' ⟨rfl, rfl⟩))
          exact bodyPost_ret (v := .tuple #[.int .i64 0, .bool false, .bool false]) (by simp [results, Try.results37, go_sem]) rfl ⟨ret_bv (a := none) HO.out.symm, (Below.refl _ _).alloc (Nat.le_refl _) _⟩
      · have i2 : inB (f (p + 1)) 1 4000 = false := by simp [inB]; omega
        have HO : Hid (blkO f N p = none) := blkO_none fun n' u' hB => h3 (by rw [hB.len]; have := hB.h1; have := hB.hn; omega)
        clear hc h3
        generalize f (p + 1) = x at *
        go_enter Try.func37, Try.ntmps37
        go_wp2_with (first
          | (go_at_call 64; refine (l2In_any _ _).mono ?_; rintro e w' ⟨rfl, rfl⟩)
          | (go_at_call 55; refine (in_any _ _ _ _).mono ?_; rintro e w' ⟨rfl, rfl⟩))
        exact bodyPost_ret (v := .tuple #[.int .i64 0, .bool false, .bool false]) (by simp [results, Try.results37, go_sem]) rfl ⟨ret_bv (a := none) HO.out.symm, (Below.refl _ _).alloc (Nat.le_refl _) _⟩
    · have HO : Hid (blkO f N p = none) := blkO_none fun n' u' hB => h2 (by have := hB.fit; have := hB.h1; omega)
      go_enter Try.func37, Try.ntmps37
      go_wp2_with (first
        | (go_at_call 64; refine (l2In_any _ _).mono ?_; rintro e w' ⟨rfl, rfl⟩)
        | (go_at_call 55; refine (in_any _ _ _ _).mono ?_; rintro e w' ⟨rfl, rfl⟩))
      exact bodyPost_ret (v := .tuple #[.int .i64 0, .bool false, .bool false]) (by simp [results, Try.results37, go_sem]) rfl ⟨ret_bv (a := none) HO.out.symm, (Below.refl _ _).alloc (Nat.le_refl _) _⟩
  · have i1 : inA p = false := by simp [inA]; omega
    have HO : Hid (blkO f N p = none) := blkO_none fun n' u' hB => h1 hB.hp
    go_enter Try.func37, Try.ntmps37
    go_wp2_with (first
      | (go_at_call 64; refine (l2In_any _ _).mono ?_; rintro e w' ⟨rfl, rfl⟩)
      | (go_at_call 55; refine (in_any _ _ _ _).mono ?_; rintro e w' ⟨rfl, rfl⟩))
    exact bodyPost_ret (v := .tuple #[.int .i64 0, .bool false, .bool false]) (by simp [results, Try.results37, go_sem]) rfl ⟨ret_bv (a := none) HO.out.symm, (Below.refl _ _).alloc (Nat.le_refl _) _⟩
end Go.Proofs.Ytmongbpdbcbhlaa
