/-
  The specification's BlockAt at every number for a place; what the law FnExactAudit does, once the program's Audit is known.
-/
import Derived.Test.YtejhfoahpopeoabExA
import Derived.Deep.RegionLaw
namespace Go.Proofs.Ytejhfoahpopeoab
open Go.RowKit
set_option linter.unusedVariables false

noncomputable def blkI (f : Nat → Int) (N : Nat) (x : Int) : Option (Nat × Bool) := if x < 0 then none else blkO f N x.toNat
theorem blkI_out {f : Nat → Int} {N : Nat} {x : Int} (h : inA x = false) : blkI f N x = none := by
  unfold blkI
  by_cases h0 : x < 0
  · rw [if_pos h0]
  · rw [if_neg h0]
    refine blkO_none fun n u hB => ?_
    have hp := hB.hp
    have : ¬ (0 ≤ x ∧ x ≤ 4000) := by simpa [inA] using h
    omega
theorem specAt_int (ao : Option Addr) (N cap : Nat) (f : Nat → Int) (x : Int) (w : World) (hr : Rd w ao N f) (hN : N ≤ 1048576) :
    Calls Try.prog 24 #[.agg #[.slice ao N cap], .int .i64 x] w fun e w' => e = .returned (bv (blkI f N x)) ∧ Below w.heap.size w w' := by
  cases h : inA x with
  | true =>
    have hx := inA_true h
    obtain ⟨p, rfl⟩ : ∃ p : Nat, x = p := ⟨x.toNat, by omega⟩
    have e : blkI f N p = blkO f N p := by unfold blkI; rw [if_neg (by omega)]; rfl
    rw [e]
    exact specAt_any ao N cap f p w hr hN (by omega)
  | false =>
    have HO : Hid (blkI f N x = none) := blkI_out h
    go_enter Try.func24, Try.ntmps24
    go_wp2_with (go_at_call 48; refine (l2In_any _ _).mono ?_; rintro e w' ⟨rfl, rfl⟩)
    exact bodyPost_ret (v := .tuple #[.int .i64 0, .bool false, .bool false]) (by simp [results, Try.results24, go_sem]) rfl ⟨ret_bv (a := none) HO.out.symm, (Below.refl _ _).alloc (Nat.le_refl _) _⟩
theorem implAt_int (ao : Option Addr) (N cap : Nat) (f : Nat → Int) (x : Int) (w : World) (hr : Rd w ao N f) (hN : N ≤ 1048576) (hcap : N ≤ cap) :
    Calls Try.prog 14 #[.agg #[.slice ao N cap], .int .i64 x] w fun e w' => e = .returned (bv (blkI f N x)) ∧ Below w.heap.size w w' := by
  cases h : inA x with
  | true =>
    have hx := inA_true h
    obtain ⟨p, rfl⟩ : ∃ p : Nat, x = p := ⟨x.toNat, by omega⟩
    have e : blkI f N p = blkO f N p := by unfold blkI; rw [if_neg (by omega)]; rfl
    rw [e]
    exact implAt_any ao N cap f p w hr hN hcap
  | false =>
    have HO : Hid (blkI f N x = none) := blkI_out h
    have HR : Hid (Rd w ao N f) := hr
    clear hr
    have hnil := fun (w : World) (a : Option Addr) (n c : Nat) => Go.Lib.run_eql_slice_nil (P := Try.prog) w 24 3 a n c 0 0 undInts
    go_enter Try.func14, Try.ntmps14
    go_wp2_with fail
    have d0 := (Below.refl w.heap.size w).alloc (Nat.le_refl _) (.cells #[.slice ao N cap] 26)
    refine (words_none ao N cap f x _ (HR.out.below d0) hN (fun p n h0 h1 _ _ _ _ => by subst h0; simp [inA] at h; omega)).mono ?_
    rintro e w1 ⟨rfl, hb1⟩
    have HBL : Hid (Below w.heap.size w w1) := d0.trans (hb1.mono (by simp))
    clear hb1 d0
    go_wp2_with fail
    exact bodyPost_ret (v := .tuple #[.int .i64 0, .bool false, .bool false]) (by simp [results, Try.results14, go_sem]) rfl ⟨ret_bv (a := none) HO.out.symm, HBL.out⟩

set_option maxHeartbeats 2000000 in
set_option maxRecDepth 100000 in
theorem audit_law (IM : ∀ (ao : Option Addr) (N cap : Nat) (f : Nat → Int) (w : World), Rd w ao N f → N ≤ 1048576 → N ≤ cap → Calls Try.prog 17 #[.agg #[.slice ao N cap]] w fun e w' => e = .returned (.int .i64 (aud f N 0 false)) ∧ Below w.heap.size w w')
    (ao : Option Addr) (N cap : Nat) (f : Nat → Int) (w : World) (hr : Rd w ao N f) (hN : N ≤ maxLen) :
    Calls Try.prog 7 #[.agg #[.slice ao N cap]] w fun e w' => e = .returned (.bool true) ∧ Below w.heap.size w w' := by
  have HIM : Hid (∀ (ao : Option Addr) (N cap : Nat) (f : Nat → Int) (w : World), Rd w ao N f → N ≤ 1048576 → N ≤ cap → Calls Try.prog 17 #[.agg #[.slice ao N cap]] w fun e w' => e = .returned (.int .i64 (aud f N 0 false)) ∧ Below w.heap.size w w') := IM
  have HR : Hid (Rd w ao N f) := hr
  have HN : Hid (N ≤ maxLen) := hN
  clear IM hr hN
  go_enter Try.func7, Try.ntmps7
  go_wp2_with fail
  have hb0 := (Below.refl w.heap.size w).alloc (Nat.le_refl _) (.cells #[.slice ao N cap] 40)
  have b0 : (w.alloc (.cells #[.slice ao N cap] 40)).cell? ⟨w.heap.size, 0, none⟩ = some (.slice ao N cap) := World.cell?_alloc_new w _ _ 0
  generalize (w.alloc (.cells #[.slice ao N cap] 40)) = w0 at hb0 b0 ⊢
  refine (szArena_any ao N cap 1048576 HN.out (by decide) _).mono ?_
  rintro e w1 ⟨rfl, hb1⟩
  have b1 := (hb1.cell (p := ⟨w.heap.size, 0, none⟩) (World.block_lt_of_cell? w0 _ b0)).trans b0
  have HB1 : Hid (Below w.heap.size w w1) := below_join hb0 hb1
  clear hb0 hb1 b0
  by_cases hbig : N ≤ 1048576
  · have hsz : ¬ szI N 1048576 < 0 := by unfold szI; split <;> omega
    generalize szI N 1048576 = y at *
    go_wp2_with fail
    refine (toArena_any ao N cap f _ (HR.out.below HB1.out) hbig).mono ?_
    rintro e w2 ⟨g2, rfl, hg2, hi2, hl2, hb2⟩
    have HB2 : Hid (Below w.heap.size w w2) := below_join HB1.out hb2
    have HI2 : Hid (Rd w2 (some ⟨g2, 0, none⟩) N f) := hi2.rd
    have b2 := (hb2.cell (p := ⟨w.heap.size, 0, none⟩) (World.block_lt_of_cell? w1 _ b1)).trans b1
    clear hg2 hi2 hl2 hb2 b1
    go_wp2_with fail
    refine (specAudit_any (some ⟨g2, 0, none⟩) N N f _ HI2.out hbig).mono ?_
    rintro e w3 ⟨rfl, hb3⟩
    have HB3 : Hid (Below w.heap.size w w3) := below_join HB2.out hb3
    have b3 := (hb3.cell (p := ⟨w.heap.size, 0, none⟩) (World.block_lt_of_cell? w2 _ b2)).trans b2
    clear hb3 b2 HI2
    go_wp2_with fail
    refine (toArena_any ao N cap f _ (HR.out.below HB3.out) hbig).mono ?_
    rintro e w4 ⟨g4, rfl, hg4, hi4, hl4, hb4⟩
    have hbn := (Below.refl w4.heap.size w4).alloc (Nat.le_refl _) (.cells #[.slice (some ⟨g4, 0, none⟩) N N] 26)
    have HB5 : Hid (Below w.heap.size w (w4.alloc (.cells #[.slice (some ⟨g4, 0, none⟩) N N] 26))) := below_join (below_join HB3.out hb4) hbn
    have HI5 : Hid (Rd (w4.alloc (.cells #[.slice (some ⟨g4, 0, none⟩) N N] 26)) (some ⟨g4, 0, none⟩) N f) := hi4.rd.below hbn
    have b5 : (w4.alloc (.cells #[.slice (some ⟨g4, 0, none⟩) N N] 26)).cell? ⟨w.heap.size, 0, none⟩ = some (.slice ao N cap) := by
      have b4 := (hb4.cell (p := ⟨w.heap.size, 0, none⟩) (World.block_lt_of_cell? w3 _ b3)).trans b3
      exact (hbn.cell (p := ⟨w.heap.size, 0, none⟩) (World.block_lt_of_cell? w4 _ b4)).trans b4
    have x5 : (w4.alloc (.cells #[.slice (some ⟨g4, 0, none⟩) N N] 26)).cell? ⟨w4.heap.size, 0, none⟩ = some (.slice (some ⟨g4, 0, none⟩) N N) := World.cell?_alloc_new w4 _ _ 0
    have HX5 : Hid ((w4.alloc (.cells #[.slice (some ⟨g4, 0, none⟩) N N] 26)).cell? ⟨w.heap.size, 0, none⟩ = some (.slice ao N cap) ∧ (w4.alloc (.cells #[.slice (some ⟨g4, 0, none⟩) N N] 26)).cell? ⟨w4.heap.size, 0, none⟩ = some (.slice (some ⟨g4, 0, none⟩) N N)) := ⟨b5, x5⟩
    clear hg4 hi4 hl4 hb4 hbn b3 b5 x5
    go_wp2_with fail
    generalize (w4.alloc (.cells #[.slice (some ⟨g4, 0, none⟩) N N] 26)) = w5 at HB5 HI5 HX5 ⊢
    generalize w4.heap.size = X at HX5 ⊢
    refine (HIM.out (some ⟨g4, 0, none⟩) N N f w5 HI5.out hbig (Nat.le_refl _)).mono ?_
    rintro e w6 ⟨rfl, hb6⟩
    have b6 := (hb6.cell (p := ⟨w.heap.size, 0, none⟩) (World.block_lt_of_cell? w5 _ HX5.out.1)).trans HX5.out.1
    have x6 := (hb6.cell (p := ⟨X, 0, none⟩) (World.block_lt_of_cell? w5 _ HX5.out.2)).trans HX5.out.2
    have HB6 : Hid (Below w.heap.size w w6) := below_join HB5.out hb6
    have HI6 : Hid (Rd w6 (some ⟨g4, 0, none⟩) N f) := HI5.out.below hb6
    clear hb6 HX5 HI5
    generalize aud f N 0 false = z
    have K6 : Hid (∀ w7, Below w6.drew.heap.size w6.drew w7 → Below w.heap.size w w7 ∧ Rd w7 (some ⟨g4, 0, none⟩) N f ∧ w7.cell? ⟨X, 0, none⟩ = some (.slice (some ⟨g4, 0, none⟩) N N)) := fun w7 h => by
      have hb7 : Below w6.heap.size w6 w7 := below_undrew h
      exact ⟨below_join HB6.out hb7, HI6.out.below hb7, (hb7.cell (p := ⟨X, 0, none⟩) (World.block_lt_of_cell? w6 _ x6)).trans x6⟩
    go_wp2_with fail
    go_region_law (go_simp; go_wp2_with (first
      | (go_at_call 25; refine (toArena_any ao N cap f w6.drew ?_ hbig).mono ?_; exact (HR.out.below HB6.out).below ((Below.refl _ _).drew); rintro e w7 ⟨g7, rfl, hg7, hi7, hl7, hb7⟩; obtain ⟨hbw7, hr7, x7⟩ := K6.out w7 hb7; have HB7 : Hid (Below w.heap.size w w7) := hbw7; have HI7 : Hid (Rd w7 (some ⟨g7, 0, none⟩) N f ∧ Rd w7 (some ⟨g4, 0, none⟩) N f) := ⟨hi7.rd, hr7⟩; clear hg7 hi7 hl7 hb7 hbw7 hr7)
      | (go_at_call 26; refine (eqArena_same (some ⟨g4, 0, none⟩) (some ⟨g7, 0, none⟩) N N N f f w7 HI7.out.2 HI7.out.1 (fun _ _ => rfl) hbig).mono ?_; rintro e w8 ⟨rfl, hb8⟩; have HB8 : Hid (Below w.heap.size w w8) := below_join HB7.out hb8; clear hb8)))
    all_goals
      go_wp2_with fail
      go_ret
      exact ⟨rfl, HB8.out⟩
  · have hsz : szI N 1048576 = -1 := by unfold szI; rw [if_pos (by omega)]
    rw [hsz]
    go_wp2_with fail
    go_ret
    exact ⟨rfl, HB1.out⟩
end Go.Proofs.Ytejhfoahpopeoab
