/-
  The specification's BlockAt at every number for a place; what the law FnExactAudit does, once the program's Audit is known.
-/
import Derived.Test.YtmongbpdbcbhlaaExA
import Derived.Deep.RegionLaw
namespace Go.Proofs.Ytmongbpdbcbhlaa
open Go.RowKit
set_option linter.unusedVariables false

noncomputable def blkI (f : Nat → Int) (N : Nat) (x : Int) : Option (Nat × Bool) := if x < 0 then none else blkO f N x.toNat
theorem blkI_out {f : Nat → Int} {N : Nat} {x : Int} (h : inA x = false) : blkI f N x = none := by
  unfold blkI
  by_cases h0 : x < 0
  · rw [if_pos h0]
  · rw [if_neg h0]
    refine blkO_none fun n u hB => ?_
    have hp := hB.hp
    have : ¬ (0 ≤ x ∧ x ≤ 4000) := by simpa [inA] using h
    omega
theorem specAt_int (ao : Option Addr) (N cap : Nat) (f : Nat → Int) (x : Int) (w : World) (hr : Rd w ao N f) (hN : N ≤ 1048576) :
    Calls Try.prog 37 #[.agg #[.slice ao N cap], .int .i64 x] w fun e w' => e = .returned (bv (blkI f N x)) ∧ Below w.heap.size w w' := by
  cases h : inA x with
  | true =>
    have hx := inA_true h
    obtain ⟨p, rfl⟩ : ∃ p : Nat, x = p := ⟨x.toNat, by omega⟩
    have e : blkI f N p = blkO f N p := by unfold blkI; rw [if_neg (by omega)]; rfl
    rw [e]
    exact specAt_any ao N cap f p w hr hN (by omega)
  | false =>
    have HO : Hid (blkI f N x = none) := blkI_out h
    go_enter Try.func37, Try.ntmps37
    go_wp2_with (go_at_call 64; refine (l2In_any _ _).mono ?_; rintro e w' ⟨rfl, rfl⟩)
    exact bodyPost_ret (v := .tuple #[.int .i64 0, .bool false, .bool false]) (by simp [results, Try.results37, go_sem]) rfl ⟨ret_bv (a := none) HO.out.symm, (Below.refl _ _).alloc (Nat.le_refl _) _⟩
theorem implAt_int (ao : Option Addr) (N cap : Nat) (f : Nat → Int) (x : Int) (w : World) (hr : Rd w ao N f) (hN : N ≤ 1048576) (hcap : N ≤ cap) :
    Calls Try.prog 24 #[.agg #[.slice ao N cap], .int .i64 x] w fun e w' => e = .returned (bv (blkI f N x)) ∧ Below w.heap.size w w' := by
  cases h : inA x with
  | true =>
    have hx := inA_true h
    obtain ⟨p, rfl⟩ : ∃ p : Nat, x = p := ⟨x.toNat, by omega⟩
    have e : blkI f N p = blkO f N p := by unfold blkI; rw [if_neg (by omega)]; rfl
    rw [e]
    exact implAt_any ao N cap f p w hr hN hcap
  | false =>
    have HO : Hid (blkI f N x = none) := blkI_out h
    have HR : Hid (Rd w ao N f) := hr
    clear hr
    have hnil := fun (w : World) (a : Option Addr) (n c : Nat) => Go.Lib.run_eql_slice_nil (P := Try.prog) w 24 3 a n c 0 0 undInts
    go_enter Try.func24, Try.ntmps24
    go_wp2_with fail
    have d0 := (Below.refl w.heap.size w).alloc (Nat.le_refl _) (.cells #[.slice ao N cap] 26)
    refine (words_none ao N cap f x _ (HR.out.below d0) hN (fun p n h0 h1 _ _ _ _ => by subst h0; simp [inA] at h; omega)).mono ?_
    rintro e w1 ⟨rfl, hb1⟩
    have HBL : Hid (Below w.heap.size w w1) := d0.trans (hb1.mono (by simp))
    clear hb1 d0
    go_wp2_with fail
    exact bodyPost_ret (v := .tuple #[.int .i64 0, .bool false, .bool false]) (by simp [results, Try.results24, go_sem]) rfl ⟨ret_bv (a := none) HO.out.symm, HBL.out⟩

end Go.Proofs.Ytmongbpdbcbhlaa
