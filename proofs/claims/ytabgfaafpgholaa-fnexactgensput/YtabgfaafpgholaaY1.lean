/-
  Lists of numbers that are read only: comparison, measure, copy.
-/
import Derived.Test.YtabgfaafpgholaaW44
import Derived.Deep.RegionLaw
namespace Go.Proofs.Ytabgfaafpgholaa
open Go.RowKit
set_option linter.unusedVariables false

theorem below_join {a b c : World} (h : Below a.heap.size a b) (k : Below b.heap.size b c) : Below a.heap.size a c := h.trans (k.mono h.size)
/-- N numbers that are read only. -/
def RdI (w : World) (ao : Option Addr) (N : Nat) (f : Nat → Int) : Prop :=
  N ≠ 0 → ∃ b o, ao = some ⟨b, o, none⟩ ∧ ∀ j, j < N → w.cell? ⟨b, o + j, none⟩ = some (.int .i64 (f j))
theorem Ints.rdI {w : World} {b o N : Nat} {f : Nat → Int} (h : Ints w b o N f) : RdI w (some ⟨b, o, none⟩) N f := fun _ => ⟨b, o, rfl, h.cell⟩
theorem RdI.nil (w : World) (f : Nat → Int) (ao : Option Addr) : RdI w ao 0 f := fun h => absurd rfl h
theorem RdI.below {w w' : World} {ao : Option Addr} {N : Nat} {f : Nat → Int} (h : RdI w ao N f) (hb : Below w.heap.size w w') : RdI w' ao N f := fun hn => by
  obtain ⟨b, o, e, hc⟩ := h hn
  exact ⟨b, o, e, fun j hj => by rw [hb.cell (p := ⟨b, o + j, none⟩) (World.block_lt_of_cell? w _ (hc j hj))]; exact hc j hj⟩

set_option maxHeartbeats 1000000 in
theorem eqIntS_same (ao bo : Option Addr) (N ca cb : Nat) (f g : Nat → Int) (w : World) (ha : RdI w ao N f) (hb : RdI w bo N g) (he : ∀ j, j < N → f j = g j) (hN : N ≤ 1048576) :
    Calls Try.prog 46 #[.slice ao N ca, .slice bo N cb] w fun e w' => e = .returned (.bool true) ∧ Below w.heap.size w w' := by
  have HA : Hid (RdI w ao N f) := ha
  have HB : Hid (RdI w bo N g) := hb
  have HE : Hid (∀ j, j < N → f j = g j) := he
  clear ha hb he
  go_enter Try.func46, Try.ntmps46
  go_wp2_with fail
  go_loopw [5] (fun i w' => ∃ m : Nat, m ≤ N ∧ i = .int .i64 m ∧ Below w.heap.size w w') (fun i _ => N - (intOf i).toNat)
  case atStart => exact ⟨0, Nat.zero_le _, by simp, Below.refl _ _⟩
  case round =>
    obtain ⟨m, hm, rfl, hbl⟩ := hrel
    have HBL : Hid (Below w.heap.size w wr) := hbl
    by_cases hlt : m < N
    · obtain ⟨b1, o1, rfl, c1⟩ := HA.out.below hbl (by omega)
      obtain ⟨b2, o2, rfl, c2⟩ := HB.out.below hbl (by omega)
      have q1 := c1 m hlt
      have q2 := c2 m hlt
      rw [HE.out m hlt] at q1
      clear c1 c2 hbl
      generalize g m = x at *
      go_wp2_with fail
      go_quiet (fail)
      go_wp2_with fail
      go_roundw
      case rel => exact ⟨m + 1, by omega, by go_num, by first | exact HBL.out.drew | exact below_drewN HBL.out _⟩
      case measure => simp [intOf]; omega
    · clear hbl
      go_wp2_with fail
      go_ret
      exact ⟨rfl, HBL.out⟩


/-- What is left of the purse: below 0, there is too much. -/
def szI (N : Nat) (left : Int) : Int := if left - N < 0 then -1 else left - N
theorem szIntS_any (ao : Option Addr) (N cap : Nat) (left : Int) (hN : N ≤ maxLen) (h0 : 0 ≤ left ∧ left ≤ 1048576) (w : World) :
    Calls Try.prog 37 #[.slice ao N cap, .int .i64 left] w fun e w' => e = .returned (.int .i64 (szI N left)) ∧ w' = w := by
  unfold maxLen at hN
  by_cases h : left - N < 0
  · go_enter Try.func37, Try.ntmps37
    go_wp2
    go_ret
    exact ⟨ret_int (by rw [szI, if_pos h]), rfl⟩
  · go_enter Try.func37, Try.ntmps37
    go_wp2
    go_ret
    exact ⟨ret_int (by rw [szI, if_neg (by omega)]), rfl⟩
theorem szI_ge (N : Nat) (left : Int) : -1 ≤ szI N left := by unfold szI; split <;> omega
set_option maxHeartbeats 1000000 in
theorem toIntS_any (ao : Option Addr) (N cap : Nat) (f : Nat → Int) (w : World) (hr : RdI w ao N f) (hN : N ≤ 1048576) :
    Calls Try.prog 43 #[.slice ao N cap] w fun e w' => e = .returned (.slice (some ⟨w.heap.size, 0, none⟩) N N) ∧ Ints w' w.heap.size 0 N f ∧ w.heap.size < w'.heap.size ∧ Below w.heap.size w w' := by
  have HR : Hid (RdI w ao N f) := hr
  clear hr
  have hmk := run_ints N hN
  go_enter Try.func43, Try.ntmps43
  go_wp2_with fail
  clear hmk
  have hst : Ints (w.alloc (.cells (madeCells #[.int .i64 0] N) 3)) w.heap.size 0 N (fun j => if j < 0 then f j else 0) := (ints_made w N).congr (fun j _ => by rw [if_neg (by omega)])
  have hb : Below w.heap.size w (w.alloc (.cells (madeCells #[.int .i64 0] N) 3)) := (Below.refl _ _).alloc (Nat.le_refl _) _
  have hl : w.heap.size < (w.alloc (.cells (madeCells #[.int .i64 0] N) 3)).heap.size := by simp
  have HS : Hid (Ints (w.alloc (.cells (madeCells #[.int .i64 0] N) 3)) w.heap.size 0 N (fun j => if j < 0 then f j else 0) ∧ Below w.heap.size w (w.alloc (.cells (madeCells #[.int .i64 0] N) 3)) ∧ w.heap.size < (w.alloc (.cells (madeCells #[.int .i64 0] N) 3)).heap.size) := ⟨hst, hb, hl⟩
  clear hst hb hl
  go_loopw [4] (fun i wr => ∃ m : Nat, m ≤ N ∧ i = .int .i64 m ∧ Ints wr w.heap.size 0 N (fun j => if j < m then f j else 0) ∧ Below w.heap.size w wr ∧ w.heap.size < wr.heap.size) (fun i _ => N - (intOf i).toNat)
  case atStart => exact ⟨0, Nat.zero_le _, rfl, HS.out.1, HS.out.2.1, HS.out.2.2⟩
  case round =>
    obtain ⟨m, hm, rfl, hi, hb, hl⟩ := hrel
    have HI : Hid (Ints wr w.heap.size 0 N (fun j => if j < m then f j else 0)) := hi
    have HB : Hid (Below w.heap.size w wr ∧ w.heap.size < wr.heap.size) := ⟨hb, hl⟩
    by_cases hlt : m < N
    · obtain ⟨b, o, rfl, hc⟩ := HR.out (by omega)
      have hbl : b < w.heap.size := World.block_lt_of_cell? w _ (hc m hlt)
      have cs := (hb.cell (p := ⟨b, o + m, none⟩) hbl).trans (hc m hlt)
      have cd := hi.cell m hlt
      rw [Nat.zero_add] at cd
      have fr : ∀ x, wr.frozen? ⟨w.heap.size, x, none⟩ = false := hi.free
      have hne : ¬ b = w.heap.size := by omega
      clear hi hb hl hc
      go_wp2_with fail
      go_roundw
      case rel =>
        have h := HI.out.set m hlt (f m)
        rw [Nat.zero_add] at h
        refine ⟨m + 1, by omega, by go_num, h.congr fun j _ => ?_, HB.out.1.setCell (Nat.le_refl _) _, by rw [World.size_setCell]; exact HB.out.2⟩
        unfold upd
        by_cases e : j = m
        · subst e
          rw [if_pos rfl, if_pos (by omega)]
        · rw [if_neg e]
          dsimp only
          by_cases e2 : j < m
          · rw [if_pos e2, if_pos (by omega)]
          · rw [if_neg e2, if_neg (by omega)]
      case measure => simp [intOf]; omega
    · have hme : m = N := by omega
      subst hme
      clear hi hb hl
      go_wp2_with fail
      go_ret
      exact ⟨rfl, HI.out.congr (fun j hj => by rw [if_pos hj]), HB.out.2, HB.out.1⟩

end Go.Proofs.Ytabgfaafpgholaa
