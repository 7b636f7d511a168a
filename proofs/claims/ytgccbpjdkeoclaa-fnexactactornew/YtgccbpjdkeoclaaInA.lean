/-
  Lists of numbers that are read only: comparison, measure, copy.
-/
import Derived.Test.YtgccbpjdkeoclaaArB
import Derived.Deep.RegionLaw
namespace Go.Proofs.Ytgccbpjdkeoclaa
open Go.RowKit
set_option linter.unusedVariables false

theorem below_join {a b c : World} (h : Below a.heap.size a b) (k : Below b.heap.size b c) : Below a.heap.size a c := h.trans (k.mono h.size)
/-- N numbers that are read only. -/
def RdI (w : World) (ao : Option Addr) (N : Nat) (f : Nat → Int) : Prop :=
  N ≠ 0 → ∃ b o, ao = some ⟨b, o, none⟩ ∧ ∀ j, j < N → w.cell? ⟨b, o + j, none⟩ = some (.int .i64 (f j))
theorem Ints.rdI {w : World} {b o N : Nat} {f : Nat → Int} (h : Ints w b o N f) : RdI w (some ⟨b, o, none⟩) N f := fun _ => ⟨b, o, rfl, h.cell⟩
theorem RdI.nil (w : World) (f : Nat → Int) (ao : Option Addr) : RdI w ao 0 f := fun h => absurd rfl h
theorem RdI.below {w w' : World} {ao : Option Addr} {N : Nat} {f : Nat → Int} (h : RdI w ao N f) (hb : Below w.heap.size w w') : RdI w' ao N f := fun hn => by
  obtain ⟨b, o, e, hc⟩ := h hn
  exact ⟨b, o, e, fun j hj => by rw [hb.cell (p := ⟨b, o + j, none⟩) (World.block_lt_of_cell? w _ (hc j hj))]; exact hc j hj⟩

set_option maxHeartbeats 1000000 in
theorem eqIntS_same (ao bo : Option Addr) (N ca cb : Nat) (f g : Nat → Int) (w : World) (ha : RdI w ao N f) (hb : RdI w bo N g) (he : ∀ j, j < N → f j = g j) (hN : N ≤ 1048576) :
    Calls Try.prog 24 #[.slice ao N ca, .slice bo N cb] w fun e w' => e = .returned (.bool true) ∧ Below w.heap.size w w' := by
  have HA : Hid (RdI w ao N f) := ha
  have HB : Hid (RdI w bo N g) := hb
  have HE : Hid (∀ j, j < N → f j = g j) := he
  clear ha hb he
  go_enter Try.func24, Try.ntmps24
  go_wp2_with fail
  go_loopw [5] (fun i w' => ∃ m : Nat, m ≤ N ∧ i = .int .i64 m ∧ Below w.heap.size w w') (fun i _ => N - (intOf i).toNat)
  case atStart => exact ⟨0, Nat.zero_le _, by simp, Below.refl _ _⟩
  case round =>
    obtain ⟨m, hm, rfl, hbl⟩ := hrel
    have HBL : Hid (Below w.heap.size w wr) := hbl
    by_cases hlt : m < N
    · obtain ⟨b1, o1, rfl, c1⟩ := HA.out.below hbl (by omega)
      obtain ⟨b2, o2, rfl, c2⟩ := HB.out.below hbl (by omega)
      have q1 := c1 m hlt
      have q2 := c2 m hlt
      rw [HE.out m hlt] at q1
      clear c1 c2 hbl
      generalize g m = x at *
      go_wp2_with fail
      go_quiet (fail)
      go_wp2_with fail
      go_roundw
      case rel => exact ⟨m + 1, by omega, by go_num, by first | exact HBL.out.drew | exact below_drewN HBL.out _⟩
      case measure => simp [intOf]; omega
    · clear hbl
      go_wp2_with fail
      go_ret
      exact ⟨rfl, HBL.out⟩


/-- What is left of the purse: below 0, there is too much. -/
def szI (N : Nat) (left : Int) : Int := if left - N < 0 then -1 else left - N
theorem szI_ge (N : Nat) (left : Int) : -1 ≤ szI N left := by unfold szI; split <;> omega
end Go.Proofs.Ytgccbpjdkeoclaa
