/-
  The specification's InsText: it answers textI.
-/
import Derived.Test.YtfjaphhijefdlaaGreatDoorCtA
import Derived.Test.YtfjaphhijefdlaaGreatDoorNtA
namespace Go.Proofs.YtfjaphhijefdlaaGreatDoor.Code
open Go.RowKit
set_option linter.unusedVariables false

theorem names_any (w : World) :
    Calls Tryz.prog 75 #[] w fun e w' => e = .returned (.slice (some ⟨w.heap.size, 0, none⟩) 20 20) ∧ Below w.heap.size w w' ∧ w'.heap.size = w.heap.size + 1 ∧ ∀ k, k < 20 → w'.cell? ⟨w.heap.size, k, none⟩ = some (.string (wordT (k + 1))) := by
  go_enter Tryz.func75, Tryz.ntmps75
  go_wp2
  go_ret
  refine ⟨rfl, (Below.refl _ w).alloc (Nat.le_refl _) _, by simp, fun k hk => ?_⟩
  rw [World.cell?_alloc_new]
  rcases below20 hk with rfl | rfl | rfl | rfl | rfl | rfl | rfl | rfl | rfl | rfl | rfl | rfl | rfl | rfl | rfl | rfl | rfl | rfl | rfl | rfl <;> rfl

/-- What the loop over the letters has in hand. -/
structure Le (w wr : World) (B : Nat) (x : I) : Prop where
  bel : Below w.heap.size w wr
  box : Bx6 wr B 0 x
theorem Le.below {w wr w' : World} {B : Nat} {x : I} (h : Le w wr B x) (hb : Below wr.heap.size wr w') : Le w w' B x := ⟨h.bel.trans (hb.mono h.bel.size), h.box.below hb⟩

theorem useT_at (k j : Nat) (h : j < (useT k).size) : (useT k)[j] = (uses k)[j]'(by simpa [useT, ByteArray.size] using h) := by
  simp [useT, ByteArray.getElem_eq_getElem_data]
theorem useT_size (k : Nat) : (useT k).size = (uses k).length := by simp [useT, ByteArray.size]

end Go.Proofs.YtfjaphhijefdlaaGreatDoor.Code
