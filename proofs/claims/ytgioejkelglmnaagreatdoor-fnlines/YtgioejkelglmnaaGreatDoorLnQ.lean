/-
  Two lists of the same instructions are the same: structs compared whole.
-/
import Derived.Test.YtgioejkelglmnaaGreatDoorCkC
namespace Go.Proofs.YtgioejkelglmnaaGreatDoor.Code
open Go.RowKit
open Go.Proofs.YtgioejkelglmnaaGreatDoor.Atom
set_option linter.unusedVariables false

theorem sameCode_same (l : List I) (ao bo : Option Addr) (cap cap' : Nat) (w : World) (hr : RowI w ao l) (hr' : RowI w bo l) (hl : l.length ≤ 200) :
    Calls Tryz.prog 9 #[.slice ao l.length cap, .slice bo l.length cap'] w fun e w' => e = .returned (.bool true) ∧ Below w.heap.size w w' := by
  have HRA : Hid (RowI w ao l) := hr
  have HRB : Hid (RowI w bo l) := hr'
  clear hr hr'
  go_enter Tryz.func9, Tryz.ntmps9
  go_wp2_with fail
  go_loopw [5] (fun i w' => ∃ k : Nat, k ≤ l.length ∧ i = .int .i64 k ∧ Below w.heap.size w w') (fun i _ => l.length - (intOf i).toNat)
  case atStart => exact ⟨0, Nat.zero_le _, rfl, Below.refl _ _⟩
  case round =>
    obtain ⟨k, hk, rfl, hbr⟩ := hrel
    have HBR : Hid (Below w.heap.size w wr) := hbr
    clear hbr
    by_cases hlt : k < l.length
    · rcases HRA.out with h | ⟨b, o, rfl, hrow⟩
      · rw [h] at hlt; simp at hlt
      rcases HRB.out with h | ⟨b', o', rfl, hrow'⟩
      · rw [h] at hlt; simp at hlt
      have hbx := (hrow k hlt).below HBR.out
      have hby := (hrow' k hlt).below HBR.out
      generalize l[k] = x at hbx hby
      obtain ⟨op, xa, xb, xc, xn, xs⟩ := x
      have d0 := Inn.keep hbx.c0
      have d1 := Inn.keep hbx.c1
      have d2 := Inn.keep hbx.c2
      have d3 := Inn.keep hbx.c3
      have d4 := Inn.keep hbx.c4
      have d5 := Inn.keep hbx.c5
      have f0 := Inn.keep hby.c0
      have f1 := Inn.keep hby.c1
      have f2 := Inn.keep hby.c2
      have f3 := Inn.keep hby.c3
      have f4 := Inn.keep hby.c4
      have f5 := Inn.keep hby.c5
      clear hbx hrow hby hrow'
      haveI := inn_ne wr
      go_wp2_with fail
      refine wp_region_inn ?_ ?_ ?_
      · kernel_rfl
      · kernel_rfl
      repeat (go_big_quiet_step (fail))
      refine wpQuiet_nil ?_
      rintro w7 ⟨x7, h7⟩
      have HB7 : Hid (Below w.heap.size w w7) := by
        have : Below wr.heap.size wr w7 := by rw [h7]; exact x7.bel
        exact HBR.out.trans (this.mono HBR.out.size)
      clear h7 x7 d0 d1 d2 d3 d4 d5 f0 f1 f2 f3 f4 f5
      go_wp2_with fail
      go_roundw
      case rel => exact ⟨k + 1, by omega, by go_num, HB7.out⟩
      case measure => simp [intOf]; omega
    · go_wp2_with fail
      go_ret
      exact ⟨rfl, HBR.out⟩
end Go.Proofs.YtgioejkelglmnaaGreatDoor.Code
