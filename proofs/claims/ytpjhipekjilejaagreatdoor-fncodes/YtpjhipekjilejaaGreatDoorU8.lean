/-
  Two lists of the same instructions are the same: structs compared whole.
  What the law FnLines asks: drawn code is right, its text is short.
-/
import Derived.Test.YtpjhipekjilejaaGreatDoorCkC
import Derived.Test.YtpjhipekjilejaaGreatDoorDcB
import Derived.Test.YtpjhipekjilejaaGreatDoorCkE
import Derived.Test.YtpjhipekjilejaaGreatDoorU7
namespace Go.Proofs.YtpjhipekjilejaaGreatDoor.Code
open Go.RowKit
open Go.Proofs.YtpjhipekjilejaaGreatDoor.Atom
set_option linter.unusedVariables false

theorem sameCode_same (l : List I) (ao bo : Option Addr) (cap cap' : Nat) (w : World) (hr : RowI w ao l) (hr' : RowI w bo l) (hl : l.length ≤ 200) :
    Calls Tryz.prog 13 #[.slice ao l.length cap, .slice bo l.length cap'] w fun e w' => e = .returned (.bool true) ∧ Below w.heap.size w w' := by
  have HRA : Hid (RowI w ao l) := hr
  have HRB : Hid (RowI w bo l) := hr'
  clear hr hr'
  go_enter Tryz.func13, Tryz.ntmps13
  go_wp2_with fail
  go_loopw [5] (fun i w' => ∃ k : Nat, k ≤ l.length ∧ i = .int .i64 k ∧ Below w.heap.size w w') (fun i _ => l.length - (intOf i).toNat)
  case atStart => exact ⟨0, Nat.zero_le _, rfl, Below.refl _ _⟩
  case round =>
    obtain ⟨k, hk, rfl, hbr⟩ := hrel
    have HBR : Hid (Below w.heap.size w wr) := hbr
    clear hbr
    by_cases hlt : k < l.length
    · rcases HRA.out with h | ⟨b, o, rfl, hrow⟩
      · rw [h] at hlt; simp at hlt
      rcases HRB.out with h | ⟨b', o', rfl, hrow'⟩
      · rw [h] at hlt; simp at hlt
      have hbx := (hrow k hlt).below HBR.out
      have hby := (hrow' k hlt).below HBR.out
      generalize l[k] = x at hbx hby
      obtain ⟨op, xa, xb, xc, xn, xs⟩ := x
      have d0 := Inn.keep hbx.c0
      have d1 := Inn.keep hbx.c1
      have d2 := Inn.keep hbx.c2
      have d3 := Inn.keep hbx.c3
      have d4 := Inn.keep hbx.c4
      have d5 := Inn.keep hbx.c5
      have f0 := Inn.keep hby.c0
      have f1 := Inn.keep hby.c1
      have f2 := Inn.keep hby.c2
      have f3 := Inn.keep hby.c3
      have f4 := Inn.keep hby.c4
      have f5 := Inn.keep hby.c5
      clear hbx hrow hby hrow'
      haveI := inn_ne wr
      go_wp2_with fail
      refine wp_region_inn ?_ ?_ ?_
      · kernel_rfl
      · kernel_rfl
      repeat (go_big_quiet_step (fail))
      refine wpQuiet_nil ?_
      rintro w7 ⟨x7, h7⟩
      have HB7 : Hid (Below w.heap.size w w7) := by
        have : Below wr.heap.size wr w7 := by rw [h7]; exact x7.bel
        exact HBR.out.trans (this.mono HBR.out.size)
      clear h7 x7 d0 d1 d2 d3 d4 d5 f0 f1 f2 f3 f4 f5
      go_wp2_with fail
      go_roundw
      case rel => exact ⟨k + 1, by omega, by go_num, HB7.out⟩
      case measure => simp [intOf]; omega
    · go_wp2_with fail
      go_ret
      exact ⟨rfl, HBR.out⟩
end Go.Proofs.YtpjhipekjilejaaGreatDoor.Code

namespace Go.Proofs.YtpjhipekjilejaaGreatDoor.Code
open Go.RowKit
open Go.Proofs.YtpjhipekjilejaaGreatDoor.Atom
set_option linter.unusedVariables false

theorem wee_in64 {x : I} (h : Wee x) : In64 x := ⟨by have := h.a; omega, by have := h.b; omega, by have := h.c; omega, by have := h.n; omega⟩
theorem slotT_wee {x : I} (h : Wee x) (k : Nat) : (slotT x k).length ≤ 1000 := by
  unfold slotT
  split
  · have := h.s; simpa using this
  · exact Nat.le_trans (Lib.itoa_length_le _ ((wee_in64 h).val k).1 ((wee_in64 h).val k).2) (by omega)
theorem textI_wee {x : I} (h : Wee x) : (textI x).length ≤ 4000 := by
  unfold textI
  split
  · rename_i h1
    obtain ⟨k, hk, he⟩ : ∃ k : Nat, k < 20 ∧ x.op.toNat = k + 1 := by
      have := of_decide_eq_true h1
      exact ⟨(x.op - 1).toNat, by omega, by omega⟩
    rw [he]
    unfold accT
    have h2 := flat_len (fun j => 32 :: slotT x j) 1001 (fun j => by have := slotT_wee h j; simp; omega) (names (k + 1))
    have h3 := word_len (k + 1)
    have h4 : 1001 * (names (k + 1)).length ≤ 1001 * 3 := Nat.mul_le_mul_left _ (names_len k hk).2
    rw [List.length_append]; omega
  · simp
theorem codeT_wee (l : List I) (h : ∀ x ∈ l, Wee x) : (codeT l).length ≤ 4001 * l.length := by
  induction l with
  | nil => simp [codeT]
  | cons x l ih =>
    have h1 := ih (fun y hy => h y (List.mem_cons_of_mem _ hy))
    have h2 := textI_wee (h x List.mem_cons_self)
    unfold codeT at *
    simp only [List.flatMap_cons, List.length_append, List.length_cons, List.length_nil]
    omega

end Go.Proofs.YtpjhipekjilejaaGreatDoor.Code
