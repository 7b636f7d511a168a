/-
  Actors: lists of terms that are right, links that are right: the specification's and the program's.
-/
import Derived.Test.YtjibnlpjpbileaaGreatDoorTmI
import Derived.Test.YtjibnlpjpbileaaGreatDoorInA
import Derived.Test.YtjibnlpjpbileaaGreatDoorInn
namespace Go.Proofs.YtjibnlpjpbileaaGreatDoor
open Go.RowKit Atom
set_option linter.unusedVariables false

def okT (t : Tm) : Bool := (look t 6 100).isSome
def allOk (l : List Tm) : Bool := l.all okT
theorem allOk_take {l : List Tm} {k : Nat} (h : k < l.length) (ha : allOk (l.take k) = true) : allOk (l.take (k + 1)) = okT l[k] := by
  unfold allOk at *
  rw [List.take_succ_eq_append_getElem h, List.all_append, ha]; simp
theorem allOk_no {l : List Tm} {k : Nat} (h : k < l.length) (ha : okT l[k] = false) : allOk l = false := by
  unfold allOk
  rw [List.all_eq_false]
  exact ⟨l[k], List.getElem_mem h, by rw [ha]; simp⟩

set_option maxHeartbeats 1000000 in
theorem l9Terms_any (l : List Tm) (ao : Option Addr) (cap : Nat) (w : World) (hr : RepL 0 w l ao) (hl : l.length ≤ cap) (hc : cap ≤ maxLen) :
    Calls Tryz.prog 97 #[.slice ao l.length cap] w fun e w' => e = .returned (.bool (allOk l)) ∧ Below w.heap.size w w' := by
  have HR : Hid (RepL 0 w l ao) := hr
  clear hr
  unfold maxLen at hc
  go_enter Tryz.func97, Tryz.ntmps97
  go_wp2_with fail
  go_loopw [3] (fun i wr => ∃ k : Nat, k ≤ l.length ∧ i = .int .i64 k ∧ Below w.heap.size w wr ∧ allOk (l.take k) = true) (fun i _ => l.length - (intOf i).toNat)
  case atStart => exact ⟨0, Nat.zero_le _, rfl, Below.refl _ _, rfl⟩
  case round =>
    obtain ⟨k, hk, rfl, hb, ha⟩ := hrel
    have HB : Hid (Below w.heap.size w wr) := hb
    have HA : Hid (allOk (l.take k) = true) := ha
    clear hb ha
    by_cases hlt : k < l.length
    · obtain ⟨b, off, rfl, hB, ht⟩ := RepL.at l ao ((Keeps.below HB.out 0).repL _ _ HR.out) k hlt
      obtain ⟨tk, tn, ts, tao, tlen, tcap, c0, c1, c2, c3, hv⟩ := ht.cells
      have HV : Hid (RepV 0 wr l[k] (.agg #[.int .i64 tk, .int .i64 tn, .string ts, .slice tao tlen tcap])) := hv
      have HT : Hid (allOk (l.take (k + 1)) = okT l[k]) := allOk_take hlt HA.out
      have HNO : Hid (okT l[k] = false → allOk l = false) := fun h => allOk_no hlt h
      clear hv ht
      have HC : Hid (Calls Tryz.prog 51 #[.agg #[.int .i64 tk, .int .i64 tn, .string ts, .slice tao tlen tcap]] wr fun e w' => e = .returned (.bool (okT l[k])) ∧ Below wr.heap.size wr w') := specOk_any l[k] 0 wr _ HV.out
      generalize okT l[k] = q at HT HNO HC
      cases q
      · go_wp2_with (go_at_call 51; refine HC.out.mono ?_; rintro e w3 ⟨rfl, hb3⟩; have HB3 : Hid (Below w.heap.size w w3) := HB.out.trans (hb3.mono HB.out.size); clear hb3)
        go_ret
        exact ⟨ret_bool (HNO.out (by trivial)).symm, HB3.out⟩
      · go_wp2_with (go_at_call 51; refine HC.out.mono ?_; rintro e w3 ⟨rfl, hb3⟩; have HB3 : Hid (Below w.heap.size w w3) := HB.out.trans (hb3.mono HB.out.size); clear hb3)
        go_roundw
        case rel => exact ⟨k + 1, by omega, by go_num, HB3.out, HT.out⟩
        case measure => simp [intOf]; omega
    · have HF : Hid (allOk l = true) := by
        have := HA.out
        rw [List.take_of_length_le (by omega)] at this; exact this
      go_wp2_with fail
      go_ret
      exact ⟨ret_bool HF.out.symm, HB.out⟩

set_option maxHeartbeats 1000000 in
theorem termsOk_any (l : List Tm) (ao : Option Addr) (cap : Nat) (w : World) (hr : RepL 0 w l ao) (hl : l.length ≤ cap) (hc : cap ≤ maxLen) :
    Calls Tryz.prog 136 #[.slice ao l.length cap] w fun e w' => e = .returned (.bool (allOk l)) ∧ Below w.heap.size w w' := by
  have HR : Hid (RepL 0 w l ao) := hr
  clear hr
  unfold maxLen at hc
  go_enter Tryz.func136, Tryz.ntmps136
  go_wp2_with fail
  go_loopw [7] (fun i wr => ∃ k : Nat, k ≤ l.length ∧ i = .int .i64 k ∧ Below w.heap.size w wr ∧ allOk (l.take k) = true) (fun i _ => l.length - (intOf i).toNat)
  case atStart => exact ⟨0, Nat.zero_le _, rfl, Below.refl _ _, rfl⟩
  case round =>
    obtain ⟨k, hk, rfl, hb, ha⟩ := hrel
    have HB : Hid (Below w.heap.size w wr) := hb
    have HA : Hid (allOk (l.take k) = true) := ha
    clear hb ha
    by_cases hlt : k < l.length
    · obtain ⟨b, off, rfl, hB, ht⟩ := RepL.at l ao ((Keeps.below HB.out 0).repL _ _ HR.out) k hlt
      obtain ⟨tk, tn, ts, tao, tlen, tcap, c0, c1, c2, c3, hv⟩ := ht.cells
      have HV : Hid (RepV 0 wr l[k] (.agg #[.int .i64 tk, .int .i64 tn, .string ts, .slice tao tlen tcap])) := hv
      have HT : Hid (allOk (l.take (k + 1)) = okT l[k]) := allOk_take hlt HA.out
      have HNO : Hid (okT l[k] = false → allOk l = false) := fun h => allOk_no hlt h
      clear hv ht
      have HC : Hid (∀ w', Below wr.heap.size wr w' → Calls Tryz.prog 90 #[.agg #[.int .i64 tk, .int .i64 tn, .string ts, .slice tao tlen tcap]] w' fun e w'' => e = .returned (.bool (okT l[k])) ∧ Below wr.heap.size wr w'') := fun w' h =>
        (implOk_any l[k] 0 w' _ ((Keeps.below h 0).repV HV.out)).mono fun e w'' ⟨h1, h2⟩ => ⟨h1, h.trans (h2.mono h.size)⟩
      generalize okT l[k] = q at HT HNO HC
      cases q
      · go_wp2_with (go_at_call 90; refine (HC.out _ ((Below.refl _ _).alloc (Nat.le_refl _) _)).mono ?_; rintro e w3 ⟨rfl, hb3⟩; have HB3 : Hid (Below w.heap.size w w3) := HB.out.trans (hb3.mono HB.out.size); clear hb3)
        go_ret
        exact ⟨ret_bool (HNO.out (by trivial)).symm, HB3.out⟩
      · go_wp2_with (go_at_call 90; refine (HC.out _ ((Below.refl _ _).alloc (Nat.le_refl _) _)).mono ?_; rintro e w3 ⟨rfl, hb3⟩; have HB3 : Hid (Below w.heap.size w w3) := HB.out.trans (hb3.mono HB.out.size); clear hb3)
        go_roundw
        case rel => exact ⟨k + 1, by omega, by go_num, HB3.out, HT.out⟩
        case measure => simp [intOf]; omega
    · have HF : Hid (allOk l = true) := by
        have := HA.out
        rw [List.take_of_length_le (by omega)] at this; exact this
      go_wp2_with fail
      go_ret
      exact ⟨ret_bool HF.out.symm, HB.out⟩
end Go.Proofs.YtjibnlpjpbileaaGreatDoor
