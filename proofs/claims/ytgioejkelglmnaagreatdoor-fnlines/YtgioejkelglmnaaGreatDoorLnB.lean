/-
  The walk of the law FnLines.
-/
import Derived.Test.YtgioejkelglmnaaGreatDoorLnA
import Derived.Test.YtgioejkelglmnaaGreatDoorGuB
import Derived.Test.YtgioejkelglmnaaGreatDoorCtC
namespace Go.Proofs.YtgioejkelglmnaaGreatDoor.Code
open Go.RowKit
open Go.Proofs.YtgioejkelglmnaaGreatDoor.Atom
set_option linter.unusedVariables false

set_option maxHeartbeats 4000000 in
theorem fnLines_walk (w : World) (ao : Option Addr) (len cap : Nat) (zs : List Int) (hr : IsRow w ao len cap zs) (hlc : len ≤ cap) (hcm : cap ≤ maxLen) (hU : Sur w) :
    Calls Tryz.prog 3 #[.slice ao len cap] w fun e w' => e = .returned (.bool true) ∧ Below w.heap.size w w' := by
  have HR : Hid (IsRow w ao len cap zs) := hr
  have HU : Hid (Sur w) := hU
  clear hr hU
  have HBG : Hid (∀ w', Calls Tryz.prog 4 #[.slice ao len cap] w' fun e w'' => e = .returned (.bool (decide (1048576 < len))) ∧ w'' = w') := fun w' => big_any ao len cap (Nat.le_trans hlc hcm) w'
  cases hb : decide (1048576 < len)
  rotate_left
  · rw [hb] at HBG
    go_enter Tryz.func3, Tryz.ntmps3
    go_wp2_with (go_at_call 4; refine (HBG.out _).mono ?_; rintro e w' ⟨rfl, rfl⟩)
    go_ret
    exact ⟨rfl, Below.refl _ _⟩
  rw [hb] at HBG
  have hl : len ≤ 1048576 := by have := of_decide_eq_false hb; omega
  go_enter Tryz.func3, Tryz.ntmps3
  go_wp2_with (first | (go_at_call 4; refine (HBG.out _).mono ?_; rintro e w' ⟨rfl, hw'⟩; obtain rfl := hw'.symm) | (go_at_call 5; fail))
  refine (drawCode_any ao len cap zs _ HR.out hl).mono ?_
  rintro e w1 ⟨⟨va, vc, l, rfl, hrow, hl1, hl2, hwee, hcb⟩, hb1⟩
  have HRO : Hid (IRow w1 w.heap.size (.slice va l.length vc) l) := hrow
  have HB1 : Hid (Below w.heap.size w w1) := hb1
  have HRW : Hid (RowI w1 va l) := hrow.row
  have HWE : Hid (∀ x ∈ l, Wee x) := hwee
  have HCB : Hid (codeB l = true) := hcb
  have HLL : Hid (1 ≤ l.length ∧ l.length ≤ 20) := ⟨hl1, hl2⟩
  clear hrow hb1 hwee hcb HR HBG hb
  go_wp2_with fail
  go_loopw [4, 5] (fun v i wr => ∃ k : Nat, k ≤ l.length ∧ i = .int .i64 k ∧ v = .string ⟨(codeT (l.take k)).toArray⟩ ∧ Below w1.heap.size w1 wr) (fun v i wr => l.length - (intOf i).toNat)
  case atStart => exact ⟨0, Nat.zero_le _, rfl, by simp [codeT], Below.refl _ _⟩
  case round =>
    obtain ⟨k, hk, rfl, rfl, hbr⟩ := hrel
    have HBR : Hid (Below w1.heap.size w1 wr) := hbr
    have HBW : Hid (Below w.heap.size w wr) := HB1.out.trans (hbr.mono HB1.out.size)
    clear hbr
    by_cases hlt : k < l.length
    · rcases HRW.out with h | ⟨b, o, rfl, hrow⟩
      · rw [h] at hlt; simp at hlt
      have hbx := (hrow k hlt).below HBR.out
      have hA : (codeT (l.take k)).length ≤ 100000 := by
        have h1 := codeT_wee (l.take k) (fun x hx => HWE.out x (List.mem_of_mem_take hx))
        have h2 : (l.take k).length ≤ 20 := by simp; omega
        omega
      have HTK : Hid (codeT (l.take (k + 1)) = codeT (l.take k) ++ textI l[k] ++ [10]) := codeT_take l k hlt
      have hwx := HWE.out l[k] (List.getElem_mem hlt)
      have hB := textI_wee hwx
      generalize l[k] = x at hbx hwx HTK hB
      generalize codeT (l.take k) = A at hA HTK ⊢
      obtain ⟨op, xa, xb, xc, xn, xs⟩ := x
      have d0 := hbx.c0
      have d1 := hbx.c1
      have d2 := hbx.c2
      have d3 := hbx.c3
      have d4 := hbx.c4
      have d5 := hbx.c5
      clear hbx hrow
      have HSP : Hid (∀ w', Sur w' → Calls Tryz.prog 6 #[.agg #[.int .i64 op, .int .i64 xa, .int .i64 xb, .int .i64 xc, .int .i64 xn, .string xs]] w' fun e w'' => e = .returned (.string ⟨(textI ⟨op, xa, xb, xc, xn, xs⟩).toArray⟩) ∧ Below w'.heap.size w' w'') := fun w' h => implText_any op xa xb xc xn xs w' (by have := hwx.s; exact Nat.le_trans this (by omega)) (wee_in64 hwx) h.shp h.pow
      generalize textI ⟨op, xa, xb, xc, xn, xs⟩ = X at HTK HSP hB
      clear hwx
      go_wp2_with (go_at_call 6; refine (HSP.out _ (HU.out.below HBW.out)).mono ?_; rintro e w3 ⟨rfl, hb3⟩; have HB3 : Hid (Below w1.heap.size w1 w3) := HBR.out.trans (hb3.mono HBR.out.size); clear hb3)
      go_roundw
      case rel => exact ⟨k + 1, by omega, by go_num, by rw [HTK.out, cat_nl], HB3.out⟩
      case measure => simp [intOf]; omega
    · have hkl : k = l.length := by omega
      subst hkl
      have HJ : Hid (l.take l.length = l) := List.take_length
      have HSZ : Hid ((⟨(codeT l).toArray⟩ : ByteArray).size ≤ 1048576 ∧ dat (⟨(codeT l).toArray⟩ : ByteArray) = codeT l) := by
        have h1 := codeT_wee l HWE.out
        refine ⟨?_, by simp [dat]⟩
        simp [ByteArray.size]; omega
      have HPP : Hid (parseP (codeT l) = some l) := parse_text HCB.out
      have HTX : Hid (textC l = codeT l) := by show _ = _; unfold textC; rw [HCB.out]; rfl
      have HNE : Hid ((⟨(codeT l).toArray⟩ : ByteArray).toList.isEmpty = false) := by
        show _ = _
        rw [ByteArray.toList_eq]
        rcases l with _ | ⟨x, r⟩
        · simp at hl1
        · show (codeT (x :: r)).isEmpty = false
          simp [codeT]
      rw [HJ.out]
      generalize hT : (⟨(codeT l).toArray⟩ : ByteArray) = T at HSZ HNE ⊢
      have HT : Hid ((⟨(codeT l).toArray⟩ : ByteArray) = T) := hT
      clear hT
      go_wp2_with (go_at_call 7; fail)
      refine (implParse_any T wr HSZ.out.1 (HU.out.below HBW.out)).mono ?_
      rw [HSZ.out.2, HPP.out]
      rintro e w4 ⟨⟨vb, vd, l2, rfl, hrow2, hor⟩, hb4⟩
      obtain rfl : l = l2 := by
        rcases hor with h | h
        · exact Option.some.inj h
        · cases h.1
      have HR4 : Hid (RowI w4 vb l ∧ RowI w4 va l ∧ Below w.heap.size w w4) := ⟨hrow2.row, (HRW.out.below HBR.out).below hb4, HBW.out.trans (hb4.mono HBW.out.size)⟩
      clear hrow2 hor hb4
      go_wp2_with (go_at_call 8; fail)
      refine (implCodeText_any l va vc w4 HR4.out.2.1 (fun x hx => Nat.le_trans (HWE.out x hx).s (by omega)) (fun x hx => wee_in64 (HWE.out x hx)) (by omega) (HU.out.below HR4.out.2.2).shp (HU.out.below HR4.out.2.2).pow (HU.out.below HR4.out.2.2).ety).mono ?_
      rw [HTX.out, HT.out]
      rintro e w5 ⟨rfl, hb5⟩
      have HR5 : Hid (RowI w5 vb l ∧ RowI w5 va l ∧ Below w.heap.size w w5) := ⟨HR4.out.1.below hb5, HR4.out.2.1.below hb5, HR4.out.2.2.trans (hb5.mono HR4.out.2.2.size)⟩
      have hne := HNE.out
      clear hb5
      go_wp2_with (go_at_call 9; fail)
      refine (sameCode_same l vb va vd vc w5 HR5.out.1 HR5.out.2.1 (by omega)).mono ?_
      rintro e w6 ⟨rfl, hb6⟩
      have HB6 : Hid (Below w.heap.size w w6) := HR5.out.2.2.trans (hb6.mono HR5.out.2.2.size)
      clear hb6
      go_wp2_with fail
      go_ret
      exact ⟨rfl, HB6.out⟩
end Go.Proofs.YtgioejkelglmnaaGreatDoor.Code
