/-
  The program's CodeOk: it answers codeB.
-/
import Derived.Test.YtfjaphhijefdlaaGreatDoorCkA
import Derived.Test.YtfjaphhijefdlaaGreatDoorCtC
import Derived.Test.YtfjaphhijefdlaaGreatDoorEsB
namespace Go.Proofs.YtfjaphhijefdlaaGreatDoor.Code
open Go.RowKit
open Go.Proofs.YtfjaphhijefdlaaGreatDoor.Atom
set_option linter.unusedVariables false

theorem implIns_spec (op a b c n N : Int) (s : ByteArray) (w : World) (hs : s.size ≤ maxLen) (hS : Shp w) :
    Calls Tryz.prog 73 #[.agg #[.int .i64 op, .int .i64 a, .int .i64 b, .int .i64 c, .int .i64 n, .string s], .int .i64 N] w fun e w' => e = .returned (.bool (specOk ⟨op, a, b, c, n, s⟩ N)) ∧ Below w.heap.size w w' := by
  have := implIns_any op a b c n N s w hs hS
  rw [implOk_eq] at this
  exact this

/-- What checkCode answers: nil of right code, else an error. -/
def ChkP (l : List I) (e : Ending) : Prop := (codeB l = true ∧ e = .returned .nilIface) ∨ (codeB l = false ∧ ∃ s : ByteArray, e = .returned (.iface 133 (.string s)))
theorem chk_no {l : List I} (h : codeB l = false) (s : ByteArray) : ChkP l (.returned (.iface 133 (.string s))) := .inr ⟨h, s, rfl⟩
theorem chk_yes {l : List I} (h : codeB l = true) : ChkP l (.returned .nilIface) := .inl ⟨h, rfl⟩

set_option maxHeartbeats 2000000 in
theorem check_any (l : List I) (ao : Option Addr) (cap : Nat) (w : World) (hr : RowI w ao l) (hs : SmI maxLen l) (hl : l.length ≤ 9223372036854775807) (hS : Shp w) (hP : Pow w) :
    Calls Tryz.prog 57 #[.slice ao l.length cap] w fun e w' => ChkP l e ∧ Below w.heap.size w w' := by
  by_cases hn : 1 ≤ l.length ∧ l.length ≤ 200
  rotate_left
  · have HR : Hid (codeB l = false) := codeB_no hn
    by_cases h1 : (l.length : Int) < 1
    · go_enter Tryz.func57, Tryz.ntmps57
      go_wp2
      go_ret
      exact ⟨chk_no HR.out _, Below.refl _ _⟩
    · have h2 : 200 < (l.length : Int) := by omega
      go_enter Tryz.func57, Tryz.ntmps57
      go_wp2
      go_ret
      exact ⟨chk_no HR.out _, Below.refl _ _⟩
  · have HC := codeB_is hn
    obtain ⟨m, hm⟩ : ∃ m, l.length = m + 1 := ⟨l.length - 1, by omega⟩
    rcases hr with h | ⟨b, o, rfl, hrow⟩
    · rw [h] at hm; simp at hm
    have hm2 : m < 200 := by omega
    have hml : m < l.length := by omega
    have elast : lastOp l = (l[m]'hml).op := by
      unfold lastOp
      rw [show l.length - 1 = m by omega, List.getD_eq_getElem?_getD, List.getElem?_eq_getElem hml]; rfl
    have hlc := fun (w' : World) (hb : Below w.heap.size w w') => ((hrow m hml).below hb).c0
    generalize (l[m]'hml).op = lop at hlc elast
    have HR : Hid (codeB l = (((lop == 19) || (lop == 12)) && l.all fun x => specOk x ((m + 1 : Nat) : Int))) := by
      show _ = _
      rw [HC, elast, hm]
    have HLC : Hid (∀ w', Below w.heap.size w w' → w'.cell? ⟨b, o + m * 6, none⟩ = some (.int .i64 lop)) := hlc
    have e1 : IntKind.i64.wrap ((m : Int) + 1 - 1) = (m : Int) := by rw [IntKind.wrap_i64]; omega
    have e2 : IntKind.i64.wrap (m : Int) = (m : Int) := by rw [IntKind.wrap_i64]; omega
    have HRW : Hid (∀ j (hj : j < l.length), Bx6 w b (o + j * 6) l[j]) := hrow
    have HLM : Hid (l.length = m + 1) := hm
    rw [hm]
    clear HC elast hlc hrow hm hn hl hml
    go_enter Tryz.func57, Tryz.ntmps57
    go_wp2_with fail
    go_loopw [18] (fun i wr => ∃ k : Nat, k ≤ m + 1 ∧ i = .int .i64 k ∧ Below w.heap.size w wr ∧ (l.take k).all (fun x => specOk x ((m + 1 : Nat) : Int)) = true) (fun i wr => m + 1 - (intOf i).toNat)
    case atStart => exact ⟨0, Nat.zero_le _, rfl, Below.refl _ _, rfl⟩
    case round =>
      obtain ⟨k, hk, rfl, hbr, hall⟩ := hrel
      have HBR : Hid (Below w.heap.size w wr) := hbr
      have HAL : Hid ((l.take k).all (fun x => specOk x ((m + 1 : Nat) : Int)) = true) := hall
      clear hbr hall
      by_cases hlt : k < m + 1
      · have hkl : k < l.length := by rw [HLM.out]; exact hlt
        have hbx := (HRW.out k hkl).below HBR.out
        have hsx := hs l[k] (List.getElem_mem hkl)
        have HTK : Hid ((l.take (k + 1)).all (fun x => specOk x ((m + 1 : Nat) : Int)) = specOk l[k] ((m + 1 : Nat) : Int)) := by
          show _ = _
          rw [List.take_succ_eq_append_getElem hkl, List.all_append, HAL.out]; simp
        have HBAD : Hid (specOk l[k] ((m + 1 : Nat) : Int) = false → codeB l = false) := fun h => by
          rw [HR.out, Bool.and_eq_false_iff]
          right
          rw [List.all_eq_false]
          exact ⟨l[k], List.getElem_mem hkl, by rw [h]; simp⟩
        generalize hx : l[k] = x at hbx hsx HTK HBAD
        obtain ⟨op, xa, xb, xc, xn, xs⟩ := x
        have d0 := hbx.c0
        have d1 := hbx.c1
        have d2 := hbx.c2
        have d3 := hbx.c3
        have d4 := hbx.c4
        have d5 := hbx.c5
        clear hbx hx
        have e3 : ((m + 1 : Nat) : Int) = (m : Int) + 1 := by omega
        have HSP : Hid (∀ w', Shp w' → Calls Tryz.prog 73 #[.agg #[.int .i64 op, .int .i64 xa, .int .i64 xb, .int .i64 xc, .int .i64 xn, .string xs], .int .i64 ((m : Int) + 1)] w' fun e w'' => e = .returned (.bool (specOk ⟨op, xa, xb, xc, xn, xs⟩ ((m + 1 : Nat) : Int))) ∧ Below w'.heap.size w' w'') := fun w' h' => by
          rw [e3]; exact implIns_spec op xa xb xc xn _ xs w' hsx h'
        clear e3
        generalize hq : specOk ⟨op, xa, xb, xc, xn, xs⟩ ((m + 1 : Nat) : Int) = q at HTK HBAD HSP
        clear hq
        have HBA : Hid (Below w.heap.size w (wr.alloc (.cells #[.int .i64 op, .int .i64 xa, .int .i64 xb, .int .i64 xc, .int .i64 xn, .string xs] 77))) := HBR.out.alloc HBR.out.size _
        cases q
        · have hI : (Lib.itoa (k : Int)).length ≤ 21 := Lib.itoa_length_le _ (by omega) (by omega)
          have HIT : Hid (∀ w', Pow w' → Calls Tryz.prog 74 #[.int .i64 (k : Int)] w' fun e w'' => e = .returned (.string ⟨(Lib.itoa (k : Int)).toArray⟩) ∧ Below w'.heap.size w' w'') := fun w' h' => itoa_any _ (by omega) (by omega) w' h'
          generalize Lib.itoa (k : Int) = L at hI HIT
          go_wp2_with (first
            | (go_at_call 73; refine (HSP.out _ (hS.below HBA.out)).mono ?_; rintro e w3 ⟨rfl, hb3⟩; have HB3 : Hid (Below w.heap.size w w3) := HBA.out.trans (hb3.mono HBA.out.size); clear hb3)
            | (go_at_call 74; refine (HIT.out _ (hP.below HB3.out)).mono ?_; rintro e w4 ⟨rfl, hb4⟩; have HB4 : Hid (Below w.heap.size w w4) := HB3.out.trans (hb4.mono HB3.out.size); clear hb4))
          go_ret
          exact ⟨chk_no (HBAD.out (by trivial)) _, HB4.out⟩
        · go_wp2_with (go_at_call 73; refine (HSP.out _ (hS.below HBA.out)).mono ?_; rintro e w3 ⟨rfl, hb3⟩; have HB3 : Hid (Below w.heap.size w w3) := HBA.out.trans (hb3.mono HBA.out.size); clear hb3)
          go_roundw
          case rel => exact ⟨k + 1, by omega, by go_num, HB3.out, HTK.out⟩
          case measure => simp [intOf]; omega
      · have hF := HAL.out
        rw [List.take_of_length_le (by rw [HLM.out]; omega)] at hF
        have HFI : Hid (codeB l = ((lop == 19) || (lop == 12))) := by show _ = _; rw [HR.out, hF]; simp
        clear hF
        have c0 := HLC.out wr HBR.out
        by_cases q19 : lop = 19
        · have HT : Hid (codeB l = true) := by show _ = _; rw [HFI.out, q19]; rfl
          subst q19
          go_wp2
          go_ret
          exact ⟨chk_yes HT.out, HBR.out⟩
        · by_cases q12 : lop = 12
          · have HT : Hid (codeB l = true) := by show _ = _; rw [HFI.out, q12]; rfl
            subst q12
            go_wp2
            go_ret
            exact ⟨chk_yes HT.out, HBR.out⟩
          · have HF : Hid (codeB l = false) := by show _ = _; rw [HFI.out, show (lop == 19) = false by simp; omega, show (lop == 12) = false by simp; omega]; rfl
            have q1 : (lop != 19) = true := by simp; omega
            have q2 : (lop != 12) = true := by simp; omega
            go_wp2
            go_ret
            exact ⟨chk_no HF.out _, HBR.out⟩

theorem implCode_any (l : List I) (ao : Option Addr) (cap : Nat) (w : World) (hr : RowI w ao l) (hs : SmI maxLen l) (hl : l.length ≤ 9223372036854775807) (hS : Shp w) (hP : Pow w) (hE : Es.Ety w) :
    Calls Tryz.prog 38 #[.slice ao l.length cap] w fun e w' => e = .returned (.bool (codeB l)) ∧ Below w.heap.size w w' := by
  have HCH : Hid (∀ w', w' = w → Calls Tryz.prog 57 #[.slice ao l.length cap] w' fun e w'' => ChkP l e ∧ Below w'.heap.size w' w'') := fun w' h => by
    subst h; exact check_any l ao cap w' hr hs hl hS hP
  go_enter Tryz.func38, Tryz.ntmps38
  go_wp2_with (go_at_call 57; fail)
  refine (HCH.out _ rfl).mono ?_
  rintro e w1 ⟨hc, hb1⟩
  have HB1 : Hid (Below w.heap.size w w1) := hb1
  have HE1 : Hid (Es.Ety w1) := hE.below hb1
  clear hb1
  rcases hc with ⟨hy, rfl⟩ | ⟨hy, s, rfl⟩
  · have HY : Hid (codeB l = true) := hy
    clear hy
    go_wp2_with (go_at_call 56; refine (Es.noCode_nil _).mono ?_; rintro e w2 ⟨rfl, hb2⟩; have HB2 : Hid (Below w.heap.size w w2) := HB1.out.trans (hb2.mono HB1.out.size); clear hb2)
    go_ret
    exact ⟨ret_bool HY.out.symm, HB2.out⟩
  · have HY : Hid (codeB l = false) := hy
    clear hy
    go_wp2_with (go_at_call 56; refine (Es.noCode_hit s _ HE1.out).mono ?_; rintro e w2 ⟨rfl, hb2⟩; have HB2 : Hid (Below w.heap.size w w2) := HB1.out.trans (hb2.mono HB1.out.size); clear hb2)
    go_ret
    exact ⟨ret_bool HY.out.symm, HB2.out⟩
end Go.Proofs.YtfjaphhijefdlaaGreatDoor.Code
