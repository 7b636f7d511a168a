/-
  Code: rows of instructions in memory; the specification's CodeOk: it answers codeB.
-/
import Derived.Test.YtfjaphhijefdlaaGreatDoorCoC
namespace Go.Proofs.YtfjaphhijefdlaaGreatDoor.Code
open Go.RowKit
open Go.Proofs.YtfjaphhijefdlaaGreatDoor.Atom
set_option linter.unusedVariables false

def zeroI : I := ⟨0, 0, 0, 0, 0, ByteArray.empty⟩
def lastOp (l : List I) : Int := (l.getD (l.length - 1) zeroI).op
def codeB (l : List I) : Bool := decide (1 ≤ l.length ∧ l.length ≤ 200) && (((lastOp l == 19) || (lastOp l == 12)) && l.all fun x => specOk x l.length)

/-- The instructions l stand one behind the other from ao on; their texts have at most M bytes. -/
def RowI (w : World) (ao : Option Addr) (l : List I) : Prop := l = [] ∨ ∃ b o, ao = some ⟨b, o, none⟩ ∧ ∀ j (hj : j < l.length), Bx6 w b (o + j * 6) l[j]
def SmI (M : Nat) (l : List I) : Prop := ∀ x ∈ l, x.s.size ≤ M
theorem RowI.below {w w' : World} {ao : Option Addr} {l : List I} (h : RowI w ao l) (hb : Below w.heap.size w w') : RowI w' ao l := by
  rcases h with h | ⟨b, o, h1, h2⟩
  · exact .inl h
  · exact .inr ⟨b, o, h1, fun j hj => (h2 j hj).below hb⟩

theorem codeB_no {l : List I} (h : ¬ (1 ≤ l.length ∧ l.length ≤ 200)) : codeB l = false := by
  unfold codeB; rw [decide_eq_false h]; rfl
theorem codeB_is {l : List I} (h : 1 ≤ l.length ∧ l.length ≤ 200) : codeB l = (((lastOp l == 19) || (lastOp l == 12)) && l.all fun x => specOk x l.length) := by
  unfold codeB; rw [decide_eq_true h]; rfl

set_option maxHeartbeats 1000000 in
theorem specCode_any (l : List I) (ao : Option Addr) (cap : Nat) (w : World) (hr : RowI w ao l) (hs : SmI maxLen l) (hl : l.length ≤ 9223372036854775807) :
    Calls Tryz.prog 60 #[.slice ao l.length cap] w fun e w' => e = .returned (.bool (codeB l)) ∧ Below w.heap.size w w' := by
  by_cases hn : 1 ≤ l.length ∧ l.length ≤ 200
  rotate_left
  · have HR : Hid (codeB l = false) := codeB_no hn
    have hi : Atom.inB (l.length : Int) 1 200 = false := decide_eq_false (by omega)
    go_enter Tryz.func60, Tryz.ntmps60
    go_wp2_with (go_at_call 21; refine (Atom.in_any _ _ _ _).mono ?_; rintro e w' ⟨rfl, rfl⟩)
    go_ret
    exact ⟨ret_bool HR.out.symm, Below.refl _ _⟩
  · have HC := codeB_is hn
    obtain ⟨m, hm⟩ : ∃ m, l.length = m + 1 := ⟨l.length - 1, by omega⟩
    rcases hr with h | ⟨b, o, rfl, hrow⟩
    · rw [h] at hm; simp at hm
    have hm2 : m < 200 := by omega
    have hml : m < l.length := by omega
    have hlast := hrow m hml
    have elast : lastOp l = (l[m]'hml).op := by
      unfold lastOp
      rw [show l.length - 1 = m by omega, List.getD_eq_getElem?_getD, List.getElem?_eq_getElem hml]; rfl
    have c0 := hlast.c0
    generalize (l[m]'hml).op = lop at c0 elast
    have HR : Hid (codeB l = (((lop == 19) || (lop == 12)) && l.all fun x => specOk x ((m + 1 : Nat) : Int))) := by
      show _ = _
      rw [HC, elast, hm]
    clear HC elast hlast
    have hi : Atom.inB ((m : Int) + 1) 1 200 = true := decide_eq_true (by omega)
    have e1 : IntKind.i64.wrap ((m : Int) + 1 - 1) = (m : Int) := by rw [IntKind.wrap_i64]; omega
    have e2 : IntKind.i64.wrap (m : Int) = (m : Int) := by rw [IntKind.wrap_i64]; omega
    rw [hm]
    by_cases hq : lop = 19 ∨ lop = 12
    rotate_left
    · have HF : Hid (codeB l = false) := by
        show _ = _
        rw [HR.out, show (lop == 19) = false by simp; omega, show (lop == 12) = false by simp; omega]; rfl
      have q1 : (lop != 19) = true := by simp; omega
      have q2 : (lop != 12) = true := by simp; omega
      clear hq
      go_enter Tryz.func60, Tryz.ntmps60
      go_wp2_with (go_at_call 21; refine (Atom.in_any _ _ _ _).mono ?_; rintro e w' ⟨rfl, rfl⟩)
      go_ret
      exact ⟨ret_bool HF.out.symm, Below.refl _ _⟩
    · have HA : Hid (codeB l = l.all fun x => specOk x ((m + 1 : Nat) : Int)) := by
        show _ = _
        rw [HR.out]
        rcases hq with h | h <;> rw [h] <;> rfl
      have HRW : Hid (∀ j (hj : j < l.length), Bx6 w b (o + j * 6) l[j]) := hrow
      have HLM : Hid (l.length = m + 1) := hm
      clear hrow HR hm hn hl
      go_enter Tryz.func60, Tryz.ntmps60
      rcases hq with rfl | rfl
      all_goals
        go_wp2_with (go_at_call 21; refine (Atom.in_any _ _ _ _).mono ?_; rintro e w' ⟨rfl, hw'⟩; obtain rfl := hw'.symm)
        go_loopw [4] (fun i wr => ∃ k : Nat, k ≤ m + 1 ∧ i = .int .i64 k ∧ Below w.heap.size w wr ∧ (l.take k).all (fun x => specOk x ((m + 1 : Nat) : Int)) = true) (fun i wr => m + 1 - (intOf i).toNat)
        case atStart => exact ⟨0, Nat.zero_le _, rfl, Below.refl _ _, rfl⟩
        case round =>
          obtain ⟨k, hk, rfl, hbr, hall⟩ := hrel
          have HBR : Hid (Below w.heap.size w wr) := hbr
          have HAL : Hid ((l.take k).all (fun x => specOk x ((m + 1 : Nat) : Int)) = true) := hall
          clear hbr hall
          by_cases hlt : k < m + 1
          · have hkl : k < l.length := by rw [HLM.out]; exact hlt
            have hbx := (HRW.out k hkl).below HBR.out
            have hsx := hs l[k] (List.getElem_mem hkl)
            have HTK : Hid ((l.take (k + 1)).all (fun x => specOk x ((m + 1 : Nat) : Int)) = specOk l[k] ((m + 1 : Nat) : Int)) := by
              show _ = _
              rw [List.take_succ_eq_append_getElem hkl, List.all_append, HAL.out]; simp
            have HBAD : Hid (specOk l[k] ((m + 1 : Nat) : Int) = false → codeB l = false) := fun h => by
              rw [HA.out, List.all_eq_false]
              exact ⟨l[k], List.getElem_mem hkl, by rw [h]; simp⟩
            generalize hx : l[k] = x at hbx hsx HTK HBAD
            obtain ⟨op, xa, xb, xc, xn, xs⟩ := x
            have d0 := hbx.c0
            have d1 := hbx.c1
            have d2 := hbx.c2
            have d3 := hbx.c3
            have d4 := hbx.c4
            have d5 := hbx.c5
            clear hbx hx
            have e3 : ((m + 1 : Nat) : Int) = (m : Int) + 1 := by omega
            have HSP : Hid (∀ w', Calls Tryz.prog 77 #[.agg #[.int .i64 op, .int .i64 xa, .int .i64 xb, .int .i64 xc, .int .i64 xn, .string xs], .int .i64 ((m : Int) + 1)] w' fun e w'' => e = .returned (.bool (specOk ⟨op, xa, xb, xc, xn, xs⟩ ((m + 1 : Nat) : Int))) ∧ Below w'.heap.size w' w'') := fun w' => by
              rw [e3]; exact specIns_any op xa xb xc xn _ xs w' hsx
            clear e3
            generalize hq : specOk ⟨op, xa, xb, xc, xn, xs⟩ ((m + 1 : Nat) : Int) = q at HTK HBAD HSP
            clear hq
            cases q
            · go_wp2_with (go_at_call 77; refine (HSP.out _).mono ?_; rintro e w3 ⟨rfl, hb3⟩; have HB3 : Hid (Below wr.heap.size wr w3) := hb3; clear hb3)
              go_ret
              exact ⟨ret_bool (HBAD.out (by trivial)).symm, HBR.out.trans (HB3.out.mono HBR.out.size)⟩
            · go_wp2_with (go_at_call 77; refine (HSP.out _).mono ?_; rintro e w3 ⟨rfl, hb3⟩; have HB3 : Hid (Below wr.heap.size wr w3) := hb3; clear hb3)
              go_roundw
              case rel => exact ⟨k + 1, by omega, by go_num, HBR.out.trans (HB3.out.mono HBR.out.size), HTK.out⟩
              case measure => simp [intOf]; omega
          · have hF := HAL.out
            rw [List.take_of_length_le (by rw [HLM.out]; omega)] at hF
            have HFI : Hid (codeB l = true) := by show _ = _; rw [HA.out, hF]
            clear hF
            go_wp2
            go_ret
            exact ⟨ret_bool HFI.out.symm, HBR.out⟩
end Go.Proofs.YtfjaphhijefdlaaGreatDoor.Code
