/-
  Numbers in texts: the specification's l1Number and l8Whole.
-/
import Derived.Test.YtfjaphhijefdlaaGreatDoorCoB
import Derived.Lib.Strings
namespace Go.Proofs.YtfjaphhijefdlaaGreatDoor.Code
open Go.RowKit
open Go.Proofs.YtfjaphhijefdlaaGreatDoor.Atom
set_option linter.unusedVariables false

def digB (b : UInt8) : Bool := decide (48 ≤ b.toNat ∧ b.toNat ≤ 57)
def digV (l : List UInt8) : Nat := l.foldl (fun n b => n * 10 + (b.toNat - 48)) 0
/-- The number that a text is; -1: none. -/
def numL (l : List UInt8) : Int := if (1 ≤ l.length ∧ l.length ≤ 7) ∧ ¬ (1 < l.length ∧ l.head? = some 48) ∧ l.all digB = true then (digV l : Int) else -1
def wholeV (l : List UInt8) : Int := if 1 < l.length ∧ l.head? = some 45 then -(numL l.tail) else numL l
def wholeB (l : List UInt8) : Bool := if 1 < l.length ∧ l.head? = some 45 then decide (0 < numL l.tail) else decide (0 ≤ numL l)

theorem digV_snoc (l : List UInt8) (b : UInt8) : digV (l ++ [b]) = digV l * 10 + (b.toNat - 48) := by unfold digV; rw [List.foldl_append]; rfl
theorem digV_lt : ∀ (n : Nat) (l : List UInt8), l.length = n → l.all digB = true → digV l < 10 ^ n := by
  intro n
  induction n with
  | zero => intro l hl _; rw [List.length_eq_zero_iff.1 hl]; decide
  | succ n ih =>
    intro l hl ha
    obtain ⟨m, b, rfl⟩ : ∃ m b, l = m ++ [b] := by
      have hne : l ≠ [] := by intro h; rw [h] at hl; simp at hl
      exact ⟨l.dropLast, l.getLast hne, (List.dropLast_concat_getLast hne).symm⟩
    rw [List.all_append, Bool.and_eq_true] at ha
    have h1 := ih m (by simpa using hl) ha.1
    have h2 : digB b = true := by simpa using ha.2
    have h3 := of_decide_eq_true h2
    rw [digV_snoc, Nat.pow_succ]
    omega
theorem numL_range (l : List UInt8) : -1 ≤ numL l ∧ numL l < 10000000 := by
  unfold numL
  split
  · rename_i h
    have h1 := digV_lt l.length l rfl h.2.2
    have h2 : 10 ^ l.length ≤ 10 ^ 7 := Nat.pow_le_pow_right (by decide) h.1.2
    have : (10 : Nat) ^ 7 = 10000000 := by decide
    omega
  · omega

theorem head_of (s : ByteArray) (h : 0 < s.size) : s.data.toList.head? = some s[0] := by
  have h' : 0 < s.data.toList.length := by simpa using h
  rw [List.head?_eq_getElem?, List.getElem?_eq_getElem h']; rfl

theorem number_text (s : ByteArray) (w : World) (hs : s.size ≤ maxLen) :
    Calls Tryz.prog 101 #[.string s] w fun e w' => e = .returned (.int .i64 (numL s.data.toList)) ∧ w' = w := by
  unfold maxLen at hs
  have hlen : s.data.toList.length = s.size := by simp
  by_cases h17 : 1 ≤ s.size ∧ s.size ≤ 7
  rotate_left
  · have HR : Hid (numL s.data.toList = -1) := by show _ = _; unfold numL; rw [if_neg (by rw [hlen]; intro h; exact h17 h.1)]
    have hi : Atom.inB (s.size : Int) 1 7 = false := decide_eq_false (by omega)
    clear hlen
    go_enter Tryz.func101, Tryz.ntmps101
    go_wp2_with (go_at_call 21; refine (Atom.in_any _ _ _ _).mono ?_; rintro e w' ⟨rfl, rfl⟩)
    go_ret
    exact ⟨by rw [HR.out]; rfl, rfl⟩
  have hi : Atom.inB (s.size : Int) 1 7 = true := decide_eq_true (by omega)
  have hpos : 0 < s.size := by omega
  have hh := head_of s hpos
  by_cases h0 : 1 < s.size ∧ s[0] = 48
  · have HR : Hid (numL s.data.toList = -1) := by show _ = _; unfold numL; rw [if_neg (by rw [hlen, hh]; intro h; exact h.2.1 ⟨h0.1, by rw [h0.2]⟩)]
    have h1 : (1 : Int) < (s.size : Int) := by omega
    have h2 : ((s[0]'hpos).toNat : Int) = 48 := by rw [h0.2]; rfl
    clear hlen hh h0 h17
    go_enter Tryz.func101, Tryz.ntmps101
    go_wp2_with (go_at_call 21; refine (Atom.in_any _ _ _ _).mono ?_; rintro e w' ⟨rfl, rfl⟩)
    go_ret
    exact ⟨by rw [HR.out]; rfl, rfl⟩
  have HN : Hid (numL s.data.toList = if s.data.toList.all digB = true then (digV s.data.toList : Int) else -1) := by
    show _ = _
    unfold numL
    by_cases ha : s.data.toList.all digB = true
    · rw [if_pos ⟨by rw [hlen]; exact h17, by rw [hlen, hh]; intro h; exact h0 ⟨h.1, Option.some.inj h.2⟩, ha⟩, if_pos ha]
    · rw [if_neg (fun h => ha h.2.2), if_neg ha]
  have HLN : Hid (s.data.toList.length = s.size) := hlen
  have h7 : s.size ≤ 7 := h17.2
  have hg : 1 < s.size → ((s[0]'hpos).toNat : Int) ≠ 48 := fun h e => h0 ⟨h, UInt8.toNat_inj.1 (by have : (48 : UInt8).toNat = 48 := rfl; omega)⟩
  clear hlen hh h0 h17
  have hsz : s.size = 1 ∨ s.size ≠ 1 := by omega
  rcases hsz with h1 | h1
  · have hs1 : ¬ (1 : Int) < (s.size : Int) := by omega
    clear hg
    go_enter Tryz.func101, Tryz.ntmps101
    go_wp2_with (go_at_call 21; refine (Atom.in_any _ _ _ _).mono ?_; rintro e w' ⟨rfl, rfl⟩)
    go_loop [3, 4] (fun n i => ∃ k : Nat, k ≤ s.size ∧ i = .int .i64 k ∧ n = .int .i64 (digV (s.data.toList.take k) : Nat) ∧ (s.data.toList.take k).all digB = true) (fun n i => s.size - (intOf i).toNat)
    case atStart => exact ⟨0, Nat.zero_le _, rfl, rfl, rfl⟩
    case round =>
      obtain ⟨k, hk, rfl, rfl, hall⟩ := hrel
      have HAL : Hid ((s.data.toList.take k).all digB = true) := hall
      have hv : digV (s.data.toList.take k) < 10000000 := by
        have h := digV_lt _ _ rfl hall
        have h2 : (10 : Nat) ^ (s.data.toList.take k).length ≤ 10 ^ 7 := Nat.pow_le_pow_right (by decide) (by have := HLN.out; simp; omega)
        have : (10 : Nat) ^ 7 = 10000000 := by decide
        omega
      clear hall
      by_cases hlt : k < s.size
      · have hkl : k < s.data.toList.length := by have := HLN.out; omega
        have hx : s.data.toList[k]'hkl = s[k] := rfl
        have HTK : Hid (s.data.toList.take (k + 1) = s.data.toList.take k ++ [s[k]]) := by
          show _ = _; rw [List.take_succ_eq_append_getElem hkl, hx]
        have hc : s[k].toNat < 256 := s[k].toNat_lt
        have HBAD : Hid (digB s[k] = false → numL s.data.toList = -1) := fun h => by
          rw [HN.out, if_neg]
          intro ha
          rw [List.all_eq_true] at ha
          have := ha (s.data.toList[k]'hkl) (List.getElem_mem hkl)
          rw [hx, h] at this; cases this
        have HIB : Hid (Atom.inB (wrap64 s[k].toNat) 48 57 = digB s[k]) := by
          show _ = _
          rw [inB_nat hc 48 57]; unfold digB; exact decide_eq_decide.2 (by omega)
        have HDG : Hid (digB s[k] = true → 48 ≤ s[k].toNat ∧ s[k].toNat ≤ 57) := fun h => of_decide_eq_true h
        have ew : wrap64 s[k].toNat = (s[k].toNat : Int) := by unfold wrap64; omega
        generalize hsk : s[k] = ch at HTK HBAD HIB HDG ew hc
        have hsk' : s[k]'hlt = ch := hsk
        clear hx hsk
        cases hd : digB ch
        · rw [hd, ew] at HIB
          have HIN : Hid (∀ w', Calls Tryz.prog 21 #[.int .i64 (ch.toNat : Int), .int .i64 48, .int .i64 57] w' fun e w'' => e = .returned (.bool false) ∧ w'' = w') := fun w' => by
            have := Atom.in_any (ch.toNat : Int) 48 57 w'
            rw [HIB.out] at this; exact this
          go_wp2_with (go_at_call 21; refine (HIN.out _).mono ?_; rintro e w' ⟨rfl, rfl⟩)
          go_ret
          exact ⟨by rw [HBAD.out hd]; rfl, rfl⟩
        · have h48 := HDG.out hd
          have HDV : Hid (digV (s.data.toList.take (k + 1)) = digV (s.data.toList.take k) * 10 + (ch.toNat - 48)) := by
            show _ = _; rw [HTK.out, digV_snoc]
          have HAD : Hid ((s.data.toList.take (k + 1)).all digB = true) := by
            show _ = _; rw [HTK.out, List.all_append, HAL.out]; simp [hd]
          rw [hd, ew] at HIB
          have HIN : Hid (∀ w', Calls Tryz.prog 21 #[.int .i64 (ch.toNat : Int), .int .i64 48, .int .i64 57] w' fun e w'' => e = .returned (.bool true) ∧ w'' = w') := fun w' => by
            have := Atom.in_any (ch.toNat : Int) 48 57 w'
            rw [HIB.out] at this; exact this
          generalize digV (s.data.toList.take k) = D at hv HDV
          have u1 : IntKind.u8.wrap ((ch.toNat : Int) - 48) = ((ch.toNat - 48 : Nat) : Int) := by rw [IntKind.wrap_u8]; omega
          go_wp2_with (go_at_call 21; refine (HIN.out _).mono ?_; rintro e w' ⟨rfl, rfl⟩)
          go_round
          case rel => exact ⟨k + 1, by omega, by go_num, by rw [HDV.out]; go_num, HAD.out⟩
          case measure => simp [intOf]; omega
      · have hF := HAL.out
        have HTA : Hid (s.data.toList.take k = s.data.toList) := by show _ = _; exact List.take_of_length_le (by have := HLN.out; omega)
        rw [HTA.out] at hF
        have HFI : Hid (numL s.data.toList = (digV s.data.toList : Int)) := by show _ = _; rw [HN.out, if_pos hF]
        clear hF
        go_wp2
        go_ret
        exact ⟨by rw [HFI.out, HTA.out]; rfl, rfl⟩
  · have hs1 : (1 : Int) < (s.size : Int) := by omega
    have hg' : (((s[0]'hpos).toNat : Int) == 48) = false := by rw [beq_eq_false_iff_ne]; exact hg (by omega)
    clear hg
    go_enter Tryz.func101, Tryz.ntmps101
    go_wp2_with (go_at_call 21; refine (Atom.in_any _ _ _ _).mono ?_; rintro e w' ⟨rfl, rfl⟩)
    go_loop [3, 4] (fun n i => ∃ k : Nat, k ≤ s.size ∧ i = .int .i64 k ∧ n = .int .i64 (digV (s.data.toList.take k) : Nat) ∧ (s.data.toList.take k).all digB = true) (fun n i => s.size - (intOf i).toNat)
    case atStart => exact ⟨0, Nat.zero_le _, rfl, rfl, rfl⟩
    case round =>
      obtain ⟨k, hk, rfl, rfl, hall⟩ := hrel
      have HAL : Hid ((s.data.toList.take k).all digB = true) := hall
      have hv : digV (s.data.toList.take k) < 10000000 := by
        have h := digV_lt _ _ rfl hall
        have h2 : (10 : Nat) ^ (s.data.toList.take k).length ≤ 10 ^ 7 := Nat.pow_le_pow_right (by decide) (by have := HLN.out; simp; omega)
        have : (10 : Nat) ^ 7 = 10000000 := by decide
        omega
      clear hall
      by_cases hlt : k < s.size
      · have hkl : k < s.data.toList.length := by have := HLN.out; omega
        have hx : s.data.toList[k]'hkl = s[k] := rfl
        have HTK : Hid (s.data.toList.take (k + 1) = s.data.toList.take k ++ [s[k]]) := by
          show _ = _; rw [List.take_succ_eq_append_getElem hkl, hx]
        have hc : s[k].toNat < 256 := s[k].toNat_lt
        have HBAD : Hid (digB s[k] = false → numL s.data.toList = -1) := fun h => by
          rw [HN.out, if_neg]
          intro ha
          rw [List.all_eq_true] at ha
          have := ha (s.data.toList[k]'hkl) (List.getElem_mem hkl)
          rw [hx, h] at this; cases this
        have HIB : Hid (Atom.inB (wrap64 s[k].toNat) 48 57 = digB s[k]) := by
          show _ = _
          rw [inB_nat hc 48 57]; unfold digB; exact decide_eq_decide.2 (by omega)
        have HDG : Hid (digB s[k] = true → 48 ≤ s[k].toNat ∧ s[k].toNat ≤ 57) := fun h => of_decide_eq_true h
        have ew : wrap64 s[k].toNat = (s[k].toNat : Int) := by unfold wrap64; omega
        generalize hsk : s[k] = ch at HTK HBAD HIB HDG ew hc
        have hsk' : s[k]'hlt = ch := hsk
        clear hx hsk
        cases hd : digB ch
        · rw [hd, ew] at HIB
          have HIN : Hid (∀ w', Calls Tryz.prog 21 #[.int .i64 (ch.toNat : Int), .int .i64 48, .int .i64 57] w' fun e w'' => e = .returned (.bool false) ∧ w'' = w') := fun w' => by
            have := Atom.in_any (ch.toNat : Int) 48 57 w'
            rw [HIB.out] at this; exact this
          go_wp2_with (go_at_call 21; refine (HIN.out _).mono ?_; rintro e w' ⟨rfl, rfl⟩)
          go_ret
          exact ⟨by rw [HBAD.out hd]; rfl, rfl⟩
        · have h48 := HDG.out hd
          have HDV : Hid (digV (s.data.toList.take (k + 1)) = digV (s.data.toList.take k) * 10 + (ch.toNat - 48)) := by
            show _ = _; rw [HTK.out, digV_snoc]
          have HAD : Hid ((s.data.toList.take (k + 1)).all digB = true) := by
            show _ = _; rw [HTK.out, List.all_append, HAL.out]; simp [hd]
          rw [hd, ew] at HIB
          have HIN : Hid (∀ w', Calls Tryz.prog 21 #[.int .i64 (ch.toNat : Int), .int .i64 48, .int .i64 57] w' fun e w'' => e = .returned (.bool true) ∧ w'' = w') := fun w' => by
            have := Atom.in_any (ch.toNat : Int) 48 57 w'
            rw [HIB.out] at this; exact this
          generalize digV (s.data.toList.take k) = D at hv HDV
          have u1 : IntKind.u8.wrap ((ch.toNat : Int) - 48) = ((ch.toNat - 48 : Nat) : Int) := by rw [IntKind.wrap_u8]; omega
          go_wp2_with (go_at_call 21; refine (HIN.out _).mono ?_; rintro e w' ⟨rfl, rfl⟩)
          go_round
          case rel => exact ⟨k + 1, by omega, by go_num, by rw [HDV.out]; go_num, HAD.out⟩
          case measure => simp [intOf]; omega
      · have hF := HAL.out
        have HTA : Hid (s.data.toList.take k = s.data.toList) := by show _ = _; exact List.take_of_length_le (by have := HLN.out; omega)
        rw [HTA.out] at hF
        have HFI : Hid (numL s.data.toList = (digV s.data.toList : Int)) := by show _ = _; rw [HN.out, if_pos hF]
        clear hF
        go_wp2
        go_ret
        exact ⟨by rw [HFI.out, HTA.out]; rfl, rfl⟩

theorem whole_text (s : ByteArray) (w : World) (hs : s.size ≤ maxLen) :
    Calls Tryz.prog 92 #[.string s] w fun e w' => e = .returned (.tuple #[.int .i64 (wholeV s.data.toList), .bool (wholeB s.data.toList)]) ∧ w' = w := by
  have HS : Hid (s.size ≤ maxLen) := hs
  unfold maxLen at hs
  have hlen : s.data.toList.length = s.size := by simp
  by_cases hm : 1 < s.size ∧ s.data.toList.head? = some 45
  · have hpos : 0 < s.size := by omega
    have hh := head_of s hpos
    have h1 : (1 : Int) < (s.size : Int) := by omega
    have h2 : ((s[0]'hpos).toNat : Int) = 45 := by
      rw [hh] at hm
      rw [Option.some.inj hm.2]; rfl
    have ht : (s.extract 1 s.size).data.toList = s.data.toList.tail := by
      rw [Lib.extract_data, List.take_of_length_le (by rw [List.length_drop, hlen]; omega), List.drop_one]
    have HV : Hid (wholeV s.data.toList = -(numL s.data.toList.tail) ∧ wholeB s.data.toList = decide (0 < numL s.data.toList.tail)) := by
      have hc : 1 < s.data.toList.length ∧ s.data.toList.head? = some 45 := by rw [hlen]; exact hm
      exact ⟨if_pos hc, if_pos hc⟩
    have hr := numL_range s.data.toList.tail
    have HNM : Hid (∀ w', Calls Tryz.prog 101 #[.string (s.extract 1 s.size)] w' fun e w'' => e = .returned (.int .i64 (numL s.data.toList.tail)) ∧ w'' = w') := fun w' => by
      have := number_text (s.extract 1 s.size) w' (by have := HS.out; rw [ByteArray.size_extract]; omega)
      rw [ht] at this; exact this
    generalize numL s.data.toList.tail = v at HV HNM hr
    have e1 : IntKind.i64.wrap (-v) = -v := by rw [IntKind.wrap_i64]; omega
    clear hlen hm hh ht
    go_enter Tryz.func92, Tryz.ntmps92
    go_wp2_with (go_at_call 101; refine (HNM.out _).mono ?_; rintro e w' ⟨rfl, rfl⟩)
    go_ret2
    exact ⟨by rw [HV.out.1, HV.out.2]; rfl, rfl⟩
  · have HV : Hid (wholeV s.data.toList = numL s.data.toList ∧ wholeB s.data.toList = decide (0 ≤ numL s.data.toList)) := by
      have hc : ¬ (1 < s.data.toList.length ∧ s.data.toList.head? = some 45) := by rw [hlen]; exact hm
      exact ⟨if_neg hc, if_neg hc⟩
    have HNM : Hid (∀ w', Calls Tryz.prog 101 #[.string s] w' fun e w'' => e = .returned (.int .i64 (numL s.data.toList)) ∧ w'' = w') := fun w' => number_text s w' HS.out
    generalize numL s.data.toList = v at HV HNM
    by_cases h1 : (1 : Int) < (s.size : Int)
    · have hpos : 0 < s.size := by omega
      have h2 : (((s[0]'hpos).toNat : Int) == 45) = false := by
        rw [beq_eq_false_iff_ne]
        intro e
        refine hm ⟨by omega, ?_⟩
        rw [head_of s hpos]
        exact congrArg some (UInt8.toNat_inj.1 (by have : (45 : UInt8).toNat = 45 := rfl; omega))
      clear hlen hm
      go_enter Tryz.func92, Tryz.ntmps92
      go_wp2_with (go_at_call 101; refine (HNM.out _).mono ?_; rintro e w' ⟨rfl, rfl⟩)
      go_ret2
      exact ⟨by rw [HV.out.1, HV.out.2]; rfl, rfl⟩
    · clear hlen hm
      go_enter Tryz.func92, Tryz.ntmps92
      go_wp2_with (go_at_call 101; refine (HNM.out _).mono ?_; rintro e w' ⟨rfl, rfl⟩)
      go_ret2
      exact ⟨by rw [HV.out.1, HV.out.2]; rfl, rfl⟩
end Go.Proofs.YtfjaphhijefdlaaGreatDoor.Code
