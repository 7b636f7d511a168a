/-
  The two functions on atoms, the specification's and the program's: both answer atomB.
-/
import Derived.Test.YtabgfaafpgholaaRows
import Derived.Test.YtabgfaafpgholaaAtA
import Derived.WalkKit
import Derived.ProofKit
import Derived.Outline
import Derived.Below
namespace Go.Proofs.Ytabgfaafpgholaa.Atom
open Go.RowKit

/-- 'x is least .. most'. -/
def inB (x a b : Int) : Bool := decide (a ≤ x ∧ x ≤ b)
theorem inB_nat {c : Nat} (h : c < 256) (a b : Int) : inB (wrap64 c) a b = decide (a ≤ (c : Int) ∧ (c : Int) ≤ b) := by
  unfold inB wrap64
  have : ((c : Int) + 9223372036854775808) % 18446744073709551616 - 9223372036854775808 = c := by omega
  rw [this]

theorem in_any (x a b : Int) (w : World) :
    Calls Try.prog 90 #[.int .i64 x, .int .i64 a, .int .i64 b] w fun e w' => e = .returned (.bool (inB x a b)) ∧ w' = w := by
  by_cases h1 : a ≤ x
  · go_enter Try.func90, Try.ntmps90
    go_wp2
    go_ret
    exact ⟨by simp [inB, h1], rfl⟩
  · go_enter Try.func90, Try.ntmps90
    go_wp2
    go_ret
    exact ⟨by simp [inB]; omega, rfl⟩

theorem ret_bool {a b : Bool} (h : a = b) : Ending.returned (.bool a) = .returned (.bool b) := by rw [h]

set_option maxHeartbeats 400000 in
theorem spec_any (s : ByteArray) (w : World) (hs : s.size ≤ maxLen) :
    Calls Try.prog 92 #[.string s] w fun e w' => e = .returned (.bool (atomB s)) ∧ w' = w := by
  unfold maxLen at hs
  go_enter Try.func92, Try.ntmps92
  go_wp2_with fail
  go_loop [3] (fun i => ∃ k : Nat, k ≤ s.size ∧ i = .int .i64 k ∧ allTo s k = true) (fun i => s.size - (intOf i).toNat)
  case atStart => exact ⟨0, Nat.zero_le _, rfl, rfl⟩
  case round =>
    obtain ⟨k, hk, rfl, ha⟩ := hrel
    have HA : Hid (allTo s k = true) := ha
    clear ha
    by_cases hlt : k < s.size
    · have hc : s[k].toNat < 256 := s[k].toNat_lt
      have e1 := inB_nat hc 97 122
      have e2 := inB_nat hc 48 57
      have HS : Hid (allTo s (k + 1) = (allTo s k && chOk k s[k].toNat)) := allTo_succ s k hlt
      have HB : Hid (chOk k s[k].toNat = false → atomB s = false) := atomB_bad s k hlt
      have HC : Hid (inB (wrap64 s[k].toNat) 97 122 = decide ((97 : Int) ≤ (s[k].toNat : Int) ∧ (s[k].toNat : Int) ≤ 122) ∧ inB (wrap64 s[k].toNat) 48 57 = decide ((48 : Int) ≤ (s[k].toNat : Int) ∧ (s[k].toNat : Int) ≤ 57)) := ⟨e1, e2⟩
      clear e1 e2 hc
      cases h1 : inB (wrap64 s[k].toNat) 97 122
      · have H1 : Hid (¬ (97 ≤ s[k].toNat ∧ s[k].toNat ≤ 122)) := by
          have := HC.out.1; rw [h1] at this
          intro hh; have := of_decide_eq_false this.symm; omega
        by_cases h0 : k = 0
        · subst h0
          go_wp2_with (go_at_call 90; refine (in_any _ _ _ _).mono ?_; rintro e w' ⟨rfl, rfl⟩)
          go_ret
          exact ⟨ret_bool (HB.out (chOk_false (by have := H1.out; omega))).symm, rfl⟩
        · cases h2 : inB (wrap64 s[k].toNat) 48 57
          · have H2 : Hid (¬ (48 ≤ s[k].toNat ∧ s[k].toNat ≤ 57)) := by
              have := HC.out.2; rw [h2] at this
              intro hh; have := of_decide_eq_false this.symm; omega
            go_wp2_with (go_at_call 90; refine (in_any _ _ _ _).mono ?_; rintro e w' ⟨rfl, rfl⟩)
            go_ret
            exact ⟨ret_bool (HB.out (chOk_false (by have := H1.out; have := H2.out; omega))).symm, rfl⟩
          · have H2 : Hid (48 ≤ s[k].toNat ∧ s[k].toNat ≤ 57) := by
              have := HC.out.2; rw [h2] at this
              have := of_decide_eq_true this.symm; exact ⟨by omega, by omega⟩
            go_wp2_with (go_at_call 90; refine (in_any _ _ _ _).mono ?_; rintro e w' ⟨rfl, rfl⟩)
            go_round
            case rel => exact ⟨k + 1, by omega, by go_num, by rw [HS.out, HA.out, chOk_true (Or.inr ⟨h0, H2.out⟩)]; rfl⟩
            case measure => simp [intOf]; omega
      · have H1 : Hid (97 ≤ s[k].toNat ∧ s[k].toNat ≤ 122) := by
          have := HC.out.1; rw [h1] at this
          have := of_decide_eq_true this.symm; exact ⟨by omega, by omega⟩
        go_wp2_with (go_at_call 90; refine (in_any _ _ _ _).mono ?_; rintro e w' ⟨rfl, rfl⟩)
        go_round
        case rel => exact ⟨k + 1, by omega, by go_num, by rw [HS.out, HA.out, chOk_true (Or.inl H1.out)]; rfl⟩
        case measure => simp [intOf]; omega
    · go_wp2_with (go_at_call 90; refine (in_any _ _ _ _).mono ?_; rintro e w' ⟨rfl, rfl⟩)
      go_ret
      have hk' : k = s.size := by omega
      have h := HA.out
      rw [hk'] at h
      exact ⟨ret_bool (by rw [atomB_end s h]; unfold inB; exact decide_eq_decide.2 (by omega)), rfl⟩

/-- The same bytes, whatever the range over the string makes of those that are no text. -/
theorem decode_low (s : ByteArray) (pos : Nat) (h : pos < s.size) (ha : (Utf8.decode s pos).1 < 128) : Utf8.decode s pos = (s[pos].toNat, 1) := by
  by_cases hb : s[pos].toNat < 128
  · exact decode_ascii s pos h hb
  · have := (decode_high s pos h (by omega)).1; omega

theorem dec_bad (s : ByteArray) (k : Nat) (h : k < s.size) (hb : ¬ ((97 ≤ (Utf8.decode s k).1 ∧ (Utf8.decode s k).1 ≤ 122) ∨ (k ≠ 0 ∧ 48 ≤ (Utf8.decode s k).1 ∧ (Utf8.decode s k).1 ≤ 57))) : atomB s = false := by
  refine atomB_bad s k h (chOk_false ?_)
  by_cases hc : s[k].toNat < 128
  · rw [decode_ascii s k h hc] at hb; exact hb
  · omega
theorem dec_good (s : ByteArray) (k : Nat) (h : k < s.size) (hb : (97 ≤ (Utf8.decode s k).1 ∧ (Utf8.decode s k).1 ≤ 122) ∨ (k ≠ 0 ∧ 48 ≤ (Utf8.decode s k).1 ∧ (Utf8.decode s k).1 ≤ 57)) (ha : allTo s k = true) :
    (Utf8.decode s k).2 = 1 ∧ allTo s (k + 1) = true := by
  have e := decode_low s k h (by omega)
  rw [e] at hb
  exact ⟨by rw [e], by rw [allTo_succ s k h, ha, chOk_true hb]; rfl⟩

set_option maxHeartbeats 400000 in
theorem impl_any (s : ByteArray) (w : World) (hs : s.size ≤ maxLen) :
    Calls Try.prog 76 #[.string s] w fun e w' => e = .returned (.bool (atomB s)) ∧ (w' = w ∨ ∃ pos, w' = w.iter s pos) := by
  unfold maxLen at hs
  by_cases hl : 1 ≤ s.size
  · by_cases hm : s.size ≤ 12
    · go_enter Try.func76, Try.ntmps76
      go_wp2
      go_loopw [] (fun w' => ∃ k : Nat, w' = w.iter s k ∧ k ≤ s.size ∧ allTo s k = true) (fun w' => s.size - w'.iterPos w.heap.size)
      case atStart => exact ⟨0, rfl, Nat.zero_le _, rfl⟩
      case round =>
        obtain ⟨k, rfl, hk, ha⟩ := hrel
        have HA : Hid (allTo s k = true) := ha
        clear ha
        by_cases hlt : k < s.size
        · have hnx : ∀ ty, (Instr.next (.pointer (some ⟨w.heap.size, 0, none⟩)) true ty).run Try.prog (w.iter s k) = _ := fun ty => run_next_any w s k ty hlt
          have HB := dec_bad s k hlt
          have HG := dec_good s k hlt
          have HB' : Hid (¬ ((97 ≤ (Utf8.decode s k).1 ∧ (Utf8.decode s k).1 ≤ 122) ∨ (k ≠ 0 ∧ 48 ≤ (Utf8.decode s k).1 ∧ (Utf8.decode s k).1 ≤ 57)) → atomB s = false) := HB
          have HG' : Hid ((97 ≤ (Utf8.decode s k).1 ∧ (Utf8.decode s k).1 ≤ 122) ∨ (k ≠ 0 ∧ 48 ≤ (Utf8.decode s k).1 ∧ (Utf8.decode s k).1 ≤ 57) → allTo s k = true → (Utf8.decode s k).2 = 1 ∧ allTo s (k + 1) = true) := HG
          clear HB HG
          by_cases c1 : (97 : Int) ≤ ((Utf8.decode s k).1 : Int)
          · by_cases c2 : ((Utf8.decode s k).1 : Int) ≤ 122
            · have hd := HG'.out (Or.inl (by omega)) HA.out
              have HD : Hid ((Utf8.decode s k).2 = 1 ∧ allTo s (k + 1) = true) := hd
              clear hd
              go_wp2
              go_roundw
              case rel => exact ⟨k + 1, by rw [HD.out.1], by omega, HD.out.2⟩
              case measure => rw [HD.out.1]; simp; omega
            · have hd := HB'.out (by omega)
              have HD : Hid (atomB s = false) := hd
              clear hd
              go_wp2
              go_ret
              exact ⟨ret_bool HD.out.symm, Or.inr ⟨_, rfl⟩⟩
          · by_cases c3 : (48 : Int) ≤ ((Utf8.decode s k).1 : Int)
            · by_cases c4 : ((Utf8.decode s k).1 : Int) ≤ 57
              · by_cases c5 : k = 0
                · have hd := HB'.out (by omega)
                  have HD : Hid (atomB s = false) := hd
                  clear hd
                  subst c5
                  go_wp2
                  go_ret
                  exact ⟨ret_bool HD.out.symm, Or.inr ⟨_, rfl⟩⟩
                · have hd := HG'.out (Or.inr (by omega)) HA.out
                  have HD : Hid ((Utf8.decode s k).2 = 1 ∧ allTo s (k + 1) = true) := hd
                  clear hd
                  go_wp2
                  go_roundw
                  case rel => exact ⟨k + 1, by rw [HD.out.1], by omega, HD.out.2⟩
                  case measure => rw [HD.out.1]; simp; omega
              · have hd := HB'.out (by omega)
                have HD : Hid (atomB s = false) := hd
                clear hd
                go_wp2
                go_ret
                exact ⟨ret_bool HD.out.symm, Or.inr ⟨_, rfl⟩⟩
            · have hd := HB'.out (by omega)
              have HD : Hid (atomB s = false) := hd
              clear hd
              go_wp2
              go_ret
              exact ⟨ret_bool HD.out.symm, Or.inr ⟨_, rfl⟩⟩
        · have hnx : ∀ ty, (Instr.next (.pointer (some ⟨w.heap.size, 0, none⟩)) true ty).run Try.prog (w.iter s k) = _ := fun ty => run_next_end w s k ty hlt
          go_wp2
          go_ret
          have hk' : k = s.size := by omega
          have h := HA.out
          rw [hk'] at h
          exact ⟨ret_bool (by rw [atomB_end s h]; simp [hl, hm]), Or.inr ⟨_, rfl⟩⟩
    · go_enter Try.func76, Try.ntmps76
      go_wp2
      go_ret
      exact ⟨ret_bool (atomB_len s (by omega)).symm, Or.inl rfl⟩
  · go_enter Try.func76, Try.ntmps76
    go_wp2
    go_ret
    exact ⟨ret_bool (atomB_len s (by omega)).symm, Or.inl rfl⟩
end Go.Proofs.Ytabgfaafpgholaa.Atom
