/-
  The two functions on atoms, the specification's and the program's: both answer atomB.
-/
import Derived.Test.YtdglefedbkgghaaRows
import Derived.Test.YtdglefedbkgghaaAtA
import Derived.WalkKit
import Derived.ProofKit
import Derived.Outline
import Derived.Below
namespace Go.Proofs.Ytdglefedbkgghaa.Atom
open Go.RowKit

/-- 'x is least .. most'. -/
def inB (x a b : Int) : Bool := decide (a ≤ x ∧ x ≤ b)
theorem inB_nat {c : Nat} (h : c < 256) (a b : Int) : inB (wrap64 c) a b = decide (a ≤ (c : Int) ∧ (c : Int) ≤ b) := by
  unfold inB wrap64
  have : ((c : Int) + 9223372036854775808) % 18446744073709551616 - 9223372036854775808 = c := by omega
  rw [this]

theorem in_any (x a b : Int) (w : World) :
    Calls Try.prog 40 #[.int .i64 x, .int .i64 a, .int .i64 b] w fun e w' => e = .returned (.bool (inB x a b)) ∧ w' = w := by
  by_cases h1 : a ≤ x
  · go_enter Try.func40, Try.ntmps40
    go_wp2
    go_ret
    exact ⟨by simp [inB, h1], rfl⟩
  · go_enter Try.func40, Try.ntmps40
    go_wp2
    go_ret
    exact ⟨by simp [inB]; omega, rfl⟩

theorem ret_bool {a b : Bool} (h : a = b) : Ending.returned (.bool a) = .returned (.bool b) := by rw [h]

/-- The same bytes, whatever the range over the string makes of those that are no text. -/
theorem decode_low (s : ByteArray) (pos : Nat) (h : pos < s.size) (ha : (Utf8.decode s pos).1 < 128) : Utf8.decode s pos = (s[pos].toNat, 1) := by
  by_cases hb : s[pos].toNat < 128
  · exact decode_ascii s pos h hb
  · have := (decode_high s pos h (by omega)).1; omega

theorem dec_bad (s : ByteArray) (k : Nat) (h : k < s.size) (hb : ¬ ((97 ≤ (Utf8.decode s k).1 ∧ (Utf8.decode s k).1 ≤ 122) ∨ (k ≠ 0 ∧ 48 ≤ (Utf8.decode s k).1 ∧ (Utf8.decode s k).1 ≤ 57))) : atomB s = false := by
  refine atomB_bad s k h (chOk_false ?_)
  by_cases hc : s[k].toNat < 128
  · rw [decode_ascii s k h hc] at hb; exact hb
  · omega
theorem dec_good (s : ByteArray) (k : Nat) (h : k < s.size) (hb : (97 ≤ (Utf8.decode s k).1 ∧ (Utf8.decode s k).1 ≤ 122) ∨ (k ≠ 0 ∧ 48 ≤ (Utf8.decode s k).1 ∧ (Utf8.decode s k).1 ≤ 57)) (ha : allTo s k = true) :
    (Utf8.decode s k).2 = 1 ∧ allTo s (k + 1) = true := by
  have e := decode_low s k h (by omega)
  rw [e] at hb
  exact ⟨by rw [e], by rw [allTo_succ s k h, ha, chOk_true hb]; rfl⟩

end Go.Proofs.Ytdglefedbkgghaa.Atom
