/-
  A number read of bytes: what both kinds of GetNum answer.
-/
import Derived.Test.YtpjhipekjilejaaDoorByC
import Derived.WalkLawsBesides
import Derived.Deep.RegionWith
namespace Go.Proofs.YtpjhipekjilejaaDoor.By
open Go.RowKit
set_option linter.unusedVariables false

/-- The three that GetNum answers. -/
def ansN (x : Option (Int × Int)) : Value := match x with
  | none => .tuple #[.int .i64 0, .int .i64 0, .bool false]
  | some (n, e) => .tuple #[.int .i64 n, .int .i64 e, .bool true]
/-- The three that the groups answer: the number, the place behind, and whether they are all there. -/
def ansG (L : List UInt8) (i : Int) : Option (Nat × Nat) := if 0 ≤ i ∧ i < L.length then rdG (L.drop i.toNat) 0 0 else none
theorem rd_next {L : List UInt8} {i k m : Nat} (h : i + k < L.length) (h4 : k < 4) : rdG (L.drop (i + k)) k m = (if 128 ≤ L[i + k].toNat then rdG (L.drop (i + (k + 1))) (k + 1) (m + L[i + k].toNat % 128 * 128 ^ k) else if 0 < k ∧ L[i + k].toNat = 0 then none else some (m + L[i + k].toNat * 128 ^ k, k + 1)) := by
  rw [List.drop_eq_getElem_cons h, rdG, if_neg (by omega)]
  rfl
theorem rd_four (t : List UInt8) (m : Nat) : rdG t 4 m = none := by cases t <;> simp [rdG]
theorem get_of {L : List UInt8} {i : Nat} (h : i < L.length) : getB L i = (match rdG (L.drop (i + 0)) 0 0 with
    | none => none
    | some (v, k) => if -1000000 ≤ unfN v ∧ unfN v ≤ 1000000 then some (unfN v, (i : Int) + k) else none) := by
  unfold getB
  rw [if_pos (by omega), Int.toNat_natCast]; rfl
theorem get_out {L : List UInt8} {i : Int} (h : ¬ (0 ≤ i ∧ i < L.length)) : getB L i = none := by unfold getB; rw [if_neg h]

theorem or_add (m c k : Nat) (hm : m < 2 ^ k) (hb : m + c * 2 ^ k < 9223372036854775808) : bits .or .i64 (m : Int) ((c : Int) * 2 ^ k) = (m : Int) + c * 2 ^ k := by
  have e1 : ((c : Int) * 2 ^ k) = ((c * 2 ^ k : Nat) : Int) := by rw [Int.natCast_mul, Int.natCast_pow]; rfl
  rw [e1]
  have t1 : (BitVec.ofInt 64 (m : Int)).toNat = m := by rw [BitVec.toNat_ofInt]; omega
  have t2 : (BitVec.ofInt 64 ((c * 2 ^ k : Nat) : Int)).toNat = c * 2 ^ k := by rw [BitVec.toNat_ofInt]; omega
  show IntKind.i64.wrap ((BitVec.ofInt 64 (m : Int) ||| BitVec.ofInt 64 ((c * 2 ^ k : Nat) : Int)).toNat : Nat) = _
  have key : (BitVec.ofInt 64 (m : Int) ||| BitVec.ofInt 64 ((c * 2 ^ k : Nat) : Int)).toNat = m + c * 2 ^ k := by
    rw [BitVec.toNat_or, t1, t2, Nat.or_comm, Nat.mul_comm c, ← Nat.two_pow_add_eq_or_of_lt hm c, Nat.add_comm]
  rw [key, IntKind.wrap_i64]
  omega
theorem and1 (n : Nat) : bits .and .i64 (n : Int) 1 = (n : Int) % 2 := by
  have h1 : (BitVec.ofInt 64 1).toNat = 2 ^ 1 - 1 := by decide
  have key : (BitVec.ofInt 64 (n : Int) &&& BitVec.ofInt 64 1).toNat = ((n : Int) % ((2 ^ 64 : Nat) : Int)).toNat % 2 ^ 1 := by
    rw [BitVec.toNat_and, BitVec.toNat_ofInt, h1, Nat.and_two_pow_sub_one_eq_mod]
  show IntKind.i64.wrap ((BitVec.ofInt 64 (n : Int) &&& BitVec.ofInt 64 1).toNat : Nat) = (n : Int) % 2
  rw [key, IntKind.wrap_i64]
  omega

theorem or_k (m c k : Nat) (P : Int) (hP : P = ((2 ^ (7 * k) : Nat) : Int)) (hk : k < 4) (hm : m < 128 ^ k) : bits .or .i64 (m : Int) ((c : Int) % 128 * P) = ((m + c % 128 * 128 ^ k : Nat) : Int) := by
  have e7 : (128 : Nat) ^ k = 2 ^ (7 * k) := by rw [Nat.pow_mul]
  rw [e7] at hm ⊢
  have hb : m + c % 128 * 2 ^ (7 * k) < 9223372036854775808 := by
    have h1 : 2 ^ (7 * k) ≤ 2 ^ 21 := Nat.pow_le_pow_right (by decide) (by omega)
    have h2 : c % 128 * 2 ^ (7 * k) ≤ 127 * 2 ^ 21 := Nat.mul_le_mul (by omega) h1
    omega
  have := or_add m (c % 128) (7 * k) hm hb
  rw [hP]
  have e : ((c % 128 : Nat) : Int) = (c : Int) % 128 := by omega
  rw [e] at this
  rw [Int.natCast_pow]
  rw [show ((2 : Nat) : Int) = 2 from rfl, this]
  rw [Int.natCast_add, Int.natCast_mul, Int.natCast_pow, e]
  rfl
theorem v_lt (m c k : Nat) (hm : m < 128 ^ k) : m + c % 128 * 128 ^ k < 128 ^ (k + 1) := by
  rw [Nat.pow_succ]
  have h : c % 128 * 128 ^ k ≤ 127 * 128 ^ k := Nat.mul_le_mul_right _ (by omega)
  omega
theorem rd_step {L : List UInt8} {i k m c : Nat} (h : i + k < L.length) (h4 : k < 4) (hc : L[i + k].toNat = c) : rdG (L.drop (i + k)) k m = (if 128 ≤ c then rdG (L.drop (i + (k + 1))) (k + 1) (m + c % 128 * 128 ^ k) else if 0 < k ∧ c = 0 then none else some (m + c % 128 * 128 ^ k, k + 1)) := by
  rw [rd_next h h4, hc]
  split
  · rfl
  · rw [Nat.mod_eq_of_lt (by omega : c < 128)]
theorem unf_even {v : Nat} (h : ¬ v % 2 = 1) : unfN v = (v : Int) / 2 := by unfold unfN; rw [if_neg h]
theorem unf_odd {v : Nat} (h : v % 2 = 1) : unfN v = -((v : Int) / 2) - 1 := by unfold unfN; rw [if_pos h]; omega
/-- What GetNum makes of what was read. -/
def outN (i : Int) (v k : Nat) : Option (Int × Int) := if -1000000 ≤ unfN v ∧ unfN v ≤ 1000000 then some (unfN v, i + k) else none
theorem out_yes {i : Int} {v k : Nat} {u : Int} (hu : unfN v = u) (h : inB u (-1000000) 1000000 = true) : outN i v k = some (u, i + k) := by
  subst hu
  unfold outN
  rw [if_pos (by simpa [inB] using h)]
theorem out_no {i : Int} {v k : Nat} {u : Int} (hu : unfN v = u) (h : inB u (-1000000) 1000000 = false) : outN i v k = none := by
  subst hu
  unfold outN
  rw [if_neg (by simpa [inB] using h)]
theorem get_yes {L : List UInt8} {i : Nat} {v k : Nat} (h : i < L.length) (hr : rdG (L.drop (i + 0)) 0 0 = some (v, k)) : getB L i = outN i v k := by rw [get_of h, hr]; rfl
theorem get_no {L : List UInt8} {i : Nat} (h : i < L.length) (hr : rdG (L.drop (i + 0)) 0 0 = none) : getB L i = none := by rw [get_of h, hr]

/-- What a round of the specification's loop has in hand, at the place 0. -/
structure Gr0 (L : List UInt8) (i m v c : Nat) : Prop where
  rd : rdG (L.drop (i + 0)) 0 0 = (if 128 ≤ c then rdG (L.drop (i + 1)) 1 v else if 0 < 0 ∧ c = 0 then none else some (v, 1))
  vl : v < 128 ^ 1
  or : bits .or .i64 (m : Int) ((c : Int) % 128) = (v : Int)
theorem gr0 {L : List UInt8} {i m c : Nat} (h : i + 0 < L.length) (hc : L[i + 0].toNat = c) (hm : m < 128 ^ 0) (hr : rdG (L.drop (i + 0)) 0 0 = rdG (L.drop (i + 0)) 0 m) : ∃ v, Gr0 L i m v c := by
  refine ⟨m + c % 128 * 128 ^ 0, ?_, v_lt m c 0 hm, ?_⟩
  · rw [hr, rd_step h (by decide) hc]
  · have := or_k m c 0 1 (by decide) (by decide) hm
    rw [Int.mul_one] at this
    exact this
/-- What a round of the specification's loop has in hand, at the place 1. -/
structure Gr1 (L : List UInt8) (i m v c : Nat) : Prop where
  rd : rdG (L.drop (i + 0)) 0 0 = (if 128 ≤ c then rdG (L.drop (i + 2)) 2 v else if 0 < 1 ∧ c = 0 then none else some (v, 2))
  vl : v < 128 ^ 2
  or : bits .or .i64 (m : Int) ((c : Int) % 128 * 128) = (v : Int)
theorem gr1 {L : List UInt8} {i m c : Nat} (h : i + 1 < L.length) (hc : L[i + 1].toNat = c) (hm : m < 128 ^ 1) (hr : rdG (L.drop (i + 0)) 0 0 = rdG (L.drop (i + 1)) 1 m) : ∃ v, Gr1 L i m v c := by
  refine ⟨m + c % 128 * 128 ^ 1, ?_, v_lt m c 1 hm, ?_⟩
  · rw [hr, rd_step h (by decide) hc]
  · have := or_k m c 1 128 (by decide) (by decide) hm
    skip
    exact this
/-- What a round of the specification's loop has in hand, at the place 2. -/
structure Gr2 (L : List UInt8) (i m v c : Nat) : Prop where
  rd : rdG (L.drop (i + 0)) 0 0 = (if 128 ≤ c then rdG (L.drop (i + 3)) 3 v else if 0 < 2 ∧ c = 0 then none else some (v, 3))
  vl : v < 128 ^ 3
  or : bits .or .i64 (m : Int) ((c : Int) % 128 * 16384) = (v : Int)
theorem gr2 {L : List UInt8} {i m c : Nat} (h : i + 2 < L.length) (hc : L[i + 2].toNat = c) (hm : m < 128 ^ 2) (hr : rdG (L.drop (i + 0)) 0 0 = rdG (L.drop (i + 2)) 2 m) : ∃ v, Gr2 L i m v c := by
  refine ⟨m + c % 128 * 128 ^ 2, ?_, v_lt m c 2 hm, ?_⟩
  · rw [hr, rd_step h (by decide) hc]
  · have := or_k m c 2 16384 (by decide) (by decide) hm
    skip
    exact this
/-- What a round of the specification's loop has in hand, at the place 3. -/
structure Gr3 (L : List UInt8) (i m v c : Nat) : Prop where
  rd : rdG (L.drop (i + 0)) 0 0 = (if 128 ≤ c then rdG (L.drop (i + 4)) 4 v else if 0 < 3 ∧ c = 0 then none else some (v, 4))
  vl : v < 128 ^ 4
  or : bits .or .i64 (m : Int) ((c : Int) % 128 * 2097152) = (v : Int)
theorem gr3 {L : List UInt8} {i m c : Nat} (h : i + 3 < L.length) (hc : L[i + 3].toNat = c) (hm : m < 128 ^ 3) (hr : rdG (L.drop (i + 0)) 0 0 = rdG (L.drop (i + 3)) 3 m) : ∃ v, Gr3 L i m v c := by
  refine ⟨m + c % 128 * 128 ^ 3, ?_, v_lt m c 3 hm, ?_⟩
  · rw [hr, rd_step h (by decide) hc]
  · have := or_k m c 3 2097152 (by decide) (by decide) hm
    skip
    exact this

end Go.Proofs.YtpjhipekjilejaaDoor.By
