/-
  Numbers as bytes: what is put, what is read of it, and that the one comes back of the other. Reckoning alone.
-/
import Derived.Test.YtgdlkekjbdkjjaaGreatDoorCurA
namespace Go.Proofs.YtgdlkekjbdkjjaaGreatDoor.By
open Go.RowKit
set_option linter.unusedVariables false

/-- The nearest number that is kept. -/
def clampN (n : Int) : Int := if 1000000 < n then 1000000 else if n < -1000000 then -1000000 else n
theorem clamp_in (n : Int) : -1000000 ≤ clampN n ∧ clampN n ≤ 1000000 := by unfold clampN; split <;> (try split) <;> omega
theorem clamp_id {n : Int} (h0 : -1000000 ≤ n) (h1 : n ≤ 1000000) : clampN n = n := by
  unfold clampN; rw [if_neg (by omega), if_neg (by omega)]
/-- Numbers below 0 and above by turns. -/
def foldN (n : Int) : Nat := if clampN n < 0 then (-2 * clampN n - 1).toNat else (2 * clampN n).toNat
def unfN (v : Nat) : Int := if v % 2 = 1 then -(((v : Int) + 1) / 2) else (v : Int) / 2
theorem fold_le (n : Int) : foldN n ≤ 2000000 := by
  have := clamp_in n
  unfold foldN; split <;> omega
theorem unf_fold (n : Int) : unfN (foldN n) = clampN n := by
  have := clamp_in n
  unfold unfN foldN
  split <;> split <;> omega
theorem fold_unf (v : Nat) (h0 : -1000000 ≤ unfN v) (h1 : unfN v ≤ 1000000) : foldN (unfN v) = v := by
  unfold foldN
  rw [clamp_id h0 h1]
  revert h0 h1
  unfold unfN
  intro h0 h1
  split <;> split <;> omega

/-- Groups of seven bits, the lowest first. -/
def grp (m : Nat) : List UInt8 := if h : m < 128 then [UInt8.ofNat m] else UInt8.ofNat (m % 128 + 128) :: grp (m / 128)
termination_by m
decreasing_by omega
theorem grp_last {m : Nat} (h : m < 128) : grp m = [UInt8.ofNat m] := by rw [grp, dif_pos h]
theorem grp_more {m : Nat} (h : ¬ m < 128) : grp m = UInt8.ofNat (m % 128 + 128) :: grp (m / 128) := by rw [grp, dif_neg h]
theorem grp_len (m : Nat) (h : m < 268435456) : 1 ≤ (grp m).length ∧ (grp m).length ≤ 4 := by
  by_cases h1 : m < 128
  · rw [grp_last h1]; simp
  · rw [grp_more h1]
    by_cases h2 : m / 128 < 128
    · rw [grp_last h2]; simp
    · rw [grp_more h2]
      by_cases h3 : m / 128 / 128 < 128
      · rw [grp_last h3]; simp
      · rw [grp_more h3, grp_last (by omega)]; simp
/-- The bytes of a number. -/
def numB (n : Int) : List UInt8 := grp (foldN n)
theorem num_len (n : Int) : 1 ≤ (numB n).length ∧ (numB n).length ≤ 4 := grp_len _ (by have := fold_le n; omega)

/-- What is read: k groups have been read, m is what they tell. -/
def rdG : List UInt8 → Nat → Nat → Option (Nat × Nat)
  | [], _, _ => none
  | c :: t, k, m =>
    if 4 ≤ k then none
    else if 128 ≤ c.toNat then rdG t (k + 1) (m + c.toNat % 128 * 128 ^ k)
    else if 0 < k ∧ c.toNat = 0 then none
    else some (m + c.toNat * 128 ^ k, k + 1)
def getB (L : List UInt8) (i : Int) : Option (Int × Int) :=
  if 0 ≤ i ∧ i < L.length then
    match rdG (L.drop i.toNat) 0 0 with
    | none => none
    | some (v, k) => if -1000000 ≤ unfN v ∧ unfN v ≤ 1000000 then some (unfN v, i + k) else none
  else none

theorem toNat_of {m : Nat} (h : m < 256) : (UInt8.ofNat m).toNat = m := by rw [UInt8.toNat_ofNat']; omega
theorem rd_grp (t : List UInt8) : ∀ (f m k a : Nat), m < 128 ^ f → k + f ≤ 4 → (k = 0 ∨ 0 < m) → 0 < f → rdG (grp m ++ t) k a = some (a + m * 128 ^ k, k + (grp m).length) := by
  intro f
  induction f with
  | zero => intro m k a _ _ _ h; omega
  | succ f ih =>
    intro m k a hm hk h0 _
    by_cases h1 : m < 128
    · rw [grp_last h1]
      show rdG (UInt8.ofNat m :: t) k a = _
      rw [rdG, toNat_of (by omega), if_neg (by omega), if_neg (by omega), if_neg (by omega)]
      rfl
    · rw [grp_more h1]
      show rdG (UInt8.ofNat (m % 128 + 128) :: (grp (m / 128) ++ t)) k a = _
      have hf : 0 < f := by
        rcases Nat.eq_zero_or_pos f with h | h
        · subst h; simp at hm; omega
        · exact h
      have hp : m / 128 < 128 ^ f := by rw [Nat.div_lt_iff_lt_mul (by decide)]; rw [Nat.pow_succ] at hm; exact hm
      rw [rdG, toNat_of (by omega), if_neg (by omega), if_pos (by omega), ih (m / 128) (k + 1) _ hp (by omega) (.inr (by omega)) hf]
      have e : (m % 128 + 128) % 128 = m % 128 := by omega
      rw [e, Nat.pow_succ]
      simp only [List.length_cons, Option.some.injEq, Prod.mk.injEq]
      refine ⟨?_, by omega⟩
      have h5 : m = m % 128 + 128 * (m / 128) := (Nat.mod_add_div m 128).symm
      generalize m % 128 = x at *
      generalize m / 128 = y at *
      subst h5
      generalize 128 ^ k = z
      rw [Nat.add_mul, Nat.add_assoc, Nat.mul_comm z 128, ← Nat.mul_assoc, Nat.mul_comm y 128]
/-- What was put is read. -/
theorem get_put (L t : List UInt8) (n : Int) : getB (L ++ numB n ++ t) L.length = some (clampN n, ((L.length : Nat) : Int) + ((numB n).length : Nat)) := by
  have h1 := num_len n
  have h2 := clamp_in n
  unfold getB
  rw [if_pos (by simp only [List.length_append]; omega)]
  have e : (L ++ numB n ++ t).drop ((L.length : Nat) : Int).toNat = numB n ++ t := by
    rw [Int.toNat_natCast, List.append_assoc, List.drop_left]
  rw [e, numB, rd_grp t 4 (foldN n) 0 0 (by have := fold_le n; omega) (by omega) (.inl rfl) (by omega)]
  simp only [Nat.zero_add, Nat.pow_zero, Nat.mul_one]
  rw [unf_fold, if_pos h2]

/-- What is read was put. -/
theorem rd_back : ∀ (t : List UInt8) (k a v e : Nat), rdG t k a = some (v, e) → ∃ m, v = a + m * 128 ^ k ∧ (k = 0 ∨ 0 < m) ∧ k ≤ e ∧ e - k = (grp m).length ∧ t.take (e - k) = grp m := by
  intro t
  induction t with
  | nil => intro k a v e h; simp [rdG] at h
  | cons c t ih =>
    intro k a v e h
    rw [rdG] at h
    by_cases h4 : 4 ≤ k
    · rw [if_pos h4] at h; cases h
    · rw [if_neg h4] at h
      have hc := c.toNat_lt
      by_cases h1 : 128 ≤ c.toNat
      · rw [if_pos h1] at h
        obtain ⟨m, hv, hm, hke, hl, ht⟩ := ih _ _ _ _ h
        have hm0 : 0 < m := by omega
        have hg : grp (c.toNat - 128 + 128 * m) = c :: grp m := by
          rw [grp_more (by omega)]
          have e1 : (c.toNat - 128 + 128 * m) % 128 + 128 = c.toNat := by omega
          have e2 : (c.toNat - 128 + 128 * m) / 128 = m := by omega
          rw [e1, e2]
          simp
        refine ⟨c.toNat - 128 + 128 * m, ?_, .inr (by omega), by omega, ?_, ?_⟩
        · rw [hv]
          have e1 : c.toNat % 128 = c.toNat - 128 := by omega
          rw [e1, Nat.pow_succ]
          generalize c.toNat - 128 = x
          generalize 128 ^ k = z
          rw [Nat.add_mul, Nat.add_assoc, Nat.mul_comm z 128, ← Nat.mul_assoc, Nat.mul_comm m 128]
        · rw [hg, List.length_cons, ← hl]; omega
        · rw [hg, show e - k = (e - (k + 1)) + 1 by omega, List.take_succ_cons, ht]
      · rw [if_neg h1] at h
        by_cases h0 : 0 < k ∧ c.toNat = 0
        · rw [if_pos h0] at h; cases h
        · rw [if_neg h0] at h
          injection h with h
          injection h with hv he
          have hg : grp c.toNat = [c] := by rw [grp_last (by omega)]; simp
          refine ⟨c.toNat, hv.symm, by omega, by omega, ?_, ?_⟩
          · rw [hg]; simp; omega
          · rw [hg, show e - k = 0 + 1 by omega, List.take_succ_cons, List.take_zero]
theorem get_back {L : List UInt8} {i y e : Int} (h : getB L i = some (y, e)) : 0 ≤ i ∧ i < e ∧ e ≤ L.length ∧ -1000000 ≤ y ∧ y ≤ 1000000 ∧ e - i = (numB y).length ∧ (L.drop i.toNat).take (e - i).toNat = numB y := by
  unfold getB at h
  by_cases hi : 0 ≤ i ∧ i < L.length
  · rw [if_pos hi] at h
    cases hr : rdG (L.drop i.toNat) 0 0 with
    | none => rw [hr] at h; cases h
    | some p =>
      obtain ⟨v, k⟩ := p
      rw [hr] at h
      simp only at h
      by_cases hu : -1000000 ≤ unfN v ∧ unfN v ≤ 1000000
      · rw [if_pos hu] at h
        injection h with h
        injection h with hy he
        obtain ⟨m, hv, _, _, hl, ht⟩ := rd_back _ _ _ _ _ hr
        simp only [Nat.zero_add, Nat.pow_zero, Nat.mul_one, Nat.sub_zero] at hv hl ht
        subst hv
        have hn : numB y = grp v := by rw [← hy, numB, fold_unf v hu.1 hu.2]
        have hL := num_len y
        have ht2 := congrArg List.length ht
        rw [List.length_take, List.length_drop] at ht2
        rw [hn] at hL ⊢
        rw [← hy]
        have e1 : (e - i).toNat = k := by omega
        rw [e1]
        exact ⟨hi.1, by omega, by omega, hu.1, hu.2, by omega, ht⟩
      · rw [if_neg hu] at h; cases h
  · rw [if_neg hi] at h; cases h
/-- Of what is cut nothing is read. -/
theorem rd_cut : ∀ (f m : Nat) (k a j : Nat), m < 128 ^ f → j < (grp m).length → rdG ((grp m).take j) k a = none := by
  intro f
  induction f with
  | zero =>
    intro m k a j hm hj
    have : m = 0 := by simp at hm; exact hm
    subst this
    rw [grp_last (by omega)] at hj ⊢
    have : j = 0 := by simpa using hj
    subst this; rfl
  | succ f ih =>
    intro m k a j hm hj
    cases j with
    | zero => rw [List.take_zero, rdG]
    | succ j =>
      by_cases h1 : m < 128
      · rw [grp_last h1] at hj; simp at hj
      · rw [grp_more h1] at hj ⊢
        rw [List.take_succ_cons, rdG, toNat_of (by omega)]
        by_cases h4 : 4 ≤ k
        · rw [if_pos h4]
        · rw [if_neg h4, if_pos (by omega)]
          refine ih _ _ _ _ ?_ (by simpa using hj)
          rw [Nat.div_lt_iff_lt_mul (by decide)]; rw [Nat.pow_succ] at hm; exact hm
theorem get_cut (L : List UInt8) (n : Int) (j : Nat) (hj : j < (numB n).length) : getB (L ++ (numB n).take j) L.length = none := by
  unfold getB
  by_cases h : 0 ≤ ((L.length : Nat) : Int) ∧ ((L.length : Nat) : Int) < (L ++ (numB n).take j).length
  · rw [if_pos h]
    have e : (L ++ (numB n).take j).drop ((L.length : Nat) : Int).toNat = (numB n).take j := by
      rw [Int.toNat_natCast, List.drop_left]
    rw [e, numB, rd_cut 4 (foldN n) 0 0 j (by have := fold_le n; omega) hj]
  · rw [if_neg h]
end Go.Proofs.YtgdlkekjbdkjjaaGreatDoor.By
