/-
  A number read of bytes: what both kinds of GetNum answer.
-/
import Derived.Test.YtgdlkekjbdkjjaaGreatDoorByC
import Derived.WalkLawsBesides
import Derived.Deep.RegionWith
namespace Go.Proofs.YtgdlkekjbdkjjaaGreatDoor.By
open Go.RowKit
set_option linter.unusedVariables false

/-- The three that GetNum answers. -/
def ansN (x : Option (Int × Int)) : Value := match x with
  | none => .tuple #[.int .i64 0, .int .i64 0, .bool false]
  | some (n, e) => .tuple #[.int .i64 n, .int .i64 e, .bool true]
/-- The three that the groups answer: the number, the place behind, and whether they are all there. -/
def ansG (L : List UInt8) (i : Int) : Option (Nat × Nat) := if 0 ≤ i ∧ i < L.length then rdG (L.drop i.toNat) 0 0 else none
theorem rd_next {L : List UInt8} {i k m : Nat} (h : i + k < L.length) (h4 : k < 4) : rdG (L.drop (i + k)) k m = (if 128 ≤ L[i + k].toNat then rdG (L.drop (i + (k + 1))) (k + 1) (m + L[i + k].toNat % 128 * 128 ^ k) else if 0 < k ∧ L[i + k].toNat = 0 then none else some (m + L[i + k].toNat * 128 ^ k, k + 1)) := by
  rw [List.drop_eq_getElem_cons h, rdG, if_neg (by omega)]
  rfl
theorem rd_four (t : List UInt8) (m : Nat) : rdG t 4 m = none := by cases t <;> simp [rdG]
theorem get_of {L : List UInt8} {i : Nat} (h : i < L.length) : getB L i = (match rdG (L.drop (i + 0)) 0 0 with
    | none => none
    | some (v, k) => if -1000000 ≤ unfN v ∧ unfN v ≤ 1000000 then some (unfN v, (i : Int) + k) else none) := by
  unfold getB
  rw [if_pos (by omega), Int.toNat_natCast]; rfl
theorem get_out {L : List UInt8} {i : Int} (h : ¬ (0 ≤ i ∧ i < L.length)) : getB L i = none := by unfold getB; rw [if_neg h]

theorem or_add (m c k : Nat) (hm : m < 2 ^ k) (hb : m + c * 2 ^ k < 9223372036854775808) : bits .or .i64 (m : Int) ((c : Int) * 2 ^ k) = (m : Int) + c * 2 ^ k := by
  have e1 : ((c : Int) * 2 ^ k) = ((c * 2 ^ k : Nat) : Int) := by rw [Int.natCast_mul, Int.natCast_pow]; rfl
  rw [e1]
  have t1 : (BitVec.ofInt 64 (m : Int)).toNat = m := by rw [BitVec.toNat_ofInt]; omega
  have t2 : (BitVec.ofInt 64 ((c * 2 ^ k : Nat) : Int)).toNat = c * 2 ^ k := by rw [BitVec.toNat_ofInt]; omega
  show IntKind.i64.wrap ((BitVec.ofInt 64 (m : Int) ||| BitVec.ofInt 64 ((c * 2 ^ k : Nat) : Int)).toNat : Nat) = _
  have key : (BitVec.ofInt 64 (m : Int) ||| BitVec.ofInt 64 ((c * 2 ^ k : Nat) : Int)).toNat = m + c * 2 ^ k := by
    rw [BitVec.toNat_or, t1, t2, Nat.or_comm, Nat.mul_comm c, ← Nat.two_pow_add_eq_or_of_lt hm c, Nat.add_comm]
  rw [key, IntKind.wrap_i64]
  omega
theorem and1 (n : Nat) : bits .and .i64 (n : Int) 1 = (n : Int) % 2 := by
  have h1 : (BitVec.ofInt 64 1).toNat = 2 ^ 1 - 1 := by decide
  have key : (BitVec.ofInt 64 (n : Int) &&& BitVec.ofInt 64 1).toNat = ((n : Int) % ((2 ^ 64 : Nat) : Int)).toNat % 2 ^ 1 := by
    rw [BitVec.toNat_and, BitVec.toNat_ofInt, h1, Nat.and_two_pow_sub_one_eq_mod]
  show IntKind.i64.wrap ((BitVec.ofInt 64 (n : Int) &&& BitVec.ofInt 64 1).toNat : Nat) = (n : Int) % 2
  rw [key, IntKind.wrap_i64]
  omega

theorem or_k (m c k : Nat) (P : Int) (hP : P = ((2 ^ (7 * k) : Nat) : Int)) (hk : k < 4) (hm : m < 128 ^ k) : bits .or .i64 (m : Int) ((c : Int) % 128 * P) = ((m + c % 128 * 128 ^ k : Nat) : Int) := by
  have e7 : (128 : Nat) ^ k = 2 ^ (7 * k) := by rw [Nat.pow_mul]
  rw [e7] at hm ⊢
  have hb : m + c % 128 * 2 ^ (7 * k) < 9223372036854775808 := by
    have h1 : 2 ^ (7 * k) ≤ 2 ^ 21 := Nat.pow_le_pow_right (by decide) (by omega)
    have h2 : c % 128 * 2 ^ (7 * k) ≤ 127 * 2 ^ 21 := Nat.mul_le_mul (by omega) h1
    omega
  have := or_add m (c % 128) (7 * k) hm hb
  rw [hP]
  have e : ((c % 128 : Nat) : Int) = (c : Int) % 128 := by omega
  rw [e] at this
  rw [Int.natCast_pow]
  rw [show ((2 : Nat) : Int) = 2 from rfl, this]
  rw [Int.natCast_add, Int.natCast_mul, Int.natCast_pow, e]
  rfl
theorem v_lt (m c k : Nat) (hm : m < 128 ^ k) : m + c % 128 * 128 ^ k < 128 ^ (k + 1) := by
  rw [Nat.pow_succ]
  have h : c % 128 * 128 ^ k ≤ 127 * 128 ^ k := Nat.mul_le_mul_right _ (by omega)
  omega
theorem rd_step {L : List UInt8} {i k m c : Nat} (h : i + k < L.length) (h4 : k < 4) (hc : L[i + k].toNat = c) : rdG (L.drop (i + k)) k m = (if 128 ≤ c then rdG (L.drop (i + (k + 1))) (k + 1) (m + c % 128 * 128 ^ k) else if 0 < k ∧ c = 0 then none else some (m + c % 128 * 128 ^ k, k + 1)) := by
  rw [rd_next h h4, hc]
  split
  · rfl
  · rw [Nat.mod_eq_of_lt (by omega : c < 128)]
theorem unf_even {v : Nat} (h : ¬ v % 2 = 1) : unfN v = (v : Int) / 2 := by unfold unfN; rw [if_neg h]
theorem unf_odd {v : Nat} (h : v % 2 = 1) : unfN v = -((v : Int) / 2) - 1 := by unfold unfN; rw [if_pos h]; omega
/-- What GetNum makes of what was read. -/
def outN (i : Int) (v k : Nat) : Option (Int × Int) := if -1000000 ≤ unfN v ∧ unfN v ≤ 1000000 then some (unfN v, i + k) else none
theorem out_yes {i : Int} {v k : Nat} {u : Int} (hu : unfN v = u) (h : inB u (-1000000) 1000000 = true) : outN i v k = some (u, i + k) := by
  subst hu
  unfold outN
  rw [if_pos (by simpa [inB] using h)]
theorem out_no {i : Int} {v k : Nat} {u : Int} (hu : unfN v = u) (h : inB u (-1000000) 1000000 = false) : outN i v k = none := by
  subst hu
  unfold outN
  rw [if_neg (by simpa [inB] using h)]
theorem get_yes {L : List UInt8} {i : Nat} {v k : Nat} (h : i < L.length) (hr : rdG (L.drop (i + 0)) 0 0 = some (v, k)) : getB L i = outN i v k := by rw [get_of h, hr]; rfl
theorem get_no {L : List UInt8} {i : Nat} (h : i < L.length) (hr : rdG (L.drop (i + 0)) 0 0 = none) : getB L i = none := by rw [get_of h, hr]

/-- What a round of the specification's loop has in hand, at the place 0. -/
structure Gr0 (L : List UInt8) (i m v c : Nat) : Prop where
  rd : rdG (L.drop (i + 0)) 0 0 = (if 128 ≤ c then rdG (L.drop (i + 1)) 1 v else if 0 < 0 ∧ c = 0 then none else some (v, 1))
  vl : v < 128 ^ 1
  or : bits .or .i64 (m : Int) ((c : Int) % 128) = (v : Int)
theorem gr0 {L : List UInt8} {i m c : Nat} (h : i + 0 < L.length) (hc : L[i + 0].toNat = c) (hm : m < 128 ^ 0) (hr : rdG (L.drop (i + 0)) 0 0 = rdG (L.drop (i + 0)) 0 m) : ∃ v, Gr0 L i m v c := by
  refine ⟨m + c % 128 * 128 ^ 0, ?_, v_lt m c 0 hm, ?_⟩
  · rw [hr, rd_step h (by decide) hc]
  · have := or_k m c 0 1 (by decide) (by decide) hm
    rw [Int.mul_one] at this
    exact this
/-- What a round of the specification's loop has in hand, at the place 1. -/
structure Gr1 (L : List UInt8) (i m v c : Nat) : Prop where
  rd : rdG (L.drop (i + 0)) 0 0 = (if 128 ≤ c then rdG (L.drop (i + 2)) 2 v else if 0 < 1 ∧ c = 0 then none else some (v, 2))
  vl : v < 128 ^ 2
  or : bits .or .i64 (m : Int) ((c : Int) % 128 * 128) = (v : Int)
theorem gr1 {L : List UInt8} {i m c : Nat} (h : i + 1 < L.length) (hc : L[i + 1].toNat = c) (hm : m < 128 ^ 1) (hr : rdG (L.drop (i + 0)) 0 0 = rdG (L.drop (i + 1)) 1 m) : ∃ v, Gr1 L i m v c := by
  refine ⟨m + c % 128 * 128 ^ 1, ?_, v_lt m c 1 hm, ?_⟩
  · rw [hr, rd_step h (by decide) hc]
  · have := or_k m c 1 128 (by decide) (by decide) hm
    skip
    exact this
/-- What a round of the specification's loop has in hand, at the place 2. -/
structure Gr2 (L : List UInt8) (i m v c : Nat) : Prop where
  rd : rdG (L.drop (i + 0)) 0 0 = (if 128 ≤ c then rdG (L.drop (i + 3)) 3 v else if 0 < 2 ∧ c = 0 then none else some (v, 3))
  vl : v < 128 ^ 3
  or : bits .or .i64 (m : Int) ((c : Int) % 128 * 16384) = (v : Int)
theorem gr2 {L : List UInt8} {i m c : Nat} (h : i + 2 < L.length) (hc : L[i + 2].toNat = c) (hm : m < 128 ^ 2) (hr : rdG (L.drop (i + 0)) 0 0 = rdG (L.drop (i + 2)) 2 m) : ∃ v, Gr2 L i m v c := by
  refine ⟨m + c % 128 * 128 ^ 2, ?_, v_lt m c 2 hm, ?_⟩
  · rw [hr, rd_step h (by decide) hc]
  · have := or_k m c 2 16384 (by decide) (by decide) hm
    skip
    exact this
/-- What a round of the specification's loop has in hand, at the place 3. -/
structure Gr3 (L : List UInt8) (i m v c : Nat) : Prop where
  rd : rdG (L.drop (i + 0)) 0 0 = (if 128 ≤ c then rdG (L.drop (i + 4)) 4 v else if 0 < 3 ∧ c = 0 then none else some (v, 4))
  vl : v < 128 ^ 4
  or : bits .or .i64 (m : Int) ((c : Int) % 128 * 2097152) = (v : Int)
theorem gr3 {L : List UInt8} {i m c : Nat} (h : i + 3 < L.length) (hc : L[i + 3].toNat = c) (hm : m < 128 ^ 3) (hr : rdG (L.drop (i + 0)) 0 0 = rdG (L.drop (i + 3)) 3 m) : ∃ v, Gr3 L i m v c := by
  refine ⟨m + c % 128 * 128 ^ 3, ?_, v_lt m c 3 hm, ?_⟩
  · rw [hr, rd_step h (by decide) hc]
  · have := or_k m c 3 2097152 (by decide) (by decide) hm
    skip
    exact this

set_option maxHeartbeats 4000000 in
set_option maxRecDepth 100000 in
theorem specGet_any (ao : Option Addr) (cap : Nat) (L : List UInt8) (i : Int) (w : World) (hr : RdB w ao L) (hN : L.length ≤ 1048600) :
    Calls Tryz.prog 54 #[.slice ao L.length cap, .int .i64 i] w fun e w' => e = .returned (ansN (getB L i)) ∧ Below w.heap.size w w' := by
  have HR : Hid (RdB w ao L) := hr
  clear hr
  by_cases hin : 0 ≤ i ∧ i < L.length
  · obtain ⟨i, rfl⟩ : ∃ j : Nat, i = j := ⟨i.toNat, by omega⟩
    have hil : i < L.length := by omega
    obtain ⟨b, o, rfl, hc⟩ := HR.out (by omega)
    have HC : Hid (BAt w b o L) := hc
    have HIL : Hid (i < L.length) := hil
    have ha := and127
    have ha1 := and1
    clear hc hin
    go_enter Tryz.func54, Tryz.ntmps54
    go_wp2_with fail
    go_loopw [7, 8, 9, 10] (fun mv kv _ _ wr => ∃ (m k : Nat), k ≤ 4 ∧ mv = .int .i64 m ∧ kv = .int .i64 k ∧ m < 128 ^ k ∧ rdG (L.drop (i + 0)) 0 0 = rdG (L.drop (i + k)) k m ∧ Below w.heap.size w wr) (fun _ kv _ _ _ => 4 - (intOf kv).toNat)
    case atStart => exact ⟨0, 0, by omega, rfl, rfl, by decide, rfl, Below.refl _ _⟩
    case round =>
      obtain ⟨m, k, hk, rfl, rfl, hm, hrd, hb⟩ := hrel
      have HRD : Hid (rdG (L.drop (i + 0)) 0 0 = rdG (L.drop (i + k)) k m) := hrd
      have HB : Hid (Below w.heap.size w wr) := hb
      have HM : Hid (m < 128 ^ k) := hm
      clear hrd hb hm
      by_cases hk4 : k < 4 ∧ i + k < L.length
      · obtain ⟨hk1, hk2⟩ := hk4
        have hk5 : k = 0 ∨ k = 1 ∨ k = 2 ∨ k = 3 := by omega
        rcases hk5 with rfl | rfl | rfl | rfl
        · have q : wr.cell? ⟨b, o + i, none⟩ = some (.int .u8 (((L[i + 0]).toNat : Nat) : Int)) := (HC.out.below HB.out) (i + 0) hk2
          obtain ⟨c, hcc⟩ : ∃ c, (L[i + 0]).toNat = c := ⟨_, rfl⟩
          have hcl : c < 256 := by rw [← hcc]; exact (L[i + 0]).toNat_lt
          rw [hcc] at q
          obtain ⟨v, hgr⟩ := gr0 hk2 hcc HM.out HRD.out
          have HGR : Hid (Gr0 L i m v c) := hgr
          have hor := hgr.or
          have hvl : v < 268435456 := Nat.lt_of_lt_of_le hgr.vl (by decide)
          have hi2 : (i : Int) + 0 < L.length := by omega
          clear hgr hcc hk hk1 hk2
          by_cases hc : 128 ≤ c
          · have HNY : Hid (rdG (L.drop (i + 0)) 0 0 = rdG (L.drop (i + 1)) 1 v) := by have := HGR.out.rd; rw [if_pos hc] at this; exact this
            go_wp2_with fail
            go_roundw
            case rel => exact ⟨v, 1, by omega, rfl, rfl, HGR.out.vl, HNY.out, HB.out⟩
            case measure => simp [intOf]
          · have HG : Hid (getB L i = outN i v 1) := by
              refine get_yes HIL.out ?_
              have := HGR.out.rd; rw [if_neg hc, if_neg (by omega)] at this; exact this
            by_cases hodd : v % 2 = 1
            · have hb1 : ((v : Int) % 2 == 1) = true := by simp; omega
              have HU : Hid (unfN v = (-((v : Int) / 2) - 1)) := unf_odd hodd
              clear hodd
              cases hin : inB (-((v : Int) / 2) - 1) (-1000000) 1000000 with
              | true =>
                have HIN : Hid (inB (-((v : Int) / 2) - 1) (-1000000) 1000000 = true) := hin
                have HA : Hid (getB L i = some ((-((v : Int) / 2) - 1), (i : Int) + (1 : Nat))) := by show _ = _; rw [HG.out]; exact out_yes HU.out hin
                clear hin
                go_wp2_with (go_at_call 48; refine (in_any _ _ _ _).mono ?_; rintro e w' ⟨rfl, hw'⟩; obtain rfl := hw'.symm; rw [HIN.out])
                refine bodyPost_ret (v := ansN (some ((-((v : Int) / 2) - 1), (i : Int) + (1 : Nat)))) (by simp [results, Tryz.results54, go_sem, ansN]; try omega) rfl ⟨by rw [HA.out], HB.out⟩
              | false =>
                have HIN : Hid (inB (-((v : Int) / 2) - 1) (-1000000) 1000000 = false) := hin
                have HA : Hid (getB L i = none) := by show _ = _; rw [HG.out]; exact out_no HU.out hin
                clear hin
                go_wp2_with (go_at_call 48; refine (in_any _ _ _ _).mono ?_; rintro e w' ⟨rfl, hw'⟩; obtain rfl := hw'.symm; rw [HIN.out])
                refine bodyPost_ret (v := ansN (none)) (by simp [results, Tryz.results54, go_sem, ansN]; try omega) rfl ⟨by rw [HA.out], HB.out⟩
            · have hb1 : ((v : Int) % 2 == 1) = false := by simp; omega
              have HU : Hid (unfN v = ((v : Int) / 2)) := unf_even hodd
              clear hodd
              cases hin : inB ((v : Int) / 2) (-1000000) 1000000 with
              | true =>
                have HIN : Hid (inB ((v : Int) / 2) (-1000000) 1000000 = true) := hin
                have HA : Hid (getB L i = some (((v : Int) / 2), (i : Int) + (1 : Nat))) := by show _ = _; rw [HG.out]; exact out_yes HU.out hin
                clear hin
                go_wp2_with (go_at_call 48; refine (in_any _ _ _ _).mono ?_; rintro e w' ⟨rfl, hw'⟩; obtain rfl := hw'.symm; rw [HIN.out])
                refine bodyPost_ret (v := ansN (some (((v : Int) / 2), (i : Int) + (1 : Nat)))) (by simp [results, Tryz.results54, go_sem, ansN]; try omega) rfl ⟨by rw [HA.out], HB.out⟩
              | false =>
                have HIN : Hid (inB ((v : Int) / 2) (-1000000) 1000000 = false) := hin
                have HA : Hid (getB L i = none) := by show _ = _; rw [HG.out]; exact out_no HU.out hin
                clear hin
                go_wp2_with (go_at_call 48; refine (in_any _ _ _ _).mono ?_; rintro e w' ⟨rfl, hw'⟩; obtain rfl := hw'.symm; rw [HIN.out])
                refine bodyPost_ret (v := ansN (none)) (by simp [results, Tryz.results54, go_sem, ansN]; try omega) rfl ⟨by rw [HA.out], HB.out⟩
        · have q : wr.cell? ⟨b, o + (i + 1), none⟩ = some (.int .u8 (((L[i + 1]).toNat : Nat) : Int)) := (HC.out.below HB.out) (i + 1) hk2
          obtain ⟨c, hcc⟩ : ∃ c, (L[i + 1]).toNat = c := ⟨_, rfl⟩
          have hcl : c < 256 := by rw [← hcc]; exact (L[i + 1]).toNat_lt
          rw [hcc] at q
          obtain ⟨v, hgr⟩ := gr1 hk2 hcc HM.out HRD.out
          have HGR : Hid (Gr1 L i m v c) := hgr
          have hor := hgr.or
          have hvl : v < 268435456 := Nat.lt_of_lt_of_le hgr.vl (by decide)
          have hi2 : (i : Int) + 1 < L.length := by omega
          clear hgr hcc hk hk1 hk2
          by_cases hc : 128 ≤ c
          · have HNY : Hid (rdG (L.drop (i + 0)) 0 0 = rdG (L.drop (i + 2)) 2 v) := by have := HGR.out.rd; rw [if_pos hc] at this; exact this
            go_wp2_with fail
            go_roundw
            case rel => exact ⟨v, 2, by omega, rfl, rfl, HGR.out.vl, HNY.out, HB.out⟩
            case measure => simp [intOf]
          · by_cases hc0 : c = 0
            · have HA : Hid (getB L i = none) := by
                refine get_no HIL.out ?_
                have := HGR.out.rd; rw [if_neg hc, if_pos ⟨by omega, hc0⟩] at this; exact this
              subst hc0
              have hor2 : bits .or .i64 (m : Int) 0 = (v : Int) := by simpa using hor
              have ha0 : bits .and .i64 0 127 = 0 := by decide +kernel
              clear hor
              by_cases hodd : v % 2 = 1
              · have hb1 : ((v : Int) % 2 == 1) = true := by simp; omega
                clear hodd
                go_wp2_with fail
                refine bodyPost_ret (v := ansN none) (by simp [results, Tryz.results54, go_sem, ansN]; try omega) rfl ⟨by rw [HA.out], HB.out⟩
              · have hb1 : ((v : Int) % 2 == 1) = false := by simp; omega
                clear hodd
                go_wp2_with fail
                refine bodyPost_ret (v := ansN none) (by simp [results, Tryz.results54, go_sem, ansN]; try omega) rfl ⟨by rw [HA.out], HB.out⟩
            · have HG : Hid (getB L i = outN i v 2) := by
                refine get_yes HIL.out ?_
                have := HGR.out.rd; rw [if_neg hc, if_neg (by omega)] at this; exact this
              have hcn : ((c : Int) == 0) = false := by simp; omega
              clear hc0
              by_cases hodd : v % 2 = 1
              · have hb1 : ((v : Int) % 2 == 1) = true := by simp; omega
                have HU : Hid (unfN v = (-((v : Int) / 2) - 1)) := unf_odd hodd
                clear hodd
                cases hin : inB (-((v : Int) / 2) - 1) (-1000000) 1000000 with
                | true =>
                  have HIN : Hid (inB (-((v : Int) / 2) - 1) (-1000000) 1000000 = true) := hin
                  have HA : Hid (getB L i = some ((-((v : Int) / 2) - 1), (i : Int) + (2 : Nat))) := by show _ = _; rw [HG.out]; exact out_yes HU.out hin
                  clear hin
                  go_wp2_with (go_at_call 48; refine (in_any _ _ _ _).mono ?_; rintro e w' ⟨rfl, hw'⟩; obtain rfl := hw'.symm; rw [HIN.out])
                  refine bodyPost_ret (v := ansN (some ((-((v : Int) / 2) - 1), (i : Int) + (2 : Nat)))) (by simp [results, Tryz.results54, go_sem, ansN]; try omega) rfl ⟨by rw [HA.out], HB.out⟩
                | false =>
                  have HIN : Hid (inB (-((v : Int) / 2) - 1) (-1000000) 1000000 = false) := hin
                  have HA : Hid (getB L i = none) := by show _ = _; rw [HG.out]; exact out_no HU.out hin
                  clear hin
                  go_wp2_with (go_at_call 48; refine (in_any _ _ _ _).mono ?_; rintro e w' ⟨rfl, hw'⟩; obtain rfl := hw'.symm; rw [HIN.out])
                  refine bodyPost_ret (v := ansN (none)) (by simp [results, Tryz.results54, go_sem, ansN]; try omega) rfl ⟨by rw [HA.out], HB.out⟩
              · have hb1 : ((v : Int) % 2 == 1) = false := by simp; omega
                have HU : Hid (unfN v = ((v : Int) / 2)) := unf_even hodd
                clear hodd
                cases hin : inB ((v : Int) / 2) (-1000000) 1000000 with
                | true =>
                  have HIN : Hid (inB ((v : Int) / 2) (-1000000) 1000000 = true) := hin
                  have HA : Hid (getB L i = some (((v : Int) / 2), (i : Int) + (2 : Nat))) := by show _ = _; rw [HG.out]; exact out_yes HU.out hin
                  clear hin
                  go_wp2_with (go_at_call 48; refine (in_any _ _ _ _).mono ?_; rintro e w' ⟨rfl, hw'⟩; obtain rfl := hw'.symm; rw [HIN.out])
                  refine bodyPost_ret (v := ansN (some (((v : Int) / 2), (i : Int) + (2 : Nat)))) (by simp [results, Tryz.results54, go_sem, ansN]; try omega) rfl ⟨by rw [HA.out], HB.out⟩
                | false =>
                  have HIN : Hid (inB ((v : Int) / 2) (-1000000) 1000000 = false) := hin
                  have HA : Hid (getB L i = none) := by show _ = _; rw [HG.out]; exact out_no HU.out hin
                  clear hin
                  go_wp2_with (go_at_call 48; refine (in_any _ _ _ _).mono ?_; rintro e w' ⟨rfl, hw'⟩; obtain rfl := hw'.symm; rw [HIN.out])
                  refine bodyPost_ret (v := ansN (none)) (by simp [results, Tryz.results54, go_sem, ansN]; try omega) rfl ⟨by rw [HA.out], HB.out⟩
        · have q : wr.cell? ⟨b, o + (i + 2), none⟩ = some (.int .u8 (((L[i + 2]).toNat : Nat) : Int)) := (HC.out.below HB.out) (i + 2) hk2
          obtain ⟨c, hcc⟩ : ∃ c, (L[i + 2]).toNat = c := ⟨_, rfl⟩
          have hcl : c < 256 := by rw [← hcc]; exact (L[i + 2]).toNat_lt
          rw [hcc] at q
          obtain ⟨v, hgr⟩ := gr2 hk2 hcc HM.out HRD.out
          have HGR : Hid (Gr2 L i m v c) := hgr
          have hor := hgr.or
          have hvl : v < 268435456 := Nat.lt_of_lt_of_le hgr.vl (by decide)
          have hi2 : (i : Int) + 2 < L.length := by omega
          clear hgr hcc hk hk1 hk2
          by_cases hc : 128 ≤ c
          · have HNY : Hid (rdG (L.drop (i + 0)) 0 0 = rdG (L.drop (i + 3)) 3 v) := by have := HGR.out.rd; rw [if_pos hc] at this; exact this
            go_wp2_with fail
            go_roundw
            case rel => exact ⟨v, 3, by omega, rfl, rfl, HGR.out.vl, HNY.out, HB.out⟩
            case measure => simp [intOf]
          · by_cases hc0 : c = 0
            · have HA : Hid (getB L i = none) := by
                refine get_no HIL.out ?_
                have := HGR.out.rd; rw [if_neg hc, if_pos ⟨by omega, hc0⟩] at this; exact this
              subst hc0
              have hor2 : bits .or .i64 (m : Int) 0 = (v : Int) := by simpa using hor
              have ha0 : bits .and .i64 0 127 = 0 := by decide +kernel
              clear hor
              by_cases hodd : v % 2 = 1
              · have hb1 : ((v : Int) % 2 == 1) = true := by simp; omega
                clear hodd
                go_wp2_with fail
                refine bodyPost_ret (v := ansN none) (by simp [results, Tryz.results54, go_sem, ansN]; try omega) rfl ⟨by rw [HA.out], HB.out⟩
              · have hb1 : ((v : Int) % 2 == 1) = false := by simp; omega
                clear hodd
                go_wp2_with fail
                refine bodyPost_ret (v := ansN none) (by simp [results, Tryz.results54, go_sem, ansN]; try omega) rfl ⟨by rw [HA.out], HB.out⟩
            · have HG : Hid (getB L i = outN i v 3) := by
                refine get_yes HIL.out ?_
                have := HGR.out.rd; rw [if_neg hc, if_neg (by omega)] at this; exact this
              have hcn : ((c : Int) == 0) = false := by simp; omega
              clear hc0
              by_cases hodd : v % 2 = 1
              · have hb1 : ((v : Int) % 2 == 1) = true := by simp; omega
                have HU : Hid (unfN v = (-((v : Int) / 2) - 1)) := unf_odd hodd
                clear hodd
                cases hin : inB (-((v : Int) / 2) - 1) (-1000000) 1000000 with
                | true =>
                  have HIN : Hid (inB (-((v : Int) / 2) - 1) (-1000000) 1000000 = true) := hin
                  have HA : Hid (getB L i = some ((-((v : Int) / 2) - 1), (i : Int) + (3 : Nat))) := by show _ = _; rw [HG.out]; exact out_yes HU.out hin
                  clear hin
                  go_wp2_with (go_at_call 48; refine (in_any _ _ _ _).mono ?_; rintro e w' ⟨rfl, hw'⟩; obtain rfl := hw'.symm; rw [HIN.out])
                  refine bodyPost_ret (v := ansN (some ((-((v : Int) / 2) - 1), (i : Int) + (3 : Nat)))) (by simp [results, Tryz.results54, go_sem, ansN]; try omega) rfl ⟨by rw [HA.out], HB.out⟩
                | false =>
                  have HIN : Hid (inB (-((v : Int) / 2) - 1) (-1000000) 1000000 = false) := hin
                  have HA : Hid (getB L i = none) := by show _ = _; rw [HG.out]; exact out_no HU.out hin
                  clear hin
                  go_wp2_with (go_at_call 48; refine (in_any _ _ _ _).mono ?_; rintro e w' ⟨rfl, hw'⟩; obtain rfl := hw'.symm; rw [HIN.out])
                  refine bodyPost_ret (v := ansN (none)) (by simp [results, Tryz.results54, go_sem, ansN]; try omega) rfl ⟨by rw [HA.out], HB.out⟩
              · have hb1 : ((v : Int) % 2 == 1) = false := by simp; omega
                have HU : Hid (unfN v = ((v : Int) / 2)) := unf_even hodd
                clear hodd
                cases hin : inB ((v : Int) / 2) (-1000000) 1000000 with
                | true =>
                  have HIN : Hid (inB ((v : Int) / 2) (-1000000) 1000000 = true) := hin
                  have HA : Hid (getB L i = some (((v : Int) / 2), (i : Int) + (3 : Nat))) := by show _ = _; rw [HG.out]; exact out_yes HU.out hin
                  clear hin
                  go_wp2_with (go_at_call 48; refine (in_any _ _ _ _).mono ?_; rintro e w' ⟨rfl, hw'⟩; obtain rfl := hw'.symm; rw [HIN.out])
                  refine bodyPost_ret (v := ansN (some (((v : Int) / 2), (i : Int) + (3 : Nat)))) (by simp [results, Tryz.results54, go_sem, ansN]; try omega) rfl ⟨by rw [HA.out], HB.out⟩
                | false =>
                  have HIN : Hid (inB ((v : Int) / 2) (-1000000) 1000000 = false) := hin
                  have HA : Hid (getB L i = none) := by show _ = _; rw [HG.out]; exact out_no HU.out hin
                  clear hin
                  go_wp2_with (go_at_call 48; refine (in_any _ _ _ _).mono ?_; rintro e w' ⟨rfl, hw'⟩; obtain rfl := hw'.symm; rw [HIN.out])
                  refine bodyPost_ret (v := ansN (none)) (by simp [results, Tryz.results54, go_sem, ansN]; try omega) rfl ⟨by rw [HA.out], HB.out⟩
        · have q : wr.cell? ⟨b, o + (i + 3), none⟩ = some (.int .u8 (((L[i + 3]).toNat : Nat) : Int)) := (HC.out.below HB.out) (i + 3) hk2
          obtain ⟨c, hcc⟩ : ∃ c, (L[i + 3]).toNat = c := ⟨_, rfl⟩
          have hcl : c < 256 := by rw [← hcc]; exact (L[i + 3]).toNat_lt
          rw [hcc] at q
          obtain ⟨v, hgr⟩ := gr3 hk2 hcc HM.out HRD.out
          have HGR : Hid (Gr3 L i m v c) := hgr
          have hor := hgr.or
          have hvl : v < 268435456 := Nat.lt_of_lt_of_le hgr.vl (by decide)
          have hi2 : (i : Int) + 3 < L.length := by omega
          clear hgr hcc hk hk1 hk2
          by_cases hc : 128 ≤ c
          · have HNY : Hid (rdG (L.drop (i + 0)) 0 0 = rdG (L.drop (i + 4)) 4 v) := by have := HGR.out.rd; rw [if_pos hc] at this; exact this
            go_wp2_with fail
            go_roundw
            case rel => exact ⟨v, 4, by omega, rfl, rfl, HGR.out.vl, HNY.out, HB.out⟩
            case measure => simp [intOf]
          · by_cases hc0 : c = 0
            · have HA : Hid (getB L i = none) := by
                refine get_no HIL.out ?_
                have := HGR.out.rd; rw [if_neg hc, if_pos ⟨by omega, hc0⟩] at this; exact this
              subst hc0
              have hor2 : bits .or .i64 (m : Int) 0 = (v : Int) := by simpa using hor
              have ha0 : bits .and .i64 0 127 = 0 := by decide +kernel
              clear hor
              by_cases hodd : v % 2 = 1
              · have hb1 : ((v : Int) % 2 == 1) = true := by simp; omega
                clear hodd
                go_wp2_with fail
                refine bodyPost_ret (v := ansN none) (by simp [results, Tryz.results54, go_sem, ansN]; try omega) rfl ⟨by rw [HA.out], HB.out⟩
              · have hb1 : ((v : Int) % 2 == 1) = false := by simp; omega
                clear hodd
                go_wp2_with fail
                refine bodyPost_ret (v := ansN none) (by simp [results, Tryz.results54, go_sem, ansN]; try omega) rfl ⟨by rw [HA.out], HB.out⟩
            · have HG : Hid (getB L i = outN i v 4) := by
                refine get_yes HIL.out ?_
                have := HGR.out.rd; rw [if_neg hc, if_neg (by omega)] at this; exact this
              have hcn : ((c : Int) == 0) = false := by simp; omega
              clear hc0
              by_cases hodd : v % 2 = 1
              · have hb1 : ((v : Int) % 2 == 1) = true := by simp; omega
                have HU : Hid (unfN v = (-((v : Int) / 2) - 1)) := unf_odd hodd
                clear hodd
                cases hin : inB (-((v : Int) / 2) - 1) (-1000000) 1000000 with
                | true =>
                  have HIN : Hid (inB (-((v : Int) / 2) - 1) (-1000000) 1000000 = true) := hin
                  have HA : Hid (getB L i = some ((-((v : Int) / 2) - 1), (i : Int) + (4 : Nat))) := by show _ = _; rw [HG.out]; exact out_yes HU.out hin
                  clear hin
                  go_wp2_with (go_at_call 48; refine (in_any _ _ _ _).mono ?_; rintro e w' ⟨rfl, hw'⟩; obtain rfl := hw'.symm; rw [HIN.out])
                  refine bodyPost_ret (v := ansN (some ((-((v : Int) / 2) - 1), (i : Int) + (4 : Nat)))) (by simp [results, Tryz.results54, go_sem, ansN]; try omega) rfl ⟨by rw [HA.out], HB.out⟩
                | false =>
                  have HIN : Hid (inB (-((v : Int) / 2) - 1) (-1000000) 1000000 = false) := hin
                  have HA : Hid (getB L i = none) := by show _ = _; rw [HG.out]; exact out_no HU.out hin
                  clear hin
                  go_wp2_with (go_at_call 48; refine (in_any _ _ _ _).mono ?_; rintro e w' ⟨rfl, hw'⟩; obtain rfl := hw'.symm; rw [HIN.out])
                  refine bodyPost_ret (v := ansN (none)) (by simp [results, Tryz.results54, go_sem, ansN]; try omega) rfl ⟨by rw [HA.out], HB.out⟩
              · have hb1 : ((v : Int) % 2 == 1) = false := by simp; omega
                have HU : Hid (unfN v = ((v : Int) / 2)) := unf_even hodd
                clear hodd
                cases hin : inB ((v : Int) / 2) (-1000000) 1000000 with
                | true =>
                  have HIN : Hid (inB ((v : Int) / 2) (-1000000) 1000000 = true) := hin
                  have HA : Hid (getB L i = some (((v : Int) / 2), (i : Int) + (4 : Nat))) := by show _ = _; rw [HG.out]; exact out_yes HU.out hin
                  clear hin
                  go_wp2_with (go_at_call 48; refine (in_any _ _ _ _).mono ?_; rintro e w' ⟨rfl, hw'⟩; obtain rfl := hw'.symm; rw [HIN.out])
                  refine bodyPost_ret (v := ansN (some (((v : Int) / 2), (i : Int) + (4 : Nat)))) (by simp [results, Tryz.results54, go_sem, ansN]; try omega) rfl ⟨by rw [HA.out], HB.out⟩
                | false =>
                  have HIN : Hid (inB ((v : Int) / 2) (-1000000) 1000000 = false) := hin
                  have HA : Hid (getB L i = none) := by show _ = _; rw [HG.out]; exact out_no HU.out hin
                  clear hin
                  go_wp2_with (go_at_call 48; refine (in_any _ _ _ _).mono ?_; rintro e w' ⟨rfl, hw'⟩; obtain rfl := hw'.symm; rw [HIN.out])
                  refine bodyPost_ret (v := ansN (none)) (by simp [results, Tryz.results54, go_sem, ansN]; try omega) rfl ⟨by rw [HA.out], HB.out⟩
      · have HE : Hid (getB L i = none) := by
          refine get_no HIL.out ?_
          rw [HRD.out]
          by_cases h4 : k < 4
          · rw [List.drop_eq_nil_of_le (by omega)]; rfl
          · have : k = 4 := by omega
            subst this
            rw [rd_four]
        by_cases h4 : k < 4
        · have h5 : ¬ (i : Int) + k < L.length := by omega
          clear hk4
          go_wp2_with fail
          refine bodyPost_ret (v := ansN none) (by simp [results, Tryz.results54, go_sem, ansN]; try omega) rfl ⟨by rw [HE.out], HB.out⟩
        · have : k = 4 := by omega
          subst this
          clear hk4 h4
          go_wp2_with fail
          refine bodyPost_ret (v := ansN none) (by simp [results, Tryz.results54, go_sem, ansN]; try omega) rfl ⟨by rw [HE.out], HB.out⟩
  · have HE : Hid (getB L i = none) := get_out hin
    by_cases h0 : 0 ≤ i
    · have h1 : ¬ i < L.length := by omega
      clear hin
      go_enter Tryz.func54, Tryz.ntmps54
      go_wp2_with fail
      refine wp_loop_rounds 1 ?_
      rw [rounds_succ]
      go_wp2_with fail
      refine bodyPost_ret (v := ansN none) (by simp [results, Tryz.results54, go_sem, ansN]; try omega) rfl ⟨by rw [HE.out], Below.refl _ _⟩
    · clear hin
      go_enter Tryz.func54, Tryz.ntmps54
      go_wp2_with fail
      refine wp_loop_rounds 1 ?_
      rw [rounds_succ]
      go_wp2_with fail
      refine bodyPost_ret (v := ansN none) (by simp [results, Tryz.results54, go_sem, ansN]; try omega) rfl ⟨by rw [HE.out], Below.refl _ _⟩
end Go.Proofs.YtgdlkekjbdkjjaaGreatDoor.By
