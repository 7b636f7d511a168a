/-
  A number read of bytes: what the program's GetNum answers.
-/
import Derived.Test.YtgdlkekjbdkjjaaGreatDoorByF
namespace Go.Proofs.YtgdlkekjbdkjjaaGreatDoor.By
open Go.RowKit
set_option linter.unusedVariables false

set_option maxHeartbeats 1000000 in
theorem unfolded_any (v : Nat) (hv : v < 268435456) (w : World) :
    Calls Tryz.prog 52 #[.int .i64 v] w fun e w' => e = .returned (.int .i64 (unfN v)) ∧ w' = w := by
  have ht : (v : Int).tmod 2 = (v : Int) % 2 := Int.tmod_eq_emod_of_nonneg (by omega)
  by_cases hodd : v % 2 = 1
  · have hb1 : ((v : Int) % 2 == 1) = true := by simp; omega
    have HU : Hid (unfN v = -(((v : Int) + 1) / 2)) := by show _ = _; unfold unfN; rw [if_pos hodd]
    have hq : (-((v : Int) + 1)).tdiv 2 = -(((v : Int) + 1) / 2) := by
      rw [Int.neg_tdiv, Int.tdiv_eq_ediv_of_nonneg (by omega)]
    clear hodd
    go_enter Tryz.func52, Tryz.ntmps52
    go_wp2_with fail
    go_ret
    exact ⟨ret_int HU.out.symm, rfl⟩
  · have hb1 : ((v : Int) % 2 == 1) = false := by simp; omega
    have HU : Hid (unfN v = (v : Int) / 2) := unf_even hodd
    have hq : (v : Int).tdiv 2 = (v : Int) / 2 := Int.tdiv_eq_ediv_of_nonneg (by omega)
    clear hodd
    go_enter Tryz.func52, Tryz.ntmps52
    go_wp2_with fail
    go_ret
    exact ⟨ret_int HU.out.symm, rfl⟩

/-- What groupsAt answers: the number of the groups, the place behind, and true; or anything small and false. -/
def GrA (L : List UInt8) (i : Int) (e : Ending) : Prop :=
  (∃ v k : Nat, e = .returned (.tuple #[.int .i64 v, .int .i64 (i + k), .bool true]) ∧ v < 268435456 ∧ 0 ≤ i ∧ i < L.length ∧ rdG (L.drop i.toNat) 0 0 = some (v, k)) ∨
  (∃ (v : Nat) (x : Int), e = .returned (.tuple #[.int .i64 v, .int .i64 x, .bool false]) ∧ v < 268435456 ∧ getB L i = none)

theorem ofG {L : List UInt8} {i : Nat} {v k : Nat} (h : i < L.length) (hv : v < 268435456) (hr : rdG (L.drop (i + 0)) 0 0 = some (v, k)) : GrA L i (.returned (.tuple #[.int .i64 v, .int .i64 ((i : Int) + k), .bool true])) :=
  .inl ⟨v, k, rfl, hv, by omega, by omega, by rw [Int.toNat_natCast]; exact hr⟩
theorem ofN {L : List UInt8} {i : Nat} {v : Nat} {x : Int} (h : i < L.length) (hv : v < 268435456) (hr : rdG (L.drop (i + 0)) 0 0 = none) : GrA L i (.returned (.tuple #[.int .i64 v, .int .i64 x, .bool false])) :=
  .inr ⟨v, x, rfl, hv, get_no h hr⟩
theorem gv0 {L : List UInt8} {i m v c : Nat} (h : Gr0 L i m v c) (hm : m < 128 ^ 0) : (m : Int) + (c : Int) % 128 = (v : Int) := by
  have := or_k m c 0 1 (by decide) (by decide) hm
  rw [Int.mul_one] at this
  rw [h.or] at this
  rw [this]
  omega
theorem gv1 {L : List UInt8} {i m v c : Nat} (h : Gr1 L i m v c) (hm : m < 128 ^ 1) : (m : Int) + (c : Int) % 128 * 128 = (v : Int) := by
  have := or_k m c 1 128 (by decide) (by decide) hm
  skip
  rw [h.or] at this
  rw [this]
  omega
theorem gv2 {L : List UInt8} {i m v c : Nat} (h : Gr2 L i m v c) (hm : m < 128 ^ 2) : (m : Int) + (c : Int) % 128 * 16384 = (v : Int) := by
  have := or_k m c 2 16384 (by decide) (by decide) hm
  skip
  rw [h.or] at this
  rw [this]
  omega
theorem gv3 {L : List UInt8} {i m v c : Nat} (h : Gr3 L i m v c) (hm : m < 128 ^ 3) : (m : Int) + (c : Int) % 128 * 2097152 = (v : Int) := by
  have := or_k m c 3 2097152 (by decide) (by decide) hm
  skip
  rw [h.or] at this
  rw [this]
  omega
set_option maxHeartbeats 4000000 in
set_option maxRecDepth 100000 in
theorem groupsAt_any (ao : Option Addr) (cap : Nat) (L : List UInt8) (i : Int) (w : World) (hr : RdB w ao L) (hN : L.length ≤ 1048600) (hcap : L.length ≤ cap) :
    Calls Tryz.prog 51 #[.slice ao L.length cap, .int .i64 i] w fun e w' => GrA L i e ∧ w' = w := by
  have HR : Hid (RdB w ao L) := hr
  clear hr
  by_cases hin : 0 ≤ i ∧ i < L.length
  · obtain ⟨i, rfl⟩ : ∃ j : Nat, i = j := ⟨i.toNat, by omega⟩
    have hil : i < L.length := by omega
    obtain ⟨b, o, rfl, hc⟩ := HR.out (by omega)
    have HC : Hid (BAt w b o L) := hc
    have HIL : Hid (i < L.length) := hil
    clear hc hin
    by_cases h4 : (L.length : Int) < (i : Int) + 4
    all_goals
      go_enter Tryz.func51, Tryz.ntmps51
      go_wp2_with fail
      go_loop [7, 8, 9, 10, 28] (fun mv wv _ _ kv => ∃ (m k : Nat), k ≤ 4 ∧ i + k ≤ L.length ∧ mv = .int .i64 m ∧ wv = .int .i64 ((128 ^ k : Nat) : Int) ∧ kv = .int .i64 k ∧ m < 128 ^ k ∧ rdG (L.drop (i + 0)) 0 0 = rdG (L.drop (i + k)) k m) (fun _ _ _ _ kv => 4 - (intOf kv).toNat)
      case atStart => exact ⟨0, 0, by omega, by omega, rfl, rfl, rfl, by decide, rfl⟩
      case round =>
        obtain ⟨m, k, hk, hkl, rfl, rfl, rfl, hm, hrd⟩ := hrel
        have HRD : Hid (rdG (L.drop (i + 0)) 0 0 = rdG (L.drop (i + k)) k m) := hrd
        have HM : Hid (m < 128 ^ k) := hm
        clear hrd hm
        by_cases hk4 : k < 4 ∧ i + k < L.length
        · obtain ⟨hk1, hk2⟩ := hk4
          have hk5 : k = 0 ∨ k = 1 ∨ k = 2 ∨ k = 3 := by omega
          rcases hk5 with rfl | rfl | rfl | rfl
          · have q : w.cell? ⟨b, o + i, none⟩ = some (.int .u8 (((L[i + 0]).toNat : Nat) : Int)) := by
              have := HC.out (i + 0) hk2
              rw [← Nat.add_assoc] at this
              exact this
            obtain ⟨c, hcc⟩ : ∃ c, (L[i + 0]).toNat = c := ⟨_, rfl⟩
            have hcl : c < 256 := by rw [← hcc]; exact (L[i + 0]).toNat_lt
            rw [hcc] at q
            obtain ⟨v, hgr⟩ := gr0 hk2 hcc HM.out HRD.out
            have HGR : Hid (Gr0 L i m v c) := hgr
            have hvm := gv0 hgr HM.out
            have hvl : v < 268435456 := Nat.lt_of_lt_of_le hgr.vl (by decide)
            have hm : m < 1 := HM.out
            have ht : (c : Int).tmod 128 = (c : Int) % 128 := Int.tmod_eq_emod_of_nonneg (by omega)
            have hp : ((128 ^ 0 : Nat) : Int) = 1 := by decide
            have hik : (0 : Int) < L.length - i := by omega
            have hvv : (m : Int) + (c : Int) % 128 = (v : Int) := hvm
            rw [hp]
            clear hgr hcc hk hk1 hk2 hkl hp hvm
            by_cases hc : 128 ≤ c
            · have HNY : Hid (rdG (L.drop (i + 0)) 0 0 = rdG (L.drop (i + 1)) 1 v) := by have := HGR.out.rd; rw [if_pos hc] at this; exact this
              go_wp2_with fail
              go_round
              case rel => exact ⟨v, 1, by omega, by omega, by first | rfl | (congr 1; omega), by first | rfl | decide, rfl, HGR.out.vl, HNY.out⟩
              case measure => simp [intOf]
            · have HNY : Hid (rdG (L.drop (i + 0)) 0 0 = some (v, 1)) := by have := HGR.out.rd; rw [if_neg hc, if_neg (by omega)] at this; exact this
              by_cases hc0 : 0 < c
              · go_wp2_with fail
                refine bodyPost_ret (v := .tuple #[.int .i64 v, .int .i64 ((i : Int) + (1 : Nat)), .bool true]) (by simp [results, Tryz.results51, go_sem]; try omega) rfl ⟨ofG HIL.out hvl HNY.out, rfl⟩
              · have hc1 : c = 0 := by omega
                subst hc1
                clear hc0
                go_wp2_with fail
                refine bodyPost_ret (v := .tuple #[.int .i64 v, .int .i64 ((i : Int) + (1 : Nat)), .bool true]) (by simp [results, Tryz.results51, go_sem]; try omega) rfl ⟨ofG HIL.out hvl HNY.out, rfl⟩
          · have q : w.cell? ⟨b, o + i + 1, none⟩ = some (.int .u8 (((L[i + 1]).toNat : Nat) : Int)) := by
              have := HC.out (i + 1) hk2
              rw [← Nat.add_assoc] at this
              exact this
            obtain ⟨c, hcc⟩ : ∃ c, (L[i + 1]).toNat = c := ⟨_, rfl⟩
            have hcl : c < 256 := by rw [← hcc]; exact (L[i + 1]).toNat_lt
            rw [hcc] at q
            obtain ⟨v, hgr⟩ := gr1 hk2 hcc HM.out HRD.out
            have HGR : Hid (Gr1 L i m v c) := hgr
            have hvm := gv1 hgr HM.out
            have hvl : v < 268435456 := Nat.lt_of_lt_of_le hgr.vl (by decide)
            have hm : m < 128 := HM.out
            have ht : (c : Int).tmod 128 = (c : Int) % 128 := Int.tmod_eq_emod_of_nonneg (by omega)
            have hp : ((128 ^ 1 : Nat) : Int) = 128 := by decide
            have hik : (1 : Int) < L.length - i := by omega
            have hvv : (m : Int) + (c : Int) % 128 * 128 = (v : Int) := hvm
            rw [hp]
            clear hgr hcc hk hk1 hk2 hkl hp hvm
            by_cases hc : 128 ≤ c
            · have HNY : Hid (rdG (L.drop (i + 0)) 0 0 = rdG (L.drop (i + 2)) 2 v) := by have := HGR.out.rd; rw [if_pos hc] at this; exact this
              go_wp2_with fail
              go_round
              case rel => exact ⟨v, 2, by omega, by omega, by first | rfl | (congr 1; omega), by first | rfl | decide, rfl, HGR.out.vl, HNY.out⟩
              case measure => simp [intOf]
            · by_cases hc0 : 0 < c
              · have HNY : Hid (rdG (L.drop (i + 0)) 0 0 = some (v, 2)) := by have := HGR.out.rd; rw [if_neg hc, if_neg (by omega)] at this; exact this
                go_wp2_with fail
                refine bodyPost_ret (v := .tuple #[.int .i64 v, .int .i64 ((i : Int) + (2 : Nat)), .bool true]) (by simp [results, Tryz.results51, go_sem]; try omega) rfl ⟨ofG HIL.out hvl HNY.out, rfl⟩
              · have hc1 : c = 0 := by omega
                have HNY : Hid (rdG (L.drop (i + 0)) 0 0 = none) := by have := HGR.out.rd; rw [if_neg hc, if_pos ⟨by omega, hc1⟩] at this; exact this
                subst hc1
                clear hc0
                go_wp2_with fail
                refine bodyPost_ret (v := .tuple #[.int .i64 v, .int .i64 ((i : Int) + (2 : Nat)), .bool false]) (by simp [results, Tryz.results51, go_sem]; try omega) rfl ⟨ofN HIL.out hvl HNY.out, rfl⟩
          · have q : w.cell? ⟨b, o + i + 2, none⟩ = some (.int .u8 (((L[i + 2]).toNat : Nat) : Int)) := by
              have := HC.out (i + 2) hk2
              rw [← Nat.add_assoc] at this
              exact this
            obtain ⟨c, hcc⟩ : ∃ c, (L[i + 2]).toNat = c := ⟨_, rfl⟩
            have hcl : c < 256 := by rw [← hcc]; exact (L[i + 2]).toNat_lt
            rw [hcc] at q
            obtain ⟨v, hgr⟩ := gr2 hk2 hcc HM.out HRD.out
            have HGR : Hid (Gr2 L i m v c) := hgr
            have hvm := gv2 hgr HM.out
            have hvl : v < 268435456 := Nat.lt_of_lt_of_le hgr.vl (by decide)
            have hm : m < 16384 := HM.out
            have ht : (c : Int).tmod 128 = (c : Int) % 128 := Int.tmod_eq_emod_of_nonneg (by omega)
            have hp : ((128 ^ 2 : Nat) : Int) = 16384 := by decide
            have hik : (2 : Int) < L.length - i := by omega
            have hvv : (m : Int) + (c : Int) % 128 * 16384 = (v : Int) := hvm
            rw [hp]
            clear hgr hcc hk hk1 hk2 hkl hp hvm
            by_cases hc : 128 ≤ c
            · have HNY : Hid (rdG (L.drop (i + 0)) 0 0 = rdG (L.drop (i + 3)) 3 v) := by have := HGR.out.rd; rw [if_pos hc] at this; exact this
              go_wp2_with fail
              go_round
              case rel => exact ⟨v, 3, by omega, by omega, by first | rfl | (congr 1; omega), by first | rfl | decide, rfl, HGR.out.vl, HNY.out⟩
              case measure => simp [intOf]
            · by_cases hc0 : 0 < c
              · have HNY : Hid (rdG (L.drop (i + 0)) 0 0 = some (v, 3)) := by have := HGR.out.rd; rw [if_neg hc, if_neg (by omega)] at this; exact this
                go_wp2_with fail
                refine bodyPost_ret (v := .tuple #[.int .i64 v, .int .i64 ((i : Int) + (3 : Nat)), .bool true]) (by simp [results, Tryz.results51, go_sem]; try omega) rfl ⟨ofG HIL.out hvl HNY.out, rfl⟩
              · have hc1 : c = 0 := by omega
                have HNY : Hid (rdG (L.drop (i + 0)) 0 0 = none) := by have := HGR.out.rd; rw [if_neg hc, if_pos ⟨by omega, hc1⟩] at this; exact this
                subst hc1
                clear hc0
                go_wp2_with fail
                refine bodyPost_ret (v := .tuple #[.int .i64 v, .int .i64 ((i : Int) + (3 : Nat)), .bool false]) (by simp [results, Tryz.results51, go_sem]; try omega) rfl ⟨ofN HIL.out hvl HNY.out, rfl⟩
          · first
            | (exfalso; omega)
            | skip
              have q : w.cell? ⟨b, o + i + 3, none⟩ = some (.int .u8 (((L[i + 3]).toNat : Nat) : Int)) := by
                have := HC.out (i + 3) hk2
                rw [← Nat.add_assoc] at this
                exact this
              obtain ⟨c, hcc⟩ : ∃ c, (L[i + 3]).toNat = c := ⟨_, rfl⟩
              have hcl : c < 256 := by rw [← hcc]; exact (L[i + 3]).toNat_lt
              rw [hcc] at q
              obtain ⟨v, hgr⟩ := gr3 hk2 hcc HM.out HRD.out
              have HGR : Hid (Gr3 L i m v c) := hgr
              have hvm := gv3 hgr HM.out
              have hvl : v < 268435456 := Nat.lt_of_lt_of_le hgr.vl (by decide)
              have hm : m < 2097152 := HM.out
              have ht : (c : Int).tmod 128 = (c : Int) % 128 := Int.tmod_eq_emod_of_nonneg (by omega)
              have hp : ((128 ^ 3 : Nat) : Int) = 2097152 := by decide
              have hik : (3 : Int) < L.length - i := by omega
              have hvv : (m : Int) + (c : Int) % 128 * 2097152 = (v : Int) := hvm
              rw [hp]
              clear hgr hcc hk hk1 hk2 hkl hp hvm
              by_cases hc : 128 ≤ c
              · have HNY : Hid (rdG (L.drop (i + 0)) 0 0 = rdG (L.drop (i + 4)) 4 v) := by have := HGR.out.rd; rw [if_pos hc] at this; exact this
                go_wp2_with fail
                go_round
                case rel => exact ⟨v, 4, by omega, by omega, by first | rfl | (congr 1; omega), by first | rfl | decide, rfl, HGR.out.vl, HNY.out⟩
                case measure => simp [intOf]
              · by_cases hc0 : 0 < c
                · have HNY : Hid (rdG (L.drop (i + 0)) 0 0 = some (v, 4)) := by have := HGR.out.rd; rw [if_neg hc, if_neg (by omega)] at this; exact this
                  go_wp2_with fail
                  refine bodyPost_ret (v := .tuple #[.int .i64 v, .int .i64 ((i : Int) + (4 : Nat)), .bool true]) (by simp [results, Tryz.results51, go_sem]; try omega) rfl ⟨ofG HIL.out hvl HNY.out, rfl⟩
                · have hc1 : c = 0 := by omega
                  have HNY : Hid (rdG (L.drop (i + 0)) 0 0 = none) := by have := HGR.out.rd; rw [if_neg hc, if_pos ⟨by omega, hc1⟩] at this; exact this
                  subst hc1
                  clear hc0
                  go_wp2_with fail
                  refine bodyPost_ret (v := .tuple #[.int .i64 v, .int .i64 ((i : Int) + (4 : Nat)), .bool false]) (by simp [results, Tryz.results51, go_sem]; try omega) rfl ⟨ofN HIL.out hvl HNY.out, rfl⟩
        · have HE : Hid (rdG (L.drop (i + 0)) 0 0 = none) := by
            show _ = _
            rw [HRD.out]
            by_cases h4 : k < 4
            · rw [List.drop_eq_nil_of_le (by omega)]; rfl
            · have : k = 4 := by omega
              subst this
              rw [rd_four]
          have h5 : ¬ (k : Int) < L.length - i ∨ k = 4 := by omega
          clear hk4
          go_wp2_with fail
          refine bodyPost_ret (v := .tuple #[.int .i64 ((0 : Nat) : Int), .int .i64 0, .bool false]) (by simp [results, Tryz.results51, go_sem]; try omega) rfl ⟨ofN HIL.out (by decide) HE.out, rfl⟩
  · have HE : Hid (getB L i = none) := get_out hin
    by_cases h0 : 0 ≤ i
    · by_cases h1 : i = L.length
      · subst h1
        have hx : (L.length : Int) < (L.length : Int) + 4 := by omega
        clear hin h0
        go_enter Tryz.func51, Tryz.ntmps51
        go_wp2_with fail
        all_goals
          first
          | (exfalso; omega)
          | skip
            refine wp_loop_rounds 1 ?_
            rw [rounds_succ]
            go_wp2_with fail
            refine bodyPost_ret (v := .tuple #[.int .i64 ((0 : Nat) : Int), .int .i64 0, .bool false]) (by simp [results, Tryz.results51, go_sem]; try omega) rfl ⟨.inr ⟨0, 0, rfl, by decide, HE.out⟩, rfl⟩
      · have h2 : (L.length : Int) < i := by omega
        clear hin h1
        go_enter Tryz.func51, Tryz.ntmps51
        go_wp2_with fail
        refine bodyPost_ret (v := .tuple #[.int .i64 ((0 : Nat) : Int), .int .i64 0, .bool false]) (by simp [results, Tryz.results51, go_sem]; try omega) rfl ⟨.inr ⟨0, 0, rfl, by decide, HE.out⟩, rfl⟩
    · clear hin
      go_enter Tryz.func51, Tryz.ntmps51
      go_wp2_with fail
      refine bodyPost_ret (v := .tuple #[.int .i64 ((0 : Nat) : Int), .int .i64 0, .bool false]) (by simp [results, Tryz.results51, go_sem]; try omega) rfl ⟨.inr ⟨0, 0, rfl, by decide, HE.out⟩, rfl⟩

set_option maxHeartbeats 1000000 in
theorem implGet_any (ao : Option Addr) (cap : Nat) (L : List UInt8) (i : Int) (w : World) (hr : RdB w ao L) (hN : L.length ≤ 1048600) (hcap : L.length ≤ cap) :
    Calls Tryz.prog 27 #[.slice ao L.length cap, .int .i64 i] w fun e w' => e = .returned (ansN (getB L i)) ∧ w' = w := by
  have HR : Hid (RdB w ao L) := hr
  clear hr
  go_enter Tryz.func27, Tryz.ntmps27
  go_wp2_with fail
  refine (groupsAt_any ao cap L i w HR.out hN hcap).mono ?_
  rintro e w1 ⟨hg, rfl⟩
  rcases hg with ⟨v, k, rfl, hv, h0, h1, hrd⟩ | ⟨v, x, rfl, hv, hno⟩
  · have HG : Hid (getB L i = outN i v k) := by
      show _ = _
      unfold getB outN
      rw [if_pos ⟨h0, h1⟩, hrd]
    clear hrd h0 h1
    cases hin : inB (unfN v) (-1000000) 1000000 with
    | true =>
      have HA : Hid (getB L i = some (unfN v, i + k)) := by show _ = _; rw [HG.out]; exact out_yes rfl hin
      have h2 : -1000000 ≤ unfN v ∧ unfN v ≤ 1000000 := by simpa [inB] using hin
      obtain ⟨h3, h4⟩ := h2
      clear hin
      go_wp2_with (go_at_call 52; refine (unfolded_any v hv _).mono ?_; rintro e w' ⟨rfl, rfl⟩)
      refine bodyPost_ret (v := ansN (some (unfN v, i + k))) (by simp [results, Tryz.results27, go_sem, ansN]) rfl ⟨by rw [HA.out], rfl⟩
    | false =>
      have HA : Hid (getB L i = none) := by show _ = _; rw [HG.out]; exact out_no rfl hin
      have h2 : ¬ (-1000000 ≤ unfN v ∧ unfN v ≤ 1000000) := by simpa [inB] using hin
      clear hin
      by_cases h3 : unfN v < -1000000
      · clear h2
        go_wp2_with (go_at_call 52; refine (unfolded_any v hv _).mono ?_; rintro e w' ⟨rfl, rfl⟩)
        refine bodyPost_ret (v := ansN none) (by simp [results, Tryz.results27, go_sem, ansN]) rfl ⟨by rw [HA.out], rfl⟩
      · have h4 : 1000000 < unfN v := by omega
        clear h2
        go_wp2_with (go_at_call 52; refine (unfolded_any v hv _).mono ?_; rintro e w' ⟨rfl, rfl⟩)
        refine bodyPost_ret (v := ansN none) (by simp [results, Tryz.results27, go_sem, ansN]) rfl ⟨by rw [HA.out], rfl⟩
  · have HA : Hid (getB L i = none) := hno
    clear hno
    go_wp2_with (go_at_call 52; refine (unfolded_any v hv _).mono ?_; rintro e w' ⟨rfl, rfl⟩)
    refine bodyPost_ret (v := ansN none) (by simp [results, Tryz.results27, go_sem, ansN]) rfl ⟨by rw [HA.out], rfl⟩
end Go.Proofs.YtgdlkekjbdkjjaaGreatDoor.By
