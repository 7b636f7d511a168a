/-
  How many ended for want of room, counted by both.
-/
import Derived.Test.YtnfncdoiabgdjaaNrB
import Derived.Test.YtnfncdoiabgdjaaToG
import Derived.Deep.RegionWith
namespace Go.Proofs.Ytnfncdoiabgdjaa.Nr
open Go.RowKit
set_option linter.unusedVariables false

def hitN (x : Sn) : Bool := decide (x.kind = 3) && decide (cmpT x.t NR = 0)
def cntN (l : List Sn) : Nat := (l.filter hitN).length
theorem cntN_succ {l : List Sn} {j : Nat} (h : j < l.length) : cntN (l.take (j + 1)) = cntN (l.take j) + (if hitN l[j] = true then 1 else 0) := by
  rw [cntN, cntN, List.take_succ_eq_append_getElem h, List.filter_append, List.length_append]
  congr 1
  by_cases h2 : hitN l[j] = true
  · rw [if_pos h2]; simp [h2]
  · rw [if_neg h2]; simp [h2]
theorem cntN_take {l : List Sn} {j : Nat} (h : j ≤ l.length) : cntN (l.take j) ≤ j := by
  have h1 := List.length_filter_le hitN (l.take j)
  rw [List.length_take] at h1
  rw [cntN]; omega
theorem nr_iff {t : Tm} (h : WfT t ∨ t = NR) : cmpT t NR = 0 ↔ t = NR := by
  rcases h with h | rfl
  · refine ⟨fun h0 => ?_, fun e => by rw [e]; exact cmpT_self _⟩
    obtain ⟨k, n, s, l⟩ := t
    unfold NR at h0 ⊢
    rw [cmpT] at h0
    obtain ⟨h1, h2⟩ := thenC_iff.1 h0
    obtain ⟨h3, h4⟩ := thenC_iff.1 h2
    have e1 := (cmpI_zero _ _).1 h1
    subst e1
    have e2 := ba_ext ((cmpS_zero s nrB).1 (by unfold ownC at h3; simpa using h3))
    rw [WfT] at h
    rcases h.1 with ⟨e, _⟩ | ⟨_, rfl, rfl, _⟩ | ⟨e, _⟩ | ⟨e, _⟩ | ⟨e, _⟩
    · exact absurd e (by decide)
    · rw [e2]
    all_goals exact absurd e (by decide)
  · exact ⟨fun _ => rfl, fun _ => cmpT_self _⟩

set_option maxHeartbeats 2000000 in
theorem implNoRooms_any (l : List Sn) (ao : Option Addr) (cap : Nat) (w : World) (hr : RdN w ao l) (hl : l.length ≤ cap) (hm : l.length ≤ 1048576) (hc : ∀ x ∈ l, cntT x.t ≤ 1000000000) :
    Calls Try.prog 7 #[.slice ao l.length cap] w fun e w' => e = .returned (.int .i64 (cntN l)) ∧ Below w.heap.size w w' := by
  have HR : Hid (RdN w ao l) := hr
  have HC : Hid (∀ x ∈ l, cntT x.t ≤ 1000000000) := hc
  obtain ⟨N, hN⟩ : ∃ N, N = l.length := ⟨_, rfl⟩
  have HN : Hid (N = l.length) := hN
  rw [← hN] at hl hm ⊢
  clear hr hc hN
  go_enter Try.func7, Try.ntmps7
  go_wp2_with fail
  go_loopw [3, 8] (fun n i wr => ∃ j : Nat, j ≤ N ∧ n = .int .i64 (cntN (l.take j)) ∧ i = .int .i64 j ∧ Below w.heap.size w wr) (fun n i _ => N - (intOf i).toNat)
  case atStart => exact ⟨0, Nat.zero_le _, rfl, rfl, Below.refl _ _⟩
  case round =>
    obtain ⟨j, hj, rfl, rfl, hb⟩ := hrel
    have HB : Hid (Below w.heap.size w wr) := hb
    by_cases hlt : j < N
    · have hlt1 : j < l.length := by have := HN.out; omega
      obtain ⟨b, o, rfl, hbx⟩ : ∃ b o, ao = some ⟨b, o, none⟩ ∧ BxN wr b (o + j * 6) l[j] := by
        rcases HR.out.below hb with h | ⟨b, o, h1, h2⟩
        · rw [h] at hlt1; exact absurd hlt1 (Nat.not_lt_zero _)
        · exact ⟨b, o, h1, h2 j hlt1⟩
      have HX : Hid (cntN (l.take (j + 1)) = cntN (l.take j) + (if hitN l[j] = true then 1 else 0)) := cntN_succ hlt1
      have HCX : Hid (cntT l[j].t ≤ 1000000000) := HC.out _ (List.getElem_mem hlt1)
      have hct := cntN_take (l := l) (j := j) (by omega)
      obtain ⟨c, hc9⟩ : ∃ c, c = cntN (l.take j) := ⟨_, rfl⟩
      rw [← hc9] at HX hct ⊢
      clear hc9
      clear hb
      revert HX HCX hbx
      generalize l[j] = x
      intro hbx HCX HX
      obtain ⟨kind, pid, t⟩ := x
      obtain ⟨k, n, s, tl⟩ := t
      obtain ⟨c0, c1, ct⟩ := hbx
      have ct2 := ct
      dsimp only at c0 c1 ct2
      rw [RepT] at ct2
      obtain ⟨d0, d1, d2, hs, ax, cx, d3, hlx, hcx, rl⟩ := ct2
      have HV : Hid (RepV 0 wr (.mk k n s tl) (.agg #[.int .i64 k, .int .i64 n, .string s, .slice ax tl.length cx])) := ⟨ax, cx, rfl, hs, hlx, hcx, rl⟩
      clear ct hs hlx hcx rl
      have e0 : o + j * 6 + 2 = o + j * 6 + 2 := rfl
      rw [show o + j * 6 + 2 + 1 = o + j * 6 + 3 by omega] at d1
      rw [show o + j * 6 + 2 + 2 = o + j * 6 + 4 by omega] at d2
      rw [show o + j * 6 + 2 + 3 = o + j * 6 + 5 by omega] at d3
      obtain ⟨M, hM⟩ : ∃ M, M = tl.length := ⟨_, rfl⟩
      obtain ⟨q, hq⟩ : ∃ q : Bool, q = true ↔ cmpT (.mk k n s tl) NR = 0 := ⟨decide (cmpT (.mk k n s tl) NR = 0), by simp⟩
      have HS : Hid (∀ wc, Below wr.heap.size wr wc → Calls Try.prog 18 #[.agg #[.int .i64 k, .int .i64 n, .string s, .slice ax M cx], .agg #[.int .i64 2, .int .i64 0, .string ⟨#[110, 111, 114, 111, 111, 109]⟩, .slice none 0 0]] wc fun e w' => e = .returned (.bool q) ∧ Below wc.heap.size wc w') := fun wc hb => by
        rw [hM]
        exact sameI_of k n s tl ax cx 2 0 nrB [] none 0 wc ((Keeps.below hb 0).repV HV.out) ⟨none, 0, rfl, by decide, Nat.le_refl _, by decide, by rw [RepL]; trivial⟩ (by rw [HpT]; intro h1 h2; omega) HCX.out q hq
      have HQ : Hid (hitN ⟨kind, pid, .mk k n s tl⟩ = (decide (kind = 3) && q)) := by
        show _ = _
        unfold hitN
        congr 1
        cases q
        · exact decide_eq_false (fun h => absurd (hq.2 h) (by decide))
        · exact decide_eq_true (hq.1 rfl)
      rw [← hM] at d3
      clear hM hq HV HCX
      by_cases hk : kind = 3
      · subst hk
        cases q
        · have HF : Hid (cntN (l.take (j + 1)) = c) := by
            show _ = _
            rw [HX.out, HQ.out]; simp
          clear HX HQ
          go_wp2_with (go_at_call 18; refine (HS.out _ ?_).mono ?_; exact (Below.refl _ _).alloc (Nat.le_refl _) _; rintro e w1 ⟨rfl, hb1⟩)
          have HB1 : Hid (Below w.heap.size w w1) := (HB.out.alloc HB.out.size _).trans (hb1.mono (Nat.le_trans HB.out.size (by rw [World.size_alloc]; omega)))
          clear hb1
          go_wp2_with fail
          go_roundw
          case rel => exact ⟨j + 1, by omega, by rw [HF.out], by go_num, HB1.out⟩
          case measure => simp [intOf]; omega
        · have HF : Hid (cntN (l.take (j + 1)) = c + 1) := by
            show _ = _
            rw [HX.out, HQ.out]; simp
          clear HX HQ
          go_wp2_with (go_at_call 18; refine (HS.out _ ?_).mono ?_; exact (Below.refl _ _).alloc (Nat.le_refl _) _; rintro e w1 ⟨rfl, hb1⟩)
          have HB1 : Hid (Below w.heap.size w w1) := (HB.out.alloc HB.out.size _).trans (hb1.mono (Nat.le_trans HB.out.size (by rw [World.size_alloc]; omega)))
          clear hb1
          go_wp2_with fail
          go_roundw
          case rel => exact ⟨j + 1, by omega, by rw [HF.out]; go_num, by go_num, HB1.out⟩
          case measure => simp [intOf]; omega
      · have HF : Hid (cntN (l.take (j + 1)) = c) := by
          show _ = _
          rw [HX.out, HQ.out]; simp [hk]
        have e1 : (kind == 3) = false := beq_eq_false_iff_ne.2 hk
        clear HX HQ hk HS
        have HB1 : Hid (∀ O, Below w.heap.size w (wr.alloc O)) := fun O => HB.out.alloc HB.out.size _
        go_wp2_with fail
        go_roundw
        case rel => exact ⟨j + 1, by omega, by rw [HF.out], by go_num, HB1.out _⟩
        case measure => simp [intOf]; omega
    · have hjN : j = N := by omega
      have HF : Hid (l.take j = l) := List.take_of_length_le (by have := HN.out; omega)
      clear hb
      go_wp2_with fail
      go_ret
      exact ⟨by rw [HF.out]; rfl, HB.out⟩
theorem l9Atom_any (s : ByteArray) (w : World) : Calls Try.prog 17 #[.string s] w fun e w' => e = .returned (.agg #[.int .i64 2, .int .i64 0, .string s, .slice none 0 0]) ∧ Below w.heap.size w w' := by
  go_enter Try.func17, Try.ntmps17
  go_wp2_with fail
  refine bodyPost_ret (v := .agg #[.int .i64 2, .int .i64 0, .string s, .slice none 0 0]) (by simp [results, Try.results17, go_sem]) rfl ⟨rfl, ?_⟩
  first | exact (Below.refl _ _).alloc (Nat.le_refl _) _ | exact ((((((Below.refl _ _).alloc (Nat.le_refl _) _).setCell (Nat.le_refl _) _).setCell (Nat.le_refl _) _).setCell (Nat.le_refl _) _).setCell (Nat.le_refl _) _)
end Go.Proofs.Ytnfncdoiabgdjaa.Nr
