/-
  How many ended for want of room, counted by the specification.
-/
import Derived.Test.YtnfncdoiabgdjaaNrC
import Derived.Deep.RegionHeld3
namespace Go.Proofs.Ytnfncdoiabgdjaa.Nr
open Go.RowKit
set_option linter.unusedVariables false

theorem belowDN {B : Nat} {w w' : World} (h : Below B w w') (n : Nat) : Below B w (w'.drewN n) := ⟨h.os, h.tape, h.output, h.size, h.block⟩
set_option maxHeartbeats 4000000 in
theorem specNoRooms_any (l : List Sn) (ao : Option Addr) (cap : Nat) (w : World) (hr : RdN w ao l) (hl : l.length ≤ cap) (hm : l.length ≤ 1048576) (hc : ∀ x ∈ l, SnOk x) :
    Calls Try.prog 8 #[.slice ao l.length cap] w fun e w' => e = .returned (.int .i64 (cntN l)) ∧ Below w.heap.size w w' := by
  have HR : Hid (RdN w ao l) := hr
  have HC : Hid (∀ x ∈ l, SnOk x) := hc
  obtain ⟨N, hN⟩ : ∃ N, N = l.length := ⟨_, rfl⟩
  have HN : Hid (N = l.length) := hN
  rw [← hN] at hl hm ⊢
  clear hr hc hN
  go_enter Try.func8, Try.ntmps8
  go_wp2_with fail
  go_loopw [3, 4] (fun n i wr => ∃ j : Nat, j ≤ N ∧ n = .int .i64 (cntN (l.take j)) ∧ i = .int .i64 j ∧ Below w.heap.size w wr) (fun n i _ => N - (intOf i).toNat)
  case atStart => exact ⟨0, Nat.zero_le _, rfl, rfl, Below.refl _ _⟩
  case round =>
    obtain ⟨j, hj, rfl, rfl, hb⟩ := hrel
    have HB : Hid (Below w.heap.size w wr) := hb
    by_cases hlt : j < N
    · have hlt1 : j < l.length := by have := HN.out; omega
      obtain ⟨b, o, rfl, hbx⟩ : ∃ b o, ao = some ⟨b, o, none⟩ ∧ BxN wr b (o + j * 6) l[j] := by
        rcases HR.out.below hb with h | ⟨b, o, h1, h2⟩
        · rw [h] at hlt1; exact absurd hlt1 (Nat.not_lt_zero _)
        · exact ⟨b, o, h1, h2 j hlt1⟩
      have HX : Hid (cntN (l.take (j + 1)) = cntN (l.take j) + (if hitN l[j] = true then 1 else 0)) := cntN_succ hlt1
      have HCX : Hid (SnOk l[j]) := HC.out _ (List.getElem_mem hlt1)
      have hct := cntN_take (l := l) (j := j) (by omega)
      obtain ⟨c, hc9⟩ : ∃ c, c = cntN (l.take j) := ⟨_, rfl⟩
      rw [← hc9] at HX hct ⊢
      clear hc9
      clear hb
      revert HX HCX hbx
      generalize l[j] = x
      intro hbx HCX HX
      obtain ⟨kind, pid, t⟩ := x
      obtain ⟨k, n, s, tl⟩ := t
      obtain ⟨c0, c1, ct⟩ := hbx
      have ct2 := ct
      dsimp only at c0 c1 ct2
      rw [RepT] at ct2
      obtain ⟨d0, d1, d2, hs, ax, cx, d3, hlx, hcx, rl⟩ := ct2
      have HV : Hid (RepV 0 wr (.mk k n s tl) (.agg #[.int .i64 k, .int .i64 n, .string s, .slice ax tl.length cx])) := ⟨ax, cx, rfl, hs, hlx, hcx, rl⟩
      clear ct hs hlx hcx rl
      rw [show o + j * 6 + 2 + 1 = o + j * 6 + 3 by omega] at d1
      rw [show o + j * 6 + 2 + 2 = o + j * 6 + 4 by omega] at d2
      rw [show o + j * 6 + 2 + 3 = o + j * 6 + 5 by omega] at d3
      obtain ⟨M, hM⟩ : ∃ M, M = tl.length := ⟨_, rfl⟩
      obtain ⟨q, hq⟩ : ∃ q : Bool, q = true ↔ Tm.mk k n s tl = NR := by
        rcases Classical.em (Tm.mk k n s tl = NR) with h | h
        · exact ⟨true, ⟨fun _ => h, fun _ => rfl⟩⟩
        · exact ⟨false, ⟨fun e => absurd e (by decide), fun e => absurd e h⟩⟩
      have HS : Hid (∀ wc, Below wr.heap.size wr wc → Calls Try.prog 19 #[.agg #[.int .i64 k, .int .i64 n, .string s, .slice ax M cx], .agg #[.int .i64 2, .int .i64 0, .string ⟨#[110, 111, 114, 111, 111, 109]⟩, .slice none 0 0]] wc fun e w' => e = .returned (.bool q) ∧ Below wr.heap.size wr w') := fun wc hb => by
        rw [hM]
        exact (smT_all (.mk k n s tl) NR q hq 0 wc _ _ ((Keeps.below hb 0).repV HV.out) ⟨none, 0, rfl, by decide, Nat.le_refl _, by decide, by rw [RepL]; trivial⟩).mono fun e w' h => ⟨h.1, hb.trans (h.2.mono hb.size)⟩
      have HQ : Hid (hitN ⟨kind, pid, .mk k n s tl⟩ = (decide (kind = 3) && q)) := by
        show _ = _
        have h9 := nr_iff (t := .mk k n s tl) (HCX.out.2.2.2.elim (fun h => .inl h.1) .inr)
        unfold hitN
        congr 1
        cases q
        · exact decide_eq_false (fun h => absurd (hq.2 (h9.1 h)) (by decide))
        · exact decide_eq_true (h9.2 (hq.1 rfl))
      rw [← hM] at d3
      have HK0 : Hid (∀ wc, Below wr.heap.size wr wc → wc.cell? ⟨b, o + j * 6, none⟩ = some (.int .i64 kind) ∧ wc.cell? ⟨b, o + j * 6 + 2, none⟩ = some (.int .i64 k) ∧ wc.cell? ⟨b, o + j * 6 + 3, none⟩ = some (.int .i64 n) ∧ wc.cell? ⟨b, o + j * 6 + 4, none⟩ = some (.string s) ∧ wc.cell? ⟨b, o + j * 6 + 5, none⟩ = some (.slice ax M cx)) := fun wc hb => ⟨keepJ hb c0, keepJ hb d0, keepJ hb d1, keepJ hb d2, keepJ hb d3⟩
      have HL9 : Hid (∀ wc, Below wr.heap.size wr wc → Calls Try.prog 17 #[.string ⟨#[110, 111, 114, 111, 111, 109]⟩] wc fun e w' => e = .returned (.agg #[.int .i64 2, .int .i64 0, .string ⟨#[110, 111, 114, 111, 111, 109]⟩, .slice none 0 0]) ∧ Below wr.heap.size wr w') := fun wc hb =>
        (l9Atom_any _ wc).mono fun e w' h => ⟨h.1, hb.trans (h.2.mono hb.size)⟩
      clear hM hq HV HCX c1
      by_cases hk : kind = 3
      · subst hk
        cases q
        · have HF : Hid (cntN (l.take (j + 1)) = c) := by
            show _ = _
            rw [HX.out, HQ.out]; simp
          clear HX HQ
          go_wp2_with fail
          have S0 := HK0.out wr.drew (Below.refl _ _).drew
          clear c0 d0 d1 d2 d3
          go_region_held3 (fun wc => wc.cell? ⟨b, o + j * 6, none⟩ = some (.int .i64 3) ∧ wc.cell? ⟨b, o + j * 6 + 2, none⟩ = some (.int .i64 k) ∧ wc.cell? ⟨b, o + j * 6 + 3, none⟩ = some (.int .i64 n) ∧ wc.cell? ⟨b, o + j * 6 + 4, none⟩ = some (.string s) ∧ wc.cell? ⟨b, o + j * 6 + 5, none⟩ = some (.slice ax M cx)) (first | (refine HK0.out _ ?_; first | exact HA1.out | exact HB1.out; done) | go_keep) (first
            | (go_at_call 17; refine (HL9.out _ ?_).mono ?_; exact (Below.refl _ _).drew; rintro e w1 ⟨rfl, ha1⟩; have HA1 : Hid (Below wr.heap.size wr w1) := ha1; clear ha1)
            | (go_at_call 19; refine (HS.out _ ?_).mono ?_; exact HA1.out; rintro e w2 ⟨rfl, hb1⟩; have HB1 : Hid (Below wr.heap.size wr w2) := hb1; clear hb1)
            | fail)
          all_goals
            go_wp2_with fail
            go_roundw
            case rel => exact ⟨j + 1, by omega, by rw [HF.out], by go_num, HB.out.trans (HB1.out.mono HB.out.size)⟩
            case measure => simp [intOf]; omega
        · have HF : Hid (cntN (l.take (j + 1)) = c + 1) := by
            show _ = _
            rw [HX.out, HQ.out]; simp
          clear HX HQ
          go_wp2_with fail
          have S0 := HK0.out wr.drew (Below.refl _ _).drew
          clear c0 d0 d1 d2 d3
          go_region_held3 (fun wc => wc.cell? ⟨b, o + j * 6, none⟩ = some (.int .i64 3) ∧ wc.cell? ⟨b, o + j * 6 + 2, none⟩ = some (.int .i64 k) ∧ wc.cell? ⟨b, o + j * 6 + 3, none⟩ = some (.int .i64 n) ∧ wc.cell? ⟨b, o + j * 6 + 4, none⟩ = some (.string s) ∧ wc.cell? ⟨b, o + j * 6 + 5, none⟩ = some (.slice ax M cx)) (first | (refine HK0.out _ ?_; first | exact HA1.out | exact HB1.out; done) | go_keep) (first
            | (go_at_call 17; refine (HL9.out _ ?_).mono ?_; exact (Below.refl _ _).drew; rintro e w1 ⟨rfl, ha1⟩; have HA1 : Hid (Below wr.heap.size wr w1) := ha1; clear ha1)
            | (go_at_call 19; refine (HS.out _ ?_).mono ?_; exact HA1.out; rintro e w2 ⟨rfl, hb1⟩; have HB1 : Hid (Below wr.heap.size wr w2) := hb1; clear hb1)
            | fail)
          all_goals
            go_wp2_with fail
            go_roundw
            case rel => exact ⟨j + 1, by omega, by rw [HF.out]; go_num, by go_num, HB.out.trans (HB1.out.mono HB.out.size)⟩
            case measure => simp [intOf]; omega
      · have HF : Hid (cntN (l.take (j + 1)) = c) := by
          show _ = _
          rw [HX.out, HQ.out]; simp [hk]
        have e1 : (kind == 3) = false := beq_eq_false_iff_ne.2 hk
        clear HX HQ hk HS HL9
        go_wp2_with fail
        go_quiet (fail)
        go_wp2_with fail
        go_roundw
        case rel => exact ⟨j + 1, by omega, by rw [HF.out], by go_num, belowDN HB.out _⟩
        case measure => simp [intOf]; omega
    · have hjN : j = N := by omega
      have HF : Hid (l.take j = l) := List.take_of_length_le (by have := HN.out; omega)
      clear hb
      go_wp2_with fail
      go_ret
      exact ⟨by rw [HF.out]; rfl, HB.out⟩
end Go.Proofs.Ytnfncdoiabgdjaa.Nr
