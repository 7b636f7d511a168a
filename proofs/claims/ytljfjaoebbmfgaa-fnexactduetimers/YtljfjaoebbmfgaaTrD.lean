/-
  What the laws look for in timers.
-/
import Derived.Test.YtljfjaoebbmfgaaTrC
import Derived.Deep.RegionWith
namespace Go.Proofs.Ytljfjaoebbmfgaa.Tr
open Go.RowKit Atom
set_option linter.unusedVariables false

set_option maxHeartbeats 4000000 in
set_option maxRecDepth 100000 in
theorem heldTimerS_any (l : List Sd) (ao : Option Addr) (cap K : Nat) (w : World) (h : RowS w ao (mrG mrS cS l K)) (hl : l.length ≤ maxLen) (hK1 : 1 ≤ K) (hK : K + cG cS l ≤ 8999990) :
    Calls Try.prog 14 #[.slice ao l.length cap, .int .i64 K] w fun e w' => e = .returned (.int .i64 ((K + cG cS l : Nat) : Int)) ∧ Below w.heap.size w w' := by
  have HR : Hid (RowS w ao (mrG mrS cS l K)) := h
  clear h
  unfold maxLen at hl
  go_enter Try.func14, Try.ntmps14
  go_wp2_with fail
  go_loopw [1, 5] (fun vk vi wr => ∃ i : Nat, i ≤ l.length ∧ vi = .int .i64 i ∧ vk = .int .i64 ((K + cG cS (l.take i) : Nat) : Int) ∧ Below w.heap.size w wr) (fun _ vi _ => l.length - (intOf vi).toNat)
  case atStart => exact ⟨0, Nat.zero_le _, rfl, by simp [cG], Below.refl _ _⟩
  case round =>
    obtain ⟨i, hi0, rfl, rfl, hb⟩ := hrel
    have HB : Hid (Below w.heap.size w wr) := hb
    by_cases hlt : i < l.length
    · have hcl := cG_take (c := cS) l i hlt
      have hcle := cG_le (c := cS) l (i + 1)
      rcases HR.out.below hb with h0 | ⟨b, o, rfl, hrow⟩
      · have := mrG_len (m := mrS) (c := cS) l K
        rw [h0] at this; simp at this; omega
      have hbx := hrow i (by rw [mrG_len]; exact hlt)
      rw [mrG_get l K i _ hlt] at hbx
      generalize l[i] = a at *
      obtain ⟨kind, pid, tt⟩ := a
      obtain ⟨tk, tn, xs, tl⟩ := tt
      obtain ⟨Q, hQ⟩ : ∃ Q, Q = K + cG cS (l.take i) := ⟨_, rfl⟩
      rw [← hQ] at hbx ⊢
      have hcA : cS ⟨kind, pid, .mk tk tn xs tl⟩ = 5 + cL tl := rfl
      rw [hcA] at hcl
      have HQN : Hid (K + cG cS (l.take (i + 1)) = Q + 5 + cL tl) := by show _ = _; omega
      have HQB : Hid (Q + 5 + cL tl ≤ 8999990) := by show _ ≤ _; omega
      have hQi : (Q : Int) ≤ 8999985 := by omega
      have hQ1 : 1 ≤ Q := by omega
      clear hQ hcl hcle hrow hcA
      have c0 : wr.cell? ⟨b, o + i * 6, none⟩ = some (.int .i64 Q) := hbx.c0
      have c1 : wr.cell? ⟨b, o + i * 6 + 1, none⟩ = some (.int .i64 ((Q : Int) + 1)) := hbx.c1
      have hT : RepT 0 wr (.mk ((Q : Int) + 1 + 1) ((Q : Int) + 1 + 1 + 1) (mkT (Q + 4)) (mrL tl (Q + 5))) b (o + i * 6 + 2) := hbx.t
      rw [RepT] at hT
      obtain ⟨c2, c3, c4, _, tao, tcap, c5, htl, htc, hrp⟩ := hT
      rw [mrL_len] at c5 htl
      have c3' : wr.cell? ⟨b, o + i * 6 + 3, none⟩ = some (.int .i64 ((Q : Int) + 1 + 1 + 1)) := c3
      have c4' : wr.cell? ⟨b, o + i * 6 + 4, none⟩ = some (.string (mkT (Q + 4))) := c4
      have c5' : wr.cell? ⟨b, o + i * 6 + 5, none⟩ = some (.slice tao tl.length tcap) := c5
      have HE4 : Hid (((Q : Int) + 1 + 1 + 1 + 1) = ((Q + 4 : Nat) : Int) ∧ ((Q : Int) + 4) = ((Q + 4 : Nat) : Int)) := ⟨by omega, by omega⟩
      have HE5 : Hid (((Q : Int) + 1 + 1 + 1 + 1 + 1) = ((Q + 5 : Nat) : Int) ∧ ((Q : Int) + 4 + 1) = ((Q + 5 : Nat) : Int) ∧ ((Q : Int) + 5) = ((Q + 5 : Nat) : Int) ∧ ((Q + 4 : Nat) : Int) + 1 = ((Q + 5 : Nat) : Int)) := ⟨by omega, by omega, by omega, by omega⟩
      obtain ⟨x, hx⟩ : ∃ x, mkT (Q + 4) = x := ⟨_, rfl⟩
      have HX : Hid (mkT (Q + 4) = x) := hx
      rw [hx] at c4'
      have HRP : Hid (RepL 0 wr (mrL tl (Q + 5)) tao ∧ tl.length ≤ tcap ∧ tcap ≤ maxLen) := ⟨hrp, htl, htc⟩
      have KC : Hid (∀ w1, Below wr.drew.heap.size wr.drew w1 → w1.cell? ⟨b, o + i * 6 + 4, none⟩ = some (.string x) ∧ w1.cell? ⟨b, o + i * 6 + 5, none⟩ = some (.slice tao tl.length tcap) ∧ Below wr.heap.size wr w1) := fun w1 h => by
        have h1 : Below wr.heap.size wr w1 := bundrewM h
        exact ⟨keepM h1 c4', keepM h1 c5', h1⟩
      clear hx hb hbx hrp htl htc c3 c4 c5
      go_wp2_with fail
      go_region_with (go_at_call 27; (first | rw [HE4.out.1] | rw [HE4.out.2]); refine (markText_any (Q + 4) (by omega) (by omega) _).mono ?_; rintro e w1 ⟨rfl, hb1⟩; rw [HX.out]; obtain ⟨k4, k5, hbw⟩ := KC.out w1 hb1; have HBW : Hid (Below wr.heap.size wr w1) := hbw; clear hb1 hbw)
      all_goals
        go_wp2_with (first | (go_at_call 29; (first | rw [HE5.out.1] | rw [HE5.out.2.1] | rw [HE5.out.2.2.1] | rw [HE5.out.2.2.2]); refine (heS_all tl _ tao tcap (Q + 5) (repL_below HRP.out.1 (by first | exact HBW.out | exact HBW.out.drew)) HRP.out.2.1 HRP.out.2.2 (by omega) HQB.out).mono ?_; rintro e w5 ⟨rfl, hb5⟩; have HB5 : Hid (Below w.heap.size w w5) := HB.out.trans (Below.mono (by first | exact HBW.out.trans (hb5.mono HBW.out.size) | exact HBW.out.trans ((bundrewM hb5).mono HBW.out.size)) HB.out.size); clear hb5))
        go_roundw
        case rel => exact ⟨i + 1, by omega, by go_num, by rw [HQN.out]; exact congrArg (Value.int .i64) (by omega), HB5.out⟩
        case measure => simp [intOf]; omega
    · have hil : i = l.length := by omega
      have HEQ : Hid (K + cG cS (l.take i) = K + cG cS l) := by show _ = _; rw [hil]; simp
      clear hil
      go_wp2_with fail
      go_ret
      exact ⟨ret_int (by have := HEQ.out; omega), HB.out⟩
end Go.Proofs.Ytljfjaoebbmfgaa.Tr
