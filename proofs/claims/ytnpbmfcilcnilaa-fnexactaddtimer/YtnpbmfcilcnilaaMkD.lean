/-
  What is marked is found marked (marks up to nine millions).
-/
import Derived.Test.YtnpbmfcilcnilaaMkC
import Derived.Deep.RegionWith
namespace Go.Proofs.Ytnpbmfcilcnilaa
open Go.RowKit
set_option linter.unusedVariables false

theorem mrL_get : ∀ (l : List Tm) (K i : Nat) (h : i < (mrL l K).length) (h' : i < l.length), (mrL l K)[i] = mrT l[i] (K + cL (l.take i))
  | [], K, i, h, h' => absurd h' (by simp)
  | t :: r, K, i, h, h' => by
    cases i with
    | zero => simp [mrL, cL]
    | succ j =>
      have hj : j < r.length := by simpa using h'
      have := mrL_get r (K + cT t) j (by rw [mrL_len]; exact hj) hj
      simp only [mrL, List.getElem_cons_succ, this, List.take_succ_cons, cL]
      rw [Nat.add_assoc]
theorem bundrewM {W w3 : World} (hb : Below W.drew.heap.size W.drew w3) : Below W.heap.size W w3 := ⟨hb.os, hb.tape, hb.output, hb.size, hb.block⟩
def HeS (l : List Tm) : Prop := ∀ (w : World) (ao : Option Addr) (cap K : Nat), RepL 0 w (mrL l K) ao → l.length ≤ cap → cap ≤ maxLen → 1 ≤ K → K + cL l ≤ 8999990 →
  Calls Try.prog 30 #[.slice ao l.length cap, .int .i64 K] w fun e w' => e = .returned (.int .i64 ((K + cL l : Nat) : Int)) ∧ Below w.heap.size w w'
theorem repL_below {w w' : World} {l : List Tm} {ao : Option Addr} (h : RepL 0 w l ao) (hb : Below w.heap.size w w') : RepL 0 w' l ao := (Keeps.below hb 0).repL _ _ h

set_option maxHeartbeats 4000000 in
set_option maxRecDepth 100000 in
theorem heS_of (l : List Tm) (ih : ∀ t, t ∈ l → ∀ k n s L, t = .mk k n s L → HeS L) : HeS l := by
  intro w ao cap K h hlc hcm hK hKc
  unfold maxLen at hcm
  have HR : Hid (RepL 0 w (mrL l K) ao) := h
  have IH : Hid (∀ t, t ∈ l → ∀ k n s L, t = .mk k n s L → HeS L) := ih
  clear h ih
  go_enter Try.func30, Try.ntmps30
  go_wp2_with fail
  go_loopw [1, 5] (fun vk vi wr => ∃ i : Nat, i ≤ l.length ∧ vi = .int .i64 i ∧ vk = .int .i64 ((K + cL (l.take i) : Nat) : Int) ∧ Below w.heap.size w wr) (fun _ vi _ => l.length - (intOf vi).toNat)
  case atStart => exact ⟨0, Nat.zero_le _, rfl, by simp [cL], Below.refl _ _⟩
  case round =>
    obtain ⟨i, hi0, rfl, rfl, hb⟩ := hrel
    have HB : Hid (Below w.heap.size w wr) := hb
    by_cases hlt : i < l.length
    · have hcl := cL_take l i hlt
      have hcle := cL_le l (i + 1)
      obtain ⟨b, off, rfl, _, hT⟩ := RepL.at _ _ (repL_below HR.out hb) i (by rw [mrL_len]; exact hlt)
      rw [mrL_get l K i _ hlt] at hT
      have HIM : Hid (∀ k n s L, l[i] = .mk k n s L → HeS L) := IH.out _ (List.getElem_mem hlt)
      generalize l[i] = t at *
      obtain ⟨k0, n0, s0, L0⟩ := t
      obtain ⟨Q, hQ⟩ : ∃ Q, Q = K + cL (l.take i) := ⟨_, rfl⟩
      rw [← hQ] at hT ⊢
      rw [mrT, RepT] at hT
      obtain ⟨h0, h1, h2, hs0, ao0, cap0, h3, hl0, hc0, hOL⟩ := hT
      rw [mrL_len] at h3 hl0
      rw [cT] at hcl
      have hQ3 : Q + 3 + cL L0 ≤ 8999990 := by omega
      have HQN : Hid (K + cL (l.take (i + 1)) = Q + 3 + cL L0) := by show _ = _; omega
      have hQ1 : 1 ≤ Q := by omega
      clear hQ hcl hcle hb
      have HOL : Hid (RepL 0 wr (mrL L0 (Q + 3)) ao0) := hOL
      have HIH : Hid (HeS L0) := HIM.out _ _ _ _ rfl
      have HC0 : Hid (L0.length ≤ cap0 ∧ cap0 ≤ maxLen) := ⟨hl0, hc0⟩
      have HK2 : Hid (((Q : Int) + 1 + 1) = ((Q + 2 : Nat) : Int)) := by show _ = _; omega
      have HK2b : Hid (((Q : Int) + 2) = ((Q + 2 : Nat) : Int)) := by show _ = _; omega
      have HK3 : Hid (((Q : Int) + 1 + 1 + 1) = ((Q + 3 : Nat) : Int)) := by show _ = _; omega
      have HK3c : Hid (((Q : Int) + 2 + 1) = ((Q + 3 : Nat) : Int)) := by show _ = _; omega
      have HK3b : Hid (((Q : Int) + 3) = ((Q + 3 : Nat) : Int)) := by show _ = _; omega
      have hQi : (Q : Int) ≤ 8999990 := by omega
      obtain ⟨x, hx⟩ : ∃ x, mkT (Q + 2) = x := ⟨_, rfl⟩
      have HX : Hid (mkT (Q + 2) = x) := hx
      rw [hx] at h2
      have KC : Hid (∀ w1, Below wr.drew.heap.size wr.drew w1 → w1.cell? ⟨b, off + i * 4 + 2, none⟩ = some (.string x) ∧ w1.cell? ⟨b, off + i * 4 + 3, none⟩ = some (.slice ao0 L0.length cap0) ∧ Below wr.heap.size wr w1) := fun w1 h => by
        have h1 : Below wr.heap.size wr w1 := bundrewM h
        exact ⟨keepM h1 h2, keepM h1 h3, h1⟩
      clear hx hOL hl0 hc0 hs0
      go_wp2_with fail
      go_region_with (go_at_call 27; (first | rw [HK2.out] | rw [HK2b.out]); refine (markText_any (Q + 2) (by omega) (by omega) _).mono ?_; rintro e w1 ⟨rfl, hb1⟩; rw [HX.out]; obtain ⟨c1, c2, hbw⟩ := KC.out w1 hb1; have HBW : Hid (Below wr.heap.size wr w1) := hbw; clear hb1 hbw)
      all_goals
        go_wp2_with (first | (go_at_call 30; (first | rw [HK3.out] | rw [HK3c.out] | rw [HK3b.out]); refine (HIH.out _ ao0 cap0 (Q + 3) (repL_below HOL.out (by first | exact HBW.out | exact HBW.out.drew)) HC0.out.1 HC0.out.2 (by omega) (by omega)).mono ?_; rintro e w5 ⟨rfl, hb5⟩; have HB5 : Hid (Below w.heap.size w w5) := HB.out.trans (Below.mono (by first | exact HBW.out.trans (hb5.mono HBW.out.size) | exact HBW.out.trans ((bundrewM hb5).mono HBW.out.size)) HB.out.size); clear hb5))
        go_roundw
        case rel => exact ⟨i + 1, by omega, by go_num, by rw [HQN.out]; exact congrArg (Value.int .i64) (by omega), HB5.out⟩
        case measure => simp [intOf]; omega
    · have hil : i = l.length := by omega
      have HEQ : Hid (K + cL (l.take i) = K + cL l) := by show _ = _; rw [hil]; simp
      clear hil
      go_wp2_with fail
      go_ret
      exact ⟨ret_int (by have := HEQ.out; omega), HB.out⟩
theorem heT_all : ∀ t : Tm, ∀ k n s L, t = .mk k n s L → HeS L := Tm.ind fun k n s l ih k' n' s' L' e => by
  simp only [Tm.mk.injEq] at e
  obtain ⟨_, _, _, rfl⟩ := e
  exact heS_of l ih
theorem heS_all (l : List Tm) : HeS l := heT_all (.mk 0 0 ByteArray.empty l) _ _ _ _ rfl
end Go.Proofs.Ytnpbmfcilcnilaa
