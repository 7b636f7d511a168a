/-
  What the laws FnExactAtomAt and FnExactAddAtom do.
-/
import Derived.Test.YtikedjdjfncgkabSgB
import Derived.Test.YtikedjdjfncgkabSgD
import Derived.Deep.RegionLaw
namespace Go.Proofs.Ytikedjdjfncgkab
open Go.RowKit
set_option linter.unusedVariables false

theorem bjoin {a b c : World} (h : Below a.heap.size a b) (k : Below b.heap.size b c) : Below a.heap.size a c := h.trans (k.mono h.size)
theorem bundrew {W w3 : World} (hb : Below W.drew.heap.size W.drew w3) : Below W.heap.size W w3 := ⟨hb.os, hb.tape, hb.output, hb.size, hb.block⟩

set_option maxHeartbeats 1000000 in
theorem markStr_any (b N cap : Nat) (f : Nat → ByteArray) (w : World) (hI : Sts w b N f) (hlt0 : b < w.heap.size) (hN : N ≤ 1048577) :
    Calls Try.prog 18 #[.slice (some ⟨b, 0, none⟩) N cap, .int .i64 1] w fun e w' => e = .returned (.int .i64 (1 + N)) ∧ Turn b w w' ∧ Sts w' b N (fun j => mkT (1 + j)) := by
  have HI : Hid (Sts w b N f) := hI
  clear hI
  go_enter Try.func18, Try.ntmps18
  go_wp2_with fail
  go_loopw [1, 5] (fun a i w' => ∃ m : Nat, m ≤ N ∧ i = .int .i64 m ∧ a = .int .i64 ((1 + m : Nat) : Int) ∧ Turn b w w' ∧ Sts w' b N (fun j => if j < m then mkT (1 + j) else f j)) (fun _ i _ => N - (intOf i).toNat)
  case atStart => exact ⟨0, Nat.zero_le _, by simp, by simp, Turn.refl _ _, HI.out.congr (fun j _ => by rw [if_neg (by omega)])⟩
  case round =>
    obtain ⟨m, hm, rfl, rfl, ht, hi⟩ := hrel
    have HT : Hid (Turn b w wr) := ht
    have HI2 : Hid (Sts wr b N (fun j => if j < m then mkT (1 + j) else f j)) := hi
    have hltr : b < wr.heap.size := Nat.lt_of_lt_of_le hlt0 ht.size
    clear ht hi
    by_cases hlt : m < N
    · obtain ⟨u, hu⟩ : ∃ u : Nat, u = 1 + m := ⟨_, rfl⟩
      have HU : Hid (u = 1 + m) := hu
      have hu1 : 1 ≤ u := by omega
      have hu2 : u ≤ 3000000 := by omega
      rw [← hu]
      clear hu
      go_wp2_with fail
      refine (markText_any u hu1 hu2 wr).mono ?_
      rintro e w1 ⟨rfl, hb1⟩
      have HT1 : Hid (Turn b w w1) := HT.out.trans (Turn.of_below hb1)
      have hi1 := HI2.out.below hb1 hltr
      have HI1 : Hid (Sts w1 b N (fun j => if j < m then mkT (1 + j) else f j)) := hi1
      have cm := hi1.cell m hlt
      have fr : ∀ x, w1.frozen? ⟨b, x, none⟩ = false := hi1.free
      clear hi1 hb1
      generalize hx : mkT u = x
      have HX : Hid (mkT u = x) := hx
      clear hx
      go_wp2_with fail
      go_roundw
      case rel =>
        refine ⟨m + 1, by omega, by go_num, by rw [HU.out]; go_num, HT1.out.set _ _, (HI1.out.set m hlt _).congr fun j _ => ?_⟩
        unfold updS
        by_cases e : j = m
        · subst e
          rw [if_pos rfl, if_pos (by omega), ← HX.out, HU.out]
        · rw [if_neg e]
          dsimp only
          by_cases e2 : j < m
          · rw [if_pos e2, if_pos (by omega)]
          · rw [if_neg e2, if_neg (by omega)]
      case measure => simp [intOf]; omega
    · have hme : m = N := by omega
      subst hme
      go_wp2_with fail
      go_ret
      exact ⟨ret_int (by omega), HT.out, HI2.out.congr (fun j hj => by rw [if_pos hj])⟩

set_option maxHeartbeats 1000000 in
theorem heldStr_any (b N cap : Nat) (w : World) (hI : Sts w b N (fun j => mkT (1 + j))) (hlt0 : b < w.heap.size) (hN : N ≤ 1048577) :
    Calls Try.prog 19 #[.slice (some ⟨b, 0, none⟩) N cap, .int .i64 1] w fun e w' => e = .returned (.int .i64 (1 + N)) ∧ Below w.heap.size w w' := by
  have HI : Hid (Sts w b N (fun j => mkT (1 + j))) := hI
  clear hI
  go_enter Try.func19, Try.ntmps19
  go_wp2_with fail
  go_loopw [1, 5] (fun a i w' => ∃ m : Nat, m ≤ N ∧ i = .int .i64 m ∧ a = .int .i64 ((1 + m : Nat) : Int) ∧ Below w.heap.size w w') (fun _ i _ => N - (intOf i).toNat)
  case atStart => exact ⟨0, Nat.zero_le _, by simp, by simp, Below.refl _ _⟩
  case round =>
    obtain ⟨m, hm, rfl, rfl, hb⟩ := hrel
    have HB : Hid (Below w.heap.size w wr) := hb
    have HI2 : Hid (Sts wr b N (fun j => mkT (1 + j))) := HI.out.below hb hlt0
    have hltr : b < wr.heap.size := Nat.lt_of_lt_of_le hlt0 hb.size
    clear hb
    by_cases hlt : m < N
    · obtain ⟨u, hu⟩ : ∃ u : Nat, u = 1 + m := ⟨_, rfl⟩
      have HU : Hid (u = 1 + m) := hu
      have hu1 : 1 ≤ u := by omega
      have hu2 : u ≤ 3000000 := by omega
      have cm := HI2.out.cell m hlt
      rw [← hu] at cm ⊢
      clear hu
      obtain ⟨x, hx⟩ : ∃ x, mkT u = x := ⟨_, rfl⟩
      have HX : Hid (mkT u = x) := hx
      rw [hx] at cm
      clear hx
      have KC : Hid (∀ w1, Below wr.drew.heap.size wr.drew w1 → w1.cell? ⟨b, m, none⟩ = some (.string x) ∧ Below w.heap.size w w1) := fun w1 h => by
        have h1 : Below wr.heap.size wr w1 := bundrew h
        exact ⟨(h1.cell (p := ⟨b, m, none⟩) hltr).trans cm, bjoin HB.out h1⟩
      go_wp2_with fail
      go_region_with (go_at_call 24; refine (markText_any u hu1 hu2 _).mono ?_; rintro e w1 ⟨rfl, hb1⟩; rw [HX.out]; obtain ⟨c1, hbw⟩ := KC.out w1 hb1; have HBW : Hid (Below w.heap.size w w1) := hbw; clear hb1 hbw)
      all_goals
        go_wp2_with fail
        go_roundw
        case rel => exact ⟨m + 1, by omega, by go_num, by rw [HU.out]; go_num, by first | exact HBW.out | exact HBW.out.drew⟩
        case measure => simp [intOf]; omega
    · have hme : m = N := by omega
      subst hme
      go_wp2_with fail
      go_ret
      exact ⟨ret_int (by omega), HB.out⟩

set_option maxHeartbeats 1000000 in
theorem atomAt_law (ao : Option Addr) (cap : Nat) (L : List ByteArray) (s : ByteArray) (w : World) (hr : RdT w ao L) (hN : L.length ≤ maxLen) (hsz : ∀ x ∈ L, x.size ≤ maxLen) (hs : s.size ≤ maxLen) :
    Calls Try.prog 5 #[.slice ao L.length cap, .string s] w fun e w' => e = .returned (.bool true) ∧ Below w.heap.size w w' := by
  have HR : Hid (RdT w ao L) := hr
  have HN : Hid (L.length ≤ maxLen) := hN
  have HS : Hid (∀ x ∈ L, x.size ≤ maxLen) := hsz
  clear hr hN hsz
  unfold maxLen at hs
  by_cases hbs : s.size ≤ 1048576
  · go_enter Try.func5, Try.ntmps5
    go_wp2_with fail
    refine (szStr_any ao cap L w HR.out HN.out HS.out).mono ?_
    rintro e w1 ⟨y, rfl, rfl, hy, hyl⟩
    by_cases h0 : 0 ≤ y
    · have hb := hyl h0
      clear hyl
      have HBL : Hid (L.length ≤ 1048576) := hb
      go_wp2_with fail
      refine (toStr_any ao cap L w1 HR.out HBL.out).mono ?_
      rintro e w2 ⟨rfl, hi2, hl2, hb2⟩
      have HB2 : Hid (Below w1.heap.size w1 w2) := hb2
      have HI2 : Hid (Txt w2 w1.heap.size 0 L) := hi2.txt
      clear hi2 hl2 hb2
      go_wp2_with fail
      refine (specAtomAt_any w1.heap.size 0 L.length L s w2 HI2.out HBL.out).mono ?_
      rintro e w3 ⟨rfl, rfl⟩
      go_wp2_with fail
      refine (toStr_any ao cap L w3 (HR.out.below HB2.out) HBL.out).mono ?_
      rintro e w4 ⟨rfl, hi4, hl4, hb4⟩
      have HB4 : Hid (Below w1.heap.size w1 w4) := bjoin HB2.out hb4
      have HI4 : Hid (Txt w4 w3.heap.size 0 L) := hi4.txt
      clear hi4 hl4 hb4
      go_wp2_with fail
      refine (implAtomAt_any w3.heap.size 0 L.length L s w4 HI4.out HBL.out).mono ?_
      rintro e w5 ⟨rfl, rfl⟩
      go_wp2_with fail
      refine (toStr_any ao cap L w5 (HR.out.below HB4.out) HBL.out).mono ?_
      rintro e w6 ⟨rfl, hi6, hl6, hb6⟩
      have HB6 : Hid (Below w1.heap.size w1 w6) := bjoin HB4.out hb6
      have HI6 : Hid (Txt w6 w5.heap.size 0 L ∧ Txt w6 w3.heap.size 0 L) := ⟨hi6.txt, HI4.out.below hb6⟩
      clear hi6 hl6 hb6
      go_wp2_with fail
      refine (eqStr_same (some ⟨w3.heap.size, 0, none⟩) (some ⟨w5.heap.size, 0, none⟩) L.length L.length L w6 HI6.out.2.rd HI6.out.1.rd (by have := HBL.out; omega)).mono ?_
      rintro e w7 ⟨rfl, hb7⟩
      have HB7 : Hid (Below w1.heap.size w1 w7) := bjoin HB6.out hb7
      clear hb7
      go_wp2_with fail
      go_ret
      exact ⟨rfl, HB7.out⟩
    · have e : y = -1 := by omega
      subst e
      clear hyl
      go_wp2_with fail
      go_ret
      exact ⟨rfl, Below.refl _ _⟩
  · go_enter Try.func5, Try.ntmps5
    go_wp2_with fail
    go_ret
    exact ⟨rfl, Below.refl _ _⟩
end Go.Proofs.Ytikedjdjfncgkab
