/-
  What the law FnExactAddAtom does.
-/
import Derived.Test.YtikedjdjfncgkabSgE
namespace Go.Proofs.Ytikedjdjfncgkab
open Go.RowKit
set_option linter.unusedVariables false

/-- What the law has in hand: the specification's list at gs, the argument's copy at g3, the program's list at g4. -/
structure Ax (w wx : World) (L M : List ByteArray) (gs g3 g4 : Nat) (F3 F4 : Nat → ByteArray) : Prop where
  below : Below w.heap.size w wx
  sp : Txt wx gs 0 M
  xw : Sts wx g3 L.length F3
  im : Sts wx g4 M.length F4
  l0 : w.heap.size ≤ gs
  l1 : gs < g3
  l2 : g3 < g4
  l3 : g4 < wx.heap.size
theorem Ax.call {w wx wy : World} {L M : List ByteArray} {gs g3 g4 : Nat} {F3 F4 : Nat → ByteArray} (s : Ax w wx L M gs g3 g4 F3 F4) (hb : Below wx.heap.size wx wy) : Ax w wy L M gs g3 g4 F3 F4 := by
  have a0 := s.l0
  have a1 := s.l1
  have a2 := s.l2
  have a3 := s.l3
  exact ⟨bjoin s.below hb, s.sp.below hb, s.xw.below hb (by omega), s.im.below hb (by omega), a0, a1, a2, Nat.lt_of_lt_of_le a3 hb.size⟩
theorem Ax.markX {w wx wy : World} {L M : List ByteArray} {gs g3 g4 : Nat} {F3 F4 G : Nat → ByteArray} (s : Ax w wx L M gs g3 g4 F3 F4) (ht : Turn g3 wx wy) (hi : Sts wy g3 L.length G) : Ax w wy L M gs g3 g4 G F4 := by
  have a0 := s.l0
  have a1 := s.l1
  have a2 := s.l2
  have a3 := s.l3
  exact ⟨Turn.below s.below s.below.size ht (by omega), s.sp.turn ht (by omega), hi, s.im.turn ht (by omega) (by omega), a0, a1, a2, Nat.lt_of_lt_of_le a3 ht.size⟩
theorem Ax.markI {w wx wy : World} {L M : List ByteArray} {gs g3 g4 : Nat} {F3 F4 G : Nat → ByteArray} (s : Ax w wx L M gs g3 g4 F3 F4) (ht : Turn g4 wx wy) (hi : Sts wy g4 M.length G) : Ax w wy L M gs g3 g4 F3 G := by
  have a0 := s.l0
  have a1 := s.l1
  have a2 := s.l2
  have a3 := s.l3
  exact ⟨Turn.below s.below s.below.size ht (by omega), s.sp.turn ht (by omega), s.xw.turn ht (by omega) (by omega), hi, a0, a1, a2, Nat.lt_of_lt_of_le a3 ht.size⟩
theorem txt_sts {w : World} {g : Nat} {L : List ByteArray} (h : Txt w g 0 L) (hf : ∀ x, w.frozen? ⟨g, x, none⟩ = false) : Sts w g L.length (lf L) :=
  ⟨fun j hj => by rw [lf_at L j hj]; have := h j hj; rw [Nat.zero_add] at this; exact this, hf⟩

set_option maxHeartbeats 2000000 in
set_option maxRecDepth 100000 in
theorem add_law (ao : Option Addr) (cap : Nat) (L : List ByteArray) (s : ByteArray) (w : World) (hr : RdT w ao L) (hN : L.length ≤ maxLen) (hsz : ∀ x ∈ L, x.size ≤ maxLen) (hs : s.size ≤ maxLen) :
    Calls Try.prog 6 #[.slice ao L.length cap, .string s] w fun e w' => e = .returned (.bool true) ∧ Below w.heap.size w w' := by
  have HR : Hid (RdT w ao L) := hr
  have HN : Hid (L.length ≤ maxLen) := hN
  have HZ : Hid (∀ x ∈ L, x.size ≤ maxLen) := hsz
  have HS : Hid (s.size ≤ maxLen) := hs
  clear hr hN hsz
  unfold maxLen at hs
  by_cases hbs : s.size ≤ 1048576
  · go_enter Try.func6, Try.ntmps6
    go_wp2_with fail
    refine (szStr_any ao cap L w HR.out HN.out HZ.out).mono ?_
    rintro e w1 ⟨y, rfl, rfl, hy, hyl⟩
    by_cases h0 : 0 ≤ y
    · have HBL : Hid (L.length ≤ 1048576) := hyl h0
      clear hyl
      go_wp2_with fail
      refine (toStr_any ao cap L w1 HR.out HBL.out).mono ?_
      rintro e w2 ⟨rfl, hi2, hl2, hb2⟩
      have HB2 : Hid (Below w1.heap.size w1 w2 ∧ w1.heap.size < w2.heap.size) := ⟨hb2, hl2⟩
      have HI2 : Hid (Txt w2 w1.heap.size 0 L) := hi2.txt
      clear hi2 hl2 hb2
      go_wp2_with fail
      refine (specAdd_any w1.heap.size 0 L.length L s w2 HI2.out HBL.out HS.out (fun _ => HB2.out.2)).mono ?_
      rintro e w3 ⟨v3, rfl, ⟨gs, cs, rfl, ho3⟩, hb3⟩
      have hM := addL_len L s
      obtain ⟨M, hMM⟩ : ∃ M, addL L s = M := ⟨_, rfl⟩
      obtain ⟨K, hKK⟩ : ∃ K, addK L s = K := ⟨_, rfl⟩
      have HM : Hid (addL L s = M ∧ addK L s = K) := ⟨hMM, hKK⟩
      rw [hMM] at hM ho3
      rw [hMM, hKK]
      clear hMM hKK
      have HML : Hid (M.length ≤ 1048577) := by have := HBL.out; show _ ≤ _; omega
      obtain ⟨ht3, hg3, hl3, hf3⟩ := own_txt ho3
      have HB3 : Hid (Below w1.heap.size w1 w3 ∧ Txt w3 gs 0 M ∧ w2.heap.size ≤ gs ∧ gs < w3.heap.size) := ⟨bjoin HB2.out.1 hb3, ht3, hg3, hl3⟩
      clear ho3 ht3 hg3 hl3 hf3 hb3 HI2 hM
      go_wp2_with fail
      refine (toStr_any ao cap L w3 (HR.out.below HB3.out.1) HBL.out).mono ?_
      rintro e w4 ⟨rfl, hi4, hl4, hb4⟩
      have HB4 : Hid (Below w1.heap.size w1 w4 ∧ Txt w4 gs 0 M ∧ Sts w4 w3.heap.size L.length (lf L) ∧ w3.heap.size < w4.heap.size) := ⟨bjoin HB3.out.1 hb4, HB3.out.2.1.below hb4, hi4, hl4⟩
      have HI4 : Hid (Txt w4 w3.heap.size 0 L) := hi4.txt
      clear hi4 hl4 hb4
      go_wp2_with fail
      refine (implAdd_any w3.heap.size 0 L.length L s w4 HI4.out HBL.out HS.out).mono ?_
      rintro e w5 ⟨v5, rfl, hrow5, hb5⟩
      rw [HM.out.1] at hrow5
      rw [HM.out.2]
      obtain ⟨g4, c4, rfl, ho5⟩ := hrow5
      obtain ⟨ht5, hg5, hl5, hf5⟩ := own_txt ho5
      have hax : Ax w1 w5 L M gs w3.heap.size g4 (lf L) (lf M) := by
        have a1 := HB3.out.2.2
        have a2 := HB4.out.2.2
        have a3 := HB2.out
        exact ⟨bjoin HB4.out.1 hb5, HB4.out.2.1.below hb5, a2.1.below hb5 a2.2, txt_sts ht5 hf5, by omega, by omega, by omega, hl5⟩
      have HAX : Hid (Ax w1 w5 L M gs w3.heap.size g4 (lf L) (lf M)) := hax
      clear ht5 hg5 hl5 hf5 ho5 hb5 hax HB3 HB4 HI4 HB2
      generalize w3.heap.size = g3 at *
      go_wp2_with fail
      refine (eqStr_same (some ⟨g4, 0, none⟩) (some ⟨gs, 0, none⟩) c4 cs M w5 HAX.out.im.txt.rd HAX.out.sp.rd HML.out).mono ?_
      rintro e w6 ⟨rfl, hb6⟩
      have HA6 : Hid (Ax w1 w6 L M gs g3 g4 (lf L) (lf M)) := HAX.out.call hb6
      clear hb6 HAX
      go_wp2_with fail
      refine (toStr_any ao cap L w6 (HR.out.below HA6.out.below) HBL.out).mono ?_
      rintro e w7 ⟨rfl, hi7, hl7, hb7⟩
      have HA7 : Hid (Ax w1 w7 L M gs g3 g4 (lf L) (lf M)) := HA6.out.call hb7
      have HI7 : Hid (Txt w7 w6.heap.size 0 L) := hi7.txt
      clear hi7 hl7 hb7 HA6
      go_wp2_with fail
      refine (eqStr_same (some ⟨g3, 0, none⟩) (some ⟨w6.heap.size, 0, none⟩) L.length L.length L w7 HA7.out.xw.txt.rd HI7.out.rd (by have := HBL.out; omega)).mono ?_
      rintro e w8 ⟨rfl, hb8⟩
      have HA8 : Hid (Ax w1 w8 L M gs g3 g4 (lf L) (lf M)) := HA7.out.call hb8
      clear hb8 HA7 HI7
      go_wp2_with fail
      refine (markStr_any g3 L.length L.length (lf L) w8 HA8.out.xw (by have := HA8.out.l2; have := HA8.out.l3; omega) (by have := HBL.out; omega)).mono ?_
      rintro e w9 ⟨rfl, ht9, hi9⟩
      have HA9 : Hid (Ax w1 w9 L M gs g3 g4 (fun j => mkT (1 + j)) (lf M)) := HA8.out.markX ht9 hi9
      clear ht9 hi9 HA8
      go_wp2_with fail
      refine (eqStr_same (some ⟨g4, 0, none⟩) (some ⟨gs, 0, none⟩) c4 cs M w9 HA9.out.im.txt.rd HA9.out.sp.rd HML.out).mono ?_
      rintro e w10 ⟨rfl, hb10⟩
      have HA10 : Hid (Ax w1 w10 L M gs g3 g4 (fun j => mkT (1 + j)) (lf M)) := HA9.out.call hb10
      clear hb10 HA9
      go_wp2_with fail
      refine (markStr_any g4 M.length c4 (lf M) w10 HA10.out.im HA10.out.l3 HML.out).mono ?_
      rintro e w11 ⟨rfl, ht11, hi11⟩
      have HA11 : Hid (Ax w1 w11 L M gs g3 g4 (fun j => mkT (1 + j)) (fun j => mkT (1 + j))) := HA10.out.markI ht11 hi11
      clear ht11 hi11 HA10
      go_wp2_with fail
      refine (heldStr_any g4 M.length c4 w11 HA11.out.im HA11.out.l3 HML.out).mono ?_
      rintro e w12 ⟨rfl, hb12⟩
      have HA12 : Hid (Ax w1 w12 L M gs g3 g4 (fun j => mkT (1 + j)) (fun j => mkT (1 + j))) := HA11.out.call hb12
      clear hb12 HA11
      go_wp2_with fail
      refine (toStr_any ao cap L w12 (HR.out.below HA12.out.below) HBL.out).mono ?_
      rintro e w13 ⟨rfl, hi13, hl13, hb13⟩
      have HA13 : Hid (Ax w1 w13 L M gs g3 g4 (fun j => mkT (1 + j)) (fun j => mkT (1 + j))) := HA12.out.call hb13
      have HI13 : Hid (Txt w13 w12.heap.size 0 L) := hi13.txt
      clear hi13 hl13 hb13 HA12
      go_wp2_with fail
      refine (implAdd_any w12.heap.size 0 L.length L s w13 HI13.out HBL.out HS.out).mono ?_
      rintro e w14 ⟨v14, rfl, hrow14, hb14⟩
      rw [HM.out.1] at hrow14
      rw [HM.out.2]
      obtain ⟨g5, c5, rfl, ho14⟩ := hrow14
      have HA14 : Hid (Ax w1 w14 L M gs g3 g4 (fun j => mkT (1 + j)) (fun j => mkT (1 + j))) := HA13.out.call hb14
      have HI14 : Hid (Txt w14 g5 0 M) := (own_txt ho14).1
      clear hb14 ho14 HA13 HI13
      go_wp2_with fail
      refine (eqStr_same (some ⟨g5, 0, none⟩) (some ⟨gs, 0, none⟩) c5 cs M w14 HI14.out.rd HA14.out.sp.rd HML.out).mono ?_
      rintro e w15 ⟨rfl, hb15⟩
      have HA15 : Hid (Ax w1 w15 L M gs g3 g4 (fun j => mkT (1 + j)) (fun j => mkT (1 + j))) := HA14.out.call hb15
      clear hb15 HA14 HI14
      go_wp2_with fail
      refine (heldStr_any g4 M.length c4 w15 HA15.out.im HA15.out.l3 HML.out).mono ?_
      rintro e w16 ⟨rfl, hb16⟩
      have HB16 : Hid (Below w1.heap.size w1 w16) := bjoin HA15.out.below hb16
      clear hb16 HA15
      go_wp2_with fail
      go_ret
      exact ⟨rfl, HB16.out⟩
    · have e : y = -1 := by omega
      subst e
      clear hyl
      go_wp2_with fail
      go_ret
      exact ⟨rfl, Below.refl _ _⟩
  · go_enter Try.func6, Try.ntmps6
    go_wp2_with fail
    go_ret
    exact ⟨rfl, Below.refl _ _⟩
end Go.Proofs.Ytikedjdjfncgkab
