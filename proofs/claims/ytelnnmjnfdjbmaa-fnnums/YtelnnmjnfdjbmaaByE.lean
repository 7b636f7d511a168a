/-
  What the program's PutNum answers, and what the law FnExactPutNum does.
-/
import Derived.Test.YtelnnmjnfdjbmaaByD
namespace Go.Proofs.Ytelnnmjnfdjbmaa.By
open Go.RowKit
set_option linter.unusedVariables false

theorem nsAt_one (w : World) (x : Int) (t : TypeId) : NsAt (w.alloc (.cells #[.int .i64 x] t)) w.heap.size [x] := by
  intro j hj
  have : j = 0 := by simpa using hj
  subst this
  rw [World.cell?_alloc_new]; rfl
theorem numsB_one (n : Int) : numsB [n] = numB n := by simp [numsB]

set_option maxHeartbeats 1000000 in
theorem implPut_any (b o cap : Nat) (L : List UInt8) (n : Int) (w : World) (hr : BAt w b o L) (hN : L.length ≤ 1048590) :
    Calls Try.prog 8 #[.slice (some ⟨b, o, none⟩) L.length cap, .int .i64 n] w fun e w' => ∃ g c, e = .returned (.slice (some ⟨g, 0, none⟩) (L ++ numB n).length c) ∧ OwB w' w.heap.size (.slice (some ⟨g, 0, none⟩) (L ++ numB n).length c) (L ++ numB n) ∧ Below w.heap.size w w' := by
  have HR : Hid (BAt w b o L) := hr
  obtain ⟨M, hMM⟩ : ∃ M, L ++ numB n = M := ⟨_, rfl⟩
  have HM : Hid (L ++ numB n = M) := hMM
  rw [hMM]
  clear hr hMM
  go_enter Try.func8, Try.ntmps8
  go_wp2_with fail
  refine (cloneB_any b o cap L w HR.out hN).mono ?_
  rintro e w1 ⟨g1, c1, rfl, ho1, hb1⟩
  have HO1 : Hid (OwB (w1.alloc (.cells #[.int .i64 n] 3)) w.heap.size (.slice (some ⟨g1, 0, none⟩) L.length c1) L) := ho1.below ((Below.refl _ _).alloc (Nat.le_refl _) _)
  have HB1 : Hid (Below w.heap.size w (w1.alloc (.cells #[.int .i64 n] 3))) := hb1.alloc hb1.size _
  have HG1 : Hid (g1 < w1.heap.size) := ho1.at.2.2.1
  clear ho1 hb1
  go_wp2_with fail
  refine (putNums_any w.heap.size w1.heap.size 1 (.slice (some ⟨g1, 0, none⟩) L.length c1) L [n] _ HO1.out (by rw [World.size_alloc]; have := HB1.out.size; rw [World.size_alloc] at this; omega) (nsAt_one w1 n 3) (by simp only [Value.ownBlock]; intro e; injection e with e; have := HG1.out; omega) (by rw [World.size_alloc]; omega) (by simp; omega)).mono ?_
  rintro e w2 ⟨v2, rfl, ho2, hn2, hb2⟩
  rw [numsB_one, HM.out] at ho2
  obtain ⟨g2, c2, rfl⟩ := ho2.some (fun e => by have := hn2 e; cases this)
  have HO2 : Hid (OwB w2 w.heap.size (.slice (some ⟨g2, 0, none⟩) M.length c2) M) := ho2
  have HB2 : Hid (Below w.heap.size w w2) := HB1.out.trans hb2
  clear ho2 hn2 hb2
  go_wp2_with fail
  go_ret
  exact ⟨g2, c2, rfl, HO2.out, HB2.out⟩

/-- What the law has in hand: the specification's bytes at gs, the argument's copy at g3, the program's bytes at g4. -/
structure Ax (w wx : World) (N : Nat) (M : List UInt8) (gs g3 g4 : Nat) (F3 F4 : Nat → Int) : Prop where
  below : Below w.heap.size w wx
  sp : BAt wx gs 0 M
  xw : Bys wx g3 N F3
  im : Bys wx g4 M.length F4
  l0 : w.heap.size ≤ gs
  l1 : gs < g3
  l2 : g3 < g4
  l3 : g4 < wx.heap.size
theorem Ax.call {w wx wy : World} {N : Nat} {M : List UInt8} {gs g3 g4 : Nat} {F3 F4 : Nat → Int} (s : Ax w wx N M gs g3 g4 F3 F4) (hb : Below wx.heap.size wx wy) : Ax w wy N M gs g3 g4 F3 F4 := by
  have a0 := s.l0
  have a1 := s.l1
  have a2 := s.l2
  have a3 := s.l3
  exact ⟨join8 s.below hb, s.sp.below hb, s.xw.below hb (by omega), s.im.below hb (by omega), a0, a1, a2, Nat.lt_of_lt_of_le a3 hb.size⟩
theorem Ax.markX {w wx wy : World} {N : Nat} {M : List UInt8} {gs g3 g4 : Nat} {F3 F4 G : Nat → Int} (s : Ax w wx N M gs g3 g4 F3 F4) (ht : Turn g3 wx wy) (hi : Bys wy g3 N G) : Ax w wy N M gs g3 g4 G F4 := by
  have a0 := s.l0
  have a1 := s.l1
  have a2 := s.l2
  have a3 := s.l3
  exact ⟨Turn.below s.below s.below.size ht (by omega), s.sp.turn ht (by omega), hi, s.im.turn ht (by omega) (by omega), a0, a1, a2, Nat.lt_of_lt_of_le a3 ht.size⟩
theorem Ax.markI {w wx wy : World} {N : Nat} {M : List UInt8} {gs g3 g4 : Nat} {F3 F4 G : Nat → Int} (s : Ax w wx N M gs g3 g4 F3 F4) (ht : Turn g4 wx wy) (hi : Bys wy g4 M.length G) : Ax w wy N M gs g3 g4 F3 G := by
  have a0 := s.l0
  have a1 := s.l1
  have a2 := s.l2
  have a3 := s.l3
  exact ⟨Turn.below s.below s.below.size ht (by omega), s.sp.turn ht (by omega), s.xw.turn ht (by omega) (by omega), hi, a0, a1, a2, Nat.lt_of_lt_of_le a3 ht.size⟩

set_option maxHeartbeats 2000000 in
set_option maxRecDepth 100000 in
theorem put_law (ao : Option Addr) (cap : Nat) (L : List UInt8) (n : Int) (w : World) (hr : RdB w ao L) (hN : L.length ≤ maxLen) :
    Calls Try.prog 4 #[.slice ao L.length cap, .int .i64 n] w fun e w' => e = .returned (.bool true) ∧ Below w.heap.size w w' := by
  have HR : Hid (RdB w ao L) := hr
  clear hr
  unfold maxLen at hN
  by_cases hbig : 1048576 < L.length
  · go_enter Try.func4, Try.ntmps4
    go_wp2_with fail
    go_ret
    exact ⟨rfl, Below.refl _ _⟩
  · have HBL : Hid (L.length ≤ 1048576) := by show _ ≤ _; omega
    obtain ⟨M, hMM⟩ : ∃ M, L ++ numB n = M := ⟨_, rfl⟩
    have HM : Hid (L ++ numB n = M) := hMM
    have HML : Hid (M.length ≤ 1048590) := by have := num_len n; show _ ≤ _; rw [← hMM, List.length_append]; omega
    clear hMM
    go_enter Try.func4, Try.ntmps4
    go_wp2_with fail
    refine (toB_any ao cap L w HR.out HBL.out).mono ?_
    rintro e w1 ⟨rfl, hi1, hl1, hb1⟩
    have HI1 : Hid (BAt w1 w.heap.size 0 L) := hi1.at
    have HB1 : Hid (Below w.heap.size w w1 ∧ w.heap.size < w1.heap.size) := ⟨hb1, hl1⟩
    clear hi1 hl1 hb1
    go_wp2_with fail
    refine (specPut_any w.heap.size 0 L.length L n w1 HI1.out (by have := HBL.out; omega)).mono ?_
    rintro e w2 ⟨gs, cs, rfl, ho2, hb2⟩
    rw [HM.out] at ho2 ⊢
    obtain ⟨ha2, hg2, hl2, hf2⟩ := ho2.at
    have HB2 : Hid (Below w.heap.size w w2 ∧ BAt w2 gs 0 M ∧ w.heap.size ≤ gs ∧ gs < w2.heap.size) := ⟨join8 HB1.out.1 hb2, ha2, Nat.le_trans (Nat.le_of_lt HB1.out.2) hg2, hl2⟩
    clear ho2 hb2 ha2 hg2 hl2 hf2 HB1 HI1
    go_wp2_with fail
    refine (toB_any ao cap L w2 (HR.out.below HB2.out.1) HBL.out).mono ?_
    rintro e w3 ⟨rfl, hi3, hl3, hb3⟩
    have HI3 : Hid (BAt w3 w2.heap.size 0 L) := hi3.at
    have HB3 : Hid (Below w.heap.size w w3 ∧ BAt w3 gs 0 M ∧ Bys w3 w2.heap.size L.length (bf L) ∧ w2.heap.size < w3.heap.size) := ⟨join8 HB2.out.1 hb3, HB2.out.2.1.below hb3, hi3, hl3⟩
    clear hi3 hl3 hb3
    go_wp2_with fail
    refine (implPut_any w2.heap.size 0 L.length L n w3 HI3.out (by have := HBL.out; omega)).mono ?_
    rintro e w4 ⟨g4, c4, rfl, ho4, hb4⟩
    rw [HM.out] at ho4 ⊢
    obtain ⟨ha4, hg4, hl4, hf4⟩ := ho4.at
    have hax : Ax w w4 L.length M gs w2.heap.size g4 (bf L) (bf M) := by
      have a1 := HB2.out.2.2
      have a2 := HB3.out.2.2
      exact ⟨join8 HB3.out.1 hb4, HB3.out.2.1.below hb4, a2.1.below hb4 a2.2, ha4.bys hf4, by omega, by omega, by omega, hl4⟩
    have HA4 : Hid (Ax w w4 L.length M gs w2.heap.size g4 (bf L) (bf M)) := hax
    clear ho4 hb4 ha4 hg4 hl4 hf4 hax HB3 HI3 HB2
    generalize w2.heap.size = g3 at *
    go_wp2_with fail
    refine (eqB_same (some ⟨g4, 0, none⟩) (some ⟨gs, 0, none⟩) c4 cs M w4 HA4.out.im.at.rd HA4.out.sp.rd (by have := HML.out; omega)).mono ?_
    rintro e w5 ⟨rfl, hb5⟩
    have HA5 : Hid (Ax w w5 L.length M gs g3 g4 (bf L) (bf M)) := HA4.out.call hb5
    clear hb5 HA4
    go_wp2_with fail
    refine (toB_any ao cap L w5 (HR.out.below HA5.out.below) HBL.out).mono ?_
    rintro e w6 ⟨rfl, hi6, hl6, hb6⟩
    have HA6 : Hid (Ax w w6 L.length M gs g3 g4 (bf L) (bf M)) := HA5.out.call hb6
    have HI6 : Hid (BAt w6 w5.heap.size 0 L) := hi6.at
    clear hi6 hl6 hb6 HA5
    go_wp2_with fail
    refine (eqB_same (some ⟨g3, 0, none⟩) (some ⟨w5.heap.size, 0, none⟩) L.length L.length L w6 HA6.out.xw.at.rd HI6.out.rd (by have := HBL.out; omega)).mono ?_
    rintro e w7 ⟨rfl, hb7⟩
    have HA7 : Hid (Ax w w7 L.length M gs g3 g4 (bf L) (bf M)) := HA6.out.call hb7
    clear hb7 HA6 HI6
    go_wp2_with fail
    refine (markB_any g3 L.length L.length (bf L) w7 HA7.out.xw (by have := HA7.out.l2; have := HA7.out.l3; omega) (by have := HBL.out; omega)).mono ?_
    rintro e w8 ⟨rfl, ht8, hi8⟩
    have HA8 : Hid (Ax w w8 L.length M gs g3 g4 mkB (bf M)) := HA7.out.markX ht8 hi8
    clear ht8 hi8 HA7
    go_wp2_with (go_at_call 15; refine (eqB_same (some ⟨g4, 0, none⟩) (some ⟨gs, 0, none⟩) c4 cs M w8 HA8.out.im.at.rd HA8.out.sp.rd (Nat.le_trans HML.out (by decide))).mono ?_; rintro e w9 ⟨rfl, hb9⟩; have HA9 : Hid (Ax w w9 L.length M gs g3 g4 mkB (bf M)) := HA8.out.call hb9; clear hb9)
    clear HA8
    refine (markB_any g4 M.length c4 (bf M) w9 HA9.out.im HA9.out.l3 (by have := HML.out; omega)).mono ?_
    rintro e w11 ⟨rfl, ht11, hi11⟩
    have HA11 : Hid (Ax w w11 L.length M gs g3 g4 mkB mkB) := HA9.out.markI ht11 hi11
    clear ht11 hi11 HA9
    go_wp2_with fail
    refine (heldB_any g4 M.length c4 w11 HA11.out.im (by have := HML.out; omega)).mono ?_
    rintro e w12 ⟨rfl, hb12⟩
    have HA12 : Hid (Ax w w12 L.length M gs g3 g4 mkB mkB) := HA11.out.call hb12
    clear hb12 HA11
    go_wp2_with fail
    refine (toB_any ao cap L w12 (HR.out.below HA12.out.below) HBL.out).mono ?_
    rintro e w13 ⟨rfl, hi13, hl13, hb13⟩
    have HA13 : Hid (Ax w w13 L.length M gs g3 g4 mkB mkB) := HA12.out.call hb13
    have HI13 : Hid (BAt w13 w12.heap.size 0 L) := hi13.at
    clear hi13 hl13 hb13 HA12
    go_wp2_with fail
    refine (implPut_any w12.heap.size 0 L.length L n w13 HI13.out (by have := HBL.out; omega)).mono ?_
    rintro e w14 ⟨g5, c5, rfl, ho14, hb14⟩
    rw [HM.out] at ho14 ⊢
    have HA14 : Hid (Ax w w14 L.length M gs g3 g4 mkB mkB) := HA13.out.call hb14
    have HI14 : Hid (BAt w14 g5 0 M) := ho14.at.1
    clear hb14 ho14 HA13 HI13
    go_wp2_with fail
    refine (eqB_same (some ⟨g5, 0, none⟩) (some ⟨gs, 0, none⟩) c5 cs M w14 HI14.out.rd HA14.out.sp.rd (by have := HML.out; omega)).mono ?_
    rintro e w15 ⟨rfl, hb15⟩
    have HA15 : Hid (Ax w w15 L.length M gs g3 g4 mkB mkB) := HA14.out.call hb15
    clear hb15 HA14 HI14
    go_wp2_with fail
    refine (heldB_any g4 M.length c4 w15 HA15.out.im (by have := HML.out; omega)).mono ?_
    rintro e w16 ⟨rfl, hb16⟩
    have HB16 : Hid (Below w.heap.size w w16) := join8 HA15.out.below hb16
    clear hb16 HA15
    go_wp2_with fail
    go_ret
    exact ⟨rfl, HB16.out⟩
end Go.Proofs.Ytelnnmjnfdjbmaa.By
