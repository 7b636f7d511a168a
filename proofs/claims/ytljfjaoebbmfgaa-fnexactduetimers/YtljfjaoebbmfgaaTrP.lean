/-
  The law FnExactDueTimers, walked.
-/
import Derived.Test.YtljfjaoebbmfgaaTrO
namespace Go.Proofs.Ytljfjaoebbmfgaa.Tr
open Go.RowKit Atom
set_option linter.unusedVariables false

set_option maxHeartbeats 4000000 in
set_option maxRecDepth 100000 in
theorem walkDue (l : List Sd) (ao : Option Addr) (cap : Nat) (z : Int) (w : World) (hr : RowS w ao l) (hl : l.length ≤ maxLen) :
    Calls Try.prog 4 #[.slice ao l.length cap, .int .i64 z] w fun e w' => e = .returned (.bool true) ∧ Below w.heap.size w w' := by
  have HR : Hid (RowS w ao l) := hr
  have HL : Hid (l.length ≤ maxLen) := hl
  have KSZ : Hid (Calls Try.prog 6 #[.slice ao l.length cap, .int .i64 1048576] w fun e w' => (∃ r : Int, e = .returned (.int .i64 r) ∧ r ≤ 1048576 ∧ (0 ≤ r → l.length ≤ 1048576 ∧ (∀ a ∈ l, StS a.t) ∧ r + (ntXs l : Int) ≤ 1048576)) ∧ Below w.heap.size w w') := szTimerS_any l ao cap 1048576 w hr hl (by omega) (by omega)
  obtain ⟨m0, hm0⟩ : ∃ m0, m0 = l.filter (dueB z) := ⟨_, rfl⟩
  obtain ⟨m1, hm1⟩ : ∃ m1, m1 = l.filter (notB (dueB z)) := ⟨_, rfl⟩
  have HML : Hid (m0.length ≤ l.length ∧ m1.length ≤ l.length) := by
    refine ⟨?_, ?_⟩
    · rw [hm0]; exact List.length_filter_le _ _
    · rw [hm1]; exact List.length_filter_le _ _
  have HCG : Hid (cG cS m0 + cG cS m1 = cG cS l) := by
    rw [hm0, hm1]; exact cG_parts _ l
  have HM0 : Hid (m0 = l.filter (dueB z)) := hm0
  have HM1 : Hid (m1 = l.filter (notB (dueB z))) := hm1
  clear hr hl hm0 hm1
  go_enter Try.func4, Try.ntmps4
  go_wp2_with (go_at_call 6; fail)
  refine KSZ.out.mono ?_
  rintro e w1 ⟨⟨r, rfl, hr0, hr1⟩, hb1⟩
  have HB1 : Hid (Below w.heap.size w w1) := hb1
  have HR1 : Hid (0 ≤ r → l.length ≤ 1048576 ∧ (∀ a ∈ l, StS a.t) ∧ r + (ntXs l : Int) ≤ 1048576) := hr1
  clear hb1 hr1
  by_cases hneg : r < 0
  · go_wp2_with fail
    go_ret
    exact ⟨rfl, HB1.out⟩
  have HS : Hid (l.length ≤ 1048576 ∧ (∀ a ∈ l, StS a.t) ∧ ntXs l ≤ 1048576) := ⟨(HR1.out (by omega)).1, (HR1.out (by omega)).2.1, by have := (HR1.out (by omega)).2.2; omega⟩
  have HK : Hid (1 + cG cS l ≤ 8999990) := by have := cG_nt l; have := HS.out.2.2; show _ ≤ _; omega
  have HSP : Hid (∀ wc ac cc, RowS wc ac l → Calls Try.prog 11 #[.slice ac l.length cc, .int .i64 z] wc fun e w' => (∃ a1 c1 a2 c2, e = .returned (.tuple #[.slice a1 m0.length c1, .slice a2 m1.length c2]) ∧ RowS w' a1 m0 ∧ RowS w' a2 m1) ∧ Below wc.heap.size wc w') := fun wc ac cc h => by
    rw [HM0.out, HM1.out]; exact specDue_any l ac cc z wc h HS.out.1 HS.out.2.1
  have HIM : Hid (∀ wc ac cc bc, GL eltS wc l bc ac → bc.Nodup → Calls Try.prog 12 #[.slice ac l.length cc, .int .i64 z] wc fun e w' => (∃ a1 c1 a2 c2 e1 e2, e = .returned (.tuple #[.slice a1 m0.length c1, .slice a2 m1.length c2]) ∧ GL eltS w' m0 e1 a1 ∧ GL eltS w' m1 e2 a2 ∧ (e1 ++ e2).Nodup ∧ ∀ b ∈ e1 ++ e2, wc.heap.size ≤ b) ∧ Below wc.heap.size wc w') := fun wc ac cc bc h hn => by
    rw [HM0.out, HM1.out]; exact implDue_any l bc ac cc z wc h hn HS.out.1 (fun x hx => by have h1 := nt_mem hx; have h2 := HS.out.2.2; unfold ntX at h1; omega)
  have HTO : Hid (∀ wc, Below w.heap.size w wc → Calls Try.prog 8 #[.slice ao l.length cap] wc fun e w' => (∃ (g : Nat) (bs : List Nat), e = .returned (.slice (some ⟨g, 0, none⟩) l.length l.length) ∧ GL eltS w' l bs (some ⟨g, 0, none⟩) ∧ bs.Nodup ∧ ∀ b ∈ bs, wc.heap.size ≤ b) ∧ Below wc.heap.size wc w') := fun wc hb => toTimerS_any l ao cap wc (HR.out.below hb) HS.out.1 HS.out.2.1
  have HLM : Hid (m0.length ≤ maxLen ∧ m1.length ≤ maxLen) := by
    have h1 := HML.out
    have h2 := HL.out
    exact ⟨by omega, by omega⟩
  clear HR1
  go_wp2_with (go_at_call 8; fail)
  refine (HTO.out w1 HB1.out).mono ?_
  rintro e wx ⟨⟨gx, bsx, rfl, hgx, _, _⟩, hbx⟩
  have HBX : Hid (Below w.heap.size w wx ∧ RowS wx (some ⟨gx, 0, none⟩) l) := ⟨HB1.out.trans (hbx.mono HB1.out.size), GL.rowS hgx⟩
  clear hbx hgx hneg hr0
  go_wp2_with (go_at_call 11; fail)
  refine (HSP.out wx _ _ HBX.out.2).mono ?_
  rintro e w2 ⟨⟨s0, d0, s1, d1, rfl, hs0, hs1⟩, hb2⟩
  have HB2 : Hid (Below w.heap.size w w2) := HBX.out.1.trans (hb2.mono HBX.out.1.size)
  have HS2 : Hid (RowS w2 s0 m0 ∧ RowS w2 s1 m1) := ⟨hs0, hs1⟩
  clear hb2 hs0 hs1 HBX HB1
  go_wp2_with (go_at_call 8; fail)
  refine (HTO.out w2 HB2.out).mono ?_
  rintro e w3 ⟨⟨g3, bs3, rfl, hg3, hn3, hl3⟩, hb3⟩
  have H3 : Hid (GL eltS w3 l bs3 (some ⟨g3, 0, none⟩) ∧ bs3.Nodup ∧ (∀ b ∈ bs3, w2.heap.size ≤ b) ∧ Below w2.heap.size w2 w3) := ⟨hg3, hn3, hl3, hb3⟩
  clear hg3 hn3 hl3 hb3
  go_wp2_with (go_at_call 12; fail)
  refine (HIM.out w3 _ _ bs3 H3.out.1 H3.out.2.1).mono ?_
  rintro e w4 ⟨⟨g0, c0, g1, c1, b0, b1, rfl, hi0, hi1, hin, hil⟩, hb4⟩
  have HA4 : Hid (Ax w2 w4 l (some ⟨g3, 0, none⟩) bs3 m0 m1 g0 g1 b0 b1) := by
    have h := H3.out
    refine ⟨h.2.2.2.trans (hb4.mono h.2.2.2.size), h.1.below hb4, hi0, hi1, fun b hb => ?_, List.nodup_append.2 ⟨h.2.1, hin, fun x hx y hy q => ?_⟩⟩
    · rcases List.mem_append.1 hb with hb | hb
      · exact h.2.2.1 b hb
      · exact Nat.le_trans h.2.2.2.size (hil b hb)
    · have k1 := h.1.lt x hx
      have k2 := hil y hy
      omega
  clear hi0 hi1 hin hil hb4 H3
  have HEQ : Hid (∀ wr lx n1' ga ca, Ax w2 wr lx (some ⟨g3, 0, none⟩) bs3 m0 n1' g0 g1 b0 b1 → ga = g0 → Calls Try.prog 10 #[.slice ga m0.length ca, .slice s0 m0.length d0] wr fun e w' => e = .returned (.bool true) ∧ Below wr.heap.size wr w') := fun wr lx n1' ga ca h e => by
    subst e
    exact eqTimerS_same m0 _ _ _ _ wr (GL.rowS h.im0) (RowS.below HS2.out.1 h.below) HLM.out.1
  have HEQ1 : Hid (∀ wr lx n0' ca, Ax w2 wr lx (some ⟨g3, 0, none⟩) bs3 n0' m1 g0 g1 b0 b1 → Calls Try.prog 10 #[.slice g1 m1.length ca, .slice s1 m1.length d1] wr fun e w' => e = .returned (.bool true) ∧ Below wr.heap.size wr w') := fun wr lx n0' ca h =>
    eqTimerS_same m1 _ _ _ _ wr (GL.rowS h.im1) (RowS.below HS2.out.2 h.below) HLM.out.2
  go_wp2_with (go_at_call 10; refine (HEQ.out w4 _ _ _ _ HA4.out rfl).mono ?_; rintro e w5a ⟨rfl, hbq⟩; have HA4a : Hid (Ax w2 w5a l (some ⟨g3, 0, none⟩) bs3 m0 m1 g0 g1 b0 b1) := HA4.out.call hbq; clear hbq HA4; go_wp2_with (go_at_call 10; refine (HEQ1.out w5a _ _ _ HA4a.out).mono ?_; rintro e w5 ⟨rfl, hbq⟩; have HA4b : Hid (Ax w2 w5 l (some ⟨g3, 0, none⟩) bs3 m0 m1 g0 g1 b0 b1) := HA4a.out.call hbq; clear hbq HA4a); skip)
  refine (HTO.out w5 (HB2.out.trans (HA4b.out.below.mono HB2.out.size))).mono ?_
  rintro e w6 ⟨⟨g6, bs6, rfl, hg6, _, _⟩, hb6⟩
  have HA6 : Hid (Ax w2 w6 l (some ⟨g3, 0, none⟩) bs3 m0 m1 g0 g1 b0 b1) := HA4b.out.call hb6
  have HG6 : Hid (RowS w6 (some ⟨g6, 0, none⟩) l) := GL.rowS hg6
  clear hb6 hg6 HA4b
  go_wp2_with (go_at_call 10; fail)
  refine (eqTimerS_same l _ _ _ _ w6 (GL.rowS HA6.out.x) HG6.out HL.out).mono ?_
  rintro e w7 ⟨rfl, hb7⟩
  have HA7 : Hid (Ax w2 w7 l (some ⟨g3, 0, none⟩) bs3 m0 m1 g0 g1 b0 b1) := HA6.out.call hb7
  clear hb7 HA6 HG6
  go_wp2_with (go_at_call 13; fail)
  refine (markTimerS_any l bs3 _ _ 1 w7 HA7.out.x (List.nodup_append.1 HA7.out.nd).1 HL.out (Nat.le_refl _) HK.out).mono ?_
  rintro e w8 ⟨rfl, hg8, ho8⟩
  have HA8 : Hid (Ax w2 w8 (mrG mrS cS l 1) (some ⟨g3, 0, none⟩) bs3 m0 m1 g0 g1 b0 b1) := HA7.out.markX hg8 ho8
  clear hg8 ho8 HA7
  obtain ⟨KX, hKX⟩ : ∃ KX : Nat, KX = 1 + cG cS l := ⟨_, rfl⟩
  rw [← hKX]
  clear hKX
  go_wp2_with (go_at_call 10; refine (HEQ.out w8 _ _ _ _ HA8.out rfl).mono ?_; rintro e w9a ⟨rfl, hbq⟩; have HA8a : Hid (Ax w2 w9a (mrG mrS cS l 1) (some ⟨g3, 0, none⟩) bs3 m0 m1 g0 g1 b0 b1) := HA8.out.call hbq; clear hbq HA8; go_wp2_with (go_at_call 10; refine (HEQ1.out w9a _ _ _ HA8a.out).mono ?_; rintro e w9 ⟨rfl, hbq⟩; have HA8b : Hid (Ax w2 w9 (mrG mrS cS l 1) (some ⟨g3, 0, none⟩) bs3 m0 m1 g0 g1 b0 b1) := HA8a.out.call hbq; clear hbq HA8a); skip)
  have HKM : Hid (1 + cG cS m0 ≤ 8999990 ∧ 1 + cG cS m0 + cG cS m1 ≤ 8999990) := by
    have h1 := HCG.out
    have h2 := HK.out
    exact ⟨by omega, by omega⟩
  have HND0 : Hid (b0.Nodup ∧ b1.Nodup) := by
    have h := List.nodup_append.1 (List.nodup_append.1 HA8b.out.nd).2.1
    exact ⟨h.1, h.2.1⟩
  obtain ⟨K0, hK0⟩ : ∃ K0 : Nat, K0 = 1 + cG cS m0 := ⟨_, rfl⟩
  have HK0 : Hid (K0 = 1 + cG cS m0) := hK0
  refine (markTimerS_any m0 b0 _ _ 1 w9 HA8b.out.im0 HND0.out.1 HLM.out.1 (Nat.le_refl _) HKM.out.1).mono ?_
  rintro e w10 ⟨rfl, hg10, ho10⟩
  have HA10 : Hid (Ax w2 w10 (mrG mrS cS l 1) (some ⟨g3, 0, none⟩) bs3 (mrG mrS cS m0 1) m1 g0 g1 b0 b1) := HA8b.out.mark0 hg10 ho10
  clear hg10 ho10 HA8b
  rw [← hK0]
  clear hK0
  go_wp2_with (go_at_call 13; fail)
  obtain ⟨K1, hK1⟩ : ∃ K1 : Nat, K1 = K0 + cG cS m1 := ⟨_, rfl⟩
  have HK1 : Hid (K1 = K0 + cG cS m1) := hK1
  refine (markTimerS_any m1 b1 _ _ K0 w10 HA10.out.im1 HND0.out.2 HLM.out.2 (by have := HK0.out; omega) (by have := HK0.out; have := HKM.out.2; omega)).mono ?_
  rintro e w11 ⟨rfl, hg11, ho11⟩
  have HA11 : Hid (Ax w2 w11 (mrG mrS cS l 1) (some ⟨g3, 0, none⟩) bs3 (mrG mrS cS m0 1) (mrG mrS cS m1 K0) g0 g1 b0 b1) := HA10.out.mark1 hg11 ho11
  clear hg11 ho11 HA10
  rw [← hK1]
  clear hK1
  have HHE : Hid (∀ wr ca, Ax w2 wr (mrG mrS cS l 1) (some ⟨g3, 0, none⟩) bs3 (mrG mrS cS m0 1) (mrG mrS cS m1 K0) g0 g1 b0 b1 → Calls Try.prog 14 #[.slice g0 m0.length ca, .int .i64 ((1 : Nat) : Int)] wr fun e w' => e = .returned (.int .i64 (K0 : Int)) ∧ Below wr.heap.size wr w') := fun wr ca h => by
    rw [HK0.out]; exact heldTimerS_any m0 _ _ 1 wr (GL.rowS h.im0) HLM.out.1 (Nat.le_refl _) HKM.out.1
  have HHE1 : Hid (∀ wr ca, Ax w2 wr (mrG mrS cS l 1) (some ⟨g3, 0, none⟩) bs3 (mrG mrS cS m0 1) (mrG mrS cS m1 K0) g0 g1 b0 b1 → Calls Try.prog 14 #[.slice g1 m1.length ca, .int .i64 (K0 : Int)] wr fun e w' => e = .returned (.int .i64 (K1 : Int)) ∧ Below wr.heap.size wr w') := fun wr ca h => by
    rw [HK1.out]; exact heldTimerS_any m1 _ _ K0 wr (GL.rowS h.im1) HLM.out.2 (by have := HK0.out; omega) (by have := HK0.out; have := HKM.out.2; omega)
  go_wp2_with (go_at_call 14; fail)
  refine (HHE.out w11 _ HA11.out).mono ?_
  rintro e w12a ⟨rfl, hbq⟩
  have W12A : Hid (Ax w2 w12a (mrG mrS cS l 1) (some ⟨g3, 0, none⟩) bs3 (mrG mrS cS m0 1) (mrG mrS cS m1 K0) g0 g1 b0 b1) := HA11.out.call hbq
  clear hbq HA11
  go_wp2_with (go_at_call 14; fail)
  refine (HHE1.out w12a _ W12A.out).mono ?_
  rintro e w12 ⟨rfl, hbq⟩
  have W12B : Hid (Ax w2 w12 (mrG mrS cS l 1) (some ⟨g3, 0, none⟩) bs3 (mrG mrS cS m0 1) (mrG mrS cS m1 K0) g0 g1 b0 b1) := W12A.out.call hbq
  clear hbq W12A
  go_wp2_with (go_at_call 8; fail)
  refine (HTO.out w12 (HB2.out.trans (W12B.out.below.mono HB2.out.size))).mono ?_
  rintro e w13 ⟨⟨g13, bs13, rfl, hg13, hn13, _⟩, hb13⟩
  have HA13 : Hid (Ax w2 w13 (mrG mrS cS l 1) (some ⟨g3, 0, none⟩) bs3 (mrG mrS cS m0 1) (mrG mrS cS m1 K0) g0 g1 b0 b1) := W12B.out.call hb13
  have HG13 : Hid (GL eltS w13 l bs13 (some ⟨g13, 0, none⟩) ∧ bs13.Nodup) := ⟨hg13, hn13⟩
  clear hb13 hg13 hn13 W12B
  go_wp2_with (go_at_call 12; fail)
  refine (HIM.out w13 _ _ bs13 HG13.out.1 HG13.out.2).mono ?_
  rintro e w14 ⟨⟨p0, q0, p1, q1, f0, f1, rfl, hi0, hi1, _, _⟩, hb14⟩
  have HA14 : Hid (Ax w2 w14 (mrG mrS cS l 1) (some ⟨g3, 0, none⟩) bs3 (mrG mrS cS m0 1) (mrG mrS cS m1 K0) g0 g1 b0 b1) := HA13.out.call hb14
  have HR14 : Hid (RowS w14 p0 m0 ∧ RowS w14 p1 m1) := ⟨GL.rowS hi0, GL.rowS hi1⟩
  clear hb14 hi0 hi1 HA13 HG13
  have HE0 : Hid (∀ ca, Calls Try.prog 10 #[.slice p0 m0.length ca, .slice s0 m0.length d0] w14 fun e w' => e = .returned (.bool true) ∧ Below w14.heap.size w14 w') := fun ca => eqTimerS_same m0 _ _ _ _ w14 HR14.out.1 (RowS.below HS2.out.1 HA14.out.below) HLM.out.1
  go_wp2_with (go_at_call 10; refine (HE0.out _).mono ?_; rintro e w15 ⟨rfl, hb15⟩; have HA15 : Hid (Ax w2 w15 (mrG mrS cS l 1) (some ⟨g3, 0, none⟩) bs3 (mrG mrS cS m0 1) (mrG mrS cS m1 K0) g0 g1 b0 b1 ∧ RowS w15 p1 m1) := ⟨HA14.out.call hb15, HR14.out.2.below hb15⟩; clear hb15 HA14; go_wp2_with (go_at_call 10; refine (eqTimerS_same m1 _ _ _ _ w15 HA15.out.2 (RowS.below HS2.out.2 HA15.out.1.below) HLM.out.2).mono ?_; rintro e w16 ⟨rfl, hb16⟩; have HA16 : Hid (Ax w2 w16 (mrG mrS cS l 1) (some ⟨g3, 0, none⟩) bs3 (mrG mrS cS m0 1) (mrG mrS cS m1 K0) g0 g1 b0 b1) := HA15.out.1.call hb16; clear hb16 HA15); skip)
  refine (HHE.out w16 _ HA16.out).mono ?_
  rintro e w17a ⟨rfl, hbq⟩
  have W17A : Hid (Ax w2 w17a (mrG mrS cS l 1) (some ⟨g3, 0, none⟩) bs3 (mrG mrS cS m0 1) (mrG mrS cS m1 K0) g0 g1 b0 b1) := HA16.out.call hbq
  clear hbq HA16
  go_wp2_with (go_at_call 14; fail)
  refine (HHE1.out w17a _ W17A.out).mono ?_
  rintro e w17 ⟨rfl, hbq⟩
  have W17B : Hid (Ax w2 w17 (mrG mrS cS l 1) (some ⟨g3, 0, none⟩) bs3 (mrG mrS cS m0 1) (mrG mrS cS m1 K0) g0 g1 b0 b1) := W17A.out.call hbq
  clear hbq W17A
  go_wp2_with fail
  go_ret
  exact ⟨rfl, HB2.out.trans (W17B.out.below.mono HB2.out.size)⟩
end Go.Proofs.Ytljfjaoebbmfgaa.Tr
