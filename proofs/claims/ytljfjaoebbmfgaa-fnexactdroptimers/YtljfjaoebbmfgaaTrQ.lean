/-
  The law FnExactDropTimers, walked.
-/
import Derived.Test.YtljfjaoebbmfgaaTrO
namespace Go.Proofs.Ytljfjaoebbmfgaa.Tr
open Go.RowKit Atom
set_option linter.unusedVariables false

set_option maxHeartbeats 4000000 in
set_option maxRecDepth 100000 in
theorem walkDrop (l : List Sd) (ao : Option Addr) (cap : Nat) (z : Int) (w : World) (hr : RowS w ao l) (hl : l.length ≤ maxLen) :
    Calls Try.prog 5 #[.slice ao l.length cap, .int .i64 z] w fun e w' => e = .returned (.bool true) ∧ Below w.heap.size w w' := by
  have HR : Hid (RowS w ao l) := hr
  have HL : Hid (l.length ≤ maxLen) := hl
  have KSZ : Hid (Calls Try.prog 6 #[.slice ao l.length cap, .int .i64 1048576] w fun e w' => (∃ r : Int, e = .returned (.int .i64 r) ∧ r ≤ 1048576 ∧ (0 ≤ r → l.length ≤ 1048576 ∧ (∀ a ∈ l, StS a.t) ∧ r + (ntXs l : Int) ≤ 1048576)) ∧ Below w.heap.size w w') := szTimerS_any l ao cap 1048576 w hr hl (by omega) (by omega)
  obtain ⟨m0, hm0⟩ : ∃ m0, m0 = l.filter (notB (ofB z)) := ⟨_, rfl⟩
  have HML : Hid (m0.length ≤ l.length) := by
    show _ ≤ _
    rw [hm0]; exact List.length_filter_le _ _
  have HCG : Hid (cG cS m0 ≤ cG cS l) := by
    have h := cG_parts (ofB z) l; rw [← hm0] at h; show _ ≤ _; omega
  have HM0 : Hid (m0 = l.filter (notB (ofB z))) := hm0
  clear hr hl hm0
  go_enter Try.func5, Try.ntmps5
  go_wp2_with (go_at_call 6; fail)
  refine KSZ.out.mono ?_
  rintro e w1 ⟨⟨r, rfl, hr0, hr1⟩, hb1⟩
  have HB1 : Hid (Below w.heap.size w w1) := hb1
  have HR1 : Hid (0 ≤ r → l.length ≤ 1048576 ∧ (∀ a ∈ l, StS a.t) ∧ r + (ntXs l : Int) ≤ 1048576) := hr1
  clear hb1 hr1
  by_cases hneg : r < 0
  · go_wp2_with fail
    go_ret
    exact ⟨rfl, HB1.out⟩
  have HS : Hid (l.length ≤ 1048576 ∧ (∀ a ∈ l, StS a.t) ∧ ntXs l ≤ 1048576) := ⟨(HR1.out (by omega)).1, (HR1.out (by omega)).2.1, by have := (HR1.out (by omega)).2.2; omega⟩
  have HK : Hid (1 + cG cS l ≤ 8999990) := by have := cG_nt l; have := HS.out.2.2; show _ ≤ _; omega
  have HSP : Hid (∀ wc ac cc, RowS wc ac l → Calls Try.prog 15 #[.slice ac l.length cc, .int .i64 z] wc fun e w' => (∃ a1 c1, e = .returned (.slice a1 m0.length c1) ∧ RowS w' a1 m0) ∧ Below wc.heap.size wc w') := fun wc ac cc h => by
    rw [HM0.out]; exact specDrop_any l ac cc z wc h HS.out.1 HS.out.2.1
  have HIM : Hid (∀ wc ac cc bc, GL eltS wc l bc ac → bc.Nodup → Calls Try.prog 16 #[.slice ac l.length cc, .int .i64 z] wc fun e w' => (∃ a1 c1 e1, e = .returned (.slice a1 m0.length c1) ∧ GL eltS w' m0 e1 a1 ∧ e1.Nodup ∧ ∀ b ∈ e1, wc.heap.size ≤ b) ∧ Below wc.heap.size wc w') := fun wc ac cc bc h hn => by
    rw [HM0.out]; exact implDrop_any l bc ac cc z wc h hn HS.out.1 (fun x hx => by have h1 := nt_mem hx; have h2 := HS.out.2.2; unfold ntX at h1; omega)
  have HTO : Hid (∀ wc, Below w.heap.size w wc → Calls Try.prog 8 #[.slice ao l.length cap] wc fun e w' => (∃ (g : Nat) (bs : List Nat), e = .returned (.slice (some ⟨g, 0, none⟩) l.length l.length) ∧ GL eltS w' l bs (some ⟨g, 0, none⟩) ∧ bs.Nodup ∧ ∀ b ∈ bs, wc.heap.size ≤ b) ∧ Below wc.heap.size wc w') := fun wc hb => toTimerS_any l ao cap wc (HR.out.below hb) HS.out.1 HS.out.2.1
  have HLM : Hid (m0.length ≤ maxLen) := by
    have h1 := HML.out
    have h2 := HL.out
    show _ ≤ _; omega
  clear HR1
  go_wp2_with (go_at_call 8; fail)
  refine (HTO.out w1 HB1.out).mono ?_
  rintro e wx ⟨⟨gx, bsx, rfl, hgx, _, _⟩, hbx⟩
  have HBX : Hid (Below w.heap.size w wx ∧ RowS wx (some ⟨gx, 0, none⟩) l) := ⟨HB1.out.trans (hbx.mono HB1.out.size), GL.rowS hgx⟩
  clear hbx hgx hneg hr0
  go_wp2_with (go_at_call 15; fail)
  refine (HSP.out wx _ _ HBX.out.2).mono ?_
  rintro e w2 ⟨⟨s0, d0, rfl, hs0⟩, hb2⟩
  have HB2 : Hid (Below w.heap.size w w2) := HBX.out.1.trans (hb2.mono HBX.out.1.size)
  have HS2 : Hid (RowS w2 s0 m0) := hs0
  clear hb2 hs0 HBX HB1
  go_wp2_with (go_at_call 8; fail)
  refine (HTO.out w2 HB2.out).mono ?_
  rintro e w3 ⟨⟨g3, bs3, rfl, hg3, hn3, hl3⟩, hb3⟩
  have H3 : Hid (GL eltS w3 l bs3 (some ⟨g3, 0, none⟩) ∧ bs3.Nodup ∧ (∀ b ∈ bs3, w2.heap.size ≤ b) ∧ Below w2.heap.size w2 w3) := ⟨hg3, hn3, hl3, hb3⟩
  clear hg3 hn3 hl3 hb3
  go_wp2_with (go_at_call 16; fail)
  refine (HIM.out w3 _ _ bs3 H3.out.1 H3.out.2.1).mono ?_
  rintro e w4 ⟨⟨g0, c0, b0, rfl, hi0, hin, hil⟩, hb4⟩
  have HA4 : Hid (Ax w2 w4 l (some ⟨g3, 0, none⟩) bs3 m0 [] g0 none b0 []) := by
    have h := H3.out
    refine ⟨h.2.2.2.trans (hb4.mono h.2.2.2.size), h.1.below hb4, hi0, GL.nil _ _, fun b hb => ?_, List.nodup_append.2 ⟨h.2.1, by simpa using hin, fun x hx y hy q => ?_⟩⟩
    · rcases List.mem_append.1 hb with hb | hb
      · exact h.2.2.1 b hb
      · exact Nat.le_trans h.2.2.2.size (hil b (by simpa using hb))
    · have k1 := h.1.lt x hx
      have k2 := hil y (by simpa using hy)
      omega
  clear hi0 hin hil hb4 H3
  have HEQ : Hid (∀ wr lx n1' ga ca, Ax w2 wr lx (some ⟨g3, 0, none⟩) bs3 m0 n1' g0 none b0 [] → ga = g0 → Calls Try.prog 10 #[.slice ga m0.length ca, .slice s0 m0.length d0] wr fun e w' => e = .returned (.bool true) ∧ Below wr.heap.size wr w') := fun wr lx n1' ga ca h e => by
    subst e
    exact eqTimerS_same m0 _ _ _ _ wr (GL.rowS h.im0) (RowS.below HS2.out h.below) HLM.out
  go_wp2_with (go_at_call 10; refine (HEQ.out w4 _ _ _ _ HA4.out rfl).mono ?_; rintro e w5 ⟨rfl, hbq⟩; have HA4b : Hid (Ax w2 w5 l (some ⟨g3, 0, none⟩) bs3 m0 [] g0 none b0 []) := HA4.out.call hbq; clear hbq HA4)
  refine (HTO.out w5 (HB2.out.trans (HA4b.out.below.mono HB2.out.size))).mono ?_
  rintro e w6 ⟨⟨g6, bs6, rfl, hg6, _, _⟩, hb6⟩
  have HA6 : Hid (Ax w2 w6 l (some ⟨g3, 0, none⟩) bs3 m0 [] g0 none b0 []) := HA4b.out.call hb6
  have HG6 : Hid (RowS w6 (some ⟨g6, 0, none⟩) l) := GL.rowS hg6
  clear hb6 hg6 HA4b
  go_wp2_with (go_at_call 10; fail)
  refine (eqTimerS_same l _ _ _ _ w6 (GL.rowS HA6.out.x) HG6.out HL.out).mono ?_
  rintro e w7 ⟨rfl, hb7⟩
  have HA7 : Hid (Ax w2 w7 l (some ⟨g3, 0, none⟩) bs3 m0 [] g0 none b0 []) := HA6.out.call hb7
  clear hb7 HA6 HG6
  go_wp2_with (go_at_call 13; fail)
  refine (markTimerS_any l bs3 _ _ 1 w7 HA7.out.x (List.nodup_append.1 HA7.out.nd).1 HL.out (Nat.le_refl _) HK.out).mono ?_
  rintro e w8 ⟨rfl, hg8, ho8⟩
  have HA8 : Hid (Ax w2 w8 (mrG mrS cS l 1) (some ⟨g3, 0, none⟩) bs3 m0 [] g0 none b0 []) := HA7.out.markX hg8 ho8
  clear hg8 ho8 HA7
  obtain ⟨KX, hKX⟩ : ∃ KX : Nat, KX = 1 + cG cS l := ⟨_, rfl⟩
  rw [← hKX]
  clear hKX
  go_wp2_with (go_at_call 10; refine (HEQ.out w8 _ _ _ _ HA8.out rfl).mono ?_; rintro e w9 ⟨rfl, hbq⟩; have HA8b : Hid (Ax w2 w9 (mrG mrS cS l 1) (some ⟨g3, 0, none⟩) bs3 m0 [] g0 none b0 []) := HA8.out.call hbq; clear hbq HA8)
  have HKM : Hid (1 + cG cS m0 ≤ 8999990) := by
    have h1 := HCG.out
    have h2 := HK.out
    show _ ≤ _; omega
  have HND0 : Hid (b0.Nodup) := by
    have h := List.nodup_append.1 (List.nodup_append.1 HA8b.out.nd).2.1
    exact h.1
  obtain ⟨K0, hK0⟩ : ∃ K0 : Nat, K0 = 1 + cG cS m0 := ⟨_, rfl⟩
  have HK0 : Hid (K0 = 1 + cG cS m0) := hK0
  refine (markTimerS_any m0 b0 _ _ 1 w9 HA8b.out.im0 HND0.out HLM.out (Nat.le_refl _) HKM.out).mono ?_
  rintro e w10 ⟨rfl, hg10, ho10⟩
  have HA10 : Hid (Ax w2 w10 (mrG mrS cS l 1) (some ⟨g3, 0, none⟩) bs3 (mrG mrS cS m0 1) [] g0 none b0 []) := HA8b.out.mark0 hg10 ho10
  clear hg10 ho10 HA8b
  rw [← hK0]
  clear hK0
  have HA11 : Hid (Ax w2 w10 (mrG mrS cS l 1) (some ⟨g3, 0, none⟩) bs3 (mrG mrS cS m0 1) [] g0 none b0 []) := HA10.out
  clear HA10
  have HHE : Hid (∀ wr ca, Ax w2 wr (mrG mrS cS l 1) (some ⟨g3, 0, none⟩) bs3 (mrG mrS cS m0 1) [] g0 none b0 [] → Calls Try.prog 14 #[.slice g0 m0.length ca, .int .i64 ((1 : Nat) : Int)] wr fun e w' => e = .returned (.int .i64 (K0 : Int)) ∧ Below wr.heap.size wr w') := fun wr ca h => by
    rw [HK0.out]; exact heldTimerS_any m0 _ _ 1 wr (GL.rowS h.im0) HLM.out (Nat.le_refl _) HKM.out
  go_wp2_with (go_at_call 14; fail)
  refine (HHE.out w10 _ HA11.out).mono ?_
  rintro e w12a ⟨rfl, hbq⟩
  have W12A : Hid (Ax w2 w12a (mrG mrS cS l 1) (some ⟨g3, 0, none⟩) bs3 (mrG mrS cS m0 1) [] g0 none b0 []) := HA11.out.call hbq
  clear hbq HA11
  obtain ⟨w12, hw12⟩ : ∃ w12, w12 = w12a := ⟨_, rfl⟩
  rw [← hw12]
  have W12B : Hid (Ax w2 w12 (mrG mrS cS l 1) (some ⟨g3, 0, none⟩) bs3 (mrG mrS cS m0 1) [] g0 none b0 []) := by rw [hw12]; exact W12A.out
  clear hw12 W12A
  go_wp2_with (go_at_call 8; fail)
  refine (HTO.out w12 (HB2.out.trans (W12B.out.below.mono HB2.out.size))).mono ?_
  rintro e w13 ⟨⟨g13, bs13, rfl, hg13, hn13, _⟩, hb13⟩
  have HA13 : Hid (Ax w2 w13 (mrG mrS cS l 1) (some ⟨g3, 0, none⟩) bs3 (mrG mrS cS m0 1) [] g0 none b0 []) := W12B.out.call hb13
  have HG13 : Hid (GL eltS w13 l bs13 (some ⟨g13, 0, none⟩) ∧ bs13.Nodup) := ⟨hg13, hn13⟩
  clear hb13 hg13 hn13 W12B
  go_wp2_with (go_at_call 16; fail)
  refine (HIM.out w13 _ _ bs13 HG13.out.1 HG13.out.2).mono ?_
  rintro e w14 ⟨⟨p0, q0, f0, rfl, hi0, _, _⟩, hb14⟩
  have HA14 : Hid (Ax w2 w14 (mrG mrS cS l 1) (some ⟨g3, 0, none⟩) bs3 (mrG mrS cS m0 1) [] g0 none b0 []) := HA13.out.call hb14
  have HR14 : Hid (RowS w14 p0 m0) := GL.rowS hi0
  clear hb14 hi0 HA13 HG13
  have HE0 : Hid (∀ ca, Calls Try.prog 10 #[.slice p0 m0.length ca, .slice s0 m0.length d0] w14 fun e w' => e = .returned (.bool true) ∧ Below w14.heap.size w14 w') := fun ca => eqTimerS_same m0 _ _ _ _ w14 HR14.out (RowS.below HS2.out HA14.out.below) HLM.out
  go_wp2_with (go_at_call 10; refine (HE0.out _).mono ?_; rintro e w16 ⟨rfl, hb16⟩; have HA16 : Hid (Ax w2 w16 (mrG mrS cS l 1) (some ⟨g3, 0, none⟩) bs3 (mrG mrS cS m0 1) [] g0 none b0 []) := HA14.out.call hb16; clear hb16 HA14)
  refine (HHE.out w16 _ HA16.out).mono ?_
  rintro e w17a ⟨rfl, hbq⟩
  have W17A : Hid (Ax w2 w17a (mrG mrS cS l 1) (some ⟨g3, 0, none⟩) bs3 (mrG mrS cS m0 1) [] g0 none b0 []) := HA16.out.call hbq
  clear hbq HA16
  obtain ⟨w17, hw17⟩ : ∃ w17, w17 = w17a := ⟨_, rfl⟩
  rw [← hw17]
  have W17B : Hid (Ax w2 w17 (mrG mrS cS l 1) (some ⟨g3, 0, none⟩) bs3 (mrG mrS cS m0 1) [] g0 none b0 []) := by rw [hw17]; exact W17A.out
  clear hw17 W17A
  go_wp2_with fail
  go_ret
  exact ⟨rfl, HB2.out.trans (W17B.out.below.mono HB2.out.size)⟩
end Go.Proofs.Ytljfjaoebbmfgaa.Tr
