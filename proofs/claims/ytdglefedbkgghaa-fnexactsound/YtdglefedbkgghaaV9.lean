/-
  At every system on heaps the program's Sound answers as the specification's (nothing is found by the audit, and the words of all blocks, with three for each, are all there are), and writes nothing into it: the law FnExactSound returns true and its argument reads as before. No condition.
  (Ahead of it, in this text: The law FnExactSound, walked.)
-/
import Derived.Test.YtdglefedbkgghaaV3
import Derived.Test.YtdglefedbkgghaaV7
import Derived.Deep.RegionHeld3
import Derived.Test.YtdglefedbkgghaaV8
import Derived.OpenShut
import Derived.ChangeOld
namespace Go.Proofs.Ytdglefedbkgghaa.fnExactSound
open Go.RowKit Atom
open Go.Proofs.Ytdglefedbkgghaa.Code
set_option linter.unusedVariables false

set_option maxHeartbeats 4000000 in
set_option maxRecDepth 100000 in
theorem walk (p : Hp) (h : Hw) (w : World) (hr : HpR w p h) (hm : HpM p h) :
    Calls Try.prog 3 #[hpV p h] w fun e w' => e = .returned (.bool true) ∧ Below w.heap.size w w' := by
  have KSZ : Hid (∀ wc, Below w.heap.size w wc → Calls Try.prog 5 #[hpV p h, .int .i64 1048576] wc fun e w' => (∃ r : Int, e = .returned (.int .i64 r) ∧ (0 ≤ r → HpS p)) ∧ Below wc.heap.size wc w') := fun wc hb => szHeaps_any p h wc (hr.below hb) hm
  have KTO : Hid (HpS p → ∀ wc, Below w.heap.size w wc → Calls Try.prog 7 #[hpV p h] wc fun e w' => ∃ g : Hw, e = .returned (hpV p g) ∧ (g.rc = p.N ∧ HpR w' p g) ∧ Below wc.heap.size wc w') := fun hs wc hb => toHeaps_any p h wc (hr.below hb) hs
  have KSP : Hid (HpS p → ∀ wc (g : Hw), g.rc = p.N → HpR wc p g → Calls Try.prog 6 #[hpV p g] wc fun e w' => e = .returned (.bool (soundB p.f p.N)) ∧ Below wc.heap.size wc w') := fun hs wc g hrc hg => specSound_any p g wc hg.arena hs.n
  have KIM : Hid (HpS p → ∀ wc (g : Hw), g.rc = p.N → HpR wc p g → Calls Try.prog 8 #[hpV p g] wc fun e w' => e = .returned (.bool (soundB p.f p.N)) ∧ Below wc.heap.size wc w') := fun hs wc g hrc hg => implSound_any p g wc hg.arena hs.n (by rw [hrc]; exact Nat.le_refl _)
  have KEQ : Hid (HpS p → ∀ wc (g h' : Hw), HpR wc p g → HpR wc p h' → Calls Try.prog 9 #[hpV p g, hpV p h'] wc fun e w' => e = .returned (.bool true) ∧ Below wc.heap.size wc w') := fun hs wc g h' h1 h2 => eqHeaps_same p g h' wc h1 h2 ⟨hm.sm, hm.c1, hm.t1, hm.ts, hm.n1, hm.e1, hm.es, hm.o1⟩ hs
  obtain ⟨P, hPP⟩ : ∃ P, P = p := ⟨_, rfl⟩
  rw [← hPP] at KSZ KTO KSP KIM KEQ
  obtain ⟨code, atoms, N, f, cells, next, out, room⟩ := p
  obtain ⟨ca, cc, ta, tc, ra, rc, ea, ec, oa, oc⟩ := h
  have HPN : Hid (P.N = N) := by show _ = _; rw [hPP]
  have KSZ' : Hid (∀ wc, Below w.heap.size w wc → Calls Try.prog 5 #[.agg #[.slice ca code.length cc, .slice ta atoms.length tc, .slice ra N rc, .slice ea cells.length ec, .int .i64 next, .slice oa out.length oc, .int .i64 room], .int .i64 1048576] wc fun e w' => (∃ r : Int, e = .returned (.int .i64 r) ∧ (0 ≤ r → HpS P)) ∧ Below wc.heap.size wc w') := by rw [hPP] at KSZ ⊢; exact KSZ
  have KTO' : Hid (HpS P → ∀ wc, Below w.heap.size w wc → Calls Try.prog 7 #[.agg #[.slice ca code.length cc, .slice ta atoms.length tc, .slice ra N rc, .slice ea cells.length ec, .int .i64 next, .slice oa out.length oc, .int .i64 room]] wc fun e w' => ∃ g : Hw, e = .returned (.agg #[.slice g.ca code.length g.cc, .slice g.ta atoms.length g.tc, .slice g.ra N g.rc, .slice g.ea cells.length g.ec, .int .i64 next, .slice g.oa out.length g.oc, .int .i64 room]) ∧ (g.rc = N ∧ HpR w' P g) ∧ Below wc.heap.size wc w') := by rw [hPP] at KTO ⊢; exact KTO
  have KSP' : Hid (HpS P → ∀ wc (g : Hw), g.rc = N → HpR wc P g → Calls Try.prog 6 #[.agg #[.slice g.ca code.length g.cc, .slice g.ta atoms.length g.tc, .slice g.ra N g.rc, .slice g.ea cells.length g.ec, .int .i64 next, .slice g.oa out.length g.oc, .int .i64 room]] wc fun e w' => e = .returned (.bool (soundB P.f P.N)) ∧ Below wc.heap.size wc w') := by rw [hPP] at KSP ⊢; exact KSP
  have KIM' : Hid (HpS P → ∀ wc (g : Hw), g.rc = N → HpR wc P g → Calls Try.prog 8 #[.agg #[.slice g.ca code.length g.cc, .slice g.ta atoms.length g.tc, .slice g.ra N g.rc, .slice g.ea cells.length g.ec, .int .i64 next, .slice g.oa out.length g.oc, .int .i64 room]] wc fun e w' => e = .returned (.bool (soundB P.f P.N)) ∧ Below wc.heap.size wc w') := by rw [hPP] at KIM ⊢; exact KIM
  have KEQ' : Hid (HpS P → ∀ wc (g h' : Hw), HpR wc P g → HpR wc P h' → Calls Try.prog 9 #[.agg #[.slice g.ca code.length g.cc, .slice g.ta atoms.length g.tc, .slice g.ra N g.rc, .slice g.ea cells.length g.ec, .int .i64 next, .slice g.oa out.length g.oc, .int .i64 room], .agg #[.slice h'.ca code.length h'.cc, .slice h'.ta atoms.length h'.tc, .slice h'.ra N h'.rc, .slice h'.ea cells.length h'.ec, .int .i64 next, .slice h'.oa out.length h'.oc, .int .i64 room]] wc fun e w' => e = .returned (.bool true) ∧ Below wc.heap.size wc w') := by rw [hPP] at KEQ ⊢; exact KEQ
  obtain ⟨w0, hw0⟩ : ∃ w0, w0 = w.alloc (.cells #[.slice ca code.length cc, .slice ta atoms.length tc, .slice ra N rc, .slice ea cells.length ec, .int .i64 next, .slice oa out.length oc, .int .i64 room] 30) := ⟨_, rfl⟩
  have hb0 : Below w.heap.size w w0 := by rw [hw0]; exact (Below.refl _ _).alloc (Nat.le_refl _) _
  have HB0 : Hid (Below w.heap.size w w0) := hb0
  have q0 : ∀ x, w0.cell? ⟨w.heap.size, x, none⟩ = (#[.slice ca code.length cc, .slice ta atoms.length tc, .slice ra N rc, .slice ea cells.length ec, .int .i64 next, .slice oa out.length oc, .int .i64 room] : Array Value)[x]? := fun x => by rw [hw0, World.cell?_alloc_new]
  have HQ : Hid (∀ wc, Below w0.heap.size w0 wc → wc.cell? ⟨w.heap.size, 0, none⟩ = some (.slice ca code.length cc) ∧ wc.cell? ⟨w.heap.size, 1, none⟩ = some (.slice ta atoms.length tc) ∧ wc.cell? ⟨w.heap.size, 2, none⟩ = some (.slice ra N rc) ∧ wc.cell? ⟨w.heap.size, 3, none⟩ = some (.slice ea cells.length ec) ∧ wc.cell? ⟨w.heap.size, 4, none⟩ = some (.int .i64 next) ∧ wc.cell? ⟨w.heap.size, 5, none⟩ = some (.slice oa out.length oc) ∧ wc.cell? ⟨w.heap.size, 6, none⟩ = some (.int .i64 room)) := fun wc hb => ⟨keepA hb (q0 0), keepA hb (q0 1), keepA hb (q0 2), keepA hb (q0 3), keepA hb (q0 4), keepA hb (q0 5), keepA hb (q0 6)⟩
  have HW : Hid (∀ wc, Below w0.heap.size w0 wc → Below w.heap.size w wc) := fun wc hb => HB0.out.trans (hb.mono HB0.out.size)
  clear hr hm KSZ KTO KSP KIM KEQ hPP hb0 q0
  go_enter Try.func3, Try.ntmps3
  go_wp2_with (go_at_call 5; fail)
  rw [← hw0]
  clear hw0
  refine (KSZ'.out w0 HB0.out).mono ?_
  rintro e w1 ⟨⟨r, rfl, hr1⟩, hb1⟩
  have HB1 : Hid (Below w0.heap.size w0 w1) := hb1
  have HR1 : Hid (0 ≤ r → HpS P) := hr1
  obtain ⟨d0, d1, d2, d3, d4, d5, d6⟩ := HQ.out w1 hb1
  clear hb1 hr1
  by_cases hneg : r < 0
  · go_wp2_with fail
    go_ret
    exact ⟨rfl, HW.out _ HB1.out⟩
  have HS : Hid (HpS P) := HR1.out (by omega)
  go_wp2_with (go_at_call 7; fail)
  refine (KTO'.out HS.out w1 (HW.out _ HB1.out)).mono ?_
  rintro e w2 ⟨g2, rfl, ⟨hrc2, hr2⟩, hb2⟩
  have HB2 : Hid (Below w0.heap.size w0 w2) := HB1.out.trans (hb2.mono HB1.out.size)
  have HR2 : Hid (g2.rc = N ∧ HpR w2 P g2) := ⟨hrc2, hr2⟩
  clear hb2 hr2 hrc2 d0 d1 d2 d3 d4 d5 d6
  go_wp2_with (go_at_call 6; fail)
  refine (KSP'.out HS.out w2 g2 HR2.out.1 HR2.out.2).mono ?_
  rintro e w3 ⟨he, hb3⟩
  have HB3 : Hid (Below w0.heap.size w0 w3) := HB2.out.trans (hb3.mono HB2.out.size)
  obtain ⟨bb, hbb⟩ : ∃ bb, bb = soundB P.f P.N := ⟨_, rfl⟩
  have HBB : Hid (bb = soundB P.f P.N) := hbb
  rw [← hbb] at he
  subst he
  clear hb3 hbb
  obtain ⟨d0, d1, d2, d3, d4, d5, d6⟩ := HQ.out w3 HB3.out
  go_wp2_with (go_at_call 7; fail)
  refine (KTO'.out HS.out w3 (HW.out _ HB3.out)).mono ?_
  rintro e w4 ⟨g4, rfl, ⟨hrc4, hr4⟩, hb4⟩
  have HB4 : Hid (Below w0.heap.size w0 w4) := HB3.out.trans (hb4.mono HB3.out.size)
  obtain ⟨ca4, cc4, ta4, tc4, ra4, rc4, ea4, ec4, oa4, oc4⟩ := g4
  obtain ⟨w5, hw5⟩ : ∃ w5, w5 = w4.alloc (.cells #[.slice ca4 code.length cc4, .slice ta4 atoms.length tc4, .slice ra4 N rc4, .slice ea4 cells.length ec4, .int .i64 next, .slice oa4 out.length oc4, .int .i64 room] 38) := ⟨_, rfl⟩
  have hb5 : Below w4.heap.size w4 w5 := by rw [hw5]; exact (Below.refl _ _).alloc (Nat.le_refl _) _
  have HB5 : Hid (Below w0.heap.size w0 w5) := HB4.out.trans (hb5.mono HB4.out.size)
  have HR5 : Hid (rc4 = N ∧ HpR w5 P ⟨ca4, cc4, ta4, tc4, ra4, rc4, ea4, ec4, oa4, oc4⟩) := ⟨hrc4, hr4.below hb5⟩
  have q5 : ∀ x, w5.cell? ⟨w4.heap.size, x, none⟩ = (#[.slice ca4 code.length cc4, .slice ta4 atoms.length tc4, .slice ra4 N rc4, .slice ea4 cells.length ec4, .int .i64 next, .slice oa4 out.length oc4, .int .i64 room] : Array Value)[x]? := fun x => by rw [hw5, World.cell?_alloc_new]
  have HQ5 : Hid (∀ wc, Below w5.heap.size w5 wc → wc.cell? ⟨w4.heap.size, 0, none⟩ = some (.slice ca4 code.length cc4) ∧ wc.cell? ⟨w4.heap.size, 1, none⟩ = some (.slice ta4 atoms.length tc4) ∧ wc.cell? ⟨w4.heap.size, 2, none⟩ = some (.slice ra4 N rc4) ∧ wc.cell? ⟨w4.heap.size, 3, none⟩ = some (.slice ea4 cells.length ec4) ∧ wc.cell? ⟨w4.heap.size, 4, none⟩ = some (.int .i64 next) ∧ wc.cell? ⟨w4.heap.size, 5, none⟩ = some (.slice oa4 out.length oc4) ∧ wc.cell? ⟨w4.heap.size, 6, none⟩ = some (.int .i64 room)) := fun wc hb => ⟨keepA hb (q5 0), keepA hb (q5 1), keepA hb (q5 2), keepA hb (q5 3), keepA hb (q5 4), keepA hb (q5 5), keepA hb (q5 6)⟩
  clear hb4 hr4 hrc4 d0 d1 d2 d3 d4 d5 d6 hb5 q5
  go_wp2_with (go_at_call 8; fail)
  rw [← hw5]
  clear hw5
  refine (KIM'.out HS.out w5 ⟨ca4, cc4, ta4, tc4, ra4, rc4, ea4, ec4, oa4, oc4⟩ HR5.out.1 HR5.out.2).mono ?_
  rintro e w6 ⟨he, hb6⟩
  rw [← HBB.out] at he
  subst he
  have HB6 : Hid (Below w0.heap.size w0 w6) := HB5.out.trans (hb6.mono HB5.out.size)
  have HR6 : Hid (HpR w6.drew P ⟨ca4, cc4, ta4, tc4, ra4, rc4, ea4, ec4, oa4, oc4⟩) := (HR5.out.2.below hb6).below ((Below.refl _ _).drew)
  obtain ⟨d0, d1, d2, d3, d4, d5, d6⟩ := HQ.out w6 HB6.out
  obtain ⟨f0, f1, f2, f3, f4, f5, f6⟩ := HQ5.out w6 hb6
  have HF6 : Hid (∀ wT, Below w6.drew.heap.size w6.drew wT → wT.cell? ⟨w4.heap.size, 0, none⟩ = some (.slice ca4 code.length cc4) ∧ wT.cell? ⟨w4.heap.size, 1, none⟩ = some (.slice ta4 atoms.length tc4) ∧ wT.cell? ⟨w4.heap.size, 2, none⟩ = some (.slice ra4 N rc4) ∧ wT.cell? ⟨w4.heap.size, 3, none⟩ = some (.slice ea4 cells.length ec4) ∧ wT.cell? ⟨w4.heap.size, 4, none⟩ = some (.int .i64 next) ∧ wT.cell? ⟨w4.heap.size, 5, none⟩ = some (.slice oa4 out.length oc4) ∧ wT.cell? ⟨w4.heap.size, 6, none⟩ = some (.int .i64 room) ∧ wT.cell? ⟨w.heap.size, 0, none⟩ = some (.slice ca code.length cc) ∧ wT.cell? ⟨w.heap.size, 1, none⟩ = some (.slice ta atoms.length tc) ∧ wT.cell? ⟨w.heap.size, 2, none⟩ = some (.slice ra N rc) ∧ wT.cell? ⟨w.heap.size, 3, none⟩ = some (.slice ea cells.length ec) ∧ wT.cell? ⟨w.heap.size, 4, none⟩ = some (.int .i64 next) ∧ wT.cell? ⟨w.heap.size, 5, none⟩ = some (.slice oa out.length oc) ∧ wT.cell? ⟨w.heap.size, 6, none⟩ = some (.int .i64 room)) := fun wT hb => by
    obtain ⟨a0, a1, a2, a3, a4, a5, a6⟩ := HQ5.out wT (hb6.drew.trans (hb.mono hb6.size))
    obtain ⟨b0, b1, b2, b3, b4, b5, b6⟩ := HQ.out wT (HB6.out.drew.trans (hb.mono HB6.out.size))
    exact ⟨a0, a1, a2, a3, a4, a5, a6, b0, b1, b2, b3, b4, b5, b6⟩
  clear hb6 d0 d1 d2 d3 d4 d5 d6 f0 f1 f2 f3 f4 f5 f6
  have hne : (bb != bb) = false := by cases bb <;> rfl
  clear HBB
  have HD6 : Hid (Below w.heap.size w w6.drew ∧ Below w0.heap.size w0 w6.drew) := ⟨(HW.out _ HB6.out).drew, HB6.out.drew⟩
  obtain ⟨d0, d1, d2, d3, d4, d5, d6⟩ := HQ.out w6 HB6.out
  go_wp2_with fail
  clear d0 d1 d2 d3 d4 d5 d6
  have S0 := HF6.out w6.drew (Below.refl _ _)
  go_region_held3 (fun wc => wc.cell? ⟨w4.heap.size, 0, none⟩ = some (.slice ca4 code.length cc4) ∧ wc.cell? ⟨w4.heap.size, 1, none⟩ = some (.slice ta4 atoms.length tc4) ∧ wc.cell? ⟨w4.heap.size, 2, none⟩ = some (.slice ra4 N rc4) ∧ wc.cell? ⟨w4.heap.size, 3, none⟩ = some (.slice ea4 cells.length ec4) ∧ wc.cell? ⟨w4.heap.size, 4, none⟩ = some (.int .i64 next) ∧ wc.cell? ⟨w4.heap.size, 5, none⟩ = some (.slice oa4 out.length oc4) ∧ wc.cell? ⟨w4.heap.size, 6, none⟩ = some (.int .i64 room) ∧ wc.cell? ⟨w.heap.size, 0, none⟩ = some (.slice ca code.length cc) ∧ wc.cell? ⟨w.heap.size, 1, none⟩ = some (.slice ta atoms.length tc) ∧ wc.cell? ⟨w.heap.size, 2, none⟩ = some (.slice ra N rc) ∧ wc.cell? ⟨w.heap.size, 3, none⟩ = some (.slice ea cells.length ec) ∧ wc.cell? ⟨w.heap.size, 4, none⟩ = some (.int .i64 next) ∧ wc.cell? ⟨w.heap.size, 5, none⟩ = some (.slice oa out.length oc) ∧ wc.cell? ⟨w.heap.size, 6, none⟩ = some (.int .i64 room)) (first | (refine HF6.out _ ?_; first | exact HK2.out | exact HK2.out.drew | exact HK.out | exact HK.out.drew | exact Below.refl _ _ | exact (Below.refl _ _).drew; done) | go_keep) (first
    | (go_at_call 7; refine (KTO'.out HS.out _ ?_).mono ?_; (focus (first | exact HD6.out.1 | exact HD6.out.1.drew; done)); rintro e wT ⟨gT, rfl, ⟨hrcT, hrT⟩, hbT⟩; have HK : Hid (Below w6.drew.heap.size w6.drew wT) := (by first | exact hbT | exact (Below.refl _ _).drew.trans hbT); have HRT : Hid (HpR wT P gT) := hrT; have HR7 : Hid (HpR wT P ⟨ca4, cc4, ta4, tc4, ra4, rc4, ea4, ec4, oa4, oc4⟩) := HR6.out.below HK.out; clear hrT hrcT hbT)
    | (go_at_call 9; refine (KEQ'.out HS.out _ ⟨ca4, cc4, ta4, tc4, ra4, rc4, ea4, ec4, oa4, oc4⟩ gT ?_ ?_).mono ?_; (focus (first | exact HR7.out | exact HR7.out.below (Below.refl _ _).drew; done)); (focus (first | exact HRT.out | exact HRT.out.below (Below.refl _ _).drew; done)); rintro e wU ⟨rfl, hbU⟩; have HK2 : Hid (Below w6.drew.heap.size w6.drew wU) := (by first | exact HK.out.trans (hbU.mono HK.out.size) | exact HK.out.trans (((Below.refl _ _).drew.trans hbU).mono HK.out.size)); have HKU : Hid (Below w.heap.size w wU) := (by first | exact HD6.out.1.trans ((HK.out.mono HD6.out.1.size).trans (hbU.mono (Nat.le_trans HD6.out.1.size HK.out.size))) | exact HD6.out.1.trans ((HK.out.mono HD6.out.1.size).trans (((Below.refl _ _).drew.trans hbU).mono (Nat.le_trans HD6.out.1.size HK.out.size))))))
  all_goals
    go_wp2_with fail
    go_ret
    exact ⟨rfl, HKU.out⟩
end Go.Proofs.Ytdglefedbkgghaa.fnExactSound
namespace Go.Proofs.Ytdglefedbkgghaa.fnExactSound
open Go.RowKit Go.ChangeShapes Go.WideShapes Go.ChangeAt
set_option linter.unusedVariables false

theorem own : ownKnob Try.prog.godebug = none := by kernel_rfl
theorem laidOut : laidOutB Try.prog = true := by kernel_rfl

set_option maxRecDepth 100000 in
theorem lifted (os : Os) (started : os.Started) (H : Type) (enc : TypeId × Value → H) :
    ReturnsInHanded {} Try.checked os 3 .any (Rows.fnExactSoundSpec.pre6 enc Try.prog Try.f3 Rows.fnExactSoundRow.domain false) (Rows.fnExactSoundSpec.post enc Try.prog Try.f3 false true false false) := by
  refine returnsInHanded_of_change (C := Try.checked) own started (by kernel_rfl) Try.func3
    (ChangeSpec.witness6 (enc := enc) (C := Try.checked) false ⟨#[], #[.agg #[.slice none 0 0, .slice none 0 0, .slice none 0 0, .slice none 0 0, .int .i64 0, .slice none 0 0, .int .i64 0]], []⟩ 8 (by kernel_rfl) (by kernel_rfl) (by kernel_rfl) (by kernel_rfl)) ?_
  intro W base args ds gs before hval0 hW hcnd _
  have hval : ∀ (j : Nat) t v, Try.f3.params[j]? = some t → args[j]? = some v → Value.okWide Try.prog W .any base t v := hval0
  have hW' := hW
  obtain ⟨p, q, hA0, hV, rfl, hfz, hnd⟩ := hW
  have hA : DataW.TrodAll enc Try.prog W 0 (fun _ => true) true Try.f3.params.toList args.toList ds p := hA0
  rw [Try.params3] at hA hval
  obtain ⟨v0, vs0, d0, ds0, p0, q0, hargs, rfl, rfl, h0, r0⟩ := trodAll_cons hA
  obtain ⟨rfl, rfl, rfl⟩ := trodAll_nil r0
  obtain rfl : args = #[v0] := by cases args; simp_all
  obtain ⟨rfl, rfl⟩ := trodVars_none hV
  have k0 := h0
  have lt0 : ∀ x ∈ p0, x.block < W.heap.size := by obtain ⟨m, hm⟩ := k0; exact DataW.trod_lt m _ _ _ hm
  obtain ⟨a, g, rfl, ha, hm⟩ := open_heaps (hval 0 30 v0 rfl rfl) h0
  clear hA0 hval0
  refine (walk a g W ha hm).mono fun e W' ⟨he, bel⟩ => ?_
  subst he
  exact ⟨_, rfl, _, _, _, [], _, [], hW', trodAll_mk1 (shut_bool Try.underlying4 _), (trodAll_cons_mk (Below.trod laidOut (by kernel_rfl) (of_decide_eq_true (by kernel_rfl)) k0 bel lt0) trodAll_mk0), rfl, bel.frame _, fun h => by cases h⟩

theorem over : Rows.fnExactSoundRow.holds Try.pinned (OpenSpec.ofChange Rows.fnExactSoundSpec) :=
  OpenClaim.holds_of_wide 3 Try.f3 rfl rfl rfl rfl rfl rfl rfl ⟨rfl, rfl, rfl, rfl, rfl⟩ rfl rfl rfl rfl rfl (by kernel_rfl) Try.func3 (by kernel_rfl)
    (of_decide_eq_true (by kernel_rfl)) (by unfold Func.isWrapper; first | (rw [if_pos (by decide +kernel)]; kernel_rfl) | (rw [if_neg (by decide +kernel)]; exact ⟨rfl, rfl⟩))
    (fun os started H enc _ => lifted os started H enc)
end Go.Proofs.Ytdglefedbkgghaa.fnExactSound
namespace Go.Proofs.Ytdglefedbkgghaa
theorem fnExactSound_holds : Rows.FnExactSoundSaid := fnExactSound.over
#print axioms fnExactSound_holds
end Go.Proofs.Ytdglefedbkgghaa
