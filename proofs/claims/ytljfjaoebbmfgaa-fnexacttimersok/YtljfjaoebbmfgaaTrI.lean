/-
  The law FnExactTimersOk, walked.
-/
import Derived.Test.YtljfjaoebbmfgaaTrG
import Derived.Test.YtljfjaoebbmfgaaTrB
namespace Go.Proofs.Ytljfjaoebbmfgaa.Tr
open Go.RowKit Atom
set_option linter.unusedVariables false

set_option maxHeartbeats 1000000 in
set_option maxRecDepth 100000 in
theorem walkOk (l : List Sd) (ao : Option Addr) (cap : Nat) (w : World) (hr : RowS w ao l) (hl : l.length ≤ maxLen) :
    Calls Try.prog 3 #[.slice ao l.length cap] w fun e w' => e = .returned (.bool true) ∧ Below w.heap.size w w' := by
  have HR : Hid (RowS w ao l) := hr
  have HL : Hid (l.length ≤ maxLen) := hl
  have KSZ : Hid (Calls Try.prog 6 #[.slice ao l.length cap, .int .i64 1048576] w fun e w' => (∃ r : Int, e = .returned (.int .i64 r) ∧ r ≤ 1048576 ∧ (0 ≤ r → l.length ≤ 1048576 ∧ (∀ a ∈ l, StS a.t) ∧ r + (ntXs l : Int) ≤ 1048576)) ∧ Below w.heap.size w w') := szTimerS_any l ao cap 1048576 w hr hl (by omega) (by omega)
  clear hr hl
  go_enter Try.func3, Try.ntmps3
  go_wp2_with (go_at_call 6; fail)
  refine KSZ.out.mono ?_
  rintro e w1 ⟨⟨r, rfl, hr0, hr1⟩, hb1⟩
  have HB1 : Hid (Below w.heap.size w w1) := hb1
  have HR1 : Hid (0 ≤ r → l.length ≤ 1048576 ∧ (∀ a ∈ l, StS a.t) ∧ r + (ntXs l : Int) ≤ 1048576) := hr1
  clear hb1 hr1
  by_cases hneg : r < 0
  · go_wp2_with fail
    go_ret
    exact ⟨rfl, HB1.out⟩
  have HS : Hid (l.length ≤ 1048576 ∧ ∀ a ∈ l, StS a.t) := ⟨(HR1.out (by omega)).1, (HR1.out (by omega)).2.1⟩
  go_wp2_with (go_at_call 8; fail)
  refine (toTimerS_any l ao cap w1 (HR.out.below HB1.out) HS.out.1 HS.out.2).mono ?_
  rintro e w2 ⟨⟨g2, bs2, rfl, hg2, _, _⟩, hb2⟩
  have HB2 : Hid (Below w.heap.size w w2) := HB1.out.trans (hb2.mono HB1.out.size)
  have HG2 : Hid (RowS w2 (some ⟨g2, 0, none⟩) l) := GL.rowS hg2
  clear hb2 hg2
  go_wp2_with (go_at_call 7; fail)
  refine (specTimersOk_any l _ _ w2 HG2.out HL.out).mono ?_
  rintro e w3 ⟨he, hb3⟩
  have HB3 : Hid (Below w.heap.size w w3) := HB2.out.trans (hb3.mono HB2.out.size)
  obtain ⟨bb, hbb⟩ : ∃ bb, bb = tmsB l := ⟨_, rfl⟩
  have HBB : Hid (bb = tmsB l) := hbb
  rw [← hbb] at he
  subst he
  clear hb3 hbb
  go_wp2_with (go_at_call 8; fail)
  refine (toTimerS_any l ao cap w3 (HR.out.below HB3.out) HS.out.1 HS.out.2).mono ?_
  rintro e w4 ⟨⟨g4, bs4, rfl, hg4, _, _⟩, hb4⟩
  have HB4 : Hid (Below w.heap.size w w4) := HB3.out.trans (hb4.mono HB3.out.size)
  have HG4 : Hid (RowS w4 (some ⟨g4, 0, none⟩) l) := GL.rowS hg4
  clear hb4 hg4
  go_wp2_with (go_at_call 9; fail)
  refine (implTimersOk_any l _ _ w4 HG4.out HL.out).mono ?_
  rintro e w5 ⟨he, hb5⟩
  rw [← HBB.out] at he
  subst he
  have HB5 : Hid (Below w.heap.size w w5) := HB4.out.trans (hb5.mono HB4.out.size)
  have HG5 : Hid (RowS w5 (some ⟨g4, 0, none⟩) l) := HG4.out.below hb5
  clear hb5 HBB
  have hne : (bb != bb) = false := by cases bb <;> rfl
  go_wp2_with (go_at_call 8; fail)
  refine (toTimerS_any l ao cap w5 (HR.out.below HB5.out) HS.out.1 HS.out.2).mono ?_
  rintro e w6 ⟨⟨g6, bs6, rfl, hg6, _, _⟩, hb6⟩
  have HB6 : Hid (Below w.heap.size w w6) := HB5.out.trans (hb6.mono HB5.out.size)
  have HG6 : Hid (RowS w6 (some ⟨g4, 0, none⟩) l ∧ RowS w6 (some ⟨g6, 0, none⟩) l) := ⟨HG5.out.below hb6, GL.rowS hg6⟩
  clear hb6 hg6
  go_wp2_with (go_at_call 10; fail)
  refine (eqTimerS_same l _ _ _ _ w6 HG6.out.1 HG6.out.2 HL.out).mono ?_
  rintro e w7 ⟨rfl, hb7⟩
  have HB7 : Hid (Below w.heap.size w w7) := HB6.out.trans (hb7.mono HB6.out.size)
  clear hb7
  go_wp2_with fail
  go_ret
  exact ⟨rfl, HB7.out⟩
end Go.Proofs.Ytljfjaoebbmfgaa.Tr
