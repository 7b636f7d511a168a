/-
  At every instruction, right or not, the program's InsText answers as the specification's: the law FnExactInsText returns true and its argument reads as before. The program's variable shapes and three tables of Go's library hold what their initialisers lay: the card ties them.
-/
import Derived.Test.YtllogpekbdlfiaaDoorCoN
import Derived.Test.YtllogpekbdlfiaaDoorCtB
import Derived.Test.YtllogpekbdlfiaaDoorCtC
import Derived.Test.YtllogpekbdlfiaaDoorCtD
namespace Go.Proofs.YtllogpekbdlfiaaDoor.fnExactInsText
open Go.ChangeShapes Go.WideShapes Go.ChangeAt Go.RowKit
open Go.Proofs.YtllogpekbdlfiaaDoor.Code
set_option linter.unusedVariables false

theorem laid_of {W : World} (h : laidMetH Tryd.prog Rows.fnExactInsTextRow.laid W) : Shp W ∧ Pow W := by
  rw [MakeChecks.laidMetH_plain _ _ _ (by kernel_rfl)] at h
  have h3 := laidMet.tail (laidMet.tail h)
  exact ⟨shp_of_met (laidMet.tail h3), pow_of_met h3⟩
theorem shp_of {W : World} (h : laidMetH Tryd.prog Rows.fnExactInsTextRow.laid W) : Shp W := (laid_of h).1

/-- The heap that the variables' own initialisers leave meets the condition. -/
theorem door_met (os : Os) (args : Array Value) : laidMetH Tryd.prog Rows.fnExactInsTextRow.laid ((World.doorLaid Tryd.prog 400 os).forCall (fun _ _ => 0) ⟨#[], args, []⟩).memory :=
  laidMetH_of_parts3 (fuel := 8) (laidMet_of_run' 8 (by kernel_rfl) (by kernel_rfl)) (by kernel_rfl) (by kernel_rfl)

theorem walk (op a b c n : Int) (s : ByteArray) (w : World) (hs : s.size ≤ maxLen) (hI : In64 ⟨op, a, b, c, n, s⟩) (hS : Shp w) (hP : Pow w) :
    Calls Tryd.prog 6 #[.agg #[.int .i64 op, .int .i64 a, .int .i64 b, .int .i64 c, .int .i64 n, .string s]] w fun e w' => e = .returned (.bool true) ∧ Below w.heap.size w w' := by
  have hbn := (Below.refl w.heap.size w).alloc (Nat.le_refl _) (.cells #[.int .i64 op, .int .i64 a, .int .i64 b, .int .i64 c, .int .i64 n, .string s] 30)
  have HB0 : Hid (Below w.heap.size w (w.alloc (.cells #[.int .i64 op, .int .i64 a, .int .i64 b, .int .i64 c, .int .i64 n, .string s] 30))) := hbn
  have HX0 : Hid (Bx6 (w.alloc (.cells #[.int .i64 op, .int .i64 a, .int .i64 b, .int .i64 c, .int .i64 n, .string s] 30)) w.heap.size 0 ⟨op, a, b, c, n, s⟩) := by
    constructor <;> rw [World.cell?_alloc_new] <;> rfl
  clear hbn
  go_enter Tryd.func6, Tryd.ntmps6
  go_wp2_with (go_at_call 14; fail)
  refine (szIns_any op a b c n s 1048576 _ (by omega) (by omega) hs).mono ?_
  rintro e w1 ⟨rfl, hb1⟩
  have HB1 : Hid (Below w.heap.size w w1) := HB0.out.trans (hb1.mono HB0.out.size)
  have hx1 := HX0.out.below hb1
  have HX1 : Hid (Bx6 w1 w.heap.size 0 ⟨op, a, b, c, n, s⟩) := hx1
  have q0 := hx1.c0
  have q1 := hx1.c1
  have q2 := hx1.c2
  have q3 := hx1.c3
  have q4 := hx1.c4
  have q5 := hx1.c5
  simp only [Nat.zero_add] at q0 q1 q2 q3 q4 q5
  clear hb1 HX0 hx1 HB0
  by_cases hl : leftS 1048576 s.size < 0
  · go_wp2
    go_ret
    exact ⟨rfl, HB1.out⟩
  · have HSZ : Hid (s.size ≤ 1048576) := by
      show _ ≤ _
      unfold leftS at hl
      split at hl <;> omega
    go_wp2_with (go_at_call 15; fail)
    refine (toIns_any op a b c n s _).mono ?_
    rintro e w2 ⟨rfl, hb2⟩
    go_wp2_with (go_at_call 13; fail)
    refine (specText_any op a b c n s _ HSZ.out hI).mono ?_
    rintro e w3 ⟨rfl, hb3⟩
    have hb23 : Below w1.heap.size w1 w3 := hb2.trans (hb3.mono hb2.size)
    have hx3 := HX1.out.below hb23
    have r0 := hx3.c0
    have r1 := hx3.c1
    have r2 := hx3.c2
    have r3 := hx3.c3
    have r4 := hx3.c4
    have r5 := hx3.c5
    simp only [Nat.zero_add] at r0 r1 r2 r3 r4 r5
    have HB3 : Hid (Below w.heap.size w w3) := HB1.out.trans (hb23.mono HB1.out.size)
    clear hb2 hb3 hb23 hx3 q0 q1 q2 q3 q4 q5
    go_wp2_with (go_at_call 15; fail)
    refine (toIns_any op a b c n s _).mono ?_
    rintro e w4 ⟨rfl, hb4⟩
    have HB4 : Hid (Below w.heap.size w w4) := HB3.out.trans (hb4.mono HB3.out.size)
    clear hb4
    go_wp2_with (go_at_call 11; fail)
    refine (implText_any op a b c n s _ HSZ.out hI (hS.below HB4.out) (hP.below HB4.out)).mono ?_
    rintro e w5 ⟨rfl, hb5⟩
    have HB5 : Hid (Below w.heap.size w w5) := HB4.out.trans (hb5.mono HB4.out.size)
    clear hb5
    go_wp2
    go_ret
    exact ⟨rfl, HB5.out⟩

set_option maxRecDepth 100000 in
theorem lifted (os : Os) (started : os.Started) (H : Type) (enc : TypeId × Value → H) :
    ReturnsInHanded {} Tryd.checked os 6 .any (fun w args => (Rows.fnExactInsTextSpec.pre enc Tryd.prog Tryd.f6 [] false w args ∧ laidMetH Tryd.prog Rows.fnExactInsTextRow.laid w) ∧ sizedMet enc Tryd.prog Tryd.f6 (OpenSpec.ofChange Rows.fnExactInsTextSpec) false w args)
      (Rows.fnExactInsTextSpec.post enc Tryd.prog Tryd.f6 false true false false) := by
  refine returnsInHanded_of_change_and (C := Tryd.checked) (X := fun w _ => laidMetH Tryd.prog Rows.fnExactInsTextRow.laid w) (fun _ _ _ hh h => h.of_heap hh) own started (by kernel_rfl) Tryd.func6
    (ChangeSpec.witness_shaped (enc := enc) (C := Tryd.checked) (os := os) (X := fun w _ => laidMetH Tryd.prog Rows.fnExactInsTextRow.laid w) false (World.doorLaid Tryd.prog 400 os) #[.agg #[.int .i64 0, .int .i64 0, .int .i64 0, .int .i64 0, .int .i64 0, .string ByteArray.empty]] 8 rfl (World.shaped_of_RefB (by kernel_rfl) (by kernel_rfl)) (by kernel_rfl) (by kernel_rfl) (by kernel_rfl) (door_met os _)) ?_
  intro W base args ds gs before hval0 hW _ _ hL _
  have hval : ∀ (j : Nat) t v, Tryd.f6.params[j]? = some t → args[j]? = some v → Value.okWide Tryd.prog W .any base t v := hval0
  have hW' := hW
  obtain ⟨p, q, hA0, hV, rfl, hfz, hnd⟩ := hW
  have hA : DataW.TrodAll enc Tryd.prog W 0 (fun _ => true) true Tryd.f6.params.toList args.toList ds p := hA0
  rw [Tryd.params6] at hA hval
  obtain ⟨v0, vs0, d0, ds0, p0, q0, hargs, rfl, rfl, h0, r0⟩ := trodAll_cons hA
  obtain ⟨rfl, rfl, rfl⟩ := trodAll_nil r0
  obtain rfl : args = #[v0] := by cases args; simp_all
  have k0 := h0
  have lt0 : ∀ x ∈ p0, x.block < W.heap.size := by obtain ⟨m, hm⟩ := k0; exact DataW.trod_lt m _ _ _ hm
  obtain ⟨op, a, b, c, n, s, rfl, hs, w0, w1, w2, w3, w4⟩ := open_ins (hval 0 30 v0 rfl rfl) h0
  have hI : In64 ⟨op, a, b, c, n, s⟩ := ⟨in64_of w1, in64_of w2, in64_of w3, in64_of w4⟩
  have hS := shp_of hL
  clear hA0 hval0
  refine (walk op a b c n s W hs hI hS (laid_of hL).2).mono fun e W' ⟨he, bel⟩ => ?_
  subst he
  obtain ⟨q', hv'⟩ := vars_after (by kernel_rfl) hS hV bel
  have hg : ∃ g, gs = [g] := by
    obtain ⟨g, t, cs, fuel, d, p, e, _⟩ := trodVars_one hV
    exact ⟨d, e⟩
  obtain ⟨g, rfl⟩ := hg
  exact ⟨_, rfl, _, _, _, [], _, q', hW', trodAll_mk1 (shut_bool Tryd.underlying4 _), (trodAll_cons_mk (Below.trod laidOut (by kernel_rfl) (of_decide_eq_true (by kernel_rfl)) k0 bel lt0) trodAll_mk0), hv', bel.frame _, fun h => by cases h⟩

theorem over : Rows.fnExactInsTextRow.holds Tryd.pinned (OpenSpec.ofChange Rows.fnExactInsTextSpec) :=
  OpenClaim.holds_of_wide 6 Tryd.f6 rfl rfl rfl rfl rfl rfl rfl ⟨rfl, rfl, rfl, rfl, rfl⟩ rfl rfl rfl rfl rfl (by kernel_rfl) Tryd.func6 (by kernel_rfl)
    (of_decide_eq_true (by kernel_rfl)) (by unfold Func.isWrapper; first | (rw [if_pos (by decide +kernel)]; kernel_rfl) | (rw [if_neg (by decide +kernel)]; exact ⟨rfl, rfl⟩))
    (fun os started H enc _ => lifted os started H enc)
end Go.Proofs.YtllogpekbdlfiaaDoor.fnExactInsText
namespace Go.Proofs.YtllogpekbdlfiaaDoor
theorem fnExactInsText_holds : Rows.FnExactInsTextCardSaid :=
  Claim7.holds_tied_plain_at .later [] [.data, .data, .data, .data] true Rows.fnExactInsTextCard.stood.harness true
    fnExactInsText.over (fun _ h => by cases h) (by kernel_rfl) (fun _ h => by cases h) fnExactInsText_row_tie rfl ⟨rfl, rfl⟩ (by kernel_rfl) rfl
    (fun f fn hf hfn => by
      obtain rfl : f = 6 := Option.some.inj ((show Tryd.prog.funcNamed Rows.fnExactInsTextRow.func = some 6 by kernel_rfl).symm.trans hf) |>.symm
      obtain rfl : fn = Tryd.f6 := (Option.some.inj (Tryd.func6.symm.trans hfn)).symm
      exact ⟨by kernel_rfl, fun j t ht => by
        rw [Tryd.params6] at ht
        have hm : t ∈ [30] := by simpa using Array.mem_of_getElem? ht
        have hall : ([30].all fun u => !Tryd.prog.wantsStandIn u) = true := by kernel_rfl
        exact (show Tryd.prog.wantsStandIn t = false by simpa using List.all_eq_true.1 hall t hm)⟩)
    (by kernel_rfl)
#print axioms fnExactInsText_holds
end Go.Proofs.YtllogpekbdlfiaaDoor
