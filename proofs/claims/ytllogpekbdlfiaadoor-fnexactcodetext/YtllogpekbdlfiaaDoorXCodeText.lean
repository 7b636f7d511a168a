/-
  At every list of instructions the program's CodeText answers as the specification's, and writes into no argument: the law FnExactCodeText returns true and its argument reads as before. The program's variable shapes, three tables and the type of error of Go's library hold what their initialisers lay: the card ties them.
-/
import Derived.Test.YtllogpekbdlfiaaDoorCkD
import Derived.Test.YtllogpekbdlfiaaDoorCkE
namespace Go.Proofs.YtllogpekbdlfiaaDoor.fnExactCodeText
open Go.ChangeShapes Go.WideShapes Go.ChangeAt Go.RowKit
open Go.Proofs.YtllogpekbdlfiaaDoor.Code
set_option linter.unusedVariables false

theorem laid_of {W : World} (h : laidMetH Tryd.prog Rows.fnExactCodeTextRow.laid W) : (Shp W ∧ Pow W) ∧ Es.Ety W := by
  have h' : laidMet Tryd.prog [("math/bits.deBruijn32tab", Rows.laid_math_bits_deBruijn32tab), ("math/bits.deBruijn64tab", Rows.laid_math_bits_deBruijn64tab), ("internal/strconv.uint64pow10", Rows.laid_internal_strconv_uint64pow10), ("loop.example/g00248/impl.shapes", Rows.laid_loop_example_g00248_impl_shapes)] W ∧ handlesMet Tryd.prog [("errors.errorType", Rows.laid_errors_errorType)] W := h
  have h3 := laidMet.tail (laidMet.tail h'.1)
  exact ⟨⟨shp_of_met (laidMet.tail h3), pow_of_met h3⟩, ety_of (by kernel_rfl) h'.2⟩
theorem shp_of {W : World} (h : laidMetH Tryd.prog Rows.fnExactCodeTextRow.laid W) : Shp W := (laid_of h).1.1

/-- The heap that the variables' own initialisers leave meets the condition. -/
theorem door_met (os : Os) (args : Array Value) : laidMetH Tryd.prog Rows.fnExactCodeTextRow.laid ((World.doorLaid Tryd.prog 400 os).forCall (fun _ _ => 0) ⟨#[], args, []⟩).memory :=
  laidMetH_of_parts3 (fuel := 8) (laidMet_of_run' 8 (by kernel_rfl) (by kernel_rfl)) (by kernel_rfl) (by kernel_rfl)

theorem walk (l : List I) (ao : Option Addr) (cap : Nat) (w : World) (hr : RowI w ao l) (hs : SmI maxLen l) (h64 : Al64 l) (hl : l.length ≤ maxLen) (hS : Shp w) (hP : Pow w) (hE : Es.Ety w) :
    Calls Tryd.prog 7 #[.slice ao l.length cap] w fun e w' => e = .returned (.bool true) ∧ Below w.heap.size w w' := by
  have HSZ : Hid (∀ w', w' = w → Calls Tryd.prog 16 #[.slice ao l.length cap, .int .i64 1048576] w' fun e w'' => (∃ r : Int, e = .returned (.int .i64 r) ∧ (0 ≤ r → l.length ≤ 1048576 ∧ SmI 1048576 l)) ∧ Below w'.heap.size w' w'') := fun w' h => by
    subst h; exact szInsS_any l ao cap w' hr hs hl
  have HRW : Hid (RowI w ao l) := hr
  have H64 : Hid (Al64 l) := h64
  clear hr hs h64
  unfold maxLen at hl
  go_enter Tryd.func7, Tryd.ntmps7
  go_wp2_with (go_at_call 16; fail)
  refine (HSZ.out _ rfl).mono ?_
  rintro e w1 ⟨⟨r, rfl, hr⟩, hb1⟩
  have HB1 : Hid (Below w.heap.size w w1) := hb1
  clear hb1
  by_cases h0 : r < 0
  · clear hr
    go_wp2
    go_ret
    exact ⟨rfl, HB1.out⟩
  · have HLE : Hid (l.length ≤ 1048576) := (hr (by omega)).1
    have HSM : Hid (SmI 1048576 l) := (hr (by omega)).2
    clear hr
    go_wp2_with (go_at_call 18; fail)
    refine (toInsS_any l ao cap _ (HRW.out.below HB1.out) HLE.out).mono ?_
    rintro e w2 ⟨⟨g2, hg2, rfl, hr2⟩, hb2⟩
    have HB2 : Hid (Below w.heap.size w w2) := HB1.out.trans (hb2.mono HB1.out.size)
    have HR2 : Hid (RowI w2 (some ⟨g2, 0, none⟩) l) := hr2
    clear hb2 hr2 hg2
    go_wp2_with (go_at_call 21; fail)
    refine (specCodeText_any l (some ⟨g2, 0, none⟩) l.length _ HR2.out HSM.out H64.out HLE.out).mono ?_
    rintro e w3 ⟨rfl, hb3⟩
    have HB3 : Hid (Below w.heap.size w w3) := HB2.out.trans (hb3.mono HB2.out.size)
    clear hb3
    go_wp2_with (go_at_call 18; fail)
    refine (toInsS_any l ao cap _ (HRW.out.below HB3.out) HLE.out).mono ?_
    rintro e w4 ⟨⟨g4, hg4, rfl, hr4⟩, hb4⟩
    have HB4 : Hid (Below w.heap.size w w4) := HB3.out.trans (hb4.mono HB3.out.size)
    have HR4 : Hid (RowI w4 (some ⟨g4, 0, none⟩) l) := hr4
    clear hb4 hr4 hg4
    go_wp2_with (go_at_call 22; fail)
    refine (implCodeText_any l (some ⟨g4, 0, none⟩) l.length _ HR4.out HSM.out H64.out HLE.out (hS.below HB4.out) (hP.below HB4.out) (hE.below HB4.out)).mono ?_
    rintro e w5 ⟨rfl, hb5⟩
    have HB5 : Hid (Below w.heap.size w w5) := HB4.out.trans (hb5.mono HB4.out.size)
    have HR5 : Hid (RowI w5 (some ⟨g4, 0, none⟩) l) := HR4.out.below hb5
    clear hb5
    go_wp2_with (go_at_call 18; fail)
    refine (toInsS_any l ao cap _ (HRW.out.below HB5.out) HLE.out).mono ?_
    rintro e w6 ⟨⟨g6, hg6, rfl, hr6⟩, hb6⟩
    have HB6 : Hid (Below w.heap.size w w6) := HB5.out.trans (hb6.mono HB5.out.size)
    have HR6 : Hid (RowI w6 (some ⟨g6, 0, none⟩) l ∧ RowI w6 (some ⟨g4, 0, none⟩) l) := ⟨hr6, HR5.out.below hb6⟩
    clear hb6 hr6 hg6
    go_wp2_with (go_at_call 20; fail)
    refine (eqInsS_same l (some ⟨g4, 0, none⟩) (some ⟨g6, 0, none⟩) l.length l.length _ HR6.out.2 HR6.out.1 HLE.out).mono ?_
    rintro e w7 ⟨rfl, hb7⟩
    have HB7 : Hid (Below w.heap.size w w7) := HB6.out.trans (hb7.mono HB6.out.size)
    clear hb7
    go_wp2
    go_ret
    exact ⟨rfl, HB7.out⟩

set_option maxRecDepth 100000 in
theorem lifted (os : Os) (started : os.Started) (H : Type) (enc : TypeId × Value → H) :
    ReturnsInHanded {} Tryd.checked os 7 .any (fun w args => (Rows.fnExactCodeTextSpec.pre enc Tryd.prog Tryd.f7 [] false w args ∧ laidMetH Tryd.prog Rows.fnExactCodeTextRow.laid w) ∧ sizedMet enc Tryd.prog Tryd.f7 (OpenSpec.ofChange Rows.fnExactCodeTextSpec) false w args)
      (Rows.fnExactCodeTextSpec.post enc Tryd.prog Tryd.f7 false true false false) := by
  refine returnsInHanded_of_change_and (C := Tryd.checked) (X := fun w _ => laidMetH Tryd.prog Rows.fnExactCodeTextRow.laid w) (fun _ _ _ hh h => h.of_heap hh) own started (by kernel_rfl) Tryd.func7
    (ChangeSpec.witness_shaped (enc := enc) (C := Tryd.checked) (os := os) (X := fun w _ => laidMetH Tryd.prog Rows.fnExactCodeTextRow.laid w) false (World.doorLaid Tryd.prog 400 os) #[.slice none 0 0] 8 rfl (World.shaped_of_RefB (by kernel_rfl) (by kernel_rfl)) (by kernel_rfl) (by kernel_rfl) (by kernel_rfl) (door_met os _)) ?_
  intro W base args ds gs before hval0 hW _ _ hL _
  have hval : ∀ (j : Nat) t v, Tryd.f7.params[j]? = some t → args[j]? = some v → Value.okWide Tryd.prog W .any base t v := hval0
  have hW' := hW
  obtain ⟨p, q, hA0, hV, rfl, hfz, hnd⟩ := hW
  have hA : DataW.TrodAll enc Tryd.prog W 0 (fun _ => true) true Tryd.f7.params.toList args.toList ds p := hA0
  rw [Tryd.params7] at hA hval
  obtain ⟨v0, vs0, d0, ds0, p0, q0, hargs, rfl, rfl, h0, r0⟩ := trodAll_cons hA
  obtain ⟨rfl, rfl, rfl⟩ := trodAll_nil r0
  obtain rfl : args = #[v0] := by cases args; simp_all
  have k0 := h0
  have lt0 : ∀ x ∈ p0, x.block < W.heap.size := by obtain ⟨m, hm⟩ := k0; exact DataW.trod_lt m _ _ _ hm
  obtain ⟨l, ao, cap, rfl, hr, hs, h64, hl⟩ := open_insS (hval 0 34 v0 rfl rfl) h0
  have hS := shp_of hL
  clear hA0 hval0
  refine (walk l ao cap W hr hs h64 hl hS (laid_of hL).1.2 (laid_of hL).2).mono fun e W' ⟨he, bel⟩ => ?_
  subst he
  obtain ⟨q', hv'⟩ := vars_after (by kernel_rfl) hS hV bel
  have hg : ∃ g, gs = [g] := by
    obtain ⟨g, t, cs, fuel, d, p, e, _⟩ := trodVars_one hV
    exact ⟨d, e⟩
  obtain ⟨g, rfl⟩ := hg
  exact ⟨_, rfl, _, _, _, [], _, q', hW', trodAll_mk1 (shut_bool Tryd.underlying4 _), (trodAll_cons_mk (Below.trod laidOut (by kernel_rfl) (of_decide_eq_true (by kernel_rfl)) k0 bel lt0) trodAll_mk0), hv', bel.frame _, fun h => by cases h⟩

theorem over : Rows.fnExactCodeTextRow.holds Tryd.pinned (OpenSpec.ofChange Rows.fnExactCodeTextSpec) :=
  OpenClaim.holds_of_wide 7 Tryd.f7 rfl rfl rfl rfl rfl rfl rfl ⟨rfl, rfl, rfl, rfl, rfl⟩ rfl rfl rfl rfl rfl (by kernel_rfl) Tryd.func7 (by kernel_rfl)
    (of_decide_eq_true (by kernel_rfl)) (by unfold Func.isWrapper; first | (rw [if_pos (by decide +kernel)]; kernel_rfl) | (rw [if_neg (by decide +kernel)]; exact ⟨rfl, rfl⟩))
    (fun os started H enc _ => lifted os started H enc)
end Go.Proofs.YtllogpekbdlfiaaDoor.fnExactCodeText
namespace Go.Proofs.YtllogpekbdlfiaaDoor
theorem fnExactCodeText_holds : Rows.FnExactCodeTextCardSaid :=
  Claim7.holds_tied_plain_at .later [] [.data, .data, .data, .handle, .data] true Rows.fnExactCodeTextCard.stood.harness true
    fnExactCodeText.over (fun _ h => by cases h) (by kernel_rfl) (fun _ h => by cases h) fnExactCodeText_row_tie rfl ⟨rfl, rfl⟩ (by kernel_rfl) rfl
    (fun f fn hf hfn => by
      obtain rfl : f = 7 := Option.some.inj ((show Tryd.prog.funcNamed Rows.fnExactCodeTextRow.func = some 7 by kernel_rfl).symm.trans hf) |>.symm
      obtain rfl : fn = Tryd.f7 := (Option.some.inj (Tryd.func7.symm.trans hfn)).symm
      exact ⟨by kernel_rfl, fun j t ht => by
        rw [Tryd.params7] at ht
        have hm : t ∈ [34] := by simpa using Array.mem_of_getElem? ht
        have hall : ([34].all fun u => !Tryd.prog.wantsStandIn u) = true := by kernel_rfl
        exact (show Tryd.prog.wantsStandIn t = false by simpa using List.all_eq_true.1 hall t hm)⟩)
    (by kernel_rfl)
#print axioms fnExactCodeText_holds
end Go.Proofs.YtllogpekbdlfiaaDoor
