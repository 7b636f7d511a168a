/-
  What is due of drawn timers and what is not are the timers that were drawn, parted at the time, and stay right: for every list of bytes the law FnDue returns true and its argument reads as before. No condition.
  (Ahead of it, in this text: Timers that are due, timers that are dropped: the program's answers. What the law FnDue does.)
-/
import Derived.Test.YtnfncdoiabgdjaaTrK
import Derived.Test.YtnfncdoiabgdjaaV2
import Derived.OpenShut
import Derived.ChangeOld
namespace Go.Proofs.Ytnfncdoiabgdjaa.Tr
open Go.RowKit Atom
set_option linter.unusedVariables false


set_option maxHeartbeats 2000000 in
set_option maxRecDepth 100000 in
theorem implDue_any (l : List Sd) (bs0 : List Nat) (ao : Option Addr) (cap : Nat) (z : Int) (w : World) (hr : GL eltS w l bs0 ao) (hnd0 : bs0.Nodup) (hl : l.length ≤ 1048576) (hn : ∀ x ∈ l, ntL [x.t] ≤ 4194304) :
    Calls Try.prog 10 #[.slice ao l.length cap, .int .i64 z] w fun e w' => (∃ a1 c1 a2 c2 e1 e2, e = .returned (.tuple #[.slice a1 (l.filter (dueB z)).length c1, .slice a2 (l.filter (notB (dueB z))).length c2]) ∧ GL eltS w' (l.filter (dueB z)) e1 a1 ∧ GL eltS w' (l.filter (notB (dueB z))) e2 a2 ∧ (e1 ++ e2).Nodup ∧ ∀ b ∈ e1 ++ e2, w.heap.size ≤ b) ∧ Below w.heap.size w w' := by
  obtain ⟨wa, hwa⟩ : ∃ wa, wa = w.alloc (.cells #[.int .i64 z] 3) := ⟨_, rfl⟩
  have hba : Below w.heap.size w wa := by rw [hwa]; exact (Below.refl _ _).alloc (Nat.le_refl _) _
  have hca : wa.cell? ⟨w.heap.size, 0, none⟩ = some (.int .i64 z) := by rw [hwa, World.cell?_alloc_new]; rfl
  have HBA : Hid (Below w.heap.size w wa ∧ wa.cell? ⟨w.heap.size, 0, none⟩ = some (.int .i64 z)) := ⟨hba, hca⟩
  have HC : Hid (Calls Try.prog 22 #[.slice ao l.length cap] wa fun e w' => (∃ (g : Nat) (bs : List Nat), e = .returned (.slice (some ⟨g, 0, none⟩) l.length l.length) ∧ GL eltS w' l bs (some ⟨g, 0, none⟩) ∧ bs.Nodup ∧ ∀ b ∈ bs, wa.heap.size ≤ b) ∧ Below wa.heap.size wa w') := ownTimers_any l bs0 ao cap wa (hr.below hba) hnd0 hl hn
  clear hr hnd0 hn hba hca
  go_enter Try.func10, Try.ntmps10
  go_wp2_with (go_at_call 22; fail)
  rw [← hwa]
  clear hwa
  refine HC.out.mono ?_
  rintro e w1 ⟨⟨g, bs, rfl, hg, hnd, hlo⟩, hb1⟩
  have HS : Hid (Calls Try.prog 23 #[.slice (some ⟨g, 0, none⟩) l.length l.length, .func (.func 24) #[] #[.pointer (some ⟨w.heap.size, 0, none⟩)]] w1 fun e w' => ∃ a1 c1 a2 c2 e1 e2, e = .returned (.tuple #[.slice a1 (l.filter (dueB z)).length c1, .slice a2 (l.filter (notB (dueB z))).length c2]) ∧ GL eltS w' (l.filter (dueB z)) e1 a1 ∧ GL eltS w' (l.filter (notB (dueB z))) e2 a2 ∧ (e1 ++ e2).Nodup ∧ (∀ b ∈ e1 ++ e2, b ∈ bs ∨ w1.heap.size ≤ b) ∧ Below w1.heap.size w1 w') := splitDue_any l bs _ _ z w.heap.size w1 hg hnd hl (keepOt hb1 HBA.out.2)
  have HB1 : Hid (Below w.heap.size w w1 ∧ ∀ b, (b ∈ bs ∨ w1.heap.size ≤ b) → w.heap.size ≤ b) := by
    have h := HBA.out.1.trans (hb1.mono HBA.out.1.size)
    exact ⟨h, fun b hb => by
      rcases hb with hb | hb
      · exact Nat.le_trans HBA.out.1.size (hlo b hb)
      · exact Nat.le_trans h.size hb⟩
  clear hg hnd hlo hb1
  go_wp2_with (go_at_call 23; fail)
  refine HS.out.mono ?_
  rintro e w2 ⟨a1, c1, a2, c2, e1, e2, rfl, h1, h2, h3, h4, hb2⟩
  have HF : Hid (GL eltS w2 (l.filter (dueB z)) e1 a1 ∧ GL eltS w2 (l.filter (notB (dueB z))) e2 a2 ∧ (e1 ++ e2).Nodup ∧ (∀ b ∈ e1 ++ e2, w.heap.size ≤ b) ∧ Below w.heap.size w w2) := ⟨h1, h2, h3, fun b hb => HB1.out.2 b (h4 b hb), HB1.out.1.trans (hb2.mono HB1.out.1.size)⟩
  clear h1 h2 h3 h4 hb2
  go_wp2_with fail
  exact bodyPost_ret (v := .tuple #[.slice a1 (l.filter (dueB z)).length c1, .slice a2 (l.filter (notB (dueB z))).length c2]) (by simp [results, Try.results10, go_sem]) rfl ⟨⟨a1, c1, a2, c2, e1, e2, rfl, HF.out.1, HF.out.2.1, HF.out.2.2.1, HF.out.2.2.2.1⟩, HF.out.2.2.2.2⟩

end Go.Proofs.Ytnfncdoiabgdjaa.Tr
namespace Go.Proofs.Ytnfncdoiabgdjaa.Tv
open Go.RowKit Atom
open Go.Proofs.Ytnfncdoiabgdjaa.Tr
set_option linter.unusedVariables false

theorem hidM {p : Prop} (h : p) : Hid p := h
theorem bigT_any (ao : Option Addr) (len cap : Nat) (w : World) (hm : len ≤ maxLen) :
    Calls Try.prog 5 #[.slice ao len cap] w fun e w' => e = .returned (.bool (decide (1048576 < len))) ∧ w' = w := by
  unfold maxLen at hm
  by_cases h : 1048576 < len
  · go_enter Try.func5, Try.ntmps5
    go_wp2_with fail
    go_ret
    exact ⟨by simp [h]; omega, rfl⟩
  · go_enter Try.func5, Try.ntmps5
    go_wp2_with fail
    go_ret
    exact ⟨by simp [h]; omega, rfl⟩
theorem ntL_flat : ∀ l : List Tm, (∀ t, t ∈ l → DpT 0 t) → ntL l = l.length
  | [], _ => by rw [ntL]; rfl
  | .mk k n s m :: r, h => by
    have h0 : m = [] := by have := h (.mk k n s m) (List.mem_cons_self ..); rw [DpT] at this; exact this
    subst h0
    rw [ntL, ntL, ntL_flat r (fun t ht => h t (List.mem_cons_of_mem _ ht)), List.length_cons]; omega
theorem nt_small {x : Sd} (h : SdOk x) : ntL [x.t] ≤ 4194304 := by
  obtain ⟨a, p, t⟩ := x
  obtain ⟨k, n, s, l⟩ := t
  have h1 : WfT (.mk k n s l) := h.2.2.1
  have h2 : DpT 1 (.mk k n s l) := h.2.2.2
  rw [WfT] at h1
  rw [DpT] at h2
  show ntL [.mk k n s l] ≤ 4194304
  rw [ntL, ntL, ntL_flat l h2]; have := h1.2.1; omega
theorem len_parts (P : Sd → Bool) : ∀ l : List Sd, (l.filter P).length + (l.filter (notB P)).length = l.length
  | [] => rfl
  | x :: r => by
    have h := len_parts P r
    cases hp : P x
    · have hq : notB P x = true := by unfold notB; rw [hp]; rfl
      rw [List.filter_cons_of_neg (by rw [hp]; simp), List.filter_cons_of_pos hq, List.length_cons, List.length_cons]; omega
    · have hq : notB P x = false := by unfold notB; rw [hp]; rfl
      rw [List.filter_cons_of_pos hp, List.filter_cons_of_neg (by rw [hq]; simp), List.length_cons, List.length_cons]; omega
theorem ord_pair {l : List Sd} : ordB l = true ↔ l.Pairwise (fun x y => x.kind ≤ y.kind) := by
  constructor
  · intro h
    rw [List.pairwise_iff_getElem]
    intro i j hi hj hij
    obtain ⟨d, rfl⟩ : ∃ d, j = i + d := ⟨j - i, by omega⟩
    exact ord_le h i d hj
  · intro h
    refine ordB_yes fun j hj => ?_
    rw [List.pairwise_iff_getElem] at h
    rcases Nat.eq_zero_or_pos j with rfl | h0
    · exact Int.le_refl _
    · exact h (j - 1) j (by omega) hj (by omega)
theorem tms_filter {l : List Sd} (P : Sd → Bool) (h : tmsB l = true) : tmsB (l.filter P) = true := by
  unfold tmsB at h ⊢
  simp only [Bool.and_eq_true, decide_eq_true_eq] at h ⊢
  obtain ⟨h1, h2, h3⟩ := h
  refine ⟨Nat.le_trans (List.length_filter_le ..) h1, ord_pair.2 ((ord_pair.1 h2).filter P), ?_⟩
  unfold allB at h3 ⊢
  rw [List.all_eq_true] at h3 ⊢
  exact fun x hx => h3 x (List.mem_filter.1 hx).1

set_option maxRecDepth 100000 in
set_option maxHeartbeats 4000000 in
theorem due_law (w : World) (ao : Option Addr) (len cap : Nat) (zs : List Int) (hr : IsRow w ao len cap zs) (hlc : len ≤ cap) (hcm : cap ≤ maxLen) :
    Calls Try.prog 4 #[.slice ao len cap] w fun e w' => e = .returned (.bool true) ∧ Below w.heap.size w w' := by
  have HR : Hid (IsRow w ao len cap zs) := hr
  have HBG : Hid (∀ w', Calls Try.prog 5 #[.slice ao len cap] w' fun e w'' => e = .returned (.bool (decide (1048576 < len))) ∧ w'' = w') := fun w' => bigT_any ao len cap w' (Nat.le_trans hlc hcm)
  clear hr hlc hcm
  by_cases hbig : 1048576 < len
  · have hd : decide (1048576 < len) = true := by simpa using hbig
    rw [hd] at HBG
    go_enter Try.func4, Try.ntmps4
    go_wp2_with (go_at_call 5; refine (HBG.out _).mono ?_; rintro e w' ⟨rfl, rfl⟩)
    go_ret
    exact ⟨rfl, Below.refl _ _⟩
  · have hd : decide (1048576 < len) = false := by simpa using hbig
    rw [hd] at HBG
    have HSM : Hid (len ≤ 1048576) := by show _ ≤ _; omega
    clear hd hbig
    go_enter Try.func4, Try.ntmps4
    go_wp2_with (go_at_call 5; refine (HBG.out _).mono ?_; rintro e w' ⟨rfl, hw'⟩; obtain rfl := hw'.symm)
    refine (drawDue_any w ao len cap zs HR.out HSM.out).mono ?_
    rintro e w1 ⟨l, a, c, z, rfl, hl, ⟨bs, hgl, hnd⟩, hok, hb1⟩
    have H1 : Hid (GL eltS w1 l bs a ∧ Below w.heap.size w w1) := ⟨hgl, hb1⟩
    have HDUE := hidM (implDue_any l bs a c z w1 hgl hnd (by omega) (fun x hx => nt_small (hok x hx)))
    clear hgl hb1 hnd hok
    go_wp2_with fail
    refine HDUE.out.mono ?_
    rintro e w2 ⟨⟨a1, c1, a2, c2, e1, e2, rfl, hg1, hg2, hnd2, hlo⟩, hb2⟩
    clear HDUE hnd2 hlo
    obtain ⟨X, hX⟩ : ∃ X, X = l.filter (dueB z) := ⟨_, rfl⟩
    obtain ⟨Y, hY⟩ : ∃ Y, Y = l.filter (notB (dueB z)) := ⟨_, rfl⟩
    have hsum : X.length + Y.length = l.length := by rw [hX, hY]; exact len_parts _ l
    have HX : Hid (∀ x ∈ X, x.kind ≤ z) := fun x hx => by rw [hX] at hx; exact of_decide_eq_true (List.mem_filter.1 hx).2
    have HY : Hid (∀ x ∈ Y, z < x.kind) := fun x hx => by
      rw [hY] at hx
      have h := (List.mem_filter.1 hx).2
      unfold notB dueB at h
      simpa using h
    have HQ : Hid (tmsB l = true → tmsB X = true ∧ tmsB Y = true) := fun h => by rw [hX, hY]; exact ⟨tms_filter _ h, tms_filter _ h⟩
    rw [← hX] at hg1 ⊢
    rw [← hY] at hg2 ⊢
    have HS : Hid (Below w.heap.size w w2 ∧ RowS w2 a l ∧ RowS w2 a1 X ∧ RowS w2 a2 Y) := ⟨H1.out.2.trans (hb2.mono H1.out.2.size), GL.rowS (H1.out.1.below hb2), GL.rowS hg1, GL.rowS hg2⟩
    have HSP : Hid (∀ wc, Below w2.heap.size w2 wc → Calls Try.prog 11 #[.slice a l.length c] wc fun e w' => e = .returned (.bool (tmsB l)) ∧ Below w2.heap.size w2 w') := fun wc hb =>
      (specTimersOk_any l a c wc (HS.out.2.1.below hb) (by unfold maxLen; omega)).mono fun e w' h => ⟨h.1, hb.trans (h.2.mono hb.size)⟩
    have HIA : Hid (∀ wc, Below w2.heap.size w2 wc → Calls Try.prog 12 #[.slice a1 X.length c1] wc fun e w' => e = .returned (.bool (tmsB X)) ∧ Below w2.heap.size w2 w') := fun wc hb =>
      (implTimersOk_any X a1 c1 wc (HS.out.2.2.1.below hb) (by unfold maxLen; omega)).mono fun e w' h => ⟨h.1, hb.trans (h.2.mono hb.size)⟩
    have HIB : Hid (∀ wc, Below w2.heap.size w2 wc → Calls Try.prog 12 #[.slice a2 Y.length c2] wc fun e w' => e = .returned (.bool (tmsB Y)) ∧ Below w2.heap.size w2 w') := fun wc hb =>
      (implTimersOk_any Y a2 c2 wc (HS.out.2.2.2.below hb) (by unfold maxLen; omega)).mono fun e w' h => ⟨h.1, hb.trans (h.2.mono hb.size)⟩
    obtain ⟨q, hq⟩ : ∃ q, q = tmsB l := ⟨_, rfl⟩
    rw [← hq] at HSP HQ
    obtain ⟨N, hN⟩ : ∃ N, N = l.length := ⟨_, rfl⟩
    rw [← hN] at HSP hsum hl ⊢
    clear hg1 hg2 hb2 H1 hX hY hq hN
    have e9 : ((X.length : Int) + (Y.length : Int) == (N : Int)) = true := by rw [beq_iff_eq]; omega
    go_wp2_with fail
    go_loopw [7] (fun i wr => ∃ j : Nat, j ≤ X.length ∧ i = .int .i64 j ∧ wr = w2) (fun i _ => X.length - (intOf i).toNat)
    case atStart => exact ⟨0, Nat.zero_le _, rfl, rfl⟩
    case round =>
      obtain ⟨j, hj, rfl, hwr⟩ := hrel
      by_cases hlt : j < X.length
      · rcases HS.out.2.2.1 with h0 | ⟨b, o, rfl, hrow⟩
        · rw [h0] at hlt; exact absurd hlt (Nat.not_lt_zero _)
        have hk := HX.out _ (List.getElem_mem hlt)
        obtain ⟨cc0, _, _⟩ := hrow j hlt
        rw [← hwr] at cc0
        have HWR : Hid (wr = w2) := hwr
        clear hwr hrow
        generalize X[j].kind = K at cc0 hk
        go_wp2_with fail
        go_roundw
        case rel => exact ⟨j + 1, by omega, by go_num, HWR.out⟩
        case measure => simp [intOf]; omega
      · have hjN : j = X.length := by omega
        subst hjN
        subst hwr
        go_wp2_with fail
        go_loopw [8] (fun i wr2 => ∃ j : Nat, j ≤ Y.length ∧ i = .int .i64 j ∧ wr2 = wr) (fun i _ => Y.length - (intOf i).toNat)
        case atStart => exact ⟨0, Nat.zero_le _, rfl, rfl⟩
        case round =>
          obtain ⟨j, hj, rfl, hwr⟩ := hrel
          by_cases hlt : j < Y.length
          · rcases HS.out.2.2.2 with h0 | ⟨b, o, rfl, hrow⟩
            · rw [h0] at hlt; exact absurd hlt (Nat.not_lt_zero _)
            have hk := HY.out _ (List.getElem_mem hlt)
            obtain ⟨cc0, _, _⟩ := hrow j hlt
            rw [← hwr] at cc0
            have HWR := hidM hwr
            clear hwr hrow
            generalize Y[j].kind = K at cc0 hk
            go_wp2_with fail
            go_roundw
            case rel => exact ⟨j + 1, by omega, by go_num, HWR.out⟩
            case measure => simp [intOf]; omega
          · have hjN : j = Y.length := by omega
            subst hjN
            subst hwr
            cases q
            · go_wp2_with fail
              refine (HSP.out _ (Below.refl _ _)).mono ?_
              rintro e w3 ⟨rfl, hb3⟩
              have HB3 := hidM hb3
              clear hb3
              go_wp2_with fail
              go_ret
              exact ⟨rfl, HS.out.1.trans (HB3.out.mono HS.out.1.size)⟩
            · have hq2 := HQ.out rfl
              rw [hq2.1] at HIA
              rw [hq2.2] at HIB
              clear hq2
              go_wp2_with fail
              refine (HSP.out _ (Below.refl _ _)).mono ?_
              rintro e w3 ⟨rfl, hb3⟩
              have HB3 := hidM hb3
              clear hb3
              go_wp2_with fail
              refine (HIA.out _ HB3.out).mono ?_
              rintro e w4 ⟨rfl, hb4⟩
              have HB4 := hidM hb4
              clear hb4
              go_wp2_with fail
              refine (HIB.out _ HB4.out).mono ?_
              rintro e w5 ⟨rfl, hb5⟩
              have HB5 := hidM hb5
              clear hb5
              go_wp2_with fail
              go_ret
              exact ⟨rfl, HS.out.1.trans (HB5.out.mono HS.out.1.size)⟩
end Go.Proofs.Ytnfncdoiabgdjaa.Tv
namespace Go.Proofs.Ytnfncdoiabgdjaa.fnDue
open Go.ChangeShapes Go.WideShapes Go.ChangeAt Go.RowKit
set_option linter.unusedVariables false

theorem own : ownKnob Try.prog.godebug = none := by kernel_rfl
theorem laidOut : laidOutB Try.prog = true := by kernel_rfl

theorem row_len {w : World} {a : Option Addr} {len cap : Nat} {zs : List Int} (h : IsRow w a len cap zs) : len ≤ cap ∧ cap ≤ maxLen := by
  rcases h with ⟨_, rfl, rfl, _⟩ | ⟨_, _, h1, h2, _⟩
  · exact ⟨Nat.le_refl _, Nat.zero_le _⟩
  · exact ⟨h1, h2⟩

set_option maxRecDepth 100000 in
theorem lifted (os : Os) (started : os.Started) (H : Type) (enc : TypeId × Value → H) :
    ReturnsInHanded {} Try.checked os 4 .any (Rows.fnDueSpec.pre6 enc Try.prog Try.f4 Rows.fnDueRow.domain false) (Rows.fnDueSpec.post enc Try.prog Try.f4 false true false false) := by
  refine returnsInHanded_of_change (C := Try.checked) own started (by kernel_rfl) Try.func4
    (ChangeSpec.witness6 (enc := enc) (C := Try.checked) false ⟨#[], #[.slice none 0 0], []⟩ 8 (by kernel_rfl) (by kernel_rfl) (by kernel_rfl) (by kernel_rfl)) ?_
  intro W base args ds gs before hval0 hW hcnd _
  have hval : ∀ (j : Nat) t v, Try.f4.params[j]? = some t → args[j]? = some v → Value.okWide Try.prog W .any base t v := hval0
  have hW' := hW
  obtain ⟨p, q, hA0, hV, rfl, hfz, hnd⟩ := hW
  have hA : DataW.TrodAll enc Try.prog W 0 (fun _ => true) true Try.f4.params.toList args.toList ds p := hA0
  rw [Try.params4] at hA hval
  obtain ⟨v0, vs0, d0, ds0, p0, q0, hargs, rfl, rfl, h0, r0⟩ := trodAll_cons hA
  obtain ⟨rfl, rfl, rfl⟩ := trodAll_nil r0
  obtain rfl : args = #[v0] := by cases args; simp_all
  obtain ⟨rfl, rfl⟩ := trodVars_none hV
  obtain ⟨a0, len0, cap0, rfl⟩ := okWide_slice Try.underlying22 (hval 0 22 v0 rfl rfl)
  have k0 := h0
  have lt0 : ∀ x ∈ p0, x.block < W.heap.size := by obtain ⟨m, hm⟩ := k0; exact DataW.trod_lt m _ _ _ hm
  obtain ⟨z0, w0⟩ : ∃ zs, IsRow W a0 len0 cap0 zs := by
    obtain ⟨fuel, hf⟩ := h0
    rcases open_ints Try.underlying22 Try.underlying5 (by kernel_rfl) hf with ⟨hcs, _⟩ | ⟨x, l, c, zs, hcs, _, hl, hm, hz, _, hcell, hwz⟩
    · simp [Value.cells] at hcs
      obtain ⟨rfl, rfl, rfl⟩ := hcs
      exact ⟨[], .inl ⟨rfl, rfl, rfl, rfl⟩⟩
    · simp [Value.cells] at hcs
      obtain ⟨rfl, rfl, rfl⟩ := hcs
      exact ⟨zs, .inr ⟨_, rfl, hl, hm, by simpa using hz, hcell, hwz⟩⟩
  clear hA0 hval0
  refine (Tv.due_law W a0 len0 cap0 z0 w0 (row_len w0).1 (row_len w0).2).mono fun e W' ⟨he, bel⟩ => ?_
  subst he
  exact ⟨_, rfl, _, _, _, [], _, [], hW', trodAll_mk1 (shut_bool Try.underlying4 _), (trodAll_cons_mk (Below.trod laidOut (by kernel_rfl) (of_decide_eq_true (by kernel_rfl)) k0 bel lt0) trodAll_mk0), rfl, bel.frame _, fun h => by cases h⟩

theorem over : Rows.fnDueRow.holds Try.pinned (OpenSpec.ofChange Rows.fnDueSpec) :=
  OpenClaim.holds_of_wide 4 Try.f4 rfl rfl rfl rfl rfl rfl rfl ⟨rfl, rfl, rfl, rfl, rfl⟩ rfl rfl rfl rfl rfl (by kernel_rfl) Try.func4 (by kernel_rfl)
    (of_decide_eq_true (by kernel_rfl)) (by unfold Func.isWrapper; first | (rw [if_pos (by decide +kernel)]; kernel_rfl) | (rw [if_neg (by decide +kernel)]; exact ⟨rfl, rfl⟩))
    (fun os started H enc _ => lifted os started H enc)
end Go.Proofs.Ytnfncdoiabgdjaa.fnDue
namespace Go.Proofs.Ytnfncdoiabgdjaa
theorem fnDue_holds : Rows.FnDueSaid := fnDue.over
#print axioms fnDue_holds
end Go.Proofs.Ytnfncdoiabgdjaa
