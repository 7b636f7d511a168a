/-
  Of every code the drawn words are a heap for the program just if each root is a term, and just if the specification says so: the law FnHeapOk returns true and its argument reads as before. No condition.
  (Ahead of it, in this text: The law FnHeapOk, walked.)
-/
import Derived.Test.YthdoamdjhpkimaaPuO
import Derived.OpenShut
import Derived.ChangeOld
namespace Go.Proofs.Ythdoamdjhpkimaa
open Go.RowKit
set_option linter.unusedVariables false

theorem keep4n {wr w5 : World} {a b c d : Value} {t : TypeId} (hb : Below (wr.alloc (.cells #[a, b, c, d] t)).drew.heap.size (wr.alloc (.cells #[a, b, c, d] t)).drew w5) :
    (∀ o, w5.cell? ⟨wr.heap.size, o, none⟩ = (#[a, b, c, d] : Array Value)[o]?) ∧ (∀ o, w5.frozen? ⟨wr.heap.size, o, none⟩ = false) := by
  have hs : (wr.alloc (.cells #[a, b, c, d] t)).drew.heap.size = wr.heap.size + 1 := World.size_alloc _ _
  refine ⟨fun o => ?_, fun o => ?_⟩
  · rw [hb.cell (p := ⟨wr.heap.size, o, none⟩) (by show wr.heap.size < _; omega)]
    exact World.cell?_alloc_new wr _ _ o
  · rw [hb.frozen (p := ⟨wr.heap.size, o, none⟩) (by show wr.heap.size < _; omega)]
    exact World.frozen?_alloc_new wr _ _ o
theorem below_set4 {w3 wr w5 : World} (h : Below w3.heap.size w3 w5) (hr : w3.heap.size ≤ wr.heap.size) (a b c d : Value) :
    Below w3.heap.size w3 ((((w5.setCell ⟨wr.heap.size, 0, none⟩ a).setCell ⟨wr.heap.size, 1, none⟩ b).setCell ⟨wr.heap.size, 2, none⟩ c).setCell ⟨wr.heap.size, 3, none⟩ d) :=
  (((h.setCell hr _).setCell hr _).setCell hr _).setCell hr _
set_option maxHeartbeats 8000000 in
set_option maxRecDepth 100000 in
theorem heapOk_walk (w : World) (ao : Option Addr) (len cap : Nat) (zs : List Int) (hr : IsRow w ao len cap zs) (hlc : len ≤ cap) (hcm : cap ≤ maxLen) :
    Calls Try.prog 4 #[.slice ao len cap] w fun e w' => e = .returned (.bool true) ∧ Below w.heap.size w w' := by
  have HR : Hid (IsRow w ao len cap zs) := hr
  have HL : Hid (len ≤ maxLen) := Nat.le_trans hlc hcm
  clear hr hlc hcm
  go_enter Try.func4, Try.ntmps4
  go_wp2_with fail
  refine (big5_any ao len cap HL.out w).mono ?_
  rintro e w' ⟨rfl, hw'⟩
  obtain rfl := hw'.symm
  by_cases hbig : 1048576 < len
  · have hd : decide (1048576 < len) = true := by simp [hbig]
    rw [hd]
    go_wp2_with fail
    go_ret
    exact ⟨rfl, Below.refl _ _⟩
  have hd : decide (1048576 < len) = false := by simp [hbig]
  rw [hd]
  have HSM : Hid (len ≤ 1048576) := by show _ ≤ _; omega
  clear hd hbig
  go_wp2_with fail
  refine (drawHeapOk_any w ao len cap zs HR.out HSM.out).mono ?_
  rintro e w1 ⟨p, b, r, xs, ga, ca, A, gr, cr, ws, rfl, h1, hb1⟩
  have HB1 : Hid (Below w.heap.size w w1) := hb1
  have H1 : Hid (Hp5 w1 p b r xs ga A gr ws) := h1
  clear hb1 h1
  go_wp2_with fail
  generalize hW2 : w1.alloc (.cells #[.slice p xs.length r] 26) = w2
  have hb2 : Below w1.heap.size w1 w2 := by rw [← hW2]; exact (Below.refl _ _).alloc (Nat.le_refl _) _
  have c2 : w2.cell? ⟨w1.heap.size, 0, none⟩ = some (.slice p xs.length r) := by rw [← hW2]; exact World.cell?_alloc_new w1 _ _ 0
  have H2 : Hid (Hp5 w2 p b r xs ga A gr ws) := H1.out.below hb2
  have HB2 : Hid (Below w.heap.size w w2) := bjoin HB1.out hb2
  generalize w1.heap.size = X at *
  clear hW2 hb2
  have HK : Hid (Calls Try.prog 16 #[.agg #[.slice p xs.length r], .slice (some ⟨ga, 0, none⟩) A.length ca, .slice (some ⟨gr, 0, none⟩) ws.length cr] w2 fun e w' => e = .returned (.bool (heapB (env5 p b r xs ga ca A).H ws)) ∧ Below w2.heap.size w2 w') :=
    implHeapOk_any (env5 p b r xs ga ca A) w2 (H2.out.src ca) H2.out.lst (some ⟨gr, 0, none⟩) cr ws H2.out.roots (by have := H2.out.wl; omega) H2.out.big
  refine HK.out.mono ?_
  rintro e w3 ⟨rfl, hb3⟩
  have c3 : w3.cell? ⟨X, 0, none⟩ = some (.slice p xs.length r) := by rw [hb3.cell (p := ⟨X, 0, none⟩) (World.block_lt_of_cell? _ _ c2)]; exact c2
  have H3 : Hid (Hp5 w3 p b r xs ga A gr ws) := H2.out.below hb3
  have HB3 : Hid (Below w.heap.size w w3) := bjoin HB2.out hb3
  have HSP : Hid (∀ w', Below w3.heap.size w3 w' → Calls Try.prog 17 #[.agg #[.slice p xs.length r], .slice (some ⟨ga, 0, none⟩) A.length ca, .slice (some ⟨gr, 0, none⟩) ws.length cr] w' fun e w'' => e = .returned (.bool (heapB (env5 p b r xs ga ca A).H ws)) ∧ Below w'.heap.size w' w'') := fun w' hb' =>
    specHeapOk_any (env5 p b r xs ga ca A) w' ((H3.out.below hb').src ca) (some ⟨gr, 0, none⟩) cr ws (H3.out.below hb').roots (by have := H3.out.wl; omega) H3.out.big
  have HC3 : Hid (∀ w', Below w3.heap.size w3 w' → w'.cell? ⟨X, 0, none⟩ = some (.slice p xs.length r)) := fun w' hb' => by rw [hb'.cell (p := ⟨X, 0, none⟩) (World.block_lt_of_cell? _ _ c3)]; exact c3
  have hwl : ws.length ≤ 6 := H3.out.wl
  have hw0 : 0 < ws.length := List.length_pos_iff.2 H3.out.wn
  clear hb3 c2 HK H2 HB2 H1 HB1
  cases hB : heapB (env5 p b r xs ga ca A).H ws with
  | false =>
    have HBF : Hid (heapB (env5 p b r xs ga ca A).H ws = false) := hB
    clear hB
    go_wp2_with fail
    go_loopw [7] (fun i wr => i = .int .i64 0 ∧ wr = w3) (fun _ _ => 0)
    case atStart => exact ⟨rfl, rfl⟩
    case round =>
      obtain ⟨rfl, rfl⟩ := hrel
      have hlt : (0 : Int) < (ws.length : Int) := by omega
      go_wp2_with (go_at_call 17; refine (HSP.out _ (Below.refl _ _)).mono ?_; rintro e w5 ⟨rfl, hb5⟩; rw [HBF.out]; have HB5 : Hid (Below w.heap.size w w5) := bjoin HB3.out hb5; clear hb5)
      go_ret
      exact ⟨rfl, HB5.out⟩
  | true =>
    have HBF : Hid (heapB (env5 p b r xs ga ca A).H ws = true) := hB
    have HRD : Hid (∀ w', Below w3.heap.size w3 w' → ∀ j (hj : j < ws.length), Calls Try.prog 11 #[.agg #[.slice p xs.length r], .slice (some ⟨ga, 0, none⟩) A.length ca, .int .i64 ws[j]] w' fun e w'' => ∃ a b c d e' f, e = .returned (.tuple #[.agg #[.int .i64 a, .int .i64 b, .string c, .slice d e' f], .bool true]) ∧ Below w'.heap.size w' w'') := fun w' hb' j hj => by
      have hs : (readT (env5 p b r xs ga ca A).H ws[j]).isSome = true := by
        have h0 := HBF.out
        unfold heapB at h0
        rw [Bool.and_eq_true, List.all_eq_true] at h0
        exact h0.2 ws[j] (List.getElem_mem hj)
      have hc : Calls Try.prog 11 #[.agg #[.slice p xs.length r], .slice (some ⟨ga, 0, none⟩) A.length ca, .int .i64 ws[j]] w' _ := Gn.implRead_any (env5 p b r xs ga ca A) w' ((H3.out.below hb').src ca) H3.out.lst ws[j] (H3.out.big _ (List.getElem_mem hj))
      refine hc.mono ?_
      rintro e w'' ⟨hb, ⟨t, v, _, rfl, hv⟩ | ⟨hn, _⟩⟩
      · obtain ⟨a, b, c, d, e', f, rfl⟩ := hv.form
        exact ⟨a, b, c, d, e', f, rfl, hb⟩
      · rw [hn] at hs; cases hs
    clear hB
    go_wp2_with fail
    go_loopw [7] (fun i wr => ∃ j : Nat, i = .int .i64 j ∧ j ≤ ws.length ∧ Below w3.heap.size w3 wr) (fun i _ => ws.length - (intOf i).toNat)
    case atStart => exact ⟨0, rfl, Nat.zero_le _, Below.refl _ _⟩
    case round =>
      obtain ⟨j, rfl, hj, hbr⟩ := hrel
      have HBR : Hid (Below w3.heap.size w3 wr) := hbr
      have c4 := HC3.out wr hbr
      by_cases hlt : j < ws.length
      · have hlti : (j : Int) < (ws.length : Int) := by omega
        obtain ⟨y, r4, hrj⟩ : ∃ y, wr.cell? ⟨gr, j, none⟩ = some (.int .i64 y) ∧ ∀ w', Below w3.heap.size w3 w' → Calls Try.prog 11 #[.agg #[.slice p xs.length r], .slice (some ⟨ga, 0, none⟩) A.length ca, .int .i64 y] w' fun e w'' => ∃ a b c d e' f, e = .returned (.tuple #[.agg #[.int .i64 a, .int .i64 b, .string c, .slice d e' f], .bool true]) ∧ Below w'.heap.size w' w'' := ⟨_, (H3.out.below hbr).rt j hlt, fun w' hb' => HRD.out w' hb' j hlt⟩
        have hX : X < wr.heap.size := World.block_lt_of_cell? _ _ c4
        have hG : gr < wr.heap.size := World.block_lt_of_cell? _ _ r4
        have c4a : (wr.alloc (.cells #[.int .i64 0, .int .i64 0, .string ⟨#[]⟩, .slice none 0 0] 32)).cell? ⟨X, 0, none⟩ = some (.slice p xs.length r) := by rw [World.cell?_alloc_lt (h := hX)]; exact c4
        have r4a : (wr.alloc (.cells #[.int .i64 0, .int .i64 0, .string ⟨#[]⟩, .slice none 0 0] 32)).cell? ⟨gr, j, none⟩ = some (.int .i64 y) := by rw [World.cell?_alloc_lt (h := hG)]; exact r4
        have nX : ¬ X = wr.heap.size := by omega
        have nG : ¬ gr = wr.heap.size := by omega
        have KW : Hid (Below w3.heap.size w3 wr.drew ∧ Below w3.heap.size w3 (wr.alloc (.cells #[.int .i64 0, .int .i64 0, .string ⟨#[]⟩, .slice none 0 0] 32)).drew) := ⟨hbr.drew, (hbr.alloc hbr.size _).drew⟩
        have HLT : Hid (j < ws.length) := hlt
        have HRJ : Hid (∀ w', Below w3.heap.size w3 w' → Calls Try.prog 11 #[.agg #[.slice p xs.length r], .slice (some ⟨ga, 0, none⟩) A.length ca, .int .i64 y] w' fun e w'' => ∃ a b c d e' f, e = .returned (.tuple #[.agg #[.int .i64 a, .int .i64 b, .string c, .slice d e' f], .bool true]) ∧ Below w'.heap.size w' w'') := hrj
        clear hrj hbr hX hG
        go_wp2_with fail
        go_cut [8, 9] from 22 to 42 (fun v8 v9 wx => ∃ k : Nat, v8 = .pointer (some ⟨k, 0, none⟩) ∧ v9 = .bool true ∧ Below w3.heap.size w3 wx)
        case first =>
          go_region_law (go_simp; go_wp2_with (
            (go_at_call 11; first
              | ((conv in (World.alloc wr (.cells #[.int .i64 0, .int .i64 0, .string ⟨#[]⟩, .slice none 0 0] 32)) => skip); refine (HRJ.out _ KW.out.2).mono ?_; rintro e w5 ⟨a5, b5, cc5, d5, e5, f5, rfl, hb5⟩; obtain ⟨q5, z5⟩ := keep4n hb5; have HB5 : Hid (Below w3.heap.size w3 w5) := bjoin KW.out.2 hb5; clear hb5)
              | (refine (HRJ.out _ KW.out.1).mono ?_; rintro e w5 ⟨a5, b5, cc5, d5, e5, f5, rfl, hb5⟩; have HB5 : Hid (Below w3.heap.size w3 w5) := bjoin KW.out.1 hb5; clear hb5))))
          all_goals
            go_wp2_with fail
            go_meet
            case rel =>
              refine ⟨_, rfl, rfl, ?_⟩
              first
                | exact HB5.out.alloc HB5.out.size _
                | exact below_set4 HB5.out HBR.out.size _ _ _ _
        case rest =>
          obtain ⟨k, rfl, rfl, hwx⟩ := hcut
          have HWX : Hid (Below w3.heap.size w3 wc) := hwx
          clear hwx
          have V1 : IntKind.i64.wrap ((j : Int) + 1) = (j : Int) + 1 := by rw [IntKind.wrap_i64]; omega
          go_wp2_with fail
          go_roundw
          case rel => exact ⟨j + 1, by congr 1, by have := HLT.out; omega, HWX.out⟩
          case measure => simp [intOf]; have := HLT.out; omega
      · have hlti : ¬ (j : Int) < (ws.length : Int) := by omega
        go_wp2_with (go_at_call 17; refine (HSP.out _ HBR.out).mono ?_; rintro e w5 ⟨rfl, hb5⟩; rw [HBF.out]; have HB5 : Hid (Below w.heap.size w w5) := bjoin (bjoin HB3.out HBR.out) hb5; clear hb5)
        go_ret
        exact ⟨rfl, HB5.out⟩
end Go.Proofs.Ythdoamdjhpkimaa
namespace Go.Proofs.Ythdoamdjhpkimaa.fnHeapOk
open Go.ChangeShapes Go.WideShapes Go.ChangeAt Go.RowKit
set_option linter.unusedVariables false

theorem own : ownKnob Try.prog.godebug = none := by kernel_rfl
theorem laidOut : laidOutB Try.prog = true := by kernel_rfl

theorem row_len {w : World} {a : Option Addr} {len cap : Nat} {zs : List Int} (h : IsRow w a len cap zs) : len ≤ cap ∧ cap ≤ maxLen := by
  rcases h with ⟨_, rfl, rfl, _⟩ | ⟨_, _, h1, h2, _⟩
  · exact ⟨Nat.le_refl _, Nat.zero_le _⟩
  · exact ⟨h1, h2⟩

set_option maxRecDepth 100000 in
theorem lifted (os : Os) (started : os.Started) (H : Type) (enc : TypeId × Value → H) :
    ReturnsInHanded {} Try.checked os 4 .any (Rows.fnHeapOkSpec.pre6 enc Try.prog Try.f4 Rows.fnHeapOkRow.domain false) (Rows.fnHeapOkSpec.post enc Try.prog Try.f4 false true false false) := by
  refine returnsInHanded_of_change (C := Try.checked) own started (by kernel_rfl) Try.func4
    (ChangeSpec.witness6 (enc := enc) (C := Try.checked) false ⟨#[], #[.slice none 0 0], []⟩ 8 (by kernel_rfl) (by kernel_rfl) (by kernel_rfl) (by kernel_rfl)) ?_
  intro W base args ds gs before hval0 hW hcnd _
  have hval : ∀ (j : Nat) t v, Try.f4.params[j]? = some t → args[j]? = some v → Value.okWide Try.prog W .any base t v := hval0
  have hW' := hW
  obtain ⟨p, q, hA0, hV, rfl, hfz, hnd⟩ := hW
  have hA : DataW.TrodAll enc Try.prog W 0 (fun _ => true) true Try.f4.params.toList args.toList ds p := hA0
  rw [Try.params4] at hA hval
  obtain ⟨v0, vs0, d0, ds0, p0, q0, hargs, rfl, rfl, h0, r0⟩ := trodAll_cons hA
  obtain ⟨rfl, rfl, rfl⟩ := trodAll_nil r0
  obtain rfl : args = #[v0] := by cases args; simp_all
  obtain ⟨rfl, rfl⟩ := trodVars_none hV
  obtain ⟨a0, len0, cap0, rfl⟩ := okWide_slice Try.underlying22 (hval 0 22 v0 rfl rfl)
  have k0 := h0
  have lt0 : ∀ x ∈ p0, x.block < W.heap.size := by obtain ⟨m, hm⟩ := k0; exact DataW.trod_lt m _ _ _ hm
  obtain ⟨z0, w0⟩ : ∃ zs, IsRow W a0 len0 cap0 zs := by
    obtain ⟨fuel, hf⟩ := h0
    rcases open_ints Try.underlying22 Try.underlying5 (by kernel_rfl) hf with ⟨hcs, _⟩ | ⟨x, l, c, zs, hcs, _, hl, hm, hz, _, hcell, hwz⟩
    · simp [Value.cells] at hcs
      obtain ⟨rfl, rfl, rfl⟩ := hcs
      exact ⟨[], .inl ⟨rfl, rfl, rfl, rfl⟩⟩
    · simp [Value.cells] at hcs
      obtain ⟨rfl, rfl, rfl⟩ := hcs
      exact ⟨zs, .inr ⟨_, rfl, hl, hm, by simpa using hz, hcell, hwz⟩⟩
  clear hA0 hval0
  refine (heapOk_walk W a0 len0 cap0 z0 w0 (row_len w0).1 (row_len w0).2).mono fun e W' ⟨he, bel⟩ => ?_
  subst he
  exact ⟨_, rfl, _, _, _, [], _, [], hW', trodAll_mk1 (shut_bool Try.underlying4 _), (trodAll_cons_mk (Below.trod laidOut (by kernel_rfl) (of_decide_eq_true (by kernel_rfl)) k0 bel lt0) trodAll_mk0), rfl, bel.frame _, fun h => by cases h⟩

theorem over : Rows.fnHeapOkRow.holds Try.pinned (OpenSpec.ofChange Rows.fnHeapOkSpec) :=
  OpenClaim.holds_of_wide 4 Try.f4 rfl rfl rfl rfl rfl rfl rfl ⟨rfl, rfl, rfl, rfl, rfl⟩ rfl rfl rfl rfl rfl (by kernel_rfl) Try.func4 (by kernel_rfl)
    (of_decide_eq_true (by kernel_rfl)) (by unfold Func.isWrapper; first | (rw [if_pos (by decide +kernel)]; kernel_rfl) | (rw [if_neg (by decide +kernel)]; exact ⟨rfl, rfl⟩))
    (fun os started H enc _ => lifted os started H enc)
end Go.Proofs.Ythdoamdjhpkimaa.fnHeapOk
namespace Go.Proofs.Ythdoamdjhpkimaa
theorem fnHeapOk_holds : Rows.FnHeapOkSaid := fnHeapOk.over
#print axioms fnHeapOk_holds
end Go.Proofs.Ythdoamdjhpkimaa
