/-
  At every arena the program's UsedBlocks answers as the specification's, writes into nothing, and its answer is its own memory: the law FnExactUsedBlocks returns true and its argument reads as before. No condition.
-/
import Derived.Test.YtejhfoahpopeoacExG
import Derived.OpenShut
import Derived.ChangeOld
namespace Go.Proofs.Ytejhfoahpopeoac.fnExactUsedBlocks
open Go.RowKit Go.ChangeShapes Go.WideShapes Go.ChangeAt
set_option linter.unusedVariables false

theorem own : ownKnob Try.prog.godebug = none := by kernel_rfl
theorem laidOut : laidOutB Try.prog = true := by kernel_rfl

set_option maxRecDepth 100000 in
theorem lifted (os : Os) (started : os.Started) (H : Type) (enc : TypeId × Value → H) :
    ReturnsInHanded {} Try.checked os 3 .any (Rows.fnExactUsedBlocksSpec.pre6 enc Try.prog Try.f3 Rows.fnExactUsedBlocksRow.domain false) (Rows.fnExactUsedBlocksSpec.post enc Try.prog Try.f3 false true false false) := by
  refine returnsInHanded_of_change (C := Try.checked) own started (by kernel_rfl) Try.func3
    (ChangeSpec.witness6 (enc := enc) (C := Try.checked) false ⟨#[], #[.agg #[.slice none 0 0]], []⟩ 8 (by kernel_rfl) (by kernel_rfl) (by kernel_rfl) (by kernel_rfl)) ?_
  intro W base args ds gs before hval0 hW hcnd _
  have hval : ∀ (j : Nat) t v, Try.f3.params[j]? = some t → args[j]? = some v → Value.okWide Try.prog W .any base t v := hval0
  have hW' := hW
  obtain ⟨p, q, hA0, hV, rfl, hfz, hnd⟩ := hW
  have hA : DataW.TrodAll enc Try.prog W 0 (fun _ => true) true Try.f3.params.toList args.toList ds p := hA0
  rw [Try.params3] at hA hval
  obtain ⟨v0, vs0, d0, ds0, p0, q0, hargs, rfl, rfl, h0, r0⟩ := trodAll_cons hA
  obtain ⟨rfl, rfl, rfl⟩ := trodAll_nil r0
  obtain rfl : args = #[v0] := by cases args; simp_all
  obtain ⟨rfl, rfl⟩ := trodVars_none hV
  obtain ⟨cs, rfl, hsz⟩ := okWide_struct Try.underlying24 (hval 0 24 v0 rfl rfl)
  have k0 := h0
  have lt0 : ∀ x ∈ p0, x.block < W.heap.size := by obtain ⟨m, hm⟩ := k0; exact DataW.trod_lt m _ _ _ hm
  obtain ⟨ao, N, cap, f, rfl, hr, hle, hm⟩ : ∃ (ao : Option Addr) (N cap : Nat) (f : Nat → Int), cs = #[.slice ao N cap] ∧ Rd W ao N f ∧ N ≤ cap ∧ cap ≤ maxLen := by
    obtain ⟨fuel, hf⟩ := h0
    obtain ⟨ao, N, cap, f, e, h1, h2, h3⟩ := arena_open fuel _ _ hf
    refine ⟨ao, N, cap, f, ?_, h1, h2, h3⟩
    obtain ⟨l⟩ := cs
    simpa [Value.cells] using e
  clear hA0 hval0
  refine (used_law specUsed_any implUsed_any (fun N f => by have h1 := usd_len (bk f N 0); have h2 := bk_len4 f N; omega) ao N cap f W hr (Nat.le_trans hle hm)).mono fun e W' ⟨he, bel⟩ => ?_
  subst he
  exact ⟨_, rfl, _, _, _, [], _, [], hW', trodAll_mk1 (shut_bool Try.underlying4 _), (trodAll_cons_mk (Below.trod laidOut (by kernel_rfl) (of_decide_eq_true (by kernel_rfl)) k0 bel lt0) trodAll_mk0), rfl, bel.frame _, fun h => by cases h⟩

theorem over : Rows.fnExactUsedBlocksRow.holds Try.pinned (OpenSpec.ofChange Rows.fnExactUsedBlocksSpec) :=
  OpenClaim.holds_of_wide 3 Try.f3 rfl rfl rfl rfl rfl rfl rfl ⟨rfl, rfl, rfl, rfl, rfl⟩ rfl rfl rfl rfl rfl (by kernel_rfl) Try.func3 (by kernel_rfl)
    (of_decide_eq_true (by kernel_rfl)) (by unfold Func.isWrapper; first | (rw [if_pos (by decide +kernel)]; kernel_rfl) | (rw [if_neg (by decide +kernel)]; exact ⟨rfl, rfl⟩))
    (fun os started H enc _ => lifted os started H enc)
end Go.Proofs.Ytejhfoahpopeoac.fnExactUsedBlocks
namespace Go.Proofs.Ytejhfoahpopeoac
theorem fnExactUsedBlocks_holds : Rows.FnExactUsedBlocksSaid := fnExactUsedBlocks.over
#print axioms fnExactUsedBlocks_holds
end Go.Proofs.Ytejhfoahpopeoac
