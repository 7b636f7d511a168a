/-
  Whatever arena a law is handed lies in memory as a row of numbers.
-/
import Derived.Test.YtejhfoahpopeoabExB
import Derived.OpenShut
import Derived.ChangeOld
namespace Go.Proofs.Ytejhfoahpopeoab
open Go.RowKit Go.ChangeShapes Go.WideShapes Go.ChangeAt
set_option linter.unusedVariables false

theorem cellsLawArena : Try.prog.cellsOf 40 = 1 := by kernel_rfl
theorem cellsInts : Try.prog.cellsOf 24 = 1 := by kernel_rfl
theorem arena_open {H : Type} {enc : TypeId × Value → H} {w : World} {base : Nat} {spare : Nat → Bool} {held : Bool} (fuel : Nat) (cs : List Value) (x : DataW H × List MemPlace) (h : DataW.trod enc Try.prog w base spare held fuel 40 cs = some x) :
    ∃ (ao : Option Addr) (N cap : Nat) (f : Nat → Int), cs = [.slice ao N cap] ∧ Rd w ao N f ∧ N ≤ cap ∧ cap ≤ maxLen := by
  obtain ⟨xs, m, hfu, _, hl, hlen, hf⟩ := DataW.trod_struct Try.underlying40 h
  rw [cellsLawArena] at hl
  match cs, hl, xs, hlen with
  | [v0], _, [y0], _ =>
    have h0 : DataW.trod enc Try.prog w base spare held m 24 (([v0].drop 0).take (Try.prog.cellsOf 24)) = some y0 := hf 0 _ rfl
    rw [cellsInts] at h0
    have g0 : DataW.trod enc Try.prog w base spare held m 24 [v0] = some y0 := h0
    rcases open_ints Try.underlying24 Try.underlying3 (by kernel_rfl) g0 with ⟨hcs, _⟩ | ⟨a, l, c, zs, hcs, _, hle, hm, hz, _, hcell, hwz⟩
    · simp only [List.cons.injEq, and_true] at hcs
      subst hcs
      exact ⟨none, 0, 0, fun _ => 0, rfl, Rd.nil _ _ _, Nat.le_refl _, Nat.zero_le _⟩
    · simp only [List.cons.injEq, and_true] at hcs
      subst hcs
      refine ⟨some a, l, c, fun j => zs.getD j 0, rfl, fun hn => ?_, hle, hm⟩
      have hzl : l ≤ zs.length := by rw [hz]; split <;> omega
      obtain ⟨b, off, spot⟩ := a
      have q0 := hcell 0 (by omega)
      have hs : spot = none := by simpa [Addr.add] using World.cell?_spot q0
      subst hs
      refine ⟨b, off, rfl, fun j hj => ?_⟩
      have := hcell j (by omega)
      rw [Addr.add_lit] at this
      exact this

set_option maxRecDepth 100000 in
/-- The frame of a law over one arena, about its walk. -/
theorem audit_lifted (walk : ∀ (ao : Option Addr) (N cap : Nat) (f : Nat → Int) (w : World), Rd w ao N f → N ≤ maxLen → Calls Try.prog 7 #[.agg #[.slice ao N cap]] w fun e w' => e = .returned (.bool true) ∧ Below w.heap.size w w')
    (own : ownKnob Try.prog.godebug = none) (laidOut : laidOutB Try.prog = true) (os : Os) (started : os.Started) (H : Type) (enc : TypeId × Value → H) :
    ReturnsInHanded {} Try.checked os 7 .any (Rows.fnExactAuditSpec.pre6 enc Try.prog Try.f7 Rows.fnExactAuditRow.domain false) (Rows.fnExactAuditSpec.post enc Try.prog Try.f7 false true false false) := by
  refine returnsInHanded_of_change (C := Try.checked) own started (by kernel_rfl) Try.func7
    (ChangeSpec.witness6 (enc := enc) (C := Try.checked) false ⟨#[], #[.agg #[.slice none 0 0]], []⟩ 8 (by kernel_rfl) (by kernel_rfl) (by kernel_rfl) (by kernel_rfl)) ?_
  intro W base args ds gs before hval0 hW hcnd _
  have hval : ∀ (j : Nat) t v, Try.f7.params[j]? = some t → args[j]? = some v → Value.okWide Try.prog W .any base t v := hval0
  have hW' := hW
  obtain ⟨p, q, hA0, hV, rfl, hfz, hnd⟩ := hW
  have hA : DataW.TrodAll enc Try.prog W 0 (fun _ => true) true Try.f7.params.toList args.toList ds p := hA0
  rw [Try.params7] at hA hval
  obtain ⟨v0, vs0, d0, ds0, p0, q0, hargs, rfl, rfl, h0, r0⟩ := trodAll_cons hA
  obtain ⟨rfl, rfl, rfl⟩ := trodAll_nil r0
  obtain rfl : args = #[v0] := by cases args; simp_all
  obtain ⟨rfl, rfl⟩ := trodVars_none hV
  obtain ⟨cs, rfl, hsz⟩ := okWide_struct Try.underlying40 (hval 0 40 v0 rfl rfl)
  have k0 := h0
  have lt0 : ∀ x ∈ p0, x.block < W.heap.size := by obtain ⟨m, hm⟩ := k0; exact DataW.trod_lt m _ _ _ hm
  obtain ⟨ao, N, cap, f, rfl, hr, hle, hm⟩ : ∃ (ao : Option Addr) (N cap : Nat) (f : Nat → Int), cs = #[.slice ao N cap] ∧ Rd W ao N f ∧ N ≤ cap ∧ cap ≤ maxLen := by
    obtain ⟨fuel, hf⟩ := h0
    obtain ⟨ao, N, cap, f, e, h1, h2, h3⟩ := arena_open fuel _ _ hf
    refine ⟨ao, N, cap, f, ?_, h1, h2, h3⟩
    obtain ⟨l⟩ := cs
    simpa [Value.cells] using e
  clear hA0 hval0
  refine (walk ao N cap f W hr (Nat.le_trans hle hm)).mono fun e W' ⟨he, bel⟩ => ?_
  subst he
  exact ⟨_, rfl, _, _, _, [], _, [], hW', trodAll_mk1 (shut_bool Try.underlying4 _), (trodAll_cons_mk (Below.trod laidOut (by kernel_rfl) (of_decide_eq_true (by kernel_rfl)) k0 bel lt0) trodAll_mk0), rfl, bel.frame _, fun h => by cases h⟩
end Go.Proofs.Ytejhfoahpopeoab
