/-
  At every pair of lists with its mark, every list of atoms and every term that memory can hold, right or not, the program's GensPut answers as the specification's: the same lists, the same mark, the same atoms, the same word, or the same refusal; it writes into no argument, and its answer owns its memory. The law FnExactGensPut returns true and its arguments read as before. No condition.
-/
import Derived.Test.YtabgfaafpgholaaY19
import Derived.Test.YtabgfaafpgholaaY20
import Derived.OpenShut
import Derived.ChangeOld
import Derived.SliceStrings
import Derived.ShutString
namespace Go.Proofs.Ytabgfaafpgholaa.fnExactGensPut
open Go.RowKit Go.ChangeShapes Go.WideShapes Go.ChangeAt
set_option linter.unusedVariables false

theorem own : ownKnob Try.prog.godebug = none := by kernel_rfl
theorem laidOut : laidOutB Try.prog = true := by kernel_rfl
theorem cellsGens : Try.prog.cellsOf 58 = 3 := by kernel_rfl
theorem cellsInt : Try.prog.cellsOf 3 = 1 := by kernel_rfl
theorem cellsInts : Try.prog.cellsOf 22 = 1 := by kernel_rfl
theorem ints_open {H : Type} {enc : TypeId × Value → H} {w : World} {base : Nat} {spare : Nat → Bool} {held : Bool} (m : Nat) (v0 : Value) (y0 : DataW H × List MemPlace) (g0 : DataW.trod enc Try.prog w base spare held m 22 [v0] = some y0) :
    ∃ (ao : Option Addr) (N cap : Nat) (f : Nat → Int), v0 = .slice ao N cap ∧ RdI w ao N f ∧ N ≤ cap ∧ cap ≤ maxLen ∧ ∀ j, f j ≤ 9223372036854775807 := by
  rcases open_ints Try.underlying22 Try.underlying3 (by kernel_rfl) g0 with ⟨hcs, _⟩ | ⟨a, l, c, zs, hcs, _, hle, hm, hz, _, hcell, hwz⟩
  · simp only [List.cons.injEq, and_true] at hcs
    subst hcs
    exact ⟨none, 0, 0, fun _ => 0, rfl, fun h => absurd rfl h, Nat.le_refl _, Nat.zero_le _, fun _ => (by show (0 : Int) ≤ _; decide)⟩
  · simp only [List.cons.injEq, and_true] at hcs
    subst hcs
    refine ⟨some a, l, c, fun j => zs.getD j 0, rfl, fun hn => ?_, hle, hm, fun j => ?_⟩
    · have hzl : l ≤ zs.length := by rw [hz]; split <;> omega
      obtain ⟨b, off, spot⟩ := a
      have q0 := hcell 0 (by omega)
      have hs : spot = none := by simpa [Addr.add] using World.cell?_spot q0
      subst hs
      refine ⟨b, off, rfl, fun j hj => ?_⟩
      have := hcell j (by omega)
      rw [Addr.add_lit] at this
      exact this
    · show zs.getD j 0 ≤ _
      by_cases hj : j < zs.length
      · have e : zs.getD j 0 = zs[j] := by simp [hj]
        rw [e]
        exact i64_le (hwz _ (List.getElem_mem hj))
      · have e : zs.getD j 0 = 0 := by simp [hj]
        rw [e]; decide
set_option maxRecDepth 100000 in
theorem gens_open {H : Type} {enc : TypeId × Value → H} {w : World} {base : Nat} {spare : Nat → Bool} {held : Bool} (fuel : Nat) (cs : List Value) (x : DataW H × List MemPlace) (h : DataW.trod enc Try.prog w base spare held fuel 58 cs = some x) :
    ∃ (ao : Option Addr) (N cap : Nat) (f : Nat → Int) (yo : Option Addr) (M ycap : Nat) (fy : Nat → Int) (mk : Int), cs = [.slice ao N cap, .slice yo M ycap, .int .i64 mk] ∧ RdI w ao N f ∧ N ≤ cap ∧ cap ≤ maxLen ∧ (∀ j, f j ≤ 9223372036854775807) ∧ RdI w yo M fy ∧ M ≤ ycap ∧ ycap ≤ maxLen ∧ (∀ j, fy j ≤ 9223372036854775807) := by
  obtain ⟨xs, m, hfu, _, hl, hlen, hf⟩ := DataW.trod_struct Try.underlying58 h
  rw [cellsGens] at hl
  match cs, hl, xs, hlen with
  | [v0, v1, v2], _, [y0, y1, y2], _ =>
    have h0 : DataW.trod enc Try.prog w base spare held m 22 (([v0, v1, v2].drop 0).take (Try.prog.cellsOf 22)) = some y0 := hf 0 _ rfl
    have h1 : DataW.trod enc Try.prog w base spare held m 22 (([v0, v1, v2].drop 1).take (Try.prog.cellsOf 22)) = some y1 := hf 1 _ rfl
    have h2 : DataW.trod enc Try.prog w base spare held m 3 (([v0, v1, v2].drop 2).take (Try.prog.cellsOf 3)) = some y2 := hf 2 _ rfl
    rw [cellsInts] at h0 h1
    rw [cellsInt] at h2
    have g0 : DataW.trod enc Try.prog w base spare held m 22 [v0] = some y0 := h0
    have g1 : DataW.trod enc Try.prog w base spare held m 22 [v1] = some y1 := h1
    have g2 : DataW.trod enc Try.prog w base spare held m 3 [v2] = some y2 := h2
    obtain ⟨ao, N, cap, f, rfl, a1, a2, a3, a4⟩ := ints_open m v0 y0 g0
    obtain ⟨yo, M, ycap, fy, rfl, b1, b2, b3, b4⟩ := ints_open m v1 y1 g1
    obtain ⟨mk, e2, _, _⟩ := DataW.trod_int Try.underlying3 g2
    obtain rfl : v2 = .int .i64 mk := by simpa using e2
    exact ⟨ao, N, cap, f, yo, M, ycap, fy, mk, rfl, a1, a2, a3, a4, b1, b2, b3, b4⟩

set_option maxRecDepth 100000 in
theorem lifted (os : Os) (started : os.Started) (H : Type) (enc : TypeId × Value → H) :
    ReturnsInHanded {} Try.checked os 5 .any (Rows.fnExactGensPutSpec.pre6 enc Try.prog Try.f5 Rows.fnExactGensPutRow.domain false) (Rows.fnExactGensPutSpec.post enc Try.prog Try.f5 false true false false) := by
  refine returnsInHanded_of_change (C := Try.checked) own started (by kernel_rfl) Try.func5
    (ChangeSpec.witness6 (enc := enc) (C := Try.checked) false ⟨#[], #[.agg #[.slice none 0 0, .slice none 0 0, .int .i64 0], .slice none 0 0, .agg #[.int .i64 0, .int .i64 0, .string ByteArray.empty, .slice none 0 0]], []⟩ 8 (by kernel_rfl) (by kernel_rfl) (by kernel_rfl) (by kernel_rfl)) ?_
  intro W base args ds gs before hval0 hW hcnd _
  have hval : ∀ (j : Nat) t v, Try.f5.params[j]? = some t → args[j]? = some v → Value.okWide Try.prog W .any base t v := hval0
  have hW' := hW
  obtain ⟨p, q, hA0, hV, rfl, hfz, hnd⟩ := hW
  have hA : DataW.TrodAll enc Try.prog W 0 (fun _ => true) true Try.f5.params.toList args.toList ds p := hA0
  rw [Try.params5] at hA hval
  obtain ⟨v0, vs0, d0, ds0, p0, q0, hargs, rfl, rfl, h0, r0⟩ := trodAll_cons hA
  obtain ⟨v1, vs1, d1, ds1, p1, q1, rfl, rfl, rfl, h1, r1⟩ := trodAll_cons r0
  obtain ⟨v2, vs2, d2, ds2, p2, q2, rfl, rfl, rfl, h2, r2⟩ := trodAll_cons r1
  obtain ⟨rfl, rfl, rfl⟩ := trodAll_nil r2
  obtain rfl : args = #[v0, v1, v2] := by cases args; simp_all
  obtain ⟨rfl, rfl⟩ := trodVars_none hV
  obtain ⟨cs, rfl, hsz0⟩ := okWide_struct Try.underlying58 (hval 0 58 v0 rfl rfl)
  obtain ⟨av, len, acap, rfl⟩ := okWide_slice Try.underlying25 (hval 1 25 v1 rfl rfl)
  obtain ⟨cs2, rfl, hsz2⟩ := okWide_struct Try.underlying28 (hval 2 28 v2 rfl rfl)
  have k2 := h2
  have lt2 : ∀ x ∈ p2, x.block < W.heap.size := by obtain ⟨m, hm⟩ := k2; exact DataW.trod_lt m _ _ _ hm
  obtain ⟨t, hv⟩ : ∃ t, RepV 0 W t (.agg cs2) := by
    obtain ⟨fuel, hf⟩ := h2
    obtain ⟨t, k, n, s, ao, len, cap, e, hv⟩ := rep_of_trod fuel _ _ hf
    have e' : cs2 = #[.int .i64 k, .int .i64 n, .string s, .slice ao len cap] := by
      obtain ⟨l⟩ := cs2
      simpa [Value.cells] using e
    exact ⟨t, by rw [e']; exact hv⟩
  have k0 := h0
  have k1 := h1
  have lt0 : ∀ x ∈ p0, x.block < W.heap.size := by obtain ⟨m, hm⟩ := k0; exact DataW.trod_lt m _ _ _ hm
  have lt1 : ∀ x ∈ p1, x.block < W.heap.size := by obtain ⟨m, hm⟩ := k1; exact DataW.trod_lt m _ _ _ hm
  obtain ⟨ao, N, cap, f, yo, M, ycap, fy, mk, rfl, hr, hle, hm, hfb, hry, hley, hmy, hfby⟩ : ∃ (ao : Option Addr) (N cap : Nat) (f : Nat → Int) (yo : Option Addr) (M ycap : Nat) (fy : Nat → Int) (mk : Int), cs = #[.slice ao N cap, .slice yo M ycap, .int .i64 mk] ∧ RdI W ao N f ∧ N ≤ cap ∧ cap ≤ maxLen ∧ (∀ j, f j ≤ 9223372036854775807) ∧ RdI W yo M fy ∧ M ≤ ycap ∧ ycap ≤ maxLen ∧ (∀ j, fy j ≤ 9223372036854775807) := by
    obtain ⟨fuel, hf⟩ := h0
    obtain ⟨ao, N, cap, f, yo, M, ycap, fy, mk, e, hh⟩ := gens_open fuel _ _ hf
    refine ⟨ao, N, cap, f, yo, M, ycap, fy, mk, ?_, hh⟩
    obtain ⟨l⟩ := cs
    simpa [Value.cells] using e
  obtain ⟨L, hL, hrT, hsz, hmL⟩ : ∃ L : List ByteArray, len = L.length ∧ RdT W av L ∧ (∀ x ∈ L, x.size ≤ maxLen) ∧ L.length ≤ maxLen := by
    obtain ⟨fuel, hf⟩ := h1
    rcases open_strings Try.underlying25 Try.underlying9 (by kernel_rfl) hf with ⟨hcs, hx⟩ | ⟨a, len2, cap2, ss, hcs, _, hl, hmm, hz, hx, hcell, hs⟩
    · have e : (Value.slice av len acap) = .slice none 0 0 := by simpa [Value.cells] using hcs
      cases e
      exact ⟨[], rfl, fun h => absurd rfl h, fun x hx => by simp at hx, Nat.zero_le _⟩
    · have e : (Value.slice av len acap) = .slice (some a) len2 cap2 := by simpa [Value.cells] using hcs
      cases e
      have hzl : len ≤ ss.length := by rw [hz]; split <;> omega
      have hln : (ss.take len).length = len := by simp; omega
      refine ⟨ss.take len, hln.symm, fun hn => ?_, fun x hx => hs x (List.mem_of_mem_take hx), by rw [hln]; exact Nat.le_trans hl hmm⟩
      obtain ⟨b, off, spot⟩ := a
      have q0 := hcell 0 (by omega)
      have hsp : spot = none := by simpa [Addr.add] using World.cell?_spot q0
      subst hsp
      refine ⟨b, off, rfl, fun j hj => ?_⟩
      have hj2 : j < ss.length := by omega
      have := hcell j hj2
      rw [Addr.add_lit, List.getD_eq_getElem?_getD, List.getElem?_eq_getElem hj2] at this
      rw [List.getElem_take]
      exact this
  subst hL
  clear hA0 hval0
  refine (walk ao N cap f yo M ycap fy mk av acap L t _ W hr hry (Nat.le_trans hle hm) (Nat.le_trans hley hmy) hrT hmL hsz hv).mono fun e W' ⟨he, bel⟩ => ?_
  subst he
  exact ⟨_, rfl, _, _, _, [], _, [], hW', trodAll_mk1 (shut_bool Try.underlying4 _), (trodAll_cons_mk (Below.trod laidOut (by kernel_rfl) (of_decide_eq_true (by kernel_rfl)) k0 bel lt0) (trodAll_cons_mk (Below.trod laidOut (by kernel_rfl) (of_decide_eq_true (by kernel_rfl)) k1 bel lt1) (trodAll_cons_mk (Below.trod laidOut (by kernel_rfl) (of_decide_eq_true (by kernel_rfl)) k2 bel lt2) trodAll_mk0))), rfl, bel.frame _, fun h => by cases h⟩

theorem over : Rows.fnExactGensPutRow.holds Try.pinned (OpenSpec.ofChange Rows.fnExactGensPutSpec) :=
  OpenClaim.holds_of_wide 5 Try.f5 rfl rfl rfl rfl rfl rfl rfl ⟨rfl, rfl, rfl, rfl, rfl⟩ rfl rfl rfl rfl rfl (by kernel_rfl) Try.func5 (by kernel_rfl)
    (of_decide_eq_true (by kernel_rfl)) (by unfold Func.isWrapper; first | (rw [if_pos (by decide +kernel)]; kernel_rfl) | (rw [if_neg (by decide +kernel)]; exact ⟨rfl, rfl⟩))
    (fun os started H enc _ => lifted os started H enc)
end Go.Proofs.Ytabgfaafpgholaa.fnExactGensPut
namespace Go.Proofs.Ytabgfaafpgholaa
theorem fnExactGensPut_holds : Rows.FnExactGensPutSaid := fnExactGensPut.over
#print axioms fnExactGensPut_holds
end Go.Proofs.Ytabgfaafpgholaa
