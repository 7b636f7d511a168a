/-
  An instruction that came in, opened; what the frames of the laws on code share.
-/
import Derived.Test.YtcpodedmeeihhaaDoorCoL
import Derived.Test.YtcpodedmeeihhaaDoorCoM
namespace Go.Proofs.YtcpodedmeeihhaaDoor.Code
open Go.ChangeShapes Go.WideShapes Go.ChangeAt Go.RowKit
set_option linter.unusedVariables false

set_option maxRecDepth 100000 in
theorem open_ins {H : Type} {enc : TypeId × Value → H} {W : World} {r : Reach} {b0 base : Nat} {sp : Nat → Bool} {held : Bool} {v : Value} {d : DataW H} {p : List MemPlace}
    (hv : Value.okWide Tryd.prog W r b0 39 v) (h : DataW.Trod enc Tryd.prog W base sp held 39 v d p) :
    ∃ (op a b c n : Int) (s : ByteArray), v = .agg #[.int .i64 op, .int .i64 a, .int .i64 b, .int .i64 c, .int .i64 n, .string s] ∧ s.size ≤ maxLen ∧ (Lit.int .i64 op).wf = true ∧ (Lit.int .i64 a).wf = true ∧ (Lit.int .i64 b).wf = true ∧ (Lit.int .i64 c).wf = true ∧ (Lit.int .i64 n).wf = true := by
  obtain ⟨cs, rfl, hsz⟩ := okWide_struct Tryd.underlying39 hv
  obtain ⟨fuel, hf⟩ := h
  obtain ⟨xs, n, _, _, hl, hlen, hf⟩ := DataW.trod_struct Tryd.underlying39 hf
  have c6 : Tryd.prog.cellsOf 39 = 6 := by kernel_rfl
  have c1 : Tryd.prog.cellsOf 3 = 1 := by kernel_rfl
  have cs1 : Tryd.prog.cellsOf 9 = 1 := by kernel_rfl
  rw [c6] at hsz
  obtain ⟨l⟩ := cs
  have hl6 : l.length = 6 := hsz
  match l, hl6 with
  | [v0, v1, v2, v3, v4, v5], _ =>
    have hl' : xs.length = 6 := hlen
    have g : ∀ i, i < 6 → xs[i]? = some (xs.getD i (.nil, [])) := fun i hi => by
      rw [List.getD_eq_getElem?_getD, List.getElem?_eq_getElem (by omega)]; rfl
    have k0 : DataW.trod enc Tryd.prog W base sp held n 3 ((([v0, v1, v2, v3, v4, v5] : List Value).drop 0).take (Tryd.prog.cellsOf 3)) = some (xs.getD 0 (.nil, [])) := (hf 0 _ rfl).trans (g 0 (by omega))
    have k1 : DataW.trod enc Tryd.prog W base sp held n 3 ((([v0, v1, v2, v3, v4, v5] : List Value).drop 1).take (Tryd.prog.cellsOf 3)) = some (xs.getD 1 (.nil, [])) := (hf 1 _ rfl).trans (g 1 (by omega))
    have k2 : DataW.trod enc Tryd.prog W base sp held n 3 ((([v0, v1, v2, v3, v4, v5] : List Value).drop 2).take (Tryd.prog.cellsOf 3)) = some (xs.getD 2 (.nil, [])) := (hf 2 _ rfl).trans (g 2 (by omega))
    have k3 : DataW.trod enc Tryd.prog W base sp held n 3 ((([v0, v1, v2, v3, v4, v5] : List Value).drop 3).take (Tryd.prog.cellsOf 3)) = some (xs.getD 3 (.nil, [])) := (hf 3 _ rfl).trans (g 3 (by omega))
    have k4 : DataW.trod enc Tryd.prog W base sp held n 3 ((([v0, v1, v2, v3, v4, v5] : List Value).drop 4).take (Tryd.prog.cellsOf 3)) = some (xs.getD 4 (.nil, [])) := (hf 4 _ rfl).trans (g 4 (by omega))
    have k5 : DataW.trod enc Tryd.prog W base sp held n 9 ((([v0, v1, v2, v3, v4, v5] : List Value).drop 5).take (Tryd.prog.cellsOf 9)) = some (xs.getD 5 (.nil, [])) := (hf 5 _ rfl).trans (g 5 (by omega))
    simp only [c1, cs1, List.drop, List.take] at k0 k1 k2 k3 k4 k5
    obtain ⟨o, e0, _, w0⟩ := DataW.trod_int Tryd.underlying3 k0
    obtain ⟨a, e1, _, w1⟩ := DataW.trod_int Tryd.underlying3 k1
    obtain ⟨b, e2, _, w2⟩ := DataW.trod_int Tryd.underlying3 k2
    obtain ⟨c, e3, _, w3⟩ := DataW.trod_int Tryd.underlying3 k3
    obtain ⟨m, e4, _, w4⟩ := DataW.trod_int Tryd.underlying3 k4
    obtain ⟨s, e5, _, hs⟩ := DataW.trod_string Tryd.underlying9 k5
    simp only [List.cons.injEq, and_true] at e0 e1 e2 e3 e4 e5
    exact ⟨o, a, b, c, m, s, by rw [e0, e1, e2, e3, e4, e5], hs, w0, w1, w2, w3, w4⟩
end Go.Proofs.YtcpodedmeeihhaaDoor.Code
