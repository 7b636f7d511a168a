/-
  A cell that came in, opened.
-/
import Derived.Test.YtjjmikfbongccaaCeA
import Derived.SliceStrings
import Derived.OpenShut
import Derived.ChangeOld
namespace Go.Proofs.Ytjjmikfbongccaa
open Go.ChangeShapes Go.WideShapes Go.ChangeAt Go.RowKit
set_option linter.unusedVariables false

theorem cellsIntC : Try.prog.cellsOf 3 = 1 := by kernel_rfl
theorem cellsIntsC : Try.prog.cellsOf 22 = 1 := by kernel_rfl
theorem cellsCellC : Try.prog.cellsOf 24 = 6 := by kernel_rfl
set_option maxRecDepth 100000 in
theorem ints_openC {H : Type} {enc : TypeId × Value → H} {w : World} {base : Nat} {spare : Nat → Bool} {held : Bool} (m : Nat) (v0 : Value) (y0 : DataW H × List MemPlace) (g0 : DataW.trod enc Try.prog w base spare held m 22 [v0] = some y0) :
    ∃ (ao : Option Addr) (N cap : Nat) (f : Nat → Int), v0 = .slice ao N cap ∧ RdI w ao N f ∧ N ≤ cap ∧ cap ≤ maxLen := by
  rcases open_ints Try.underlying22 Try.underlying3 (by kernel_rfl) g0 with ⟨hcs, _⟩ | ⟨a, l, c, zs, hcs, _, hle, hm, hz, _, hcell, hwz⟩
  · simp only [List.cons.injEq, and_true] at hcs
    subst hcs
    exact ⟨none, 0, 0, fun _ => 0, rfl, fun h => absurd rfl h, Nat.le_refl _, Nat.zero_le _⟩
  · simp only [List.cons.injEq, and_true] at hcs
    subst hcs
    refine ⟨some a, l, c, fun j => zs.getD j 0, rfl, fun hn => ?_, hle, hm⟩
    have hzl : l ≤ zs.length := by rw [hz]; split <;> omega
    obtain ⟨b, off, spot⟩ := a
    have q0 := hcell 0 (by omega)
    have hs : spot = none := by simpa [Addr.add] using World.cell?_spot q0
    subst hs
    refine ⟨b, off, rfl, fun j hj => ?_⟩
    have := hcell j (by omega)
    rw [Addr.add_lit] at this
    exact this

set_option maxRecDepth 100000 in
theorem open_cell {H : Type} {enc : TypeId × Value → H} {W : World} {r : Reach} {b0 base : Nat} {sp : Nat → Bool} {held : Bool} {v : Value} {d : DataW H} {p : List MemPlace}
    (hv : Value.okWide Try.prog W r b0 24 v) (h : DataW.Trod enc Try.prog W base sp held 24 v d p) :
    ∃ (c : Ce) (g : Cw), v = ceV c g ∧ CeR W c g ∧ c.R ≤ maxLen ∧ c.B ≤ maxLen ∧ c.N ≤ maxLen := by
  obtain ⟨cs, rfl, hsz⟩ := okWide_struct Try.underlying24 hv
  obtain ⟨fuel, hf⟩ := h
  obtain ⟨xs, n, _, _, hl, hlen, hf⟩ := DataW.trod_struct Try.underlying24 hf
  rw [cellsCellC] at hsz
  obtain ⟨l⟩ := cs
  have hl6 : l.length = 6 := hsz
  match l, hl6, xs, hlen with
  | [v0, v1, v2, v3, v4, v5], _, [y0, y1, y2, y3, y4, y5], _ =>
    have k0 : DataW.trod enc Try.prog W base sp held n 3 ((([v0, v1, v2, v3, v4, v5] : List Value).drop 0).take (Try.prog.cellsOf 3)) = some y0 := hf 0 _ rfl
    have k1 : DataW.trod enc Try.prog W base sp held n 3 ((([v0, v1, v2, v3, v4, v5] : List Value).drop 1).take (Try.prog.cellsOf 3)) = some y1 := hf 1 _ rfl
    have k2 : DataW.trod enc Try.prog W base sp held n 22 ((([v0, v1, v2, v3, v4, v5] : List Value).drop 2).take (Try.prog.cellsOf 22)) = some y2 := hf 2 _ rfl
    have k3 : DataW.trod enc Try.prog W base sp held n 22 ((([v0, v1, v2, v3, v4, v5] : List Value).drop 3).take (Try.prog.cellsOf 22)) = some y3 := hf 3 _ rfl
    have k4 : DataW.trod enc Try.prog W base sp held n 22 ((([v0, v1, v2, v3, v4, v5] : List Value).drop 4).take (Try.prog.cellsOf 22)) = some y4 := hf 4 _ rfl
    have k5 : DataW.trod enc Try.prog W base sp held n 3 ((([v0, v1, v2, v3, v4, v5] : List Value).drop 5).take (Try.prog.cellsOf 3)) = some y5 := hf 5 _ rfl
    rw [cellsIntC] at k0 k1 k5
    rw [cellsIntsC] at k2 k3 k4
    have g0 : DataW.trod enc Try.prog W base sp held n 3 [v0] = some y0 := k0
    have g1 : DataW.trod enc Try.prog W base sp held n 3 [v1] = some y1 := k1
    have g5 : DataW.trod enc Try.prog W base sp held n 3 [v5] = some y5 := k5
    obtain ⟨pid, e0, _, _⟩ := DataW.trod_int Try.underlying3 g0
    obtain ⟨pc, e1, _, _⟩ := DataW.trod_int Try.underlying3 g1
    obtain ⟨ha, e5, _, _⟩ := DataW.trod_int Try.underlying3 g5
    simp only [List.cons.injEq, and_true] at e0 e1 e5
    subst e0 e1 e5
    obtain ⟨ra, R, rc, r, rfl, r0, r1, r2⟩ := ints_openC n v2 y2 k2
    obtain ⟨ba, B, bc, b, rfl, b0, b1, b2⟩ := ints_openC n v3 y3 k3
    obtain ⟨la, N, lc, f, rfl, l0, l1, l2⟩ := ints_openC n v4 y4 k4
    exact ⟨⟨pid, pc, R, r, B, b, N, f, ha⟩, ⟨ra, rc, ba, bc, la, lc⟩, rfl, ⟨r0, b0, l0⟩, Nat.le_trans r1 r2, Nat.le_trans b1 b2, Nat.le_trans l1 l2⟩
end Go.Proofs.Ytjjmikfbongccaa
