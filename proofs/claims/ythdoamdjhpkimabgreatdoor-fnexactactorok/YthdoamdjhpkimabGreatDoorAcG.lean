/-
  An actor that came in, opened.
-/
import Derived.Test.YthdoamdjhpkimabGreatDoorAcC
import Derived.Test.YthdoamdjhpkimabGreatDoorTmJ
import Derived.SliceStrings
import Derived.OpenShut
import Derived.ChangeOld
namespace Go.Proofs.YthdoamdjhpkimabGreatDoor
open Go.ChangeShapes Go.WideShapes Go.ChangeAt Go.RowKit
set_option linter.unusedVariables false

theorem cellsInts9 : Tryz.prog.cellsOf 24 = 1 := by kernel_rfl
theorem cellsActor9 : Tryz.prog.cellsOf 26 = 5 := by kernel_rfl
set_option maxRecDepth 100000 in
theorem ints_open9 {H : Type} {enc : TypeId × Value → H} {w : World} {base : Nat} {spare : Nat → Bool} {held : Bool} (m : Nat) (v0 : Value) (y0 : DataW H × List MemPlace) (g0 : DataW.trod enc Tryz.prog w base spare held m 24 [v0] = some y0) :
    ∃ (ao : Option Addr) (N cap : Nat) (f : Nat → Int), v0 = .slice ao N cap ∧ RdI w ao N f ∧ N ≤ cap ∧ cap ≤ maxLen := by
  rcases open_ints Tryz.underlying24 Tryz.underlying3 (by kernel_rfl) g0 with ⟨hcs, _⟩ | ⟨a, l, c, zs, hcs, _, hle, hm, hz, _, hcell, hwz⟩
  · simp only [List.cons.injEq, and_true] at hcs
    subst hcs
    exact ⟨none, 0, 0, fun _ => 0, rfl, fun h => absurd rfl h, Nat.le_refl _, Nat.zero_le _⟩
  · simp only [List.cons.injEq, and_true] at hcs
    subst hcs
    refine ⟨some a, l, c, fun j => zs.getD j 0, rfl, fun hn => ?_, hle, hm⟩
    have hzl : l ≤ zs.length := by rw [hz]; split <;> omega
    obtain ⟨b, off, spot⟩ := a
    have q0 := hcell 0 (by omega)
    have hs : spot = none := by simpa [Addr.add] using World.cell?_spot q0
    subst hs
    refine ⟨b, off, rfl, fun j hj => ?_⟩
    have := hcell j (by omega)
    rw [Addr.add_lit] at this
    exact this

set_option maxRecDepth 100000 in
theorem open_actor {H : Type} {enc : TypeId × Value → H} {W : World} {r : Reach} {b0 base : Nat} {sp : Nat → Bool} {held : Bool} {v : Value} {d : DataW H} {p : List MemPlace}
    (hv : Value.okWide Tryz.prog W r b0 26 v) (h : DataW.Trod enc Tryz.prog W base sp held 26 v d p) :
    ∃ (a : Ac) (g : Wh), v = acV a g ∧ AcR W a g := by
  obtain ⟨cs, rfl, hsz⟩ := okWide_struct Tryz.underlying26 hv
  obtain ⟨fuel, hf⟩ := h
  obtain ⟨xs, n, _, _, hl, hlen, hf⟩ := DataW.trod_struct Tryz.underlying26 hf
  rw [cellsActor9] at hsz
  obtain ⟨l⟩ := cs
  have hl5 : l.length = 5 := hsz
  match l, hl5, xs, hlen with
  | [v0, v1, v2, v3, v4], _, [y0, y1, y2, y3, y4], _ =>
    have k0 : DataW.trod enc Tryz.prog W base sp held n 3 ((([v0, v1, v2, v3, v4] : List Value).drop 0).take (Tryz.prog.cellsOf 3)) = some y0 := hf 0 _ rfl
    have k1 : DataW.trod enc Tryz.prog W base sp held n 3 ((([v0, v1, v2, v3, v4] : List Value).drop 1).take (Tryz.prog.cellsOf 3)) = some y1 := hf 1 _ rfl
    have k2 : DataW.trod enc Tryz.prog W base sp held n 23 ((([v0, v1, v2, v3, v4] : List Value).drop 2).take (Tryz.prog.cellsOf 23)) = some y2 := hf 2 _ rfl
    have k3 : DataW.trod enc Tryz.prog W base sp held n 23 ((([v0, v1, v2, v3, v4] : List Value).drop 3).take (Tryz.prog.cellsOf 23)) = some y3 := hf 3 _ rfl
    have k4 : DataW.trod enc Tryz.prog W base sp held n 24 ((([v0, v1, v2, v3, v4] : List Value).drop 4).take (Tryz.prog.cellsOf 24)) = some y4 := hf 4 _ rfl
    rw [cellsInt] at k0 k1
    rw [cellsTms] at k2 k3
    rw [cellsInts9] at k4
    have g0 : DataW.trod enc Tryz.prog W base sp held n 3 [v0] = some y0 := k0
    have g1 : DataW.trod enc Tryz.prog W base sp held n 3 [v1] = some y1 := k1
    obtain ⟨pid, e0, _, _⟩ := DataW.trod_int Tryz.underlying3 g0
    obtain ⟨pc, e1, _, _⟩ := DataW.trod_int Tryz.underlying3 g1
    simp only [List.cons.injEq, and_true] at e0 e1
    subst e0 e1
    obtain ⟨regs, ra, rc, rfl, r0, r1, r2⟩ := terms_open n v2 y2 k2
    obtain ⟨box, ba, bc, rfl, b0, b1, b2⟩ := terms_open n v3 y3 k3
    obtain ⟨la, N, lc, f, rfl, l0, l1, l2⟩ := ints_open9 n v4 y4 k4
    exact ⟨⟨pid, pc, regs, box, N, f⟩, ⟨ra, rc, ba, bc, la, lc⟩, rfl, r0, b0, l0, r1, r2, b1, b2, l1, l2⟩
end Go.Proofs.YthdoamdjhpkimabGreatDoor
