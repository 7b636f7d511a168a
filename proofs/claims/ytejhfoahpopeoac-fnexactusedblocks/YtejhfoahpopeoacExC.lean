/-
  Whatever arena a law is handed lies in memory as a row of numbers.
-/
import Derived.Test.YtejhfoahpopeoacExB
import Derived.OpenShut
import Derived.ChangeOld
namespace Go.Proofs.Ytejhfoahpopeoac
open Go.RowKit Go.ChangeShapes Go.WideShapes Go.ChangeAt
set_option linter.unusedVariables false

theorem cellsLawArena : Try.prog.cellsOf 24 = 1 := by kernel_rfl
theorem cellsInts : Try.prog.cellsOf 22 = 1 := by kernel_rfl
theorem arena_open {H : Type} {enc : TypeId × Value → H} {w : World} {base : Nat} {spare : Nat → Bool} {held : Bool} (fuel : Nat) (cs : List Value) (x : DataW H × List MemPlace) (h : DataW.trod enc Try.prog w base spare held fuel 24 cs = some x) :
    ∃ (ao : Option Addr) (N cap : Nat) (f : Nat → Int), cs = [.slice ao N cap] ∧ Rd w ao N f ∧ N ≤ cap ∧ cap ≤ maxLen := by
  obtain ⟨xs, m, hfu, _, hl, hlen, hf⟩ := DataW.trod_struct Try.underlying24 h
  rw [cellsLawArena] at hl
  match cs, hl, xs, hlen with
  | [v0], _, [y0], _ =>
    have h0 : DataW.trod enc Try.prog w base spare held m 22 (([v0].drop 0).take (Try.prog.cellsOf 22)) = some y0 := hf 0 _ rfl
    rw [cellsInts] at h0
    have g0 : DataW.trod enc Try.prog w base spare held m 22 [v0] = some y0 := h0
    rcases open_ints Try.underlying22 Try.underlying3 (by kernel_rfl) g0 with ⟨hcs, _⟩ | ⟨a, l, c, zs, hcs, _, hle, hm, hz, _, hcell, hwz⟩
    · simp only [List.cons.injEq, and_true] at hcs
      subst hcs
      exact ⟨none, 0, 0, fun _ => 0, rfl, Rd.nil _ _ _, Nat.le_refl _, Nat.zero_le _⟩
    · simp only [List.cons.injEq, and_true] at hcs
      subst hcs
      refine ⟨some a, l, c, fun j => zs.getD j 0, rfl, fun hn => ?_, hle, hm⟩
      have hzl : l ≤ zs.length := by rw [hz]; split <;> omega
      obtain ⟨b, off, spot⟩ := a
      have q0 := hcell 0 (by omega)
      have hs : spot = none := by simpa [Addr.add] using World.cell?_spot q0
      subst hs
      refine ⟨b, off, rfl, fun j hj => ?_⟩
      have := hcell j (by omega)
      rw [Addr.add_lit] at this
      exact this

end Go.Proofs.Ytejhfoahpopeoac
