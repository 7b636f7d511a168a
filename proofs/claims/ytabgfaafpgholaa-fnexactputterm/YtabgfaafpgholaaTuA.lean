/-
  What a turn of one block leaves.
-/
import Derived.Test.YtabgfaafpgholaaCurA
import Derived.Deep.OwnRows
namespace Go.Proofs.Ytabgfaafpgholaa
open Go.RowKit
set_option linter.unusedVariables false

theorem Turn.grown {cb : Nat} {w w' : World} (t : Turn cb w w') : w.grownBy w' (some cb) := ⟨t.os, t.tape, t.output, t.size, fun k hk hn => t.block k hk (fun e => hn (by rw [e]))⟩


theorem Cur.same {cb : Nat} {ao : Option Addr} {len cap : Nat} {zs : List Int} {w w' : World} (h : Cur cb ao len cap zs w) (hs : ∀ b, b ≤ cb → w'.heap[b]? = w.heap[b]?) : Cur cb ao len cap zs w' := by
  have e : ∀ b o, b ≤ cb → w'.cell? ⟨b, o, none⟩ = w.cell? ⟨b, o, none⟩ := fun b o hb => World.cell?_of_block (w := w) (hs b hb)
  obtain ⟨i, hi, h1⟩ := h.c1
  obtain ⟨x, h2⟩ := h.c2
  refine ⟨by rw [e _ _ (Nat.le_refl _)]; exact h.c0, ⟨i, hi, by rw [e _ _ (Nat.le_refl _)]; exact h1⟩, ⟨x, by rw [e _ _ (Nat.le_refl _)]; exact h2⟩, fun o => by rw [World.frozen?_of_block (w := w) (hs cb (Nat.le_refl _))]; exact h.free o, fun hn => ?_, h.rng, h.small⟩
  obtain ⟨b, off, e1, e2, e3⟩ := h.code hn
  exact ⟨b, off, e1, e2, fun j hj => by rw [e _ _ (Nat.le_of_lt e2)]; exact e3 j hj⟩


end Go.Proofs.Ytabgfaafpgholaa
