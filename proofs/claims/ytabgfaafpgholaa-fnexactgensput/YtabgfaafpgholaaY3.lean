/-
  What is marked is found marked (marks up to nine millions).
-/
import Derived.Test.YtabgfaafpgholaaY2
import Derived.Deep.RegionWith
namespace Go.Proofs.Ytabgfaafpgholaa
open Go.RowKit
set_option linter.unusedVariables false

theorem mrL_get : ∀ (l : List Tm) (K i : Nat) (h : i < (mrL l K).length) (h' : i < l.length), (mrL l K)[i] = mrT l[i] (K + cL (l.take i))
  | [], K, i, h, h' => absurd h' (by simp)
  | t :: r, K, i, h, h' => by
    cases i with
    | zero => simp [mrL, cL]
    | succ j =>
      have hj : j < r.length := by simpa using h'
      have := mrL_get r (K + cT t) j (by rw [mrL_len]; exact hj) hj
      simp only [mrL, List.getElem_cons_succ, this, List.take_succ_cons, cL]
      rw [Nat.add_assoc]
theorem bundrewM {W w3 : World} (hb : Below W.drew.heap.size W.drew w3) : Below W.heap.size W w3 := ⟨hb.os, hb.tape, hb.output, hb.size, hb.block⟩
theorem repL_below {w w' : World} {l : List Tm} {ao : Option Addr} (h : RepL 0 w l ao) (hb : Below w.heap.size w w') : RepL 0 w' l ao := (Keeps.below hb 0).repL _ _ h

end Go.Proofs.Ytabgfaafpgholaa
