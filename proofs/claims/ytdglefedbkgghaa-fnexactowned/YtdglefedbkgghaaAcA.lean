/-
  Actors: lists of terms that are right, links that are right: the specification's and the program's.
-/
import Derived.Test.YtdglefedbkgghaaTmI
import Derived.Test.YtdglefedbkgghaaInA
import Derived.Test.YtdglefedbkgghaaInn
namespace Go.Proofs.Ytdglefedbkgghaa
open Go.RowKit Atom
set_option linter.unusedVariables false

def okT (t : Tm) : Bool := (look t 6 100).isSome
def allOk (l : List Tm) : Bool := l.all okT
theorem allOk_take {l : List Tm} {k : Nat} (h : k < l.length) (ha : allOk (l.take k) = true) : allOk (l.take (k + 1)) = okT l[k] := by
  unfold allOk at *
  rw [List.take_succ_eq_append_getElem h, List.all_append, ha]; simp
theorem allOk_no {l : List Tm} {k : Nat} (h : k < l.length) (ha : okT l[k] = false) : allOk l = false := by
  unfold allOk
  rw [List.all_eq_false]
  exact ⟨l[k], List.getElem_mem h, by rw [ha]; simp⟩

end Go.Proofs.Ytdglefedbkgghaa
