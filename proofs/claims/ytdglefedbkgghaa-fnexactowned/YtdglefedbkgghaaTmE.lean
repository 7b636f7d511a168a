/-
  What is right of a term but for what is in its L: l1Shape and rightAlone answer the same.
-/
import Derived.Test.YtdglefedbkgghaaTmB
import Derived.Test.YtdglefedbkgghaaAtB
import Derived.Deep.RegionWith
import Derived.BigQuiet
namespace Go.Proofs.Ytdglefedbkgghaa
open Go.RowKit Atom

def shapeB (k n : Int) (s : ByteArray) (len : Nat) : Bool :=
  if k = 1 then inB n (-1000000) 1000000 && decide (s.toList = []) && ((len : Int) == 0)
  else if k = 2 then atomB s && (n == 0) && ((len : Int) == 0)
  else if k = 3 then inB n 0 99999 && decide (s.toList = []) && ((len : Int) == 0)
  else if k = 4 then (n == 0) && decide (s.toList = []) && decide ((len : Int) ≤ 8)
  else if k = 5 then (n == 0) && decide (s.toList = []) && decide ((len : Int) ≤ 20)
  else if k = 6 then (n == 0) && decide ((s.size : Int) ≤ 40) && ((len : Int) == 0)
  else false
end Go.Proofs.Ytdglefedbkgghaa
