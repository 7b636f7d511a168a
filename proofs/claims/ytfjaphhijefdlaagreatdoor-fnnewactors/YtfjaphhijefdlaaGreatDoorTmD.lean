/-
  Two that are one term are the same to eqTerm and eqTermS.
-/
import Derived.Test.YtfjaphhijefdlaaGreatDoorTmB
import Derived.Deep.RegionWith
import Derived.BigQuiet
namespace Go.Proofs.YtfjaphhijefdlaaGreatDoor
open Go.RowKit

theorem RepV.drew {B : Nat} {w : World} {t : Tm} {v : Value} (h : RepV B w t v) : RepV B w.drew t v :=
  (Keeps.below (Below.drew (Below.refl _ _)) B).repV h

end Go.Proofs.YtfjaphhijefdlaaGreatDoor
