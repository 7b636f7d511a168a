/-
  Code as bytes: what the specification's PutCode answers.
-/
import Derived.Test.YtpjhipekjilejaaDoorCbA
import Derived.Deep.RegionHeld3
namespace Go.Proofs.YtpjhipekjilejaaDoor.Cb
open Go.RowKit
open Go.Proofs.YtpjhipekjilejaaDoor.By
open Go.Proofs.YtpjhipekjilejaaDoor.Code (I codeB specOk RowI SmI Bx6)
set_option linter.unusedVariables false

/-- What a round has in hand: the row K at g, and the instruction in the box X. -/
structure Rs (w wX : World) (X : Nat) (x : I) (g c : Nat) (K : List UInt8) : Prop where
  own : OwB wX w.heap.size (.slice (some ⟨g, 0, none⟩) K.length c) K
  below : Below w.heap.size w wX
  box : Bx6 wX X 0 x
  ne : g ≠ X
theorem Rs.drew {w wX : World} {X : Nat} {x : I} {g c : Nat} {K : List UInt8} (h : Rs w wX X x g c K) : Rs w wX.drew X x g c K := ⟨h.own, h.below.drew, ⟨h.box.c0, h.box.c1, h.box.c2, h.box.c3, h.box.c4, h.box.c5⟩, h.ne⟩
end Go.Proofs.YtpjhipekjilejaaDoor.Cb
