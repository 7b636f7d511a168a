/-
  The program's InsText: it answers textI.
-/
import Derived.Test.YtfjaphhijefdlaaGreatDoorCtA
import Derived.Test.YtfjaphhijefdlaaGreatDoorCoI
import Derived.Test.YtfjaphhijefdlaaGreatDoorShelf
import Derived.Lib.AppendIntMem
namespace Go.Proofs.YtfjaphhijefdlaaGreatDoor.Code
open Go.RowKit
set_option linter.unusedVariables false

/-- The library's table of powers of ten is as it is laid. -/
def Pow (w : World) : Prop := Lib.TabIs Tryz.prog w "internal/strconv.uint64pow10" .u64 Lib.pow10Tab
theorem Pow.below {w w' : World} (h : Pow w) (hb : Below w.heap.size w w') : Pow w' := Lib.tabBelow_of_tabIs h w' hb

theorem below_grow (w : World) (os : Array Obj) : Below w.heap.size w (Sort.grow w os) := by
  refine ⟨rfl, rfl, rfl, by simp [Sort.grow], fun k hk => ?_⟩
  simp only [Sort.grow]
  rw [Array.getElem?_append_left hk]
theorem itoa_any (n : Int) (h0 : -9223372036854775808 ≤ n) (h1 : n ≤ 9223372036854775807) (w : World) (hP : Pow w) :
    Calls Tryz.prog 74 #[.int .i64 n] w fun e w' => e = .returned (.string ⟨(Lib.itoa n).toArray⟩) ∧ Below w.heap.size w w' :=
  (Tryz.strconv_Itoa n h0 h1 w hP).mono fun e w' ⟨he, k, os, hw⟩ => ⟨he, by
    rw [hw]
    exact (below_drewN (Below.refl _ w) k).trans (below_grow (w.drewN k) os)⟩

/-- What the loop over the slots has in hand. -/
structure St (w wr : World) (B L : Nat) (x : I) (l : List Nat) : Prop where
  bel : Below w.heap.size w wr
  box : Bx6 wr B 0 x
  row : ∀ j (hj : j < l.length), wr.cell? ⟨L, j, none⟩ = some (.int .i64 (l[j] : Nat))
theorem St.below {w wr w' : World} {B L : Nat} {x : I} {l : List Nat} (h : St w wr B L x l) (hb : Below wr.heap.size wr w') : St w w' B L x l :=
  ⟨h.bel.trans (hb.mono h.bel.size), h.box.below hb, fun j hj => by
    rw [hb.cell (p := ⟨L, j, none⟩) (World.block_lt_of_cell? wr _ (h.row j hj))]; exact h.row j hj⟩

end Go.Proofs.YtfjaphhijefdlaaGreatDoor.Code
