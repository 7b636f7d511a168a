/-
  The specification's InsOk: it answers specOk.
-/
import Derived.Test.YtdglefedbkgghaaCoB
import Derived.Test.YtdglefedbkgghaaSgA
import Derived.Test.YtdglefedbkgghaaInn
import Derived.Deep.RegionLaw
import Derived.Deep.RegionWith
import Derived.Deep.CutRange
namespace Go.Proofs.Ytdglefedbkgghaa.Code
open Go.RowKit
open Go.Proofs.Ytdglefedbkgghaa.Atom
set_option linter.unusedVariables false

/-- The letters of the k-th Op, as a text. -/
def useT (k : Nat) : ByteArray := ⟨(uses k).toArray⟩
def wordT (k : Nat) : ByteArray := ⟨(word k).toArray⟩
def usesL : List ByteArray := (List.range 20).map fun k => useT (k + 1)
def wordsL : List ByteArray := (List.range 20).map fun k => wordT (k + 1)
theorem usesL_at (k : Nat) (h : k < 20) : usesL[k]? = some (useT (k + 1)) := by
  unfold usesL; rw [List.getElem?_map, List.getElem?_range h]; rfl
theorem wordsL_at (k : Nat) (h : k < 20) : wordsL[k]? = some (wordT (k + 1)) := by
  unfold wordsL; rw [List.getElem?_map, List.getElem?_range h]; rfl
theorem below20 {j : Nat} (h : j < 20) : j = 0 ∨ j = 1 ∨ j = 2 ∨ j = 3 ∨ j = 4 ∨ j = 5 ∨ j = 6 ∨ j = 7 ∨ j = 8 ∨ j = 9 ∨ j = 10 ∨ j = 11 ∨ j = 12 ∨ j = 13 ∨ j = 14 ∨ j = 15 ∨ j = 16 ∨ j = 17 ∨ j = 18 ∨ j = 19 := by omega
theorem use_len (k : Nat) : (useT k).size ≤ 3 := by
  unfold useT ByteArray.size
  by_cases h : k < 21
  · have : k = 0 ∨ k - 1 < 20 := by omega
    rcases this with rfl | h1
    · decide
    · by_cases h0 : k = 0
      · subst h0; decide
      · obtain ⟨j, rfl⟩ : ∃ j, k = j + 1 := ⟨k - 1, by omega⟩
        rcases below20 (show j < 20 by omega) with rfl | rfl | rfl | rfl | rfl | rfl | rfl | rfl | rfl | rfl | rfl | rfl | rfl | rfl | rfl | rfl | rfl | rfl | rfl | rfl <;> decide
  · have : uses k = [] := by unfold uses; split <;> first | omega | rfl
    rw [this]; decide

theorem below_undrew {W w3 : World} (hb : Below W.drew.heap.size W.drew w3) : Below W.heap.size W w3 := ⟨hb.os, hb.tape, hb.output, hb.size, hb.block⟩
/-- The six cells of an instruction, one behind the other. -/
structure Bx6 (w : World) (B o : Nat) (x : I) : Prop where
  c0 : w.cell? ⟨B, o, none⟩ = some (.int .i64 x.op)
  c1 : w.cell? ⟨B, o + 1, none⟩ = some (.int .i64 x.a)
  c2 : w.cell? ⟨B, o + 2, none⟩ = some (.int .i64 x.b)
  c3 : w.cell? ⟨B, o + 3, none⟩ = some (.int .i64 x.c)
  c4 : w.cell? ⟨B, o + 4, none⟩ = some (.int .i64 x.n)
  c5 : w.cell? ⟨B, o + 5, none⟩ = some (.string x.s)
theorem Bx6.lt {w : World} {B o : Nat} {x : I} (h : Bx6 w B o x) : B < w.heap.size := World.block_lt_of_cell? w _ h.c0
theorem Bx6.below {w w' : World} {B o : Nat} {x : I} (h : Bx6 w B o x) (hb : Below w.heap.size w w') : Bx6 w' B o x := by
  have k : ∀ i v, w.cell? ⟨B, i, none⟩ = some v → w'.cell? ⟨B, i, none⟩ = some v := fun i v hv => (hb.cell (p := ⟨B, i, none⟩) h.lt).trans hv
  exact ⟨k _ _ h.c0, k _ _ h.c1, k _ _ h.c2, k _ _ h.c3, k _ _ h.c4, k _ _ h.c5⟩

end Go.Proofs.Ytdglefedbkgghaa.Code
