/-
  The program's table of shapes, and how a shape is found in it by its op.
-/
import Derived.Test.YtdglefedbkgghaaCoC
import Derived.Laws.Rows
import Derived.Laws.ResultCell
namespace Go.Proofs.Ytdglefedbkgghaa.Code
open Go.RowKit
open Go.Proofs.Ytdglefedbkgghaa.Atom
set_option linter.unusedVariables false

def nm (k i : Nat) : Int := ((names k).getD i 0 : Nat)
def rowL (k : Nat) : List Value := [.int .i64 ((k : Int) + 1), .string (wordT (k + 1)), .int .i64 (nm (k + 1) 0), .int .i64 (nm (k + 1) 1), .int .i64 (nm (k + 1) 2)]
def tabV : Array Value := ((List.range 20).flatMap rowL).toArray
/-- A new block of a shape that stands since. -/
theorem blk_at {w : World} {R : Nat} {cs : Array Value} {t : TypeId} (h : w.heap[R]? = some (.cells cs t (0, 0))) (i : Nat) : w.cell? ⟨R, i, none⟩ = cs[i]? := by
  simp [World.cell?, h]
theorem blk_lt {w : World} {R : Nat} {o : Obj} (h : w.heap[R]? = some o) : R < w.heap.size := by
  rcases Nat.lt_or_ge R w.heap.size with h1 | h1
  · exact h1
  · rw [Array.getElem?_eq_none h1] at h; cases h
theorem blk_free {w : World} {R : Nat} {cs : Array Value} {t : TypeId} (h : w.heap[R]? = some (.cells cs t (0, 0))) (i : Nat) : w.frozen? ⟨R, i, none⟩ = false := by
  simp [World.frozen?, h]
theorem blk_2 {w : World} {R : Nat} {o : Obj} (h : w.heap[R]? = some o) (o1 o2 : Obj) : ((w.alloc o1).alloc o2).heap[R]? = some o := by
  have := blk_lt h
  rw [Below.heap_alloc _ _ _ (by simp; omega), Below.heap_alloc _ _ _ this]; exact h

theorem set_blk {w : World} {R i : Nat} {cs : Array Value} {t : TypeId} {f : Nat × Nat} (h : w.heap[R]? = some (.cells cs t f)) (v : Value) : (w.setCell ⟨R, i, none⟩ v).heap[R]? = some (.cells (cs.setIfInBounds i v) t f) := by
  simp [World.setCell, Array.getElem?_modify, h]
theorem set_blk5 {w : World} {R : Nat} {z0 z1 z2 z3 z4 : Value} {t : TypeId} {f : Nat × Nat} (h : w.heap[R]? = some (.cells #[z0, z1, z2, z3, z4] t f)) (a b c d e : Value) :
    (((((w.setCell ⟨R, 0, none⟩ a).setCell ⟨R, 1, none⟩ b).setCell ⟨R, 2, none⟩ c).setCell ⟨R, 3, none⟩ d).setCell ⟨R, 4, none⟩ e).heap[R]? = some (.cells #[a, b, c, d, e] t f) := by
  rw [set_blk (set_blk (set_blk (set_blk (set_blk h a) b) c) d) e]; rfl
end Go.Proofs.Ytdglefedbkgghaa.Code
