/-
  The program's slots: whether what is named is right; how it is blanked; the program's InsOk: it answers implOk.
-/
import Derived.Test.YtdglefedbkgghaaCoF
namespace Go.Proofs.Ytdglefedbkgghaa.Code
open Go.RowKit
open Go.Proofs.Ytdglefedbkgghaa.Atom
set_option linter.unusedVariables false

/-- The number that stands at a slot. -/
def val (x : I) : Nat → Int
  | 1 => x.a | 2 => x.b | 3 => x.c | 4 => x.b | _ => x.n
theorem right_eq (x : I) (N : Int) (k : Nat) (h1 : 1 ≤ k) (h8 : k ≤ 8) : right x N k = Atom.inB (val x k) (lowS k) (highS x.b N k) := by
  have : k = 1 ∨ k = 2 ∨ k = 3 ∨ k = 4 ∨ k = 5 ∨ k = 6 ∨ k = 7 ∨ k = 8 := by omega
  rcases this with rfl | rfl | rfl | rfl | rfl | rfl | rfl | rfl <;> rfl
theorem box_fld {w : World} {B o : Nat} {x : I} (h : Bx6 w B o x) (k : Nat) (h1 : 1 ≤ k) (h8 : k ≤ 8) : w.cell? ⟨B, o + fld k, none⟩ = some (.int .i64 (val x k)) := by
  have : k = 1 ∨ k = 2 ∨ k = 3 ∨ k = 4 ∨ k = 5 ∨ k = 6 ∨ k = 7 ∨ k = 8 := by omega
  rcases this with rfl | rfl | rfl | rfl | rfl | rfl | rfl | rfl
  · exact h.c1
  · exact h.c2
  · exact h.c3
  · exact h.c2
  · exact h.c4
  · exact h.c4
  · exact h.c4
  · exact h.c4
theorem box_new (op a b c n : Int) (s : ByteArray) (w : World) : Bx6 (w.alloc (.cells #[.int .i64 op, .int .i64 a, .int .i64 b, .int .i64 c, .int .i64 n, .string s] 85)) w.heap.size 0 ⟨op, a, b, c, n, s⟩ := by
  constructor <;> rw [World.cell?_alloc_new] <;> rfl

end Go.Proofs.Ytdglefedbkgghaa.Code
