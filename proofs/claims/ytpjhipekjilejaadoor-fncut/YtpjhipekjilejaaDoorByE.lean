/-
  What the program's PutNum answers, and what the law FnExactPutNum does.
-/
import Derived.Test.YtpjhipekjilejaaDoorByD
namespace Go.Proofs.YtpjhipekjilejaaDoor.By
open Go.RowKit
set_option linter.unusedVariables false

theorem nsAt_one (w : World) (x : Int) (t : TypeId) : NsAt (w.alloc (.cells #[.int .i64 x] t)) w.heap.size [x] := by
  intro j hj
  have : j = 0 := by simpa using hj
  subst this
  rw [World.cell?_alloc_new]; rfl
theorem numsB_one (n : Int) : numsB [n] = numB n := by simp [numsB]

/-- What the law has in hand: the specification's bytes at gs, the argument's copy at g3, the program's bytes at g4. -/
structure Ax (w wx : World) (N : Nat) (M : List UInt8) (gs g3 g4 : Nat) (F3 F4 : Nat → Int) : Prop where
  below : Below w.heap.size w wx
  sp : BAt wx gs 0 M
  xw : Bys wx g3 N F3
  im : Bys wx g4 M.length F4
  l0 : w.heap.size ≤ gs
  l1 : gs < g3
  l2 : g3 < g4
  l3 : g4 < wx.heap.size
theorem Ax.call {w wx wy : World} {N : Nat} {M : List UInt8} {gs g3 g4 : Nat} {F3 F4 : Nat → Int} (s : Ax w wx N M gs g3 g4 F3 F4) (hb : Below wx.heap.size wx wy) : Ax w wy N M gs g3 g4 F3 F4 := by
  have a0 := s.l0
  have a1 := s.l1
  have a2 := s.l2
  have a3 := s.l3
  exact ⟨join8 s.below hb, s.sp.below hb, s.xw.below hb (by omega), s.im.below hb (by omega), a0, a1, a2, Nat.lt_of_lt_of_le a3 hb.size⟩
theorem Ax.markX {w wx wy : World} {N : Nat} {M : List UInt8} {gs g3 g4 : Nat} {F3 F4 G : Nat → Int} (s : Ax w wx N M gs g3 g4 F3 F4) (ht : Turn g3 wx wy) (hi : Bys wy g3 N G) : Ax w wy N M gs g3 g4 G F4 := by
  have a0 := s.l0
  have a1 := s.l1
  have a2 := s.l2
  have a3 := s.l3
  exact ⟨Turn.below s.below s.below.size ht (by omega), s.sp.turn ht (by omega), hi, s.im.turn ht (by omega) (by omega), a0, a1, a2, Nat.lt_of_lt_of_le a3 ht.size⟩
theorem Ax.markI {w wx wy : World} {N : Nat} {M : List UInt8} {gs g3 g4 : Nat} {F3 F4 G : Nat → Int} (s : Ax w wx N M gs g3 g4 F3 F4) (ht : Turn g4 wx wy) (hi : Bys wy g4 M.length G) : Ax w wy N M gs g3 g4 F3 G := by
  have a0 := s.l0
  have a1 := s.l1
  have a2 := s.l2
  have a3 := s.l3
  exact ⟨Turn.below s.below s.below.size ht (by omega), s.sp.turn ht (by omega), s.xw.turn ht (by omega) (by omega), hi, a0, a1, a2, Nat.lt_of_lt_of_le a3 ht.size⟩

end Go.Proofs.YtpjhipekjilejaaDoor.By
