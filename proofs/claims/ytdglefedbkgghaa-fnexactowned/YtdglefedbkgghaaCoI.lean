/-
  The program's InsOk: it answers implOk.
-/
import Derived.Test.YtdglefedbkgghaaCoH
namespace Go.Proofs.Ytdglefedbkgghaa.Code
open Go.RowKit
open Go.Proofs.Ytdglefedbkgghaa.Atom
set_option linter.unusedVariables false

theorem names_len (k : Nat) (hk : k < 20) : 1 ≤ (names (k + 1)).length ∧ (names (k + 1)).length ≤ 3 := by
  rcases below20 hk with rfl | rfl | rfl | rfl | rfl | rfl | rfl | rfl | rfl | rfl | rfl | rfl | rfl | rfl | rfl | rfl | rfl | rfl | rfl | rfl <;> decide
theorem names_in (k : Nat) (hk : k < 20) (j : Nat) (hj : j < (names (k + 1)).length) : 1 ≤ (names (k + 1))[j] ∧ (names (k + 1))[j] ≤ 9 := by
  have : ∀ x ∈ names (k + 1), 1 ≤ x ∧ x ≤ 9 := by
    rcases below20 hk with rfl | rfl | rfl | rfl | rfl | rfl | rfl | rfl | rfl | rfl | rfl | rfl | rfl | rfl | rfl | rfl | rfl | rfl | rfl | rfl <;> decide
  exact this _ (List.getElem_mem hj)

theorem nz {a : Nat} (h : 1 ≤ a) : ((a : Int) != 0) = true := by simp; omega
theorem setBelow {w w' : World} {R : Nat} (h : ∃ i v, w' = w.setCell ⟨R, i, none⟩ v) (B : Nat) (hB : B ≤ R) : Below B w w' := by
  obtain ⟨i, v, rfl⟩ := h
  exact (Below.refl _ w).setCell hB v
theorem setOther {w w' : World} {R : Nat} (h : ∃ i v, w' = w.setCell ⟨R, i, none⟩ v) {b i : Nat} (hb : b ≠ R) : w'.cell? ⟨b, i, none⟩ = w.cell? ⟨b, i, none⟩ := by
  obtain ⟨j, v, rfl⟩ := h
  exact World.cell?_of_block (w := w) (Below.heap_setCell w ⟨R, j, none⟩ v b hb)
theorem setSize {w w' : World} {R : Nat} (h : ∃ i v, w' = w.setCell ⟨R, i, none⟩ v) : w'.heap.size = w.heap.size := by
  obtain ⟨j, v, rfl⟩ := h
  simp [World.setCell]

/-- What the loop over the slots has in hand: the instruction x in its box B, what is left of it, y, in the block R, the slots l in the block L. -/
structure Sl (w wr : World) (B R L : Nat) (x y : I) (l : List Nat) : Prop where
  bel : Below w.heap.size w wr
  box : Bx6 wr B 0 x
  rest : wr.heap[R]? = some (.cells (insV y) 85 (0, 0))
  row : ∀ j (hj : j < l.length), wr.cell? ⟨L, j, none⟩ = some (.int .i64 (l[j] : Nat))
theorem Sl.below {w wr w' : World} {B R L : Nat} {x y : I} {l : List Nat} (h : Sl w wr B R L x y l) (hl : 0 < l.length) (hb : Below wr.heap.size wr w') : Sl w w' B R L x y l :=
  ⟨h.bel.trans (hb.mono h.bel.size), h.box.below hb, (hb.block _ (blk_lt h.rest)).trans h.rest, fun j hj => by
    rw [hb.cell (p := ⟨L, j, none⟩) (World.block_lt_of_cell? wr _ (h.row j hj))]; exact h.row j hj⟩
theorem Sl.set {w wr w' : World} {B R L : Nat} {x y z : I} {l : List Nat} (h : Sl w wr B R L x y l) (hR : w.heap.size ≤ R) (hB : B ≠ R) (hL : L ≠ R) (hw : ∃ i v, w' = wr.setCell ⟨R, i, none⟩ v) (hz : w'.heap[R]? = some (.cells (insV z) 85 (0, 0))) : Sl w w' B R L x z l :=
  ⟨h.bel.trans (setBelow hw _ hR), ⟨(setOther hw hB).trans h.box.c0, (setOther hw hB).trans h.box.c1, (setOther hw hB).trans h.box.c2, (setOther hw hB).trans h.box.c3, (setOther hw hB).trans h.box.c4, (setOther hw hB).trans h.box.c5⟩, hz, fun j hj => (setOther hw hL).trans (h.row j hj)⟩

theorem bare_eq (x y : I) (h : y.op = x.op) : eqI y ⟨x.op, 0, 0, 0, 0, ByteArray.empty⟩ = bare y := by
  unfold eqI bare
  rw [h, ByteArray.toList_eq]
  have : (y.s.data.toList == (ByteArray.empty).toList) = y.s.data.toList.isEmpty := by
    rw [show (ByteArray.empty).toList = [] from by rw [ByteArray.toList_eq]; rfl]
    cases y.s.data.toList <;> rfl
  rw [this]; simp
theorem blank_op (x : I) (k : Nat) : (blank x k).op = x.op := by unfold blank; split <;> rfl
theorem blanks_op (l : List Nat) : ∀ x : I, (blanks x l).op = x.op := by
  induction l with
  | nil => intro x; rfl
  | cons k l ih => intro x; show (blanks (blank x k) l).op = _; rw [ih, blank_op]
theorem blanks_take (x : I) (l : List Nat) (j : Nat) (hj : j < l.length) : blanks x (l.take (j + 1)) = blank (blanks x (l.take j)) l[j] := by
  unfold blanks
  rw [List.take_succ_eq_append_getElem hj, List.foldl_append]; rfl

end Go.Proofs.Ytdglefedbkgghaa.Code
