/-
  Rows of strings: where one stands first; what both kinds of AtomAt answer; how the laws compare two rows.
-/
import Derived.Test.YtfjaphhijefdlaaGreatDoorCurA
import Derived.Test.YtfjaphhijefdlaaGreatDoorAtB
import Derived.Deep.OwnRows
namespace Go.Proofs.YtfjaphhijefdlaaGreatDoor
open Go.RowKit
set_option linter.unusedVariables false

/-- The strings L stand in the block b from o on. -/
def Txt (w : World) (b o : Nat) (L : List ByteArray) : Prop := ∀ j (h : j < L.length), w.cell? ⟨b, o + j, none⟩ = some (.string L[j])
theorem Txt.below {w w' : World} {b o : Nat} {L : List ByteArray} (h : Txt w b o L) (hb : Below w.heap.size w w') : Txt w' b o L := fun j hj => by
  rw [hb.cell (p := ⟨b, o + j, none⟩) (World.block_lt_of_cell? w _ (h j hj))]; exact h j hj
theorem Txt.turn {cb : Nat} {w w' : World} {b o : Nat} {L : List ByteArray} (h : Txt w b o L) (t : Turn cb w w') (hn : b ≠ cb) : Txt w' b o L := fun j hj => t.cell hn (h j hj)

/-- Where s stands first among the first n; -1: nowhere. -/
def idx (L : List ByteArray) (s : ByteArray) : Int := match L with
  | [] => -1
  | x :: l => if x = s then 0 else if idx l s = -1 then -1 else idx l s + 1
theorem idx_ge (L : List ByteArray) (s : ByteArray) : -1 ≤ idx L s := by
  induction L with
  | nil => simp [idx]
  | cons x l ih => rw [idx]; repeat (first | omega | split)
theorem idx_none {L : List ByteArray} {s : ByteArray} (h : ∀ j (hj : j < L.length), L[j] ≠ s) : idx L s = -1 := by
  induction L with
  | nil => rfl
  | cons x l ih =>
    have h0 : x ≠ s := h 0 (by simp)
    have hl := ih (fun j hj => h (j + 1) (by simp; omega))
    rw [idx, if_neg h0, if_pos hl]
theorem idx_at {L : List ByteArray} {s : ByteArray} (m : Nat) (hm : m < L.length) (he : L[m] = s) (h : ∀ j (hj : j < m), L[j] ≠ s) : idx L s = m := by
  induction L generalizing m with
  | nil => simp at hm
  | cons x l ih =>
    cases m with
    | zero => rw [idx, if_pos (show x = s from he)]; rfl
    | succ k =>
      have h0 : x ≠ s := h 0 (by omega)
      have hl := ih k (by simpa using hm) (by simpa using he) (fun j hj => h (j + 1) (by omega))
      rw [idx, if_neg h0, hl, if_neg (by omega)]; omega
/-- Either it stands nowhere, or there is a first place. -/
theorem idx_cases (L : List ByteArray) (s : ByteArray) : (idx L s = -1 ∧ ∀ j (hj : j < L.length), L[j] ≠ s) ∨ ∃ m, ∃ hm : m < L.length, idx L s = m ∧ L[m] = s ∧ ∀ j (hj : j < m), L[j] ≠ s := by
  induction L with
  | nil => exact .inl ⟨rfl, fun j hj => absurd hj (by simp)⟩
  | cons x l ih =>
    by_cases h0 : x = s
    · exact .inr ⟨0, by simp, by rw [idx, if_pos h0]; rfl, h0, fun j hj => absurd hj (by omega)⟩
    · rcases ih with ⟨h1, h2⟩ | ⟨m, hm, h1, h2, h3⟩
      · refine .inl ⟨by rw [idx, if_neg h0, if_pos h1], fun j hj => ?_⟩
        cases j with
        | zero => exact h0
        | succ k => exact h2 k (by simpa using hj)
      · refine .inr ⟨m + 1, by simp; omega, by rw [idx, if_neg h0, h1, if_neg (by omega)]; omega, h2, fun j hj => ?_⟩
        cases j with
        | zero => exact h0
        | succ k => exact h3 k (by omega)
theorem idx_lt (L : List ByteArray) (s : ByteArray) : idx L s < L.length ∨ idx L s = -1 := by
  rcases idx_cases L s with ⟨h, _⟩ | ⟨m, hm, h, _⟩
  · exact .inr h
  · exact .inl (by omega)
theorem idx_mem {L : List ByteArray} {s : ByteArray} (h : 0 ≤ idx L s) : s ∈ L := by
  rcases idx_cases L s with ⟨h1, _⟩ | ⟨m, hm, h1, h2, _⟩
  · omega
  · rw [← h2]; exact List.getElem_mem hm


theorem toList_ne {a b : ByteArray} (h : a ≠ b) : (a.toList == b.toList) = false := by
  rw [beq_eq_false_iff_ne]
  intro e
  rw [ByteArray.toList_eq, ByteArray.toList_eq] at e
  apply h
  cases a; cases b
  simpa using e

end Go.Proofs.YtfjaphhijefdlaaGreatDoor
