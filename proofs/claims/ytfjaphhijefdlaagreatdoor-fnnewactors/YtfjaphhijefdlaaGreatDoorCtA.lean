/-
  The plain mathematics of an instruction's text.
-/
import Derived.Test.YtfjaphhijefdlaaGreatDoorCoG
import Derived.Lib.ItoaLen
namespace Go.Proofs.YtfjaphhijefdlaaGreatDoor.Code
open Go.RowKit
set_option linter.unusedVariables false

/-- What a slot's text is. -/
def slotT (x : I) (k : Nat) : List UInt8 := if k = 9 then x.s.data.toList else Lib.itoa (val x k)
/-- What a letter's text is. -/
def letT (x : I) (c : UInt8) : List UInt8 :=
  if c = 65 then Lib.itoa x.a else if c = 66 then Lib.itoa x.b else if c = 67 then Lib.itoa x.c else if c = 78 then Lib.itoa x.n else x.s.data.toList
def accT (x : I) (k : Nat) (l : List Nat) : List UInt8 := word k ++ l.flatMap fun j => 32 :: slotT x j
def accU (x : I) (k : Nat) (l : List UInt8) : List UInt8 := word k ++ l.flatMap fun c => 32 :: letT x c
/-- An instruction's text. -/
def textI (x : I) : List UInt8 := if Atom.inB x.op 1 20 then accT x x.op.toNat (names x.op.toNat) else []

theorem accU_eq (x : I) (k : Nat) (hk : k < 20) : accU x (k + 1) (uses (k + 1)) = accT x (k + 1) (names (k + 1)) := by
  unfold accU accT
  congr 1
  rcases below20 hk with rfl | rfl | rfl | rfl | rfl | rfl | rfl | rfl | rfl | rfl | rfl | rfl | rfl | rfl | rfl | rfl | rfl | rfl | rfl | rfl <;> rfl
theorem textI_in (x : I) (k : Nat) (hk : k < 20) (h : x.op = (k : Int) + 1) : textI x = accT x (k + 1) (names (k + 1)) := by
  unfold textI
  rw [h, if_pos (show Atom.inB ((k : Int) + 1) 1 20 = true from decide_eq_true (by omega))]
  rw [show ((k : Int) + 1).toNat = k + 1 by omega]
theorem textI_out (x : I) (h : Atom.inB x.op 1 20 = false) : textI x = [] := by
  unfold textI; rw [h]; rfl

/-- The numbers are ints. -/
structure In64 (x : I) : Prop where
  a : -9223372036854775808 ≤ x.a ∧ x.a ≤ 9223372036854775807
  b : -9223372036854775808 ≤ x.b ∧ x.b ≤ 9223372036854775807
  c : -9223372036854775808 ≤ x.c ∧ x.c ≤ 9223372036854775807
  n : -9223372036854775808 ≤ x.n ∧ x.n ≤ 9223372036854775807
theorem In64.val {x : I} (h : In64 x) (k : Nat) : -9223372036854775808 ≤ val x k ∧ val x k ≤ 9223372036854775807 := by
  unfold Code.val; split
  · exact h.a
  · exact h.b
  · exact h.c
  · exact h.b
  · exact h.n
theorem slotT_len {x : I} (h : In64 x) (hs : x.s.size ≤ 1048576) (k : Nat) : (slotT x k).length ≤ 1048576 := by
  unfold slotT
  split
  · simpa using hs
  · exact Nat.le_trans (Lib.itoa_length_le _ (h.val k).1 (h.val k).2) (by omega)
theorem letT_len {x : I} (h : In64 x) (hs : x.s.size ≤ 1048576) (c : UInt8) : (letT x c).length ≤ 1048576 := by
  unfold letT
  split
  · exact Nat.le_trans (Lib.itoa_length_le _ h.a.1 h.a.2) (by omega)
  split
  · exact Nat.le_trans (Lib.itoa_length_le _ h.b.1 h.b.2) (by omega)
  split
  · exact Nat.le_trans (Lib.itoa_length_le _ h.c.1 h.c.2) (by omega)
  split
  · exact Nat.le_trans (Lib.itoa_length_le _ h.n.1 h.n.2) (by omega)
  · simpa using hs
theorem word_len (k : Nat) : (word k).length ≤ 5 := by unfold word; split <;> decide
theorem flat_len {α : Type} (f : α → List UInt8) (m : Nat) (h : ∀ a, (f a).length ≤ m) : ∀ l : List α, (l.flatMap f).length ≤ m * l.length
  | [] => by simp
  | a :: l => by
    have := flat_len f m h l
    have := h a
    simp only [List.flatMap_cons, List.length_append, List.length_cons, Nat.mul_add]
    omega
theorem accT_len {x : I} (h : In64 x) (hs : x.s.size ≤ 1048576) (k : Nat) (l : List Nat) (hl : l.length ≤ 3) : (accT x k l).length ≤ 4000000 := by
  unfold accT
  have := flat_len (fun j => 32 :: slotT x j) 1048577 (fun j => by have := slotT_len h hs j; simp; omega) l
  have := word_len k
  have : 1048577 * l.length ≤ 1048577 * 3 := Nat.mul_le_mul_left _ hl
  rw [List.length_append]; omega
theorem accU_len {x : I} (h : In64 x) (hs : x.s.size ≤ 1048576) (k : Nat) (l : List UInt8) (hl : l.length ≤ 3) : (accU x k l).length ≤ 4000000 := by
  unfold accU
  have := flat_len (fun c => 32 :: letT x c) 1048577 (fun j => by have := letT_len h hs j; simp; omega) l
  have := word_len k
  have : 1048577 * l.length ≤ 1048577 * 3 := Nat.mul_le_mul_left _ hl
  rw [List.length_append]; omega
theorem accT_take (x : I) (k : Nat) (l : List Nat) (j : Nat) (hj : j < l.length) : accT x k (l.take (j + 1)) = accT x k (l.take j) ++ 32 :: slotT x l[j] := by
  unfold accT
  rw [List.take_succ_eq_append_getElem hj, List.flatMap_append, ← List.append_assoc]; simp
theorem accU_take (x : I) (k : Nat) (l : List UInt8) (j : Nat) (hj : j < l.length) : accU x k (l.take (j + 1)) = accU x k (l.take j) ++ 32 :: letT x l[j] := by
  unfold accU
  rw [List.take_succ_eq_append_getElem hj, List.flatMap_append, ← List.append_assoc]; simp
theorem cat_bl (A B : List UInt8) : (⟨A.toArray⟩ : ByteArray) ++ ⟨#[32]⟩ ++ ⟨B.toArray⟩ = ⟨(A ++ 32 :: B).toArray⟩ := by
  rw [show (⟨#[32]⟩ : ByteArray) = ⟨[32].toArray⟩ from rfl, ByteArray.mk_append_mk, ByteArray.mk_append_mk]; simp
theorem cat_br (A B : List UInt8) : (⟨A.toArray⟩ : ByteArray) ++ ((⟨#[32]⟩ : ByteArray) ++ ⟨B.toArray⟩) = ⟨(A ++ 32 :: B).toArray⟩ := by
  rw [show (⟨#[32]⟩ : ByteArray) = ⟨[32].toArray⟩ from rfl, ByteArray.mk_append_mk, ByteArray.mk_append_mk]; simp
theorem str_back (s : ByteArray) : (⟨s.data.toList.toArray⟩ : ByteArray) = s := by simp
end Go.Proofs.YtfjaphhijefdlaaGreatDoor.Code
