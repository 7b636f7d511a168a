/-
  The text of a term, as a list of bytes.
-/
import Derived.Test.YtghfhlheenaacabDoorTmG
import Derived.Lib.ItoaLen
namespace Go.Proofs.YtghfhlheenaacabDoor
open Go.RowKit Atom

def hexD (d : Nat) : UInt8 := if d < 10 then UInt8.ofNat (48 + d) else UInt8.ofNat (87 + d)
def hexL : List UInt8 → List UInt8
  | [] => []
  | b :: r => hexD (b.toNat / 16) :: hexD (b.toNat % 16) :: hexL r
theorem hexL_length : ∀ l, (hexL l).length = 2 * l.length
  | [] => rfl
  | b :: r => by simp [hexL, hexL_length r]; omega
theorem hexL_append : ∀ a b, hexL (a ++ b) = hexL a ++ hexL b
  | [], b => rfl
  | x :: r, b => by simp [hexL, hexL_append r b]

mutual
def text : Tm → List UInt8
  | .mk k n s l => if k = 1 then Lib.itoa n else if k = 2 then s.data.toList else if k = 3 then [60] ++ Lib.itoa n ++ [62] else if k = 6 then [35] ++ hexL s.data.toList
      else if k = 4 then [123] ++ texts true l ++ [125] else [91] ++ texts true l ++ [93]
/-- What stands between the brackets, `,` ahead of each but the first. -/
def texts : Bool → List Tm → List UInt8
  | _, [] => []
  | first, t :: r => (if first then [] else [44]) ++ text t ++ texts false r
end

theorem texts_drop (l : List Tm) (k : Nat) (h : k < l.length) (b : Bool) : texts b (l.drop k) = (if b then [] else [44]) ++ text l[k] ++ texts false (l.drop (k + 1)) := by
  rw [List.drop_eq_getElem_cons h, texts]

/-- A term that is right. -/
def Right (t : Tm) : Prop := ∃ d m x, look t d m = some x
theorem lookL_all : ∀ (l : List Tm) (d m x : Nat), lookL l d m = some x → ∀ t, t ∈ l → Right t
  | [], _, _, _, _, t, ht => by cases ht
  | a :: r, d, m, x, h, t, ht => by
    rw [lookL] at h
    split at h
    · cases h
    · rename_i y hy
      rcases List.mem_cons.1 ht with rfl | ht
      · exact ⟨d, m, y, hy⟩
      · exact lookL_all r d y x h t ht
theorem Right.open {k n : Int} {s : ByteArray} {l : List Tm} (h : Right (.mk k n s l)) : shapeB k n s l.length = true ∧ ∀ t, t ∈ l → Right t := by
  obtain ⟨d, m, x, h⟩ := h
  rw [look] at h
  split at h
  · cases h
  · rename_i hc
    refine ⟨?_, lookL_all l _ _ _ h⟩
    cases hs : shapeB k n s l.length with
    | true => rfl
    | false => exact absurd (Or.inr (Or.inr hs)) hc

/-- What a shape that is right says, kind by kind. -/
theorem shape_cases {k n : Int} {s : ByteArray} {len : Nat} (h : shapeB k n s len = true) :
    (k = 1 ∧ -1000000 ≤ n ∧ n ≤ 1000000) ∨ (k = 2 ∧ s.size ≤ 12) ∨ (k = 3 ∧ 0 ≤ n ∧ n ≤ 99999) ∨ (k = 4) ∨ (k = 5) ∨ (k = 6 ∧ s.size ≤ 40) := by
  unfold shapeB at h
  split at h
  · rename_i e
    simp only [Bool.and_eq_true, inB, decide_eq_true_eq] at h
    exact Or.inl ⟨e, h.1.1.1, h.1.1.2⟩
  split at h
  · rename_i e
    simp only [Bool.and_eq_true] at h
    have h1 := h.1.1
    unfold atomB at h1
    simp only [Bool.and_eq_true, decide_eq_true_eq] at h1
    exact Or.inr (Or.inl ⟨e, h1.2.2⟩)
  split at h
  · rename_i e
    simp only [Bool.and_eq_true, inB, decide_eq_true_eq] at h
    exact Or.inr (Or.inr (Or.inl ⟨e, h.1.1.1, h.1.1.2⟩))
  split at h
  · rename_i e; exact Or.inr (Or.inr (Or.inr (Or.inl e)))
  split at h
  · rename_i e; exact Or.inr (Or.inr (Or.inr (Or.inr (Or.inl e))))
  split at h
  · rename_i e
    simp only [Bool.and_eq_true, decide_eq_true_eq] at h
    exact Or.inr (Or.inr (Or.inr (Or.inr (Or.inr ⟨e, by omega⟩))))
  · cases h

theorem dlen (s : ByteArray) : s.data.toList.length = s.size := by simp

mutual
theorem text_len : ∀ (t : Tm) (d m x : Nat), look t d m = some x → (text t).length + 1 + 90 * x ≤ 90 * m
  | .mk k n s l, d, m, x, h => by
    have hr := Right.open ⟨d, m, x, h⟩
    rw [look] at h
    split at h
    · cases h
    rename_i hc
    have hl := texts_len l true _ _ _ h
    have hle := lookL_le l _ _ _ h
    have hm : 1 ≤ m := by omega
    rw [text]
    rcases shape_cases hr.1 with ⟨rfl, h1, h2⟩ | ⟨rfl, h1⟩ | ⟨rfl, h1, h2⟩ | rfl | rfl | ⟨rfl, h1⟩
    · have := Lib.itoa_length_le n (by omega) (by omega)
      simp; omega
    · have := dlen s
      simp; omega
    · have := Lib.itoa_length_le n (by omega) (by omega)
      simp; omega
    · simp; omega
    · simp; omega
    · have := hexL_length s.data.toList
      have := dlen s
      simp at *; omega
theorem texts_len : ∀ (l : List Tm) (b : Bool) (d m x : Nat), lookL l d m = some x → (texts b l).length + 90 * x ≤ 90 * m
  | [], b, d, m, x, h => by rw [lookL] at h; cases h; simp [texts]
  | t :: r, b, d, m, x, h => by
    rw [lookL] at h
    split at h
    · cases h
    · rename_i y hy
      have h1 := text_len t d m y hy
      have h2 := texts_len r false d y x h
      rw [texts]
      cases b <;> simp <;> omega
end
theorem text_small (t : Tm) (x : Nat) (h : look t 6 100 = some x) : (text t).length ≤ 9000 := by
  have := text_len t 6 100 x h; omega
theorem len_child (t : Tm) : ∀ (l : List Tm) (b : Bool), t ∈ l → (text t).length ≤ (texts b l).length
  | [], _, h => by cases h
  | a :: r, b, h => by
    rw [texts]
    rcases List.mem_cons.1 h with rfl | h
    · simp; omega
    · have := len_child t r false h
      simp; omega
end Go.Proofs.YtghfhlheenaacabDoor
