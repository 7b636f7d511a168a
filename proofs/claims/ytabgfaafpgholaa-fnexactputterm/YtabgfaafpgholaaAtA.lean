/-
  The plain mathematics of an atom: which bytes stand where.
-/
namespace Go.Proofs.Ytabgfaafpgholaa.Atom

/-- May the byte c stand at the place i? -/
def chOk (i c : Nat) : Bool := (97 ≤ c && c ≤ 122) || (i != 0 && (48 ≤ c && c ≤ 57))
/-- The first k bytes may stand where they stand. -/
def allTo (s : ByteArray) (k : Nat) : Bool := (List.range k).all fun i => chOk i (s.data.toList.getD i 0).toNat
def atomB (s : ByteArray) : Bool := allTo s s.size && decide (1 ≤ s.size ∧ s.size ≤ 12)

theorem allTo_zero (s : ByteArray) : allTo s 0 = true := rfl
theorem getD_at (s : ByteArray) (k : Nat) (h : k < s.size) : s.data.toList.getD k 0 = s[k] := by
  have h' : k < s.data.toList.length := by simpa using h
  rw [List.getD_eq_getElem?_getD, List.getElem?_eq_getElem h']; rfl
theorem allTo_succ (s : ByteArray) (k : Nat) (h : k < s.size) : allTo s (k + 1) = (allTo s k && chOk k s[k].toNat) := by
  unfold allTo
  rw [List.range_succ, List.all_append, List.all_cons, List.all_nil, Bool.and_true, getD_at s k h]
theorem allTo_false (s : ByteArray) (k n : Nat) (hk : k < n) (hn : n ≤ s.size) (hb : chOk k (s[k]'(by omega)).toNat = false) : allTo s n = false := by
  unfold allTo
  rw [List.all_eq_false]
  exact ⟨k, List.mem_range.2 hk, by rw [getD_at s k (by omega), hb]; simp⟩
theorem atomB_bad (s : ByteArray) (k : Nat) (hk : k < s.size) (hb : chOk k s[k].toNat = false) : atomB s = false := by
  unfold atomB; rw [allTo_false s k s.size hk (Nat.le_refl _) hb]; rfl
theorem atomB_len (s : ByteArray) (h : ¬ (1 ≤ s.size ∧ s.size ≤ 12)) : atomB s = false := by
  unfold atomB; simp [h]
theorem atomB_end (s : ByteArray) (h : allTo s s.size = true) : atomB s = decide (1 ≤ s.size ∧ s.size ≤ 12) := by
  unfold atomB; simp [h]
theorem chOk_true {i c : Nat} (h : (97 ≤ c ∧ c ≤ 122) ∨ (i ≠ 0 ∧ 48 ≤ c ∧ c ≤ 57)) : chOk i c = true := by
  unfold chOk; simp; omega
theorem chOk_false {i c : Nat} (h : ¬ ((97 ≤ c ∧ c ≤ 122) ∨ (i ≠ 0 ∧ 48 ≤ c ∧ c ≤ 57))) : chOk i c = false := by
  unfold chOk
  rw [Bool.eq_false_iff]; simp only [ne_eq, Bool.or_eq_true, Bool.and_eq_true, decide_eq_true_eq, bne_iff_ne]
  exact h
end Go.Proofs.Ytabgfaafpgholaa.Atom
