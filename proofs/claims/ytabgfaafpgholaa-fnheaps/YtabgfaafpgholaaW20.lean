/-
  What is read of words as a term, as reckoning, where what stands from a place on is told by a function: once as the program reads, once as the specification reads: the same terms come out.
-/
import Derived.Test.YtabgfaafpgholaaW3
namespace Go.Proofs.Ytabgfaafpgholaa.Gn
open Go.RowKit
set_option linter.unusedVariables false

/-- How many words there are from a place on; which; and the atoms. -/
structure Hp where
  len : Nat → Nat
  w : Nat → Nat → Int
  A : List ByteArray
structure Hp.ok (H : Hp) : Prop where
  n : ∀ p, H.len p ≤ 1048576
  far : ∀ p, H.len p ≠ 0 → p ≤ 2000000
  a : H.A.length ≤ 1048576
/-- How many the word at a place says that there are behind it; nothing: they are not there. -/
def cnt (H : Hp) (v most : Int) : Option Nat := if 1 ≤ H.len v.toNat ∧ 0 ≤ H.w v.toNat 0 ∧ H.w v.toNat 0 ≤ most ∧ H.w v.toNat 0 ≤ (H.len v.toNat : Int) - 1 then some (H.w v.toNat 0).toNat else none
def wordsAt (H : Hp) (p k n : Nat) : List Int := (List.range n).map fun j => H.w p (k + j)
def rTs (u : Nat → Int) (g : Rd) : Nat → Nat → Nat → Option (List Tm × Nat)
  | 0, _, left => some ([], left)
  | n + 1, p, left => match g (u p) left with
    | none => none
    | some (t, x) => match rTs u g n (p + 1) x with
      | none => none
      | some (l, y) => some (t :: l, y)
def consAt (H : Hp) (w : Int) : Prop := tagW w = 5 ∧ 2 ≤ H.len (valW w).toNat
instance (H : Hp) (w : Int) : Decidable (consAt H w) := inferInstanceAs (Decidable (tagW w = 5 ∧ 2 ≤ H.len (valW w).toNat))
def rL (H : Hp) (g : Rd) : Nat → Int → Nat → Option (List Tm × Nat)
  | 0, w, left => if w = 3 then some ([], left) else none
  | k + 1, w, left => if w = 3 then some ([], left) else if consAt H w then
      (match g (H.w (valW w).toNat 0) left with
      | none => none
      | some (t, x) => match rL H g k (H.w (valW w).toNat 1) x with
        | none => none
        | some (l, y) => some (t :: l, y)) else none
def rCnt (H : Hp) (g : Rd) (v : Int) (left : Nat) : Option (Tm × Nat) := match cnt H v 8 with
  | none => none
  | some n => tup 4 (rTs (H.w v.toNat) g n 1 left)
def rBin (H : Hp) (v : Int) (left : Nat) : Option (Tm × Nat) := match cnt H v 40 with
  | none => none
  | some n => bin left (txt (wordsAt H v.toNat 1 n))
def rAtom (H : Hp) (v : Int) (left : Nat) : Option (Tm × Nat) := if v < H.A.length then some (.mk 2 0 (H.A.getD v.toNat ByteArray.empty) [], left) else none
/-- One term; what is within is read by g. c: as the program does. -/
def raw (c : Bool) (H : Hp) (g : Rd) (w : Int) (left : Nat) : Option (Tm × Nat) :=
  if tagW w = 0 then (if c = false ∧ 2000000 < valW w then none else some (.mk 1 (valW w - 1000000) ByteArray.empty [], left))
  else if tagW w = 1 then rAtom H (valW w) left
  else if tagW w = 2 then some (.mk 3 (valW w) ByteArray.empty [], left)
  else if tagW w = 4 then rCnt H g (valW w) left
  else if tagW w = 6 then rBin H (valW w) left
  else if tagW w = 7 then none
  else tup 5 (rL H g (if c then left else 20) w left)
def rT (c : Bool) (H : Hp) : Nat → Rd
  | 0, _, _ => none
  | d + 1, w, left => if (if c then isW w else decide (0 ≤ w)) = true ∧ 0 < left then held c (raw c H (rT c H d) w (left - 1)) else none

/-! ### Both ways one -/
/-- l is what g reads of the words from p on. -/
def TR (u : Nat → Int) (g : Rd) : List Tm → Nat → Nat → Nat → Prop
  | [], _, left, x => x = left
  | t :: r, p, left, x => ∃ y, g (u p) left = some (t, y) ∧ TR u g r (p + 1) y x
theorem rTs_iff (u : Nat → Int) (g : Rd) : ∀ (n p left : Nat) (l : List Tm) (x : Nat), rTs u g n p left = some (l, x) ↔ l.length = n ∧ TR u g l p left x
  | 0, p, left, l, x => by
    rw [rTs]
    cases l with
    | nil => simp [TR]; exact eq_comm
    | cons t r => simp
  | n + 1, p, left, l, x => by
    rw [rTs]
    cases l with
    | nil =>
      simp only [List.length_nil]
      constructor
      · intro h
        split at h
        · cases h
        · split at h
          · cases h
          · simp at h
      · intro h; omega
    | cons t r =>
      rw [TR]
      constructor
      · intro h
        split at h
        · cases h
        · rename_i t' y hg
          split at h
          · cases h
          · rename_i l' z hr
            simp only [Option.some.injEq, Prod.mk.injEq, List.cons.injEq] at h
            obtain ⟨⟨rfl, rfl⟩, rfl⟩ := h
            obtain ⟨h1, h2⟩ := (rTs_iff u g n (p + 1) y _ _).1 hr
            exact ⟨by simp [h1], y, hg, h2⟩
      · rintro ⟨h1, y, hg, h2⟩
        have := (rTs_iff u g n (p + 1) y r x).2 ⟨by simpa using h1, h2⟩
        simp [hg, this]
def LR (H : Hp) (g : Rd) : List Tm → Int → Nat → Nat → Prop
  | [], w, left, x => w = 3 ∧ x = left
  | t :: r, w, left, x => w ≠ 3 ∧ consAt H w ∧ ∃ y, g (H.w (valW w).toNat 0) left = some (t, y) ∧ LR H g r (H.w (valW w).toNat 1) y x
theorem rL_iff (H : Hp) (g : Rd) : ∀ (k : Nat) (w : Int) (left : Nat) (l : List Tm) (x : Nat), rL H g k w left = some (l, x) ↔ l.length ≤ k ∧ LR H g l w left x
  | 0, w, left, l, x => by
    rw [rL]
    cases l with
    | nil =>
      rw [LR]
      by_cases h : w = 3
      · simp [h]; exact eq_comm
      · simp [h]
    | cons t r => by_cases h : w = 3 <;> simp [h]
  | k + 1, w, left, l, x => by
    rw [rL]
    by_cases h : w = 3
    · rw [if_pos h]
      cases l with
      | nil => rw [LR]; simp [h]; exact eq_comm
      | cons t r => rw [LR]; simp [h]
    · rw [if_neg h]
      by_cases hc : consAt H w
      · rw [if_pos hc]
        cases l with
        | nil =>
          rw [LR]
          constructor
          · intro h'
            split at h'
            · cases h'
            · split at h'
              · cases h'
              · simp at h'
          · rintro ⟨_, h', _⟩; exact absurd h' h
        | cons t r =>
          rw [LR]
          constructor
          · intro h'
            split at h'
            · cases h'
            · rename_i t' y hg
              split at h'
              · cases h'
              · rename_i l' z hr
                simp only [Option.some.injEq, Prod.mk.injEq, List.cons.injEq] at h'
                obtain ⟨⟨rfl, rfl⟩, rfl⟩ := h'
                obtain ⟨h1, h2⟩ := (rL_iff H g k _ y _ _).1 hr
                exact ⟨by simpa using h1, h, hc, y, hg, h2⟩
          · rintro ⟨h1, _, _, y, hg, h2⟩
            have := (rL_iff H g k _ y r x).2 ⟨by simpa using h1, h2⟩
            simp [hg, this]
      · rw [if_neg hc]
        cases l with
        | nil => rw [LR]; simp [h]
        | cons t r => rw [LR]; simp [hc]

theorem TR_good {u : Nat → Int} {g g' : Rd} (h : ∀ w left t x, g w left = some (t, x) ↔ g' w left = some (t, x) ∧ goodT t) : ∀ (l : List Tm) (p left x : Nat), TR u g l p left x ↔ TR u g' l p left x ∧ goodL l
  | [], p, left, x => by simp [TR, goodL]
  | t :: r, p, left, x => by
    rw [TR, TR, goodL]
    constructor
    · rintro ⟨y, h1, h2⟩
      obtain ⟨a1, a2⟩ := (h _ _ _ _).1 h1
      obtain ⟨b1, b2⟩ := (TR_good h r _ _ _).1 h2
      exact ⟨⟨y, a1, b1⟩, a2, b2⟩
    · rintro ⟨⟨y, a1, b1⟩, a2, b2⟩
      exact ⟨y, (h _ _ _ _).2 ⟨a1, a2⟩, (TR_good h r _ _ _).2 ⟨b1, b2⟩⟩
theorem LR_good {H : Hp} {g g' : Rd} (h : ∀ w left t x, g w left = some (t, x) ↔ g' w left = some (t, x) ∧ goodT t) : ∀ (l : List Tm) (w : Int) (left x : Nat), LR H g l w left x ↔ LR H g' l w left x ∧ goodL l
  | [], w, left, x => by simp [LR, goodL]
  | t :: r, w, left, x => by
    rw [LR, LR, goodL]
    constructor
    · rintro ⟨c1, c2, y, h1, h2⟩
      obtain ⟨a1, a2⟩ := (h _ _ _ _).1 h1
      obtain ⟨b1, b2⟩ := (LR_good h r _ _ _).1 h2
      exact ⟨⟨c1, c2, y, a1, b1⟩, a2, b2⟩
    · rintro ⟨⟨c1, c2, y, a1, b1⟩, a2, b2⟩
      exact ⟨c1, c2, y, (h _ _ _ _).2 ⟨a1, a2⟩, (LR_good h r _ _ _).2 ⟨b1, b2⟩⟩
/-- Of each that is read one less is left. -/
theorem LR_len {H : Hp} {g : Rd} (h : ∀ w left t x, g w left = some (t, x) → x < left) : ∀ (l : List Tm) (w : Int) (left x : Nat), LR H g l w left x → l.length + x ≤ left
  | [], w, left, x, hl => by rw [LR] at hl; simp; omega
  | t :: r, w, left, x, hl => by
    rw [LR] at hl
    obtain ⟨_, _, y, h1, h2⟩ := hl
    have a := h _ _ _ _ h1
    have b := LR_len h r _ _ _ h2
    simp; omega
theorem TR_len {u : Nat → Int} {g : Rd} (h : ∀ w left t x, g w left = some (t, x) → x < left) : ∀ (l : List Tm) (p left x : Nat), TR u g l p left x → l.length + x ≤ left
  | [], p, left, x, hl => by rw [TR] at hl; simp; omega
  | t :: r, p, left, x, hl => by
    rw [TR] at hl
    obtain ⟨y, h1, h2⟩ := hl
    have a := h _ _ _ _ h1
    have b := TR_len h r _ _ _ h2
    simp; omega
theorem cnt_some {H : Hp} {v most : Int} {n : Nat} (h : cnt H v most = some n) : 1 ≤ H.len v.toNat ∧ 0 ≤ H.w v.toNat 0 ∧ H.w v.toNat 0 ≤ most ∧ (n : Int) = H.w v.toNat 0 ∧ H.w v.toNat 0 ≤ (H.len v.toNat : Int) - 1 := by
  unfold cnt at h
  split at h
  · rename_i hc
    cases h
    exact ⟨hc.1, hc.2.1, hc.2.2.1, by omega, hc.2.2.2⟩
  · cases h
/-- What each case needs for a word to be one. -/
theorem raw_isW {H : Hp} (ho : H.ok) {g : Rd} {w : Int} {left : Nat} {t : Tm} {x : Nat} (h0 : 0 ≤ w) (h : raw false H g w left = some (t, x)) (hs : shT t = true) : isW w = true := by
  have hn := ho.far
  have hv0 := valW_ge w
  have ha := ho.a
  unfold raw at h
  split at h
  · rename_i ht
    split at h
    · cases h
    · rename_i hc
      exact isW_of h0 (by omega) (by simp at hc; omega)
  · split at h
    · rename_i _ ht
      unfold rAtom at h
      split at h
      · exact isW_of h0 (by omega) (by omega)
      · cases h
    · split at h
      · rename_i _ _ ht
        simp only [Option.some.injEq, Prod.mk.injEq] at h
        obtain ⟨rfl, rfl⟩ := h
        simp [shT, shapeB, inB] at hs
        exact isW_of h0 (by omega) (by omega)
      · split at h
        · rename_i _ _ _ ht
          unfold rCnt at h
          split at h
          · cases h
          · rename_i n hn'
            have := (cnt_some hn').1
            have := hn _ (by omega : H.len (valW w).toNat ≠ 0)
            exact isW_of h0 (by omega) (by omega)
        · split at h
          · rename_i _ _ _ _ ht
            unfold rBin at h
            split at h
            · cases h
            · rename_i n hn'
              have := (cnt_some hn').1
              have := hn _ (by omega : H.len (valW w).toNat ≠ 0)
              exact isW_of h0 (by omega) (by omega)
          · split at h
            · cases h
            · rename_i h7
              obtain ⟨l, hl, rfl⟩ := tup_some.1 h
              obtain ⟨_, hl⟩ := (rL_iff H g _ _ _ _ _).1 hl
              cases l with
              | nil =>
                rw [LR] at hl
                rw [hl.1]
                decide
              | cons t r =>
                rw [LR] at hl
                have := hl.2.1.2
                have := hn _ (by omega : H.len (valW w).toNat ≠ 0)
                exact isW_of h0 h7 (by omega)
theorem raw_lt {c : Bool} {H : Hp} {g : Rd} (hg : ∀ w left t x, g w left = some (t, x) → x < left) {w : Int} {left : Nat} {t : Tm} {x : Nat} (h : raw c H g w left = some (t, x)) : x ≤ left := by
  unfold raw at h
  repeat' split at h
  all_goals try (cases h; done)
  all_goals try (simp only [Option.some.injEq, Prod.mk.injEq] at h; omega)
  · unfold rAtom at h
    split at h
    · simp only [Option.some.injEq, Prod.mk.injEq] at h; omega
    · cases h
  · unfold rCnt at h
    split at h
    · cases h
    · obtain ⟨l, hl, rfl⟩ := tup_some.1 h
      have := TR_len hg _ _ _ _ ((rTs_iff _ g _ _ _ _ _).1 hl).2
      omega
  · unfold rBin at h
    split at h
    · cases h
    · obtain ⟨s, _, _, rfl⟩ := bin_some.1 h
      exact Nat.le_refl _
  all_goals
    obtain ⟨l, hl, rfl⟩ := tup_some.1 h
    have := LR_len hg _ _ _ _ ((rL_iff H g _ _ _ _ _).1 hl).2
    omega
theorem rT_lt (c : Bool) (H : Hp) : ∀ (d : Nat) (w : Int) (left : Nat) (t : Tm) (x : Nat), rT c H d w left = some (t, x) → x < left
  | 0, w, left, t, x, h => by rw [rT] at h; cases h
  | d + 1, w, left, t, x, h => by
    rw [rT] at h
    by_cases hc : (if c then isW w else decide (0 ≤ w)) = true ∧ 0 < left
    · rw [if_pos hc] at h
      have h' : raw c H (rT c H d) w (left - 1) = some (t, x) := by
        cases c with
        | true => exact (held_true.1 h).1
        | false => rw [held_false] at h; exact h
      have := raw_lt (rT_lt c H d) h'
      omega
    · rw [if_neg hc] at h; cases h
/-- What is within, right or not. -/
theorem raw_good {H : Hp} {g g' : Rd} (hlt : ∀ w left t x, g' w left = some (t, x) → x < left) (hg : ∀ w left t x, g w left = some (t, x) ↔ g' w left = some (t, x) ∧ goodT t) {w : Int} {left : Nat} {t : Tm} {x : Nat} (h0 : tagW w ≠ 7) :
    (raw true H g w left = some (t, x) ∧ shT t = true) ↔ (raw false H g' w left = some (t, x) ∧ goodT t) := by
  have lf : ∀ k n s, goodT (.mk k n s []) ↔ shT (.mk k n s []) = true := fun k n s => by rw [goodT, goodL, shT]; simp
  unfold raw
  by_cases t0 : tagW w = 0
  · rw [if_pos t0, if_pos t0]
    by_cases hv : 2000000 < valW w
    · simp only [Bool.true_eq_false, false_and, if_false, hv, and_self, if_true, Option.some.injEq, Prod.mk.injEq, reduceCtorEq, iff_false]
      rintro ⟨⟨rfl, rfl⟩, hs⟩
      simp [shT, shapeB, inB] at hs
      omega
    · simp only [Bool.true_eq_false, if_false, hv, and_false, Option.some.injEq, Prod.mk.injEq]
      constructor
      · rintro ⟨⟨rfl, rfl⟩, hs⟩; exact ⟨⟨rfl, rfl⟩, (lf _ _ _).2 hs⟩
      · rintro ⟨⟨rfl, rfl⟩, hs⟩; exact ⟨⟨rfl, rfl⟩, (lf _ _ _).1 hs⟩
  rw [if_neg t0, if_neg t0]
  by_cases t1 : tagW w = 1
  · rw [if_pos t1, if_pos t1]
    unfold rAtom
    split
    · simp only [Option.some.injEq, Prod.mk.injEq]
      constructor
      · rintro ⟨⟨rfl, rfl⟩, hs⟩; exact ⟨⟨rfl, rfl⟩, (lf _ _ _).2 hs⟩
      · rintro ⟨⟨rfl, rfl⟩, hs⟩; exact ⟨⟨rfl, rfl⟩, (lf _ _ _).1 hs⟩
    · simp
  rw [if_neg t1, if_neg t1]
  by_cases t2 : tagW w = 2
  · rw [if_pos t2, if_pos t2]
    simp only [Option.some.injEq, Prod.mk.injEq]
    constructor
    · rintro ⟨⟨rfl, rfl⟩, hs⟩; exact ⟨⟨rfl, rfl⟩, (lf _ _ _).2 hs⟩
    · rintro ⟨⟨rfl, rfl⟩, hs⟩; exact ⟨⟨rfl, rfl⟩, (lf _ _ _).1 hs⟩
  rw [if_neg t2, if_neg t2]
  by_cases t4 : tagW w = 4
  · rw [if_pos t4, if_pos t4]
    unfold rCnt
    cases hc : cnt H (valW w) 8 with
    | none => simp
    | some n =>
      simp only [tup_some]
      constructor
      · rintro ⟨⟨l, hl, rfl⟩, hs⟩
        obtain ⟨hn, hl⟩ := (rTs_iff _ g _ _ _ _ _).1 hl
        obtain ⟨h1, h2⟩ := (TR_good hg _ _ _ _).1 hl
        exact ⟨⟨l, (rTs_iff _ g' _ _ _ _ _).2 ⟨hn, h1⟩, rfl⟩, by rw [goodT]; exact ⟨hs, h2⟩⟩
      · rintro ⟨⟨l, hl, rfl⟩, hs⟩
        rw [goodT] at hs
        obtain ⟨hn, hl⟩ := (rTs_iff _ g' _ _ _ _ _).1 hl
        exact ⟨⟨l, (rTs_iff _ g _ _ _ _ _).2 ⟨hn, (TR_good hg _ _ _ _).2 ⟨hl, hs.2⟩⟩, rfl⟩, hs.1⟩
  rw [if_neg t4, if_neg t4]
  by_cases t6 : tagW w = 6
  · rw [if_pos t6, if_pos t6]
    unfold rBin
    cases hc : cnt H (valW w) 40 with
    | none => simp
    | some n =>
      simp only [bin_some]
      constructor
      · rintro ⟨⟨s, h1, rfl, rfl⟩, hs⟩; exact ⟨⟨s, h1, rfl, rfl⟩, (lf _ _ _).2 hs⟩
      · rintro ⟨⟨s, h1, rfl, rfl⟩, hs⟩; exact ⟨⟨s, h1, rfl, rfl⟩, (lf _ _ _).1 hs⟩
  rw [if_neg t6, if_neg t6, if_neg h0, if_neg h0]
  simp only [tup_some, if_true, Bool.false_eq_true, if_false]
  have hlen : ∀ l, shT (.mk 5 0 ByteArray.empty l) = true → l.length ≤ 20 := fun l h => by
    simp [shT, shapeB] at h
    omega
  constructor
  · rintro ⟨⟨l, hl, rfl⟩, hs⟩
    obtain ⟨hn, hl⟩ := (rL_iff H g _ _ _ _ _).1 hl
    obtain ⟨h1, h2⟩ := (LR_good hg _ _ _ _).1 hl
    exact ⟨⟨l, (rL_iff H g' _ _ _ _ _).2 ⟨hlen l hs, h1⟩, rfl⟩, by rw [goodT]; exact ⟨hs, h2⟩⟩
  · rintro ⟨⟨l, hl, rfl⟩, hs⟩
    rw [goodT] at hs
    obtain ⟨hn, hl⟩ := (rL_iff H g' _ _ _ _ _).1 hl
    have := LR_len hlt _ _ _ _ hl
    exact ⟨⟨l, (rL_iff H g _ _ _ _ _).2 ⟨by omega, (LR_good hg _ _ _ _).2 ⟨hl, hs.2⟩⟩, rfl⟩, hs.1⟩
theorem rT_good {H : Hp} (ho : H.ok) : ∀ (d : Nat) (w : Int) (left : Nat) (t : Tm) (x : Nat), rT true H d w left = some (t, x) ↔ rT false H d w left = some (t, x) ∧ goodT t
  | 0, w, left, t, x => by simp [rT]
  | d + 1, w, left, t, x => by
    rw [rT, rT]
    simp only [if_true, Bool.false_eq_true, if_false, held_false, decide_eq_true_eq]
    have ih := rT_good ho d
    constructor
    · intro h
      split at h
      · rename_i hc
        have h1 := held_true.1 h
        have h2 := (raw_good (rT_lt false H d) ih (isW_tag hc.1)).1 h1
        rw [if_pos ⟨isW_ge hc.1, hc.2⟩]
        exact h2
      · cases h
    · rintro ⟨h, hgd⟩
      split at h
      · rename_i hc
        have hw := raw_isW ho hc.1 h (good_sh hgd)
        rw [if_pos ⟨hw, hc.2⟩]
        exact held_true.2 ((raw_good (rT_lt false H d) ih (isW_tag hw)).2 ⟨h, hgd⟩)
      · cases h
/-! ### What is read is right as a whole -/
theorem TR_look {u : Nat → Int} {g : Rd} {d : Nat} (h : ∀ w left t x, g w left = some (t, x) → look t d left = some x) : ∀ (l : List Tm) (p left x : Nat), TR u g l p left x → lookL l d left = some x
  | [], p, left, x, hl => by rw [TR] at hl; rw [lookL, hl]
  | t :: r, p, left, x, hl => by
    rw [TR] at hl
    obtain ⟨y, h1, h2⟩ := hl
    rw [lookL, h _ _ _ _ h1]
    exact TR_look h r _ _ _ h2
theorem LR_look {H : Hp} {g : Rd} {d : Nat} (h : ∀ w left t x, g w left = some (t, x) → look t d left = some x) : ∀ (l : List Tm) (w : Int) (left x : Nat), LR H g l w left x → lookL l d left = some x
  | [], w, left, x, hl => by rw [LR] at hl; rw [lookL, hl.2]
  | t :: r, w, left, x, hl => by
    rw [LR] at hl
    obtain ⟨_, _, y, h1, h2⟩ := hl
    rw [lookL, h _ _ _ _ h1]
    exact LR_look h r _ _ _ h2
theorem raw_look {H : Hp} {g : Rd} {d : Nat} (h : ∀ w left t x, g w left = some (t, x) → look t d left = some x) {c : Bool} {w : Int} {left : Nat} {k n : Int} {s : ByteArray} {l : List Tm} {x : Nat} (hr : raw c H g w left = some (.mk k n s l, x)) : lookL l d left = some x := by
  have lf : ∀ {k' n' : Int} {s' : ByteArray}, some (Tm.mk k' n' s' [], left) = some (Tm.mk k n s l, x) → lookL l d left = some x := fun e => by
    simp only [Option.some.injEq, Prod.mk.injEq, Tm.mk.injEq] at e
    obtain ⟨⟨_, _, _, rfl⟩, rfl⟩ := e
    rw [lookL]
  unfold raw at hr
  split at hr
  · split at hr
    · cases hr
    · exact lf hr
  · split at hr
    · unfold rAtom at hr
      split at hr
      · exact lf hr
      · cases hr
    · split at hr
      · exact lf hr
      · split at hr
        · unfold rCnt at hr
          split at hr
          · cases hr
          · obtain ⟨l', hl, e⟩ := tup_some.1 hr
            simp only [Tm.mk.injEq] at e
            obtain ⟨_, _, _, rfl⟩ := e
            exact TR_look h _ _ _ _ ((rTs_iff _ g _ _ _ _ _).1 hl).2
        · split at hr
          · unfold rBin at hr
            split at hr
            · cases hr
            · obtain ⟨s', _, e, rfl⟩ := bin_some.1 hr
              simp only [Tm.mk.injEq] at e
              obtain ⟨_, _, _, rfl⟩ := e
              rw [lookL]
          · split at hr
            · cases hr
            · obtain ⟨l', hl, e⟩ := tup_some.1 hr
              simp only [Tm.mk.injEq] at e
              obtain ⟨_, _, _, rfl⟩ := e
              exact LR_look h _ _ _ _ ((rL_iff H g _ _ _ _ _).1 hl).2
theorem rT_look {H : Hp} : ∀ (d : Nat) (w : Int) (left : Nat) (t : Tm) (x : Nat), rT true H d w left = some (t, x) → look t d left = some x
  | 0, w, left, t, x, h => by rw [rT] at h; cases h
  | d + 1, w, left, t, x, h => by
    rw [rT] at h
    by_cases hc : (if true then isW w else decide (0 ≤ w)) = true ∧ 0 < left
    · rw [if_pos hc] at h
      obtain ⟨h1, h2⟩ := held_true.1 h
      obtain ⟨k, n, s, l⟩ := t
      rw [look, if_neg (by rw [shT] at h2; simp [h2]; omega)]
      exact raw_look (rT_look d) h1
    · rw [if_neg hc] at h; cases h
/-- What the program reads is what the specification reads and holds right. -/
theorem read_one {H : Hp} (ho : H.ok) (w : Int) (t : Tm) (x : Nat) : rT true H 6 w 100 = some (t, x) ↔ rT false H 6 w 100 = some (t, x) ∧ (look t 6 100).isSome = true := by
  rw [rT_good ho]
  constructor
  · rintro ⟨h, hg⟩
    have := rT_look 6 w 100 t x ((rT_good ho 6 w 100 t x).2 ⟨h, hg⟩)
    exact ⟨h, by rw [this]; rfl⟩
  · rintro ⟨h, hl⟩
    obtain ⟨y, hy⟩ := Option.isSome_iff_exists.1 hl
    exact ⟨h, look_good _ _ _ _ hy⟩
/-- What a ReadTerm answers. -/
def readT (H : Hp) (w : Int) : Option Tm := (rT true H 6 w 100).map Prod.fst

/-! ### Words one behind the other -/
def flat (H : Ytabgfaafpgholaa.Hp) : Hp := ⟨fun p => H.N - p, fun p j => H.f (p + j), H.A⟩
theorem flat_rTs (H : Ytabgfaafpgholaa.Hp) {g g' : Rd} (hg : ∀ x y, g x y = g' x y) (v : Nat) : ∀ (n k left : Nat), rTs ((flat H).w v) g n k left = Ytabgfaafpgholaa.rTs H g' n (v + k) left
  | 0, k, left => by rw [rTs, Ytabgfaafpgholaa.rTs]
  | n + 1, k, left => by
    rw [rTs, Ytabgfaafpgholaa.rTs]
    show (match g (H.f (v + k)) left with | none => none | some (t, x) => _) = _
    rw [hg]
    cases g' (H.f (v + k)) left with
    | none => rfl
    | some p =>
      obtain ⟨t, x⟩ := p
      simp only
      rw [flat_rTs H hg v n (k + 1) x, Nat.add_assoc]
      rfl
theorem flat_consAt (H : Ytabgfaafpgholaa.Hp) (w : Int) : consAt (flat H) w ↔ Ytabgfaafpgholaa.consAt H w := by
  unfold consAt Ytabgfaafpgholaa.consAt flat
  have := valW_ge w
  simp only
  constructor <;> rintro ⟨h1, h2⟩ <;> exact ⟨h1, by omega⟩
theorem flat_rL (H : Ytabgfaafpgholaa.Hp) {g g' : Rd} (hg : ∀ x y, g x y = g' x y) : ∀ (k : Nat) (w : Int) (left : Nat), rL (flat H) g k w left = Ytabgfaafpgholaa.rL H g' k w left
  | 0, w, left => by rw [rL, Ytabgfaafpgholaa.rL]
  | k + 1, w, left => by
    rw [rL, Ytabgfaafpgholaa.rL]
    split
    · rfl
    · by_cases hc : Ytabgfaafpgholaa.consAt H w
      · rw [if_pos hc, if_pos ((flat_consAt H w).2 hc)]
        show (match g (H.f ((valW w).toNat + 0)) left with | none => none | some (t, x) => _) = _
        rw [hg, Nat.add_zero]
        cases g' (H.f (valW w).toNat) left with
        | none => rfl
        | some p =>
          obtain ⟨t, x⟩ := p
          simp only
          rw [flat_rL H hg k _ x]
          rfl
      · rw [if_neg hc, if_neg (fun h => hc ((flat_consAt H w).1 h))]
theorem flat_cnt (H : Ytabgfaafpgholaa.Hp) (v most : Int) (hv : 0 ≤ v) : cnt (flat H) v most = Ytabgfaafpgholaa.cnt H v most := by
  unfold cnt Ytabgfaafpgholaa.cnt flat
  simp only [Nat.add_zero]
  by_cases h : v + 1 ≤ H.N ∧ 0 ≤ H.f v.toNat ∧ H.f v.toNat ≤ most ∧ H.f v.toNat ≤ H.N - (v + 1)
  · rw [if_pos h, if_pos ⟨by omega, h.2.1, h.2.2.1, by omega⟩]
  · rw [if_neg h, if_neg (fun h' => h ⟨by omega, h'.2.1, h'.2.2.1, by omega⟩)]
theorem flat_raw (H : Ytabgfaafpgholaa.Hp) (c : Bool) {g g' : Rd} (hg : ∀ x y, g x y = g' x y) (w : Int) (left : Nat) : raw c (flat H) g w left = Ytabgfaafpgholaa.raw c H g' w left := by
  unfold raw Ytabgfaafpgholaa.raw
  have e1 : rCnt (flat H) g (valW w) left = Ytabgfaafpgholaa.rCnt H g' (valW w) left := by
    unfold rCnt Ytabgfaafpgholaa.rCnt
    rw [flat_cnt H _ _ (valW_ge w)]
    cases Ytabgfaafpgholaa.cnt H (valW w) 8 with
    | none => rfl
    | some n => simp only [flat_rTs H hg]
  have e2 : rBin (flat H) (valW w) left = Ytabgfaafpgholaa.rBin H (valW w) left := by
    unfold rBin Ytabgfaafpgholaa.rBin
    rw [flat_cnt H _ _ (valW_ge w)]
    cases Ytabgfaafpgholaa.cnt H (valW w) 40 with
    | none => rfl
    | some n =>
      have : wordsAt (flat H) (valW w).toNat 1 n = Ytabgfaafpgholaa.wordsAt H ((valW w).toNat + 1) n := by
        unfold wordsAt Ytabgfaafpgholaa.wordsAt flat
        simp only [Nat.add_assoc]
      simp only [this]
  rw [e1, e2, flat_rL H hg]
  rfl
theorem flat_rT (H : Ytabgfaafpgholaa.Hp) (c : Bool) : ∀ (d : Nat) (w : Int) (left : Nat), rT c (flat H) d w left = Ytabgfaafpgholaa.rT c H d w left
  | 0, w, left => by rw [rT, Ytabgfaafpgholaa.rT]
  | d + 1, w, left => by
    rw [rT, Ytabgfaafpgholaa.rT, flat_raw H c (flat_rT H c d)]
theorem flat_readT (H : Ytabgfaafpgholaa.Hp) (w : Int) : readT (flat H) w = Ytabgfaafpgholaa.readT H w := by
  unfold readT Ytabgfaafpgholaa.readT
  rw [flat_rT]
theorem flat_ok {H : Ytabgfaafpgholaa.Hp} (h : H.ok) : (flat H).ok := ⟨fun p => by have := h.n; show H.N - p ≤ _; omega, fun p hp => by have := h.n; have : H.N - p ≠ 0 := hp; omega, h.a⟩
end Go.Proofs.Ytabgfaafpgholaa.Gn
