/-
  What is read of words as a term, as reckoning: once as the program reads (each part is held right as it comes), once as the specification reads (all of it is held right behind it): the same terms come out.
-/
import Derived.Test.YtabgfaafpgholaaW2
namespace Go.Proofs.Ytabgfaafpgholaa
open Go.RowKit
set_option linter.unusedVariables false

/-- Words: how many, which; and the atoms. -/
structure Hp where
  N : Nat
  f : Nat → Int
  A : List ByteArray
structure Hp.ok (H : Hp) : Prop where
  n : H.N ≤ 1048576
  a : H.A.length ≤ 1048576

def isW (w : Int) : Bool := decide (mkw (tagW w) (valW w) = w)
theorem tagW_ge (w : Int) : 0 ≤ tagW w ∧ tagW w ≤ 7 := by unfold tagW; split <;> omega
theorem valW_ge (w : Int) : 0 ≤ valW w := by unfold valW; split <;> omega
theorem tagW_of {w : Int} (h : 0 ≤ w) : tagW w = w % 8 := by unfold tagW; rw [if_neg (by omega)]
theorem valW_of {w : Int} (h : 0 ≤ w) : valW w = w / 8 := by unfold valW; rw [if_neg (by omega)]
theorem isW_of {w : Int} (h0 : 0 ≤ w) (h1 : tagW w ≠ 7) (h2 : valW w ≤ 4000000) : isW w = true := by
  rw [tagW_of h0] at h1
  rw [valW_of h0] at h2
  unfold isW mkw inB
  rw [tagW_of h0, valW_of h0]
  have a1 : 0 ≤ w % 8 ∧ w % 8 ≤ 6 := by omega
  have a2 : 0 ≤ w / 8 ∧ w / 8 ≤ 4000000 := by omega
  simp [a1, a2]
  omega
theorem isW_ge {w : Int} (h : isW w = true) : 0 ≤ w := by
  by_cases h0 : 0 ≤ w
  · exact h0
  · exfalso
    have e1 : tagW w = 0 := by unfold tagW; rw [if_pos (by omega)]
    have e2 : valW w = 0 := by unfold valW; rw [if_pos (by omega)]
    unfold isW mkw inB at h
    rw [e1, e2] at h
    simp at h
    omega
theorem isW_tag {w : Int} (h : isW w = true) : tagW w ≠ 7 := fun e => by
  have h0 := isW_ge h
  unfold isW mkw at h
  rw [e] at h
  simp [inB] at h
  rw [← h] at e
  unfold tagW at e
  simp at e
theorem isW_val {w : Int} (h : isW w = true) : valW w ≤ 4000000 := by
  have h0 := isW_ge h
  by_cases hv : valW w ≤ 4000000
  · exact hv
  · exfalso
    unfold isW mkw at h
    have : inB (valW w) 0 4000000 = false := by unfold inB; simp; omega
    rw [this] at h
    simp at h
    rw [← h] at hv
    unfold valW at hv
    simp at hv

/-- How many the word at a place says that there are behind it; nothing: they are not there. -/
def cnt (H : Hp) (v most : Int) : Option Nat := if v + 1 ≤ H.N ∧ 0 ≤ H.f v.toNat ∧ H.f v.toNat ≤ most ∧ H.f v.toNat ≤ H.N - (v + 1) then some (H.f v.toNat).toNat else none
def wordsAt (H : Hp) (p n : Nat) : List Int := (List.range n).map fun j => H.f (p + j)
def isByte (x : Int) : Bool := decide (0 ≤ x ∧ x ≤ 255)
def txtB (l : List Int) : ByteArray := ⟨(l.map fun x => UInt8.ofNat x.toNat).toArray⟩
def txt (l : List Int) : Option ByteArray := if l.all isByte then some (txtB l) else none

abbrev Rd := Int → Nat → Option (Tm × Nat)
def rTs (H : Hp) (g : Rd) : Nat → Nat → Nat → Option (List Tm × Nat)
  | 0, _, left => some ([], left)
  | n + 1, p, left => match g (H.f p) left with
    | none => none
    | some (t, x) => match rTs H g n (p + 1) x with
      | none => none
      | some (l, y) => some (t :: l, y)
def consAt (H : Hp) (w : Int) : Prop := tagW w = 5 ∧ valW w + 2 ≤ H.N
instance (H : Hp) (w : Int) : Decidable (consAt H w) := inferInstanceAs (Decidable (tagW w = 5 ∧ valW w + 2 ≤ H.N))
def rL (H : Hp) (g : Rd) : Nat → Int → Nat → Option (List Tm × Nat)
  | 0, w, left => if w = 3 then some ([], left) else none
  | k + 1, w, left => if w = 3 then some ([], left) else if consAt H w then
      (match g (H.f (valW w).toNat) left with
      | none => none
      | some (t, x) => match rL H g k (H.f ((valW w).toNat + 1)) x with
        | none => none
        | some (l, y) => some (t :: l, y)) else none
def tup (k : Int) : Option (List Tm × Nat) → Option (Tm × Nat)
  | none => none
  | some (l, x) => some (.mk k 0 ByteArray.empty l, x)
def bin (left : Nat) : Option ByteArray → Option (Tm × Nat)
  | none => none
  | some s => some (.mk 6 0 s [], left)
def rCnt (H : Hp) (g : Rd) (v : Int) (left : Nat) : Option (Tm × Nat) := match cnt H v 8 with
  | none => none
  | some n => tup 4 (rTs H g n (v.toNat + 1) left)
def rBin (H : Hp) (v : Int) (left : Nat) : Option (Tm × Nat) := match cnt H v 40 with
  | none => none
  | some n => bin left (txt (wordsAt H (v.toNat + 1) n))
def rAtom (H : Hp) (v : Int) (left : Nat) : Option (Tm × Nat) := if v < H.A.length then some (.mk 2 0 (H.A.getD v.toNat ByteArray.empty) [], left) else none
/-- One term; what is within is read by g. c: as the program does. -/
def raw (c : Bool) (H : Hp) (g : Rd) (w : Int) (left : Nat) : Option (Tm × Nat) :=
  if tagW w = 0 then (if c = false ∧ 2000000 < valW w then none else some (.mk 1 (valW w - 1000000) ByteArray.empty [], left))
  else if tagW w = 1 then rAtom H (valW w) left
  else if tagW w = 2 then some (.mk 3 (valW w) ByteArray.empty [], left)
  else if tagW w = 4 then rCnt H g (valW w) left
  else if tagW w = 6 then rBin H (valW w) left
  else if tagW w = 7 then none
  else tup 5 (rL H g (if c then left else 20) w left)
def shT : Tm → Bool
  | .mk k n s l => shapeB k n s l.length
def held (c : Bool) : Option (Tm × Nat) → Option (Tm × Nat)
  | none => none
  | some (t, x) => if c && !shT t then none else some (t, x)
def rT (c : Bool) (H : Hp) : Nat → Rd
  | 0, _, _ => none
  | d + 1, w, left => if (if c then isW w else decide (0 ≤ w)) = true ∧ 0 < left then held c (raw c H (rT c H d) w (left - 1)) else none

/-! ### Both ways one -/
/-- l is what g reads of the words from p on. -/
def TR (H : Hp) (g : Rd) : List Tm → Nat → Nat → Nat → Prop
  | [], _, left, x => x = left
  | t :: r, p, left, x => ∃ y, g (H.f p) left = some (t, y) ∧ TR H g r (p + 1) y x
theorem rTs_iff (H : Hp) (g : Rd) : ∀ (n p left : Nat) (l : List Tm) (x : Nat), rTs H g n p left = some (l, x) ↔ l.length = n ∧ TR H g l p left x
  | 0, p, left, l, x => by
    rw [rTs]
    cases l with
    | nil => simp [TR]; exact eq_comm
    | cons t r => simp
  | n + 1, p, left, l, x => by
    rw [rTs]
    cases l with
    | nil =>
      simp only [List.length_nil]
      constructor
      · intro h
        split at h
        · cases h
        · split at h
          · cases h
          · simp at h
      · intro h; omega
    | cons t r =>
      rw [TR]
      constructor
      · intro h
        split at h
        · cases h
        · rename_i t' y hg
          split at h
          · cases h
          · rename_i l' z hr
            simp only [Option.some.injEq, Prod.mk.injEq, List.cons.injEq] at h
            obtain ⟨⟨rfl, rfl⟩, rfl⟩ := h
            obtain ⟨h1, h2⟩ := (rTs_iff H g n (p + 1) y _ _).1 hr
            exact ⟨by simp [h1], y, hg, h2⟩
      · rintro ⟨h1, y, hg, h2⟩
        have := (rTs_iff H g n (p + 1) y r x).2 ⟨by simpa using h1, h2⟩
        simp [hg, this]
def LR (H : Hp) (g : Rd) : List Tm → Int → Nat → Nat → Prop
  | [], w, left, x => w = 3 ∧ x = left
  | t :: r, w, left, x => w ≠ 3 ∧ consAt H w ∧ ∃ y, g (H.f (valW w).toNat) left = some (t, y) ∧ LR H g r (H.f ((valW w).toNat + 1)) y x
theorem rL_iff (H : Hp) (g : Rd) : ∀ (k : Nat) (w : Int) (left : Nat) (l : List Tm) (x : Nat), rL H g k w left = some (l, x) ↔ l.length ≤ k ∧ LR H g l w left x
  | 0, w, left, l, x => by
    rw [rL]
    cases l with
    | nil =>
      rw [LR]
      by_cases h : w = 3
      · simp [h]; exact eq_comm
      · simp [h]
    | cons t r => by_cases h : w = 3 <;> simp [h]
  | k + 1, w, left, l, x => by
    rw [rL]
    by_cases h : w = 3
    · rw [if_pos h]
      cases l with
      | nil => rw [LR]; simp [h]; exact eq_comm
      | cons t r => rw [LR]; simp [h]
    · rw [if_neg h]
      by_cases hc : consAt H w
      · rw [if_pos hc]
        cases l with
        | nil =>
          rw [LR]
          constructor
          · intro h'
            split at h'
            · cases h'
            · split at h'
              · cases h'
              · simp at h'
          · rintro ⟨_, h', _⟩; exact absurd h' h
        | cons t r =>
          rw [LR]
          constructor
          · intro h'
            split at h'
            · cases h'
            · rename_i t' y hg
              split at h'
              · cases h'
              · rename_i l' z hr
                simp only [Option.some.injEq, Prod.mk.injEq, List.cons.injEq] at h'
                obtain ⟨⟨rfl, rfl⟩, rfl⟩ := h'
                obtain ⟨h1, h2⟩ := (rL_iff H g k _ y _ _).1 hr
                exact ⟨by simpa using h1, h, hc, y, hg, h2⟩
          · rintro ⟨h1, _, _, y, hg, h2⟩
            have := (rL_iff H g k _ y r x).2 ⟨by simpa using h1, h2⟩
            simp [hg, this]
      · rw [if_neg hc]
        cases l with
        | nil => rw [LR]; simp [h]
        | cons t r => rw [LR]; simp [hc]

mutual
def goodT : Tm → Prop
  | .mk k n s l => shapeB k n s l.length = true ∧ goodL l
def goodL : List Tm → Prop
  | [] => True
  | t :: r => goodT t ∧ goodL r
end
theorem TR_good {H : Hp} {g g' : Rd} (h : ∀ w left t x, g w left = some (t, x) ↔ g' w left = some (t, x) ∧ goodT t) : ∀ (l : List Tm) (p left x : Nat), TR H g l p left x ↔ TR H g' l p left x ∧ goodL l
  | [], p, left, x => by simp [TR, goodL]
  | t :: r, p, left, x => by
    rw [TR, TR, goodL]
    constructor
    · rintro ⟨y, h1, h2⟩
      obtain ⟨a1, a2⟩ := (h _ _ _ _).1 h1
      obtain ⟨b1, b2⟩ := (TR_good h r _ _ _).1 h2
      exact ⟨⟨y, a1, b1⟩, a2, b2⟩
    · rintro ⟨⟨y, a1, b1⟩, a2, b2⟩
      exact ⟨y, (h _ _ _ _).2 ⟨a1, a2⟩, (TR_good h r _ _ _).2 ⟨b1, b2⟩⟩
theorem LR_good {H : Hp} {g g' : Rd} (h : ∀ w left t x, g w left = some (t, x) ↔ g' w left = some (t, x) ∧ goodT t) : ∀ (l : List Tm) (w : Int) (left x : Nat), LR H g l w left x ↔ LR H g' l w left x ∧ goodL l
  | [], w, left, x => by simp [LR, goodL]
  | t :: r, w, left, x => by
    rw [LR, LR, goodL]
    constructor
    · rintro ⟨c1, c2, y, h1, h2⟩
      obtain ⟨a1, a2⟩ := (h _ _ _ _).1 h1
      obtain ⟨b1, b2⟩ := (LR_good h r _ _ _).1 h2
      exact ⟨⟨c1, c2, y, a1, b1⟩, a2, b2⟩
    · rintro ⟨⟨c1, c2, y, a1, b1⟩, a2, b2⟩
      exact ⟨c1, c2, y, (h _ _ _ _).2 ⟨a1, a2⟩, (LR_good h r _ _ _).2 ⟨b1, b2⟩⟩
/-- Of each that is read one less is left. -/
theorem LR_len {H : Hp} {g : Rd} (h : ∀ w left t x, g w left = some (t, x) → x < left) : ∀ (l : List Tm) (w : Int) (left x : Nat), LR H g l w left x → l.length + x ≤ left
  | [], w, left, x, hl => by rw [LR] at hl; simp; omega
  | t :: r, w, left, x, hl => by
    rw [LR] at hl
    obtain ⟨_, _, y, h1, h2⟩ := hl
    have a := h _ _ _ _ h1
    have b := LR_len h r _ _ _ h2
    simp; omega
theorem TR_len {H : Hp} {g : Rd} (h : ∀ w left t x, g w left = some (t, x) → x < left) : ∀ (l : List Tm) (p left x : Nat), TR H g l p left x → l.length + x ≤ left
  | [], p, left, x, hl => by rw [TR] at hl; simp; omega
  | t :: r, p, left, x, hl => by
    rw [TR] at hl
    obtain ⟨y, h1, h2⟩ := hl
    have a := h _ _ _ _ h1
    have b := TR_len h r _ _ _ h2
    simp; omega
theorem tup_some {k : Int} {o : Option (List Tm × Nat)} {t : Tm} {x : Nat} : tup k o = some (t, x) ↔ ∃ l, o = some (l, x) ∧ t = .mk k 0 ByteArray.empty l := by
  cases o with
  | none => simp [tup]
  | some p =>
    obtain ⟨l, y⟩ := p
    simp only [tup, Option.some.injEq, Prod.mk.injEq]
    constructor
    · rintro ⟨rfl, rfl⟩; exact ⟨l, ⟨rfl, rfl⟩, rfl⟩
    · rintro ⟨l', ⟨rfl, rfl⟩, rfl⟩; exact ⟨rfl, rfl⟩
theorem bin_some {left : Nat} {o : Option ByteArray} {t : Tm} {x : Nat} : bin left o = some (t, x) ↔ ∃ s, o = some s ∧ t = .mk 6 0 s [] ∧ x = left := by
  cases o with
  | none => simp [bin]
  | some s =>
    simp only [bin, Option.some.injEq, Prod.mk.injEq]
    constructor
    · rintro ⟨rfl, rfl⟩; exact ⟨s, rfl, rfl, rfl⟩
    · rintro ⟨s', rfl, rfl, rfl⟩; exact ⟨rfl, rfl⟩
theorem cnt_some {H : Hp} {v most : Int} {n : Nat} (h : cnt H v most = some n) : v + 1 ≤ H.N ∧ 0 ≤ H.f v.toNat ∧ H.f v.toNat ≤ most ∧ (n : Int) = H.f v.toNat ∧ H.f v.toNat ≤ H.N - (v + 1) := by
  unfold cnt at h
  split at h
  · rename_i hc
    cases h
    exact ⟨hc.1, hc.2.1, hc.2.2.1, by omega, hc.2.2.2⟩
  · cases h
theorem held_true {o : Option (Tm × Nat)} {t : Tm} {x : Nat} : held true o = some (t, x) ↔ o = some (t, x) ∧ shT t = true := by
  cases o with
  | none => simp [held]
  | some p =>
    obtain ⟨t', y⟩ := p
    simp only [held, Bool.true_and]
    cases hs : shT t' with
    | true =>
      simp
      rintro rfl rfl
      exact hs
    | false =>
      simp
      rintro rfl rfl
      rw [hs]
theorem held_false (o : Option (Tm × Nat)) : held false o = o := by
  cases o with
  | none => rfl
  | some p => rfl
/-- What each case needs for a word to be one. -/
theorem raw_isW {H : Hp} (ho : H.ok) {g : Rd} {w : Int} {left : Nat} {t : Tm} {x : Nat} (h0 : 0 ≤ w) (h : raw false H g w left = some (t, x)) (hs : shT t = true) : isW w = true := by
  have hn := ho.n
  have ha := ho.a
  unfold raw at h
  split at h
  · rename_i ht
    split at h
    · cases h
    · rename_i hc
      exact isW_of h0 (by omega) (by simp at hc; omega)
  · split at h
    · rename_i _ ht
      unfold rAtom at h
      split at h
      · exact isW_of h0 (by omega) (by omega)
      · cases h
    · split at h
      · rename_i _ _ ht
        simp only [Option.some.injEq, Prod.mk.injEq] at h
        obtain ⟨rfl, rfl⟩ := h
        simp [shT, shapeB, inB] at hs
        exact isW_of h0 (by omega) (by omega)
      · split at h
        · rename_i _ _ _ ht
          unfold rCnt at h
          split at h
          · cases h
          · rename_i n hn'
            have := (cnt_some hn').1
            exact isW_of h0 (by omega) (by omega)
        · split at h
          · rename_i _ _ _ _ ht
            unfold rBin at h
            split at h
            · cases h
            · rename_i n hn'
              have := (cnt_some hn').1
              exact isW_of h0 (by omega) (by omega)
          · split at h
            · cases h
            · rename_i h7
              obtain ⟨l, hl, rfl⟩ := tup_some.1 h
              obtain ⟨_, hl⟩ := (rL_iff H g _ _ _ _ _).1 hl
              cases l with
              | nil =>
                rw [LR] at hl
                rw [hl.1]
                decide
              | cons t r =>
                rw [LR] at hl
                have := hl.2.1.2
                exact isW_of h0 h7 (by omega)
theorem raw_lt {c : Bool} {H : Hp} {g : Rd} (hg : ∀ w left t x, g w left = some (t, x) → x < left) {w : Int} {left : Nat} {t : Tm} {x : Nat} (h : raw c H g w left = some (t, x)) : x ≤ left := by
  unfold raw at h
  repeat' split at h
  all_goals try (cases h; done)
  all_goals try (simp only [Option.some.injEq, Prod.mk.injEq] at h; omega)
  · unfold rAtom at h
    split at h
    · simp only [Option.some.injEq, Prod.mk.injEq] at h; omega
    · cases h
  · unfold rCnt at h
    split at h
    · cases h
    · obtain ⟨l, hl, rfl⟩ := tup_some.1 h
      have := TR_len hg _ _ _ _ ((rTs_iff H g _ _ _ _ _).1 hl).2
      omega
  · unfold rBin at h
    split at h
    · cases h
    · obtain ⟨s, _, _, rfl⟩ := bin_some.1 h
      exact Nat.le_refl _
  all_goals
    obtain ⟨l, hl, rfl⟩ := tup_some.1 h
    have := LR_len hg _ _ _ _ ((rL_iff H g _ _ _ _ _).1 hl).2
    omega
theorem rT_lt (c : Bool) (H : Hp) : ∀ (d : Nat) (w : Int) (left : Nat) (t : Tm) (x : Nat), rT c H d w left = some (t, x) → x < left
  | 0, w, left, t, x, h => by rw [rT] at h; cases h
  | d + 1, w, left, t, x, h => by
    rw [rT] at h
    by_cases hc : (if c then isW w else decide (0 ≤ w)) = true ∧ 0 < left
    · rw [if_pos hc] at h
      have h' : raw c H (rT c H d) w (left - 1) = some (t, x) := by
        cases c with
        | true => exact (held_true.1 h).1
        | false => rw [held_false] at h; exact h
      have := raw_lt (rT_lt c H d) h'
      omega
    · rw [if_neg hc] at h; cases h
/-- What is within, right or not. -/
theorem raw_good {H : Hp} {g g' : Rd} (hlt : ∀ w left t x, g' w left = some (t, x) → x < left) (hg : ∀ w left t x, g w left = some (t, x) ↔ g' w left = some (t, x) ∧ goodT t) {w : Int} {left : Nat} {t : Tm} {x : Nat} (h0 : tagW w ≠ 7) :
    (raw true H g w left = some (t, x) ∧ shT t = true) ↔ (raw false H g' w left = some (t, x) ∧ goodT t) := by
  have lf : ∀ k n s, goodT (.mk k n s []) ↔ shT (.mk k n s []) = true := fun k n s => by rw [goodT, goodL, shT]; simp
  unfold raw
  by_cases t0 : tagW w = 0
  · rw [if_pos t0, if_pos t0]
    by_cases hv : 2000000 < valW w
    · simp only [Bool.true_eq_false, false_and, if_false, hv, and_self, if_true, Option.some.injEq, Prod.mk.injEq, reduceCtorEq, iff_false]
      rintro ⟨⟨rfl, rfl⟩, hs⟩
      simp [shT, shapeB, inB] at hs
      omega
    · simp only [Bool.true_eq_false, if_false, hv, and_false, Option.some.injEq, Prod.mk.injEq]
      constructor
      · rintro ⟨⟨rfl, rfl⟩, hs⟩; exact ⟨⟨rfl, rfl⟩, (lf _ _ _).2 hs⟩
      · rintro ⟨⟨rfl, rfl⟩, hs⟩; exact ⟨⟨rfl, rfl⟩, (lf _ _ _).1 hs⟩
  rw [if_neg t0, if_neg t0]
  by_cases t1 : tagW w = 1
  · rw [if_pos t1, if_pos t1]
    unfold rAtom
    split
    · simp only [Option.some.injEq, Prod.mk.injEq]
      constructor
      · rintro ⟨⟨rfl, rfl⟩, hs⟩; exact ⟨⟨rfl, rfl⟩, (lf _ _ _).2 hs⟩
      · rintro ⟨⟨rfl, rfl⟩, hs⟩; exact ⟨⟨rfl, rfl⟩, (lf _ _ _).1 hs⟩
    · simp
  rw [if_neg t1, if_neg t1]
  by_cases t2 : tagW w = 2
  · rw [if_pos t2, if_pos t2]
    simp only [Option.some.injEq, Prod.mk.injEq]
    constructor
    · rintro ⟨⟨rfl, rfl⟩, hs⟩; exact ⟨⟨rfl, rfl⟩, (lf _ _ _).2 hs⟩
    · rintro ⟨⟨rfl, rfl⟩, hs⟩; exact ⟨⟨rfl, rfl⟩, (lf _ _ _).1 hs⟩
  rw [if_neg t2, if_neg t2]
  by_cases t4 : tagW w = 4
  · rw [if_pos t4, if_pos t4]
    unfold rCnt
    cases hc : cnt H (valW w) 8 with
    | none => simp
    | some n =>
      simp only [tup_some]
      constructor
      · rintro ⟨⟨l, hl, rfl⟩, hs⟩
        obtain ⟨hn, hl⟩ := (rTs_iff H g _ _ _ _ _).1 hl
        obtain ⟨h1, h2⟩ := (TR_good hg _ _ _ _).1 hl
        exact ⟨⟨l, (rTs_iff H g' _ _ _ _ _).2 ⟨hn, h1⟩, rfl⟩, by rw [goodT]; exact ⟨hs, h2⟩⟩
      · rintro ⟨⟨l, hl, rfl⟩, hs⟩
        rw [goodT] at hs
        obtain ⟨hn, hl⟩ := (rTs_iff H g' _ _ _ _ _).1 hl
        exact ⟨⟨l, (rTs_iff H g _ _ _ _ _).2 ⟨hn, (TR_good hg _ _ _ _).2 ⟨hl, hs.2⟩⟩, rfl⟩, hs.1⟩
  rw [if_neg t4, if_neg t4]
  by_cases t6 : tagW w = 6
  · rw [if_pos t6, if_pos t6]
    unfold rBin
    cases hc : cnt H (valW w) 40 with
    | none => simp
    | some n =>
      simp only [bin_some]
      constructor
      · rintro ⟨⟨s, h1, rfl, rfl⟩, hs⟩; exact ⟨⟨s, h1, rfl, rfl⟩, (lf _ _ _).2 hs⟩
      · rintro ⟨⟨s, h1, rfl, rfl⟩, hs⟩; exact ⟨⟨s, h1, rfl, rfl⟩, (lf _ _ _).1 hs⟩
  rw [if_neg t6, if_neg t6, if_neg h0, if_neg h0]
  simp only [tup_some, if_true, Bool.false_eq_true, if_false]
  have hlen : ∀ l, shT (.mk 5 0 ByteArray.empty l) = true → l.length ≤ 20 := fun l h => by
    simp [shT, shapeB] at h
    omega
  constructor
  · rintro ⟨⟨l, hl, rfl⟩, hs⟩
    obtain ⟨hn, hl⟩ := (rL_iff H g _ _ _ _ _).1 hl
    obtain ⟨h1, h2⟩ := (LR_good hg _ _ _ _).1 hl
    exact ⟨⟨l, (rL_iff H g' _ _ _ _ _).2 ⟨hlen l hs, h1⟩, rfl⟩, by rw [goodT]; exact ⟨hs, h2⟩⟩
  · rintro ⟨⟨l, hl, rfl⟩, hs⟩
    rw [goodT] at hs
    obtain ⟨hn, hl⟩ := (rL_iff H g' _ _ _ _ _).1 hl
    have := LR_len hlt _ _ _ _ hl
    exact ⟨⟨l, (rL_iff H g _ _ _ _ _).2 ⟨by omega, (LR_good hg _ _ _ _).2 ⟨hl, hs.2⟩⟩, rfl⟩, hs.1⟩
theorem good_sh {t : Tm} (h : goodT t) : shT t = true := by
  obtain ⟨k, n, s, l⟩ := t
  rw [goodT] at h
  exact h.1
theorem rT_good {H : Hp} (ho : H.ok) : ∀ (d : Nat) (w : Int) (left : Nat) (t : Tm) (x : Nat), rT true H d w left = some (t, x) ↔ rT false H d w left = some (t, x) ∧ goodT t
  | 0, w, left, t, x => by simp [rT]
  | d + 1, w, left, t, x => by
    rw [rT, rT]
    simp only [if_true, Bool.false_eq_true, if_false, held_false, decide_eq_true_eq]
    have ih := rT_good ho d
    constructor
    · intro h
      split at h
      · rename_i hc
        have h1 := held_true.1 h
        have h2 := (raw_good (rT_lt false H d) ih (isW_tag hc.1)).1 h1
        rw [if_pos ⟨isW_ge hc.1, hc.2⟩]
        exact h2
      · cases h
    · rintro ⟨h, hgd⟩
      split at h
      · rename_i hc
        have hw := raw_isW ho hc.1 h (good_sh hgd)
        rw [if_pos ⟨hw, hc.2⟩]
        exact held_true.2 ((raw_good (rT_lt false H d) ih (isW_tag hw)).2 ⟨h, hgd⟩)
      · cases h
/-! ### What is read is right as a whole -/
theorem TR_look {H : Hp} {g : Rd} {d : Nat} (h : ∀ w left t x, g w left = some (t, x) → look t d left = some x) : ∀ (l : List Tm) (p left x : Nat), TR H g l p left x → lookL l d left = some x
  | [], p, left, x, hl => by rw [TR] at hl; rw [lookL, hl]
  | t :: r, p, left, x, hl => by
    rw [TR] at hl
    obtain ⟨y, h1, h2⟩ := hl
    rw [lookL, h _ _ _ _ h1]
    exact TR_look h r _ _ _ h2
theorem LR_look {H : Hp} {g : Rd} {d : Nat} (h : ∀ w left t x, g w left = some (t, x) → look t d left = some x) : ∀ (l : List Tm) (w : Int) (left x : Nat), LR H g l w left x → lookL l d left = some x
  | [], w, left, x, hl => by rw [LR] at hl; rw [lookL, hl.2]
  | t :: r, w, left, x, hl => by
    rw [LR] at hl
    obtain ⟨_, _, y, h1, h2⟩ := hl
    rw [lookL, h _ _ _ _ h1]
    exact LR_look h r _ _ _ h2
theorem raw_look {H : Hp} {g : Rd} {d : Nat} (h : ∀ w left t x, g w left = some (t, x) → look t d left = some x) {c : Bool} {w : Int} {left : Nat} {k n : Int} {s : ByteArray} {l : List Tm} {x : Nat} (hr : raw c H g w left = some (.mk k n s l, x)) : lookL l d left = some x := by
  have lf : ∀ {k' n' : Int} {s' : ByteArray}, some (Tm.mk k' n' s' [], left) = some (Tm.mk k n s l, x) → lookL l d left = some x := fun e => by
    simp only [Option.some.injEq, Prod.mk.injEq, Tm.mk.injEq] at e
    obtain ⟨⟨_, _, _, rfl⟩, rfl⟩ := e
    rw [lookL]
  unfold raw at hr
  split at hr
  · split at hr
    · cases hr
    · exact lf hr
  · split at hr
    · unfold rAtom at hr
      split at hr
      · exact lf hr
      · cases hr
    · split at hr
      · exact lf hr
      · split at hr
        · unfold rCnt at hr
          split at hr
          · cases hr
          · obtain ⟨l', hl, e⟩ := tup_some.1 hr
            simp only [Tm.mk.injEq] at e
            obtain ⟨_, _, _, rfl⟩ := e
            exact TR_look h _ _ _ _ ((rTs_iff H g _ _ _ _ _).1 hl).2
        · split at hr
          · unfold rBin at hr
            split at hr
            · cases hr
            · obtain ⟨s', _, e, rfl⟩ := bin_some.1 hr
              simp only [Tm.mk.injEq] at e
              obtain ⟨_, _, _, rfl⟩ := e
              rw [lookL]
          · split at hr
            · cases hr
            · obtain ⟨l', hl, e⟩ := tup_some.1 hr
              simp only [Tm.mk.injEq] at e
              obtain ⟨_, _, _, rfl⟩ := e
              exact LR_look h _ _ _ _ ((rL_iff H g _ _ _ _ _).1 hl).2
theorem rT_look {H : Hp} : ∀ (d : Nat) (w : Int) (left : Nat) (t : Tm) (x : Nat), rT true H d w left = some (t, x) → look t d left = some x
  | 0, w, left, t, x, h => by rw [rT] at h; cases h
  | d + 1, w, left, t, x, h => by
    rw [rT] at h
    by_cases hc : (if true then isW w else decide (0 ≤ w)) = true ∧ 0 < left
    · rw [if_pos hc] at h
      obtain ⟨h1, h2⟩ := held_true.1 h
      obtain ⟨k, n, s, l⟩ := t
      rw [look, if_neg (by rw [shT] at h2; simp [h2]; omega)]
      exact raw_look (rT_look d) h1
    · rw [if_neg hc] at h; cases h
mutual
theorem look_good : ∀ (t : Tm) (d m x : Nat), look t d m = some x → goodT t
  | .mk k n s l, d, m, x, h => by
    rw [look] at h
    split at h
    · cases h
    · rename_i hc
      rw [goodT]
      exact ⟨by cases hs : shapeB k n s l.length with | true => rfl | false => exact absurd (Or.inr (Or.inr hs)) hc, lookL_good l _ _ _ h⟩
theorem lookL_good : ∀ (l : List Tm) (d m x : Nat), lookL l d m = some x → goodL l
  | [], d, m, x, h => by rw [goodL]; trivial
  | t :: r, d, m, x, h => by
    rw [lookL] at h
    split at h
    · cases h
    · rename_i y hy
      rw [goodL]
      exact ⟨look_good t d m y hy, lookL_good r d y x h⟩
end
/-- What the program reads is what the specification reads and holds right. -/
theorem read_one {H : Hp} (ho : H.ok) (w : Int) (t : Tm) (x : Nat) : rT true H 6 w 100 = some (t, x) ↔ rT false H 6 w 100 = some (t, x) ∧ (look t 6 100).isSome = true := by
  rw [rT_good ho]
  constructor
  · rintro ⟨h, hg⟩
    have := rT_look 6 w 100 t x ((rT_good ho 6 w 100 t x).2 ⟨h, hg⟩)
    exact ⟨h, by rw [this]; rfl⟩
  · rintro ⟨h, hl⟩
    obtain ⟨y, hy⟩ := Option.isSome_iff_exists.1 hl
    exact ⟨h, look_good _ _ _ _ hy⟩
/-- What a ReadTerm answers. -/
def readT (H : Hp) (w : Int) : Option Tm := (rT true H 6 w 100).map Prod.fst
end Go.Proofs.Ytabgfaafpgholaa
