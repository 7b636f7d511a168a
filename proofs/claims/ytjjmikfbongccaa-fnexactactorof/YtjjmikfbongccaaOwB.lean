/-
  A term whose lists stand apart: each list in a block of its own, what is within it in blocks of an interval that no other one has.
-/
import Derived.Test.YtjjmikfbongccaaDrB
namespace Go.Proofs.Ytjjmikfbongccaa
open Go.RowKit
set_option linter.unusedVariables false

mutual
/-- The four cells from off on in the block b are the term t; all blocks that it leads to are of [a, m). -/
def OwT (w : World) : Tm → Nat → Nat → Nat → Nat → Prop
  | .mk k n s l, a, m, b, off => w.cell? ⟨b, off, none⟩ = some (.int .i64 k) ∧ w.cell? ⟨b, off + 1, none⟩ = some (.int .i64 n) ∧ w.cell? ⟨b, off + 2, none⟩ = some (.string s) ∧ s.size ≤ maxLen ∧
      ∃ ao cap, w.cell? ⟨b, off + 3, none⟩ = some (.slice ao l.length cap) ∧ l.length ≤ cap ∧ cap ≤ maxLen ∧ OwL w l a m ao
/-- From off on in the block g stand the terms of l; what they lead to stands in intervals one behind the other, from lo to hi, without g. -/
def OwR (w : World) : List Tm → Nat → Nat → Nat → Nat → Prop
  | [], g, lo, hi, off => lo ≤ hi
  | t :: r, g, lo, hi, off => ∃ a m, lo ≤ a ∧ a ≤ m ∧ (g < a ∨ m ≤ g) ∧ OwT w t a m g off ∧ OwR w r g m hi (off + 4)
def OwL (w : World) : List Tm → Nat → Nat → Option Addr → Prop
  | [], _, _, _ => True
  | t :: r, lo, hi, ao => ∃ g lo1 hi1, ao = some ⟨g, 0, none⟩ ∧ lo ≤ g ∧ g < hi ∧ lo ≤ lo1 ∧ hi1 ≤ hi ∧ (∀ o, w.frozen? ⟨g, o, none⟩ = false) ∧ ∃ a m, lo1 ≤ a ∧ a ≤ m ∧ (g < a ∨ m ≤ g) ∧ OwT w t a m g 0 ∧ OwR w r g m hi1 4
end
def OwV (w : World) (lo hi : Nat) : Tm → Value → Prop
  | .mk k n s l, v => ∃ ao cap, v = .agg #[.int .i64 k, .int .i64 n, .string s, .slice ao l.length cap] ∧ s.size ≤ maxLen ∧ l.length ≤ cap ∧ cap ≤ maxLen ∧ OwL w l lo hi ao

theorem OwL.iff {w : World} {l : List Tm} {lo hi : Nat} {ao : Option Addr} (hl : l ≠ []) : OwL w l lo hi ao ↔ ∃ g lo1 hi1, ao = some ⟨g, 0, none⟩ ∧ lo ≤ g ∧ g < hi ∧ lo ≤ lo1 ∧ hi1 ≤ hi ∧ (∀ o, w.frozen? ⟨g, o, none⟩ = false) ∧ OwR w l g lo1 hi1 0 := by
  cases l with
  | nil => exact absurd rfl hl
  | cons t r => rw [OwL]; simp only [OwR, Nat.zero_add]
theorem OwL.mono {w : World} {l : List Tm} {lo hi lo' hi' : Nat} {ao : Option Addr} (h : OwL w l lo hi ao) (h1 : lo' ≤ lo) (h2 : hi ≤ hi') : OwL w l lo' hi' ao := by
  cases l with
  | nil => rw [OwL]; trivial
  | cons t r =>
    rw [OwL] at h ⊢
    obtain ⟨g, lo1, hi1, e, a1, a2, a3, a4, h5⟩ := h
    exact ⟨g, lo1, hi1, e, by omega, by omega, by omega, by omega, h5⟩
theorem OwV.mono {w : World} {lo hi lo' hi' : Nat} {t : Tm} {v : Value} (h : OwV w lo hi t v) (h1 : lo' ≤ lo) (h2 : hi ≤ hi') : OwV w lo' hi' t v := by
  obtain ⟨k, n, s, l⟩ := t
  obtain ⟨ao, cap, e, b1, b2, b3, b4⟩ := h
  exact ⟨ao, cap, e, b1, b2, b3, b4.mono h1 h2⟩
theorem OwT.head {w : World} (t : Tm) (a m b off : Nat) (h : OwT w t a m b off) : ∃ v, w.cell? ⟨b, off, none⟩ = some v := by
  obtain ⟨k, n, s, l⟩ := t
  rw [OwT] at h
  exact ⟨_, h.1⟩
theorem OwR.le {w : World} : ∀ {l : List Tm} {g lo hi off : Nat}, OwR w l g lo hi off → lo ≤ hi
  | [], g, lo, hi, off, h => by rw [OwR] at h; exact h
  | t :: r, g, lo, hi, off, h => by
    rw [OwR] at h
    obtain ⟨a, m, h1, h2, _, _, h5⟩ := h
    have := OwR.le h5
    omega
/-- Blocks of [lo, hi) are as they were. -/
def Kp (lo hi : Nat) (w w' : World) : Prop := ∀ b, lo ≤ b → b < hi → b < w.heap.size → w'.heap[b]? = w.heap[b]?
theorem Kp.sub {lo hi lo' hi' : Nat} {w w' : World} (h : Kp lo hi w w') (h1 : lo ≤ lo') (h2 : hi' ≤ hi) : Kp lo' hi' w w' := fun b a1 a2 a3 => h b (by omega) (by omega) a3
theorem Kp.cell {lo hi : Nat} {w w' : World} (h : Kp lo hi w w') {b o : Nat} {v : Value} (h1 : lo ≤ b) (h2 : b < hi) (hc : w.cell? ⟨b, o, none⟩ = some v) : w'.cell? ⟨b, o, none⟩ = some v := by
  rw [World.cell?_of_block (w := w) (h b h1 h2 (World.block_lt_of_cell? w _ hc))]; exact hc
mutual
theorem OwT.keep {w w' : World} : ∀ (t : Tm) (a m b off : Nat), Kp a m w w' → (∀ j v, j < 4 → w.cell? ⟨b, off + j, none⟩ = some v → w'.cell? ⟨b, off + j, none⟩ = some v) → OwT w t a m b off → OwT w' t a m b off
  | .mk k n s l, a, m, b, off, hk, hc, h => by
    rw [OwT] at h ⊢
    obtain ⟨h0, h1, h2, hs, ao, cap, h3, hl, hcp, hr⟩ := h
    exact ⟨hc 0 _ (by omega) h0, hc 1 _ (by omega) h1, hc 2 _ (by omega) h2, hs, ao, cap, hc 3 _ (by omega) h3, hl, hcp, OwL.keep l a m ao hk hr⟩
theorem OwR.keep {w w' : World} : ∀ (l : List Tm) (g lo hi off : Nat), (∀ b, lo ≤ b → b < hi → b ≠ g → b < w.heap.size → w'.heap[b]? = w.heap[b]?) → (∀ o v, off ≤ o → o < off + 4 * l.length → w.cell? ⟨g, o, none⟩ = some v → w'.cell? ⟨g, o, none⟩ = some v) → OwR w l g lo hi off → OwR w' l g lo hi off
  | [], g, lo, hi, off, _, _, h => by rw [OwR] at h ⊢; exact h
  | t :: r, g, lo, hi, off, hk, hc, h => by
    rw [OwR] at h ⊢
    obtain ⟨a, m, h1, h2, h3, h4, h5⟩ := h
    have hle := OwR.le h5
    refine ⟨a, m, h1, h2, h3, OwT.keep t a m g off (fun b hb1 hb2 hbl => hk b (by omega) (by omega) (by omega) hbl) (fun j v hj hv => hc _ v (by omega) (by simp; omega) hv) h4, OwR.keep r g m hi (off + 4) (fun b hb1 hb2 hb3 hbl => hk b (by omega) hb2 hb3 hbl) (fun o v ho1 ho2 hv => hc o v (by omega) (by simp; omega) hv) h5⟩
theorem OwL.keep {w w' : World} : ∀ (l : List Tm) (lo hi : Nat) (ao : Option Addr), Kp lo hi w w' → OwL w l lo hi ao → OwL w' l lo hi ao
  | [], _, _, _, _, _ => by rw [OwL]; trivial
  | t :: r, lo, hi, ao, hk, h => by
    rw [OwL] at h ⊢
    obtain ⟨g, lo1, hi1, e, a1, a2, a3, a4, af, a, m, h1, h2, h3, h4, h5⟩ := h
    have hle := OwR.le h5
    have hgl : g < w.heap.size := by
      obtain ⟨v, hv⟩ := OwT.head t a m g 0 h4
      exact World.block_lt_of_cell? w _ hv
    exact ⟨g, lo1, hi1, e, a1, a2, a3, a4, fun o => by rw [World.frozen?_of_block (w := w) (hk g a1 a2 hgl)]; exact af o, a, m, h1, h2, h3, OwT.keep t a m g 0 (hk.sub (by omega) (by omega)) (fun j v hj hv => hk.cell a1 a2 hv) h4, OwR.keep r g m hi1 4 (fun b hb1 hb2 _ hbl => hk b (by omega) (by omega) hbl) (fun o v _ _ hv => hk.cell a1 a2 hv) h5⟩
end
theorem OwV.keep {w w' : World} {lo hi : Nat} (hk : Kp lo hi w w') {t : Tm} {v : Value} (h : OwV w lo hi t v) : OwV w' lo hi t v := by
  obtain ⟨k, n, s, l⟩ := t
  obtain ⟨ao, cap, e, b1, b2, b3, b4⟩ := h
  exact ⟨ao, cap, e, b1, b2, b3, OwL.keep _ _ _ _ hk b4⟩
theorem OwV.form {w : World} {lo hi : Nat} {t : Tm} {v : Value} (h : OwV w lo hi t v) : ∃ a b c d e f, v = .agg #[.int .i64 a, .int .i64 b, .string c, .slice d e f] := by
  obtain ⟨k, n, s, l⟩ := t
  obtain ⟨ao, cap, e, _⟩ := h
  exact ⟨_, _, _, _, _, _, e⟩
mutual
theorem OwT.rp {w : World} {B : Nat} : ∀ (t : Tm) (a m b off : Nat), B ≤ a → OwT w t a m b off → RpT (fun x => B ≤ x) w t b off
  | .mk k n s l, a, m, b, off, hB, h => by
    rw [OwT] at h
    rw [RpT]
    obtain ⟨h0, h1, h2, hs, ao, cap, h3, hl, hcp, hr⟩ := h
    exact ⟨h0, h1, h2, hs, ao, cap, h3, hl, hcp, OwL.rp l a m ao hB hr⟩
theorem OwR.rp {w : World} {B : Nat} : ∀ (l : List Tm) (g lo hi off : Nat), B ≤ g → B ≤ lo → OwR w l g lo hi off → RpL (fun x => B ≤ x) w l (some ⟨g, off, none⟩)
  | [], g, lo, hi, off, _, _, h => by rw [RpL]; trivial
  | t :: r, g, lo, hi, off, hg, hB, h => by
    rw [OwR] at h
    rw [RpL]
    obtain ⟨a, m, h1, h2, h3, h4, h5⟩ := h
    exact ⟨g, off, rfl, hg, OwT.rp t a m g off (by omega) h4, OwR.rp r g m hi (off + 4) hg (by omega) h5⟩
theorem OwL.rp {w : World} {B : Nat} : ∀ (l : List Tm) (lo hi : Nat) (ao : Option Addr), B ≤ lo → OwL w l lo hi ao → RpL (fun x => B ≤ x) w l ao
  | [], _, _, _, _, _ => by rw [RpL]; trivial
  | t :: r, lo, hi, ao, hB, h => by
    rw [OwL] at h
    rw [RpL]
    obtain ⟨g, lo1, hi1, e, a1, a2, a3, a4, af, a, m, h1, h2, h3, h4, h5⟩ := h
    exact ⟨g, 0, e, by omega, OwT.rp t a m g 0 (by omega) h4, OwR.rp r g m hi1 4 (by omega) (by omega) h5⟩
end
theorem OwV.rp {w : World} {lo hi : Nat} {t : Tm} {v : Value} (h : OwV w lo hi t v) : RpV (fun x => lo ≤ x) w t v := by
  obtain ⟨k, n, s, l⟩ := t
  obtain ⟨ao, cap, e, b1, b2, b3, b4⟩ := h
  exact ⟨ao, cap, e, b1, b2, b3, OwL.rp _ _ _ _ (Nat.le_refl _) b4⟩

/-! ### One of a row -/
theorem OwR.split {w : World} {t : Tm} {B : List Tm} {g hi : Nat} : ∀ {A : List Tm} {lo off : Nat}, OwR w (A ++ t :: B) g lo hi off → ∃ e a m, OwR w A g lo e off ∧ e ≤ a ∧ a ≤ m ∧ m ≤ hi ∧ (g < a ∨ m ≤ g) ∧ OwT w t a m g (off + A.length * 4) ∧ OwR w B g m hi (off + A.length * 4 + 4)
  | [], lo, off, h => by
    rw [List.nil_append, OwR] at h
    obtain ⟨a, m, h1, h2, h3, h4, h5⟩ := h
    refine ⟨lo, a, m, by rw [OwR]; exact Nat.le_refl _, h1, h2, OwR.le h5, h3, by simpa using h4, by simpa using h5⟩
  | x :: A, lo, off, h => by
    rw [List.cons_append, OwR] at h
    obtain ⟨a', m', h1, h2, h3, h4, h5⟩ := h
    obtain ⟨e, a, m, b1, b2, b3, b4, b5, b6, b7⟩ := OwR.split h5
    have el : off + 4 + A.length * 4 = off + (x :: A).length * 4 := by simp; omega
    rw [el] at b6 b7
    exact ⟨e, a, m, by rw [OwR]; exact ⟨a', m', h1, h2, h3, h4, b1⟩, b2, b3, b4, b5, b6, b7⟩
theorem OwR.join {w : World} {t : Tm} {B : List Tm} {g hi a m : Nat} : ∀ {A : List Tm} {lo e off : Nat}, OwR w A g lo e off → e ≤ a → a ≤ m → (g < a ∨ m ≤ g) → OwT w t a m g (off + A.length * 4) → OwR w B g m hi (off + A.length * 4 + 4) → OwR w (A ++ t :: B) g lo hi off
  | [], lo, e, off, h, h1, h2, h3, h4, h5 => by
    rw [OwR] at h
    rw [List.nil_append, OwR]
    exact ⟨a, m, by omega, h2, h3, by simpa using h4, by simpa using h5⟩
  | x :: A, lo, e, off, h, h1, h2, h3, h4, h5 => by
    rw [OwR] at h
    obtain ⟨a', m', c1, c2, c3, c4, c5⟩ := h
    have el : off + 4 + A.length * 4 = off + (x :: A).length * 4 := by simp; omega
    rw [← el] at h4 h5
    rw [List.cons_append, OwR]
    exact ⟨a', m', c1, c2, c3, c4, OwR.join c5 h1 h2 h3 h4 h5⟩

/-! ### Cells of a list that is gathered -/
/-- The cells xs hold the terms of l; what they lead to stands in intervals from lo to hi; the block gb is in none of them. -/
def RowO (w : World) (gb : Option Nat) : List Tm → List Value → Nat → Nat → Prop
  | [], xs, lo, hi => xs = [] ∧ lo ≤ hi
  | .mk k n s l :: r, xs, lo, hi => ∃ a m ao cap xs', xs = .int .i64 k :: .int .i64 n :: .string s :: .slice ao l.length cap :: xs' ∧ s.size ≤ maxLen ∧ l.length ≤ cap ∧ cap ≤ maxLen ∧ lo ≤ a ∧ a ≤ m ∧ (∀ g, gb = some g → g < a ∨ m ≤ g) ∧ OwL w l a m ao ∧ RowO w gb r xs' m hi
theorem RowO.le {w : World} {gb : Option Nat} : ∀ {l : List Tm} {xs : List Value} {lo hi : Nat}, RowO w gb l xs lo hi → lo ≤ hi
  | [], xs, lo, hi, h => by rw [RowO] at h; exact h.2
  | .mk k n s l :: r, xs, lo, hi, h => by
    rw [RowO] at h
    obtain ⟨a, m, ao, cap, xs', _, _, _, _, h1, h2, _, _, h5⟩ := h
    have := RowO.le h5
    omega
/-- Another block, which is in none of the intervals; another world, which keeps them. -/
theorem RowO.move {w w' : World} {gb gb' : Option Nat} : ∀ {l : List Tm} {xs : List Value} {lo hi : Nat}, (∀ b, lo ≤ b → b < hi → gb ≠ some b → b < w.heap.size → w'.heap[b]? = w.heap[b]?) → (∀ g, gb' = some g → gb = some g ∨ hi ≤ g) → RowO w gb l xs lo hi → RowO w' gb' l xs lo hi
  | [], xs, lo, hi, _, _, h => by rw [RowO] at h ⊢; exact h
  | .mk k n s l :: r, xs, lo, hi, hk, hg, h => by
    rw [RowO] at h ⊢
    obtain ⟨a, m, ao, cap, xs', e, b1, b2, b3, h1, h2, h3, h4, h5⟩ := h
    have hle := RowO.le h5
    refine ⟨a, m, ao, cap, xs', e, b1, b2, b3, h1, h2, fun g hgg => ?_, OwL.keep _ _ _ _ (fun b hb1 hb2 hbl => hk b (by omega) (by omega) (fun e => by rcases h3 b e with h | h <;> omega) hbl) h4, RowO.move (fun b hb1 hb2 hb3 hbl => hk b (by omega) hb2 hb3 hbl) hg h5⟩
    rcases hg g hgg with h | h
    · exact h3 g h
    · right; omega
theorem RowO.hi {w : World} {gb : Option Nat} : ∀ {l : List Tm} {xs : List Value} {lo hi hi' : Nat}, hi ≤ hi' → RowO w gb l xs lo hi → RowO w gb l xs lo hi'
  | [], xs, lo, hi, hi', hh, h => by rw [RowO] at h ⊢; exact ⟨h.1, by omega⟩
  | .mk k n s l :: r, xs, lo, hi, hi', hh, h => by
    rw [RowO] at h ⊢
    obtain ⟨a, m, ao, cap, xs', e, b1, b2, b3, h1, h2, h3, h4, h5⟩ := h
    exact ⟨a, m, ao, cap, xs', e, b1, b2, b3, h1, h2, h3, h4, RowO.hi hh h5⟩
theorem RowO.snoc {w : World} {gb : Option Nat} {t : Tm} {a b c d : Value} {lo' hi' : Nat} (hv : OwV w lo' hi' t (.agg #[a, b, c, d])) (hg : ∀ g, gb = some g → g < lo' ∨ hi' ≤ g) (hlh : lo' ≤ hi') : ∀ {l : List Tm} {xs : List Value} {lo hi : Nat}, hi ≤ lo' → RowO w gb l xs lo hi → RowO w gb (l ++ [t]) (xs ++ [a, b, c, d]) lo hi'
  | [], xs, lo, hi, hle, h => by
    rw [RowO] at h
    obtain ⟨rfl, h1⟩ := h
    obtain ⟨k, n, s, l⟩ := t
    obtain ⟨ao, cap, e, b1, b2, b3, b4⟩ := hv
    simp only [Value.agg.injEq, Array.mk.injEq, List.cons.injEq, and_true] at e
    obtain ⟨rfl, rfl, rfl, rfl⟩ := e
    rw [List.nil_append, RowO]
    exact ⟨lo', hi', ao, cap, [], rfl, b1, b2, b3, by omega, hlh, hg, b4, by rw [RowO]; exact ⟨rfl, Nat.le_refl _⟩⟩
  | .mk k n s l :: r, xs, lo, hi, hle, h => by
    rw [RowO] at h
    obtain ⟨a', m, ao, cap, xs', rfl, b1, b2, b3, h1, h2, h3, h4, h5⟩ := h
    rw [List.cons_append, RowO]
    exact ⟨a', m, ao, cap, xs' ++ [a, b, c, d], rfl, b1, b2, b3, h1, h2, h3, h4, RowO.snoc hv hg hlh hle h5⟩
theorem RowO.row {w : World} {g : Nat} : ∀ {l : List Tm} {xs : List Value} {lo hi off : Nat}, (∀ j v, xs[j]? = some v → w.cell? ⟨g, off + j, none⟩ = some v) → RowO w (some g) l xs lo hi → OwR w l g lo hi off
  | [], xs, lo, hi, off, _, h => by rw [RowO] at h; rw [OwR]; exact h.2
  | .mk k n s l :: r, xs, lo, hi, off, hc, h => by
    rw [RowO] at h
    rw [OwR]
    obtain ⟨a, m, ao, cap, xs', rfl, b1, b2, b3, h1, h2, h3, h4, h5⟩ := h
    refine ⟨a, m, h1, h2, h3 g rfl, ?_, RowO.row (fun j v hj => ?_) h5⟩
    · rw [OwT]
      exact ⟨hc 0 _ rfl, hc 1 _ rfl, hc 2 _ rfl, b1, ao, cap, hc 3 _ rfl, b2, b3, h4⟩
    · rw [Nat.add_assoc, Nat.add_comm 4 j]
      exact hc (j + 4) v (by simpa using hj)
end Go.Proofs.Ytjjmikfbongccaa
