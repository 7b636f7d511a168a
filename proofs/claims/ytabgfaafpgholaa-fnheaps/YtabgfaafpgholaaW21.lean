/-
  The function values that tell the words of a heap, and of both lists.
  (Ahead of it, in this text: A term whose lists stand apart: each list in a block of its own, what is within it in blocks of an interval that no other one has. How the program reads words that a function value tells: what is there, the words at a place.)
-/
import Derived.Test.YtabgfaafpgholaaW6
import Derived.Test.YtabgfaafpgholaaW20
import Derived.Test.YtabgfaafpgholaaW7
import Derived.Laws.EntriesVeiled
namespace Go.Proofs.Ytabgfaafpgholaa
open Go.RowKit
set_option linter.unusedVariables false

mutual
/-- The four cells from off on in the block b are the term t; all blocks that it leads to are of [a, m). -/
def OwT (w : World) : Tm → Nat → Nat → Nat → Nat → Prop
  | .mk k n s l, a, m, b, off => w.cell? ⟨b, off, none⟩ = some (.int .i64 k) ∧ w.cell? ⟨b, off + 1, none⟩ = some (.int .i64 n) ∧ w.cell? ⟨b, off + 2, none⟩ = some (.string s) ∧ s.size ≤ maxLen ∧
      ∃ ao cap, w.cell? ⟨b, off + 3, none⟩ = some (.slice ao l.length cap) ∧ l.length ≤ cap ∧ cap ≤ maxLen ∧ OwL w l a m ao
/-- From off on in the block g stand the terms of l; what they lead to stands in intervals one behind the other, from lo to hi, without g. -/
def OwR (w : World) : List Tm → Nat → Nat → Nat → Nat → Prop
  | [], g, lo, hi, off => lo ≤ hi
  | t :: r, g, lo, hi, off => ∃ a m, lo ≤ a ∧ a ≤ m ∧ (g < a ∨ m ≤ g) ∧ OwT w t a m g off ∧ OwR w r g m hi (off + 4)
def OwL (w : World) : List Tm → Nat → Nat → Option Addr → Prop
  | [], _, _, _ => True
  | t :: r, lo, hi, ao => ∃ g lo1 hi1, ao = some ⟨g, 0, none⟩ ∧ lo ≤ g ∧ g < hi ∧ lo ≤ lo1 ∧ hi1 ≤ hi ∧ (∀ o, w.frozen? ⟨g, o, none⟩ = false) ∧ ∃ a m, lo1 ≤ a ∧ a ≤ m ∧ (g < a ∨ m ≤ g) ∧ OwT w t a m g 0 ∧ OwR w r g m hi1 4
end
def OwE (w : World) (lo hi : Nat) : Tm → Value → Prop
  | .mk k n s l, v => ∃ ao cap, v = .agg #[.int .i64 k, .int .i64 n, .string s, .slice ao l.length cap] ∧ s.size ≤ maxLen ∧ l.length ≤ cap ∧ cap ≤ maxLen ∧ OwL w l lo hi ao

theorem OwL.iff {w : World} {l : List Tm} {lo hi : Nat} {ao : Option Addr} (hl : l ≠ []) : OwL w l lo hi ao ↔ ∃ g lo1 hi1, ao = some ⟨g, 0, none⟩ ∧ lo ≤ g ∧ g < hi ∧ lo ≤ lo1 ∧ hi1 ≤ hi ∧ (∀ o, w.frozen? ⟨g, o, none⟩ = false) ∧ OwR w l g lo1 hi1 0 := by
  cases l with
  | nil => exact absurd rfl hl
  | cons t r => rw [OwL]; simp only [OwR, Nat.zero_add]
theorem OwL.mono {w : World} {l : List Tm} {lo hi lo' hi' : Nat} {ao : Option Addr} (h : OwL w l lo hi ao) (h1 : lo' ≤ lo) (h2 : hi ≤ hi') : OwL w l lo' hi' ao := by
  cases l with
  | nil => rw [OwL]; trivial
  | cons t r =>
    rw [OwL] at h ⊢
    obtain ⟨g, lo1, hi1, e, a1, a2, a3, a4, h5⟩ := h
    exact ⟨g, lo1, hi1, e, by omega, by omega, by omega, by omega, h5⟩
theorem OwE.mono {w : World} {lo hi lo' hi' : Nat} {t : Tm} {v : Value} (h : OwE w lo hi t v) (h1 : lo' ≤ lo) (h2 : hi ≤ hi') : OwE w lo' hi' t v := by
  obtain ⟨k, n, s, l⟩ := t
  obtain ⟨ao, cap, e, b1, b2, b3, b4⟩ := h
  exact ⟨ao, cap, e, b1, b2, b3, b4.mono h1 h2⟩
theorem OwT.head {w : World} (t : Tm) (a m b off : Nat) (h : OwT w t a m b off) : ∃ v, w.cell? ⟨b, off, none⟩ = some v := by
  obtain ⟨k, n, s, l⟩ := t
  rw [OwT] at h
  exact ⟨_, h.1⟩
theorem OwR.le {w : World} : ∀ {l : List Tm} {g lo hi off : Nat}, OwR w l g lo hi off → lo ≤ hi
  | [], g, lo, hi, off, h => by rw [OwR] at h; exact h
  | t :: r, g, lo, hi, off, h => by
    rw [OwR] at h
    obtain ⟨a, m, h1, h2, _, _, h5⟩ := h
    have := OwR.le h5
    omega
/-- Blocks of [lo, hi) are as they were. -/
def Kp (lo hi : Nat) (w w' : World) : Prop := ∀ b, lo ≤ b → b < hi → b < w.heap.size → w'.heap[b]? = w.heap[b]?
theorem Kp.sub {lo hi lo' hi' : Nat} {w w' : World} (h : Kp lo hi w w') (h1 : lo ≤ lo') (h2 : hi' ≤ hi) : Kp lo' hi' w w' := fun b a1 a2 a3 => h b (by omega) (by omega) a3
theorem Kp.cell {lo hi : Nat} {w w' : World} (h : Kp lo hi w w') {b o : Nat} {v : Value} (h1 : lo ≤ b) (h2 : b < hi) (hc : w.cell? ⟨b, o, none⟩ = some v) : w'.cell? ⟨b, o, none⟩ = some v := by
  rw [World.cell?_of_block (w := w) (h b h1 h2 (World.block_lt_of_cell? w _ hc))]; exact hc
mutual
theorem OwT.keep {w w' : World} : ∀ (t : Tm) (a m b off : Nat), Kp a m w w' → (∀ j v, j < 4 → w.cell? ⟨b, off + j, none⟩ = some v → w'.cell? ⟨b, off + j, none⟩ = some v) → OwT w t a m b off → OwT w' t a m b off
  | .mk k n s l, a, m, b, off, hk, hc, h => by
    rw [OwT] at h ⊢
    obtain ⟨h0, h1, h2, hs, ao, cap, h3, hl, hcp, hr⟩ := h
    exact ⟨hc 0 _ (by omega) h0, hc 1 _ (by omega) h1, hc 2 _ (by omega) h2, hs, ao, cap, hc 3 _ (by omega) h3, hl, hcp, OwL.keep l a m ao hk hr⟩
theorem OwR.keep {w w' : World} : ∀ (l : List Tm) (g lo hi off : Nat), (∀ b, lo ≤ b → b < hi → b ≠ g → b < w.heap.size → w'.heap[b]? = w.heap[b]?) → (∀ o v, off ≤ o → o < off + 4 * l.length → w.cell? ⟨g, o, none⟩ = some v → w'.cell? ⟨g, o, none⟩ = some v) → OwR w l g lo hi off → OwR w' l g lo hi off
  | [], g, lo, hi, off, _, _, h => by rw [OwR] at h ⊢; exact h
  | t :: r, g, lo, hi, off, hk, hc, h => by
    rw [OwR] at h ⊢
    obtain ⟨a, m, h1, h2, h3, h4, h5⟩ := h
    have hle := OwR.le h5
    refine ⟨a, m, h1, h2, h3, OwT.keep t a m g off (fun b hb1 hb2 hbl => hk b (by omega) (by omega) (by omega) hbl) (fun j v hj hv => hc _ v (by omega) (by simp; omega) hv) h4, OwR.keep r g m hi (off + 4) (fun b hb1 hb2 hb3 hbl => hk b (by omega) hb2 hb3 hbl) (fun o v ho1 ho2 hv => hc o v (by omega) (by simp; omega) hv) h5⟩
theorem OwL.keep {w w' : World} : ∀ (l : List Tm) (lo hi : Nat) (ao : Option Addr), Kp lo hi w w' → OwL w l lo hi ao → OwL w' l lo hi ao
  | [], _, _, _, _, _ => by rw [OwL]; trivial
  | t :: r, lo, hi, ao, hk, h => by
    rw [OwL] at h ⊢
    obtain ⟨g, lo1, hi1, e, a1, a2, a3, a4, af, a, m, h1, h2, h3, h4, h5⟩ := h
    have hle := OwR.le h5
    have hgl : g < w.heap.size := by
      obtain ⟨v, hv⟩ := OwT.head t a m g 0 h4
      exact World.block_lt_of_cell? w _ hv
    exact ⟨g, lo1, hi1, e, a1, a2, a3, a4, fun o => by rw [World.frozen?_of_block (w := w) (hk g a1 a2 hgl)]; exact af o, a, m, h1, h2, h3, OwT.keep t a m g 0 (hk.sub (by omega) (by omega)) (fun j v hj hv => hk.cell a1 a2 hv) h4, OwR.keep r g m hi1 4 (fun b hb1 hb2 _ hbl => hk b (by omega) (by omega) hbl) (fun o v _ _ hv => hk.cell a1 a2 hv) h5⟩
end
theorem OwE.keep {w w' : World} {lo hi : Nat} (hk : Kp lo hi w w') {t : Tm} {v : Value} (h : OwE w lo hi t v) : OwE w' lo hi t v := by
  obtain ⟨k, n, s, l⟩ := t
  obtain ⟨ao, cap, e, b1, b2, b3, b4⟩ := h
  exact ⟨ao, cap, e, b1, b2, b3, OwL.keep _ _ _ _ hk b4⟩
theorem OwE.form {w : World} {lo hi : Nat} {t : Tm} {v : Value} (h : OwE w lo hi t v) : ∃ a b c d e f, v = .agg #[.int .i64 a, .int .i64 b, .string c, .slice d e f] := by
  obtain ⟨k, n, s, l⟩ := t
  obtain ⟨ao, cap, e, _⟩ := h
  exact ⟨_, _, _, _, _, _, e⟩
mutual
theorem OwT.rp {w : World} {B : Nat} : ∀ (t : Tm) (a m b off : Nat), B ≤ a → OwT w t a m b off → RpT (fun x => B ≤ x) w t b off
  | .mk k n s l, a, m, b, off, hB, h => by
    rw [OwT] at h
    rw [RpT]
    obtain ⟨h0, h1, h2, hs, ao, cap, h3, hl, hcp, hr⟩ := h
    exact ⟨h0, h1, h2, hs, ao, cap, h3, hl, hcp, OwL.rp l a m ao hB hr⟩
theorem OwR.rp {w : World} {B : Nat} : ∀ (l : List Tm) (g lo hi off : Nat), B ≤ g → B ≤ lo → OwR w l g lo hi off → RpL (fun x => B ≤ x) w l (some ⟨g, off, none⟩)
  | [], g, lo, hi, off, _, _, h => by rw [RpL]; trivial
  | t :: r, g, lo, hi, off, hg, hB, h => by
    rw [OwR] at h
    rw [RpL]
    obtain ⟨a, m, h1, h2, h3, h4, h5⟩ := h
    exact ⟨g, off, rfl, hg, OwT.rp t a m g off (by omega) h4, OwR.rp r g m hi (off + 4) hg (by omega) h5⟩
theorem OwL.rp {w : World} {B : Nat} : ∀ (l : List Tm) (lo hi : Nat) (ao : Option Addr), B ≤ lo → OwL w l lo hi ao → RpL (fun x => B ≤ x) w l ao
  | [], _, _, _, _, _ => by rw [RpL]; trivial
  | t :: r, lo, hi, ao, hB, h => by
    rw [OwL] at h
    rw [RpL]
    obtain ⟨g, lo1, hi1, e, a1, a2, a3, a4, af, a, m, h1, h2, h3, h4, h5⟩ := h
    exact ⟨g, 0, e, by omega, OwT.rp t a m g 0 (by omega) h4, OwR.rp r g m hi1 4 (by omega) (by omega) h5⟩
end
theorem OwE.rp {w : World} {lo hi : Nat} {t : Tm} {v : Value} (h : OwE w lo hi t v) : RpV (fun x => lo ≤ x) w t v := by
  obtain ⟨k, n, s, l⟩ := t
  obtain ⟨ao, cap, e, b1, b2, b3, b4⟩ := h
  exact ⟨ao, cap, e, b1, b2, b3, OwL.rp _ _ _ _ (Nat.le_refl _) b4⟩

/-! ### One of a row -/
theorem OwR.split {w : World} {t : Tm} {B : List Tm} {g hi : Nat} : ∀ {A : List Tm} {lo off : Nat}, OwR w (A ++ t :: B) g lo hi off → ∃ e a m, OwR w A g lo e off ∧ e ≤ a ∧ a ≤ m ∧ m ≤ hi ∧ (g < a ∨ m ≤ g) ∧ OwT w t a m g (off + A.length * 4) ∧ OwR w B g m hi (off + A.length * 4 + 4)
  | [], lo, off, h => by
    rw [List.nil_append, OwR] at h
    obtain ⟨a, m, h1, h2, h3, h4, h5⟩ := h
    refine ⟨lo, a, m, by rw [OwR]; exact Nat.le_refl _, h1, h2, OwR.le h5, h3, by simpa using h4, by simpa using h5⟩
  | x :: A, lo, off, h => by
    rw [List.cons_append, OwR] at h
    obtain ⟨a', m', h1, h2, h3, h4, h5⟩ := h
    obtain ⟨e, a, m, b1, b2, b3, b4, b5, b6, b7⟩ := OwR.split h5
    have el : off + 4 + A.length * 4 = off + (x :: A).length * 4 := by simp; omega
    rw [el] at b6 b7
    exact ⟨e, a, m, by rw [OwR]; exact ⟨a', m', h1, h2, h3, h4, b1⟩, b2, b3, b4, b5, b6, b7⟩
theorem OwR.join {w : World} {t : Tm} {B : List Tm} {g hi a m : Nat} : ∀ {A : List Tm} {lo e off : Nat}, OwR w A g lo e off → e ≤ a → a ≤ m → (g < a ∨ m ≤ g) → OwT w t a m g (off + A.length * 4) → OwR w B g m hi (off + A.length * 4 + 4) → OwR w (A ++ t :: B) g lo hi off
  | [], lo, e, off, h, h1, h2, h3, h4, h5 => by
    rw [OwR] at h
    rw [List.nil_append, OwR]
    exact ⟨a, m, by omega, h2, h3, by simpa using h4, by simpa using h5⟩
  | x :: A, lo, e, off, h, h1, h2, h3, h4, h5 => by
    rw [OwR] at h
    obtain ⟨a', m', c1, c2, c3, c4, c5⟩ := h
    have el : off + 4 + A.length * 4 = off + (x :: A).length * 4 := by simp; omega
    rw [← el] at h4 h5
    rw [List.cons_append, OwR]
    exact ⟨a', m', c1, c2, c3, c4, OwR.join c5 h1 h2 h3 h4 h5⟩

/-! ### Cells of a list that is gathered -/
/-- The cells xs hold the terms of l; what they lead to stands in intervals from lo to hi; the block gb is in none of them. -/
def RowO (w : World) (gb : Option Nat) : List Tm → List Value → Nat → Nat → Prop
  | [], xs, lo, hi => xs = [] ∧ lo ≤ hi
  | .mk k n s l :: r, xs, lo, hi => ∃ a m ao cap xs', xs = .int .i64 k :: .int .i64 n :: .string s :: .slice ao l.length cap :: xs' ∧ s.size ≤ maxLen ∧ l.length ≤ cap ∧ cap ≤ maxLen ∧ lo ≤ a ∧ a ≤ m ∧ (∀ g, gb = some g → g < a ∨ m ≤ g) ∧ OwL w l a m ao ∧ RowO w gb r xs' m hi
theorem RowO.le {w : World} {gb : Option Nat} : ∀ {l : List Tm} {xs : List Value} {lo hi : Nat}, RowO w gb l xs lo hi → lo ≤ hi
  | [], xs, lo, hi, h => by rw [RowO] at h; exact h.2
  | .mk k n s l :: r, xs, lo, hi, h => by
    rw [RowO] at h
    obtain ⟨a, m, ao, cap, xs', _, _, _, _, h1, h2, _, _, h5⟩ := h
    have := RowO.le h5
    omega
/-- Another block, which is in none of the intervals; another world, which keeps them. -/
theorem RowO.move {w w' : World} {gb gb' : Option Nat} : ∀ {l : List Tm} {xs : List Value} {lo hi : Nat}, (∀ b, lo ≤ b → b < hi → gb ≠ some b → b < w.heap.size → w'.heap[b]? = w.heap[b]?) → (∀ g, gb' = some g → gb = some g ∨ hi ≤ g) → RowO w gb l xs lo hi → RowO w' gb' l xs lo hi
  | [], xs, lo, hi, _, _, h => by rw [RowO] at h ⊢; exact h
  | .mk k n s l :: r, xs, lo, hi, hk, hg, h => by
    rw [RowO] at h ⊢
    obtain ⟨a, m, ao, cap, xs', e, b1, b2, b3, h1, h2, h3, h4, h5⟩ := h
    have hle := RowO.le h5
    refine ⟨a, m, ao, cap, xs', e, b1, b2, b3, h1, h2, fun g hgg => ?_, OwL.keep _ _ _ _ (fun b hb1 hb2 hbl => hk b (by omega) (by omega) (fun e => by rcases h3 b e with h | h <;> omega) hbl) h4, RowO.move (fun b hb1 hb2 hb3 hbl => hk b (by omega) hb2 hb3 hbl) hg h5⟩
    rcases hg g hgg with h | h
    · exact h3 g h
    · right; omega
theorem RowO.hi {w : World} {gb : Option Nat} : ∀ {l : List Tm} {xs : List Value} {lo hi hi' : Nat}, hi ≤ hi' → RowO w gb l xs lo hi → RowO w gb l xs lo hi'
  | [], xs, lo, hi, hi', hh, h => by rw [RowO] at h ⊢; exact ⟨h.1, by omega⟩
  | .mk k n s l :: r, xs, lo, hi, hi', hh, h => by
    rw [RowO] at h ⊢
    obtain ⟨a, m, ao, cap, xs', e, b1, b2, b3, h1, h2, h3, h4, h5⟩ := h
    exact ⟨a, m, ao, cap, xs', e, b1, b2, b3, h1, h2, h3, h4, RowO.hi hh h5⟩
theorem RowO.snoc {w : World} {gb : Option Nat} {t : Tm} {a b c d : Value} {lo' hi' : Nat} (hv : OwE w lo' hi' t (.agg #[a, b, c, d])) (hg : ∀ g, gb = some g → g < lo' ∨ hi' ≤ g) (hlh : lo' ≤ hi') : ∀ {l : List Tm} {xs : List Value} {lo hi : Nat}, hi ≤ lo' → RowO w gb l xs lo hi → RowO w gb (l ++ [t]) (xs ++ [a, b, c, d]) lo hi'
  | [], xs, lo, hi, hle, h => by
    rw [RowO] at h
    obtain ⟨rfl, h1⟩ := h
    obtain ⟨k, n, s, l⟩ := t
    obtain ⟨ao, cap, e, b1, b2, b3, b4⟩ := hv
    simp only [Value.agg.injEq, Array.mk.injEq, List.cons.injEq, and_true] at e
    obtain ⟨rfl, rfl, rfl, rfl⟩ := e
    rw [List.nil_append, RowO]
    exact ⟨lo', hi', ao, cap, [], rfl, b1, b2, b3, by omega, hlh, hg, b4, by rw [RowO]; exact ⟨rfl, Nat.le_refl _⟩⟩
  | .mk k n s l :: r, xs, lo, hi, hle, h => by
    rw [RowO] at h
    obtain ⟨a', m, ao, cap, xs', rfl, b1, b2, b3, h1, h2, h3, h4, h5⟩ := h
    rw [List.cons_append, RowO]
    exact ⟨a', m, ao, cap, xs' ++ [a, b, c, d], rfl, b1, b2, b3, h1, h2, h3, h4, RowO.snoc hv hg hlh hle h5⟩
theorem RowO.row {w : World} {g : Nat} : ∀ {l : List Tm} {xs : List Value} {lo hi off : Nat}, (∀ j v, xs[j]? = some v → w.cell? ⟨g, off + j, none⟩ = some v) → RowO w (some g) l xs lo hi → OwR w l g lo hi off
  | [], xs, lo, hi, off, _, h => by rw [RowO] at h; rw [OwR]; exact h.2
  | .mk k n s l :: r, xs, lo, hi, off, hc, h => by
    rw [RowO] at h
    rw [OwR]
    obtain ⟨a, m, ao, cap, xs', rfl, b1, b2, b3, h1, h2, h3, h4, h5⟩ := h
    refine ⟨a, m, h1, h2, h3 g rfl, ?_, RowO.row (fun j v hj => ?_) h5⟩
    · rw [OwT]
      exact ⟨hc 0 _ rfl, hc 1 _ rfl, hc 2 _ rfl, b1, ao, cap, hc 3 _ rfl, b2, b3, h4⟩
    · rw [Nat.add_assoc, Nat.add_comm 4 j]
      exact hc (j + 4) v (by simpa using hj)
end Go.Proofs.Ytabgfaafpgholaa
namespace Go.Proofs.Ytabgfaafpgholaa.Gn
open Go.RowKit
set_option linter.unusedVariables false

theorem rTs_none {u : Nat → Int} {g : Rd} {k q y : Nat} (h : g (u q) y = none) : rTs u g (k + 1) q y = none := by rw [rTs, h]
theorem rTs_some {u : Nat → Int} {g : Rd} {k q y : Nat} {t : Tm} {z : Nat} (h : g (u q) y = some (t, z)) : rTs u g (k + 1) q y = pre [t] (rTs u g k (q + 1) z) := by
  rw [rTs, h]
  simp only
  cases rTs u g k (q + 1) z with
  | none => rfl
  | some p => rfl
theorem rL_end {H : Hp} {g : Rd} {k y : Nat} : rL H g k 3 y = some ([], y) := by
  cases k <;> rw [rL, if_pos rfl]
theorem rL_off {H : Hp} {g : Rd} {k y : Nat} {x : Int} (h : x ≠ 3) (hc : ¬ consAt H x) : rL H g k x y = none := by
  cases k with
  | zero => rw [rL, if_neg h]
  | succ k => rw [rL, if_neg h, if_neg hc]
theorem rL_none {H : Hp} {g : Rd} {k y : Nat} {x : Int} (h : x ≠ 3) (hg : g (H.w (valW x).toNat 0) y = none) : rL H g k x y = none := by
  cases k with
  | zero => rw [rL, if_neg h]
  | succ k =>
    rw [rL, if_neg h]
    split
    · rw [hg]
    · rfl
theorem rL_some {H : Hp} {g : Rd} {k y : Nat} {x : Int} (h : x ≠ 3) (hc : consAt H x) {t : Tm} {z : Nat} (hg : g (H.w (valW x).toNat 0) y = some (t, z)) : rL H g (k + 1) x y = pre [t] (rL H g k (H.w (valW x).toNat 1) z) := by
  rw [rL, if_neg h, if_pos hc, hg]
  simp only
  cases rL H g k (H.w (valW x).toNat 1) z with
  | none => rfl
  | some p => rfl
/-- More rounds than may come yet make no difference. -/
theorem rL_more {H : Hp} {g : Rd} (hg : ∀ w left t x, g w left = some (t, x) → x < left) : ∀ (k k' : Nat) (x : Int) (y : Nat), y ≤ k → y ≤ k' → rL H g k x y = rL H g k' x y
  | 0, 0, x, y, _, _ => rfl
  | 0, k' + 1, x, y, h, _ => by
    rw [rL, rL]
    split
    · rfl
    · split
      · cases hq : g (H.w (valW x).toNat 0) y with
        | none => rfl
        | some p => obtain ⟨t, z⟩ := p; have := hg _ _ _ _ hq; omega
      · rfl
  | k + 1, 0, x, y, _, h => by
    rw [rL, rL]
    split
    · rfl
    · split
      · cases hq : g (H.w (valW x).toNat 0) y with
        | none => rfl
        | some p => obtain ⟨t, z⟩ := p; have := hg _ _ _ _ hq; omega
      · rfl
  | k + 1, k' + 1, x, y, h, h' => by
    rw [rL, rL]
    split
    · rfl
    · split
      · cases hq : g (H.w (valW x).toNat 0) y with
        | none => rfl
        | some p =>
          obtain ⟨t, z⟩ := p
          have := hg _ _ _ _ hq
          simp only
          rw [rL_more hg k k' _ z (by omega) (by omega)]
      · rfl
theorem wordsAt_len (H : Hp) (p k n : Nat) : (wordsAt H p k n).length = n := by simp [wordsAt]
theorem wordsAt_get (H : Hp) (p k n j : Nat) (h : j < (wordsAt H p k n).length) : (wordsAt H p k n)[j] = H.w p (k + j) := by simp [wordsAt]
theorem rT_isW {H : Hp} {d : Nat} {x : Int} {left : Nat} (h : isW x = false) : rT true H d x left = none := by
  cases d with
  | zero => rw [rT]
  | succ d => rw [rT, if_neg (by simp [h])]
theorem rT_left {H : Hp} {d : Nat} {x : Int} : rT true H d x 0 = none := by
  cases d with
  | zero => rw [rT]
  | succ d => rw [rT, if_neg (by simp)]
theorem rT_on {H : Hp} {d : Nat} {x : Int} {k : Nat} (h : isW x = true) : rT true H (d + 1) x (k + 1) = held true (raw true H (rT true H d) x k) := by
  rw [rT, if_pos ⟨by simpa using h, by omega⟩]; rfl

/-- All blocks of W are there as they were. -/
def Agr (W w : World) : Prop := W.heap.size ≤ w.heap.size ∧ ∀ k, k < W.heap.size → w.heap[k]? = W.heap[k]?
theorem Agr.cell {W w : World} (h : Agr W w) {b o : Nat} {v : Value} (hc : W.cell? ⟨b, o, none⟩ = some v) : w.cell? ⟨b, o, none⟩ = some v := by
  rw [World.cell?_of_block (w := W) (h.2 b (World.block_lt_of_cell? W _ hc))]; exact hc
/-- What is read from: the words that the function fk, whose variable stands in the block gb, tells, the atoms H.A in the block ab from ao on; both are named by the three cells of rb. What stands from the place p on stands in the block sb p from so p on. -/
structure Env where
  H : Hp
  W : World
  rb : Nat
  fk : Nat
  gb : Nat
  sb : Nat → Nat
  so : Nat → Nat
  av : Option Addr
  ab : Nat
  ao : Nat
  acap : Nat
/-- What the function value answers; what stands there. -/
structure Told (E : Env) : Prop where
  one : E.fk = 78 ∨ E.fk = 78
  call : ∀ w (p : Nat), Agr E.W w → p ≤ 4000001 → Calls Try.prog E.fk #[.int .i64 p, .pointer (some ⟨E.gb, 0, none⟩)] w fun e w' => ∃ a c, e = .returned (.slice a (E.H.len p) c) ∧ (E.H.len p ≠ 0 → a = some ⟨E.sb p, E.so p, none⟩) ∧ E.H.len p ≤ c ∧ w' = w
  ws : ∀ p j, j < E.H.len p → E.W.cell? ⟨E.sb p, E.so p + j, none⟩ = some (.int .i64 (E.H.w p j))
structure Rr (E : Env) (left : Nat) (w : World) : Prop where
  c0 : w.cell? ⟨E.rb, 0, none⟩ = some (.func (.func E.fk) #[] #[.pointer (some ⟨E.gb, 0, none⟩)])
  c1 : w.cell? ⟨E.rb, 1, none⟩ = some (.slice E.av E.H.A.length E.acap)
  c2 : w.cell? ⟨E.rb, 2, none⟩ = some (.int .i64 left)
  fr : w.frozen? ⟨E.rb, 2, none⟩ = false
  ok : E.H.ok
  told : Told E
  src : Agr E.W w
  ro : E.W.heap.size ≤ E.rb
  al : E.H.A.length ≠ 0 → E.av = some ⟨E.ab, E.ao, none⟩
  ats : Txt E.W E.ab E.ao E.H.A
  big : ∀ p j, E.H.w p j ≤ 9223372036854775807
  txt : ∀ s, s ∈ E.H.A → s.size ≤ 1048576
theorem Rr.lt {E : Env} {left : Nat} {w : World} (h : Rr E left w) : E.rb < w.heap.size := World.block_lt_of_cell? w _ h.c0
theorem Rr.ws {E : Env} {left : Nat} {w : World} (h : Rr E left w) (p j : Nat) (hj : j < E.H.len p) : w.cell? ⟨E.sb p, E.so p + j, none⟩ = some (.int .i64 (E.H.w p j)) := h.src.cell (h.told.ws p j hj)
theorem Rr.at {E : Env} {left : Nat} {w : World} (h : Rr E left w) (j : Nat) (hj : j < E.H.A.length) : w.cell? ⟨E.ab, E.ao + j, none⟩ = some (.string E.H.A[j]) := h.src.cell (h.ats j hj)
/-- A world that differs in nothing that was there. -/
theorem Rr.same {E : Env} {l0 left : Nat} {w w1 w2 : World} (h0 : Rr E l0 w) (h : Rr E left w1) (hk : ∀ k, k < w.heap.size → w2.heap[k]? = w1.heap[k]?) : Rr E left w2 := by
  have e : ∀ b o, b < w.heap.size → w2.cell? ⟨b, o, none⟩ = w1.cell? ⟨b, o, none⟩ := fun b o hb => World.cell?_of_block (w := w1) (hk b hb)
  have hr := h0.lt
  have c0 : w2.cell? ⟨E.rb, 0, none⟩ = some (.func (.func E.fk) #[] #[.pointer (some ⟨E.gb, 0, none⟩)]) := by rw [e _ _ hr]; exact h.c0
  have hr2 : E.rb < w2.heap.size := World.block_lt_of_cell? w2 _ c0
  refine ⟨c0, by rw [e _ _ hr]; exact h.c1, by rw [e _ _ hr]; exact h.c2, by rw [World.frozen?_of_block (w := w1) (hk E.rb hr)]; exact h.fr, h.ok, h.told, ⟨?_, fun k hkw => ?_⟩, h.ro, h.al, h.ats, h.big, h.txt⟩
  · have := h.ro; omega
  · have := h0.src.1
    rw [hk k (by omega)]; exact h.src.2 k hkw
theorem Rr.below {E : Env} {left : Nat} {w w' : World} (h : Rr E left w) (hb : Below w.heap.size w w') : Rr E left w' := h.same h (fun k hk => hb.block k hk)
theorem Rr.set {E : Env} {left : Nat} {w : World} (h : Rr E left w) (x : Nat) : Rr E x (w.setCell ⟨E.rb, 2, none⟩ (.int .i64 x)) := by
  have e : ∀ o, o ≠ 2 → (w.setCell ⟨E.rb, 2, none⟩ (.int .i64 x)).cell? ⟨E.rb, o, none⟩ = w.cell? ⟨E.rb, o, none⟩ := fun o hn => by
    rw [World.cell?_setCell_other (h := fun e => by simp only [Addr.mk.injEq] at e; omega)]
  refine ⟨by rw [e _ (by omega)]; exact h.c0, by rw [e _ (by omega)]; exact h.c1, World.cell?_setCell_same w _ _ h.c2, by rw [World.frozen?_setCell]; exact h.fr, h.ok, h.told, ⟨by rw [World.size_setCell]; exact h.src.1, fun k hk => ?_⟩, h.ro, h.al, h.ats, h.big, h.txt⟩
  have := h.ro
  rw [Below.heap_setCell _ ⟨E.rb, 2, none⟩ _ k (by show k ≠ E.rb; omega)]
  exact h.src.2 k hk
structure GI (E : Env) (w wr : World) (l : List Tm) (u : Value) (xs : List Value) (left : Nat) : Prop where
  turn : Turn E.rb w wr
  rr : Rr E left wr
  rr0 : ∃ l0, Rr E l0 w
  own : wr.ownsRow w.heap.size 39 4 u l.length xs
  row : RowO wr u.ownBlock l xs w.heap.size wr.heap.size
theorem GI.start {E : Env} {left : Nat} {w : World} (h : Rr E left w) : GI E w w [] (.slice none 0 0) [] left :=
  ⟨Turn.refl _ _, h, ⟨left, h⟩, ⟨rfl, Or.inl ⟨rfl, rfl⟩⟩, by rw [RowO]; exact ⟨rfl, Nat.le_refl _⟩⟩
theorem GI.form {E : Env} {w wr : World} {l : List Tm} {u : Value} {xs : List Value} {left : Nat} (h : GI E w wr l u xs left) : ∃ ua uc, u = .slice ua l.length uc := by
  rcases h.own.2 with ⟨rfl, h0⟩ | ⟨g, cap, cur, rfl, _⟩
  · exact ⟨none, 0, by rw [h0]⟩
  · exact ⟨_, _, rfl⟩
theorem GI.call {E : Env} {w wr w1 : World} {l : List Tm} {u : Value} {xs : List Value} {left left' : Nat} (h : GI E w wr l u xs left) (ht : Turn E.rb wr w1) (hr : Rr E left' w1) : GI E w w1 l u xs left' := by
  obtain ⟨l0, h0⟩ := h.rr0
  have hlt := h0.lt
  refine ⟨h.turn.trans ht, hr, h.rr0, h.own.kept ht.grown (Or.inr (fun e => ?_)), RowO.hi ht.size (RowO.move (fun b hb1 hb2 _ hbl => ht.block b hbl (by omega)) (fun g hg => .inl hg) h.row)⟩
  have := (h.own.lt _ e).1; omega
theorem GI.more {E : Env} {w wr w1 w2 : World} {l : List Tm} {u v : Value} {xs : List Value} {left left' : Nat} (h : GI E w wr l u xs left) (ht : Turn E.rb wr w1) (hr : Rr E left' w1)
    {t : Tm} {a b c d : Value} (hv : OwE w1 wr.heap.size w1.heap.size t (.agg #[a, b, c, d])) {o : Obj}
    (hown : w2.ownsRow w.heap.size 39 4 v (l.length + 1) (xs ++ [a, b, c, d])) (hgrow : (w1.alloc o).grownBy w2 u.ownBlock) (hat : v.ownBlock = u.ownBlock ∨ v.ownBlock = some (w1.alloc o).heap.size) :
    GI E w w2 (l ++ [t]) v (xs ++ [a, b, c, d]) left' := by
  have h1 := h.call ht hr
  obtain ⟨l0, h0⟩ := h.rr0
  have hs1 : (w1.alloc o).heap.size = w1.heap.size + 1 := World.size_alloc _ _
  have hz1 := h1.turn.size
  have hz2 := ht.size
  have hzw := h.turn.size
  have hzg := hgrow.size
  have hrl := h0.lt
  have hun : ∀ k, k < w.heap.size → some k ≠ u.ownBlock := fun k hk e => by have := (h.own.lt k e.symm).1; omega
  have hk : ∀ k, k < w.heap.size → w2.heap[k]? = w1.heap[k]? := fun k hkt => by
    rw [hgrow.block k (by rw [hs1]; omega) (hun k hkt)]
    show (w1.heap.push _)[k]? = _
    rw [Array.getElem?_push, if_neg (by omega)]
  have hcell : ∀ p o' v, some p ≠ u.ownBlock → w1.cell? ⟨p, o', none⟩ = some v → w2.cell? ⟨p, o', none⟩ = some v := fun p o' v hp hc => by
    have hpl := World.block_lt_of_cell? w1 _ hc
    rw [hgrow.cell_far ⟨p, o', none⟩ (by rw [hs1]; exact Nat.lt_succ_of_lt hpl) hp, World.cell?_alloc_lt (h := hpl)]; exact hc
  have hblk : ∀ p, p < w1.heap.size → some p ≠ u.ownBlock → w2.heap[p]? = w1.heap[p]? := fun p hp hn => by
    rw [hgrow.block p (by rw [hs1]; omega) hn]
    show (w1.heap.push _)[p]? = _
    rw [Array.getElem?_push, if_neg (by omega)]
  have huo : ∀ g, u.ownBlock = some g → g < wr.heap.size := fun g e => (h.own.lt g e).2
  have hvo : ∀ g, v.ownBlock = some g → u.ownBlock = some g ∨ w1.heap.size ≤ g := fun g e => by
    rcases hat with hat | hat
    · left; rw [← hat]; exact e
    · rw [hat, hs1] at e
      injection e with e
      right; omega
  have row1 : RowO w2 v.ownBlock l xs w.heap.size wr.heap.size := RowO.move (fun b' hb1 hb2 hb3 hbl => (hblk b' (by omega) (fun e => hb3 e.symm)).trans (ht.block b' hbl (by omega))) (fun g hg => (hvo g hg).imp id (fun h => by omega)) h.row
  have hv2 : OwE w2 wr.heap.size w1.heap.size t (.agg #[a, b, c, d]) := hv.keep (fun b' hb1 hb2 hbl => hblk b' hbl (fun e => by have := huo b' e.symm; omega))
  have t1 := h1.turn
  refine ⟨⟨hgrow.os.trans t1.os, hgrow.tape.trans t1.tape, hgrow.output.trans t1.output, by omega, fun k hkl hkn => (hk k hkl).trans (t1.block k hkl hkn)⟩, h0.same hr hk, h.rr0, by rw [List.length_append]; exact hown, RowO.hi (by omega) (RowO.snoc hv2 (fun g hg => (hvo g hg).imp (huo g) id) hz2 (Nat.le_refl _) row1)⟩
/-- v is the list l, new behind w, its lists apart. -/
def IsL (w w' : World) (v : Value) (l : List Tm) : Prop := ∃ ao cap, v = .slice ao l.length cap ∧ l.length ≤ cap ∧ cap ≤ maxLen ∧ OwL w' l w.heap.size w'.heap.size ao
theorem GI.list {E : Env} {w wr : World} {l : List Tm} {u : Value} {xs : List Value} {left : Nat} (h : GI E w wr l u xs left) : IsL w wr u l := by
  obtain ⟨hlen, hcase⟩ := id h.own
  rcases hcase with ⟨rfl, h0⟩ | ⟨g, cap, cur, rfl, hb, hg, hn, hc, hsz, htake⟩
  · have : l = [] := List.eq_nil_of_length_eq_zero h0
    subst this
    exact ⟨none, 0, rfl, Nat.le_refl _, Nat.zero_le _, by rw [OwL]; trivial⟩
  · refine ⟨some ⟨g, 0, none⟩, cap, rfl, hn, hc, ?_⟩
    by_cases hl : l = []
    · subst hl; rw [OwL]; trivial
    · have hgl := h.own.lt g rfl
      refine (OwL.iff hl).2 ⟨g, w.heap.size, wr.heap.size, rfl, hgl.1, hgl.2, Nat.le_refl _, Nat.le_refl _, fun o => h.own.frozenAt o, RowO.row (fun j v hj => ?_) h.row⟩
      rw [Nat.zero_add, h.own.cellAt j (by have := (List.getElem?_eq_some_iff.1 hj).1; omega)]
      exact hj

set_option maxRecDepth 100000 in
theorem at_yes {E : Env} {left : Nat} {w : World} (h : Rr E left w) (p n : Nat) (hpn : n ≤ E.H.len p) (h1 : n ≠ 0) :
    Calls Try.prog 134 #[.pointer (some ⟨E.rb, 0, none⟩), .int .i64 p, .int .i64 n] w fun e w' => (∃ c, e = .returned (.slice (some ⟨E.sb p, E.so p, none⟩) n c) ∧ n ≤ c) ∧ w' = w := by
  have hN := h.ok.n p
  have hf := h.ok.far p (by omega)
  have q0 := h.c0
  have h1k := h.told.one
  have HC : Hid (∀ w', w' = w → Calls Try.prog E.fk #[.int .i64 p, .pointer (some ⟨E.gb, 0, none⟩)] w' fun e w'' => ∃ c, e = .returned (.slice (some ⟨E.sb p, E.so p, none⟩) (E.H.len p) c) ∧ E.H.len p ≤ c ∧ w'' = w') := by
    rintro w' rfl
    refine (h.told.call w' p h.src (by omega)).mono ?_
    rintro e w'' ⟨a, c, rfl, ha, hc, rfl⟩
    exact ⟨c, by rw [ha (by omega)], hc, rfl⟩
  clear h
  generalize E.H.len p = N at *
  have hd : decide ((n : Int) ≤ (N : Int)) = true := by simp; omega
  generalize E.fk = K at *
  rcases h1k with rfl | rfl
  all_goals
    go_enter Try.func134, Try.ntmps134
    go_wp2_with fail
    refine (HC.out _ rfl).mono ?_
    rintro e w' ⟨c, rfl, hc, rfl⟩
    go_wp2_with (first | (go_at_call 93; refine (insist_yes _).mono ?_; rintro e w' ⟨rfl, rfl⟩))
    go_ret
    exact ⟨⟨_, rfl, by omega⟩, rfl⟩
set_option maxRecDepth 100000 in
theorem at_no {E : Env} {left : Nat} {w : World} (h : Rr E left w) (p n : Nat) (hpn : ¬ n ≤ E.H.len p) (hp : p ≤ 4000001) (hn : n ≤ 4000000) :
    Calls Try.prog 134 #[.pointer (some ⟨E.rb, 0, none⟩), .int .i64 p, .int .i64 n] w fun e w' => e = .panicked PN ∧ w' = w := by
  have hN := h.ok.n p
  have q0 := h.c0
  have h1k := h.told.one
  have HC : Hid (∀ w', w' = w → Calls Try.prog E.fk #[.int .i64 p, .pointer (some ⟨E.gb, 0, none⟩)] w' fun e w'' => ∃ a c, e = .returned (.slice a (E.H.len p) c) ∧ w'' = w') := by
    rintro w' rfl
    refine (h.told.call w' p h.src hp).mono ?_
    rintro e w'' ⟨a, c, rfl, ha, hc, rfl⟩
    exact ⟨a, c, rfl, rfl⟩
  clear h
  generalize E.H.len p = N at *
  have hd : decide ((n : Int) ≤ (N : Int)) = false := by simp; omega
  generalize E.fk = K at *
  rcases h1k with rfl | rfl
  all_goals
    go_enter Try.func134, Try.ntmps134
    go_wp2_with fail
    refine (HC.out _ rfl).mono ?_
    rintro e w' ⟨a, c, rfl, rfl⟩
    go_wp2_with (first | (go_at_call 93; refine (insist_no _).mono ?_; rintro e w' ⟨rfl, rfl⟩))
    exact ⟨rfl, rfl, rfl⟩
end Go.Proofs.Ytabgfaafpgholaa.Gn
namespace Go.Proofs.Ytabgfaafpgholaa.Gn
open Go.RowKit
set_option linter.unusedVariables false

/-- A list of words is there: from o on in the block b, or nothing at all. -/
def Lst (wv : Option Addr) (b o N cap : Nat) : Prop := (wv = some ⟨b, o, none⟩ ∧ N ≤ cap) ∨ (wv = none ∧ N = 0 ∧ cap = 0)
set_option maxRecDepth 100000 in
theorem wordsFrom_any (wv : Option Addr) (b o N cap p : Nat) (h : Lst wv b o N cap) (hN : N ≤ 1048576) (hp : p ≤ 4000001) (w : World) :
    Calls Try.prog 79 #[.slice wv N cap, .int .i64 p] w fun e w' => ∃ a c, e = .returned (.slice a (N - p) c) ∧ (N - p ≠ 0 → a = some ⟨b, o + p, none⟩) ∧ N - p ≤ c ∧ w' = w := by
  rcases h with ⟨rfl, hc⟩ | ⟨rfl, rfl, rfl⟩
  · by_cases h1 : p < N
    · have hm : min (p : Int) (N : Int) = p := by omega
      have hd : decide ((N : Int) < (p : Int)) = false := by simp; omega
      have hcp : ¬ p = cap := by omega
      go_enter Try.func79, Try.ntmps79
      go_wp2_with fail
      go_ret
      exact ⟨_, _, ret_sl (by omega) rfl, fun _ => rfl, by omega, rfl⟩
    · have hm : min (p : Int) (N : Int) = N := by omega
      by_cases h2 : N = cap
      · subst h2
        go_enter Try.func79, Try.ntmps79
        go_wp2_with fail
        all_goals (go_ret; exact ⟨_, _, ret_sl (by omega) rfl, fun h => by omega, by omega, rfl⟩)
      · go_enter Try.func79, Try.ntmps79
        go_wp2_with fail
        all_goals (go_ret; exact ⟨_, _, ret_sl (by omega) rfl, fun h => by omega, by omega, rfl⟩)
  · have hm : min (p : Int) ((0 : Nat) : Int) = 0 := by omega
    have hm' : min (p : Int) 0 = 0 := by omega
    go_enter Try.func79, Try.ntmps79
    go_wp2_with fail
    all_goals (go_ret; exact ⟨⟨_, _, rfl⟩, rfl⟩)


set_option maxRecDepth 100000 in
theorem heapTells (wv : Option Addr) (b o N cap p gb : Nat) (h : Lst wv b o N cap) (hN : N ≤ 1048576) (hp : p ≤ 4000001) (w : World) (hc : w.cell? ⟨gb, 0, none⟩ = some (.slice wv N cap)) :
    Calls Try.prog 78 #[.int .i64 p, .pointer (some ⟨gb, 0, none⟩)] w fun e w' => ∃ a c, e = .returned (.slice a (N - p) c) ∧ (N - p ≠ 0 → a = some ⟨b, o + p, none⟩) ∧ N - p ≤ c ∧ w' = w := by
  have HL : Hid (Lst wv b o N cap) := h
  have HN : Hid (N ≤ 1048576) := hN
  have HP : Hid (p ≤ 4000001) := hp
  clear h hN hp
  go_enter Try.func78, Try.ntmps78
  go_wp2_with (go_at_call 79; refine (wordsFrom_any wv b o N cap p HL.out HN.out HP.out _).mono ?_; rintro e w' ⟨a, c, rfl, ha, hc', rfl⟩)
  go_ret
  exact ⟨a, c, rfl, ha, hc', rfl⟩

end Go.Proofs.Ytabgfaafpgholaa.Gn
