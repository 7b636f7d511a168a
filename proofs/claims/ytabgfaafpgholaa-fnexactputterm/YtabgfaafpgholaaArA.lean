/-
  A row of numbers in a block, and how it turns; what l2Lay leaves.
-/
import Derived.Test.YtabgfaafpgholaaCurA
namespace Go.Proofs.Ytabgfaafpgholaa
open Go.RowKit
set_option linter.unusedVariables false

/-- The N numbers f stand in the block b from o on, and may be written. -/
structure Ints (w : World) (b o N : Nat) (f : Nat → Int) : Prop where
  cell : ∀ j, j < N → w.cell? ⟨b, o + j, none⟩ = some (.int .i64 (f j))
  free : ∀ x, w.frozen? ⟨b, x, none⟩ = false

def upd (f : Nat → Int) (i : Nat) (x : Int) : Nat → Int := fun j => if j = i then x else f j
theorem upd_same (f : Nat → Int) (i : Nat) (x : Int) : upd f i x i = x := by simp [upd]
theorem upd_other (f : Nat → Int) {i j : Nat} (x : Int) (h : j ≠ i) : upd f i x j = f j := by simp [upd, h]

theorem Ints.congr {w : World} {b o N : Nat} {f g : Nat → Int} (h : Ints w b o N f) (e : ∀ j, j < N → f j = g j) : Ints w b o N g :=
  ⟨fun j hj => by rw [← e j hj]; exact h.cell j hj, h.free⟩
theorem Ints.set {w : World} {b o N : Nat} {f : Nat → Int} (h : Ints w b o N f) (i : Nat) (hi : i < N) (x : Int) : Ints (w.setCell ⟨b, o + i, none⟩ (.int .i64 x)) b o N (upd f i x) := by
  refine ⟨fun j hj => ?_, fun y => by rw [World.frozen?_setCell]; exact h.free y⟩
  by_cases e : j = i
  · subst e
    rw [upd_same]
    exact World.cell?_setCell_same w _ _ (h.cell j hj)
  · rw [upd_other f x e, World.cell?_setCell_other (h := fun q => by simp at q; try omega)]
    exact h.cell j hj
theorem Ints.below {w w' : World} {b o N : Nat} {f : Nat → Int} (h : Ints w b o N f) (hb : Below w.heap.size w w') (hlt : b < w.heap.size) : Ints w' b o N f :=
  ⟨fun j hj => by rw [hb.cell (p := ⟨b, o + j, none⟩) hlt]; exact h.cell j hj, fun x => by rw [hb.frozen (p := ⟨b, x, none⟩) hlt]; exact h.free x⟩
theorem Ints.turn {cb : Nat} {w w' : World} {b o N : Nat} {f : Nat → Int} (h : Ints w b o N f) (t : Turn cb w w') (hn : b ≠ cb) (hlt : b < w.heap.size) : Ints w' b o N f :=
  ⟨fun j hj => t.cell hn (h.cell j hj), fun x => by rw [t.frozen hn hlt]; exact h.free x⟩
theorem Ints.lt {w : World} {b o N : Nat} {f : Nat → Int} (h : Ints w b o N f) (hN : 0 < N) : b < w.heap.size := World.block_lt_of_cell? w _ (h.cell 0 hN)

/-- A block of n words for its holder, laid at p: the holder's words ahead of m stand. -/
def midF (f : Nat → Int) (p n : Nat) (u : Bool) (m : Nat) : Nat → Int := fun j =>
  if j = p then gw p n u 1000 else if j = p + 1 then n else if p + 2 ≤ j ∧ j < m then (if u then 0 else pois j) else f j
def layF (f : Nat → Int) (p n : Nat) (u : Bool) : Nat → Int := upd (midF f p n u (p + 2 + n)) (p + 2 + n) (gw p n u 1001)

theorem mid_start (f : Nat → Int) (p n : Nat) (u : Bool) : ∀ j, upd (upd f p (gw p n u 1000)) (p + 1) n j = midF f p n u (p + 2) j := by
  intro j
  unfold midF upd
  by_cases h1 : j = p + 1
  · subst h1; simp
  · by_cases h2 : j = p
    · subst h2; simp
    · rw [if_neg h1, if_neg h2, if_neg h2, if_neg h1, if_neg (by omega)]
theorem mid_step (f : Nat → Int) (p n : Nat) (u : Bool) (m : Nat) (hm : p + 2 ≤ m) (x : Int) (hx : x = if u then 0 else pois m) : ∀ j, upd (midF f p n u m) m x j = midF f p n u (m + 1) j := by
  intro j
  unfold midF upd
  dsimp only
  by_cases h1 : j = m
  · subst h1
    rw [if_pos rfl, if_neg (by omega), if_neg (by omega), if_pos (by omega)]; exact hx
  · rw [if_neg h1]
    by_cases h2 : j = p
    · rw [if_pos h2, if_pos h2]
    · by_cases h3 : j = p + 1
      · rw [if_neg h2, if_neg h2, if_pos h3, if_pos h3]
      · rw [if_neg h2, if_neg h2, if_neg h3, if_neg h3]
        by_cases h4 : p + 2 ≤ j ∧ j < m
        · have h5 : p + 2 ≤ j ∧ j < m + 1 := by omega
          rw [if_pos h4, if_pos h5]
        · have h5 : ¬ (p + 2 ≤ j ∧ j < m + 1) := by omega
          rw [if_neg h4, if_neg h5]
theorem upd_upd (f : Nat → Int) (i : Nat) (x y : Int) : ∀ j, upd (upd f i x) i y j = upd f i y j := by
  intro j
  unfold upd
  by_cases h : j = i <;> simp [h]

end Go.Proofs.Ytabgfaafpgholaa
