/-
  How deep and how many: l1Look and spendTerm answer the same.
-/
import Derived.Test.YtdglefedbkgghaaTmE
import Derived.WalkSmall
namespace Go.Proofs.Ytdglefedbkgghaa
open Go.RowKit Atom
set_option linter.unusedVariables false

mutual
/-- How many are left behind t and all within it; nothing: t is not right. -/
def look : Tm → Nat → Nat → Option Nat
  | .mk k n s l, deep, left => if deep = 0 ∨ left = 0 ∨ shapeB k n s l.length = false then none else lookL l (deep - 1) (left - 1)
def lookL : List Tm → Nat → Nat → Option Nat
  | [], _, left => some left
  | t :: r, deep, left => match look t deep left with
    | none => none
    | some x => lookL r deep x
end
mutual
theorem look_le : ∀ (t : Tm) (d m x : Nat), look t d m = some x → x ≤ m
  | .mk k n s l, d, m, x, h => by
    rw [look] at h
    split at h
    · cases h
    · have := lookL_le l _ _ _ h; omega
theorem lookL_le : ∀ (l : List Tm) (d m x : Nat), lookL l d m = some x → x ≤ m
  | [], d, m, x, h => by rw [lookL] at h; cases h; exact Nat.le_refl _
  | t :: r, d, m, x, h => by
    rw [lookL] at h
    split at h
    · cases h
    · rename_i y hy
      have h1 := look_le t d m y hy
      have h2 := lookL_le r d y x h
      omega
end
theorem lookL_drop (l : List Tm) (k : Nat) (h : k < l.length) (d m : Nat) : lookL (l.drop k) d m = match look l[k] d m with | none => none | some x => lookL (l.drop (k + 1)) d x := by
  rw [List.drop_eq_getElem_cons h, lookL]

/-- What l1Look answers. -/
def lookI (o : Option Nat) : Int := match o with | none => -1 | some x => x

/-- The first new block behind a call that lets it be. -/
theorem one_new {w w1 : World} {c1 : Array Value} {t1 : TypeId} (hb : Below (w.heap.size + 1) (w.alloc (.cells c1 t1)) w1) :
    w.heap.size + 1 ≤ w1.heap.size ∧ (∀ o, w1.cell? ⟨w.heap.size, o, none⟩ = c1[o]?) ∧ (∀ o, w1.frozen? ⟨w.heap.size, o, none⟩ = false) := by
  have e1 : (w.alloc (.cells c1 t1)).heap[w.heap.size]? = some (.cells c1 t1 (0, 0)) := by
    show (w.heap.push _)[w.heap.size]? = _
    simp
  have hs : (w.alloc (.cells c1 t1)).heap.size = w.heap.size + 1 := by
    show (w.heap.push _).size = _
    simp
  refine ⟨by have := hb.size; omega, fun o => ?_, fun o => ?_⟩
  · rw [hb.cell (p := ⟨w.heap.size, o, none⟩) (by show w.heap.size < _; omega)]
    unfold World.cell?; rw [e1]; rfl
  · rw [hb.frozen (p := ⟨w.heap.size, o, none⟩) (by show w.heap.size < _; omega)]
    unfold World.frozen?; rw [e1]; simp

end Go.Proofs.Ytdglefedbkgghaa
