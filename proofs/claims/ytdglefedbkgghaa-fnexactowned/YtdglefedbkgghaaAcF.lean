/-
  A copy of an actor.
-/
import Derived.Test.YtdglefedbkgghaaAcD
namespace Go.Proofs.Ytdglefedbkgghaa
open Go.RowKit Atom
set_option linter.unusedVariables false

/-- Blocks below B but these three are as they were. -/
theorem keep3 {w w' : World} (hb : Below w.heap.size w w') {b : Nat} (hb1 : b < w.heap.size) {c : Array Value} (hc : ∀ o, w.cell? ⟨b, o, none⟩ = c[o]?) (hf : ∀ o, w.frozen? ⟨b, o, none⟩ = false) :
    (∀ o, w'.cell? ⟨b, o, none⟩ = c[o]?) ∧ ∀ o, w'.frozen? ⟨b, o, none⟩ = false :=
  ⟨fun o => by rw [hb.cell (p := ⟨b, o, none⟩) hb1]; exact hc o, fun o => by rw [hb.frozen (p := ⟨b, o, none⟩) hb1]; exact hf o⟩
theorem keepSetB {B : Nat} {w : World} {a : Addr} {v : Value} (ha : a.block < B) : Keeps B w (w.setCell a v) := Keeps.set w ha v
theorem RdI.keeps {w w' : World} {B b N : Nat} {f : Nat → Int} (h : RdI w (some ⟨b, 0, none⟩) N f) (hB : B ≤ b) (hk : Keeps B w w') : RdI w' (some ⟨b, 0, none⟩) N f := fun hn => by
  obtain ⟨b', o, e, hc⟩ := h hn
  simp only [Option.some.injEq, Addr.mk.injEq, and_true] at e
  obtain ⟨rfl, rfl⟩ := e
  exact ⟨b, 0, rfl, fun j hj => hk _ _ _ hB (hc j hj)⟩

theorem cells_set {w : World} {g j : Nat} {c c' : Array Value} {v x : Value} (hc : ∀ o, w.cell? ⟨g, o, none⟩ = c[o]?) (hj : c[j]? = some x) (h1 : c'[j]? = some v) (h2 : ∀ o, o ≠ j → c'[o]? = c[o]?) : ∀ o, (w.setCell ⟨g, j, none⟩ v).cell? ⟨g, o, none⟩ = c'[o]? := fun o => by
  by_cases e : o = j
  · subst e
    rw [World.cell?_setCell_same w ⟨g, o, none⟩ v ((hc o).trans hj)]; exact h1.symm
  · rw [World.cell?_setCell_other (h := fun q => e (by simp only [Addr.mk.injEq] at q; omega)), hc o]; exact (h2 o e).symm
theorem five {a b c d e a' b' c' d' e' : Value} (j : Nat) (h : ∀ o, o < 5 → o ≠ j → (#[a', b', c', d', e'] : Array Value)[o]? = (#[a, b, c, d, e] : Array Value)[o]?) : ∀ o, o ≠ j → (#[a', b', c', d', e'] : Array Value)[o]? = (#[a, b, c, d, e] : Array Value)[o]? := fun o ho => by
  by_cases h5 : o < 5
  · exact h o h5 ho
  · rw [Array.getElem?_eq_none (by simp; omega), Array.getElem?_eq_none (by simp; omega)]
theorem five2 {a b c d e v : Value} : ∀ o, o ≠ 2 → (#[a, b, v, d, e] : Array Value)[o]? = (#[a, b, c, d, e] : Array Value)[o]? := five 2 fun o h5 ho => by
  match o, ho, h5 with
  | 0, _, _ => rfl
  | 1, _, _ => rfl
  | 2, h, _ => exact absurd rfl h
  | 3, _, _ => rfl
  | 4, _, _ => rfl
  | n + 5, _, h => omega
theorem five3 {a b c d e v : Value} : ∀ o, o ≠ 3 → (#[a, b, c, v, e] : Array Value)[o]? = (#[a, b, c, d, e] : Array Value)[o]? := five 3 fun o h5 ho => by
  match o, ho, h5 with
  | 0, _, _ => rfl
  | 1, _, _ => rfl
  | 2, _, _ => rfl
  | 3, h, _ => exact absurd rfl h
  | 4, _, _ => rfl
  | n + 5, _, h => omega
theorem five4 {a b c d e v : Value} : ∀ o, o ≠ 4 → (#[a, b, c, d, v] : Array Value)[o]? = (#[a, b, c, d, e] : Array Value)[o]? := five 4 fun o h5 ho => by
  match o, ho, h5 with
  | 0, _, _ => rfl
  | 1, _, _ => rfl
  | 2, _, _ => rfl
  | 3, _, _ => rfl
  | 4, h, _ => exact absurd rfl h
  | n + 5, _, h => omega
theorem three_first9 {w w1 : World} {c1 c2 c3 : Array Value} {t1 t2 t3 : TypeId}
    (hb : Below (((w.alloc (.cells c1 t1)).alloc (.cells c2 t2)).alloc (.cells c3 t3)).heap.size (((w.alloc (.cells c1 t1)).alloc (.cells c2 t2)).alloc (.cells c3 t3)) w1) : ∀ o, w1.cell? ⟨w.heap.size, o, none⟩ = c1[o]? := fun o => by
  have e2 : (((w.alloc (.cells c1 t1)).alloc (.cells c2 t2)).alloc (.cells c3 t3)).heap[w.heap.size]? = some (.cells c1 t1 (0, 0)) := by
    show (((w.heap.push _).push _).push _)[w.heap.size]? = _
    rw [Array.getElem?_push, if_neg (by simp; omega), Array.getElem?_push, if_neg (by simp), Array.getElem?_push, if_pos (by simp)]
  rw [hb.cell (p := ⟨w.heap.size, o, none⟩) (by show w.heap.size < _; simp; omega)]; exact cell_of e2
/-- What toActor has in hand: its argument's box, the result's and its own. -/
structure To3 (w w1 : World) (c1 c2 c3 : Array Value) : Prop where
  be : Below w.heap.size w w1
  sz : w.heap.size + 3 ≤ w1.heap.size
  q1 : ∀ o, w1.cell? ⟨w.heap.size, o, none⟩ = c1[o]?
  q2 : ∀ o, w1.cell? ⟨w.heap.size + 1, o, none⟩ = c2[o]?
  q3 : ∀ o, w1.cell? ⟨w.heap.size + 1 + 1, o, none⟩ = c3[o]?
  f2 : ∀ o, w1.frozen? ⟨w.heap.size + 1, o, none⟩ = false
  f3 : ∀ o, w1.frozen? ⟨w.heap.size + 1 + 1, o, none⟩ = false
theorem To3.call {w w1 w2 : World} {c1 c2 c3 : Array Value} (h : To3 w w1 c1 c2 c3) (hb : Below w1.heap.size w1 w2) : To3 w w2 c1 c2 c3 := by
  have hz := h.sz
  exact ⟨h.be.trans (hb.mono h.be.size), Nat.le_trans h.sz hb.size, fun o => by rw [hb.cell (p := ⟨w.heap.size, o, none⟩) (by show w.heap.size < _; omega)]; exact h.q1 o,
    fun o => by rw [hb.cell (p := ⟨w.heap.size + 1, o, none⟩) (by show w.heap.size + 1 < _; omega)]; exact h.q2 o, fun o => by rw [hb.cell (p := ⟨w.heap.size + 1 + 1, o, none⟩) (by show w.heap.size + 1 + 1 < _; omega)]; exact h.q3 o,
    fun o => by rw [hb.frozen (p := ⟨w.heap.size + 1, o, none⟩) (by show w.heap.size + 1 < _; omega)]; exact h.f2 o, fun o => by rw [hb.frozen (p := ⟨w.heap.size + 1 + 1, o, none⟩) (by show w.heap.size + 1 + 1 < _; omega)]; exact h.f3 o⟩
theorem To3.set {w w1 : World} {c1 c2 c3 c3' : Array Value} (h : To3 w w1 c1 c2 c3) (j : Nat) {x v : Value} (hj : c3[j]? = some x) (h1 : c3'[j]? = some v) (h2 : ∀ o, o ≠ j → c3'[o]? = c3[o]?) : To3 w (w1.setCell ⟨w.heap.size + 1 + 1, j, none⟩ v) c1 c2 c3' := by
  refine ⟨h.be.setCell (by show w.heap.size ≤ w.heap.size + 1 + 1; omega) _, by rw [World.size_setCell]; exact h.sz, fun o => ?_, fun o => ?_, cells_set h.q3 hj h1 h2, fun o => by rw [World.frozen?_setCell]; exact h.f2 o, fun o => by rw [World.frozen?_setCell]; exact h.f3 o⟩
  · rw [World.cell?_setCell_other (h := fun q => by simp only [Addr.mk.injEq] at q; omega)]; exact h.q1 o
  · rw [World.cell?_setCell_other (h := fun q => by simp only [Addr.mk.injEq] at q; omega)]; exact h.q2 o

end Go.Proofs.Ytdglefedbkgghaa
