/-
  Terms that are gathered one by one, their lists apart.
-/
import Derived.Test.YtpfknaaepdbobabRiG
import Derived.Test.YtpfknaaepdbobabOwB
namespace Go.Proofs.Ytpfknaaepdbobab.Apart
open Go.RowKit
set_option linter.unusedVariables false

structure GI (E : Env) (w wr : World) (l : List Tm) (u : Value) (xs : List Value) (left : Nat) : Prop where
  turn : Turn E.rb w wr
  rr : Rr E left wr
  rr0 : ∃ l0, Rr E l0 w
  own : wr.ownsRow w.heap.size 30 4 u l.length xs
  row : RowO wr u.ownBlock l xs w.heap.size wr.heap.size
theorem GI.start {E : Env} {left : Nat} {w : World} (h : Rr E left w) : GI E w w [] (.slice none 0 0) [] left :=
  ⟨Turn.refl _ _, h, ⟨left, h⟩, ⟨rfl, Or.inl ⟨rfl, rfl⟩⟩, by rw [RowO]; exact ⟨rfl, Nat.le_refl _⟩⟩
theorem GI.form {E : Env} {w wr : World} {l : List Tm} {u : Value} {xs : List Value} {left : Nat} (h : GI E w wr l u xs left) : ∃ ua uc, u = .slice ua l.length uc := by
  rcases h.own.2 with ⟨rfl, h0⟩ | ⟨g, cap, cur, rfl, _⟩
  · exact ⟨none, 0, by rw [h0]⟩
  · exact ⟨_, _, rfl⟩
theorem GI.call {E : Env} {w wr w1 : World} {l : List Tm} {u : Value} {xs : List Value} {left left' : Nat} (h : GI E w wr l u xs left) (ht : Turn E.rb wr w1) (hr : Rr E left' w1) : GI E w w1 l u xs left' := by
  obtain ⟨l0, h0⟩ := h.rr0
  have hlt := h0.lt
  refine ⟨h.turn.trans ht, hr, h.rr0, h.own.kept ht.grown (Or.inr (fun e => ?_)), RowO.hi ht.size (RowO.move (fun b hb1 hb2 _ hbl => ht.block b hbl (by omega)) (fun g hg => .inl hg) h.row)⟩
  have := (h.own.lt _ e).1; omega
theorem GI.more {E : Env} {w wr w1 w2 : World} {l : List Tm} {u v : Value} {xs : List Value} {left left' : Nat} (h : GI E w wr l u xs left) (ht : Turn E.rb wr w1) (hr : Rr E left' w1)
    {t : Tm} {a b c d : Value} (hv : OwV w1 wr.heap.size w1.heap.size t (.agg #[a, b, c, d])) {o : Obj}
    (hown : w2.ownsRow w.heap.size 30 4 v (l.length + 1) (xs ++ [a, b, c, d])) (hgrow : (w1.alloc o).grownBy w2 u.ownBlock) (hat : v.ownBlock = u.ownBlock ∨ v.ownBlock = some (w1.alloc o).heap.size) :
    GI E w w2 (l ++ [t]) v (xs ++ [a, b, c, d]) left' := by
  have h1 := h.call ht hr
  obtain ⟨l0, h0⟩ := h.rr0
  have hs1 : (w1.alloc o).heap.size = w1.heap.size + 1 := World.size_alloc _ _
  have hz1 := h1.turn.size
  have hz2 := ht.size
  have hzw := h.turn.size
  have hzg := hgrow.size
  have hrl := h0.lt
  have hun : ∀ k, k < w.heap.size → some k ≠ u.ownBlock := fun k hk e => by have := (h.own.lt k e.symm).1; omega
  have hk : ∀ k, k < w.heap.size → w2.heap[k]? = w1.heap[k]? := fun k hkt => by
    rw [hgrow.block k (by rw [hs1]; omega) (hun k hkt)]
    show (w1.heap.push _)[k]? = _
    rw [Array.getElem?_push, if_neg (by omega)]
  have hcell : ∀ p o' v, some p ≠ u.ownBlock → w1.cell? ⟨p, o', none⟩ = some v → w2.cell? ⟨p, o', none⟩ = some v := fun p o' v hp hc => by
    have hpl := World.block_lt_of_cell? w1 _ hc
    rw [hgrow.cell_far ⟨p, o', none⟩ (by rw [hs1]; exact Nat.lt_succ_of_lt hpl) hp, World.cell?_alloc_lt (h := hpl)]; exact hc
  have hblk : ∀ p, p < w1.heap.size → some p ≠ u.ownBlock → w2.heap[p]? = w1.heap[p]? := fun p hp hn => by
    rw [hgrow.block p (by rw [hs1]; omega) hn]
    show (w1.heap.push _)[p]? = _
    rw [Array.getElem?_push, if_neg (by omega)]
  have huo : ∀ g, u.ownBlock = some g → g < wr.heap.size := fun g e => (h.own.lt g e).2
  have hvo : ∀ g, v.ownBlock = some g → u.ownBlock = some g ∨ w1.heap.size ≤ g := fun g e => by
    rcases hat with hat | hat
    · left; rw [← hat]; exact e
    · rw [hat, hs1] at e
      injection e with e
      right; omega
  have row1 : RowO w2 v.ownBlock l xs w.heap.size wr.heap.size := RowO.move (fun b' hb1 hb2 hb3 hbl => (hblk b' (by omega) (fun e => hb3 e.symm)).trans (ht.block b' hbl (by omega))) (fun g hg => (hvo g hg).imp id (fun h => by omega)) h.row
  have hv2 : OwV w2 wr.heap.size w1.heap.size t (.agg #[a, b, c, d]) := hv.keep (fun b' hb1 hb2 hbl => hblk b' hbl (fun e => by have := huo b' e.symm; omega))
  have t1 := h1.turn
  refine ⟨⟨hgrow.os.trans t1.os, hgrow.tape.trans t1.tape, hgrow.output.trans t1.output, by omega, fun k hkl hkn => (hk k hkl).trans (t1.block k hkl hkn)⟩, h0.same hr hk, h.rr0, by rw [List.length_append]; exact hown, RowO.hi (by omega) (RowO.snoc hv2 (fun g hg => (hvo g hg).imp (huo g) id) hz2 (Nat.le_refl _) row1)⟩
/-- v is the list l, new behind w, its lists apart. -/
def IsL (w w' : World) (v : Value) (l : List Tm) : Prop := ∃ ao cap, v = .slice ao l.length cap ∧ l.length ≤ cap ∧ cap ≤ maxLen ∧ OwL w' l w.heap.size w'.heap.size ao
theorem GI.list {E : Env} {w wr : World} {l : List Tm} {u : Value} {xs : List Value} {left : Nat} (h : GI E w wr l u xs left) : IsL w wr u l := by
  obtain ⟨hlen, hcase⟩ := id h.own
  rcases hcase with ⟨rfl, h0⟩ | ⟨g, cap, cur, rfl, hb, hg, hn, hc, hsz, htake⟩
  · have : l = [] := List.eq_nil_of_length_eq_zero h0
    subst this
    exact ⟨none, 0, rfl, Nat.le_refl _, Nat.zero_le _, by rw [OwL]; trivial⟩
  · refine ⟨some ⟨g, 0, none⟩, cap, rfl, hn, hc, ?_⟩
    by_cases hl : l = []
    · subst hl; rw [OwL]; trivial
    · have hgl := h.own.lt g rfl
      refine (OwL.iff hl).2 ⟨g, w.heap.size, wr.heap.size, rfl, hgl.1, hgl.2, Nat.le_refl _, Nat.le_refl _, fun o => h.own.frozenAt o, RowO.row (fun j v hj => ?_) h.row⟩
      rw [Nat.zero_add, h.own.cellAt j (by have := (List.getElem?_eq_some_iff.1 hj).1; omega)]
      exact hj
end Go.Proofs.Ytpfknaaepdbobab.Apart
