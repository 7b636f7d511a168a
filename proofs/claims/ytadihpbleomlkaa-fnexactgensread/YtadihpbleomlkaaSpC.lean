/-
  How the specification reads words: terms that are gathered in a variable; a tuple.
-/
import Derived.Test.YtadihpbleomlkaaSpB
import Derived.Deep.RegionLaw
namespace Go.Proofs.Ytadihpbleomlkaa
open Go.RowKit
set_option linter.unusedVariables false

/-- A list that is gathered in the variable tb, while the terms in it are read. -/
structure GS (E : Env) (w wr : World) (tb : Nat) (K : Int) (l : List Tm) (u : Value) (xs : List Value) : Prop where
  turn : Turn E.rb w wr
  old : E.rb < w.heap.size
  up : w.heap.size < tb
  lt : tb < wr.heap.size
  t0 : wr.cell? ⟨tb, 0, none⟩ = some (.int .i64 K)
  t1 : wr.cell? ⟨tb, 1, none⟩ = some (.int .i64 0)
  t2 : wr.cell? ⟨tb, 2, none⟩ = some (.string ⟨#[]⟩)
  t3 : wr.cell? ⟨tb, 3, none⟩ = some u
  tf : ∀ o, wr.frozen? ⟨tb, o, none⟩ = false
  r : ∀ j, j < 4 → ∃ v, wr.cell? ⟨w.heap.size, j, none⟩ = some v
  rf : ∀ o, wr.frozen? ⟨w.heap.size, o, none⟩ = false
  own : wr.ownsRow (tb + 1) 39 4 u l.length xs
  row : Row (fun b => tb + 1 ≤ b ∧ u.ownBlock ≠ some b) wr l xs
theorem GS.call {E : Env} {w wr w1 : World} {tb : Nat} {K : Int} {l : List Tm} {u : Value} {xs : List Value} (h : GS E w wr tb K l u xs) (t : Turn E.rb wr w1) : GS E w w1 tb K l u xs := by
  have hne : tb ≠ E.rb := by have := h.old; have := h.up; omega
  have hnr : w.heap.size ≠ E.rb := by have := h.old; omega
  refine ⟨h.turn.trans t, h.old, h.up, Nat.lt_of_lt_of_le h.lt t.size, t.cell hne h.t0, t.cell hne h.t1, t.cell hne h.t2, t.cell hne h.t3, fun o => ?_, fun j hj => ?_, fun o => ?_, ?_, ?_⟩
  · rw [t.frozen hne h.lt]; exact h.tf o
  · obtain ⟨v, hv⟩ := h.r j hj
    exact ⟨v, t.cell hnr hv⟩
  · rw [t.frozen hnr (Nat.lt_trans h.up h.lt)]; exact h.rf o
  · refine h.own.kept t.grown (Or.inr (fun e => ?_))
    have := (h.own.lt _ e).1
    have := h.old; have := h.up; omega
  · exact ⟨h.row.1, fun i hi => (h.row.2 i hi).move (Moves.turn (fun b hb e => by have := h.old; have := h.up; have := hb.1; omega) t)⟩
/-- One more is read, laid down in a block, appended, and the variable turned. -/
theorem GS.more {E : Env} {w wr w1 w2 : World} {tb : Nat} {K : Int} {l : List Tm} {u : Value} {xs : List Value}
    (h : GS E w wr tb K l u xs) (hd : Turn E.rb wr w1) {t : Tm} {a b c d : Value} (hv : RpV (fun b => wr.heap.size ≤ b) w1 t (.agg #[a, b, c, d])) {o : Obj}
    {g cap' : Nat} (hown : w2.ownsRow (tb + 1) 39 4 (.slice (some ⟨g, 0, none⟩) (l.length + 1) cap') (l.length + 1) (xs ++ [a, b, c, d])) (hgrow : (w1.alloc o).grownBy w2 u.ownBlock) (hat : u.ownBlock = some g ∨ g = w1.heap.size + 1) (hlt : g < w2.heap.size) :
    GS E w (w2.setCell ⟨tb, 3, none⟩ (.slice (some ⟨g, 0, none⟩) (l.length + 1) cap')) tb K (l ++ [t]) (.slice (some ⟨g, 0, none⟩) (l.length + 1) cap') (xs ++ [a, b, c, d]) ∧ (∀ k, k < tb → (w2.setCell ⟨tb, 3, none⟩ (.slice (some ⟨g, 0, none⟩) (l.length + 1) cap')).heap[k]? = w1.heap[k]?) := by
  have h1 := h.call hd
  have hs1 : (w1.alloc o).heap.size = w1.heap.size + 1 := World.size_alloc _ _
  have hun : ∀ k, k < tb + 1 → some k ≠ u.ownBlock := fun k hk e => by have := (h.own.lt k e.symm).1; omega
  have hcell : ∀ p o' v, some p ≠ u.ownBlock → w1.cell? ⟨p, o', none⟩ = some v → w2.cell? ⟨p, o', none⟩ = some v := fun p o' v hp hc => by
    have hpl := World.block_lt_of_cell? w1 _ hc
    rw [hgrow.cell_far ⟨p, o', none⟩ (by rw [hs1]; exact Nat.lt_succ_of_lt hpl) hp, World.cell?_alloc_lt (h := hpl)]; exact hc
  have hfroz : ∀ p o', p < w1.heap.size → some p ≠ u.ownBlock → w2.frozen? ⟨p, o', none⟩ = w1.frozen? ⟨p, o', none⟩ := fun p o' hpl hp => by
    rw [hgrow.frozen_far ⟨p, o', none⟩ (by rw [hs1]; exact Nat.lt_succ_of_lt hpl) hp, World.frozen?_alloc_old (h := by show p ≠ _; omega)]
  have hset : ∀ p o' v, (p ≠ tb ∨ o' ≠ 3) → w2.cell? ⟨p, o', none⟩ = some v → (w2.setCell ⟨tb, 3, none⟩ (.slice (some ⟨g, 0, none⟩) (l.length + 1) cap')).cell? ⟨p, o', none⟩ = some v := fun p o' v hp hc => by
    rw [World.cell?_setCell_other (h := fun e => by simp at e; omega)]; exact hc
  have hgb : tb + 1 ≤ g := (hown.lt g rfl).1
  have hll : (l ++ [t]).length = l.length + 1 := by simp
  have hul : tb < w1.heap.size := h1.lt
  have hwl : w.heap.size < w1.heap.size := Nat.lt_trans h.up hul
  have hk : ∀ k, k < tb → (w2.setCell ⟨tb, 3, none⟩ (.slice (some ⟨g, 0, none⟩) (l.length + 1) cap')).heap[k]? = w1.heap[k]? := fun k hkt => by
    rw [Below.heap_setCell w2 ⟨tb, 3, none⟩ _ k (by show k ≠ tb; omega), hgrow.block k (by rw [hs1]; omega) (hun k (by omega))]
    show (w1.heap.push _)[k]? = _
    rw [Array.getElem?_push, if_neg (by omega)]
  have hsz : (w2.setCell ⟨tb, 3, none⟩ (.slice (some ⟨g, 0, none⟩) (l.length + 1) cap')).heap.size = w2.heap.size := World.size_setCell ..
  have hsz2 : w1.heap.size + 1 ≤ w2.heap.size := by rw [← hs1]; exact hgrow.size
  have htb : some tb ≠ u.ownBlock := hun tb (by omega)
  have hrb : some w.heap.size ≠ u.ownBlock := hun _ (by have := h.up; omega)
  have hup := h.up
  have hold := h.old
  have hmv : Moves (fun b => tb + 1 ≤ b ∧ u.ownBlock ≠ some b) (fun b => tb + 1 ≤ b ∧ (Value.slice (some ⟨g, 0, none⟩) (l.length + 1) cap').ownBlock ≠ some b) w1 (w2.setCell ⟨tb, 3, none⟩ (.slice (some ⟨g, 0, none⟩) (l.length + 1) cap')) := fun p o' v hp hc => by
    have hpl := World.block_lt_of_cell? w1 _ hc
    refine ⟨⟨hp.1, fun e => ?_⟩, hset p o' v (Or.inl (by have := hp.1; omega)) (hcell p o' v (fun e => hp.2 e.symm) hc)⟩
    simp only [Value.ownBlock, Option.some.injEq] at e
    subst e
    rcases hat with hat | hat
    · exact hp.2 hat
    · have : g < w1.heap.size := hpl
      omega
  have hmn : Moves (fun b => wr.heap.size ≤ b) (fun b => tb + 1 ≤ b ∧ (Value.slice (some ⟨g, 0, none⟩) (l.length + 1) cap').ownBlock ≠ some b) w1 (w2.setCell ⟨tb, 3, none⟩ (.slice (some ⟨g, 0, none⟩) (l.length + 1) cap')) := fun p o' v hp hc => by
    have hpl : p < w1.heap.size := World.block_lt_of_cell? w1 _ hc
    have hpo : some p ≠ u.ownBlock := fun e => by have := (h.own.lt p e.symm).2; omega
    refine ⟨⟨by have := h.lt; omega, fun e => ?_⟩, hset p o' v (Or.inl (by have := h.lt; omega)) (hcell p o' v hpo hc)⟩
    simp only [Value.ownBlock, Option.some.injEq] at e
    subst e
    rcases hat with hat | hat
    · exact hpo hat.symm
    · omega
  refine ⟨⟨?_, hold, hup, by rw [hsz]; omega, hset _ _ _ (Or.inr (by omega)) (hcell _ _ _ htb h1.t0), hset _ _ _ (Or.inr (by omega)) (hcell _ _ _ htb h1.t1), hset _ _ _ (Or.inr (by omega)) (hcell _ _ _ htb h1.t2), World.cell?_setCell_same w2 _ _ (hcell _ _ _ htb h1.t3), fun o' => ?_, fun j hj => ?_, fun o' => ?_, ?_, Row.snoc hmv h1.row (hmn.repV hv)⟩, hk⟩
  · have t := h1.turn
    exact ⟨hgrow.os.trans t.os, hgrow.tape.trans t.tape, hgrow.output.trans t.output, by rw [hsz]; omega, fun k hkl hkn => (hk k (by omega)).trans (t.block k hkl hkn)⟩
  · rw [World.frozen?_setCell, hfroz tb o' hul htb]; exact h1.tf o'
  · obtain ⟨v, hv'⟩ := h1.r j hj
    exact ⟨v, hset _ _ _ (Or.inl (by omega)) (hcell _ _ _ hrb hv')⟩
  · rw [World.frozen?_setCell, hfroz _ o' hwl hrb]; exact h1.rf o'
  · rw [hll]; exact ownsRow_setCell_below hown (by show tb < tb + 1; omega) _
theorem GS.grown {E : Env} {w w1 w2 : World} {tb : Nat} {K : Int} {l : List Tm} {u : Value} {xs : List Value} (h : GS E w w1 tb K l u xs) {o : Obj} (hgrow : (w1.alloc o).grownBy w2 u.ownBlock) : w2.cell? ⟨tb, 3, none⟩ = some u ∧ w2.frozen? ⟨tb, 3, none⟩ = false := by
  have hs1 : (w1.alloc o).heap.size = w1.heap.size + 1 := World.size_alloc _ _
  have hl := h.lt
  have hne : some tb ≠ u.ownBlock := fun e => by have := (h.own.lt tb e.symm).1; omega
  rw [hgrow.cell_far ⟨tb, 3, none⟩ (by rw [hs1]; exact Nat.lt_succ_of_lt hl) hne, hgrow.frozen_far ⟨tb, 3, none⟩ (by rw [hs1]; exact Nat.lt_succ_of_lt hl) hne, World.cell?_alloc_lt (h := hl), World.frozen?_alloc_old (h := by show tb ≠ _; omega)]
  exact ⟨h.t3, h.tf 3⟩
theorem GS.form {E : Env} {w wr : World} {tb : Nat} {K : Int} {l : List Tm} {u : Value} {xs : List Value} (h : GS E w wr tb K l u xs) : ∃ ua uc, u = .slice ua l.length uc := by
  rcases h.own.2 with ⟨rfl, h0⟩ | ⟨g, cap, cur, rfl, _⟩
  · exact ⟨none, 0, by rw [h0]⟩
  · exact ⟨_, _, rfl⟩
/-- The variable is new behind w3, the box of what is answered is new behind w. -/
theorem GS.start {E : Env} {w w3 : World} {c : Array Value} (ht : Turn E.rb w w3) (ho : E.rb < w.heap.size) (hz3 : w.heap.size + 1 ≤ w3.heap.size) (hc : c.size = 4)
    (q3 : ∀ o, w3.cell? ⟨w.heap.size, o, none⟩ = c[o]?) (f3 : ∀ o, w3.frozen? ⟨w.heap.size, o, none⟩ = false) (K : Int) :
    GS E w (w3.alloc (.cells #[.int .i64 K, .int .i64 0, .string ⟨#[]⟩, .slice none 0 0] 39)) w3.heap.size K [] (.slice none 0 0) [] := by
  refine ⟨ht.alloc _, ho, hz3, by rw [World.size_alloc]; omega, by rw [World.cell?_alloc_new]; rfl, by rw [World.cell?_alloc_new]; rfl, by rw [World.cell?_alloc_new]; rfl, by rw [World.cell?_alloc_new]; rfl, fun o => World.frozen?_alloc_new w3 _ _ o, fun j hj => ?_, fun o => ?_, ⟨rfl, Or.inl ⟨rfl, rfl⟩⟩, Row.nil _ _⟩
  · rw [World.cell?_alloc_lt (h := by show w.heap.size < _; omega), q3]
    exact ⟨c[j], by rw [Array.getElem?_eq_getElem (by omega)]⟩
  · rw [World.frozen?_alloc_old (h := by show w.heap.size ≠ _; omega)]; exact f3 o
/-- What is gathered is a term. -/
theorem GS.done {E : Env} {w wr : World} {tb : Nat} {K : Int} {l : List Tm} {u : Value} {xs : List Value} (h : GS E w wr tb K l u xs) (a b c d : Value) :
    RpV (fun b => w.heap.size ≤ b) (lay4 wr w.heap.size a b c d) (.mk K 0 ByteArray.empty l) (.agg #[.int .i64 K, .int .i64 0, .string ⟨#[]⟩, u]) ∧ Turn E.rb w (lay4 wr w.heap.size a b c d) ∧ (∀ k, k < w.heap.size → (lay4 wr w.heap.size a b c d).heap[k]? = wr.heap[k]?) := by
  obtain ⟨ao', cap', rfl, hl, hc, hr⟩ := h.row.repL (S' := fun b => tb + 1 ≤ b) (fun b hb => hb.1) h.own (fun g hg => (h.own.lt g hg).1)
  have hup := h.up
  have hk : ∀ k, k < w.heap.size → (lay4 wr w.heap.size a b c d).heap[k]? = wr.heap[k]? := fun k hk => lay4_heap (by omega)
  refine ⟨⟨ao', cap', rfl, Nat.zero_le _, hl, hc, Moves.repL (S := fun b => tb + 1 ≤ b) (fun b' o' v' hb' hv' => ?_) _ _ hr⟩, ⟨h.turn.os, h.turn.tape, h.turn.output, by rw [lay4_size]; exact h.turn.size, fun k hkl hkn => (hk k hkl).trans (h.turn.block k hkl hkn)⟩, hk⟩
  have : tb + 1 ≤ b' := hb'
  exact ⟨by omega, by rw [lay4_cell (by omega)]; exact hv'⟩

/-- What l5Read answers. -/
def ReadC (E : Env) (d : Nat) : Prop := ∀ (w : World) (left : Nat) (x : Int), Sr E left false w → left ≤ 100 → x ≤ 9223372036854775807 →
  Calls Try.prog 81 #[.pointer (some ⟨E.rb, 0, none⟩), .int .i64 x, .int .i64 d] w fun e w' => ∃ t v, e = .returned v ∧ RpV (fun b => w.heap.size ≤ b) w' t v ∧ Turn E.rb w w' ∧
    ((∃ y : Nat, rT false E.H d x left = some (t, y) ∧ Sr E y false w') ∨ (rT false E.H d x left = none ∧ ∃ z : Int, Sr E z true w'))
theorem Sr.drew {E : Env} {left : Int} {bad : Bool} {w : World} (h : Sr E left bad w) : Sr E left bad w.drew := h.same h (fun k _ => rfl)
theorem Turn.undrew {cb : Nat} {w w' : World} (h : Turn cb w.drew w') : Turn cb w w' := ⟨h.os, h.tape, h.output, h.size, h.block⟩
/-- How the reading of a list goes on. -/
def Goes (E : Env) (G : Option (List Tm × Nat)) (nx : Nat → Option (List Tm × Nat)) (l : List Tm) (wr : World) : Prop :=
  (∃ y : Nat, y ≤ 100 ∧ Sr E y false wr ∧ G = pre l (nx y)) ∨ (G = none ∧ ∃ z : Int, Sr E z true wr)
end Go.Proofs.Ytadihpbleomlkaa
