/-
  A new actor, the specification's.
-/
import Derived.Test.YtgccbpjdkeoclaaAnB
import Derived.Test.YtgccbpjdkeoclaaCzA
namespace Go.Proofs.Ytgccbpjdkeoclaa
open Go.RowKit Atom
set_option linter.unusedVariables false

theorem l9Int_any (n : Int) (w : World) : Calls Try.prog 17 #[.int .i64 n] w fun e w' => e = .returned (.agg #[.int .i64 1, .int .i64 n, .string ⟨#[]⟩, .slice none 0 0]) ∧ Below w.heap.size w w' := by
  go_enter Try.func17, Try.ntmps17
  go_wp2
  refine bodyPost_ret (v := .agg #[.int .i64 1, .int .i64 n, .string ⟨#[]⟩, .slice none 0 0]) (by simp [results, Try.results17, go_sem]) rfl ⟨rfl, ?_⟩
  exact (Below.refl _ _).alloc (Nat.le_refl _) _

structure Sn (w wr : World) (A R B : Nat) (pid pc : Int) (l : List Tm) (u : Value) (xs : List Value) : Prop where
  be : Below w.heap.size w wr
  a0 : wr.cell? ⟨A, 0, none⟩ = some (.int .i64 pid)
  a1 : wr.cell? ⟨A, 1, none⟩ = some (.int .i64 pc)
  a2 : wr.cell? ⟨A, 2, none⟩ = some u
  a3 : wr.cell? ⟨A, 3, none⟩ = some (.slice none 0 0)
  a4 : wr.cell? ⟨A, 4, none⟩ = some (.slice none 0 0)
  af : ∀ o, wr.frozen? ⟨A, o, none⟩ = false
  r : ∀ j, j < 5 → ∃ v, wr.cell? ⟨R, j, none⟩ = some v
  rf : ∀ o, wr.frozen? ⟨R, o, none⟩ = false
  own : wr.ownsRow B 32 4 u l.length xs
  row : Row (fun b => B ≤ b ∧ b ≠ A ∧ u.ownBlock ≠ some b) wr l xs
  uA : u.ownBlock ≠ some A
  lR : w.heap.size ≤ R
  lRB : R < B
  lA : B ≤ A
theorem Sn.call {w wr w1 : World} {A R B : Nat} {pid pc : Int} {l : List Tm} {u : Value} {xs : List Value} (h : Sn w wr A R B pid pc l u xs) (hd : Below wr.heap.size wr w1) : Sn w w1 A R B pid pc l u xs := by
  have hg : wr.grownBy w1 none := ⟨hd.os, hd.tape, hd.output, hd.size, fun k hk _ => hd.block k hk⟩
  have cc : ∀ b o v, wr.cell? ⟨b, o, none⟩ = some v → w1.cell? ⟨b, o, none⟩ = some v := fun b o v hv => by rw [hd.cell (p := ⟨b, o, none⟩) (World.block_lt_of_cell? wr _ hv)]; exact hv
  have hAl := World.block_lt_of_cell? wr _ h.a0
  obtain ⟨v0, hv0⟩ := h.r 0 (by omega)
  have hRl := World.block_lt_of_cell? wr _ hv0
  exact ⟨h.be.trans (hd.mono h.be.size), cc _ _ _ h.a0, cc _ _ _ h.a1, cc _ _ _ h.a2, cc _ _ _ h.a3, cc _ _ _ h.a4, fun o => by rw [hd.frozen (p := ⟨A, o, none⟩) hAl]; exact h.af o, fun j hj => by obtain ⟨v, hv⟩ := h.r j hj; exact ⟨v, cc _ _ _ hv⟩, fun o => by rw [hd.frozen (p := ⟨R, o, none⟩) hRl]; exact h.rf o, h.own.kept hg (by by_cases e : u.ownBlock = none; exact Or.inl e; exact Or.inr e), ⟨h.row.1, fun i hi => (h.row.2 i hi).move (Moves.below hd)⟩, h.uA, h.lR, h.lRB, h.lA⟩
theorem Sn.form {w wr : World} {A R B : Nat} {pid pc : Int} {l : List Tm} {u : Value} {xs : List Value} (h : Sn w wr A R B pid pc l u xs) : ∃ a c, u = .slice a l.length c := by
  obtain ⟨_, hh | ⟨g, c, cur, e1, _⟩⟩ := h.own
  · exact ⟨none, 0, by rw [hh.1, hh.2]⟩
  · exact ⟨_, c, e1⟩
theorem Sn.grown {w w1 w2 : World} {A R B : Nat} {pid pc : Int} {l : List Tm} {u : Value} {xs : List Value} (h : Sn w w1 A R B pid pc l u xs) {o : Obj} (hgrow : (w1.alloc o).grownBy w2 u.ownBlock) : w2.cell? ⟨A, 2, none⟩ = some u ∧ w2.frozen? ⟨A, 2, none⟩ = false := by
  have hs1 : (w1.alloc o).heap.size = w1.heap.size + 1 := World.size_alloc _ _
  have hl : A < w1.heap.size := World.block_lt_of_cell? w1 _ h.a0
  have hne : some A ≠ u.ownBlock := fun e => h.uA e.symm
  rw [hgrow.cell_far ⟨A, 2, none⟩ (by rw [hs1]; exact Nat.lt_succ_of_lt hl) hne, hgrow.frozen_far ⟨A, 2, none⟩ (by rw [hs1]; exact Nat.lt_succ_of_lt hl) hne, World.cell?_alloc_lt (h := hl), World.frozen?_alloc_old (h := by show A ≠ _; omega)]
  exact ⟨h.a2, h.af 2⟩
theorem Sn.more {w w1 w2 : World} {A R B : Nat} {pid pc : Int} {l : List Tm} {u : Value} {xs : List Value} (h1 : Sn w w1 A R B pid pc l u xs) {o : Obj}
    {g cap' : Nat} (hown : w2.ownsRow B 32 4 (.slice (some ⟨g, 0, none⟩) (l.length + 1) cap') (l.length + 1) (xs ++ eV)) (hgrow : (w1.alloc o).grownBy w2 u.ownBlock) (hat : u.ownBlock = some g ∨ g = w1.heap.size + 1) :
    Sn w (w2.setCell ⟨A, 2, none⟩ (.slice (some ⟨g, 0, none⟩) (l.length + 1) cap')) A R B pid pc (l ++ [e0T]) (.slice (some ⟨g, 0, none⟩) (l.length + 1) cap') (xs ++ eV) := by
  have hs1 : (w1.alloc o).heap.size = w1.heap.size + 1 := World.size_alloc _ _
  have hcell : ∀ p o' v, some p ≠ u.ownBlock → w1.cell? ⟨p, o', none⟩ = some v → w2.cell? ⟨p, o', none⟩ = some v := fun p o' v hp hc => by
    have hpl := World.block_lt_of_cell? w1 _ hc
    rw [hgrow.cell_far ⟨p, o', none⟩ (by rw [hs1]; exact Nat.lt_succ_of_lt hpl) hp, World.cell?_alloc_lt (h := hpl)]; exact hc
  have hfroz : ∀ p o', p < w1.heap.size → some p ≠ u.ownBlock → w2.frozen? ⟨p, o', none⟩ = w1.frozen? ⟨p, o', none⟩ := fun p o' hpl hp => by
    rw [hgrow.frozen_far ⟨p, o', none⟩ (by rw [hs1]; exact Nat.lt_succ_of_lt hpl) hp, World.frozen?_alloc_old (h := by show p ≠ _; omega)]
  have hset : ∀ p o' v, (p ≠ A ∨ o' ≠ 2) → w2.cell? ⟨p, o', none⟩ = some v → (w2.setCell ⟨A, 2, none⟩ (.slice (some ⟨g, 0, none⟩) (l.length + 1) cap')).cell? ⟨p, o', none⟩ = some v := fun p o' v hp hc => by
    rw [World.cell?_setCell_other (h := fun e => by simp at e; omega)]; exact hc
  have hAl : A < w1.heap.size := World.block_lt_of_cell? w1 _ h1.a0
  obtain ⟨v0, hv0⟩ := h1.r 0 (by omega)
  have hRl : R < w1.heap.size := World.block_lt_of_cell? w1 _ hv0
  have hlow : ∀ k, k < B → some k ≠ u.ownBlock := fun k hk e => by have := (h1.own.lt k e.symm).1; omega
  have hA : some A ≠ u.ownBlock := fun e => h1.uA e.symm
  have hRA : R ≠ A := by have := h1.lRB; have := h1.lA; omega
  have hR := hlow R h1.lRB
  have hgA : (Value.slice (some ⟨g, 0, none⟩) (l.length + 1) cap').ownBlock ≠ some A := fun e => by
    simp only [Value.ownBlock, Option.some.injEq] at e
    rcases hat with hat | hat
    · exact h1.uA (by rw [hat, e])
    · omega
  have hmv : Moves (fun b => B ≤ b ∧ b ≠ A ∧ u.ownBlock ≠ some b) (fun b => B ≤ b ∧ b ≠ A ∧ (Value.slice (some ⟨g, 0, none⟩) (l.length + 1) cap').ownBlock ≠ some b) w1 (w2.setCell ⟨A, 2, none⟩ (.slice (some ⟨g, 0, none⟩) (l.length + 1) cap')) := fun p o' v hp hc => by
    have hpl := World.block_lt_of_cell? w1 _ hc
    refine ⟨⟨hp.1, hp.2.1, fun e => ?_⟩, hset p o' v (Or.inl hp.2.1) (hcell p o' v (fun e => hp.2.2 e.symm) hc)⟩
    simp only [Value.ownBlock, Option.some.injEq] at e
    subst e
    rcases hat with hat | hat
    · exact hp.2.2 hat
    · have : g < w1.heap.size := hpl
      omega
  have hv0 : RpV (fun b => B ≤ b ∧ b ≠ A ∧ (Value.slice (some ⟨g, 0, none⟩) (l.length + 1) cap').ownBlock ≠ some b) (w2.setCell ⟨A, 2, none⟩ (.slice (some ⟨g, 0, none⟩) (l.length + 1) cap')) e0T (.agg #[.int .i64 1, .int .i64 0, .string ⟨#[]⟩, .slice none 0 0]) :=
    ⟨none, 0, rfl, by show 0 ≤ _; omega, Nat.le_refl _, Nat.zero_le _, by rw [RpL]; trivial⟩
  have hwl := h1.be.size
  refine ⟨?_, hset _ _ _ (Or.inr (by omega)) (hcell _ _ _ hA h1.a0), hset _ _ _ (Or.inr (by omega)) (hcell _ _ _ hA h1.a1), World.cell?_setCell_same w2 _ _ (hcell _ _ _ hA h1.a2), hset _ _ _ (Or.inr (by omega)) (hcell _ _ _ hA h1.a3), hset _ _ _ (Or.inr (by omega)) (hcell _ _ _ hA h1.a4), fun o' => ?_, fun j hj => ?_, fun o' => ?_, ?_, Row.snoc hmv h1.row hv0, hgA, h1.lR, h1.lRB, h1.lA⟩
  · have hk : ∀ k, k < w.heap.size → (w2.setCell ⟨A, 2, none⟩ (.slice (some ⟨g, 0, none⟩) (l.length + 1) cap')).heap[k]? = w1.heap[k]? := fun k hk => by
      have h5 := h1.lR
      have h6 := h1.lRB
      have h7 := h1.lA
      rw [Below.heap_setCell w2 ⟨A, 2, none⟩ _ k (by show k ≠ A; omega), hgrow.block k (by rw [hs1]; omega) (hlow k (by omega))]
      show (w1.heap.push _)[k]? = _
      rw [Array.getElem?_push, if_neg (by omega)]
    have hsz := hgrow.size
    rw [hs1] at hsz
    exact ⟨hgrow.os.trans h1.be.os, hgrow.tape.trans h1.be.tape, hgrow.output.trans h1.be.output, by rw [World.size_setCell]; omega, fun k hkl => (hk k hkl).trans (h1.be.block k hkl)⟩
  · rw [World.frozen?_setCell, hfroz A o' hAl hA]; exact h1.af o'
  · obtain ⟨v, hv'⟩ := h1.r j hj
    exact ⟨v, hset _ _ _ (Or.inl hRA) (hcell _ _ _ hR hv')⟩
  · rw [World.frozen?_setCell, hfroz R o' hRl hR]; exact h1.rf o'
  · rw [List.length_append]
    exact ownsRow_set9 hown hgA _
end Go.Proofs.Ytgccbpjdkeoclaa
