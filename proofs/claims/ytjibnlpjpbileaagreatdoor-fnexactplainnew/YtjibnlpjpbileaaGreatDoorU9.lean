/-
  What the specification's new system has in hand.
  (Ahead of it, in this text: A new actor, the specification's. A new actor, the specification's: the walk. How the exact laws over rows of strings measure, copy, compare, mark and hold them. What the laws mark of a term whose lists stand each in a block of its own.)
-/
import Derived.Test.YtjibnlpjpbileaaGreatDoorU6
import Derived.Test.YtjibnlpjpbileaaGreatDoorSgA
import Derived.Deep.RegionWith
import Derived.Laws.IdiomStrings
import Derived.Test.YtjibnlpjpbileaaGreatDoorOsA
import Derived.Test.YtjibnlpjpbileaaGreatDoorU8
namespace Go.Proofs.YtjibnlpjpbileaaGreatDoor
open Go.RowKit Atom
set_option linter.unusedVariables false

theorem l9Int_any (n : Int) (w : World) : Calls Tryz.prog 62 #[.int .i64 n] w fun e w' => e = .returned (.agg #[.int .i64 1, .int .i64 n, .string ⟨#[]⟩, .slice none 0 0]) ∧ Below w.heap.size w w' := by
  go_enter Tryz.func62, Tryz.ntmps62
  go_wp2
  refine bodyPost_ret (v := .agg #[.int .i64 1, .int .i64 n, .string ⟨#[]⟩, .slice none 0 0]) (by simp [results, Tryz.results62, go_sem]) rfl ⟨rfl, ?_⟩
  exact (Below.refl _ _).alloc (Nat.le_refl _) _

structure Sn (w wr : World) (A R B : Nat) (pid pc : Int) (l : List Tm) (u : Value) (xs : List Value) : Prop where
  be : Below w.heap.size w wr
  a0 : wr.cell? ⟨A, 0, none⟩ = some (.int .i64 pid)
  a1 : wr.cell? ⟨A, 1, none⟩ = some (.int .i64 pc)
  a2 : wr.cell? ⟨A, 2, none⟩ = some u
  a3 : wr.cell? ⟨A, 3, none⟩ = some (.slice none 0 0)
  a4 : wr.cell? ⟨A, 4, none⟩ = some (.slice none 0 0)
  af : ∀ o, wr.frozen? ⟨A, o, none⟩ = false
  r : ∀ j, j < 5 → ∃ v, wr.cell? ⟨R, j, none⟩ = some v
  rf : ∀ o, wr.frozen? ⟨R, o, none⟩ = false
  own : wr.ownsRow B 38 4 u l.length xs
  row : Row (fun b => B ≤ b ∧ b ≠ A ∧ u.ownBlock ≠ some b) wr l xs
  uA : u.ownBlock ≠ some A
  lR : w.heap.size ≤ R
  lRB : R < B
  lA : B ≤ A
theorem Sn.call {w wr w1 : World} {A R B : Nat} {pid pc : Int} {l : List Tm} {u : Value} {xs : List Value} (h : Sn w wr A R B pid pc l u xs) (hd : Below wr.heap.size wr w1) : Sn w w1 A R B pid pc l u xs := by
  have hg : wr.grownBy w1 none := ⟨hd.os, hd.tape, hd.output, hd.size, fun k hk _ => hd.block k hk⟩
  have cc : ∀ b o v, wr.cell? ⟨b, o, none⟩ = some v → w1.cell? ⟨b, o, none⟩ = some v := fun b o v hv => by rw [hd.cell (p := ⟨b, o, none⟩) (World.block_lt_of_cell? wr _ hv)]; exact hv
  have hAl := World.block_lt_of_cell? wr _ h.a0
  obtain ⟨v0, hv0⟩ := h.r 0 (by omega)
  have hRl := World.block_lt_of_cell? wr _ hv0
  exact ⟨h.be.trans (hd.mono h.be.size), cc _ _ _ h.a0, cc _ _ _ h.a1, cc _ _ _ h.a2, cc _ _ _ h.a3, cc _ _ _ h.a4, fun o => by rw [hd.frozen (p := ⟨A, o, none⟩) hAl]; exact h.af o, fun j hj => by obtain ⟨v, hv⟩ := h.r j hj; exact ⟨v, cc _ _ _ hv⟩, fun o => by rw [hd.frozen (p := ⟨R, o, none⟩) hRl]; exact h.rf o, h.own.kept hg (by by_cases e : u.ownBlock = none; exact Or.inl e; exact Or.inr e), ⟨h.row.1, fun i hi => (h.row.2 i hi).move (Moves.below hd)⟩, h.uA, h.lR, h.lRB, h.lA⟩
theorem Sn.form {w wr : World} {A R B : Nat} {pid pc : Int} {l : List Tm} {u : Value} {xs : List Value} (h : Sn w wr A R B pid pc l u xs) : ∃ a c, u = .slice a l.length c := by
  obtain ⟨_, hh | ⟨g, c, cur, e1, _⟩⟩ := h.own
  · exact ⟨none, 0, by rw [hh.1, hh.2]⟩
  · exact ⟨_, c, e1⟩
theorem Sn.grown {w w1 w2 : World} {A R B : Nat} {pid pc : Int} {l : List Tm} {u : Value} {xs : List Value} (h : Sn w w1 A R B pid pc l u xs) {o : Obj} (hgrow : (w1.alloc o).grownBy w2 u.ownBlock) : w2.cell? ⟨A, 2, none⟩ = some u ∧ w2.frozen? ⟨A, 2, none⟩ = false := by
  have hs1 : (w1.alloc o).heap.size = w1.heap.size + 1 := World.size_alloc _ _
  have hl : A < w1.heap.size := World.block_lt_of_cell? w1 _ h.a0
  have hne : some A ≠ u.ownBlock := fun e => h.uA e.symm
  rw [hgrow.cell_far ⟨A, 2, none⟩ (by rw [hs1]; exact Nat.lt_succ_of_lt hl) hne, hgrow.frozen_far ⟨A, 2, none⟩ (by rw [hs1]; exact Nat.lt_succ_of_lt hl) hne, World.cell?_alloc_lt (h := hl), World.frozen?_alloc_old (h := by show A ≠ _; omega)]
  exact ⟨h.a2, h.af 2⟩
theorem Sn.more {w w1 w2 : World} {A R B : Nat} {pid pc : Int} {l : List Tm} {u : Value} {xs : List Value} (h1 : Sn w w1 A R B pid pc l u xs) {o : Obj}
    {g cap' : Nat} (hown : w2.ownsRow B 38 4 (.slice (some ⟨g, 0, none⟩) (l.length + 1) cap') (l.length + 1) (xs ++ eV)) (hgrow : (w1.alloc o).grownBy w2 u.ownBlock) (hat : u.ownBlock = some g ∨ g = w1.heap.size + 1) :
    Sn w (w2.setCell ⟨A, 2, none⟩ (.slice (some ⟨g, 0, none⟩) (l.length + 1) cap')) A R B pid pc (l ++ [e0T]) (.slice (some ⟨g, 0, none⟩) (l.length + 1) cap') (xs ++ eV) := by
  have hs1 : (w1.alloc o).heap.size = w1.heap.size + 1 := World.size_alloc _ _
  have hcell : ∀ p o' v, some p ≠ u.ownBlock → w1.cell? ⟨p, o', none⟩ = some v → w2.cell? ⟨p, o', none⟩ = some v := fun p o' v hp hc => by
    have hpl := World.block_lt_of_cell? w1 _ hc
    rw [hgrow.cell_far ⟨p, o', none⟩ (by rw [hs1]; exact Nat.lt_succ_of_lt hpl) hp, World.cell?_alloc_lt (h := hpl)]; exact hc
  have hfroz : ∀ p o', p < w1.heap.size → some p ≠ u.ownBlock → w2.frozen? ⟨p, o', none⟩ = w1.frozen? ⟨p, o', none⟩ := fun p o' hpl hp => by
    rw [hgrow.frozen_far ⟨p, o', none⟩ (by rw [hs1]; exact Nat.lt_succ_of_lt hpl) hp, World.frozen?_alloc_old (h := by show p ≠ _; omega)]
  have hset : ∀ p o' v, (p ≠ A ∨ o' ≠ 2) → w2.cell? ⟨p, o', none⟩ = some v → (w2.setCell ⟨A, 2, none⟩ (.slice (some ⟨g, 0, none⟩) (l.length + 1) cap')).cell? ⟨p, o', none⟩ = some v := fun p o' v hp hc => by
    rw [World.cell?_setCell_other (h := fun e => by simp at e; omega)]; exact hc
  have hAl : A < w1.heap.size := World.block_lt_of_cell? w1 _ h1.a0
  obtain ⟨v0, hv0⟩ := h1.r 0 (by omega)
  have hRl : R < w1.heap.size := World.block_lt_of_cell? w1 _ hv0
  have hlow : ∀ k, k < B → some k ≠ u.ownBlock := fun k hk e => by have := (h1.own.lt k e.symm).1; omega
  have hA : some A ≠ u.ownBlock := fun e => h1.uA e.symm
  have hRA : R ≠ A := by have := h1.lRB; have := h1.lA; omega
  have hR := hlow R h1.lRB
  have hgA : (Value.slice (some ⟨g, 0, none⟩) (l.length + 1) cap').ownBlock ≠ some A := fun e => by
    simp only [Value.ownBlock, Option.some.injEq] at e
    rcases hat with hat | hat
    · exact h1.uA (by rw [hat, e])
    · omega
  have hmv : Moves (fun b => B ≤ b ∧ b ≠ A ∧ u.ownBlock ≠ some b) (fun b => B ≤ b ∧ b ≠ A ∧ (Value.slice (some ⟨g, 0, none⟩) (l.length + 1) cap').ownBlock ≠ some b) w1 (w2.setCell ⟨A, 2, none⟩ (.slice (some ⟨g, 0, none⟩) (l.length + 1) cap')) := fun p o' v hp hc => by
    have hpl := World.block_lt_of_cell? w1 _ hc
    refine ⟨⟨hp.1, hp.2.1, fun e => ?_⟩, hset p o' v (Or.inl hp.2.1) (hcell p o' v (fun e => hp.2.2 e.symm) hc)⟩
    simp only [Value.ownBlock, Option.some.injEq] at e
    subst e
    rcases hat with hat | hat
    · exact hp.2.2 hat
    · have : g < w1.heap.size := hpl
      omega
  have hv0 : RpV (fun b => B ≤ b ∧ b ≠ A ∧ (Value.slice (some ⟨g, 0, none⟩) (l.length + 1) cap').ownBlock ≠ some b) (w2.setCell ⟨A, 2, none⟩ (.slice (some ⟨g, 0, none⟩) (l.length + 1) cap')) e0T (.agg #[.int .i64 1, .int .i64 0, .string ⟨#[]⟩, .slice none 0 0]) :=
    ⟨none, 0, rfl, by show 0 ≤ _; omega, Nat.le_refl _, Nat.zero_le _, by rw [RpL]; trivial⟩
  have hwl := h1.be.size
  refine ⟨?_, hset _ _ _ (Or.inr (by omega)) (hcell _ _ _ hA h1.a0), hset _ _ _ (Or.inr (by omega)) (hcell _ _ _ hA h1.a1), World.cell?_setCell_same w2 _ _ (hcell _ _ _ hA h1.a2), hset _ _ _ (Or.inr (by omega)) (hcell _ _ _ hA h1.a3), hset _ _ _ (Or.inr (by omega)) (hcell _ _ _ hA h1.a4), fun o' => ?_, fun j hj => ?_, fun o' => ?_, ?_, Row.snoc hmv h1.row hv0, hgA, h1.lR, h1.lRB, h1.lA⟩
  · have hk : ∀ k, k < w.heap.size → (w2.setCell ⟨A, 2, none⟩ (.slice (some ⟨g, 0, none⟩) (l.length + 1) cap')).heap[k]? = w1.heap[k]? := fun k hk => by
      have h5 := h1.lR
      have h6 := h1.lRB
      have h7 := h1.lA
      rw [Below.heap_setCell w2 ⟨A, 2, none⟩ _ k (by show k ≠ A; omega), hgrow.block k (by rw [hs1]; omega) (hlow k (by omega))]
      show (w1.heap.push _)[k]? = _
      rw [Array.getElem?_push, if_neg (by omega)]
    have hsz := hgrow.size
    rw [hs1] at hsz
    exact ⟨hgrow.os.trans h1.be.os, hgrow.tape.trans h1.be.tape, hgrow.output.trans h1.be.output, by rw [World.size_setCell]; omega, fun k hkl => (hk k hkl).trans (h1.be.block k hkl)⟩
  · rw [World.frozen?_setCell, hfroz A o' hAl hA]; exact h1.af o'
  · obtain ⟨v, hv'⟩ := h1.r j hj
    exact ⟨v, hset _ _ _ (Or.inl hRA) (hcell _ _ _ hR hv')⟩
  · rw [World.frozen?_setCell, hfroz R o' hRl hR]; exact h1.rf o'
  · rw [List.length_append]
    exact ownsRow_set9 hown hgA _
end Go.Proofs.YtjibnlpjpbileaaGreatDoor
namespace Go.Proofs.YtjibnlpjpbileaaGreatDoor
open Go.RowKit Atom
set_option linter.unusedVariables false

theorem Sn.start {w w2 : World} {t : Tm} {pid pc : Int} {a b c d : Value} (hb : Below w.heap.size w w2) (hz : w.heap.size + 2 ≤ w2.heap.size) (hr : ∀ j, j < 5 → ∃ v, w2.cell? ⟨w.heap.size + 1, j, none⟩ = some v) (hrf : ∀ o, w2.frozen? ⟨w.heap.size + 1, o, none⟩ = false) (hv : RpV (fun x => w.heap.size + 2 ≤ x) w2 t (.agg #[a, b, c, d])) :
    Sn w ((w2.alloc (.cells #[a, b, c, d] 38)).alloc (.cells #[.int .i64 pid, .int .i64 pc, .slice (some ⟨w2.heap.size, 0, none⟩) 1 1, .slice none 0 0, .slice none 0 0] 61)) (w2.heap.size + 1) (w.heap.size + 1) (w.heap.size + 2) pid pc [t] (.slice (some ⟨w2.heap.size, 0, none⟩) 1 1) [a, b, c, d] := by
  obtain ⟨X, hX⟩ : ∃ X, X = (w2.alloc (.cells #[a, b, c, d] 38)).alloc (.cells #[.int .i64 pid, .int .i64 pc, .slice (some ⟨w2.heap.size, 0, none⟩) 1 1, .slice none 0 0, .slice none 0 0] 61) := ⟨_, rfl⟩
  rw [← hX]
  have e1 : (w2.alloc (.cells #[a, b, c, d] 38)).heap.size = w2.heap.size + 1 := by simp
  have hbX : Below w2.heap.size w2 X := by rw [hX]; exact ((Below.refl _ _).alloc (Nat.le_refl _) _).alloc (by simp) _
  have qA : ∀ o, X.cell? ⟨w2.heap.size + 1, o, none⟩ = (#[.int .i64 pid, .int .i64 pc, .slice (some ⟨w2.heap.size, 0, none⟩) 1 1, .slice none 0 0, .slice none 0 0] : Array Value)[o]? := fun o => by
    rw [hX, ← e1, World.cell?_alloc_new]
  have hg : X.heap[w2.heap.size]? = some (.cells #[a, b, c, d] 38 (0, 0)) := by
    rw [hX]
    show ((w2.heap.push _).push _)[w2.heap.size]? = _
    rw [Array.getElem?_push, if_neg (by simp), Array.getElem?_push, if_pos rfl]
  refine ⟨hb.trans (hbX.mono hb.size), qA 0, qA 1, qA 2, qA 3, qA 4, fun o => ?_, fun j hj => ?_, fun o => ?_, ⟨rfl, Or.inr ⟨w2.heap.size, 1, #[a, b, c, d], rfl, hz, hg, Nat.le_refl _, by unfold maxLen; omega, rfl, rfl⟩⟩, ?_, fun e => by simp only [Value.ownBlock, Option.some.injEq] at e; omega, by omega, by omega, by omega⟩
  · rw [hX, ← e1, World.frozen?_alloc_new]
  · obtain ⟨v, hv'⟩ := hr j hj
    exact ⟨v, keepA hbX hv'⟩
  · rw [hbX.frozen (p := ⟨w.heap.size + 1, o, none⟩) (by show w.heap.size + 1 < _; omega)]; exact hrf o
  · refine Row.snoc (S := fun b => False) (w := X) (l := []) (xs := []) (fun b o v hb _ => hb.elim) (Row.nil _ _) (Moves.repV (S := fun x => w.heap.size + 2 ≤ x) (w := w2) (fun p o v hp hc => ?_) hv)
    have hpl : p < w2.heap.size := World.block_lt_of_cell? w2 _ hc
    exact ⟨⟨hp, by omega, fun e => by simp only [Value.ownBlock, Option.some.injEq] at e; omega⟩, keepA hbX hc⟩
theorem Sn.done {w wr : World} {A R B : Nat} {pid pc : Int} {l : List Tm} {u : Value} {xs : List Value} (h : Sn w wr A R B pid pc l u xs) (r0 r1 r2 r3 r4 : Value) :
    (∃ ao cap, u = .slice ao l.length cap ∧ l.length ≤ cap ∧ cap ≤ maxLen ∧ RpL (fun b => w.heap.size ≤ b) (set5 wr R r0 r1 r2 r3 r4) l ao) ∧ Below w.heap.size w (set5 wr R r0 r1 r2 r3 r4) := by
  have h5 := h.lR
  have h6 := h.lRB
  obtain ⟨ao', cap', rfl, hl, hc, hr⟩ := h.row.repL (S' := fun b => B ≤ b) (fun b hb => hb.1) h.own (fun g hg => (h.own.lt g hg).1)
  refine ⟨⟨ao', cap', rfl, hl, hc, ?_⟩, ((((h.be.setCell h5 _).setCell h5 _).setCell h5 _).setCell h5 _).setCell h5 _⟩
  refine Moves.repL (S := fun b => B ≤ b) (fun b o v hb hv => ⟨by have hb' : B ≤ b := hb; omega, ?_⟩) _ _ hr
  have hb' : B ≤ b := hb
  have hbR : b ≠ R := by omega
  rw [World.cell?_of_block (w := wr) (a := ⟨b, o, none⟩) (set5_blk hbR)]; exact hv

set_option maxHeartbeats 2000000 in
set_option maxRecDepth 100000 in
theorem specNew_any9 (pid pc : Int) (t : Tm) (v : Value) (w : World) (h : RepV 0 w t v) (hst : StS t) :
    Calls Tryz.prog 27 #[.int .i64 pid, .int .i64 pc, v] w fun e w' => ∃ ra rc, e = .returned (.agg #[.int .i64 (nwI pid pc t pid), .int .i64 (nwI pid pc t pc), .slice ra (nwR pid pc t).length rc, .slice none 0 0, .slice none 0 0]) ∧ (nwR pid pc t).length ≤ rc ∧ rc ≤ maxLen ∧ RpL (fun b => w.heap.size ≤ b) w' (nwR pid pc t) ra ∧ Below w.heap.size w w' := by
  obtain ⟨va, vb, vc, vd, ve, vf, rfl⟩ := h.form
  obtain ⟨W, hW⟩ : ∃ W, W = (w.alloc (.cells #[.int .i64 va, .int .i64 vb, .string vc, .slice vd ve vf] 38)).alloc (.cells #[.int .i64 0, .int .i64 0, .slice none 0 0, .slice none 0 0, .slice none 0 0] 61) := ⟨_, rfl⟩
  have hbW : Below w.heap.size w W := by rw [hW]; exact ((Below.refl _ _).alloc (Nat.le_refl _) _).alloc (by simp) _
  have hzW : W.heap.size = w.heap.size + 2 := by rw [hW]; simp
  have qa : ∀ o, W.cell? ⟨w.heap.size, o, none⟩ = (#[.int .i64 va, .int .i64 vb, .string vc, .slice vd ve vf] : Array Value)[o]? := fun o => by
    rw [hW, World.cell?_alloc_lt (h := by simp), World.cell?_alloc_new]
  have qr : ∀ o, W.cell? ⟨w.heap.size + 1, o, none⟩ = (#[.int .i64 0, .int .i64 0, .slice none 0 0, .slice none 0 0, .slice none 0 0] : Array Value)[o]? := fun o => by
    have e1 : (w.alloc (.cells #[.int .i64 va, .int .i64 vb, .string vc, .slice vd ve vf] 38)).heap.size = w.heap.size + 1 := by simp
    rw [hW, ← e1, World.cell?_alloc_new]
  have fr : ∀ o, W.frozen? ⟨w.heap.size + 1, o, none⟩ = false := fun o => by
    have e1 : (w.alloc (.cells #[.int .i64 va, .int .i64 vb, .string vc, .slice vd ve vf] 38)).heap.size = w.heap.size + 1 := by simp
    rw [hW, ← e1, World.frozen?_alloc_new]
  have HR : Hid (RepV 0 w t (.agg #[.int .i64 va, .int .i64 vb, .string vc, .slice vd ve vf])) := h
  have HST : Hid (StS t) := hst
  have HBW : Hid (Below w.heap.size w W) := hbW
  have HQ : Hid (∀ w1, Below W.heap.size W w1 → (∀ o, w1.cell? ⟨w.heap.size, o, none⟩ = (#[.int .i64 va, .int .i64 vb, .string vc, .slice vd ve vf] : Array Value)[o]?) ∧ (∀ o, w1.cell? ⟨w.heap.size + 1, o, none⟩ = (#[.int .i64 0, .int .i64 0, .slice none 0 0, .slice none 0 0, .slice none 0 0] : Array Value)[o]?) ∧ (∀ o, w1.frozen? ⟨w.heap.size + 1, o, none⟩ = false)) := fun w1 hb =>
    ⟨fun o => by rw [hb.cell (p := ⟨w.heap.size, o, none⟩) (by show w.heap.size < _; omega)]; exact qa o, fun o => by rw [hb.cell (p := ⟨w.heap.size + 1, o, none⟩) (by show w.heap.size + 1 < _; omega)]; exact qr o, fun o => by rw [hb.frozen (p := ⟨w.heap.size + 1, o, none⟩) (by show w.heap.size + 1 < _; omega)]; exact fr o⟩
  have HOK : Hid (∀ w1, Below W.heap.size W w1 → Calls Tryz.prog 51 #[.agg #[.int .i64 va, .int .i64 vb, .string vc, .slice vd ve vf]] w1 fun e w2 => e = .returned (.bool (okT t)) ∧ Below W.heap.size W w2) := fun w1 hb =>
    (specOk_any t 0 w1 _ ((Keeps.below (hbW.trans (hb.mono hbW.size)) 0).repV h)).mono fun e w2 ⟨h1, h2⟩ => ⟨h1, hb.trans (h2.mono hb.size)⟩
  have HCP : Hid (∀ w1, Below W.heap.size W w1 → Calls Tryz.prog 61 #[.agg #[.int .i64 va, .int .i64 vb, .string vc, .slice vd ve vf]] w1 fun e w2 => ∃ v', e = .returned v' ∧ RpV (fun b => w1.heap.size ≤ b) w2 t v' ∧ Below w1.heap.size w1 w2) := fun w1 hb =>
    czT_all t w1 _ ((Keeps.below (hbW.trans (hb.mono hbW.size)) 0).repV h) hst
  have HZW : Hid (W.heap.size = w.heap.size + 2) := hzW
  clear h hst hbW hzW qa qr fr
  have HFIN : Hid (∀ w1 a b c, Below W.heap.size W w1 → Below w.heap.size w (((((w1.setCell ⟨w.heap.size + 1, 0, none⟩ a).setCell ⟨w.heap.size + 1, 1, none⟩ b).setCell ⟨w.heap.size + 1, 2, none⟩ c).setCell ⟨w.heap.size + 1, 3, none⟩ (.slice none 0 0)).setCell ⟨w.heap.size + 1, 4, none⟩ (.slice none 0 0))) := fun w1 a b c hb =>
    (((((HBW.out.trans (hb.mono HBW.out.size)).setCell (by show w.heap.size ≤ w.heap.size + 1; omega) _).setCell (by show w.heap.size ≤ w.heap.size + 1; omega) _).setCell (by show w.heap.size ≤ w.heap.size + 1; omega) _).setCell (by show w.heap.size ≤ w.heap.size + 1; omega) _).setCell (by show w.heap.size ≤ w.heap.size + 1; omega) _
  go_enter Tryz.func27, Tryz.ntmps27
  go_wp2_with (go_at_call 60; fail)
  rw [← hW]
  clear hW
  refine (Atom.in_any _ _ _ _).mono ?_
  rintro e w' ⟨rfl, hw'⟩
  obtain rfl := hw'.symm
  obtain ⟨qa, qr, fr⟩ := HQ.out W (Below.refl _ _)
  have hpq : Atom.inB pid 1 99999 = pidB pid := rfl
  rw [hpq]
  clear hpq
  cases hp : pidB pid
  · have hno : nwB pid pc t = false := by unfold nwB; rw [hp]; rfl
    obtain ⟨n1, n2⟩ := nw_no hno
    go_wp2_with fail
    refine bodyPost_ret (v := .agg #[.int .i64 0, .int .i64 0, .slice none 0 0, .slice none 0 0, .slice none 0 0]) (by simp [results, Tryz.results27, go_sem, qr]) rfl ?_
    rw [n1, n2, n2]
    exact ⟨none, 0, rfl, Nat.le_refl _, Nat.zero_le _, by rw [RpL]; trivial, HFIN.out W _ _ _ (Below.refl _ _)⟩
  · by_cases hpc : pc < 0
    · have hno : nwB pid pc t = false := by unfold nwB; rw [decide_eq_false (by omega)]; simp
      obtain ⟨n1, n2⟩ := nw_no hno
      go_wp2_with fail
      refine bodyPost_ret (v := .agg #[.int .i64 0, .int .i64 0, .slice none 0 0, .slice none 0 0, .slice none 0 0]) (by simp [results, Tryz.results27, go_sem, qr]) rfl ?_
      rw [n1, n2, n2]
      exact ⟨none, 0, rfl, Nat.le_refl _, Nat.zero_le _, by rw [RpL]; trivial, HFIN.out W _ _ _ (Below.refl _ _)⟩
    · go_wp2_with (go_at_call 51; fail)
      refine (HOK.out W (Below.refl _ _)).mono ?_
      rintro e w1 ⟨he, hb1⟩
      have HB1 : Hid (Below W.heap.size W w1) := hb1
      clear qa qr fr
      obtain ⟨qa, qr, fr⟩ := HQ.out w1 hb1
      clear hb1
      cases hok : okT t
      · rw [hok] at he
        subst he
        have hno : nwB pid pc t = false := by unfold nwB; rw [hok]; simp
        obtain ⟨n1, n2⟩ := nw_no hno
        go_wp2_with fail
        refine bodyPost_ret (v := .agg #[.int .i64 0, .int .i64 0, .slice none 0 0, .slice none 0 0, .slice none 0 0]) (by simp [results, Tryz.results27, go_sem, qr]) rfl ?_
        rw [n1, n2, n2]
        exact ⟨none, 0, rfl, Nat.le_refl _, Nat.zero_le _, by rw [RpL]; trivial, HFIN.out w1 _ _ _ HB1.out⟩
      · rw [hok] at he
        subst he
        have hyes : nwB pid pc t = true := by unfold nwB; rw [hp, hok, decide_eq_true (by omega)]; rfl
        obtain ⟨n1, n2⟩ := nw_yes hyes
        have HN1 : Hid (nwR pid pc t = t :: seven ∧ ∀ x, nwI pid pc t x = x) := ⟨n1, n2⟩
        clear hok hyes n1 n2
        go_wp2_with (go_at_call 61; fail)
        refine (HCP.out w1 HB1.out).mono ?_
        rintro e w2 ⟨v', rfl, hv2, hb2⟩
        obtain ⟨a2, b2, c2, d2, e2, f2, rfl⟩ := hv2.form
        have HB2 : Hid (Below W.heap.size W w2) := HB1.out.trans (hb2.mono HB1.out.size)
        clear qa qr fr
        obtain ⟨qa, qr, fr⟩ := HQ.out w2 HB2.out
        have hz := HZW.out
        have hz2 := HB2.out.size
        have hst0 := Sn.start (pid := pid) (pc := pc) (HBW.out.trans (HB2.out.mono HBW.out.size)) (by omega) (fun j hj => by
          rw [qr]
          match j, hj with
          | 0, _ => exact ⟨_, rfl⟩
          | 1, _ => exact ⟨_, rfl⟩
          | 2, _ => exact ⟨_, rfl⟩
          | 3, _ => exact ⟨_, rfl⟩
          | 4, _ => exact ⟨_, rfl⟩) fr ((Moves.sub (fun b hb => by have := HB1.out.size; omega)).repV hv2)
        have HS0 : Hid (Sn w ((w2.alloc (.cells #[.int .i64 a2, .int .i64 b2, .string c2, .slice d2 e2 f2] 38)).alloc (.cells #[.int .i64 pid, .int .i64 pc, .slice (some ⟨w2.heap.size, 0, none⟩) 1 1, .slice none 0 0, .slice none 0 0] 61)) (w2.heap.size + 1) (w.heap.size + 1) (w.heap.size + 2) pid pc [t] (.slice (some ⟨w2.heap.size, 0, none⟩) 1 1) [.int .i64 a2, .int .i64 b2, .string c2, .slice d2 e2 f2]) := hst0
        clear hst0 hv2 hb2 qa qr fr hz hz2
        obtain ⟨i0, hi, hzz0, hzz1, hzz2⟩ := infoParts9 info26
        go_wp2_with fail
        go_loopw [8] (fun v wr => ∃ (k : Nat) (u : Value) (xs : List Value), k ≤ 7 ∧ v = .int .i64 ((k + 1 : Nat) : Int) ∧ Sn w wr (w2.heap.size + 1) (w.heap.size + 1) (w.heap.size + 2) pid pc (t :: List.replicate k e0T) u xs) (fun v _ => 8 - (intOf v).toNat)
        case atStart => exact ⟨0, _, _, by omega, rfl, HS0.out⟩
        case round =>
          obtain ⟨k, u, xs, hk, rfl, hg⟩ := hrel
          obtain ⟨ua, uc, rfl⟩ := hg.form
          have hlen : (t :: List.replicate k e0T).length = k + 1 := by simp
          rw [hlen] at hg
          have HG : Hid (Sn w wr (w2.heap.size + 1) (w.heap.size + 1) (w.heap.size + 2) pid pc (t :: List.replicate k e0T) (.slice ua (k + 1) uc) xs) := hg
          have a0 := hg.a0
          have a1 := hg.a1
          have a2' := hg.a2
          have a3 := hg.a3
          have a4 := hg.a4
          have af := hg.af
          have hrf := hg.rf
          obtain ⟨r0, hr0⟩ := hg.r 0 (by decide)
          obtain ⟨r1, hr1⟩ := hg.r 1 (by decide)
          obtain ⟨r2, hr2⟩ := hg.r 2 (by decide)
          obtain ⟨r3, hr3⟩ := hg.r 3 (by decide)
          obtain ⟨r4, hr4⟩ := hg.r 4 (by decide)
          have hzr : w.heap.size + 2 ≤ wr.heap.size := by
            have h1 : w2.heap.size + 1 < wr.heap.size := World.block_lt_of_cell? wr _ a0
            have h2 := HB2.out.size
            have h3 := HZW.out
            omega
          have V1 : IntKind.i64.wrap (((k + 1 : Nat) : Int) + 1) = ((k + 1 + 1 : Nat) : Int) := by rw [IntKind.wrap_i64]; omega
          clear hg
          by_cases hlt : k < 7
          · have hlt8 : ((k + 1 : Nat) : Int) < 8 := by omega
            go_wp2_with fail
            go_region_law (first
              | (refine step_append_lies _ rfl (.tmp 33) (.tmp 35) 36 rfl (w.heap.size + 2) 38 i0 (.agg #[.int .i64 0, .int .i64 0, .string ⟨#[]⟩, .slice none 0 0]) 4 56 underlying24 hi hzz0 hzz1 hzz2 rfl (by decide) (.slice ua (k + 1) uc) (k + 1) xs (by simp [Act.eval]) (HO1.out.alloc _) ⟨w5.heap.size, 0, none⟩ 1 1 [.int .i64 1, .int .i64 0, .string ⟨#[]⟩, .slice none 0 0] (by simp [Act.eval]) rfl four_news (by intro u' hu'; simp at hu'; rcases hu' with rfl | rfl | rfl | rfl <;> rfl) (by decide) (by unfold maxLen; omega) (by omega) (by simp; omega) _ rfl ?_; intro g cap5 w6 hown6 hgrow6 hat6 hlt6; obtain ⟨t36, tf6⟩ := HG1.out.grown hgrow6)
              | (go_simp; go_wp2_with (go_at_call 62; refine (l9Int_any 0 _).mono ?_; rintro e w5 ⟨rfl, hd5⟩; have hd5' : Below wr.heap.size wr w5 := bundrewZ hd5; have HG1 : Hid (Sn w w5 (w2.heap.size + 1) (w.heap.size + 1) (w.heap.size + 2) pid pc (t :: List.replicate k e0T) (.slice ua (k + 1) uc) xs) := HG.out.call hd5'; have HO1 : Hid (w5.ownsRow (w.heap.size + 2) 38 4 (.slice ua (k + 1) uc) (k + 1) xs) := own_lenZ HG1.out.own hlen; have hz5 : wr.heap.size ≤ w5.heap.size := hd5'.size; have t35 := HG1.out.a2; have t35a : ∀ o, (w5.alloc o).cell? ⟨w2.heap.size + 1, 2, none⟩ = some (.slice ua (k + 1) uc) := (fun o => (HG1.out.call ((Below.refl _ _).alloc (Nat.le_refl _) o)).a2); have tf5 := HG1.out.af)))
            all_goals
              have HG2 := HG1.out.more (g := g) (cap' := cap5) (by rw [hlen]; exact hown6) hgrow6 (by rw [World.size_alloc] at hat6; exact hat6)
              have hcat : (t :: List.replicate k e0T) ++ [e0T] = t :: List.replicate (k + 1) e0T := by rw [List.cons_append, ← List.replicate_succ']
              rw [hlen, hcat] at HG2
              clear t36 tf6 hown6 hgrow6 hat6 hlt6 hd5 hd5' HG1 HO1 t35 t35a tf5 hlen hcat
              have HG3 : Hid (Sn w _ (w2.heap.size + 1) (w.heap.size + 1) (w.heap.size + 2) pid pc _ _ _) := HG2
              go_wp2_with fail
              go_roundw
              case rel => exact ⟨k + 1, _, _, by omega, by go_num, HG3.out⟩
              case measure => simp [intOf]; omega
          · have hk7 : k = 7 := by omega
            subst hk7
            clear hlt V1
            go_wp2_with fail
            have hd := HG.out.done (.int .i64 pid) (.int .i64 pc) (.slice ua (7 + 1) uc) (.slice none 0 0) (.slice none 0 0)
            refine bodyPost_ret (v := .agg #[.int .i64 pid, .int .i64 pc, .slice ua (7 + 1) uc, .slice none 0 0, .slice none 0 0]) (by simp [results, Tryz.results27, go_sem, hr0, hr1, hr2, hr3, hr4]) rfl ?_
            rw [HN1.out.1, HN1.out.2, HN1.out.2]
            obtain ⟨⟨ao, cap, e1, h1, h2, h3⟩, h4⟩ := hd
            simp only [Value.slice.injEq] at e1
            obtain ⟨rfl, _, rfl⟩ := e1
            exact ⟨_, _, rfl, h1, h2, h3, h4⟩
end Go.Proofs.YtjibnlpjpbileaaGreatDoor
namespace Go.Proofs.YtjibnlpjpbileaaGreatDoor
open Go.RowKit
set_option linter.unusedVariables false

/-- The N strings f stand in the block b from 0 on, and may be written. -/
structure Sts (w : World) (b N : Nat) (f : Nat → ByteArray) : Prop where
  cell : ∀ j, j < N → w.cell? ⟨b, j, none⟩ = some (.string (f j))
  free : ∀ x, w.frozen? ⟨b, x, none⟩ = false
def updS (f : Nat → ByteArray) (i : Nat) (x : ByteArray) : Nat → ByteArray := fun j => if j = i then x else f j
theorem Sts.congr {w : World} {b N : Nat} {f g : Nat → ByteArray} (h : Sts w b N f) (e : ∀ j, j < N → f j = g j) : Sts w b N g :=
  ⟨fun j hj => by rw [← e j hj]; exact h.cell j hj, h.free⟩
theorem Sts.set {w : World} {b N : Nat} {f : Nat → ByteArray} (h : Sts w b N f) (i : Nat) (hi : i < N) (x : ByteArray) : Sts (w.setCell ⟨b, i, none⟩ (.string x)) b N (updS f i x) := by
  refine ⟨fun j hj => ?_, fun y => by rw [World.frozen?_setCell]; exact h.free y⟩
  by_cases e : j = i
  · subst e
    rw [updS, if_pos rfl]
    exact World.cell?_setCell_same w _ _ (h.cell j hj)
  · rw [updS, if_neg e, World.cell?_setCell_other (h := fun q => by simp at q; try omega)]
    exact h.cell j hj
theorem Sts.below {w w' : World} {b N : Nat} {f : Nat → ByteArray} (h : Sts w b N f) (hb : Below w.heap.size w w') (hlt : b < w.heap.size) : Sts w' b N f :=
  ⟨fun j hj => by rw [hb.cell (p := ⟨b, j, none⟩) hlt]; exact h.cell j hj, fun x => by rw [hb.frozen (p := ⟨b, x, none⟩) hlt]; exact h.free x⟩
theorem Sts.turn {cb : Nat} {w w' : World} {b N : Nat} {f : Nat → ByteArray} (h : Sts w b N f) (t : Turn cb w w') (hn : b ≠ cb) (hlt : b < w.heap.size) : Sts w' b N f :=
  ⟨fun j hj => t.cell hn (h.cell j hj), fun x => by rw [t.frozen hn hlt]; exact h.free x⟩
def lf (L : List ByteArray) : Nat → ByteArray := fun j => L.getD j ByteArray.empty
theorem lf_at (L : List ByteArray) (j : Nat) (h : j < L.length) : lf L j = L[j] := by
  unfold lf; rw [List.getD_eq_getElem?_getD, List.getElem?_eq_getElem h]; rfl
theorem Sts.txt {w : World} {b : Nat} {L : List ByteArray} (h : Sts w b L.length (lf L)) : Txt w b 0 L := fun j hj => by
  rw [Nat.zero_add, ← lf_at L j hj]; exact h.cell j hj

/-- What a law is handed: L, wherever it lies; of nothing the place is open. -/
def RdT (w : World) (ao : Option Addr) (L : List ByteArray) : Prop := L.length ≠ 0 → ∃ b o, ao = some ⟨b, o, none⟩ ∧ Txt w b o L
theorem RdT.below {w w' : World} {ao : Option Addr} {L : List ByteArray} (h : RdT w ao L) (hb : Below w.heap.size w w') : RdT w' ao L := fun h0 => by
  obtain ⟨b, o, e, hc⟩ := h h0
  exact ⟨b, o, e, hc.below hb⟩
theorem Txt.rd {w : World} {b o : Nat} {L : List ByteArray} (h : Txt w b o L) : RdT w (some ⟨b, o, none⟩) L := fun _ => ⟨b, o, rfl, h⟩

theorem infoStr : (Tryz.prog.info? 9).map (fun i => (i.zero, i.size, i.bytes)) = some (some (.string ByteArray.empty), 1, 16) := by kernel_rfl
theorem undStrs : Tryz.prog.underlying 148 = some (.slice 9) := by kernel_rfl
theorem run_strs (n : Nat) (hn : n ≤ 1048576) (w : World) :
    (Instr.makeSlice 148 (.int .i64 (n : Int)) (.int .i64 (n : Int))).run Tryz.prog w = .ok (.slice (some ⟨w.heap.size, 0, none⟩) n n) (w.alloc (.cells (madeCells #[.string ByteArray.empty] n) 9)) :=
  run_make_row' (P := Tryz.prog) 148 9 (.string ByteArray.empty) 16 undStrs infoStr rfl .i64 .i64 n (by omega) (by omega) w
theorem strs_made (w : World) (n : Nat) : Sts (w.alloc (.cells (madeCells #[.string ByteArray.empty] n) 9)) w.heap.size n (fun _ => ByteArray.empty) := by
  have h := World.rowIs_made w (.string ByteArray.empty) n 9
  exact ⟨fun j hj => h.cell hj, fun x => h.frozen x⟩

/-- The text of a mark. -/
def mkGo (k : Nat) (out : ByteArray) : ByteArray := if h : k = 0 then out else mkGo (k / 10) (⟨#[UInt8.ofNat (48 + k % 10)]⟩ ++ out)
termination_by k
decreasing_by omega
def mkT (k : Nat) : ByteArray := ⟨#[109]⟩ ++ mkGo k ⟨#[]⟩

theorem conv1 (b : UInt8) (x : Int) (h : x = b.toNat) (W : World) (g : Nat) (hc : W.cell? ⟨g, 0, none⟩ = some (.int .u8 x)) :
    (convert 114 9 (.slice (some ⟨g, 0, none⟩) 1 1)).run Tryz.prog W = .ok (.string ⟨#[b]⟩) W := by
  have := run_convert_bytes_back (P := Tryz.prog) W 114 9 5 ⟨g, 0, none⟩ 1 [b] Tryz.underlying114 Tryz.underlying5 Tryz.underlying9 (fun j hj => by
    have : j = 0 := by simpa using hj
    subst this
    show W.cell? ((⟨g, 0, none⟩ : Addr).add 0) = some (.int .u8 (b.toNat : Int))
    rw [← h]
    simpa [Addr.add] using hc)
  exact this
theorem tm (u : Nat) : 48 + (u : Int) % 10 = ((UInt8.ofNat (48 + u % 10)).toNat : Int) := by
  simp; omega
theorem ret_str {a b : ByteArray} (h : a = b) : Ending.returned (.string a) = .returned (.string b) := by rw [h]
theorem pow_fit {m k u : Nat} (h : u * 10 ^ m ≤ k) (hk : k ≤ 4000000000) (hu : 1 ≤ u) : m ≤ 9 := by
  rcases Nat.lt_or_ge 9 m with h6 | h6
  · have h1 : 10 ^ 10 ≤ 10 ^ m := Nat.pow_le_pow_right (by omega) h6
    have h2 : 10 ^ m ≤ u * 10 ^ m := Nat.le_mul_of_pos_left _ hu
    have : (10 : Nat) ^ 10 = 10000000000 := by decide
    omega
  · exact h6
theorem size_cons (b : UInt8) (s : ByteArray) : ((⟨#[b]⟩ : ByteArray) ++ s).size = s.size + 1 := by
  rw [ByteArray.size_append]
  show 1 + s.size = s.size + 1
  omega
set_option maxHeartbeats 1000000 in
set_option maxRecDepth 100000 in
theorem markText_any (k : Nat) (hk : 1 ≤ k) (hm : k ≤ 4000000000) (w : World) :
    Calls Tryz.prog 41 #[.int .i64 k] w fun e w' => e = .returned (.string (mkT k)) ∧ Below w.heap.size w w' := by
  have HE : Hid (mkT k = ⟨#[109]⟩ ++ mkGo k ⟨#[]⟩) := by show _ = _; rfl
  go_enter Tryz.func41, Tryz.ntmps41
  go_wp2_with fail
  go_loopw [0, 3] (fun a o wr => ∃ (u : Nat) (s : ByteArray), a = .int .i64 u ∧ o = .string s ∧ u * 10 ^ s.size ≤ k ∧ mkGo u s = mkGo k ⟨#[]⟩ ∧ s.size ≤ 10 ∧ Below w.heap.size w wr) (fun a _ _ => (intOf a).toNat)
  case atStart => exact ⟨k, ⟨#[]⟩, rfl, rfl, by show k * 10 ^ 0 ≤ k; simp, rfl, by decide, Below.refl _ _⟩
  case round =>
    obtain ⟨u, s, rfl, rfl, hf, hg, hs, hb⟩ := hrel
    have HF : Hid (u * 10 ^ s.size ≤ k) := hf
    have HG : Hid (mkGo u s = mkGo k ⟨#[]⟩) := hg
    have HB : Hid (Below w.heap.size w wr) := hb
    have hul : u ≤ 4000000000 := Nat.le_trans (Nat.le_trans (Nat.le_mul_of_pos_right u (Nat.pow_pos (by omega))) hf) hm
    clear hf hg hb
    by_cases hu : u = 0
    · subst hu
      have HS : Hid (s = mkGo k ⟨#[]⟩) := by
        have h := HG.out
        rw [mkGo, dif_pos rfl] at h
        exact h
      go_wp2_with fail
      go_ret
      exact ⟨ret_str (by rw [HE.out, ← HS.out]), HB.out⟩
    · have h6 := pow_fit HF.out hm (by omega)
      obtain ⟨b, hbb⟩ : ∃ b, b = UInt8.ofNat (48 + u % 10) := ⟨_, rfl⟩
      have HBB : Hid (b = UInt8.ofNat (48 + u % 10)) := hbb
      have hcv := conv1 b (48 + (u : Int) % 10) (by rw [hbb]; exact tm u) (wr.alloc (.cells #[.int .u8 (48 + (u : Int) % 10)] 5)) wr.heap.size (by simp)
      clear hbb
      have hup : 0 < (u : Int) := by omega
      go_wp2_with fail
      go_roundw
      case rel =>
        refine ⟨u / 10, ⟨#[b]⟩ ++ s, ?_, rfl, ?_, ?_, ?_, HB.out.alloc HB.out.size _⟩
        · first | rfl | (congr 1; omega) | go_num
        · rw [size_cons, Nat.pow_succ]
          have e : u / 10 * (10 ^ s.size * 10) = u / 10 * 10 * 10 ^ s.size := by rw [Nat.mul_comm (10 ^ s.size) 10, Nat.mul_assoc]
          rw [e]
          exact Nat.le_trans (Nat.mul_le_mul_right _ (by omega)) HF.out
        · rw [← HG.out]
          conv => rhs; rw [mkGo, dif_neg hu]
          rw [HBB.out]
        · rw [size_cons]; omega
      case measure => simp [intOf]; omega
end Go.Proofs.YtjibnlpjpbileaaGreatDoor
namespace Go.Proofs.YtjibnlpjpbileaaGreatDoor
open Go.RowKit
set_option linter.unusedVariables false

mutual
def cT : Tm → Nat
  | .mk _ _ _ l => 3 + cL l
def cL : List Tm → Nat
  | [] => 0
  | t :: r => cT t + cL r
end
mutual
def mrT : Tm → Nat → Tm
  | .mk _ _ _ l, K => .mk K ((K : Int) + 1) (mkT (K + 2)) (mrL l (K + 3))
def mrL : List Tm → Nat → List Tm
  | [], _ => []
  | t :: r, K => mrT t K :: mrL r (K + cT t)
end
theorem mrL_len : ∀ (l : List Tm) (K : Nat), (mrL l K).length = l.length
  | [], K => by rw [mrL]
  | t :: r, K => by rw [mrL, List.length_cons, List.length_cons, mrL_len r]
theorem cL_take (l : List Tm) (i : Nat) (h : i < l.length) : cL (l.take (i + 1)) = cL (l.take i) + cT l[i] := by
  induction l generalizing i with
  | nil => simp at h
  | cons t r ih =>
    cases i with
    | zero => simp [cL]
    | succ j =>
      have := ih j (by simpa using h)
      rw [List.take_succ_cons, List.take_succ_cons, cL, cL, this]
      simp only [List.getElem_cons_succ]
      omega
theorem mrL_take (l : List Tm) (i K : Nat) (h : i < l.length) : mrL (l.take (i + 1)) K = mrL (l.take i) K ++ [mrT l[i] (K + cL (l.take i))] := by
  induction l generalizing i K with
  | nil => simp at h
  | cons t r ih =>
    cases i with
    | zero => simp [mrL, cL]
    | succ j =>
      have := ih j (K + cT t) (by simpa using h)
      rw [List.take_succ_cons, List.take_succ_cons, mrL, mrL, this, cL]
      simp only [List.getElem_cons_succ, List.cons_append]
      rw [Nat.add_assoc]
theorem cL_le (l : List Tm) (i : Nat) : cL (l.take i) ≤ cL l := by
  induction l generalizing i with
  | nil => simp [cL]
  | cons t r ih =>
    cases i with
    | zero => simp [cL]
    | succ j => rw [List.take_succ_cons, cL, cL]; have := ih j; omega
theorem mkGo_dig : ∀ (d k : Nat) (s : ByteArray), k < 10 ^ d → (mkGo k s).size ≤ s.size + d := by
  intro d
  induction d with
  | zero =>
    intro k s h
    rw [mkGo]
    split
    · omega
    · rename_i hk; simp at h; omega
  | succ d ih =>
    intro k s h
    rw [mkGo]
    split
    · omega
    · have h1 := ih (k / 10) (⟨#[UInt8.ofNat (48 + k % 10)]⟩ ++ s) (by rw [Nat.pow_succ] at h; omega)
      rw [size_cons] at h1
      omega
theorem mkT_dig (k : Nat) (h : k ≤ 9000000) : (mkT k).size ≤ 1048576 := by
  unfold mkT
  rw [size_cons]
  have := mkGo_dig 7 k ⟨#[]⟩ (by omega)
  have e : (⟨#[]⟩ : ByteArray).size = 0 := rfl
  omega

/-- What is in none of these blocks is as it was. -/
structure OutB (bs : List Nat) (w w' : World) : Prop where
  os : w'.os = w.os
  tape : w'.tape = w.tape
  output : w'.output = w.output
  size : w.heap.size ≤ w'.heap.size
  block : ∀ b, b < w.heap.size → b ∉ bs → w'.heap[b]? = w.heap[b]?
theorem OutB.refl (bs : List Nat) (w : World) : OutB bs w w := ⟨rfl, rfl, rfl, Nat.le_refl _, fun _ _ _ => rfl⟩
theorem OutB.trans {bs : List Nat} {a b c : World} (h : OutB bs a b) (k : OutB bs b c) : OutB bs a c :=
  ⟨k.os.trans h.os, k.tape.trans h.tape, k.output.trans h.output, Nat.le_trans h.size k.size, fun x hx hn => (k.block x (Nat.lt_of_lt_of_le hx h.size) hn).trans (h.block x hx hn)⟩
theorem OutB.wide {bs bs' : List Nat} {a b : World} (h : OutB bs a b) (h1 : ∀ x ∈ bs, x ∈ bs') : OutB bs' a b := ⟨h.os, h.tape, h.output, h.size, fun x hx hn => h.block x hx (fun hh => hn (h1 x hh))⟩
theorem OutB.below {bs : List Nat} {a b : World} (h : Below a.heap.size a b) : OutB bs a b := ⟨h.os, h.tape, h.output, h.size, fun x hx _ => h.block x hx⟩
theorem OutB.set {bs : List Nat} {a b : World} (h : OutB bs a b) {g : Nat} (h1 : g ∈ bs) (o : Nat) (v : Value) : OutB bs a (b.setCell ⟨g, o, none⟩ v) :=
  ⟨h.os, h.tape, h.output, by rw [World.size_setCell]; exact h.size, fun x hx hn => by rw [Below.heap_setCell _ ⟨g, o, none⟩ _ x (by show x ≠ g; intro e; exact hn (by rw [e]; exact h1))]; exact h.block x hx hn⟩

theorem keepM {w w' : World} (h : Below w.heap.size w w') {b o : Nat} {v : Value} (hc : w.cell? ⟨b, o, none⟩ = some v) : w'.cell? ⟨b, o, none⟩ = some v := by
  rw [h.cell (p := ⟨b, o, none⟩) (World.block_lt_of_cell? w _ hc)]; exact hc
/-- The two first cells are written. -/
def two (wr : World) (g o : Nat) (x y : Value) : World := (wr.setCell ⟨g, o, none⟩ x).setCell ⟨g, o + 1, none⟩ y
theorem two_far1 {wr : World} {g o : Nat} {x y : Value} {b o' : Nat} (h : b ≠ g ∨ o' < o ∨ o + 1 < o') : (two wr g o x y).cell? ⟨b, o', none⟩ = wr.cell? ⟨b, o', none⟩ := by
  unfold two
  rw [World.cell?_setCell_other (h := fun e => by simp only [Addr.mk.injEq] at e; omega), World.cell?_setCell_other (h := fun e => by simp only [Addr.mk.injEq] at e; omega)]
theorem two_in {wr : World} {g o : Nat} {x y x0 y0 : Value} (h0 : wr.cell? ⟨g, o, none⟩ = some x0) (h1 : wr.cell? ⟨g, o + 1, none⟩ = some y0) : (two wr g o x y).cell? ⟨g, o, none⟩ = some x ∧ (two wr g o x y).cell? ⟨g, o + 1, none⟩ = some y := by
  unfold two
  refine ⟨?_, ?_⟩
  · rw [World.cell?_setCell_other (h := fun e => by simp only [Addr.mk.injEq] at e; omega)]
    exact World.cell?_setCell_same wr _ _ h0
  · refine World.cell?_setCell_same _ _ _ (u := y0) ?_
    rw [World.cell?_setCell_other (h := fun e => by simp only [Addr.mk.injEq] at e; omega)]
    exact h1
theorem two_block {wr : World} {g o : Nat} {x y : Value} {b : Nat} (h : b ≠ g) : (two wr g o x y).heap[b]? = wr.heap[b]? := by
  unfold two
  rw [Below.heap_setCell _ ⟨g, o + 1, none⟩ _ b h, Below.heap_setCell _ ⟨g, o, none⟩ _ b h]
theorem two_size {wr : World} {g o : Nat} {x y : Value} : (two wr g o x y).heap.size = wr.heap.size := by
  unfold two
  rw [World.size_setCell, World.size_setCell]
theorem two_frozen {wr : World} {g o : Nat} {x y : Value} (p : Addr) : (two wr g o x y).frozen? p = wr.frozen? p := by
  unfold two
  rw [World.frozen?_setCell, World.frozen?_setCell]
/-- One of a row is marked. -/
theorem mark_stepB {wr w3 w5 : World} {A B : List Tm} {g i f Q : Nat} {ba bt bb : List Nat} {k0 n0 : Int} {s0 : ByteArray} {L0 : List Tm} {ao0 : Option Addr} {cap0 : Nat} (hAl : A.length = i)
    (hA : OsR wr A ba g f) (hgw : g < wr.heap.size) (hnd : (g :: (ba ++ (bt ++ bb))).Nodup) (hlt : ∀ x ∈ ba ++ (bt ++ bb), x < wr.heap.size) (hB : OsR wr B bb g (f + i * 4 + 4)) (hQ : Q ≤ 8999990)
    (h0 : wr.cell? ⟨g, f + i * 4, none⟩ = some (.int .i64 k0)) (h1 : wr.cell? ⟨g, f + i * 4 + 1, none⟩ = some (.int .i64 n0)) (h2 : wr.cell? ⟨g, f + i * 4 + 2, none⟩ = some (.string s0)) (h3 : wr.cell? ⟨g, f + i * 4 + 3, none⟩ = some (.slice ao0 L0.length cap0)) (hl0 : L0.length ≤ cap0) (hc0 : cap0 ≤ maxLen)
    (hb3 : Below (two wr g (f + i * 4) (.int .i64 Q) (.int .i64 ((Q : Int) + 1))).heap.size (two wr g (f + i * 4) (.int .i64 Q) (.int .i64 ((Q : Int) + 1))) w3)
    (hO5 : OsL w5 (mrL L0 (Q + 3)) bt ao0) (hout : OutB bt (w3.setCell ⟨g, f + i * 4 + 2, none⟩ (.string (mkT (Q + 2)))) w5) :
    OsR w5 (A ++ mrT (.mk k0 n0 s0 L0) Q :: B) (ba ++ (bt ++ bb)) g f ∧ (∀ o, wr.frozen? ⟨g, o, none⟩ = w5.frozen? ⟨g, o, none⟩) := by
  have s2 : (two wr g (f + i * 4) (.int .i64 Q) (.int .i64 ((Q : Int) + 1))).heap.size = wr.heap.size := two_size
  have s3 := hb3.size
  rw [s2] at s3
  obtain ⟨n1, n2⟩ := List.nodup_cons.1 hnd
  have hgt : g ∉ bt := fun h => n1 (by simp [h])
  have hg3 : g < (w3.setCell ⟨g, f + i * 4 + 2, none⟩ (.string (mkT (Q + 2)))).heap.size := by rw [World.size_setCell]; omega
  have hgb : w5.heap[g]? = (w3.setCell ⟨g, f + i * 4 + 2, none⟩ (.string (mkT (Q + 2)))).heap[g]? := hout.block g hg3 hgt
  have hgc : ∀ o, w5.cell? ⟨g, o, none⟩ = (w3.setCell ⟨g, f + i * 4 + 2, none⟩ (.string (mkT (Q + 2)))).cell? ⟨g, o, none⟩ := fun o => World.cell?_of_block hgb
  have hfar : ∀ o v, (o < f + i * 4 ∨ f + i * 4 + 2 < o) → wr.cell? ⟨g, o, none⟩ = some v → w5.cell? ⟨g, o, none⟩ = some v := fun o v ho hv => by
    rw [hgc, World.cell?_setCell_other (h := fun e => by simp only [Addr.mk.injEq] at e; omega)]
    exact keepM hb3 (by rw [two_far1 (by omega)]; exact hv)
  have hblk : ∀ b, b ≠ g → b ∉ bt → b < wr.heap.size → w5.heap[b]? = wr.heap[b]? := fun b hbg hbn hbl => by
    rw [hout.block b (by rw [World.size_setCell]; omega) hbn, Below.heap_setCell _ ⟨g, f + i * 4 + 2, none⟩ _ b hbg, hb3.block b (by rw [s2]; exact hbl), two_block hbg]
  obtain ⟨t0, t1⟩ := two_in (x := .int .i64 Q) (y := .int .i64 ((Q : Int) + 1)) h0 h1
  have d1 := List.nodup_append.1 n2
  have d2 := List.nodup_append.1 d1.2.1
  refine ⟨OsR.join (OsR.keep A ba g f (fun b hb hbl => hblk b (fun e => n1 (by rw [← e]; simp [hb])) (fun hq => d1.2.2 b hb b (by simp [hq]) rfl) hbl) (fun o v _ ho hv => hfar o v (by omega) hv) hA) ?_ ?_, fun o => ?_⟩
  · rw [hAl, mrT, OsT]
    refine ⟨?_, ?_, ?_, mkT_dig _ (by omega), ao0, cap0, ?_, by rw [mrL_len]; exact hl0, hc0, hO5⟩
    · rw [hgc, World.cell?_setCell_other (h := fun e => by simp only [Addr.mk.injEq] at e; omega)]
      exact keepM hb3 t0
    · rw [hgc, World.cell?_setCell_other (h := fun e => by simp only [Addr.mk.injEq] at e; omega)]
      exact keepM hb3 t1
    · rw [hgc]
      refine World.cell?_setCell_same _ _ _ (u := .string s0) ?_
      exact keepM hb3 (by rw [two_far1 (by omega)]; exact h2)
    · rw [mrL_len]
      exact hfar _ _ (by omega) h3
  · rw [hAl]
    exact OsR.keep B bb g (f + i * 4 + 4) (fun b hb hbl => hblk b (fun e => n1 (by rw [← e]; simp [hb])) (fun hq => d2.2.2 b hq b hb rfl) hbl) (fun o v ho _ hv => hfar o v (by omega) hv) hB
  · have f1 : w5.frozen? ⟨g, o, none⟩ = (w3.setCell ⟨g, f + i * 4 + 2, none⟩ (.string (mkT (Q + 2)))).frozen? ⟨g, o, none⟩ := World.frozen?_of_block hgb
    rw [f1, World.frozen?_setCell, hb3.frozen (p := ⟨g, o, none⟩) (by show g < _; rw [s2]; exact hgw), two_frozen]

def MkB (l : List Tm) : Prop := ∀ (w : World) (bs : List Nat) (ao : Option Addr) (cap K : Nat), OsL w l bs ao → bs.Nodup → l.length ≤ cap → cap ≤ maxLen → 1 ≤ K → K + cL l ≤ 8999990 →
  Calls Tryz.prog 42 #[.slice ao l.length cap, .int .i64 K] w fun e w' => e = .returned (.int .i64 ((K + cL l : Nat) : Int)) ∧ OsL w' (mrL l K) bs ao ∧ OutB bs w w'

set_option maxHeartbeats 4000000 in
set_option maxRecDepth 100000 in
theorem mkB_of (l : List Tm) (ih : ∀ t, t ∈ l → ∀ k n s L, t = .mk k n s L → MkB L) : MkB l := by
  intro w bs ao cap K h hnd hlc hcm hK hKc
  unfold maxLen at hcm
  by_cases hl : l = []
  · subst hl
    rw [OsL] at h
    subst h
    go_enter Tryz.func42, Tryz.ntmps42
    go_wp2_with fail
    go_loopw [1, 5] (fun vk vi wr => vk = .int .i64 K ∧ vi = .int .i64 0 ∧ wr = w) (fun _ _ _ => 0)
    case atStart => exact ⟨rfl, rfl, rfl⟩
    case round =>
      obtain ⟨rfl, rfl, rfl⟩ := hrel
      go_wp2_with fail
      go_ret
      exact ⟨by simp [cL], by rw [mrL, OsL], OutB.refl _ _⟩
  · obtain ⟨g, f, b0, rfl, rfl, hfz, hrow⟩ := (OsL.iff hl).1 h
    have IH : Hid (∀ t, t ∈ l → ∀ k n s L, t = .mk k n s L → MkB L) := ih
    have HROW : Hid (OsR w l b0 g f) := hrow
    have HFZ : Hid (∀ o, w.frozen? ⟨g, o, none⟩ = false) := hfz
    have HL : Hid (l ≠ []) := hl
    have HND : Hid ((g :: b0).Nodup) := hnd
    clear ih h hrow hfz hl hnd
    go_enter Tryz.func42, Tryz.ntmps42
    go_wp2_with fail
    go_loopw [1, 5] (fun vk vi wr => ∃ i : Nat, i ≤ l.length ∧ vi = .int .i64 i ∧ vk = .int .i64 ((K + cL (l.take i) : Nat) : Int) ∧ OsR wr (mrL (l.take i) K ++ l.drop i) b0 g f ∧ (∀ o, wr.frozen? ⟨g, o, none⟩ = false) ∧ OutB (g :: b0) w wr) (fun _ vi _ => l.length - (intOf vi).toNat)
    case atStart => exact ⟨0, Nat.zero_le _, rfl, by simp [cL], by simpa [mrL] using HROW.out, HFZ.out, OutB.refl _ _⟩
    case round =>
      obtain ⟨i, hi0, rfl, rfl, hr, hf, ho⟩ := hrel
      by_cases hlt : i < l.length
      · have hcl := cL_take l i hlt
        have hcle := cL_le l (i + 1)
        rw [List.drop_eq_getElem_cons hlt] at hr
        have hltw := OsR.lt _ _ _ _ hr
        obtain ⟨ba, bt, bb, eb, hA, hT, hB⟩ := OsR.split hr
        have hAl : (mrL (l.take i) K).length = i := by rw [mrL_len]; simp; omega
        rw [hAl] at hT hB
        have HMR : Hid (mrL (l.take (i + 1)) K = mrL (l.take i) K ++ [mrT l[i] (K + cL (l.take i))]) := mrL_take l i K hlt
        have HIM : Hid (∀ k n s L, l[i] = .mk k n s L → MkB L) := IH.out _ (List.getElem_mem hlt)
        have hnd := HND.out
        rw [eb] at hnd hltw
        have HEB : Hid (b0 = ba ++ (bt ++ bb)) := eb
        generalize l[i] = t at *
        obtain ⟨k0, n0, s0, L0⟩ := t
        rw [OsT] at hT
        obtain ⟨h0, h1, h2, hs0, ao0, cap0, h3, hl0, hc0, hOL⟩ := hT
        rw [cT] at hcl
        obtain ⟨Q, hQ⟩ : ∃ Q, Q = K + cL (l.take i) := ⟨_, rfl⟩
        rw [← hQ] at HMR ⊢
        have hQ3 : Q + 3 + cL L0 ≤ 8999990 := by omega
        have HQN : Hid (K + cL (l.take (i + 1)) = Q + 3 + cL L0) := by show _ = _; omega
        clear hQ hcl hcle
        have hgw : g < wr.heap.size := World.block_lt_of_cell? wr _ h0
        have hzw := ho.size
        obtain ⟨n1, n2⟩ := List.nodup_cons.1 hnd
        have d1 := List.nodup_append.1 n2
        have d2 := List.nodup_append.1 d1.2.1
        have HGT : Hid (∀ b ∈ bt, b ≠ g) := fun b hb e => n1 (by rw [← e]; simp [hb])
        have HBT : Hid (bt.Nodup ∧ ∀ b ∈ bt, b ∈ g :: b0) := ⟨d2.1, fun b hb => by rw [eb]; simp [hb]⟩
        have HSTEP : Hid (∀ w3 w5, Below (two wr g (f + i * 4) (.int .i64 Q) (.int .i64 ((Q : Int) + 1))).heap.size (two wr g (f + i * 4) (.int .i64 Q) (.int .i64 ((Q : Int) + 1))) w3 → OsL w5 (mrL L0 (Q + 3)) bt ao0 → OutB bt (w3.setCell ⟨g, f + i * 4 + 2, none⟩ (.string (mkT (Q + 2)))) w5 → OsR w5 (mrL (l.take i) K ++ mrT (.mk k0 n0 s0 L0) Q :: l.drop (i + 1)) b0 g f ∧ (∀ o, wr.frozen? ⟨g, o, none⟩ = w5.frozen? ⟨g, o, none⟩)) :=
          fun w3 w5 hb3 hO5 hout => by rw [eb]; exact mark_stepB hAl hA hgw hnd hltw hB (by omega) h0 h1 h2 h3 hl0 hc0 hb3 hO5 hout
        have HOL : Hid (OsL wr L0 bt ao0) := hOL
        have HIH : Hid (MkB L0) := HIM.out _ _ _ _ rfl
        have HO : Hid (OutB (g :: b0) w wr) := ho
        have HC0 : Hid (L0.length ≤ cap0 ∧ cap0 ≤ maxLen) := ⟨hl0, hc0⟩
        have HK2 : Hid (((Q : Int) + 1 + 1) = ((Q + 2 : Nat) : Int)) := by show _ = _; omega
        have HK2b : Hid (((Q : Int) + 2) = ((Q + 2 : Nat) : Int)) := by show _ = _; omega
        have HK3 : Hid (((Q : Int) + 1 + 1 + 1) = ((Q + 3 : Nat) : Int)) := by show _ = _; omega
        have HK3c : Hid (((Q : Int) + 2 + 1) = ((Q + 3 : Nat) : Int)) := by show _ = _; omega
        have HK3b : Hid (((Q : Int) + 3) = ((Q + 3 : Nat) : Int)) := by show _ = _; omega
        have hQi : (Q : Int) ≤ 8999990 := by omega
        have HFF : Hid (∀ o, wr.frozen? ⟨g, o, none⟩ = false) := hf
        clear hA hB hOL hl0 hc0 hs0 ho hnd hltw n1 n2 d1 d2 eb hr
        go_wp2_with (first
          | (go_at_call 41; (first | rw [HK2.out] | rw [HK2b.out]); refine (markText_any (Q + 2) (by omega) (by omega) _).mono ?_; rintro e w3 ⟨rfl, hb3⟩; have HB3 : Hid (Below (two wr g (f + i * 4) (.int .i64 Q) (.int .i64 ((Q : Int) + 1))).heap.size (two wr g (f + i * 4) (.int .i64 Q) (.int .i64 ((Q : Int) + 1))) w3) := hb3; have c23 := keepM HB3.out (show (two wr g (f + i * 4) (.int .i64 Q) (.int .i64 ((Q : Int) + 1))).cell? ⟨g, f + i * 4 + 2, none⟩ = some (.string s0) from (two_far1 (by omega)).trans h2); have c33 := keepM HB3.out (show (two wr g (f + i * 4) (.int .i64 Q) (.int .i64 ((Q : Int) + 1))).cell? ⟨g, f + i * 4 + 3, none⟩ = some (.slice ao0 L0.length cap0) from (two_far1 (by omega)).trans h3); have f33 : ∀ o, w3.frozen? ⟨g, o, none⟩ = false := (fun o => by rw [HB3.out.frozen (p := ⟨g, o, none⟩) (by rw [two_size]; exact hgw), two_frozen]; exact HFF.out o); have hz3 : wr.heap.size ≤ w3.heap.size := (by have := HB3.out.size; rw [two_size] at this; exact this); clear hb3)
          | (go_at_call 42; (first | rw [HK3.out] | rw [HK3c.out] | rw [HK3b.out]); refine (HIH.out (w3.setCell ⟨g, f + i * 4 + 2, none⟩ (.string (mkT (Q + 2)))) bt ao0 cap0 (Q + 3) (OsL.keep _ _ _ (fun b hb hbl => by rw [Below.heap_setCell _ ⟨g, f + i * 4 + 2, none⟩ _ b (HGT.out b hb), HB3.out.block b (by rw [two_size]; exact hbl), two_block (HGT.out b hb)]) HOL.out) HBT.out.1 HC0.out.1 HC0.out.2 (by omega) (by omega)).mono ?_; rintro e w5 ⟨rfl, hO5, hout5⟩; obtain ⟨hR5, hF5⟩ := HSTEP.out w3 w5 HB3.out hO5 hout5; have HR5 : Hid (OsR w5 (mrL (l.take (i + 1)) K ++ l.drop (i + 1)) b0 g f) := (by rw [HMR.out, List.append_assoc]; exact hR5); have HF5 : Hid (∀ o, w5.frozen? ⟨g, o, none⟩ = false) := (fun o => (hF5 o).symm.trans (HFF.out o)); have HO5 : Hid (OutB bt (w3.setCell ⟨g, f + i * 4 + 2, none⟩ (.string (mkT (Q + 2)))) w5) := hout5; clear hO5 hout5 hR5 hF5))
        have HOUT : Hid (OutB (g :: b0) w w5) := by
          have o1 : OutB (g :: b0) wr (two wr g (f + i * 4) (.int .i64 Q) (.int .i64 ((Q : Int) + 1))) := ((OutB.refl (g :: b0) wr).set (by simp) _ _).set (by simp) _ _
          exact HO.out.trans (o1.trans ((((OutB.below HB3.out).set (by simp) _ _)).trans (HO5.out.wide HBT.out.2)))
        go_roundw
        case rel => exact ⟨i + 1, by omega, by go_num, by rw [HQN.out]; exact congrArg (Value.int .i64) (by omega), HR5.out, HF5.out, HOUT.out⟩
        case measure => simp [intOf]; omega
      · have hil : i = l.length := by omega
        have HE : Hid (OsR wr (mrL l K) b0 g f) := by
          show OsR ..
          rw [hil] at hr
          simpa using hr
        have HEQ : Hid (K + cL (l.take i) = K + cL l) := by show _ = _; rw [hil]; simp
        have HF : Hid (∀ o, wr.frozen? ⟨g, o, none⟩ = false) := hf
        have HO : Hid (OutB (g :: b0) w wr) := ho
        have HNE : Hid (mrL l K ≠ []) := by
          intro e
          have := mrL_len l K
          rw [e] at this
          exact HL.out (List.eq_nil_of_length_eq_zero this.symm)
        clear hr hf ho hil
        go_wp2_with fail
        go_ret
        exact ⟨ret_int (by have := HEQ.out; omega), (OsL.iff HNE.out).2 ⟨g, f, b0, rfl, rfl, HF.out, HE.out⟩, HO.out⟩
theorem mkBT_all : ∀ t : Tm, ∀ k n s L, t = .mk k n s L → MkB L := Tm.ind fun k n s l ih k' n' s' L' e => by
  simp only [Tm.mk.injEq] at e
  obtain ⟨_, _, _, rfl⟩ := e
  exact mkB_of l ih
theorem mkB_all (l : List Tm) : MkB l := mkBT_all (.mk 0 0 ByteArray.empty l) _ _ _ _ rfl
end Go.Proofs.YtjibnlpjpbileaaGreatDoor
namespace Go.Proofs.YtjibnlpjpbileaaGreatDoor
open Go.RowKit Atom
open Go.Proofs.YtjibnlpjpbileaaGreatDoor.Code
set_option linter.unusedVariables false

theorem belA {w X : World} (h : Below w.heap.size w X) (o : Obj) : Below w.heap.size w (X.alloc o) := h.alloc h.size o
theorem belD {w X : World} (h : Below w.heap.size w X) : Below w.heap.size w X.drew := h.drew
theorem belS {w X : World} {g o : Nat} {v : Value} (h : Below w.heap.size w X) (hg : w.heap.size ≤ g) : Below w.heap.size w (X.setCell ⟨g, o, none⟩ v) := h.setCell hg _
theorem belN {w X Y : World} (h : Below w.heap.size w X) (k : Below X.heap.size X Y) : Below w.heap.size w Y := h.trans (k.mono h.size)
theorem belG {w X Y : World} {A : Nat} (h : Below w.heap.size w X) (hA : w.heap.size ≤ A) (hg : X.grownBy Y (Value.slice (some ⟨A, 0, none⟩) 0 0).ownBlock) : Below w.heap.size w Y :=
  ⟨hg.os.trans h.os, hg.tape.trans h.tape, hg.output.trans h.output, Nat.le_trans h.size hg.size, fun x hx => by
    rw [hg.block x (Nat.lt_of_lt_of_le hx h.size) (fun q => by simp only [Value.ownBlock, Option.some.injEq] at q; omega), h.block x hx]⟩
theorem ownE {Y : World} {A base : Nat} (hA : A = Y.heap.size) (hb : base ≤ Y.heap.size) : (Y.alloc (.cells #[] 65)).ownsRow base 65 6 (.slice (some ⟨A, 0, none⟩) 0 0) 0 [] := by rw [hA]; exact World.ownsRow_made Y #[] 0 hb (Nat.zero_le _) rfl
theorem ownD {X : World} {base : Nat} {e : TypeId} {sz : Nat} {v : Value} {n : Nat} {xs : List Value} (h : X.ownsRow base e sz v n xs) : X.drew.ownsRow base e sz v n xs := h
/-- An append of nothing onto a slice that is none, too: it is as it was. -/
theorem run_append_none {P : Program} (w : World) (t ty e : TypeId) (i : TypeInfo) (ht : P.underlying t = some (.slice e)) (hi : P.info? e = some i) (A : Addr) (ao : Option Addr) (c : Nat) :
    (Builtin.append_ #[t, t] ty #[.slice (some A) 0 0, .slice ao 0 c]).run P w = .ok (.slice (some A) 0 0) w := by
  cases ao <;> simp [Builtin.append_, run_underlying ht, sizeOf, typeInfo, hi, Builtin.lenOf, Builtin.firstCells, loadCells, loadCellsFrom, storeCells]
theorem step_append_none {P : Program} {w : World} {ops : Array Oper} {o : Oper} {a : Act} {K : Act → World → Prop} {Q : Exit → Act → World → Prop} {E : Prop} (hgd : o.guard = none) (s x : Operand) (t : TypeId)
    (ho : o.op = .call { callee := .builtin .append, args := #[s, x], argTypes := #[t, t] }) (e : TypeId) (i : TypeInfo) (ht : P.underlying t = some (.slice e)) (hi : P.info? e = some i)
    (A : Addr) (hs : a.eval s = .slice (some A) 0 0) (ao : Option Addr) (c : Nat) (hx : a.eval x = .slice ao 0 c) (h : K (a.put o.dst (.slice (some A) 0 0)) w) :
    if Region.wanted o (yielded ops a.tmps) = true then Oper.wp P o a w K Q else E := by
  have hw : Region.wanted o (yielded ops a.tmps) = true := by simp [Region.wanted, hgd]
  rw [if_pos hw]
  unfold Oper.wp execOp
  simp only [ho, resolve, invoke, builtin, Sem.run_bind, Sem.run_pure, Result.andThen_ok, List.map_toArray, List.map_cons, List.map_nil, hs, hx, run_append_none w t o.type e i ht hi A ao c]
  exact h
abbrev zPV : Obj := .cells #[.slice none 0 0, .slice none 0 0, .int .i64 0, .slice none 0 0] 32 (0, 0)
/-- The variable of a new system stands in block B, all of it zero. -/
def ZP (w : World) (B : Nat) : Prop := w.heap[B]? = some zPV
theorem ZP.lt {w : World} {B : Nat} (h : ZP w B) : B < w.heap.size := by
  rcases Nat.lt_or_ge B w.heap.size with q | q
  · exact q
  · unfold ZP at h; rw [Array.getElem?_eq_none q] at h; cases h
theorem ZP.new {w : World} {B : Nat} (hB : B = w.heap.size) : ZP (w.alloc (.cells #[.slice none 0 0, .slice none 0 0, .int .i64 0, .slice none 0 0] 32)) B := by
  show (w.heap.push _)[B]? = _
  rw [hB, Array.getElem?_push, if_pos rfl]
theorem ZP.below {w w' : World} {B : Nat} (h : ZP w B) (hb : Below w.heap.size w w') : ZP w' B := by
  unfold ZP; rw [hb.block B h.lt]; exact h
theorem ZP.alloc {w : World} {B : Nat} (h : ZP w B) (o : Obj) : ZP (w.alloc o) B := h.below ((Below.refl _ _).alloc (Nat.le_refl _) _)
theorem ZP.drew {w : World} {B : Nat} (h : ZP w B) : ZP w.drew B := h
theorem ZP.grown {X Y : World} {A B : Nat} (h : ZP X B) (hA : B ≠ A) (hg : X.grownBy Y (Value.slice (some ⟨A, 0, none⟩) 0 0).ownBlock) : ZP Y B := by
  unfold ZP; rw [hg.block B h.lt (fun q => hA (by simp only [Value.ownBlock, Option.some.injEq] at q; exact q))]; exact h
theorem ZP.cells {w : World} {B : Nat} (h : ZP w B) : (w.cell? ⟨B, 0, none⟩ = some (.slice none 0 0) ∧ w.cell? ⟨B, 1, none⟩ = some (.slice none 0 0) ∧ w.cell? ⟨B, 2, none⟩ = some (.int .i64 0) ∧ w.cell? ⟨B, 3, none⟩ = some (.slice none 0 0)) ∧ ∀ x, w.frozen? ⟨B, x, none⟩ = false := by
  unfold ZP at h
  exact ⟨⟨by simp [World.cell?, h], by simp [World.cell?, h], by simp [World.cell?, h], by simp [World.cell?, h]⟩, fun x => by simp [World.frozen?, h]⟩
theorem ZP.cellsA {w : World} {B : Nat} (h : ZP w B) : (∀ o, (w.alloc o).cell? ⟨B, 0, none⟩ = some (.slice none 0 0)) ∧ (∀ o, (w.alloc o).cell? ⟨B, 1, none⟩ = some (.slice none 0 0)) ∧ (∀ o, (w.alloc o).cell? ⟨B, 2, none⟩ = some (.int .i64 0)) ∧ (∀ o, (w.alloc o).cell? ⟨B, 3, none⟩ = some (.slice none 0 0)) ∧ ∀ o x, (w.alloc o).frozen? ⟨B, x, none⟩ = false :=
  ⟨fun o => (h.alloc o).cells.1.1, fun o => (h.alloc o).cells.1.2.1, fun o => (h.alloc o).cells.1.2.2.1, fun o => (h.alloc o).cells.1.2.2.2, fun o => (h.alloc o).cells.2⟩
theorem own_or {A g H : Nat} (h : (Value.slice (some ⟨A, 0, none⟩) 0 0).ownBlock = some g ∨ g = H) : g = A ∨ g = H := by
  rcases h with h | h
  · left; simp only [Value.ownBlock, Option.some.injEq] at h; exact h.symm
  · exact .inr h
/-- From w0 on all stands in w' that stood in wx, the block B aside. -/
def Kx (w0 : World) (B : Nat) (wx w' : World) : Prop := ∀ b, w0.heap.size ≤ b → b < wx.heap.size → b ≠ B → w'.heap[b]? = wx.heap[b]?
/-- What stands behind the first statement: the variable, its code, its one actor. -/
structure Nw (w0 wx : World) (code : List I) (t : Tm) (B : Nat) (ca : Option Addr) (cc : Nat) (aa : Option Addr) (ac : Nat) : Prop where
  bel : Below w0.heap.size w0 wx
  lo : w0.heap.size ≤ B
  c0 : wx.cell? ⟨B, 0, none⟩ = some (.slice ca code.length cc)
  c1 : wx.cell? ⟨B, 1, none⟩ = some (.slice aa 1 ac)
  c2 : wx.cell? ⟨B, 2, none⟩ = some (.int .i64 2)
  c3 : wx.cell? ⟨B, 3, none⟩ = some (.slice none 0 0)
  fz : ∀ x, wx.frozen? ⟨B, x, none⟩ = false
  code : ∀ w', Kx w0 B wx w' → RowI w' ca code
  act : ∀ w', Kx w0 B wx w' → RowA w' aa [newA t]
/-- The one actor, read. -/
theorem oneA {w' : World} {t : Tm} {AB : Nat} {ra : Option Addr} {rc : Nat} (h0 : w'.cell? ⟨AB, 0, none⟩ = some (.int .i64 (nwI 1 0 t 1))) (h1 : w'.cell? ⟨AB, 1, none⟩ = some (.int .i64 (nwI 1 0 t 0))) (h2 : w'.cell? ⟨AB, 2, none⟩ = some (.slice ra (nwR 1 0 t).length rc)) (h3 : w'.cell? ⟨AB, 3, none⟩ = some (.slice none 0 0)) (h4 : w'.cell? ⟨AB, 4, none⟩ = some (.slice none 0 0)) (hr : RepL 0 w' (nwR 1 0 t) ra) (hc : (nwR 1 0 t).length ≤ rc) (hm : rc ≤ maxLen) : RowA w' (some ⟨AB, 0, none⟩) [newA t] := by
  refine .inr ⟨AB, 0, rfl, fun j hj => ?_⟩
  obtain rfl : j = 0 := by simp at hj; omega
  exact ⟨newW ra rc, ⟨h0, h1, h2, h3, h4⟩, ⟨hr, by show RepL 0 w' [] _; rw [RepL]; trivial, fun h => absurd rfl h, hc, hm, Nat.le_refl _, Nat.zero_le _, Nat.le_refl _, Nat.zero_le _⟩⟩

/-- The code's copy: it is read wherever its block stands. -/
def CR (w6 : World) (g6 : Nat) (code : List I) : Prop := g6 < w6.heap.size ∧ ∀ w' : World, w'.heap[g6]? = w6.heap[g6]? → RowI w' (some ⟨g6, 0, none⟩) code
theorem CR.of {w6 : World} {base g6 cap6 : Nat} {code : List I} (hne : 0 < code.length) (h : w6.ownsRow base 65 6 (.slice (some ⟨g6, 0, none⟩) (0 + code.length) cap6) (0 + code.length) ([] ++ code.flatMap insL)) : CR w6 g6 code := by
  obtain ⟨g, c, e, h1, h2, h3, h4, h5, h6⟩ := owns_cells h (by omega)
  simp only [Value.slice.injEq, Option.some.injEq, Addr.mk.injEq, and_true, true_and] at e
  obtain ⟨rfl, _⟩ := e
  refine ⟨h6, fun w' hw => ?_⟩
  have hr := insC_row (w := w') (g := g6) code 0 (fun j u hj => by rw [Nat.zero_add, World.cell?_of_block (w := w6) hw]; exact h4 j u (by rw [List.nil_append]; exact hj))
  refine .inr ⟨g6, 0, rfl, fun j hj => ?_⟩
  obtain ⟨bt, _, x, y⟩ := hr.at j hj
  exact y
theorem CR.nil {w6 : World} {g6 : Nat} (h : g6 < w6.heap.size) : CR w6 g6 [] := ⟨h, fun _ _ => .inl rfl⟩
/-- The new actor's terms, from a world of size lo on. -/
def RA (w5 : World) (lo : Nat) (t : Tm) (ra : Option Addr) (rc : Nat) : Prop := (nwR 1 0 t).length ≤ rc ∧ rc ≤ maxLen ∧ RpL (fun b => lo ≤ b) w5 (nwR 1 0 t) ra
theorem outB_alloc {bs : List Nat} {a b : World} (h : OutB bs a b) (o : Obj) : OutB bs a (b.alloc o) := h.trans (OutB.below ((Below.refl _ _).alloc (Nat.le_refl _) _))
theorem mkNw {w0 w5 w6 wx : World} {code : List I} {t : Tm} {B g6 cc AB ac lo rc : Nat} {ra : Option Addr} (hbel : Below w0.heap.size w0 wx) (hlo : w0.heap.size ≤ B)
    (c0 : wx.cell? ⟨B, 0, none⟩ = some (.slice (some ⟨g6, 0, none⟩) code.length cc)) (c1 : wx.cell? ⟨B, 1, none⟩ = some (.slice (some ⟨AB, 0, none⟩) 1 ac)) (c2 : wx.cell? ⟨B, 2, none⟩ = some (.int .i64 2)) (c3 : wx.cell? ⟨B, 3, none⟩ = some (.slice none 0 0)) (fz : ∀ x, wx.frozen? ⟨B, x, none⟩ = false)
    (h6 : CR w6 g6 code) (h6B : g6 ≠ B) (o6 : OutB [B] w6 wx) (hAB : AB ≠ B)
    (a0 : wx.cell? ⟨AB, 0, none⟩ = some (.int .i64 (nwI 1 0 t 1))) (a1 : wx.cell? ⟨AB, 1, none⟩ = some (.int .i64 (nwI 1 0 t 0))) (a2 : wx.cell? ⟨AB, 2, none⟩ = some (.slice ra (nwR 1 0 t).length rc)) (a3 : wx.cell? ⟨AB, 3, none⟩ = some (.slice none 0 0)) (a4 : wx.cell? ⟨AB, 4, none⟩ = some (.slice none 0 0))
    (h5 : RA w5 lo t ra rc) (o5 : OutB [B] w5 wx) (hB5 : B < lo ∨ w5.heap.size ≤ B) (h6w : w0.heap.size ≤ g6) (hAw : w0.heap.size ≤ AB) (hlw : w0.heap.size ≤ lo) : Nw w0 wx code t B (some ⟨g6, 0, none⟩) cc (some ⟨AB, 0, none⟩) ac := by
  refine ⟨hbel, hlo, c0, c1, c2, c3, fz, fun w' ho => ?_, fun w' ho => ?_⟩
  · have hz := o6.size
    exact h6.2 w' (by rw [ho g6 h6w (by have := h6.1; omega) h6B, o6.block g6 h6.1 (by simpa using h6B)])
  · have hA : AB < wx.heap.size := World.block_lt_of_cell? wx _ a0
    have hk : w'.heap[AB]? = wx.heap[AB]? := ho AB hAw hA hAB
    refine oneA ((World.cell?_of_block (w := wx) hk).trans a0) ((World.cell?_of_block (w := wx) hk).trans a1) ((World.cell?_of_block (w := wx) hk).trans a2) ((World.cell?_of_block (w := wx) hk).trans a3) ((World.cell?_of_block (w := wx) hk).trans a4) ?_ h5.1 h5.2.1
    refine RpL.rep (S := fun _ => True) _ _ (Moves.repL (fun b o v hb hv => ⟨trivial, ?_⟩) _ _ h5.2.2)
    have hb' : b < w5.heap.size := World.block_lt_of_cell? w5 _ hv
    have hbB : b ∉ [B] := by
      simp only [List.mem_singleton]
      have hb1 : lo ≤ b := hb
      omega
    have hz := o5.size
    rw [World.cell?_of_block (w := wx) (ho b (Nat.le_trans hlw hb) (by omega) (by simpa using hbB)), World.cell?_of_block (w := w5) (o5.block b hb' hbB)]
    exact hv
theorem outB_one {bs : List Nat} {a : World} (o : Obj) : OutB bs a (a.alloc o) := OutB.below ((Below.refl _ _).alloc (Nat.le_refl _) _)
/-- The variable came last. -/
theorem fin5 {w0 w5 w6 : World} {code : List I} {t : Tm} {g6 cc lo rc : Nat} {ra : Option Addr} (H5 : Below w0.heap.size w0 w5) (h6 : CR w6 g6 code) (h65 : Below w6.heap.size w6 w5) (h5 : RA w5 lo t ra rc) (h6w : w0.heap.size ≤ g6) (hlw : w0.heap.size ≤ lo) :
    Nw w0 ((w5.alloc (.cells #[.int .i64 (nwI 1 0 t 1), .int .i64 (nwI 1 0 t 0), .slice ra (nwR 1 0 t).length rc, .slice none 0 0, .slice none 0 0] 61)).alloc (.cells #[.slice (some ⟨g6, 0, none⟩) code.length cc, .slice (some ⟨w5.heap.size, 0, none⟩) 1 1, .int .i64 2, .slice none 0 0] 32)) code t (w5.heap.size + 1) (some ⟨g6, 0, none⟩) cc (some ⟨w5.heap.size, 0, none⟩) 1 := by
  have hz := H5.size
  have h6z := h65.size
  have h6l := h6.1
  have e1 : (w5.alloc (.cells #[.int .i64 (nwI 1 0 t 1), .int .i64 (nwI 1 0 t 0), .slice ra (nwR 1 0 t).length rc, .slice none 0 0, .slice none 0 0] 61)).heap.size = w5.heap.size + 1 := World.size_alloc _ _
  obtain ⟨X, hX⟩ : ∃ X, X = w5.alloc (.cells #[.int .i64 (nwI 1 0 t 1), .int .i64 (nwI 1 0 t 0), .slice ra (nwR 1 0 t).length rc, .slice none 0 0, .slice none 0 0] 61) := ⟨_, rfl⟩
  have hq : ∀ x, X.cell? ⟨w5.heap.size, x, none⟩ = (#[.int .i64 (nwI 1 0 t 1), .int .i64 (nwI 1 0 t 0), .slice ra (nwR 1 0 t).length rc, .slice none 0 0, .slice none 0 0] : Array Value)[x]? := fun x => by rw [hX, World.cell?_alloc_new]
  have bX : Below w5.heap.size w5 X := by rw [hX]; exact (Below.refl _ _).alloc (Nat.le_refl _) _
  rw [← hX] at e1 ⊢
  obtain ⟨Y, hY⟩ : ∃ Y, Y = X.alloc (.cells #[.slice (some ⟨g6, 0, none⟩) code.length cc, .slice (some ⟨w5.heap.size, 0, none⟩) 1 1, .int .i64 2, .slice none 0 0] 32) := ⟨_, rfl⟩
  have hp : ∀ x, Y.cell? ⟨w5.heap.size + 1, x, none⟩ = (#[.slice (some ⟨g6, 0, none⟩) code.length cc, .slice (some ⟨w5.heap.size, 0, none⟩) 1 1, .int .i64 2, .slice none 0 0] : Array Value)[x]? := fun x => by rw [hY, ← e1, World.cell?_alloc_new]
  have hf : ∀ x, Y.frozen? ⟨w5.heap.size + 1, x, none⟩ = false := fun x => by rw [hY, ← e1, World.frozen?_alloc_new]
  have bY : Below X.heap.size X Y := by rw [hY]; exact (Below.refl _ _).alloc (Nat.le_refl _) _
  have hqY : ∀ x, Y.cell? ⟨w5.heap.size, x, none⟩ = (#[.int .i64 (nwI 1 0 t 1), .int .i64 (nwI 1 0 t 0), .slice ra (nwR 1 0 t).length rc, .slice none 0 0, .slice none 0 0] : Array Value)[x]? := fun x => by rw [bY.cell (p := ⟨w5.heap.size, x, none⟩) (by show w5.heap.size < _; omega)]; exact hq x
  rw [← hY]
  have b5Y : Below w5.heap.size w5 Y := bX.trans (bY.mono bX.size)
  exact mkNw (w5 := w5) (w6 := w6) (lo := lo) (H5.trans (b5Y.mono H5.size)) (by omega) (hp 0) (hp 1) (hp 2) (hp 3) hf h6 (by omega) ((OutB.below h65).trans (OutB.below b5Y)) (by omega) (hqY 0) (hqY 1) (hqY 2) (hqY 3) (hqY 4) h5 (OutB.below b5Y) (.inr (by omega)) h6w (by omega) hlw
/-- The variable came ahead of the one actor. -/
theorem fin4 {w0 w5 w6 : World} {code : List I} {t : Tm} {g6 cc lo rc : Nat} {ra : Option Addr} (H5 : Below w0.heap.size w0 w5) (h6 : CR w6 g6 code) (h65 : Below w6.heap.size w6 w5) (h5 : RA w5 lo t ra rc) (h6w : w0.heap.size ≤ g6) (hlw : w0.heap.size ≤ lo) :
    Nw w0 ((w5.alloc (.cells #[.slice (some ⟨g6, 0, none⟩) code.length cc, .slice (some ⟨w5.heap.size + 1, 0, none⟩) 1 1, .int .i64 2, .slice none 0 0] 32)).alloc (.cells #[.int .i64 (nwI 1 0 t 1), .int .i64 (nwI 1 0 t 0), .slice ra (nwR 1 0 t).length rc, .slice none 0 0, .slice none 0 0] 61)) code t w5.heap.size (some ⟨g6, 0, none⟩) cc (some ⟨w5.heap.size + 1, 0, none⟩) 1 := by
  have hz := H5.size
  have h6z := h65.size
  have h6l := h6.1
  obtain ⟨X, hX⟩ : ∃ X, X = w5.alloc (.cells #[.slice (some ⟨g6, 0, none⟩) code.length cc, .slice (some ⟨w5.heap.size + 1, 0, none⟩) 1 1, .int .i64 2, .slice none 0 0] 32) := ⟨_, rfl⟩
  have e1 : X.heap.size = w5.heap.size + 1 := by rw [hX]; exact World.size_alloc _ _
  have hq : ∀ x, X.cell? ⟨w5.heap.size, x, none⟩ = (#[.slice (some ⟨g6, 0, none⟩) code.length cc, .slice (some ⟨w5.heap.size + 1, 0, none⟩) 1 1, .int .i64 2, .slice none 0 0] : Array Value)[x]? := fun x => by rw [hX, World.cell?_alloc_new]
  have hf : ∀ x, X.frozen? ⟨w5.heap.size, x, none⟩ = false := fun x => by rw [hX, World.frozen?_alloc_new]
  have bX : Below w5.heap.size w5 X := by rw [hX]; exact (Below.refl _ _).alloc (Nat.le_refl _) _
  rw [← hX]
  obtain ⟨Y, hY⟩ : ∃ Y, Y = X.alloc (.cells #[.int .i64 (nwI 1 0 t 1), .int .i64 (nwI 1 0 t 0), .slice ra (nwR 1 0 t).length rc, .slice none 0 0, .slice none 0 0] 61) := ⟨_, rfl⟩
  have hp : ∀ x, Y.cell? ⟨w5.heap.size + 1, x, none⟩ = (#[.int .i64 (nwI 1 0 t 1), .int .i64 (nwI 1 0 t 0), .slice ra (nwR 1 0 t).length rc, .slice none 0 0, .slice none 0 0] : Array Value)[x]? := fun x => by rw [hY, ← e1, World.cell?_alloc_new]
  have bY : Below X.heap.size X Y := by rw [hY]; exact (Below.refl _ _).alloc (Nat.le_refl _) _
  have hqY : ∀ x, Y.cell? ⟨w5.heap.size, x, none⟩ = (#[.slice (some ⟨g6, 0, none⟩) code.length cc, .slice (some ⟨w5.heap.size + 1, 0, none⟩) 1 1, .int .i64 2, .slice none 0 0] : Array Value)[x]? := fun x => by rw [bY.cell (p := ⟨w5.heap.size, x, none⟩) (by show w5.heap.size < _; omega)]; exact hq x
  have hfY : ∀ x, Y.frozen? ⟨w5.heap.size, x, none⟩ = false := fun x => by rw [bY.frozen (p := ⟨w5.heap.size, x, none⟩) (by show w5.heap.size < _; omega)]; exact hf x
  rw [← hY]
  have b5Y : Below w5.heap.size w5 Y := bX.trans (bY.mono bX.size)
  exact mkNw (w5 := w5) (w6 := w6) (lo := lo) (H5.trans (b5Y.mono H5.size)) (by omega) (hqY 0) (hqY 1) (hqY 2) (hqY 3) hfY h6 (by omega) ((OutB.below h65).trans (OutB.below b5Y)) (by omega) (hp 0) (hp 1) (hp 2) (hp 3) (hp 4) h5 (OutB.below b5Y) (.inr (by omega)) h6w (by omega) hlw
/-- The variable came ahead of the actor's making: it is written in its place. -/
theorem finS {w0 w5 w6 : World} {code : List I} {t : Tm} {B g6 cc lo rc : Nat} {ra : Option Addr} (H5 : Below w0.heap.size w0 w5) (hlo : w0.heap.size ≤ B) (z : ZP w5 B) (h6 : CR w6 g6 code) (h6B : g6 ≠ B) (h65 : Below w6.heap.size w6 w5) (h5 : RA w5 lo t ra rc) (hB : B < lo) (h6w : w0.heap.size ≤ g6) (hlw : w0.heap.size ≤ lo) :
    Nw w0 (((((w5.alloc (.cells #[.int .i64 (nwI 1 0 t 1), .int .i64 (nwI 1 0 t 0), .slice ra (nwR 1 0 t).length rc, .slice none 0 0, .slice none 0 0] 61)).setCell ⟨B, 0, none⟩ (.slice (some ⟨g6, 0, none⟩) code.length cc)).setCell ⟨B, 1, none⟩ (.slice (some ⟨w5.heap.size, 0, none⟩) 1 1)).setCell ⟨B, 2, none⟩ (.int .i64 2)).setCell ⟨B, 3, none⟩ (.slice none 0 0)) code t B (some ⟨g6, 0, none⟩) cc (some ⟨w5.heap.size, 0, none⟩) 1 := by
  have hz := H5.size
  have zl := z.lt
  obtain ⟨X, hX⟩ : ∃ X, X = w5.alloc (.cells #[.int .i64 (nwI 1 0 t 1), .int .i64 (nwI 1 0 t 0), .slice ra (nwR 1 0 t).length rc, .slice none 0 0, .slice none 0 0] 61) := ⟨_, rfl⟩
  have zX : ZP X B := by rw [hX]; exact z.alloc _
  have hq : ∀ x, X.cell? ⟨w5.heap.size, x, none⟩ = (#[.int .i64 (nwI 1 0 t 1), .int .i64 (nwI 1 0 t 0), .slice ra (nwR 1 0 t).length rc, .slice none 0 0, .slice none 0 0] : Array Value)[x]? := fun x => by rw [hX, World.cell?_alloc_new]
  have bX : Below w5.heap.size w5 X := by rw [hX]; exact (Below.refl _ _).alloc (Nat.le_refl _) _
  have e1 : w5.heap.size < X.heap.size := by rw [hX]; simp
  rw [← hX]
  obtain ⟨Y, hY⟩ : ∃ Y, Y = ((((X.setCell ⟨B, 0, none⟩ (.slice (some ⟨g6, 0, none⟩) code.length cc)).setCell ⟨B, 1, none⟩ (.slice (some ⟨w5.heap.size, 0, none⟩) 1 1)).setCell ⟨B, 2, none⟩ (.int .i64 2)).setCell ⟨B, 3, none⟩ (.slice none 0 0)) := ⟨_, rfl⟩
  have oY : OutB [B] X Y := by rw [hY]; exact ((((OutB.refl [B] X).set (by simp) 0 _).set (by simp) 1 _).set (by simp) 2 _).set (by simp) 3 _
  have bY : Below w5.heap.size w5 X := bX
  have bH : Below w0.heap.size w0 Y := by rw [hY]; exact belS (belS (belS (belS (H5.trans (bX.mono H5.size)) hlo) hlo) hlo) hlo
  have kq : ∀ x, Y.cell? ⟨w5.heap.size, x, none⟩ = (#[.int .i64 (nwI 1 0 t 1), .int .i64 (nwI 1 0 t 0), .slice ra (nwR 1 0 t).length rc, .slice none 0 0, .slice none 0 0] : Array Value)[x]? := fun x => by
    rw [World.cell?_of_block (w := X) (oY.block w5.heap.size e1 (by simp; omega))]; exact hq x
  obtain ⟨⟨z0, z1, z2, z3⟩, zf⟩ := zX.cells
  have ne : ∀ i j : Nat, i ≠ j → (⟨B, i, none⟩ : Addr) ≠ ⟨B, j, none⟩ := fun i j h e => h (by simp only [Addr.mk.injEq] at e; omega)
  have p0 : Y.cell? ⟨B, 0, none⟩ = some (.slice (some ⟨g6, 0, none⟩) code.length cc) := by
    rw [hY, World.cell?_setCell_other (h := ne _ _ (by omega)), World.cell?_setCell_other (h := ne _ _ (by omega)), World.cell?_setCell_other (h := ne _ _ (by omega)), World.cell?_setCell_same _ _ _ z0]
  have p1 : Y.cell? ⟨B, 1, none⟩ = some (.slice (some ⟨w5.heap.size, 0, none⟩) 1 1) := by
    rw [hY, World.cell?_setCell_other (h := ne _ _ (by omega)), World.cell?_setCell_other (h := ne _ _ (by omega))]
    exact World.cell?_setCell_same _ _ _ (by rw [World.cell?_setCell_other (h := ne _ _ (by omega))]; exact z1)
  have p2 : Y.cell? ⟨B, 2, none⟩ = some (.int .i64 2) := by
    rw [hY, World.cell?_setCell_other (h := ne _ _ (by omega))]
    exact World.cell?_setCell_same _ _ _ (by rw [World.cell?_setCell_other (h := ne _ _ (by omega)), World.cell?_setCell_other (h := ne _ _ (by omega))]; exact z2)
  have p3 : Y.cell? ⟨B, 3, none⟩ = some (.slice none 0 0) := by
    rw [hY]
    exact World.cell?_setCell_same _ _ _ (by rw [World.cell?_setCell_other (h := ne _ _ (by omega)), World.cell?_setCell_other (h := ne _ _ (by omega)), World.cell?_setCell_other (h := ne _ _ (by omega))]; exact z3)
  have pf : ∀ x, Y.frozen? ⟨B, x, none⟩ = false := fun x => by rw [hY]; simp only [World.frozen?_setCell]; exact zf x
  rw [← hY]
  have o5 : OutB [B] w5 Y := (OutB.below bX).trans oY
  exact mkNw (w5 := w5) (w6 := w6) (lo := lo) bH hlo p0 p1 p2 p3 pf h6 h6B ((OutB.below h65).trans o5) (by omega) (kq 0) (kq 1) (kq 2) (kq 3) (kq 4) h5 o5 (.inl hB) h6w hz hlw
/-- A system that is read wherever the blocks from lo on stand. -/
def PlK (lo : Nat) (w' : World) (p : Pl) (h : Pw) : Prop := ∀ wz : World, (∀ b, lo ≤ b → b < w'.heap.size → wz.heap[b]? = w'.heap[b]?) → PlR wz p h
theorem PlK.self {lo : Nat} {w' : World} {p : Pl} {h : Pw} (x : PlK lo w' p h) : PlR w' p h := x w' (fun _ _ _ => rfl)
theorem PlK.of_own {lo : Nat} {w' : World} {p : Pl} {h : Pw} {bs : List Nat} (x : PlO w' p h bs) (hl : ∀ b ∈ bs, lo ≤ b) : PlK lo w' p h := fun wz hz => (x.keep (fun b hb hlt => hz b (hl b hb) hlt)).plR
end Go.Proofs.YtjibnlpjpbileaaGreatDoor
