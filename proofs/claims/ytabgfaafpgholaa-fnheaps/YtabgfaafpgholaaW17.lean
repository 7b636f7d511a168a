/-
  How the specification reads words: one term whole.
  (Ahead of it, in this text: What was read of words is read the same where more words and atoms stand behind them. How the specification reads words: the reader, the words at a place, how many there are.
  How the specification reads words: how many there are; bytes.
  How the specification reads words: terms that are gathered in a variable; a tuple. How the specification reads words: a tuple. How the specification reads words: a list, cell by cell.)
-/
import Derived.Test.YtabgfaafpgholaaW16
import Derived.Test.YtabgfaafpgholaaW7
import Derived.Deep.RegionLaw
import Derived.Test.YtabgfaafpgholaaW9
namespace Go.Proofs.Ytabgfaafpgholaa
open Go.RowKit
set_option linter.unusedVariables false

structure Ext (H H' : Hp) : Prop where
  n : H.N ≤ H'.N
  f : ∀ j, j < H.N → H'.f j = H.f j
  a : ∃ C, H'.A = H.A ++ C
theorem ext_TR {H H' : Hp} (he : Ext H H') {g g' : Rd} (hg : ∀ w left t x, g w left = some (t, x) → g' w left = some (t, x)) : ∀ (l : List Tm) (p left x : Nat), p + l.length ≤ H.N → TR H g l p left x → TR H' g' l p left x
  | [], p, left, x, _, h => by rw [TR] at h ⊢; exact h
  | t :: r, p, left, x, hp, h => by
    rw [TR] at h ⊢
    obtain ⟨y, h1, h2⟩ := h
    rw [List.length_cons] at hp
    exact ⟨y, by rw [he.f p (by omega)]; exact hg _ _ _ _ h1, ext_TR he hg r (p + 1) y x (by omega) h2⟩
theorem ext_LR {H H' : Hp} (he : Ext H H') {g g' : Rd} (hg : ∀ w left t x, g w left = some (t, x) → g' w left = some (t, x)) : ∀ (l : List Tm) (w : Int) (left x : Nat), LR H g l w left x → LR H' g' l w left x
  | [], w, left, x, h => by rw [LR] at h ⊢; exact h
  | t :: r, w, left, x, h => by
    rw [LR] at h ⊢
    obtain ⟨h1, h2, y, h3, h4⟩ := h
    have hv := h2.2
    have hv0 := valW_ge w
    have hn := he.n
    exact ⟨h1, ⟨h2.1, by omega⟩, y, by rw [he.f _ (by omega)]; exact hg _ _ _ _ h3, by rw [he.f _ (by omega)]; exact ext_LR he hg r _ y x h4⟩
theorem ext_cnt {H H' : Hp} (he : Ext H H') {v most : Int} (hv : 0 ≤ v) {n : Nat} (h : cnt H v most = some n) : cnt H' v most = some n ∧ v.toNat + 1 + n ≤ H.N := by
  obtain ⟨h1, h2, h3, h4, h5⟩ := cnt_some h
  have e := he.f v.toNat (by omega)
  have hn := he.n
  refine ⟨?_, by omega⟩
  unfold cnt
  rw [e, if_pos ⟨by omega, h2, h3, by omega⟩]
  congr 1
  omega
theorem ext_raw {H H' : Hp} (he : Ext H H') {g g' : Rd} (hg : ∀ w left t x, g w left = some (t, x) → g' w left = some (t, x)) {c : Bool} {w : Int} {left : Nat} {t : Tm} {x : Nat} (h : raw c H g w left = some (t, x)) : raw c H' g' w left = some (t, x) := by
  have hv0 := valW_ge w
  unfold raw at h ⊢
  split at h
  · rename_i t0; rw [if_pos t0]; exact h
  rename_i t0; rw [if_neg t0]
  split at h
  · rename_i t1
    rw [if_pos t1]
    unfold rAtom at h ⊢
    split at h
    · rename_i hlt
      obtain ⟨C, hC⟩ := he.a
      rw [if_pos (by rw [hC]; simp; omega), hC, List.getD_eq_getElem?_getD, List.getElem?_append_left (by omega), ← List.getD_eq_getElem?_getD]
      exact h
    · cases h
  rename_i t1; rw [if_neg t1]
  split at h
  · rename_i t2; rw [if_pos t2]; exact h
  rename_i t2; rw [if_neg t2]
  split at h
  · rename_i t4
    rw [if_pos t4]
    unfold rCnt at h ⊢
    split at h
    · cases h
    rename_i n hn
    obtain ⟨hc, hb⟩ := ext_cnt he hv0 hn
    obtain ⟨l, hl, rfl⟩ := tup_some.1 h
    obtain ⟨e1, e2⟩ := (rTs_iff H g _ _ _ _ _).1 hl
    rw [hc]
    exact tup_some.2 ⟨l, (rTs_iff H' g' _ _ _ _ _).2 ⟨e1, ext_TR he hg l _ _ _ (by omega) e2⟩, rfl⟩
  rename_i t4; rw [if_neg t4]
  split at h
  · rename_i t6
    rw [if_pos t6]
    unfold rBin at h ⊢
    split at h
    · cases h
    rename_i n hn
    obtain ⟨hc, hb⟩ := ext_cnt he hv0 hn
    rw [hc]
    have e : wordsAt H' ((valW w).toNat + 1) n = wordsAt H ((valW w).toNat + 1) n := by
      unfold wordsAt
      apply List.map_congr_left
      intro j hj
      have := List.mem_range.1 hj
      exact he.f _ (by omega)
    show bin left (txt _) = _
    rw [e]
    exact h
  rename_i t6; rw [if_neg t6]
  split at h
  · cases h
  rename_i t7; rw [if_neg t7]
  obtain ⟨l, hl, rfl⟩ := tup_some.1 h
  obtain ⟨e1, e2⟩ := (rL_iff H g _ _ _ _ _).1 hl
  exact tup_some.2 ⟨l, (rL_iff H' g' _ _ _ _ _).2 ⟨e1, ext_LR he hg l _ _ _ e2⟩, rfl⟩
theorem ext_rT {H H' : Hp} (he : Ext H H') : ∀ (d : Nat) (w : Int) (left : Nat) (t : Tm) (x : Nat), rT true H d w left = some (t, x) → rT true H' d w left = some (t, x)
  | 0, w, left, t, x, h => by rw [rT] at h; cases h
  | d + 1, w, left, t, x, h => by
    rw [rT] at h ⊢
    by_cases hc : (if true then isW w else decide (0 ≤ w)) = true ∧ 0 < left
    · rw [if_pos hc] at h ⊢
      obtain ⟨h1, h2⟩ := held_true.1 h
      exact held_true.2 ⟨ext_raw he (ext_rT he d) h1, h2⟩
    · rw [if_neg hc] at h; cases h
theorem ext_readT {H H' : Hp} (he : Ext H H') {w : Int} {t : Tm} (h : readT H w = some t) : readT H' w = some t := by
  unfold readT at h ⊢
  cases hq : rT true H 6 w 100 with
  | none => rw [hq] at h; cases h
  | some p =>
    obtain ⟨t', x⟩ := p
    rw [hq] at h
    simp only [Option.map_some, Option.some.injEq] at h
    subst h
    rw [ext_rT he 6 w 100 t' x hq]
    rfl
end Go.Proofs.Ytabgfaafpgholaa
namespace Go.Proofs.Ytabgfaafpgholaa
open Go.RowKit
set_option linter.unusedVariables false

structure Sr (E : Env) (left : Int) (bad : Bool) (w : World) : Prop where
  c0 : w.cell? ⟨E.rb, 0, none⟩ = some (.slice E.wv E.H.N E.cap)
  c1 : w.cell? ⟨E.rb, 1, none⟩ = some (.slice E.av E.H.A.length E.acap)
  c2 : w.cell? ⟨E.rb, 2, none⟩ = some (.int .i64 left)
  c3 : w.cell? ⟨E.rb, 3, none⟩ = some (.bool bad)
  fr : ∀ o, w.frozen? ⟨E.rb, o, none⟩ = false
  src : Src E w
  wn : E.H.N ≠ 0 → E.b ≠ E.rb
  an : E.H.A.length ≠ 0 → E.ab ≠ E.rb
theorem Sr.lt {E : Env} {left : Int} {bad : Bool} {w : World} (h : Sr E left bad w) : E.rb < w.heap.size := World.block_lt_of_cell? w _ h.c0
theorem Src.same {E : Env} {w w1 w2 : World} (h0 : Src E w) (h : Src E w1) (hk : ∀ k, k < w.heap.size → w2.heap[k]? = w1.heap[k]?) : Src E w2 := by
  have e : ∀ b o, b < w.heap.size → w2.cell? ⟨b, o, none⟩ = w1.cell? ⟨b, o, none⟩ := fun b o hb => World.cell?_of_block (w := w1) (hk b hb)
  exact ⟨h.ok, h.wl, h.al, fun j hj => by rw [e _ _ (World.block_lt_of_cell? w _ (h0.ws j hj))]; exact h.ws j hj, fun j hj => by rw [e _ _ (World.block_lt_of_cell? w _ (h0.ats j hj))]; exact h.ats j hj, h.cp, h.big, h.txt⟩
theorem Sr.same {E : Env} {l0 left : Int} {b0 bad : Bool} {w w1 w2 : World} (h0 : Sr E l0 b0 w) (h : Sr E left bad w1) (hk : ∀ k, k < w.heap.size → w2.heap[k]? = w1.heap[k]?) : Sr E left bad w2 := by
  have e : ∀ b o, b < w.heap.size → w2.cell? ⟨b, o, none⟩ = w1.cell? ⟨b, o, none⟩ := fun b o hb => World.cell?_of_block (w := w1) (hk b hb)
  have hr := h0.lt
  exact ⟨by rw [e _ _ hr]; exact h.c0, by rw [e _ _ hr]; exact h.c1, by rw [e _ _ hr]; exact h.c2, by rw [e _ _ hr]; exact h.c3, fun o => by rw [World.frozen?_of_block (w := w1) (hk E.rb hr)]; exact h.fr o, h0.src.same h.src hk, h.wn, h.an⟩
theorem Sr.below {E : Env} {left : Int} {bad : Bool} {w w' : World} (h : Sr E left bad w) (hb : Below w.heap.size w w') : Sr E left bad w' := h.same h (fun k hk => hb.block k hk)
theorem Src.set {E : Env} {w : World} (h : Src E w) (wn : E.H.N ≠ 0 → E.b ≠ E.rb) (an : E.H.A.length ≠ 0 → E.ab ≠ E.rb) (o : Nat) (v : Value) : Src E (w.setCell ⟨E.rb, o, none⟩ v) := by
  have e : ∀ b o', b ≠ E.rb → (w.setCell ⟨E.rb, o, none⟩ v).cell? ⟨b, o', none⟩ = w.cell? ⟨b, o', none⟩ := fun b o' hn => by
    rw [World.cell?_setCell_other (h := fun e => by simp only [Addr.mk.injEq] at e; exact hn e.1.symm)]
  exact ⟨h.ok, h.wl, h.al, fun j hj => by rw [e _ _ (wn (by omega))]; exact h.ws j hj, fun j hj => by rw [e _ _ (an (by omega))]; exact h.ats j hj, h.cp, h.big, h.txt⟩
theorem Sr.setL {E : Env} {left : Int} {bad : Bool} {w : World} (h : Sr E left bad w) (x : Int) : Sr E x bad (w.setCell ⟨E.rb, 2, none⟩ (.int .i64 x)) := by
  have e : ∀ o, o ≠ 2 → (w.setCell ⟨E.rb, 2, none⟩ (.int .i64 x)).cell? ⟨E.rb, o, none⟩ = w.cell? ⟨E.rb, o, none⟩ := fun o hn => by
    rw [World.cell?_setCell_other (h := fun e => by simp only [Addr.mk.injEq] at e; omega)]
  exact ⟨by rw [e _ (by omega)]; exact h.c0, by rw [e _ (by omega)]; exact h.c1, World.cell?_setCell_same w _ _ h.c2, by rw [e _ (by omega)]; exact h.c3, fun o => by rw [World.frozen?_setCell]; exact h.fr o, h.src.set h.wn h.an 2 _, h.wn, h.an⟩
theorem Sr.setB {E : Env} {left : Int} {bad : Bool} {w : World} (h : Sr E left bad w) (x : Bool) : Sr E left x (w.setCell ⟨E.rb, 3, none⟩ (.bool x)) := by
  have e : ∀ o, o ≠ 3 → (w.setCell ⟨E.rb, 3, none⟩ (.bool x)).cell? ⟨E.rb, o, none⟩ = w.cell? ⟨E.rb, o, none⟩ := fun o hn => by
    rw [World.cell?_setCell_other (h := fun e => by simp only [Addr.mk.injEq] at e; omega)]
  exact ⟨by rw [e _ (by omega)]; exact h.c0, by rw [e _ (by omega)]; exact h.c1, by rw [e _ (by omega)]; exact h.c2, World.cell?_setCell_same w _ _ h.c3, fun o => by rw [World.frozen?_setCell]; exact h.fr o, h.src.set h.wn h.an 3 _, h.wn, h.an⟩

end Go.Proofs.Ytabgfaafpgholaa

namespace Go.Proofs.Ytabgfaafpgholaa
open Go.RowKit
set_option linter.unusedVariables false

/-- What is kept of a number in a byte. -/
def u8w (x : Int) : Int := IntKind.u8.wrap x
theorem u8w_byte (x : Int) : isByte (u8w x) = true := by
  unfold isByte u8w
  rw [IntKind.wrap_u8]
  simp
  omega
theorem u8w_all {l : List Int} (h : l.all isByte = true) : l.map u8w = l := by
  induction l with
  | nil => rfl
  | cons x r ih =>
    simp only [List.all_cons, Bool.and_eq_true] at h
    rw [List.map_cons, ih h.2]
    unfold u8w
    rw [isByte_wrap h.1]
theorem inB_byte (x : Int) : inB x 0 255 = isByte x := rfl

/-- What stands behind the word that says how many. -/
def CW (E : Env) (p : Nat) (most : Int) (w : World) (g o' m : Nat) (bad : Bool) : Prop :=
  (∀ j, j < m → w.cell? ⟨g, o' + j, none⟩ = some (.int .i64 (E.H.f (p + 1 + j))) ∧ g ≠ E.rb) ∧ ((bad = false ∧ cnt E.H p most = some m ∧ (m : Int) ≤ most) ∨ (bad = true ∧ cnt E.H p most = none ∧ m = 0))
theorem cw_of {E : Env} {left : Int} {p c m g o' : Nat} {most : Int} {bad1 bad2 : Bool} {w2 : World} (hs : Sr E left bad2 w2)
    (h1 : (bad1 = false ∧ p + 1 ≤ E.H.N ∧ (c : Int) = E.H.f p ∧ (c : Int) ≤ most) ∨ (bad1 = true ∧ c = 0 ∧ ¬ (p + 1 ≤ E.H.N ∧ 0 ≤ E.H.f p ∧ E.H.f p ≤ most)))
    (h2 : (bad1 = false ∧ p + 1 + c ≤ E.H.N ∧ bad2 = false ∧ m = c ∧ (c ≠ 0 → g = E.b ∧ o' = E.o + (p + 1))) ∨ ((bad1 = true ∨ ¬ p + 1 + c ≤ E.H.N) ∧ bad2 = true ∧ m = 0)) : CW E p most w2 g o' m bad2 := by
  rcases h2 with ⟨hb, hn, rfl, rfl, ho⟩ | ⟨hb, rfl, rfl⟩
  · rcases h1 with ⟨_, ha, hf, hm⟩ | ⟨hb', _⟩
    · refine ⟨fun j hj => ?_, .inl ⟨rfl, ?_, hm⟩⟩
      · obtain ⟨rfl, rfl⟩ := ho (by omega)
        exact ⟨by rw [Nat.add_assoc]; exact hs.src.ws (p + 1 + j) (by omega), hs.wn (by omega)⟩
      · unfold cnt
        rw [Int.toNat_natCast, if_pos ⟨by omega, by omega, by omega, by omega⟩, ← hf]
        simp
    · rw [hb] at hb'; cases hb'
  · refine ⟨fun j hj => absurd hj (by omega), .inr ⟨rfl, ?_, rfl⟩⟩
    unfold cnt
    rw [Int.toNat_natCast]
    rcases h1 with ⟨hb', ha, hf, hm⟩ | ⟨hb', _, hx⟩
    · rw [if_neg]
      rintro ⟨_, _, _, h4⟩
      rcases hb with hb | hb
      · rw [hb'] at hb; cases hb
      · omega
    · rw [if_neg]
      rintro ⟨a1, a2, a3, _⟩
      exact hx ⟨by omega, a2, a3⟩

theorem grow_keep {E : Env} {l0 left : Int} {b0 bad : Bool} {w2 wr w5 : World} {o : Obj} {row : Option Nat} (h0 : Sr E l0 b0 w2) (ht : Turn E.rb w2 wr) (hs : Sr E left bad wr) (hgr : (wr.alloc o).grownBy w5 row) (hrow : ∀ k, row = some k → w2.heap.size ≤ k) : Turn E.rb w2 w5 ∧ Sr E left bad w5 := by
  have hz := ht.size
  have hs1 : (wr.alloc o).heap.size = wr.heap.size + 1 := World.size_alloc _ _
  have hk : ∀ k, k < w2.heap.size → w5.heap[k]? = wr.heap[k]? := fun k hk => by
    rw [hgr.block k (by rw [hs1]; omega) (fun e => by have := hrow k e.symm; omega)]
    show (wr.heap.push _)[k]? = _
    rw [Array.getElem?_push, if_neg (by omega)]
  exact ⟨⟨hgr.os.trans ht.os, hgr.tape.trans ht.tape, hgr.output.trans ht.output, by have := hgr.size; omega, fun k hkl hkn => (hk k hkl).trans (ht.block k hkl hkn)⟩, h0.same hs hk⟩
theorem src8s (w : World) (p : Addr) (v : Value) (x : Int) (t : TypeId) : ∀ j u, [Value.int .u8 x][j]? = some u → ((w.setCell p v).alloc (.cells #[.int .u8 x] t)).cell? ((⟨w.heap.size, 0, none⟩ : Addr).add j) = some u := fun j u hu => by
  have := src8 (w.setCell p v) x t j u hu
  rw [World.size_setCell] at this
  exact this
theorem take_all (l : List Int) (k : Nat) (h : k < l.length) : (l.take (k + 1)).all isByte = ((l.take k).all isByte && isByte l[k]) := by
  rw [List.take_add_one, List.getElem?_eq_getElem h, List.all_append]
  simp only [Option.toList, List.all_cons, List.all_nil, Bool.and_true]
theorem take_map (l : List Int) (k : Nat) (h : k < l.length) : (l.take (k + 1)).map u8w = (l.take k).map u8w ++ [u8w l[k]] := by
  rw [List.take_add_one, List.getElem?_eq_getElem h, List.map_append]
  rfl

end Go.Proofs.Ytabgfaafpgholaa

namespace Go.Proofs.Ytabgfaafpgholaa
open Go.RowKit
set_option linter.unusedVariables false

/-- A list that is gathered in the variable tb, while the terms in it are read. -/
structure GS (E : Env) (w wr : World) (tb : Nat) (K : Int) (l : List Tm) (u : Value) (xs : List Value) : Prop where
  turn : Turn E.rb w wr
  old : E.rb < w.heap.size
  up : w.heap.size < tb
  lt : tb < wr.heap.size
  t0 : wr.cell? ⟨tb, 0, none⟩ = some (.int .i64 K)
  t1 : wr.cell? ⟨tb, 1, none⟩ = some (.int .i64 0)
  t2 : wr.cell? ⟨tb, 2, none⟩ = some (.string ⟨#[]⟩)
  t3 : wr.cell? ⟨tb, 3, none⟩ = some u
  tf : ∀ o, wr.frozen? ⟨tb, o, none⟩ = false
  r : ∀ j, j < 4 → ∃ v, wr.cell? ⟨w.heap.size, j, none⟩ = some v
  rf : ∀ o, wr.frozen? ⟨w.heap.size, o, none⟩ = false
  own : wr.ownsRow (tb + 1) 39 4 u l.length xs
  row : Row (fun b => tb + 1 ≤ b ∧ u.ownBlock ≠ some b) wr l xs
theorem GS.call {E : Env} {w wr w1 : World} {tb : Nat} {K : Int} {l : List Tm} {u : Value} {xs : List Value} (h : GS E w wr tb K l u xs) (t : Turn E.rb wr w1) : GS E w w1 tb K l u xs := by
  have hne : tb ≠ E.rb := by have := h.old; have := h.up; omega
  have hnr : w.heap.size ≠ E.rb := by have := h.old; omega
  refine ⟨h.turn.trans t, h.old, h.up, Nat.lt_of_lt_of_le h.lt t.size, t.cell hne h.t0, t.cell hne h.t1, t.cell hne h.t2, t.cell hne h.t3, fun o => ?_, fun j hj => ?_, fun o => ?_, ?_, ?_⟩
  · rw [t.frozen hne h.lt]; exact h.tf o
  · obtain ⟨v, hv⟩ := h.r j hj
    exact ⟨v, t.cell hnr hv⟩
  · rw [t.frozen hnr (Nat.lt_trans h.up h.lt)]; exact h.rf o
  · refine h.own.kept t.grown (Or.inr (fun e => ?_))
    have := (h.own.lt _ e).1
    have := h.old; have := h.up; omega
  · exact ⟨h.row.1, fun i hi => (h.row.2 i hi).move (Moves.turn (fun b hb e => by have := h.old; have := h.up; have := hb.1; omega) t)⟩
/-- One more is read, laid down in a block, appended, and the variable turned. -/
theorem GS.more {E : Env} {w wr w1 w2 : World} {tb : Nat} {K : Int} {l : List Tm} {u : Value} {xs : List Value}
    (h : GS E w wr tb K l u xs) (hd : Turn E.rb wr w1) {t : Tm} {a b c d : Value} (hv : RpV (fun b => wr.heap.size ≤ b) w1 t (.agg #[a, b, c, d])) {o : Obj}
    {g cap' : Nat} (hown : w2.ownsRow (tb + 1) 39 4 (.slice (some ⟨g, 0, none⟩) (l.length + 1) cap') (l.length + 1) (xs ++ [a, b, c, d])) (hgrow : (w1.alloc o).grownBy w2 u.ownBlock) (hat : u.ownBlock = some g ∨ g = w1.heap.size + 1) (hlt : g < w2.heap.size) :
    GS E w (w2.setCell ⟨tb, 3, none⟩ (.slice (some ⟨g, 0, none⟩) (l.length + 1) cap')) tb K (l ++ [t]) (.slice (some ⟨g, 0, none⟩) (l.length + 1) cap') (xs ++ [a, b, c, d]) ∧ (∀ k, k < tb → (w2.setCell ⟨tb, 3, none⟩ (.slice (some ⟨g, 0, none⟩) (l.length + 1) cap')).heap[k]? = w1.heap[k]?) := by
  have h1 := h.call hd
  have hs1 : (w1.alloc o).heap.size = w1.heap.size + 1 := World.size_alloc _ _
  have hun : ∀ k, k < tb + 1 → some k ≠ u.ownBlock := fun k hk e => by have := (h.own.lt k e.symm).1; omega
  have hcell : ∀ p o' v, some p ≠ u.ownBlock → w1.cell? ⟨p, o', none⟩ = some v → w2.cell? ⟨p, o', none⟩ = some v := fun p o' v hp hc => by
    have hpl := World.block_lt_of_cell? w1 _ hc
    rw [hgrow.cell_far ⟨p, o', none⟩ (by rw [hs1]; exact Nat.lt_succ_of_lt hpl) hp, World.cell?_alloc_lt (h := hpl)]; exact hc
  have hfroz : ∀ p o', p < w1.heap.size → some p ≠ u.ownBlock → w2.frozen? ⟨p, o', none⟩ = w1.frozen? ⟨p, o', none⟩ := fun p o' hpl hp => by
    rw [hgrow.frozen_far ⟨p, o', none⟩ (by rw [hs1]; exact Nat.lt_succ_of_lt hpl) hp, World.frozen?_alloc_old (h := by show p ≠ _; omega)]
  have hset : ∀ p o' v, (p ≠ tb ∨ o' ≠ 3) → w2.cell? ⟨p, o', none⟩ = some v → (w2.setCell ⟨tb, 3, none⟩ (.slice (some ⟨g, 0, none⟩) (l.length + 1) cap')).cell? ⟨p, o', none⟩ = some v := fun p o' v hp hc => by
    rw [World.cell?_setCell_other (h := fun e => by simp at e; omega)]; exact hc
  have hgb : tb + 1 ≤ g := (hown.lt g rfl).1
  have hll : (l ++ [t]).length = l.length + 1 := by simp
  have hul : tb < w1.heap.size := h1.lt
  have hwl : w.heap.size < w1.heap.size := Nat.lt_trans h.up hul
  have hk : ∀ k, k < tb → (w2.setCell ⟨tb, 3, none⟩ (.slice (some ⟨g, 0, none⟩) (l.length + 1) cap')).heap[k]? = w1.heap[k]? := fun k hkt => by
    rw [Below.heap_setCell w2 ⟨tb, 3, none⟩ _ k (by show k ≠ tb; omega), hgrow.block k (by rw [hs1]; omega) (hun k (by omega))]
    show (w1.heap.push _)[k]? = _
    rw [Array.getElem?_push, if_neg (by omega)]
  have hsz : (w2.setCell ⟨tb, 3, none⟩ (.slice (some ⟨g, 0, none⟩) (l.length + 1) cap')).heap.size = w2.heap.size := World.size_setCell ..
  have hsz2 : w1.heap.size + 1 ≤ w2.heap.size := by rw [← hs1]; exact hgrow.size
  have htb : some tb ≠ u.ownBlock := hun tb (by omega)
  have hrb : some w.heap.size ≠ u.ownBlock := hun _ (by have := h.up; omega)
  have hup := h.up
  have hold := h.old
  have hmv : Moves (fun b => tb + 1 ≤ b ∧ u.ownBlock ≠ some b) (fun b => tb + 1 ≤ b ∧ (Value.slice (some ⟨g, 0, none⟩) (l.length + 1) cap').ownBlock ≠ some b) w1 (w2.setCell ⟨tb, 3, none⟩ (.slice (some ⟨g, 0, none⟩) (l.length + 1) cap')) := fun p o' v hp hc => by
    have hpl := World.block_lt_of_cell? w1 _ hc
    refine ⟨⟨hp.1, fun e => ?_⟩, hset p o' v (Or.inl (by have := hp.1; omega)) (hcell p o' v (fun e => hp.2 e.symm) hc)⟩
    simp only [Value.ownBlock, Option.some.injEq] at e
    subst e
    rcases hat with hat | hat
    · exact hp.2 hat
    · have : g < w1.heap.size := hpl
      omega
  have hmn : Moves (fun b => wr.heap.size ≤ b) (fun b => tb + 1 ≤ b ∧ (Value.slice (some ⟨g, 0, none⟩) (l.length + 1) cap').ownBlock ≠ some b) w1 (w2.setCell ⟨tb, 3, none⟩ (.slice (some ⟨g, 0, none⟩) (l.length + 1) cap')) := fun p o' v hp hc => by
    have hpl : p < w1.heap.size := World.block_lt_of_cell? w1 _ hc
    have hpo : some p ≠ u.ownBlock := fun e => by have := (h.own.lt p e.symm).2; omega
    refine ⟨⟨by have := h.lt; omega, fun e => ?_⟩, hset p o' v (Or.inl (by have := h.lt; omega)) (hcell p o' v hpo hc)⟩
    simp only [Value.ownBlock, Option.some.injEq] at e
    subst e
    rcases hat with hat | hat
    · exact hpo hat.symm
    · omega
  refine ⟨⟨?_, hold, hup, by rw [hsz]; omega, hset _ _ _ (Or.inr (by omega)) (hcell _ _ _ htb h1.t0), hset _ _ _ (Or.inr (by omega)) (hcell _ _ _ htb h1.t1), hset _ _ _ (Or.inr (by omega)) (hcell _ _ _ htb h1.t2), World.cell?_setCell_same w2 _ _ (hcell _ _ _ htb h1.t3), fun o' => ?_, fun j hj => ?_, fun o' => ?_, ?_, Row.snoc hmv h1.row (hmn.repV hv)⟩, hk⟩
  · have t := h1.turn
    exact ⟨hgrow.os.trans t.os, hgrow.tape.trans t.tape, hgrow.output.trans t.output, by rw [hsz]; omega, fun k hkl hkn => (hk k (by omega)).trans (t.block k hkl hkn)⟩
  · rw [World.frozen?_setCell, hfroz tb o' hul htb]; exact h1.tf o'
  · obtain ⟨v, hv'⟩ := h1.r j hj
    exact ⟨v, hset _ _ _ (Or.inl (by omega)) (hcell _ _ _ hrb hv')⟩
  · rw [World.frozen?_setCell, hfroz _ o' hwl hrb]; exact h1.rf o'
  · rw [hll]; exact ownsRow_setCell_below hown (by show tb < tb + 1; omega) _
theorem GS.grown {E : Env} {w w1 w2 : World} {tb : Nat} {K : Int} {l : List Tm} {u : Value} {xs : List Value} (h : GS E w w1 tb K l u xs) {o : Obj} (hgrow : (w1.alloc o).grownBy w2 u.ownBlock) : w2.cell? ⟨tb, 3, none⟩ = some u ∧ w2.frozen? ⟨tb, 3, none⟩ = false := by
  have hs1 : (w1.alloc o).heap.size = w1.heap.size + 1 := World.size_alloc _ _
  have hl := h.lt
  have hne : some tb ≠ u.ownBlock := fun e => by have := (h.own.lt tb e.symm).1; omega
  rw [hgrow.cell_far ⟨tb, 3, none⟩ (by rw [hs1]; exact Nat.lt_succ_of_lt hl) hne, hgrow.frozen_far ⟨tb, 3, none⟩ (by rw [hs1]; exact Nat.lt_succ_of_lt hl) hne, World.cell?_alloc_lt (h := hl), World.frozen?_alloc_old (h := by show tb ≠ _; omega)]
  exact ⟨h.t3, h.tf 3⟩
theorem GS.form {E : Env} {w wr : World} {tb : Nat} {K : Int} {l : List Tm} {u : Value} {xs : List Value} (h : GS E w wr tb K l u xs) : ∃ ua uc, u = .slice ua l.length uc := by
  rcases h.own.2 with ⟨rfl, h0⟩ | ⟨g, cap, cur, rfl, _⟩
  · exact ⟨none, 0, by rw [h0]⟩
  · exact ⟨_, _, rfl⟩
/-- The variable is new behind w3, the box of what is answered is new behind w. -/
theorem GS.start {E : Env} {w w3 : World} {c : Array Value} (ht : Turn E.rb w w3) (ho : E.rb < w.heap.size) (hz3 : w.heap.size + 1 ≤ w3.heap.size) (hc : c.size = 4)
    (q3 : ∀ o, w3.cell? ⟨w.heap.size, o, none⟩ = c[o]?) (f3 : ∀ o, w3.frozen? ⟨w.heap.size, o, none⟩ = false) (K : Int) :
    GS E w (w3.alloc (.cells #[.int .i64 K, .int .i64 0, .string ⟨#[]⟩, .slice none 0 0] 39)) w3.heap.size K [] (.slice none 0 0) [] := by
  refine ⟨ht.alloc _, ho, hz3, by rw [World.size_alloc]; omega, by rw [World.cell?_alloc_new]; rfl, by rw [World.cell?_alloc_new]; rfl, by rw [World.cell?_alloc_new]; rfl, by rw [World.cell?_alloc_new]; rfl, fun o => World.frozen?_alloc_new w3 _ _ o, fun j hj => ?_, fun o => ?_, ⟨rfl, Or.inl ⟨rfl, rfl⟩⟩, Row.nil _ _⟩
  · rw [World.cell?_alloc_lt (h := by show w.heap.size < _; omega), q3]
    exact ⟨c[j], by rw [Array.getElem?_eq_getElem (by omega)]⟩
  · rw [World.frozen?_alloc_old (h := by show w.heap.size ≠ _; omega)]; exact f3 o
/-- What is gathered is a term. -/
theorem GS.done {E : Env} {w wr : World} {tb : Nat} {K : Int} {l : List Tm} {u : Value} {xs : List Value} (h : GS E w wr tb K l u xs) (a b c d : Value) :
    RpV (fun b => w.heap.size ≤ b) (lay4 wr w.heap.size a b c d) (.mk K 0 ByteArray.empty l) (.agg #[.int .i64 K, .int .i64 0, .string ⟨#[]⟩, u]) ∧ Turn E.rb w (lay4 wr w.heap.size a b c d) ∧ (∀ k, k < w.heap.size → (lay4 wr w.heap.size a b c d).heap[k]? = wr.heap[k]?) := by
  obtain ⟨ao', cap', rfl, hl, hc, hr⟩ := h.row.repL (S' := fun b => tb + 1 ≤ b) (fun b hb => hb.1) h.own (fun g hg => (h.own.lt g hg).1)
  have hup := h.up
  have hk : ∀ k, k < w.heap.size → (lay4 wr w.heap.size a b c d).heap[k]? = wr.heap[k]? := fun k hk => lay4_heap (by omega)
  refine ⟨⟨ao', cap', rfl, Nat.zero_le _, hl, hc, Moves.repL (S := fun b => tb + 1 ≤ b) (fun b' o' v' hb' hv' => ?_) _ _ hr⟩, ⟨h.turn.os, h.turn.tape, h.turn.output, by rw [lay4_size]; exact h.turn.size, fun k hkl hkn => (hk k hkl).trans (h.turn.block k hkl hkn)⟩, hk⟩
  have : tb + 1 ≤ b' := hb'
  exact ⟨by omega, by rw [lay4_cell (by omega)]; exact hv'⟩

theorem Sr.drew {E : Env} {left : Int} {bad : Bool} {w : World} (h : Sr E left bad w) : Sr E left bad w.drew := h.same h (fun k _ => rfl)
theorem Turn.undrew {cb : Nat} {w w' : World} (h : Turn cb w.drew w') : Turn cb w w' := ⟨h.os, h.tape, h.output, h.size, h.block⟩
/-- How the reading of a list goes on. -/
def Goes (E : Env) (G : Option (List Tm × Nat)) (nx : Nat → Option (List Tm × Nat)) (l : List Tm) (wr : World) : Prop :=
  (∃ y : Nat, y ≤ 100 ∧ Sr E y false wr ∧ G = pre l (nx y)) ∨ (G = none ∧ ∃ z : Int, Sr E z true wr)
end Go.Proofs.Ytabgfaafpgholaa
namespace Go.Proofs.Ytabgfaafpgholaa
open Go.RowKit
set_option linter.unusedVariables false

end Go.Proofs.Ytabgfaafpgholaa
namespace Go.Proofs.Ytabgfaafpgholaa
open Go.RowKit
set_option linter.unusedVariables false

def lenT (tb : Nat) (w : World) : Nat := match w.cell? ⟨tb, 3, none⟩ with | some (.slice _ n _) => n | _ => 0
theorem lenT_gs {E : Env} {w wr : World} {tb : Nat} {K : Int} {l : List Tm} {u : Value} {xs : List Value} (h : GS E w wr tb K l u xs) : lenT tb wr = l.length := by
  obtain ⟨ua, uc, rfl⟩ := h.form
  unfold lenT; rw [h.t3]
theorem GS.bad {E : Env} {w wr : World} {tb : Nat} {K : Int} {l : List Tm} {u : Value} {xs : List Value} (h : GS E w wr tb K l u xs) : GS E w (wr.setCell ⟨E.rb, 3, none⟩ (.bool true)) tb K l u xs := h.call ((Turn.refl _ _).set 3 _)
theorem rL_full {H : Hp} {g : Rd} {y : Nat} {x : Int} (h : x ≠ 3) : rL H g 0 x y = none := by rw [rL, if_neg h]

end Go.Proofs.Ytabgfaafpgholaa
namespace Go.Proofs.Ytabgfaafpgholaa
open Go.RowKit
set_option linter.unusedVariables false

theorem rp_leaf {S : Nat → Prop} {w : World} (k n : Int) (s : ByteArray) (hs : s.size ≤ maxLen) : RpV S w (.mk k n s []) (.agg #[.int .i64 k, .int .i64 n, .string s, .slice none 0 0]) :=
  ⟨none, 0, rfl, hs, Nat.le_refl _, Nat.zero_le _, by rw [RpL]; trivial⟩

theorem sbox_in {E : Env} {left : Int} {bad : Bool} {w w1 : World} (h : Sr E left bad w) (c : Array Value) (t : TypeId) (e : w1 = w.alloc (.cells c t)) :
    w1.heap.size = w.heap.size + 1 ∧ (∀ o, w1.cell? ⟨w.heap.size, o, none⟩ = c[o]?) ∧ (∀ o, w1.frozen? ⟨w.heap.size, o, none⟩ = false) ∧ Turn E.rb w w1 ∧ Sr E left bad w1 ∧ E.rb ≠ w.heap.size := by
  subst e
  have hb : Below w.heap.size w (w.alloc (.cells c t)) := (Below.refl _ _).alloc (Nat.le_refl _) _
  have := h.lt
  exact ⟨World.size_alloc _ _, fun o => World.cell?_alloc_new w c t o, fun o => World.frozen?_alloc_new w _ _ o, Turn.of_below hb, h.below hb, by omega⟩
theorem sbox_out {E : Env} {w w5 : World} (ht : Turn E.rb w w5) {t : Tm} {v : Value} (hv : RpV (fun b => w.heap.size + 1 ≤ b) w5 t v) (a b c d : Value) :
    Turn E.rb w (lay4 w5 w.heap.size a b c d) ∧ RpV (fun b => w.heap.size ≤ b) (lay4 w5 w.heap.size a b c d) t v ∧ (∀ k, k < w.heap.size → (lay4 w5 w.heap.size a b c d).heap[k]? = w5.heap[k]?) := by
  have hk : ∀ k, k < w.heap.size → (lay4 w5 w.heap.size a b c d).heap[k]? = w5.heap[k]? := fun k hk => lay4_heap (by omega)
  refine ⟨⟨ht.os, ht.tape, ht.output, by rw [lay4_size]; exact ht.size, fun k hkl hkn => (hk k hkl).trans (ht.block k hkl hkn)⟩, Moves.repV (S := fun b => w.heap.size + 1 ≤ b) (fun b' o' v' hb' hc' => ⟨by omega, ?_⟩) hv, hk⟩
  have hb'' : w.heap.size + 1 ≤ b' := hb'
  rw [lay4_cell (by omega)]
  exact hc'
end Go.Proofs.Ytabgfaafpgholaa
