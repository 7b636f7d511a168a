/-
  Terms that are drawn: how they lie in memory while more are drawn.
-/
import Derived.Test.YtabgfaafpgholaaW4
import Derived.Test.YtabgfaafpgholaaW5
import Derived.Deep.AppendLies
import Derived.Deep.Onto
namespace Go.Proofs.Ytabgfaafpgholaa
open Go.RowKit
set_option linter.unusedVariables false

mutual
/-- The four cells from off on in the block b are the term t; all blocks that it leads to are of S. -/
def RpT (S : Nat → Prop) (w : World) : Tm → Nat → Nat → Prop
  | .mk k n s l, b, off => w.cell? ⟨b, off, none⟩ = some (.int .i64 k) ∧ w.cell? ⟨b, off + 1, none⟩ = some (.int .i64 n) ∧ w.cell? ⟨b, off + 2, none⟩ = some (.string s) ∧ s.size ≤ maxLen ∧
      ∃ ao cap, w.cell? ⟨b, off + 3, none⟩ = some (.slice ao l.length cap) ∧ l.length ≤ cap ∧ cap ≤ maxLen ∧ RpL S w l ao
def RpL (S : Nat → Prop) (w : World) : List Tm → Option Addr → Prop
  | [], _ => True
  | t :: r, ao => ∃ b off, ao = some ⟨b, off, none⟩ ∧ S b ∧ RpT S w t b off ∧ RpL S w r (some ⟨b, off + 4, none⟩)
end
def RpV (S : Nat → Prop) (w : World) : Tm → Value → Prop
  | .mk k n s l, v => ∃ ao cap, v = .agg #[.int .i64 k, .int .i64 n, .string s, .slice ao l.length cap] ∧ s.size ≤ maxLen ∧ l.length ≤ cap ∧ cap ≤ maxLen ∧ RpL S w l ao

/-- What of the blocks of S held something holds it still, and these blocks are of S'. -/
def Moves (S S' : Nat → Prop) (w w' : World) : Prop := ∀ b o v, S b → w.cell? ⟨b, o, none⟩ = some v → S' b ∧ w'.cell? ⟨b, o, none⟩ = some v

theorem RpT.head {S : Nat → Prop} {w : World} {t : Tm} {b off : Nat} (h : RpT S w t b off) : ∃ v, w.cell? ⟨b, off, none⟩ = some v := by
  obtain ⟨k, n, s, l⟩ := t
  rw [RpT] at h
  exact ⟨_, h.1⟩
theorem Moves.repL {S S' : Nat → Prop} {w w' : World} (hk : Moves S S' w w') : ∀ (l : List Tm) (ao : Option Addr), RpL S w l ao → RpL S' w' l ao := by
  have ht : ∀ t : Tm, ∀ b off, S b → RpT S w t b off → RpT S' w' t b off := by
    refine Tm.ind ?_
    intro k n s l ih b off hb h
    rw [RpT] at h ⊢
    obtain ⟨h0, h1, h2, hs, ao, cap, h3, hl, hc, hr⟩ := h
    refine ⟨(hk _ _ _ hb h0).2, (hk _ _ _ hb h1).2, (hk _ _ _ hb h2).2, hs, ao, cap, (hk _ _ _ hb h3).2, hl, hc, ?_⟩
    clear h0 h1 h2 h3 hl hc
    induction l generalizing ao with
    | nil => rw [RpL]; trivial
    | cons t r ihr =>
      rw [RpL] at hr ⊢
      obtain ⟨b', off', e, hb', htt, hrr⟩ := hr
      obtain ⟨v, hv⟩ := htt.head
      exact ⟨b', off', e, (hk _ _ _ hb' hv).1, ih t (List.mem_cons_self ..) b' off' hb' htt, ihr (fun x hx => ih x (List.mem_cons_of_mem _ hx)) _ hrr⟩
  intro l
  induction l with
  | nil => intro ao _; rw [RpL]; trivial
  | cons t r ih =>
    intro ao h
    rw [RpL] at h ⊢
    obtain ⟨b', off', e, hb', htt, hrr⟩ := h
    obtain ⟨v, hv⟩ := htt.head
    exact ⟨b', off', e, (hk _ _ _ hb' hv).1, ht t b' off' hb' htt, ih _ hrr⟩
theorem Moves.repV {S S' : Nat → Prop} {w w' : World} (hk : Moves S S' w w') {t : Tm} {v : Value} (h : RpV S w t v) : RpV S' w' t v := by
  obtain ⟨k, n, s, l⟩ := t
  obtain ⟨ao, cap, e, h1, h2, h3, h4⟩ := h
  exact ⟨ao, cap, e, h1, h2, h3, hk.repL _ _ h4⟩
theorem Moves.turn {S : Nat → Prop} {cb : Nat} {w w' : World} (hn : ∀ b, S b → b ≠ cb) (t : Turn cb w w') : Moves S S w w' := fun b o v hb hc => ⟨hb, t.cell (hn b hb) hc⟩
theorem Moves.sub {S S' : Nat → Prop} {w : World} (h : ∀ b, S b → S' b) : Moves S S' w w := fun b o v hb hc => ⟨h b hb, hc⟩
theorem Moves.below {S : Nat → Prop} {w w' : World} (h : Below w.heap.size w w') : Moves S S w w' := fun b o v hb hc => ⟨hb, by
  rw [h.cell (p := ⟨b, o, none⟩) (World.block_lt_of_cell? w _ hc)]; exact hc⟩

mutual
theorem RpT.rep {S : Nat → Prop} {w : World} : ∀ (t : Tm) (b off : Nat), RpT S w t b off → RepT 0 w t b off
  | .mk k n s l, b, off, h => by
    rw [RpT] at h
    rw [RepT]
    obtain ⟨h0, h1, h2, hs, ao, cap, h3, hl, hc, hr⟩ := h
    exact ⟨h0, h1, h2, hs, ao, cap, h3, hl, hc, RpL.rep l ao hr⟩
theorem RpL.rep {S : Nat → Prop} {w : World} : ∀ (l : List Tm) (ao : Option Addr), RpL S w l ao → RepL 0 w l ao
  | [], _, _ => by rw [RepL]; trivial
  | t :: r, ao, h => by
    rw [RpL] at h
    rw [RepL]
    obtain ⟨b, off, e, hb, ht, hr⟩ := h
    exact ⟨b, off, e, Nat.zero_le _, RpT.rep t b off ht, RpL.rep r _ hr⟩
end
theorem RpV.rep {S : Nat → Prop} {w : World} {t : Tm} {v : Value} (h : RpV S w t v) : RepV 0 w t v := by
  obtain ⟨k, n, s, l⟩ := t
  obtain ⟨ao, cap, e, h1, h2, h3, h4⟩ := h
  exact ⟨ao, cap, e, h1, h2, h3, RpL.rep _ _ h4⟩
theorem RpV.form {S : Nat → Prop} {w : World} {t : Tm} {v : Value} (h : RpV S w t v) : ∃ a b c d e f, v = .agg #[.int .i64 a, .int .i64 b, .string c, .slice d e f] := by
  obtain ⟨k, n, s, l⟩ := t
  obtain ⟨ao, cap, e, _⟩ := h
  exact ⟨_, _, _, _, _, _, e⟩

theorem RpL.mk {S : Nat → Prop} {w : World} {b : Nat} (hb : S b) : ∀ (l : List Tm) (off : Nat), (∀ i (hi : i < l.length), RpT S w l[i] b (off + i * 4)) → RpL S w l (some ⟨b, off, none⟩)
  | [], _, _ => by rw [RpL]; trivial
  | t :: r, off, h => by
    rw [RpL]
    refine ⟨b, off, rfl, hb, by have := h 0 (Nat.zero_lt_succ _); rw [List.getElem_cons_zero, Nat.zero_mul, Nat.add_zero] at this; exact this, RpL.mk hb r (off + 4) (fun i hi => ?_)⟩
    have := h (i + 1) (by simpa using hi)
    rw [show off + 4 + i * 4 = off + (i + 1) * 4 by omega]
    simpa using this

/-- From the place o on the cells xs hold the term. -/
def RowT (S : Nat → Prop) (w : World) (xs : List Value) (o : Nat) : Tm → Prop
  | .mk k n s l => xs[o]? = some (.int .i64 k) ∧ xs[o + 1]? = some (.int .i64 n) ∧ xs[o + 2]? = some (.string s) ∧ s.size ≤ maxLen ∧
      ∃ ao cap, xs[o + 3]? = some (.slice ao l.length cap) ∧ l.length ≤ cap ∧ cap ≤ maxLen ∧ RpL S w l ao
/-- The cells xs hold the terms of l. -/
def Row (S : Nat → Prop) (w : World) (l : List Tm) (xs : List Value) : Prop := xs.length = l.length * 4 ∧ ∀ i (hi : i < l.length), RowT S w xs (i * 4) l[i]

theorem RowT.move {S S' : Nat → Prop} {w w' : World} (hk : Moves S S' w w') {xs : List Value} {o : Nat} {t : Tm} (h : RowT S w xs o t) : RowT S' w' xs o t := by
  obtain ⟨k, n, s, l⟩ := t
  obtain ⟨h0, h1, h2, hs, ao, cap, h3, hl, hc, hr⟩ := h
  exact ⟨h0, h1, h2, hs, ao, cap, h3, hl, hc, hk.repL _ _ hr⟩
theorem RowT.app {S : Nat → Prop} {w : World} {xs ys : List Value} {o : Nat} {t : Tm} (h : RowT S w xs o t) : RowT S w (xs ++ ys) o t := by
  have e : ∀ j v, xs[j]? = some v → (xs ++ ys)[j]? = some v := fun j v hj => by
    rw [List.getElem?_append_left (List.getElem?_eq_some_iff.1 hj).1]; exact hj
  obtain ⟨k, n, s, l⟩ := t
  obtain ⟨h0, h1, h2, hs, ao, cap, h3, hl, hc, hr⟩ := h
  exact ⟨e _ _ h0, e _ _ h1, e _ _ h2, hs, ao, cap, e _ _ h3, hl, hc, hr⟩
theorem Row.nil (S : Nat → Prop) (w : World) : Row S w [] [] := ⟨rfl, fun i hi => absurd hi (Nat.not_lt_zero _)⟩
theorem Row.snoc {S S' : Nat → Prop} {w w' : World} (hk : Moves S S' w w') {l : List Tm} {xs : List Value} (h : Row S w l xs) {t : Tm} {a b c d : Value} (hv : RpV S' w' t (.agg #[a, b, c, d])) :
    Row S' w' (l ++ [t]) (xs ++ [a, b, c, d]) := by
  refine ⟨by simp [h.1]; omega, fun i hi => ?_⟩
  by_cases hl : i < l.length
  · rw [List.getElem_append_left hl]
    exact ((h.2 i hl).move hk).app
  · have hil : i = l.length := by simp at hi; omega
    subst hil
    rw [List.getElem_append_right (Nat.le_refl _)]
    simp only [Nat.sub_self, List.getElem_cons_zero]
    have e : ∀ j, (xs ++ [a, b, c, d])[l.length * 4 + j]? = ([a, b, c, d] : List Value)[j]? := fun j => by
      rw [List.getElem?_append_right (by rw [h.1]; omega)]; congr 1; rw [h.1]; omega
    obtain ⟨k, n, s, m⟩ := t
    obtain ⟨ao, cap, e1, hs, hl', hc, hr⟩ := hv
    simp only [Value.agg.injEq, Array.mk.injEq, List.cons.injEq, and_true] at e1
    obtain ⟨rfl, rfl, rfl, rfl⟩ := e1
    exact ⟨e 0, e 1, e 2, hs, ao, cap, e 3, hl', hc, hr⟩
/-- A row in a block of its own is a list. -/
theorem Row.repL {S S' : Nat → Prop} {w : World} {l : List Tm} {xs : List Value} (h : Row S w l xs) (hS : ∀ b, S b → S' b) {base : Nat} {u : Value} (ho : w.ownsRow base 39 4 u l.length xs) (hu : ∀ g, u.ownBlock = some g → S' g) :
    ∃ ao cap, u = .slice ao l.length cap ∧ l.length ≤ cap ∧ cap ≤ maxLen ∧ RpL S' w l ao := by
  obtain ⟨hlen, hcase⟩ := id ho
  rcases hcase with ⟨rfl, h0⟩ | ⟨g, cap, cur, rfl, hb, hg, hn, hc, hsz, htake⟩
  · have : l = [] := List.eq_nil_of_length_eq_zero h0
    subst this
    exact ⟨none, 0, rfl, Nat.le_refl _, Nat.zero_le _, by rw [RpL]; trivial⟩
  · refine ⟨some ⟨g, 0, none⟩, cap, rfl, hn, hc, RpL.mk (hu g rfl) l 0 (fun i hi => ?_)⟩
    have e : ∀ j v, xs[j]? = some v → w.cell? ⟨g, j, none⟩ = some v := fun j v hj => by
      rw [ho.cellAt j (by have := (List.getElem?_eq_some_iff.1 hj).1; omega)]; exact hj
    have ht := (h.2 i hi).move (Moves.sub hS)
    revert ht
    generalize l[i] = t
    intro ht
    obtain ⟨k, n, s, m⟩ := t
    obtain ⟨h0, h1, h2, hs, ao, cap', h3, hl', hc', hr⟩ := ht
    rw [RpT, Nat.zero_add]
    exact ⟨e _ _ h0, e _ _ h1, e _ _ h2, hs, ao, cap', e _ _ h3, hl', hc', hr⟩

def drawnAtoms : List ByteArray := [⟨#[111, 107]⟩, ⟨#[97]⟩, ⟨#[115, 116, 111, 112]⟩, ⟨#[104, 105, 50]⟩]
/-- What a kind does not name is nothing. -/
def WfT : Tm → Prop
  | .mk k n s l => (k = 1 ∧ s = ByteArray.empty ∧ l = [] ∧ -1000000 ≤ n ∧ n ≤ 1000000 ∨ k = 2 ∧ n = 0 ∧ l = [] ∧ s ∈ drawnAtoms ∨ k = 3 ∧ s = ByteArray.empty ∧ l = [] ∧ 0 ≤ n ∧ n ≤ 3 ∨ (k = 4 ∨ k = 5) ∧ n = 0 ∧ s = ByteArray.empty ∨ k = 6 ∧ n = 0 ∧ l = [] ∧ s.size ≤ 5) ∧ l.length ≤ 3 ∧ ∀ t, t ∈ l → WfT t
/-- No deeper than so much below the first. -/
def DpT : Nat → Tm → Prop
  | 0, .mk _ _ _ l => l = []
  | d + 1, .mk _ _ _ l => ∀ t, t ∈ l → DpT d t
def RtT (d : Nat) (t : Tm) : Prop := WfT t ∧ DpT d t

/-- Nothing of this block is frozen. -/
def Nf (w : World) (b : Nat) : Prop := ∀ o, w.frozen? ⟨b, o, none⟩ = false
theorem Nf.blk {w w' : World} {b : Nat} (h : Nf w b) (e : w'.heap[b]? = w.heap[b]?) : Nf w' b := fun o => by rw [World.frozen?_of_block (w := w) e]; exact h o
theorem Nf.turn {cb : Nat} {w w' : World} {b : Nat} (h : Nf w b) (t : Turn cb w w') (hn : b ≠ cb) (hl : b < w.heap.size) : Nf w' b := fun o => by rw [t.frozen hn hl]; exact h o
theorem Nf.setCell {w : World} {b : Nat} (h : Nf w b) (p : Addr) (v : Value) : Nf (w.setCell p v) b := fun o => by rw [World.frozen?_setCell]; exact h o
theorem nf_own {w : World} {base size n g : Nat} {T : TypeId} {u : Value} {xs : List Value} (h : w.ownsRow base T size u n xs) (hg : u.ownBlock = some g) : Nf w g := by
  rcases h.2 with ⟨e, _⟩ | ⟨g', c, cur, rfl, q1, q2, _⟩
  · rw [e] at hg; cases hg
  · have e : g' = g := by
      have e2 : some g' = some g := hg
      injection e2
    subst e
    exact fun o => by simp [World.frozen?, q2]
theorem Moves.nf {S S' : Nat → Prop} {w w' : World} (h : Moves S S' w w') (hf : ∀ b o v, S b → w.cell? ⟨b, o, none⟩ = some v → Nf w b → Nf w' b) : Moves (fun b => S b ∧ Nf w b) (fun b => S' b ∧ Nf w' b) w w' :=
  fun b o v hb hc => ⟨⟨(h b o v hb.1 hc).1, hf b o v hb.1 hc hb.2⟩, (h b o v hb.1 hc).2⟩
theorem Moves.turnN {S : Nat → Prop} {cb : Nat} {w w' : World} (hn : ∀ b, S b → b ≠ cb) (t : Turn cb w w') : Moves (fun b => S b ∧ Nf w b) (fun b => S b ∧ Nf w' b) w w' :=
  (Moves.turn hn t).nf (fun b o v hb hc h => h.turn t (hn b hb) (World.block_lt_of_cell? w _ hc))

/-- A list that is gathered in the variable tb, while the terms in it are drawn. -/
structure Gath (cb : Nat) (ao : Option Addr) (len cap : Nat) (zs : List Int) (w wr : World) (tb : Nat) (K N : Int) (s : ByteArray) (l : List Tm) (u : Value) (xs : List Value) : Prop where
  drawn : Drawn cb ao len cap zs w wr
  old : cb < w.heap.size
  up : w.heap.size < tb
  lt : tb < wr.heap.size
  t0 : wr.cell? ⟨tb, 0, none⟩ = some (.int .i64 K)
  t1 : wr.cell? ⟨tb, 1, none⟩ = some (.int .i64 N)
  t2 : wr.cell? ⟨tb, 2, none⟩ = some (.string s)
  t3 : wr.cell? ⟨tb, 3, none⟩ = some u
  tf : ∀ o, wr.frozen? ⟨tb, o, none⟩ = false
  r : ∀ j, j < 4 → ∃ v, wr.cell? ⟨w.heap.size, j, none⟩ = some v
  rf : ∀ o, wr.frozen? ⟨w.heap.size, o, none⟩ = false
  own : wr.ownsRow (tb + 1) 39 4 u l.length xs
  row : Row (fun b => (tb + 1 ≤ b ∧ u.ownBlock ≠ some b) ∧ Nf wr b) wr l xs
  wf : ∀ t, t ∈ l → WfT t

theorem Gath.turn {cb : Nat} {ao : Option Addr} {len cap : Nat} {zs : List Int} {w wr w1 : World} {tb : Nat} {K N : Int} {s : ByteArray} {l : List Tm} {u : Value} {xs : List Value}
    (h : Gath cb ao len cap zs w wr tb K N s l u xs) (hd : Drawn cb ao len cap zs wr w1) : Gath cb ao len cap zs w w1 tb K N s l u xs := by
  have hne : tb ≠ cb := by have := h.old; have := h.up; omega
  have hnr : w.heap.size ≠ cb := by have := h.old; omega
  have t := hd.2
  refine ⟨⟨hd.1, h.drawn.2.trans t⟩, h.old, h.up, Nat.lt_of_lt_of_le h.lt t.size, t.cell hne h.t0, t.cell hne h.t1, t.cell hne h.t2, t.cell hne h.t3, fun o => ?_, fun j hj => ?_, fun o => ?_, ?_, ?_, h.wf⟩
  · rw [t.frozen hne h.lt]; exact h.tf o
  · obtain ⟨v, hv⟩ := h.r j hj
    exact ⟨v, t.cell hnr hv⟩
  · rw [t.frozen hnr (Nat.lt_trans h.up h.lt)]; exact h.rf o
  · refine h.own.kept t.grown (Or.inr (fun e => ?_))
    have := (h.own.lt cb e).1
    have := h.old; have := h.up; omega
  · exact ⟨h.row.1, fun i hi => (h.row.2 i hi).move (Moves.turnN (fun b hb e => by have := h.old; have := h.up; have := hb.1; omega) t)⟩

/-- One more is drawn, laid down in a block, appended, and the variable turned. -/
theorem Gath.more {cb : Nat} {ao : Option Addr} {len cap : Nat} {zs : List Int} {w wr w1 w2 : World} {tb : Nat} {K N : Int} {s : ByteArray} {l : List Tm} {u : Value} {xs : List Value}
    (h : Gath cb ao len cap zs w wr tb K N s l u xs) (hd : Drawn cb ao len cap zs wr w1) {t : Tm} {a b c d : Value} (hv : RpV (fun b => wr.heap.size ≤ b ∧ Nf w1 b) w1 t (.agg #[a, b, c, d])) (hw : WfT t) {o : Obj}
    {g cap' : Nat} (hown : w2.ownsRow (tb + 1) 39 4 (.slice (some ⟨g, 0, none⟩) (l.length + 1) cap') (l.length + 1) (xs ++ [a, b, c, d])) (hgrow : (w1.alloc o).grownBy w2 u.ownBlock) (hat : u.ownBlock = some g ∨ g = w1.heap.size + 1) (hlt : g < w2.heap.size) :
    Gath cb ao len cap zs w (w2.setCell ⟨tb, 3, none⟩ (.slice (some ⟨g, 0, none⟩) (l.length + 1) cap')) tb K N s (l ++ [t]) (.slice (some ⟨g, 0, none⟩) (l.length + 1) cap') (xs ++ [a, b, c, d]) := by
  have h1 := h.turn hd
  have hne : tb ≠ cb := by have := h.old; have := h.up; omega
  have hs1 : (w1.alloc o).heap.size = w1.heap.size + 1 := World.size_alloc _ _
  have hun : ∀ k, k < tb + 1 → some k ≠ u.ownBlock := fun k hk e => by have := (h.own.lt k e.symm).1; omega
  have hcell : ∀ p o' v, some p ≠ u.ownBlock → w1.cell? ⟨p, o', none⟩ = some v → w2.cell? ⟨p, o', none⟩ = some v := fun p o' v hp hc => by
    have hpl := World.block_lt_of_cell? w1 _ hc
    rw [hgrow.cell_far ⟨p, o', none⟩ (by rw [hs1]; exact Nat.lt_succ_of_lt hpl) hp, World.cell?_alloc_lt (h := hpl)]; exact hc
  have hfroz : ∀ p o', p < w1.heap.size → some p ≠ u.ownBlock → w2.frozen? ⟨p, o', none⟩ = w1.frozen? ⟨p, o', none⟩ := fun p o' hpl hp => by
    rw [hgrow.frozen_far ⟨p, o', none⟩ (by rw [hs1]; exact Nat.lt_succ_of_lt hpl) hp, World.frozen?_alloc_old (h := by show p ≠ _; omega)]
  have hset : ∀ p o' v, (p ≠ tb ∨ o' ≠ 3) → w2.cell? ⟨p, o', none⟩ = some v → (w2.setCell ⟨tb, 3, none⟩ (.slice (some ⟨g, 0, none⟩) (l.length + 1) cap')).cell? ⟨p, o', none⟩ = some v := fun p o' v hp hc => by
    rw [World.cell?_setCell_other (h := fun e => by simp at e; omega)]; exact hc
  have hgb : tb + 1 ≤ g := (hown.lt g rfl).1
  have hself : ∀ p, p < tb + 1 → some p ≠ u.ownBlock := hun
  have hll : (l ++ [t]).length = l.length + 1 := by simp
  have hul : tb < w1.heap.size := h1.lt
  have hwl : w.heap.size < w1.heap.size := Nat.lt_trans h.up hul
  have hk : ∀ k, k < tb → (w2.setCell ⟨tb, 3, none⟩ (.slice (some ⟨g, 0, none⟩) (l.length + 1) cap')).heap[k]? = w1.heap[k]? := fun k hkt => by
    rw [Below.heap_setCell w2 ⟨tb, 3, none⟩ _ k (by show k ≠ tb; omega), hgrow.block k (by rw [hs1]; omega) (hun k (by omega))]
    show (w1.heap.push _)[k]? = _
    rw [Array.getElem?_push, if_neg (by omega)]
  have hsz : (w2.setCell ⟨tb, 3, none⟩ (.slice (some ⟨g, 0, none⟩) (l.length + 1) cap')).heap.size = w2.heap.size := World.size_setCell ..
  have hsz2 : w1.heap.size + 1 ≤ w2.heap.size := by rw [← hs1]; exact hgrow.size
  have htb : some tb ≠ u.ownBlock := hun tb (by omega)
  have hrb : some w.heap.size ≠ u.ownBlock := hun _ (by have := h.up; omega)
  have hup := h.up
  have hold := h.old
  have hmv : Moves (fun b => tb + 1 ≤ b ∧ u.ownBlock ≠ some b) (fun b => tb + 1 ≤ b ∧ (Value.slice (some ⟨g, 0, none⟩) (l.length + 1) cap').ownBlock ≠ some b) w1 (w2.setCell ⟨tb, 3, none⟩ (.slice (some ⟨g, 0, none⟩) (l.length + 1) cap')) := fun p o' v hp hc => by
    have hpl := World.block_lt_of_cell? w1 _ hc
    refine ⟨⟨hp.1, fun e => ?_⟩, hset p o' v (Or.inl (by have := hp.1; omega)) (hcell p o' v (fun e => hp.2 e.symm) hc)⟩
    simp only [Value.ownBlock, Option.some.injEq] at e
    subst e
    rcases hat with hat | hat
    · exact hp.2 hat
    · have : g < w1.heap.size := hpl
      omega
  have hmn : Moves (fun b => wr.heap.size ≤ b) (fun b => tb + 1 ≤ b ∧ (Value.slice (some ⟨g, 0, none⟩) (l.length + 1) cap').ownBlock ≠ some b) w1 (w2.setCell ⟨tb, 3, none⟩ (.slice (some ⟨g, 0, none⟩) (l.length + 1) cap')) := fun p o' v hp hc => by
    have hpl : p < w1.heap.size := World.block_lt_of_cell? w1 _ hc
    have hpo : some p ≠ u.ownBlock := fun e => by have := (h.own.lt p e.symm).2; omega
    refine ⟨⟨by have := h.lt; omega, fun e => ?_⟩, hset p o' v (Or.inl (by have := h.lt; omega)) (hcell p o' v hpo hc)⟩
    simp only [Value.ownBlock, Option.some.injEq] at e
    subst e
    rcases hat with hat | hat
    · exact hpo hat.symm
    · omega
  refine ⟨⟨hd.1.same (fun b hb => hk b (by omega)), ?_⟩, hold, hup, by rw [hsz]; omega, hset _ _ _ (Or.inr (by omega)) (hcell _ _ _ htb h1.t0), hset _ _ _ (Or.inr (by omega)) (hcell _ _ _ htb h1.t1), hset _ _ _ (Or.inr (by omega)) (hcell _ _ _ htb h1.t2), World.cell?_setCell_same w2 _ _ (hcell _ _ _ htb h1.t3), fun o' => ?_, fun j hj => ?_, fun o' => ?_, ?_, ?_, ?_⟩
  · have t := h1.drawn.2
    exact ⟨hgrow.os.trans t.os, hgrow.tape.trans t.tape, hgrow.output.trans t.output, by rw [hsz]; omega, fun k hkl hkn => (hk k (by omega)).trans (t.block k hkl hkn)⟩
  · rw [World.frozen?_setCell, hfroz tb o' hul htb]; exact h1.tf o'
  · obtain ⟨v, hv'⟩ := h1.r j hj
    exact ⟨v, hset _ _ _ (Or.inl (by omega)) (hcell _ _ _ hrb hv')⟩
  · rw [World.frozen?_setCell, hfroz _ o' hwl hrb]; exact h1.rf o'
  · rw [hll]; exact ownsRow_setCell_below hown (by show tb < tb + 1; omega) _
  · exact Row.snoc (hmv.nf (fun p o' v hp hc hq => Nf.setCell (fun y => by rw [hfroz p y (World.block_lt_of_cell? w1 _ hc) (fun e => hp.2 e.symm)]; exact hq y) _ _)) h1.row
      ((hmn.nf (fun p o' v hp hc hq => Nf.setCell (fun y => by rw [hfroz p y (World.block_lt_of_cell? w1 _ hc) (fun e => by have := (h.own.lt p e.symm).2; omega)]; exact hq y) _ _)).repV hv)
  · intro x hx
    rcases List.mem_append.1 hx with hx | hx
    · exact h.wf x hx
    · have : x = t := by simpa using hx
      subst this; exact hw
end Go.Proofs.Ytabgfaafpgholaa
