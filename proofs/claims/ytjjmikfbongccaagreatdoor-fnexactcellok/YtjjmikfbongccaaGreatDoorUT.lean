/-
  A term whose lists stand apart: each list in a block of its own, what is within it in blocks of an interval that no other one has.
  (Ahead of it, in this text: What a turn of one block leaves. Terms that are drawn: how they lie in memory while more are drawn. What the readings of both programs share: what gives up, a word, bytes as a text, boxes; where the words of a heap stand.)
-/
import Derived.Test.YtjjmikfbongccaaGreatDoorCurA
import Derived.Deep.OwnRows
import Derived.Test.YtjjmikfbongccaaGreatDoorTmC
import Derived.Deep.AppendLies
import Derived.Deep.Onto
import Derived.Test.YtjjmikfbongccaaGreatDoorUA
import Derived.Test.YtjjmikfbongccaaGreatDoorSgA
import Derived.Test.YtjjmikfbongccaaGreatDoorArA
import Derived.WalkLawsBesides
import Derived.Defers
import Derived.Recover
import Derived.Maps.AppendAt
import Derived.Laws.OwnMore
import Derived.Laws.IdiomStrings
namespace Go.Proofs.YtjjmikfbongccaaGreatDoor
open Go.RowKit
set_option linter.unusedVariables false

theorem Turn.grown {cb : Nat} {w w' : World} (t : Turn cb w w') : w.grownBy w' (some cb) := ⟨t.os, t.tape, t.output, t.size, fun k hk hn => t.block k hk (fun e => hn (by rw [e]))⟩


theorem Cur.same {cb : Nat} {ao : Option Addr} {len cap : Nat} {zs : List Int} {w w' : World} (h : Cur cb ao len cap zs w) (hs : ∀ b, b ≤ cb → w'.heap[b]? = w.heap[b]?) : Cur cb ao len cap zs w' := by
  have e : ∀ b o, b ≤ cb → w'.cell? ⟨b, o, none⟩ = w.cell? ⟨b, o, none⟩ := fun b o hb => World.cell?_of_block (w := w) (hs b hb)
  obtain ⟨i, hi, h1⟩ := h.c1
  obtain ⟨x, h2⟩ := h.c2
  refine ⟨by rw [e _ _ (Nat.le_refl _)]; exact h.c0, ⟨i, hi, by rw [e _ _ (Nat.le_refl _)]; exact h1⟩, ⟨x, by rw [e _ _ (Nat.le_refl _)]; exact h2⟩, fun o => by rw [World.frozen?_of_block (w := w) (hs cb (Nat.le_refl _))]; exact h.free o, fun hn => ?_, h.rng, h.small⟩
  obtain ⟨b, off, e1, e2, e3⟩ := h.code hn
  exact ⟨b, off, e1, e2, fun j hj => by rw [e _ _ (Nat.le_of_lt e2)]; exact e3 j hj⟩


end Go.Proofs.YtjjmikfbongccaaGreatDoor
namespace Go.Proofs.YtjjmikfbongccaaGreatDoor
open Go.RowKit
set_option linter.unusedVariables false

mutual
/-- The four cells from off on in the block b are the term t; all blocks that it leads to are of S. -/
def RpT (S : Nat → Prop) (w : World) : Tm → Nat → Nat → Prop
  | .mk k n s l, b, off => w.cell? ⟨b, off, none⟩ = some (.int .i64 k) ∧ w.cell? ⟨b, off + 1, none⟩ = some (.int .i64 n) ∧ w.cell? ⟨b, off + 2, none⟩ = some (.string s) ∧ s.size ≤ maxLen ∧
      ∃ ao cap, w.cell? ⟨b, off + 3, none⟩ = some (.slice ao l.length cap) ∧ l.length ≤ cap ∧ cap ≤ maxLen ∧ RpL S w l ao
def RpL (S : Nat → Prop) (w : World) : List Tm → Option Addr → Prop
  | [], _ => True
  | t :: r, ao => ∃ b off, ao = some ⟨b, off, none⟩ ∧ S b ∧ RpT S w t b off ∧ RpL S w r (some ⟨b, off + 4, none⟩)
end
def RpV (S : Nat → Prop) (w : World) : Tm → Value → Prop
  | .mk k n s l, v => ∃ ao cap, v = .agg #[.int .i64 k, .int .i64 n, .string s, .slice ao l.length cap] ∧ s.size ≤ maxLen ∧ l.length ≤ cap ∧ cap ≤ maxLen ∧ RpL S w l ao

/-- What of the blocks of S held something holds it still, and these blocks are of S'. -/
def Moves (S S' : Nat → Prop) (w w' : World) : Prop := ∀ b o v, S b → w.cell? ⟨b, o, none⟩ = some v → S' b ∧ w'.cell? ⟨b, o, none⟩ = some v

theorem RpT.head {S : Nat → Prop} {w : World} {t : Tm} {b off : Nat} (h : RpT S w t b off) : ∃ v, w.cell? ⟨b, off, none⟩ = some v := by
  obtain ⟨k, n, s, l⟩ := t
  rw [RpT] at h
  exact ⟨_, h.1⟩
theorem Moves.repL {S S' : Nat → Prop} {w w' : World} (hk : Moves S S' w w') : ∀ (l : List Tm) (ao : Option Addr), RpL S w l ao → RpL S' w' l ao := by
  have ht : ∀ t : Tm, ∀ b off, S b → RpT S w t b off → RpT S' w' t b off := by
    refine Tm.ind ?_
    intro k n s l ih b off hb h
    rw [RpT] at h ⊢
    obtain ⟨h0, h1, h2, hs, ao, cap, h3, hl, hc, hr⟩ := h
    refine ⟨(hk _ _ _ hb h0).2, (hk _ _ _ hb h1).2, (hk _ _ _ hb h2).2, hs, ao, cap, (hk _ _ _ hb h3).2, hl, hc, ?_⟩
    clear h0 h1 h2 h3 hl hc
    induction l generalizing ao with
    | nil => rw [RpL]; trivial
    | cons t r ihr =>
      rw [RpL] at hr ⊢
      obtain ⟨b', off', e, hb', htt, hrr⟩ := hr
      obtain ⟨v, hv⟩ := htt.head
      exact ⟨b', off', e, (hk _ _ _ hb' hv).1, ih t (List.mem_cons_self ..) b' off' hb' htt, ihr (fun x hx => ih x (List.mem_cons_of_mem _ hx)) _ hrr⟩
  intro l
  induction l with
  | nil => intro ao _; rw [RpL]; trivial
  | cons t r ih =>
    intro ao h
    rw [RpL] at h ⊢
    obtain ⟨b', off', e, hb', htt, hrr⟩ := h
    obtain ⟨v, hv⟩ := htt.head
    exact ⟨b', off', e, (hk _ _ _ hb' hv).1, ht t b' off' hb' htt, ih _ hrr⟩
theorem Moves.repV {S S' : Nat → Prop} {w w' : World} (hk : Moves S S' w w') {t : Tm} {v : Value} (h : RpV S w t v) : RpV S' w' t v := by
  obtain ⟨k, n, s, l⟩ := t
  obtain ⟨ao, cap, e, h1, h2, h3, h4⟩ := h
  exact ⟨ao, cap, e, h1, h2, h3, hk.repL _ _ h4⟩
theorem Moves.turn {S : Nat → Prop} {cb : Nat} {w w' : World} (hn : ∀ b, S b → b ≠ cb) (t : Turn cb w w') : Moves S S w w' := fun b o v hb hc => ⟨hb, t.cell (hn b hb) hc⟩
theorem Moves.sub {S S' : Nat → Prop} {w : World} (h : ∀ b, S b → S' b) : Moves S S' w w := fun b o v hb hc => ⟨h b hb, hc⟩
theorem Moves.below {S : Nat → Prop} {w w' : World} (h : Below w.heap.size w w') : Moves S S w w' := fun b o v hb hc => ⟨hb, by
  rw [h.cell (p := ⟨b, o, none⟩) (World.block_lt_of_cell? w _ hc)]; exact hc⟩

mutual
theorem RpT.rep {S : Nat → Prop} {w : World} : ∀ (t : Tm) (b off : Nat), RpT S w t b off → RepT 0 w t b off
  | .mk k n s l, b, off, h => by
    rw [RpT] at h
    rw [RepT]
    obtain ⟨h0, h1, h2, hs, ao, cap, h3, hl, hc, hr⟩ := h
    exact ⟨h0, h1, h2, hs, ao, cap, h3, hl, hc, RpL.rep l ao hr⟩
theorem RpL.rep {S : Nat → Prop} {w : World} : ∀ (l : List Tm) (ao : Option Addr), RpL S w l ao → RepL 0 w l ao
  | [], _, _ => by rw [RepL]; trivial
  | t :: r, ao, h => by
    rw [RpL] at h
    rw [RepL]
    obtain ⟨b, off, e, hb, ht, hr⟩ := h
    exact ⟨b, off, e, Nat.zero_le _, RpT.rep t b off ht, RpL.rep r _ hr⟩
end
theorem RpV.rep {S : Nat → Prop} {w : World} {t : Tm} {v : Value} (h : RpV S w t v) : RepV 0 w t v := by
  obtain ⟨k, n, s, l⟩ := t
  obtain ⟨ao, cap, e, h1, h2, h3, h4⟩ := h
  exact ⟨ao, cap, e, h1, h2, h3, RpL.rep _ _ h4⟩
theorem RpV.form {S : Nat → Prop} {w : World} {t : Tm} {v : Value} (h : RpV S w t v) : ∃ a b c d e f, v = .agg #[.int .i64 a, .int .i64 b, .string c, .slice d e f] := by
  obtain ⟨k, n, s, l⟩ := t
  obtain ⟨ao, cap, e, _⟩ := h
  exact ⟨_, _, _, _, _, _, e⟩

theorem RpL.mk {S : Nat → Prop} {w : World} {b : Nat} (hb : S b) : ∀ (l : List Tm) (off : Nat), (∀ i (hi : i < l.length), RpT S w l[i] b (off + i * 4)) → RpL S w l (some ⟨b, off, none⟩)
  | [], _, _ => by rw [RpL]; trivial
  | t :: r, off, h => by
    rw [RpL]
    refine ⟨b, off, rfl, hb, by have := h 0 (Nat.zero_lt_succ _); rw [List.getElem_cons_zero, Nat.zero_mul, Nat.add_zero] at this; exact this, RpL.mk hb r (off + 4) (fun i hi => ?_)⟩
    have := h (i + 1) (by simpa using hi)
    rw [show off + 4 + i * 4 = off + (i + 1) * 4 by omega]
    simpa using this

/-- From the place o on the cells xs hold the term. -/
def RowT (S : Nat → Prop) (w : World) (xs : List Value) (o : Nat) : Tm → Prop
  | .mk k n s l => xs[o]? = some (.int .i64 k) ∧ xs[o + 1]? = some (.int .i64 n) ∧ xs[o + 2]? = some (.string s) ∧ s.size ≤ maxLen ∧
      ∃ ao cap, xs[o + 3]? = some (.slice ao l.length cap) ∧ l.length ≤ cap ∧ cap ≤ maxLen ∧ RpL S w l ao
/-- The cells xs hold the terms of l. -/
def Row (S : Nat → Prop) (w : World) (l : List Tm) (xs : List Value) : Prop := xs.length = l.length * 4 ∧ ∀ i (hi : i < l.length), RowT S w xs (i * 4) l[i]

theorem RowT.move {S S' : Nat → Prop} {w w' : World} (hk : Moves S S' w w') {xs : List Value} {o : Nat} {t : Tm} (h : RowT S w xs o t) : RowT S' w' xs o t := by
  obtain ⟨k, n, s, l⟩ := t
  obtain ⟨h0, h1, h2, hs, ao, cap, h3, hl, hc, hr⟩ := h
  exact ⟨h0, h1, h2, hs, ao, cap, h3, hl, hc, hk.repL _ _ hr⟩
theorem RowT.app {S : Nat → Prop} {w : World} {xs ys : List Value} {o : Nat} {t : Tm} (h : RowT S w xs o t) : RowT S w (xs ++ ys) o t := by
  have e : ∀ j v, xs[j]? = some v → (xs ++ ys)[j]? = some v := fun j v hj => by
    rw [List.getElem?_append_left (List.getElem?_eq_some_iff.1 hj).1]; exact hj
  obtain ⟨k, n, s, l⟩ := t
  obtain ⟨h0, h1, h2, hs, ao, cap, h3, hl, hc, hr⟩ := h
  exact ⟨e _ _ h0, e _ _ h1, e _ _ h2, hs, ao, cap, e _ _ h3, hl, hc, hr⟩
theorem Row.nil (S : Nat → Prop) (w : World) : Row S w [] [] := ⟨rfl, fun i hi => absurd hi (Nat.not_lt_zero _)⟩
theorem Row.snoc {S S' : Nat → Prop} {w w' : World} (hk : Moves S S' w w') {l : List Tm} {xs : List Value} (h : Row S w l xs) {t : Tm} {a b c d : Value} (hv : RpV S' w' t (.agg #[a, b, c, d])) :
    Row S' w' (l ++ [t]) (xs ++ [a, b, c, d]) := by
  refine ⟨by simp [h.1]; omega, fun i hi => ?_⟩
  by_cases hl : i < l.length
  · rw [List.getElem_append_left hl]
    exact ((h.2 i hl).move hk).app
  · have hil : i = l.length := by simp at hi; omega
    subst hil
    rw [List.getElem_append_right (Nat.le_refl _)]
    simp only [Nat.sub_self, List.getElem_cons_zero]
    have e : ∀ j, (xs ++ [a, b, c, d])[l.length * 4 + j]? = ([a, b, c, d] : List Value)[j]? := fun j => by
      rw [List.getElem?_append_right (by rw [h.1]; omega)]; congr 1; rw [h.1]; omega
    obtain ⟨k, n, s, m⟩ := t
    obtain ⟨ao, cap, e1, hs, hl', hc, hr⟩ := hv
    simp only [Value.agg.injEq, Array.mk.injEq, List.cons.injEq, and_true] at e1
    obtain ⟨rfl, rfl, rfl, rfl⟩ := e1
    exact ⟨e 0, e 1, e 2, hs, ao, cap, e 3, hl', hc, hr⟩
/-- A row in a block of its own is a list. -/
theorem Row.repL {S S' : Nat → Prop} {w : World} {l : List Tm} {xs : List Value} (h : Row S w l xs) (hS : ∀ b, S b → S' b) {base : Nat} {u : Value} (ho : w.ownsRow base 66 4 u l.length xs) (hu : ∀ g, u.ownBlock = some g → S' g) :
    ∃ ao cap, u = .slice ao l.length cap ∧ l.length ≤ cap ∧ cap ≤ maxLen ∧ RpL S' w l ao := by
  obtain ⟨hlen, hcase⟩ := id ho
  rcases hcase with ⟨rfl, h0⟩ | ⟨g, cap, cur, rfl, hb, hg, hn, hc, hsz, htake⟩
  · have : l = [] := List.eq_nil_of_length_eq_zero h0
    subst this
    exact ⟨none, 0, rfl, Nat.le_refl _, Nat.zero_le _, by rw [RpL]; trivial⟩
  · refine ⟨some ⟨g, 0, none⟩, cap, rfl, hn, hc, RpL.mk (hu g rfl) l 0 (fun i hi => ?_)⟩
    have e : ∀ j v, xs[j]? = some v → w.cell? ⟨g, j, none⟩ = some v := fun j v hj => by
      rw [ho.cellAt j (by have := (List.getElem?_eq_some_iff.1 hj).1; omega)]; exact hj
    have ht := (h.2 i hi).move (Moves.sub hS)
    revert ht
    generalize l[i] = t
    intro ht
    obtain ⟨k, n, s, m⟩ := t
    obtain ⟨h0, h1, h2, hs, ao, cap', h3, hl', hc', hr⟩ := ht
    rw [RpT, Nat.zero_add]
    exact ⟨e _ _ h0, e _ _ h1, e _ _ h2, hs, ao, cap', e _ _ h3, hl', hc', hr⟩

def drawnAtoms : List ByteArray := [⟨#[111, 107]⟩, ⟨#[97]⟩, ⟨#[115, 116, 111, 112]⟩, ⟨#[104, 105, 50]⟩]
/-- What a kind does not name is nothing. -/
def WfT : Tm → Prop
  | .mk k n s l => (k = 1 ∧ s = ByteArray.empty ∧ l = [] ∧ -1000000 ≤ n ∧ n ≤ 1000000 ∨ k = 2 ∧ n = 0 ∧ l = [] ∧ s ∈ drawnAtoms ∨ k = 3 ∧ s = ByteArray.empty ∧ l = [] ∧ 0 ≤ n ∧ n ≤ 3 ∨ (k = 4 ∨ k = 5) ∧ n = 0 ∧ s = ByteArray.empty ∨ k = 6 ∧ n = 0 ∧ l = [] ∧ s.size ≤ 5) ∧ l.length ≤ 3 ∧ ∀ t, t ∈ l → WfT t
/-- No deeper than so much below the first. -/
def DpT : Nat → Tm → Prop
  | 0, .mk _ _ _ l => l = []
  | d + 1, .mk _ _ _ l => ∀ t, t ∈ l → DpT d t
def RtT (d : Nat) (t : Tm) : Prop := WfT t ∧ DpT d t

/-- A list that is gathered in the variable tb, while the terms in it are drawn. -/
structure Gath (cb : Nat) (ao : Option Addr) (len cap : Nat) (zs : List Int) (w wr : World) (tb : Nat) (K N : Int) (s : ByteArray) (l : List Tm) (u : Value) (xs : List Value) : Prop where
  drawn : Drawn cb ao len cap zs w wr
  old : cb < w.heap.size
  up : w.heap.size < tb
  lt : tb < wr.heap.size
  t0 : wr.cell? ⟨tb, 0, none⟩ = some (.int .i64 K)
  t1 : wr.cell? ⟨tb, 1, none⟩ = some (.int .i64 N)
  t2 : wr.cell? ⟨tb, 2, none⟩ = some (.string s)
  t3 : wr.cell? ⟨tb, 3, none⟩ = some u
  tf : ∀ o, wr.frozen? ⟨tb, o, none⟩ = false
  r : ∀ j, j < 4 → ∃ v, wr.cell? ⟨w.heap.size, j, none⟩ = some v
  rf : ∀ o, wr.frozen? ⟨w.heap.size, o, none⟩ = false
  own : wr.ownsRow (tb + 1) 66 4 u l.length xs
  row : Row (fun b => tb + 1 ≤ b ∧ u.ownBlock ≠ some b) wr l xs
  wf : ∀ t, t ∈ l → WfT t

theorem Gath.turn {cb : Nat} {ao : Option Addr} {len cap : Nat} {zs : List Int} {w wr w1 : World} {tb : Nat} {K N : Int} {s : ByteArray} {l : List Tm} {u : Value} {xs : List Value}
    (h : Gath cb ao len cap zs w wr tb K N s l u xs) (hd : Drawn cb ao len cap zs wr w1) : Gath cb ao len cap zs w w1 tb K N s l u xs := by
  have hne : tb ≠ cb := by have := h.old; have := h.up; omega
  have hnr : w.heap.size ≠ cb := by have := h.old; omega
  have t := hd.2
  refine ⟨⟨hd.1, h.drawn.2.trans t⟩, h.old, h.up, Nat.lt_of_lt_of_le h.lt t.size, t.cell hne h.t0, t.cell hne h.t1, t.cell hne h.t2, t.cell hne h.t3, fun o => ?_, fun j hj => ?_, fun o => ?_, ?_, ?_, h.wf⟩
  · rw [t.frozen hne h.lt]; exact h.tf o
  · obtain ⟨v, hv⟩ := h.r j hj
    exact ⟨v, t.cell hnr hv⟩
  · rw [t.frozen hnr (Nat.lt_trans h.up h.lt)]; exact h.rf o
  · refine h.own.kept t.grown (Or.inr (fun e => ?_))
    have := (h.own.lt cb e).1
    have := h.old; have := h.up; omega
  · exact ⟨h.row.1, fun i hi => (h.row.2 i hi).move (Moves.turn (fun b hb e => by have := h.old; have := h.up; have := hb.1; omega) t)⟩

/-- One more is drawn, laid down in a block, appended, and the variable turned. -/
theorem Gath.more {cb : Nat} {ao : Option Addr} {len cap : Nat} {zs : List Int} {w wr w1 w2 : World} {tb : Nat} {K N : Int} {s : ByteArray} {l : List Tm} {u : Value} {xs : List Value}
    (h : Gath cb ao len cap zs w wr tb K N s l u xs) (hd : Drawn cb ao len cap zs wr w1) {t : Tm} {a b c d : Value} (hv : RpV (fun b => wr.heap.size ≤ b) w1 t (.agg #[a, b, c, d])) (hw : WfT t) {o : Obj}
    {g cap' : Nat} (hown : w2.ownsRow (tb + 1) 66 4 (.slice (some ⟨g, 0, none⟩) (l.length + 1) cap') (l.length + 1) (xs ++ [a, b, c, d])) (hgrow : (w1.alloc o).grownBy w2 u.ownBlock) (hat : u.ownBlock = some g ∨ g = w1.heap.size + 1) (hlt : g < w2.heap.size) :
    Gath cb ao len cap zs w (w2.setCell ⟨tb, 3, none⟩ (.slice (some ⟨g, 0, none⟩) (l.length + 1) cap')) tb K N s (l ++ [t]) (.slice (some ⟨g, 0, none⟩) (l.length + 1) cap') (xs ++ [a, b, c, d]) := by
  have h1 := h.turn hd
  have hne : tb ≠ cb := by have := h.old; have := h.up; omega
  have hs1 : (w1.alloc o).heap.size = w1.heap.size + 1 := World.size_alloc _ _
  have hun : ∀ k, k < tb + 1 → some k ≠ u.ownBlock := fun k hk e => by have := (h.own.lt k e.symm).1; omega
  have hcell : ∀ p o' v, some p ≠ u.ownBlock → w1.cell? ⟨p, o', none⟩ = some v → w2.cell? ⟨p, o', none⟩ = some v := fun p o' v hp hc => by
    have hpl := World.block_lt_of_cell? w1 _ hc
    rw [hgrow.cell_far ⟨p, o', none⟩ (by rw [hs1]; exact Nat.lt_succ_of_lt hpl) hp, World.cell?_alloc_lt (h := hpl)]; exact hc
  have hfroz : ∀ p o', p < w1.heap.size → some p ≠ u.ownBlock → w2.frozen? ⟨p, o', none⟩ = w1.frozen? ⟨p, o', none⟩ := fun p o' hpl hp => by
    rw [hgrow.frozen_far ⟨p, o', none⟩ (by rw [hs1]; exact Nat.lt_succ_of_lt hpl) hp, World.frozen?_alloc_old (h := by show p ≠ _; omega)]
  have hset : ∀ p o' v, (p ≠ tb ∨ o' ≠ 3) → w2.cell? ⟨p, o', none⟩ = some v → (w2.setCell ⟨tb, 3, none⟩ (.slice (some ⟨g, 0, none⟩) (l.length + 1) cap')).cell? ⟨p, o', none⟩ = some v := fun p o' v hp hc => by
    rw [World.cell?_setCell_other (h := fun e => by simp at e; omega)]; exact hc
  have hgb : tb + 1 ≤ g := (hown.lt g rfl).1
  have hself : ∀ p, p < tb + 1 → some p ≠ u.ownBlock := hun
  have hll : (l ++ [t]).length = l.length + 1 := by simp
  have hul : tb < w1.heap.size := h1.lt
  have hwl : w.heap.size < w1.heap.size := Nat.lt_trans h.up hul
  have hk : ∀ k, k < tb → (w2.setCell ⟨tb, 3, none⟩ (.slice (some ⟨g, 0, none⟩) (l.length + 1) cap')).heap[k]? = w1.heap[k]? := fun k hkt => by
    rw [Below.heap_setCell w2 ⟨tb, 3, none⟩ _ k (by show k ≠ tb; omega), hgrow.block k (by rw [hs1]; omega) (hun k (by omega))]
    show (w1.heap.push _)[k]? = _
    rw [Array.getElem?_push, if_neg (by omega)]
  have hsz : (w2.setCell ⟨tb, 3, none⟩ (.slice (some ⟨g, 0, none⟩) (l.length + 1) cap')).heap.size = w2.heap.size := World.size_setCell ..
  have hsz2 : w1.heap.size + 1 ≤ w2.heap.size := by rw [← hs1]; exact hgrow.size
  have htb : some tb ≠ u.ownBlock := hun tb (by omega)
  have hrb : some w.heap.size ≠ u.ownBlock := hun _ (by have := h.up; omega)
  have hup := h.up
  have hold := h.old
  have hmv : Moves (fun b => tb + 1 ≤ b ∧ u.ownBlock ≠ some b) (fun b => tb + 1 ≤ b ∧ (Value.slice (some ⟨g, 0, none⟩) (l.length + 1) cap').ownBlock ≠ some b) w1 (w2.setCell ⟨tb, 3, none⟩ (.slice (some ⟨g, 0, none⟩) (l.length + 1) cap')) := fun p o' v hp hc => by
    have hpl := World.block_lt_of_cell? w1 _ hc
    refine ⟨⟨hp.1, fun e => ?_⟩, hset p o' v (Or.inl (by have := hp.1; omega)) (hcell p o' v (fun e => hp.2 e.symm) hc)⟩
    simp only [Value.ownBlock, Option.some.injEq] at e
    subst e
    rcases hat with hat | hat
    · exact hp.2 hat
    · have : g < w1.heap.size := hpl
      omega
  have hmn : Moves (fun b => wr.heap.size ≤ b) (fun b => tb + 1 ≤ b ∧ (Value.slice (some ⟨g, 0, none⟩) (l.length + 1) cap').ownBlock ≠ some b) w1 (w2.setCell ⟨tb, 3, none⟩ (.slice (some ⟨g, 0, none⟩) (l.length + 1) cap')) := fun p o' v hp hc => by
    have hpl : p < w1.heap.size := World.block_lt_of_cell? w1 _ hc
    have hpo : some p ≠ u.ownBlock := fun e => by have := (h.own.lt p e.symm).2; omega
    refine ⟨⟨by have := h.lt; omega, fun e => ?_⟩, hset p o' v (Or.inl (by have := h.lt; omega)) (hcell p o' v hpo hc)⟩
    simp only [Value.ownBlock, Option.some.injEq] at e
    subst e
    rcases hat with hat | hat
    · exact hpo hat.symm
    · omega
  refine ⟨⟨hd.1.same (fun b hb => hk b (by omega)), ?_⟩, hold, hup, by rw [hsz]; omega, hset _ _ _ (Or.inr (by omega)) (hcell _ _ _ htb h1.t0), hset _ _ _ (Or.inr (by omega)) (hcell _ _ _ htb h1.t1), hset _ _ _ (Or.inr (by omega)) (hcell _ _ _ htb h1.t2), World.cell?_setCell_same w2 _ _ (hcell _ _ _ htb h1.t3), fun o' => ?_, fun j hj => ?_, fun o' => ?_, ?_, ?_, ?_⟩
  · have t := h1.drawn.2
    exact ⟨hgrow.os.trans t.os, hgrow.tape.trans t.tape, hgrow.output.trans t.output, by rw [hsz]; omega, fun k hkl hkn => (hk k (by omega)).trans (t.block k hkl hkn)⟩
  · rw [World.frozen?_setCell, hfroz tb o' hul htb]; exact h1.tf o'
  · obtain ⟨v, hv'⟩ := h1.r j hj
    exact ⟨v, hset _ _ _ (Or.inl (by omega)) (hcell _ _ _ hrb hv')⟩
  · rw [World.frozen?_setCell, hfroz _ o' hwl hrb]; exact h1.rf o'
  · rw [hll]; exact ownsRow_setCell_below hown (by show tb < tb + 1; omega) _
  · exact Row.snoc hmv h1.row (hmn.repV hv)
  · intro x hx
    rcases List.mem_append.1 hx with hx | hx
    · exact h.wf x hx
    · have : x = t := by simpa using hx
      subst this; exact hw
end Go.Proofs.YtjjmikfbongccaaGreatDoor
namespace Go.Proofs.YtjjmikfbongccaaGreatDoor
open Go.RowKit
set_option linter.unusedVariables false

/-- What giving up throws. -/
def PN : List PanicEntry := [{ v := .iface 9 (.string ⟨#[110, 111, 32, 116, 101, 114, 109]⟩), recovered := false }]
theorem insist_yes (w : World) : Calls Tryz.prog 106 #[.bool true] w fun e w' => e = .returned (.tuple #[]) ∧ w' = w := by
  go_enter Tryz.func106, Tryz.ntmps106
  go_wp2
  go_end0
  exact ⟨rfl, rfl⟩
theorem insist_no (w : World) : Calls Tryz.prog 106 #[.bool false] w fun e w' => e = .panicked PN ∧ w' = w := by
  go_enter Tryz.func106, Tryz.ntmps106
  go_wp2
  exact ⟨rfl, rfl, rfl⟩
theorem isWord_any (x : Int) (hx : x ≤ 9223372036854775807) (w : World) :
    Calls Tryz.prog 107 #[.int .i64 x] w fun e w' => e = .returned (.bool (isW x)) ∧ w' = w := by
  have HW : Hid (isW x = decide (mkw (tagW x) (valW x) = x)) := by show _ = _; rfl
  have HX : Hid (x ≤ 9223372036854775807) := hx
  clear hx
  go_enter Tryz.func107, Tryz.ntmps107
  go_wp2_with (first | (go_at_call 92; refine (implTag_any x HX.out _).mono ?_; rintro e w' ⟨rfl, rfl⟩) | (go_at_call 93; refine (implVal_any x HX.out _).mono ?_; rintro e w' ⟨rfl, rfl⟩) | (go_at_call 117; refine (implMake_any _ _ _).mono ?_; rintro e w' ⟨rfl, rfl⟩))
  go_ret
  refine ⟨ret_bool ?_, rfl⟩
  rw [HW.out]
  first | rfl | simp
/-- What is read from: the words H.f in the block b from o on, the atoms H.A in the block ab from ao on; both are named by the three cells of rb. -/
structure Env where
  H : Hp
  rb : Nat
  wv : Option Addr
  b : Nat
  o : Nat
  cap : Nat
  av : Option Addr
  ab : Nat
  ao : Nat
  acap : Nat
theorem ret_sl {a : Option Addr} {n n' c c' : Nat} (h : n = n') (k : c = c') : Ending.returned (.slice a n c) = .returned (.slice a n' c') := by rw [h, k]
theorem infoParts {e : TypeId} {z : Value} {n b : Nat} (h : (Tryz.prog.info? e).map (fun i => (i.zero, i.size, i.bytes)) = some (some z, n, b)) : ∃ i, Tryz.prog.info? e = some i ∧ i.zero = some z ∧ i.size = n ∧ i.bytes = b := by
  obtain ⟨i, hi, hh⟩ := Option.map_eq_some_iff.1 h
  simp only [Prod.mk.injEq] at hh
  exact ⟨i, hi, hh.1, hh.2.1, hh.2.2⟩
theorem infoU8 : (Tryz.prog.info? 5).map (fun i => (i.zero, i.size, i.bytes)) = some (some (.int .u8 0), 1, 1) := by kernel_rfl
theorem undU8s : Tryz.prog.underlying 121 = some (.slice 5) := by kernel_rfl
theorem infoTm : (Tryz.prog.info? 66).map (fun i => (i.zero, i.size, i.bytes)) = some (some (.agg #[.int .i64 0, .int .i64 0, .string ⟨#[]⟩, .slice none 0 0]), 4, 56) := by kernel_rfl
theorem undTms : Tryz.prog.underlying 64 = some (.slice 66) := by kernel_rfl
/-- v is the bytes xs, in a block of its own from base on. -/
def Own8 (w : World) (base : Nat) (v : Value) (xs : List Int) : Prop := ∃ g cc, v = .slice (some ⟨g, 0, none⟩) xs.length cc ∧ w.ownsRow base 5 1 v xs.length (xs.map (Value.int .u8))
theorem own8_of {w : World} {base : Nat} {v : Value} {n : Nat} {xs : List Int} (h : w.ownsRow base 5 1 v n (xs.map (Value.int .u8))) (hn : v ≠ .slice none 0 0) : Own8 w base v xs := by
  have hl : n = xs.length := by have := h.1; simp at this; omega
  subst hl
  rcases h.2 with ⟨h0, _⟩ | ⟨g, cap, cur, h1, _⟩
  · exact absurd h0 hn
  · exact ⟨g, cap, h1, h⟩
theorem own8_start (w : World) : Own8 (w.alloc (.cells #[] 5)) w.heap.size (.slice (some ⟨w.heap.size, 0, none⟩) 0 0) [] := ⟨_, 0, rfl, World.ownsRow_made w #[] 0 (Nat.le_refl _) (Nat.zero_le _) rfl⟩
theorem src8 (w : World) (x : Int) (t : TypeId) : ∀ j u, [Value.int .u8 x][j]? = some u → (w.alloc (.cells #[.int .u8 x] t)).cell? ((⟨w.heap.size, 0, none⟩ : Addr).add j) = some u := fun j u hu => by
  rw [Addr.add_lit, Nat.zero_add, World.cell?_alloc_new]
  simpa using hu
theorem one8 (x : Int) : ∀ u ∈ [Value.int .u8 x], u.oneCell' = true := fun u hu => by
  obtain rfl : u = .int .u8 x := by simpa using hu
  rfl
theorem isByte_wrap {x : Int} (h : isByte x = true) : IntKind.u8.wrap x = x := by
  unfold isByte at h
  simp at h
  rw [IntKind.wrap_u8]
  omega
/-- The text of bytes that are all there. -/
theorem conv8 {w : World} {base g cc : Nat} {xs : List Int} (h : w.ownsRow base 5 1 (.slice (some ⟨g, 0, none⟩) xs.length cc) xs.length (xs.map (Value.int .u8))) (hy : ∀ x ∈ xs, isByte x = true) :
    (convert 121 9 (.slice (some ⟨g, 0, none⟩) xs.length cc)).run Tryz.prog w = .ok (.string (txtB xs)) w := by
  have := run_convert_bytes_back (P := Tryz.prog) w 121 9 5 ⟨g, 0, none⟩ cc (xs.map fun x => UInt8.ofNat x.toNat) Tryz.underlying121 Tryz.underlying5 Tryz.underlying9 (fun j hj => by
    have hj' : j < xs.length := by simpa using hj
    rw [Addr.add_lit, Nat.zero_add, h.cellAt j (by omega)]
    simp only [List.getElem?_map, List.getElem?_eq_getElem hj', Option.map_some, List.getElem_map]
    have hb := hy _ (List.getElem_mem hj')
    unfold isByte at hb
    simp at hb
    congr 2
    simp
    omega)
  rw [List.length_map] at this
  exact this
set_option maxHeartbeats 1000000 in
set_option maxRecDepth 100000 in
theorem textOf_any (b p cap : Nat) (l : List Int) (w : World) (hc : ∀ j (hj : j < l.length), w.cell? ⟨b, p + j, none⟩ = some (.int .i64 l[j])) (hl : l.length ≤ 40) :
    Calls Tryz.prog 121 #[.slice (some ⟨b, p, none⟩) l.length cap] w fun e w' => (l.all isByte = true ∧ e = .returned (.string (txtB l)) ∨ l.all isByte = false ∧ e = .panicked PN) ∧ Below w.heap.size w w' := by
  have HC : Hid (∀ j (hj : j < l.length), w.cell? ⟨b, p + j, none⟩ = some (.int .i64 l[j])) := hc
  clear hc
  obtain ⟨i0, hi, hz0, hz1, hz2⟩ := infoParts infoU8
  have HI : Hid (Tryz.prog.info? 5 = some i0 ∧ i0.zero = some (.int .u8 0) ∧ i0.size = 1 ∧ i0.bytes = 1) := ⟨hi, hz0, hz1, hz2⟩
  clear hi hz0 hz1 hz2
  go_enter Tryz.func121, Tryz.ntmps121
  go_wp2_with fail
  go_loopw [3, 9] (fun v i wr => ∃ m : Nat, m ≤ l.length ∧ i = .int .i64 m ∧ Own8 wr w.heap.size v (l.take m) ∧ (∀ x ∈ l.take m, isByte x = true) ∧ Below w.heap.size w wr) (fun _ i _ => l.length - (intOf i).toNat)
  case atStart => exact ⟨0, Nat.zero_le _, rfl, own8_start w, by simp, (Below.refl _ _).alloc (Nat.le_refl _) _⟩
  case round =>
    obtain ⟨m, hm, rfl, ho, hy, hb⟩ := hrel
    have HY : Hid (∀ x ∈ l.take m, isByte x = true) := hy
    have HB : Hid (Below w.heap.size w wr) := hb
    obtain ⟨g, cc, rfl, hown⟩ := ho
    have htl : (l.take m).length = m := by simp; omega
    have HO : Hid (wr.ownsRow w.heap.size 5 1 (.slice (some ⟨g, 0, none⟩) m cc) m ((l.take m).map (Value.int .u8))) := by rw [htl] at hown; exact hown
    rw [htl]
    clear hy hb hown htl
    by_cases hlt : m < l.length
    · have q : wr.cell? ⟨b, p + m, none⟩ = some (.int .i64 l[m]) := by
        rw [HB.out.cell (p := ⟨b, p + m, none⟩) (World.block_lt_of_cell? w _ (HC.out m hlt))]; exact HC.out m hlt
      have HX : Hid (l.take (m + 1) = l.take m ++ [l[m]]) := by show _ = _; rw [List.take_add_one, List.getElem?_eq_getElem hlt]; rfl
      have HM : Hid (l[m] ∈ l) := List.getElem_mem hlt
      generalize l[m] = x at *
      cases hx : isByte x with
      | true =>
        have hx0 : 0 ≤ x ∧ x ≤ 255 := by simpa [isByte] using hx
        have hx1 := hx0.1
        have hx2 := hx0.2
        have hxw := isByte_wrap hx
        have HXB : Hid (isByte x = true) := hx
        clear hx hx0
        have HO2 : Hid ((wr.alloc (.cells #[.int .u8 x] 5)).ownsRow w.heap.size 5 1 (.slice (some ⟨g, 0, none⟩) m cc) m ((l.take m).map (Value.int .u8))) := HO.out.alloc _
        have HL2 : Hid ([Value.int .u8 x].length = 1 * 1) := rfl
        have C3 : Hid (m + 1 ≤ maxLen) := by show _ ≤ _; unfold maxLen; omega
        have C4 : Hid ((m + 1) * 1 ≤ 140737488355328) := by show _ ≤ _; omega
        have HB2 : Hid (Below w.heap.size w (wr.alloc (.cells #[.int .u8 x] 5))) := HB.out.alloc HB.out.size _
        go_wp2_with (first | (go_at_call 106; refine (insist_yes _).mono ?_; rintro e w' ⟨rfl, rfl⟩) | (at_builtin; refine wpList_append_own_at _ rfl _ _ 121 rfl w.heap.size 5 i0 (.int .u8 0) 1 1 undU8s HI.out.1 HI.out.2.1 HI.out.2.2.1 HI.out.2.2.2 rfl Nat.zero_lt_one _ m _ rfl HO2.out ⟨_, 0, none⟩ 1 1 [.int .u8 x] rfl HL2.out (src8 _ x _) (one8 x) C3.out C4.out HB2.out.size ?_; intro v5 w5 hown5 hgr5 hnn5 hat5))
        go_roundw
        case rel =>
          refine ⟨m + 1, by omega, by go_num, ?_, ?_, ?_⟩
          · rw [HX.out]
            refine own8_of (n := m + 1) (by rw [List.map_append]; exact hown5) (fun e => by have := (hnn5.1 e).1; cases this)
          · rw [HX.out]
            intro y hy
            rcases List.mem_append.1 hy with hy | hy
            · exact HY.out y hy
            · obtain rfl : y = x := by simpa using hy
              exact HXB.out
          · exact HB2.out.grown hgr5 HB2.out.size (fun k hk => (HO2.out.lt k hk).1)
        case measure => simp [intOf]; omega
      | false =>
        have hx0 : x < 0 ∨ 255 < x := by simp [isByte] at hx; omega
        have HXB : Hid (l.all isByte = false) := by
          show _ = _
          rw [List.all_eq_false]
          exact ⟨x, HM.out, by rw [hx]; simp⟩
        clear hx
        rcases hx0 with hx0 | hx0
        · go_wp2_with (first | (go_at_call 106; refine (insist_no _).mono ?_; rintro e w' ⟨rfl, rfl⟩))
          exact ⟨rfl, .inr ⟨HXB.out, rfl⟩, HB.out⟩
        · have hx1 : 0 ≤ x := by omega
          have hd : decide (x ≤ 255) = false := by simp; omega
          go_wp2_with (first | (go_at_call 106; refine (insist_no _).mono ?_; rintro e w' ⟨rfl, rfl⟩))
          exact ⟨rfl, .inr ⟨HXB.out, rfl⟩, HB.out⟩
    · have hml : m = l.length := by omega
      have htk : l.take m = l := by rw [hml]; simp
      rw [htk] at HO HY
      have HO' : Hid (wr.ownsRow w.heap.size 5 1 (.slice (some ⟨g, 0, none⟩) l.length cc) l.length (l.map (Value.int .u8))) := by show World.ownsRow ..; rw [← hml]; exact HO.out
      have hcv := conv8 HO'.out HY.out
      rw [← hml] at hcv
      have HA : Hid (l.all isByte = true) := by show _ = _; rw [List.all_eq_true]; exact HY.out
      clear htk hml
      go_wp2_with fail
      go_ret
      exact ⟨.inl ⟨HA.out, rfl⟩, HB.out⟩
theorem four8 {w : World} {a b c d : Value} {t : TypeId} : ∀ j u, [a, b, c, d][j]? = some u → (w.alloc (.cells #[a, b, c, d] t)).cell? ((⟨w.heap.size, 0, none⟩ : Addr).add j) = some u := fun j u hu =>
  World.news_of_block (w := w.alloc (.cells #[a, b, c, d] t)) (B := w.heap.size) (cs := #[a, b, c, d]) (t := t) (fr := (0, 0)) (by show (w.heap.push _)[w.heap.size]? = _; simp) j u hu
def pre (l : List Tm) : Option (List Tm × Nat) → Option (List Tm × Nat)
  | none => none
  | some (r, x) => some (l ++ r, x)
theorem pre_pre (l r : List Tm) (o : Option (List Tm × Nat)) : pre l (pre r o) = pre (l ++ r) o := by
  cases o with
  | none => rfl
  | some p => simp [pre]
theorem pre_nil (o : Option (List Tm × Nat)) : pre [] o = o := by
  cases o with
  | none => rfl
  | some p => simp [pre]
theorem rTs_none {H : Hp} {g : Rd} {k q y : Nat} (h : g (H.f q) y = none) : rTs H g (k + 1) q y = none := by rw [rTs, h]
theorem rTs_some {H : Hp} {g : Rd} {k q y : Nat} {t : Tm} {z : Nat} (h : g (H.f q) y = some (t, z)) : rTs H g (k + 1) q y = pre [t] (rTs H g k (q + 1) z) := by
  rw [rTs, h]
  simp only
  cases rTs H g k (q + 1) z with
  | none => rfl
  | some p => rfl
theorem one4 {a b : Int} {c : ByteArray} {d : Option Addr} {e f : Nat} : ∀ u ∈ [Value.int .i64 a, .int .i64 b, .string c, .slice d e f], u.oneCell' = true := by
  intro u' hu'
  simp at hu'
  rcases hu' with rfl | rfl | rfl | rfl <;> rfl
theorem rL_end {H : Hp} {g : Rd} {k y : Nat} : rL H g k 3 y = some ([], y) := by
  cases k <;> rw [rL, if_pos rfl]
theorem rL_off {H : Hp} {g : Rd} {k y : Nat} {x : Int} (h : x ≠ 3) (hc : ¬ consAt H x) : rL H g k x y = none := by
  cases k with
  | zero => rw [rL, if_neg h]
  | succ k => rw [rL, if_neg h, if_neg hc]
theorem rL_none {H : Hp} {g : Rd} {k y : Nat} {x : Int} (h : x ≠ 3) (hg : g (H.f (valW x).toNat) y = none) : rL H g k x y = none := by
  cases k with
  | zero => rw [rL, if_neg h]
  | succ k =>
    rw [rL, if_neg h]
    split
    · rw [hg]
    · rfl
theorem rL_some {H : Hp} {g : Rd} {k y : Nat} {x : Int} (h : x ≠ 3) (hc : consAt H x) {t : Tm} {z : Nat} (hg : g (H.f (valW x).toNat) y = some (t, z)) : rL H g (k + 1) x y = pre [t] (rL H g k (H.f ((valW x).toNat + 1)) z) := by
  rw [rL, if_neg h, if_pos hc, hg]
  simp only
  cases rL H g k (H.f ((valW x).toNat + 1)) z with
  | none => rfl
  | some p => rfl
/-- More rounds than may come yet make no difference. -/
theorem rL_more {H : Hp} {g : Rd} (hg : ∀ w left t x, g w left = some (t, x) → x < left) : ∀ (k k' : Nat) (x : Int) (y : Nat), y ≤ k → y ≤ k' → rL H g k x y = rL H g k' x y
  | 0, 0, x, y, _, _ => rfl
  | 0, k' + 1, x, y, h, _ => by
    rw [rL, rL]
    split
    · rfl
    · split
      · cases hq : g (H.f (valW x).toNat) y with
        | none => rfl
        | some p => obtain ⟨t, z⟩ := p; have := hg _ _ _ _ hq; omega
      · rfl
  | k + 1, 0, x, y, _, h => by
    rw [rL, rL]
    split
    · rfl
    · split
      · cases hq : g (H.f (valW x).toNat) y with
        | none => rfl
        | some p => obtain ⟨t, z⟩ := p; have := hg _ _ _ _ hq; omega
      · rfl
  | k + 1, k' + 1, x, y, h, h' => by
    rw [rL, rL]
    split
    · rfl
    · split
      · cases hq : g (H.f (valW x).toNat) y with
        | none => rfl
        | some p =>
          obtain ⟨t, z⟩ := p
          have := hg _ _ _ _ hq
          simp only
          rw [rL_more hg k k' _ z (by omega) (by omega)]
      · rfl
theorem text_yes (b p cap : Nat) (l : List Int) (w : World) (hc : ∀ j (hj : j < l.length), w.cell? ⟨b, p + j, none⟩ = some (.int .i64 l[j])) (hl : l.length ≤ 40) (he : l.all isByte = true) :
    Calls Tryz.prog 121 #[.slice (some ⟨b, p, none⟩) l.length cap] w fun e w' => e = .returned (.string (txtB l)) ∧ Below w.heap.size w w' := by
  refine (textOf_any b p cap l w hc hl).mono ?_
  rintro e w' ⟨⟨_, rfl⟩ | ⟨hh, rfl⟩, hb⟩
  · exact ⟨rfl, hb⟩
  · rw [he] at hh; cases hh
theorem text_no (b p cap : Nat) (l : List Int) (w : World) (hc : ∀ j (hj : j < l.length), w.cell? ⟨b, p + j, none⟩ = some (.int .i64 l[j])) (hl : l.length ≤ 40) (he : l.all isByte = false) :
    Calls Tryz.prog 121 #[.slice (some ⟨b, p, none⟩) l.length cap] w fun e w' => e = .panicked PN ∧ Below w.heap.size w w' := by
  refine (textOf_any b p cap l w hc hl).mono ?_
  rintro e w' ⟨⟨hh, rfl⟩ | ⟨_, rfl⟩, hb⟩
  · rw [he] at hh; cases hh
  · exact ⟨rfl, hb⟩
def lay4 (w : World) (B : Nat) (a b c d : Value) : World := (((w.setCell ⟨B, 0, none⟩ a).setCell ⟨B, 1, none⟩ b).setCell ⟨B, 2, none⟩ c).setCell ⟨B, 3, none⟩ d
theorem lay4_heap {w : World} {B : Nat} {a b c d : Value} {k : Nat} (h : k ≠ B) : (lay4 w B a b c d).heap[k]? = w.heap[k]? := by
  unfold lay4
  rw [Below.heap_setCell _ ⟨B, 3, none⟩ _ k h, Below.heap_setCell _ ⟨B, 2, none⟩ _ k h, Below.heap_setCell _ ⟨B, 1, none⟩ _ k h, Below.heap_setCell _ ⟨B, 0, none⟩ _ k h]
theorem lay4_cell {w : World} {B : Nat} {a b c d : Value} {k o : Nat} (h : k ≠ B) : (lay4 w B a b c d).cell? ⟨k, o, none⟩ = w.cell? ⟨k, o, none⟩ := World.cell?_of_block (w := w) (lay4_heap h)
theorem lay4_size {w : World} {B : Nat} {a b c d : Value} : (lay4 w B a b c d).heap.size = w.heap.size := by
  unfold lay4
  rw [World.size_setCell, World.size_setCell, World.size_setCell, World.size_setCell]
theorem Turn.keep {cb W : Nat} {w1 w2 : World} {c : Array Value} (t : Turn cb w1 w2) (hn : cb ≠ W) (hlt : W < w1.heap.size) (hq : ∀ o, w1.cell? ⟨W, o, none⟩ = c[o]?) (hf : ∀ o, w1.frozen? ⟨W, o, none⟩ = false) :
    (∀ o, w2.cell? ⟨W, o, none⟩ = c[o]?) ∧ (∀ o, w2.frozen? ⟨W, o, none⟩ = false) :=
  ⟨fun o => by rw [World.cell?_of_block (w := w1) (t.block W hlt (Ne.symm hn))]; exact hq o, fun o => by rw [World.frozen?_of_block (w := w1) (t.block W hlt (Ne.symm hn))]; exact hf o⟩
theorem isW_big {x : Int} (h : isW x = true) : x ≤ 9223372036854775807 := by
  have h0 := isW_ge h
  have hv := isW_val h
  rw [valW_of h0] at hv
  omega
theorem wordsAt_len (H : Hp) (p n : Nat) : (wordsAt H p n).length = n := by simp [wordsAt]
theorem wordsAt_get (H : Hp) (p n j : Nat) (h : j < (wordsAt H p n).length) : (wordsAt H p n)[j] = H.f (p + j) := by simp [wordsAt]
/-- A box that is new at the end, and then a call that writes nothing old. -/
theorem box_two {w5 w7 : World} {c : Array Value} {T : TypeId} (hb : Below (w5.alloc (.cells c T)).heap.size (w5.alloc (.cells c T)) w7) :
    (∀ o, w7.cell? ⟨w5.heap.size, o, none⟩ = c[o]?) ∧ (∀ k, k < w5.heap.size → w7.heap[k]? = w5.heap[k]?) ∧ w5.heap.size + 1 ≤ w7.heap.size ∧ w7.os = w5.os ∧ w7.tape = w5.tape ∧ w7.output = w5.output := by
  have hs : (w5.alloc (.cells c T)).heap.size = w5.heap.size + 1 := World.size_alloc _ _
  refine ⟨fun o => ?_, fun k hk => ?_, by rw [← hs]; exact hb.size, hb.os, hb.tape, hb.output⟩
  · rw [hb.cell (p := ⟨w5.heap.size, o, none⟩) (by rw [hs]; exact Nat.lt_succ_self _)]
    exact World.cell?_alloc_new w5 c T o
  · rw [hb.block k (by rw [hs]; omega)]
    show (w5.heap.push _)[k]? = _
    rw [Array.getElem?_push, if_neg (by omega)]
theorem turn_two {cb : Nat} {w5 w7 : World} (hk : ∀ k, k < w5.heap.size → w7.heap[k]? = w5.heap[k]?) (hs : w5.heap.size + 1 ≤ w7.heap.size) (h1 : w7.os = w5.os) (h2 : w7.tape = w5.tape) (h3 : w7.output = w5.output) : Turn cb w5 w7 :=
  ⟨h1, h2, h3, by omega, fun k hkl _ => hk k hkl⟩
theorem rT_isW {H : Hp} {d : Nat} {x : Int} {left : Nat} (h : isW x = false) : rT true H d x left = none := by
  cases d with
  | zero => rw [rT]
  | succ d => rw [rT, if_neg (by simp [h])]
theorem rT_left {H : Hp} {d : Nat} {x : Int} : rT true H d x 0 = none := by
  cases d with
  | zero => rw [rT]
  | succ d => rw [rT, if_neg (by simp)]
theorem rT_on {H : Hp} {d : Nat} {x : Int} {k : Nat} (h : isW x = true) : rT true H (d + 1) x (k + 1) = held true (raw true H (rT true H d) x k) := by
  rw [rT, if_pos ⟨by simpa using h, by omega⟩]; rfl
/-- The words and the atoms are there. -/
structure Src (E : Env) (w : World) : Prop where
  ok : E.H.ok
  wl : E.H.N ≠ 0 → E.wv = some ⟨E.b, E.o, none⟩
  al : E.H.A.length ≠ 0 → E.av = some ⟨E.ab, E.ao, none⟩
  ws : ∀ j, j < E.H.N → w.cell? ⟨E.b, E.o + j, none⟩ = some (.int .i64 (E.H.f j))
  ats : Txt w E.ab E.ao E.H.A
  cp : E.H.N ≤ E.cap
  big : ∀ j, E.H.f j ≤ 9223372036854775807
  txt : ∀ s, s ∈ E.H.A → s.size ≤ 1048576
theorem big_txt {A : List ByteArray} (h : ∀ s, s ∈ A → s.size ≤ 1048576) : ∀ s, s ∈ A → s.size ≤ maxLen := fun s hs => Nat.le_trans (h s hs) (by unfold maxLen; omega)
theorem Src.below {E : Env} {w w' : World} (h : Src E w) (hb : Below w.heap.size w w') : Src E w' := by
  have e : ∀ b o v, w.cell? ⟨b, o, none⟩ = some v → w'.cell? ⟨b, o, none⟩ = some v := fun b o v hc => by
    rw [hb.cell (p := ⟨b, o, none⟩) (World.block_lt_of_cell? w _ hc)]; exact hc
  exact ⟨h.ok, h.wl, h.al, fun j hj => e _ _ _ (h.ws j hj), h.ats.below hb, h.cp, h.big, h.txt⟩
abbrev zT : Value := .agg #[.int .i64 0, .int .i64 0, .string ⟨#[]⟩, .slice none 0 0]
theorem lay4_below {B : Nat} {W w : World} (h : Below B W w) {g : Nat} (hg : B ≤ g) (a b c d : Value) : Below B W (lay4 w g a b c d) :=
  (((h.setCell (p := ⟨g, 0, none⟩) hg a).setCell (p := ⟨g, 1, none⟩) hg b).setCell (p := ⟨g, 2, none⟩) hg c).setCell (p := ⟨g, 3, none⟩) hg d
theorem two_far {w5 : World} {B1 B2 k o : Nat} {a b c d v : Value} (h1 : k ≠ B1) (h2 : k ≠ B2) : ((lay4 w5 B1 a b c d).setCell ⟨B2, 0, none⟩ v).cell? ⟨k, o, none⟩ = w5.cell? ⟨k, o, none⟩ := by
  rw [World.cell?_setCell_other (h := fun e => by simp at e <;> omega), lay4_cell h1]
end Go.Proofs.YtjjmikfbongccaaGreatDoor
namespace Go.Proofs.YtjjmikfbongccaaGreatDoor
open Go.RowKit
set_option linter.unusedVariables false

mutual
/-- The four cells from off on in the block b are the term t; all blocks that it leads to are of [a, m). -/
def OwT (w : World) : Tm → Nat → Nat → Nat → Nat → Prop
  | .mk k n s l, a, m, b, off => w.cell? ⟨b, off, none⟩ = some (.int .i64 k) ∧ w.cell? ⟨b, off + 1, none⟩ = some (.int .i64 n) ∧ w.cell? ⟨b, off + 2, none⟩ = some (.string s) ∧ s.size ≤ maxLen ∧
      ∃ ao cap, w.cell? ⟨b, off + 3, none⟩ = some (.slice ao l.length cap) ∧ l.length ≤ cap ∧ cap ≤ maxLen ∧ OwL w l a m ao
/-- From off on in the block g stand the terms of l; what they lead to stands in intervals one behind the other, from lo to hi, without g. -/
def OwR (w : World) : List Tm → Nat → Nat → Nat → Nat → Prop
  | [], g, lo, hi, off => lo ≤ hi
  | t :: r, g, lo, hi, off => ∃ a m, lo ≤ a ∧ a ≤ m ∧ (g < a ∨ m ≤ g) ∧ OwT w t a m g off ∧ OwR w r g m hi (off + 4)
def OwL (w : World) : List Tm → Nat → Nat → Option Addr → Prop
  | [], _, _, _ => True
  | t :: r, lo, hi, ao => ∃ g lo1 hi1, ao = some ⟨g, 0, none⟩ ∧ lo ≤ g ∧ g < hi ∧ lo ≤ lo1 ∧ hi1 ≤ hi ∧ (∀ o, w.frozen? ⟨g, o, none⟩ = false) ∧ ∃ a m, lo1 ≤ a ∧ a ≤ m ∧ (g < a ∨ m ≤ g) ∧ OwT w t a m g 0 ∧ OwR w r g m hi1 4
end
def OwV (w : World) (lo hi : Nat) : Tm → Value → Prop
  | .mk k n s l, v => ∃ ao cap, v = .agg #[.int .i64 k, .int .i64 n, .string s, .slice ao l.length cap] ∧ s.size ≤ maxLen ∧ l.length ≤ cap ∧ cap ≤ maxLen ∧ OwL w l lo hi ao

theorem OwL.iff {w : World} {l : List Tm} {lo hi : Nat} {ao : Option Addr} (hl : l ≠ []) : OwL w l lo hi ao ↔ ∃ g lo1 hi1, ao = some ⟨g, 0, none⟩ ∧ lo ≤ g ∧ g < hi ∧ lo ≤ lo1 ∧ hi1 ≤ hi ∧ (∀ o, w.frozen? ⟨g, o, none⟩ = false) ∧ OwR w l g lo1 hi1 0 := by
  cases l with
  | nil => exact absurd rfl hl
  | cons t r => rw [OwL]; simp only [OwR, Nat.zero_add]
theorem OwL.mono {w : World} {l : List Tm} {lo hi lo' hi' : Nat} {ao : Option Addr} (h : OwL w l lo hi ao) (h1 : lo' ≤ lo) (h2 : hi ≤ hi') : OwL w l lo' hi' ao := by
  cases l with
  | nil => rw [OwL]; trivial
  | cons t r =>
    rw [OwL] at h ⊢
    obtain ⟨g, lo1, hi1, e, a1, a2, a3, a4, h5⟩ := h
    exact ⟨g, lo1, hi1, e, by omega, by omega, by omega, by omega, h5⟩
theorem OwV.mono {w : World} {lo hi lo' hi' : Nat} {t : Tm} {v : Value} (h : OwV w lo hi t v) (h1 : lo' ≤ lo) (h2 : hi ≤ hi') : OwV w lo' hi' t v := by
  obtain ⟨k, n, s, l⟩ := t
  obtain ⟨ao, cap, e, b1, b2, b3, b4⟩ := h
  exact ⟨ao, cap, e, b1, b2, b3, b4.mono h1 h2⟩
theorem OwT.head {w : World} (t : Tm) (a m b off : Nat) (h : OwT w t a m b off) : ∃ v, w.cell? ⟨b, off, none⟩ = some v := by
  obtain ⟨k, n, s, l⟩ := t
  rw [OwT] at h
  exact ⟨_, h.1⟩
theorem OwR.le {w : World} : ∀ {l : List Tm} {g lo hi off : Nat}, OwR w l g lo hi off → lo ≤ hi
  | [], g, lo, hi, off, h => by rw [OwR] at h; exact h
  | t :: r, g, lo, hi, off, h => by
    rw [OwR] at h
    obtain ⟨a, m, h1, h2, _, _, h5⟩ := h
    have := OwR.le h5
    omega
/-- Blocks of [lo, hi) are as they were. -/
def Kp (lo hi : Nat) (w w' : World) : Prop := ∀ b, lo ≤ b → b < hi → b < w.heap.size → w'.heap[b]? = w.heap[b]?
theorem Kp.sub {lo hi lo' hi' : Nat} {w w' : World} (h : Kp lo hi w w') (h1 : lo ≤ lo') (h2 : hi' ≤ hi) : Kp lo' hi' w w' := fun b a1 a2 a3 => h b (by omega) (by omega) a3
theorem Kp.cell {lo hi : Nat} {w w' : World} (h : Kp lo hi w w') {b o : Nat} {v : Value} (h1 : lo ≤ b) (h2 : b < hi) (hc : w.cell? ⟨b, o, none⟩ = some v) : w'.cell? ⟨b, o, none⟩ = some v := by
  rw [World.cell?_of_block (w := w) (h b h1 h2 (World.block_lt_of_cell? w _ hc))]; exact hc
mutual
theorem OwT.keep {w w' : World} : ∀ (t : Tm) (a m b off : Nat), Kp a m w w' → (∀ j v, j < 4 → w.cell? ⟨b, off + j, none⟩ = some v → w'.cell? ⟨b, off + j, none⟩ = some v) → OwT w t a m b off → OwT w' t a m b off
  | .mk k n s l, a, m, b, off, hk, hc, h => by
    rw [OwT] at h ⊢
    obtain ⟨h0, h1, h2, hs, ao, cap, h3, hl, hcp, hr⟩ := h
    exact ⟨hc 0 _ (by omega) h0, hc 1 _ (by omega) h1, hc 2 _ (by omega) h2, hs, ao, cap, hc 3 _ (by omega) h3, hl, hcp, OwL.keep l a m ao hk hr⟩
theorem OwR.keep {w w' : World} : ∀ (l : List Tm) (g lo hi off : Nat), (∀ b, lo ≤ b → b < hi → b ≠ g → b < w.heap.size → w'.heap[b]? = w.heap[b]?) → (∀ o v, off ≤ o → o < off + 4 * l.length → w.cell? ⟨g, o, none⟩ = some v → w'.cell? ⟨g, o, none⟩ = some v) → OwR w l g lo hi off → OwR w' l g lo hi off
  | [], g, lo, hi, off, _, _, h => by rw [OwR] at h ⊢; exact h
  | t :: r, g, lo, hi, off, hk, hc, h => by
    rw [OwR] at h ⊢
    obtain ⟨a, m, h1, h2, h3, h4, h5⟩ := h
    have hle := OwR.le h5
    refine ⟨a, m, h1, h2, h3, OwT.keep t a m g off (fun b hb1 hb2 hbl => hk b (by omega) (by omega) (by omega) hbl) (fun j v hj hv => hc _ v (by omega) (by simp; omega) hv) h4, OwR.keep r g m hi (off + 4) (fun b hb1 hb2 hb3 hbl => hk b (by omega) hb2 hb3 hbl) (fun o v ho1 ho2 hv => hc o v (by omega) (by simp; omega) hv) h5⟩
theorem OwL.keep {w w' : World} : ∀ (l : List Tm) (lo hi : Nat) (ao : Option Addr), Kp lo hi w w' → OwL w l lo hi ao → OwL w' l lo hi ao
  | [], _, _, _, _, _ => by rw [OwL]; trivial
  | t :: r, lo, hi, ao, hk, h => by
    rw [OwL] at h ⊢
    obtain ⟨g, lo1, hi1, e, a1, a2, a3, a4, af, a, m, h1, h2, h3, h4, h5⟩ := h
    have hle := OwR.le h5
    have hgl : g < w.heap.size := by
      obtain ⟨v, hv⟩ := OwT.head t a m g 0 h4
      exact World.block_lt_of_cell? w _ hv
    exact ⟨g, lo1, hi1, e, a1, a2, a3, a4, fun o => by rw [World.frozen?_of_block (w := w) (hk g a1 a2 hgl)]; exact af o, a, m, h1, h2, h3, OwT.keep t a m g 0 (hk.sub (by omega) (by omega)) (fun j v hj hv => hk.cell a1 a2 hv) h4, OwR.keep r g m hi1 4 (fun b hb1 hb2 _ hbl => hk b (by omega) (by omega) hbl) (fun o v _ _ hv => hk.cell a1 a2 hv) h5⟩
end
theorem OwV.keep {w w' : World} {lo hi : Nat} (hk : Kp lo hi w w') {t : Tm} {v : Value} (h : OwV w lo hi t v) : OwV w' lo hi t v := by
  obtain ⟨k, n, s, l⟩ := t
  obtain ⟨ao, cap, e, b1, b2, b3, b4⟩ := h
  exact ⟨ao, cap, e, b1, b2, b3, OwL.keep _ _ _ _ hk b4⟩
theorem OwV.form {w : World} {lo hi : Nat} {t : Tm} {v : Value} (h : OwV w lo hi t v) : ∃ a b c d e f, v = .agg #[.int .i64 a, .int .i64 b, .string c, .slice d e f] := by
  obtain ⟨k, n, s, l⟩ := t
  obtain ⟨ao, cap, e, _⟩ := h
  exact ⟨_, _, _, _, _, _, e⟩
mutual
theorem OwT.rp {w : World} {B : Nat} : ∀ (t : Tm) (a m b off : Nat), B ≤ a → OwT w t a m b off → RpT (fun x => B ≤ x) w t b off
  | .mk k n s l, a, m, b, off, hB, h => by
    rw [OwT] at h
    rw [RpT]
    obtain ⟨h0, h1, h2, hs, ao, cap, h3, hl, hcp, hr⟩ := h
    exact ⟨h0, h1, h2, hs, ao, cap, h3, hl, hcp, OwL.rp l a m ao hB hr⟩
theorem OwR.rp {w : World} {B : Nat} : ∀ (l : List Tm) (g lo hi off : Nat), B ≤ g → B ≤ lo → OwR w l g lo hi off → RpL (fun x => B ≤ x) w l (some ⟨g, off, none⟩)
  | [], g, lo, hi, off, _, _, h => by rw [RpL]; trivial
  | t :: r, g, lo, hi, off, hg, hB, h => by
    rw [OwR] at h
    rw [RpL]
    obtain ⟨a, m, h1, h2, h3, h4, h5⟩ := h
    exact ⟨g, off, rfl, hg, OwT.rp t a m g off (by omega) h4, OwR.rp r g m hi (off + 4) hg (by omega) h5⟩
theorem OwL.rp {w : World} {B : Nat} : ∀ (l : List Tm) (lo hi : Nat) (ao : Option Addr), B ≤ lo → OwL w l lo hi ao → RpL (fun x => B ≤ x) w l ao
  | [], _, _, _, _, _ => by rw [RpL]; trivial
  | t :: r, lo, hi, ao, hB, h => by
    rw [OwL] at h
    rw [RpL]
    obtain ⟨g, lo1, hi1, e, a1, a2, a3, a4, af, a, m, h1, h2, h3, h4, h5⟩ := h
    exact ⟨g, 0, e, by omega, OwT.rp t a m g 0 (by omega) h4, OwR.rp r g m hi1 4 (by omega) (by omega) h5⟩
end
theorem OwV.rp {w : World} {lo hi : Nat} {t : Tm} {v : Value} (h : OwV w lo hi t v) : RpV (fun x => lo ≤ x) w t v := by
  obtain ⟨k, n, s, l⟩ := t
  obtain ⟨ao, cap, e, b1, b2, b3, b4⟩ := h
  exact ⟨ao, cap, e, b1, b2, b3, OwL.rp _ _ _ _ (Nat.le_refl _) b4⟩

/-! ### One of a row -/
theorem OwR.split {w : World} {t : Tm} {B : List Tm} {g hi : Nat} : ∀ {A : List Tm} {lo off : Nat}, OwR w (A ++ t :: B) g lo hi off → ∃ e a m, OwR w A g lo e off ∧ e ≤ a ∧ a ≤ m ∧ m ≤ hi ∧ (g < a ∨ m ≤ g) ∧ OwT w t a m g (off + A.length * 4) ∧ OwR w B g m hi (off + A.length * 4 + 4)
  | [], lo, off, h => by
    rw [List.nil_append, OwR] at h
    obtain ⟨a, m, h1, h2, h3, h4, h5⟩ := h
    refine ⟨lo, a, m, by rw [OwR]; exact Nat.le_refl _, h1, h2, OwR.le h5, h3, by simpa using h4, by simpa using h5⟩
  | x :: A, lo, off, h => by
    rw [List.cons_append, OwR] at h
    obtain ⟨a', m', h1, h2, h3, h4, h5⟩ := h
    obtain ⟨e, a, m, b1, b2, b3, b4, b5, b6, b7⟩ := OwR.split h5
    have el : off + 4 + A.length * 4 = off + (x :: A).length * 4 := by simp; omega
    rw [el] at b6 b7
    exact ⟨e, a, m, by rw [OwR]; exact ⟨a', m', h1, h2, h3, h4, b1⟩, b2, b3, b4, b5, b6, b7⟩
theorem OwR.join {w : World} {t : Tm} {B : List Tm} {g hi a m : Nat} : ∀ {A : List Tm} {lo e off : Nat}, OwR w A g lo e off → e ≤ a → a ≤ m → (g < a ∨ m ≤ g) → OwT w t a m g (off + A.length * 4) → OwR w B g m hi (off + A.length * 4 + 4) → OwR w (A ++ t :: B) g lo hi off
  | [], lo, e, off, h, h1, h2, h3, h4, h5 => by
    rw [OwR] at h
    rw [List.nil_append, OwR]
    exact ⟨a, m, by omega, h2, h3, by simpa using h4, by simpa using h5⟩
  | x :: A, lo, e, off, h, h1, h2, h3, h4, h5 => by
    rw [OwR] at h
    obtain ⟨a', m', c1, c2, c3, c4, c5⟩ := h
    have el : off + 4 + A.length * 4 = off + (x :: A).length * 4 := by simp; omega
    rw [← el] at h4 h5
    rw [List.cons_append, OwR]
    exact ⟨a', m', c1, c2, c3, c4, OwR.join c5 h1 h2 h3 h4 h5⟩

/-! ### Cells of a list that is gathered -/
/-- The cells xs hold the terms of l; what they lead to stands in intervals from lo to hi; the block gb is in none of them. -/
def RowO (w : World) (gb : Option Nat) : List Tm → List Value → Nat → Nat → Prop
  | [], xs, lo, hi => xs = [] ∧ lo ≤ hi
  | .mk k n s l :: r, xs, lo, hi => ∃ a m ao cap xs', xs = .int .i64 k :: .int .i64 n :: .string s :: .slice ao l.length cap :: xs' ∧ s.size ≤ maxLen ∧ l.length ≤ cap ∧ cap ≤ maxLen ∧ lo ≤ a ∧ a ≤ m ∧ (∀ g, gb = some g → g < a ∨ m ≤ g) ∧ OwL w l a m ao ∧ RowO w gb r xs' m hi
theorem RowO.le {w : World} {gb : Option Nat} : ∀ {l : List Tm} {xs : List Value} {lo hi : Nat}, RowO w gb l xs lo hi → lo ≤ hi
  | [], xs, lo, hi, h => by rw [RowO] at h; exact h.2
  | .mk k n s l :: r, xs, lo, hi, h => by
    rw [RowO] at h
    obtain ⟨a, m, ao, cap, xs', _, _, _, _, h1, h2, _, _, h5⟩ := h
    have := RowO.le h5
    omega
/-- Another block, which is in none of the intervals; another world, which keeps them. -/
theorem RowO.move {w w' : World} {gb gb' : Option Nat} : ∀ {l : List Tm} {xs : List Value} {lo hi : Nat}, (∀ b, lo ≤ b → b < hi → gb ≠ some b → b < w.heap.size → w'.heap[b]? = w.heap[b]?) → (∀ g, gb' = some g → gb = some g ∨ hi ≤ g) → RowO w gb l xs lo hi → RowO w' gb' l xs lo hi
  | [], xs, lo, hi, _, _, h => by rw [RowO] at h ⊢; exact h
  | .mk k n s l :: r, xs, lo, hi, hk, hg, h => by
    rw [RowO] at h ⊢
    obtain ⟨a, m, ao, cap, xs', e, b1, b2, b3, h1, h2, h3, h4, h5⟩ := h
    have hle := RowO.le h5
    refine ⟨a, m, ao, cap, xs', e, b1, b2, b3, h1, h2, fun g hgg => ?_, OwL.keep _ _ _ _ (fun b hb1 hb2 hbl => hk b (by omega) (by omega) (fun e => by rcases h3 b e with h | h <;> omega) hbl) h4, RowO.move (fun b hb1 hb2 hb3 hbl => hk b (by omega) hb2 hb3 hbl) hg h5⟩
    rcases hg g hgg with h | h
    · exact h3 g h
    · right; omega
theorem RowO.hi {w : World} {gb : Option Nat} : ∀ {l : List Tm} {xs : List Value} {lo hi hi' : Nat}, hi ≤ hi' → RowO w gb l xs lo hi → RowO w gb l xs lo hi'
  | [], xs, lo, hi, hi', hh, h => by rw [RowO] at h ⊢; exact ⟨h.1, by omega⟩
  | .mk k n s l :: r, xs, lo, hi, hi', hh, h => by
    rw [RowO] at h ⊢
    obtain ⟨a, m, ao, cap, xs', e, b1, b2, b3, h1, h2, h3, h4, h5⟩ := h
    exact ⟨a, m, ao, cap, xs', e, b1, b2, b3, h1, h2, h3, h4, RowO.hi hh h5⟩
theorem RowO.snoc {w : World} {gb : Option Nat} {t : Tm} {a b c d : Value} {lo' hi' : Nat} (hv : OwV w lo' hi' t (.agg #[a, b, c, d])) (hg : ∀ g, gb = some g → g < lo' ∨ hi' ≤ g) (hlh : lo' ≤ hi') : ∀ {l : List Tm} {xs : List Value} {lo hi : Nat}, hi ≤ lo' → RowO w gb l xs lo hi → RowO w gb (l ++ [t]) (xs ++ [a, b, c, d]) lo hi'
  | [], xs, lo, hi, hle, h => by
    rw [RowO] at h
    obtain ⟨rfl, h1⟩ := h
    obtain ⟨k, n, s, l⟩ := t
    obtain ⟨ao, cap, e, b1, b2, b3, b4⟩ := hv
    simp only [Value.agg.injEq, Array.mk.injEq, List.cons.injEq, and_true] at e
    obtain ⟨rfl, rfl, rfl, rfl⟩ := e
    rw [List.nil_append, RowO]
    exact ⟨lo', hi', ao, cap, [], rfl, b1, b2, b3, by omega, hlh, hg, b4, by rw [RowO]; exact ⟨rfl, Nat.le_refl _⟩⟩
  | .mk k n s l :: r, xs, lo, hi, hle, h => by
    rw [RowO] at h
    obtain ⟨a', m, ao, cap, xs', rfl, b1, b2, b3, h1, h2, h3, h4, h5⟩ := h
    rw [List.cons_append, RowO]
    exact ⟨a', m, ao, cap, xs' ++ [a, b, c, d], rfl, b1, b2, b3, h1, h2, h3, h4, RowO.snoc hv hg hlh hle h5⟩
theorem RowO.row {w : World} {g : Nat} : ∀ {l : List Tm} {xs : List Value} {lo hi off : Nat}, (∀ j v, xs[j]? = some v → w.cell? ⟨g, off + j, none⟩ = some v) → RowO w (some g) l xs lo hi → OwR w l g lo hi off
  | [], xs, lo, hi, off, _, h => by rw [RowO] at h; rw [OwR]; exact h.2
  | .mk k n s l :: r, xs, lo, hi, off, hc, h => by
    rw [RowO] at h
    rw [OwR]
    obtain ⟨a, m, ao, cap, xs', rfl, b1, b2, b3, h1, h2, h3, h4, h5⟩ := h
    refine ⟨a, m, h1, h2, h3 g rfl, ?_, RowO.row (fun j v hj => ?_) h5⟩
    · rw [OwT]
      exact ⟨hc 0 _ rfl, hc 1 _ rfl, hc 2 _ rfl, b1, ao, cap, hc 3 _ rfl, b2, b3, h4⟩
    · rw [Nat.add_assoc, Nat.add_comm 4 j]
      exact hc (j + 4) v (by simpa using hj)
end Go.Proofs.YtjjmikfbongccaaGreatDoor
