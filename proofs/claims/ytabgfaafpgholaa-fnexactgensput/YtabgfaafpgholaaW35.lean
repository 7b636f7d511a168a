/-
  The count of a term's words, the program's: what its stack of lists holds.
-/
import Derived.Test.YtabgfaafpgholaaW34
import Derived.Test.YtabgfaafpgholaaW28
import Derived.Test.YtabgfaafpgholaaW10
import Derived.Laws.OwnMore
import Derived.Maps.AppendAt
import Derived.Deep.OwnRows
namespace Go.Proofs.Ytabgfaafpgholaa
open Go.RowKit
set_option linter.unusedVariables false

/-- A list that is being counted: its name, what is still to be looked at, the words so far. -/
abbrev Sk := Nm × List Tm × Nat
def NStk (W : World) : List Sk → List Value → List Nat → Prop
  | [], xs, bs => xs = [] ∧ bs = []
  | p :: ps, xs, bs => ∃ g o cap ao ys b1 b2, xs = npV p.1.1 :: .int .i64 p.1.2 :: .slice ao p.2.1.length cap :: .int .i64 p.2.2 :: ys ∧ (p.2.1 ≠ [] → ao = some ⟨g, o, none⟩) ∧ p.2.1.length ≤ cap ∧ cap ≤ maxLen ∧ OsR W p.2.1 b1 g o ∧ bs = b1 ++ b2 ∧ NStk W ps ys b2
theorem NStk.len {W : World} : ∀ {ps : List Sk} {xs : List Value} {bs : List Nat}, NStk W ps xs bs → xs.length = ps.length * 4
  | [], xs, bs, h => by rw [NStk] at h; rw [h.1]; rfl
  | p :: ps, xs, bs, h => by
    rw [NStk] at h
    obtain ⟨g, o, cap, ao, ys, b1, b2, rfl, _, _, _, _, _, h5⟩ := h
    have := h5.len
    simp only [List.length_cons]; omega
theorem NStk.split {W : World} {p : Sk} : ∀ {ps : List Sk} {xs : List Value} {bs : List Nat}, NStk W (ps ++ [p]) xs bs → ∃ g o cap ao ys b1 b2, xs = ys ++ [npV p.1.1, .int .i64 p.1.2, .slice ao p.2.1.length cap, .int .i64 p.2.2] ∧ (p.2.1 ≠ [] → ao = some ⟨g, o, none⟩) ∧ p.2.1.length ≤ cap ∧ cap ≤ maxLen ∧ OsR W p.2.1 b1 g o ∧ bs = b2 ++ b1 ∧ NStk W ps ys b2
  | [], xs, bs, h => by
    rw [List.nil_append, NStk] at h
    obtain ⟨g, o, cap, ao, ys, b1, b2, rfl, h1, h2, h3, h4, h5, h6⟩ := h
    rw [NStk] at h6
    obtain ⟨rfl, rfl⟩ := h6
    exact ⟨g, o, cap, ao, [], b1, [], rfl, h1, h2, h3, h4, by rw [h5]; simp, by rw [NStk]; exact ⟨rfl, rfl⟩⟩
  | q :: ps, xs, bs, h => by
    rw [List.cons_append, NStk] at h
    obtain ⟨g, o, cap, ao, ys, b1, b2, rfl, h1, h2, h3, h4, h5, h6⟩ := h
    obtain ⟨g', o', cap', ao', zs, c1, c2, rfl, k1, k2, k3, k4, k5, k6⟩ := h6.split
    exact ⟨g', o', cap', ao', _ :: _ :: _ :: _ :: zs, c1, b1 ++ c2, rfl, k1, k2, k3, k4, by rw [h5, k5]; simp, by rw [NStk]; exact ⟨g, o, cap, ao, zs, b1, c2, rfl, h1, h2, h3, h4, rfl, k6⟩⟩
theorem NStk.snoc {W : World} {nm : Nm} {l : List Tm} {n g o cap : Nat} {ao : Option Addr} {b1 : List Nat} (h1 : l ≠ [] → ao = some ⟨g, o, none⟩) (h2 : l.length ≤ cap) (h3 : cap ≤ maxLen) (h4 : OsR W l b1 g o) : ∀ {ps : List Sk} {xs : List Value} {bs : List Nat}, NStk W ps xs bs → NStk W (ps ++ [(nm, l, n)]) (xs ++ [npV nm.1, .int .i64 nm.2, .slice ao l.length cap, .int .i64 n]) (bs ++ b1)
  | [], xs, bs, h => by
    rw [NStk] at h
    obtain ⟨rfl, rfl⟩ := h
    rw [List.nil_append, NStk]
    exact ⟨g, o, cap, ao, [], b1, [], rfl, h1, h2, h3, h4, by simp, by rw [NStk]; exact ⟨rfl, rfl⟩⟩
  | q :: ps, xs, bs, h => by
    rw [NStk] at h
    obtain ⟨g', o', cap', ao', ys, c1, c2, rfl, k1, k2, k3, k4, rfl, k6⟩ := h
    rw [List.cons_append, NStk]
    exact ⟨g', o', cap', ao', _, c1, c2 ++ b1, rfl, k1, k2, k3, k4, by simp, NStk.snoc h1 h2 h3 h4 k6⟩
/-- All the words that there will be. -/
def totN : List Sk → Nat
  | [] => 0
  | p :: r => p.2.2 + ndL p.2.1 + totN r
theorem totN_snoc (p : Sk) : ∀ ps, totN (ps ++ [p]) = totN ps + (p.2.2 + ndL p.2.1)
  | [] => by simp [totN]
  | q :: r => by rw [List.cons_append, totN, totN, totN_snoc p r]; omega
def msrN : List Sk → Nat
  | [] => 0
  | p :: r => 2 * ntL p.2.1 + 1 + msrN r
theorem msrN_snoc (p : Sk) : ∀ ps, msrN (ps ++ [p]) = msrN ps + (2 * ntL p.2.1 + 1)
  | [] => by simp [msrN]
  | q :: r => by rw [List.cons_append, msrN, msrN, msrN_snoc p r]; omega
theorem msrN_len : ∀ ps : List Sk, ps.length ≤ msrN ps
  | [] => Nat.le_refl _
  | p :: r => by have := msrN_len r; rw [List.length_cons, msrN]; omega
def AllS : List Sk → Prop
  | [] => True
  | p :: r => AllKL p.2.1 ∧ AllS r
theorem AllS_snoc (p : Sk) : ∀ ps, AllS (ps ++ [p]) ↔ AllS ps ∧ AllKL p.2.1
  | [] => by simp [AllS]
  | q :: r => by rw [List.cons_append, AllS, AllS, AllS_snoc p r, and_assoc]
theorem own_keep9 {w w' : World} {base : Nat} {T : TypeId} {size n : Nat} {v : Value} {xs : List Value} (h : w.ownsRow base T size v n xs) (hk : ∀ g, v.ownBlock = some g → w'.heap[g]? = w.heap[g]?) : w'.ownsRow base T size v n xs := by
  obtain ⟨h1, h2⟩ := h
  refine ⟨h1, ?_⟩
  rcases h2 with h2 | ⟨g, c, cur, rfl, q1, q2, q3, q4, q5, q6⟩
  · exact .inl h2
  · exact .inr ⟨g, c, cur, rfl, q1, (hk g rfl).trans q2, q3, q4, q5, q6⟩
/-- Stack and map in the world wr; what is counted stands in W, in blocks of its own, of which none is known. -/
structure NO (W wr : World) (mb : Nat) (u : Value) (ps : List Sk) (xs : List Value) (bs : List Nat) (S : Nat → Prop) : Prop where
  bel : Below W.heap.size W wr
  row : wr.ownsRow W.heap.size 160 4 u ps.length xs
  stk : NStk W ps xs bs
  nd : bs.Nodup
  fr : ∀ b ∈ bs, ¬ S b
  sm : ∀ b, S b → Plain W b ∧ b < W.heap.size
  nam : ∀ p ∈ ps.tail, ∃ b o, p.1.1 = some (b, o) ∧ S b
  map : NiMap wr mb S
  mlo : W.heap.size ≤ mb
theorem NO.ne {W wr : World} {mb : Nat} {u : Value} {ps : List Sk} {xs : List Value} {bs : List Nat} {S : Nat → Prop} (h : NO W wr mb u ps xs bs S) {g : Nat} (hg : u.ownBlock = some g) : g ≠ mb ∧ W.heap.size ≤ g ∧ g < wr.heap.size := by
  obtain ⟨es, clk, hm, _⟩ := h.map
  rcases h.row.2 with ⟨e, _⟩ | ⟨g', c, cur, rfl, q1, q2, _⟩
  · rw [e] at hg; cases hg
  · have hgg : g' = g := by
      have : some g' = some g := hg
      injection this
    subst hgg
    refine ⟨fun e => ?_, q1, ?_⟩
    · rw [e, hm] at q2; cases q2
    · rcases Nat.lt_or_ge g' wr.heap.size with h9 | h9
      · exact h9
      · rw [Array.getElem?_eq_none h9] at q2; cases q2
theorem NO.mlt {W wr : World} {mb : Nat} {u : Value} {ps : List Sk} {xs : List Value} {bs : List Nat} {S : Nat → Prop} (h : NO W wr mb u ps xs bs S) : mb < wr.heap.size := by
  obtain ⟨es, clk, hm, _⟩ := h.map
  rcases Nat.lt_or_ge mb wr.heap.size with h9 | h9
  · exact h9
  · rw [Array.getElem?_eq_none h9] at hm; cases hm
/-- What keeps all old blocks, the map and the row. -/
theorem NO.keep {W wr w1 : World} {mb : Nat} {u : Value} {ps : List Sk} {xs : List Value} {bs : List Nat} {S : Nat → Prop} (h : NO W wr mb u ps xs bs S) (hb : Below W.heap.size wr w1) (hm : w1.heap[mb]? = wr.heap[mb]?) (hr : w1.ownsRow W.heap.size 160 4 u ps.length xs) : NO W w1 mb u ps xs bs S :=
  ⟨h.bel.trans hb, hr, h.stk, h.nd, h.fr, h.sm, h.nam, h.map.keep hm (fun b hs => hb.block b (h.sm b hs).2), h.mlo⟩
theorem NO.call {W wr w1 : World} {mb : Nat} {u : Value} {ps : List Sk} {xs : List Value} {bs : List Nat} {S : Nat → Prop} (h : NO W wr mb u ps xs bs S) (hb : Below wr.heap.size wr w1) : NO W w1 mb u ps xs bs S :=
  h.keep (hb.mono h.bel.size) (hb.block mb h.mlt) (own_keep9 h.row (fun g hg => hb.block g (h.ne hg).2.2))
/-- The top of the stack. -/
theorem NO.top {W wr : World} {mb : Nat} {u : Value} {qs : List Sk} {nm : Nm} {l : List Tm} {n : Nat} {xs : List Value} {bs : List Nat} {S : Nat → Prop} (h : NO W wr mb u (qs ++ [(nm, l, n)]) xs bs S) :
    ∃ g c b o cap ao ys b1 b2, u = .slice (some ⟨g, 0, none⟩) (qs.length + 1) c ∧ xs = ys ++ [npV nm.1, .int .i64 nm.2, .slice ao l.length cap, .int .i64 n] ∧ ys.length = qs.length * 4 ∧ NStk W qs ys b2 ∧ bs = b2 ++ b1 ∧ OsR W l b1 b o ∧ (l ≠ [] → ao = some ⟨b, o, none⟩) ∧ l.length ≤ cap ∧ cap ≤ maxLen ∧ qs.length + 1 ≤ c ∧ c ≤ maxLen ∧
      wr.cell? ⟨g, qs.length * 4, none⟩ = some (npV nm.1) ∧ wr.cell? ⟨g, qs.length * 4 + 1, none⟩ = some (.int .i64 nm.2) ∧ wr.cell? ⟨g, qs.length * 4 + 2, none⟩ = some (.slice ao l.length cap) ∧ wr.cell? ⟨g, qs.length * 4 + 3, none⟩ = some (.int .i64 n) ∧ ∀ o, wr.frozen? ⟨g, o, none⟩ = false := by
  obtain ⟨b, o, cap, ao, ys, b1, b2, rfl, h1, h2, h3, h4, h5, h6⟩ := h.stk.split
  dsimp only at h1 h2 h3 h4
  have hyl := h6.len
  have hr := h.row
  rw [List.length_append] at hr
  rcases hr.2 with ⟨_, e⟩ | ⟨g, c, cur, rfl, q1, q2, q3, q4, q5, q6⟩
  · simp at e
  · have hcell : ∀ j v, (ys ++ [npV nm.1, .int .i64 nm.2, .slice ao l.length cap, .int .i64 n])[j]? = some v → wr.cell? ⟨g, j, none⟩ = some v := fun j v hj => by
      rw [← q6, List.getElem?_take] at hj
      split at hj
      · simpa [World.cell?, q2] using hj
      · cases hj
    refine ⟨g, c, b, o, cap, ao, ys, b1, b2, by simp, rfl, hyl, h6, h5, h4, h1, h2, h3, by simpa using q3, q4, hcell _ _ ?_, hcell _ _ ?_, hcell _ _ ?_, hcell _ _ ?_, fun o => by simp [World.frozen?, q2]⟩
    · rw [List.getElem?_append_right (by omega), hyl, Nat.sub_self]; rfl
    · rw [List.getElem?_append_right (by omega), hyl, show qs.length * 4 + 1 - qs.length * 4 = 1 by omega]; rfl
    · rw [List.getElem?_append_right (by omega), hyl, show qs.length * 4 + 2 - qs.length * 4 = 2 by omega]; rfl
    · rw [List.getElem?_append_right (by omega), hyl, show qs.length * 4 + 3 - qs.length * 4 = 3 by omega]; rfl
theorem ownsRow_pop4 {w : World} {base g c m : Nat} {T : TypeId} {ys zs : List Value} (hy : ys.length = m * 4) (h : w.ownsRow base T 4 (.slice (some ⟨g, 0, none⟩) (m + 1) c) (m + 1) (ys ++ zs)) : w.ownsRow base T 4 (.slice (some ⟨g, 0, none⟩) m c) m ys := by
  obtain ⟨h1, h2⟩ := h
  refine ⟨hy, ?_⟩
  rcases h2 with ⟨e, _⟩ | ⟨g', c', cur, e, q1, q2, q3, q4, q5, q6⟩
  · cases e
  · simp only [Value.slice.injEq, Option.some.injEq, Addr.mk.injEq, and_true, true_and] at e
    obtain ⟨rfl, rfl⟩ := e
    refine .inr ⟨g, c, cur, rfl, q1, q2, by omega, q4, q5, ?_⟩
    have : cur.toList.take (m * 4) = (cur.toList.take ((m + 1) * 4)).take (m * 4) := by rw [List.take_take]; congr 1; omega
    rw [this, q6, ← hy, List.take_left']
    rfl
theorem NO.pop {W wr : World} {mb g c n : Nat} {nm : Nm} {qs : List Sk} {xs : List Value} {bs : List Nat} {S : Nat → Prop} (h : NO W wr mb (.slice (some ⟨g, 0, none⟩) (qs.length + 1) c) (qs ++ [(nm, [], n)]) xs bs S) : ∃ ys, NO W wr mb (.slice (some ⟨g, 0, none⟩) qs.length c) qs ys bs S := by
  obtain ⟨g', c', b, o, cap, ao, ys, b1, b2, e1, e2, e3, e4, e5, e6, _⟩ := h.top
  rw [OsR] at e6
  subst e6
  rw [List.append_nil] at e5
  subst e5
  have hr := h.row
  rw [List.length_append, e2] at hr
  refine ⟨ys, h.bel, ownsRow_pop4 e3 hr, e4, h.nd, h.fr, h.sm, fun p hp => h.nam p ?_, h.map, h.mlo⟩
  cases qs with
  | nil => cases hp
  | cons q qs => simp at hp ⊢; exact .inl hp
/-- The top with another rest and other words. -/
theorem NO.set {W wr w1 : World} {mb g c n n' : Nat} {nm : Nm} {qs : List Sk} {l r : List Tm} {ys : List Value} {ao' : Option Addr} {cap' b o : Nat} {b1 b2 b3 : List Nat} {S : Nat → Prop} {xs : List Value} {bs : List Nat}
    (h : NO W wr mb (.slice (some ⟨g, 0, none⟩) (qs.length + 1) c) (qs ++ [(nm, l, n)]) xs bs S) (hy : NStk W qs ys b2) (hb : bs = b2 ++ b1) (hs : b3.Sublist b1)
    (h1 : r ≠ [] → ao' = some ⟨b, o, none⟩) (h2 : r.length ≤ cap') (h3 : cap' ≤ maxLen) (h4 : OsR W r b3 b o)
    (hr : w1.ownsRow W.heap.size 160 4 (.slice (some ⟨g, 0, none⟩) (qs.length + 1) c) (qs.length + 1) (ys ++ [npV nm.1, .int .i64 nm.2, .slice ao' r.length cap', .int .i64 n']))
    (hk : Below W.heap.size wr w1) (hm : w1.heap[mb]? = wr.heap[mb]?) :
    NO W w1 mb (.slice (some ⟨g, 0, none⟩) (qs.length + 1) c) (qs ++ [(nm, r, n')]) (ys ++ [npV nm.1, .int .i64 nm.2, .slice ao' r.length cap', .int .i64 n']) (b2 ++ b3) S := by
  have hsub : (b2 ++ b3).Sublist bs := by rw [hb]; exact (List.Sublist.refl _).append hs
  refine ⟨h.bel.trans hk, by rw [List.length_append]; exact hr, NStk.snoc h1 h2 h3 h4 hy, h.nd.sublist hsub, fun x hx => h.fr x (hsub.subset hx), h.sm, fun p hp => ?_, h.map.keep hm (fun b hs => hk.block b (h.sm b hs).2), h.mlo⟩
  cases qs with
  | nil => cases hp
  | cons q qs =>
    rw [List.cons_append, List.tail_cons] at hp
    rcases List.mem_append.1 hp with hp | hp
    · exact h.nam p (by simp [hp])
    · simp at hp
      subst hp
      obtain ⟨x, y, k1, k2⟩ := h.nam (nm, l, n) (by simp)
      exact ⟨x, y, k1, k2⟩
/-- One more that is known. -/
theorem NO.know {W wr w1 : World} {mb : Nat} {u : Value} {ps : List Sk} {xs : List Value} {bs : List Nat} {S : Nat → Prop} (h : NO W wr mb u ps xs bs S) {b : Nat} (hb : Plain W b) (hl : b < W.heap.size) (hn : b ∉ bs) (ht : Turn mb wr w1) (hm : NiMap w1 mb (fun c => S c ∨ c = b)) : NO W w1 mb u ps xs bs (fun c => S c ∨ c = b) :=
  ⟨Turn.below h.bel h.bel.size ht h.mlo, own_keep9 h.row (fun g hg => ht.block g (h.ne hg).2.2 (h.ne hg).1), h.stk, h.nd, fun x hx hs => hs.elim (h.fr x hx) (fun e => hn (e ▸ hx)), fun x hx => hx.elim (h.sm x) (fun e => e ▸ ⟨hb, hl⟩), fun p hp => by obtain ⟨x, y, k1, k2⟩ := h.nam p hp; exact ⟨x, y, k1, .inl k2⟩, hm, h.mlo⟩
theorem NO.knows {W wr w1 : World} {mb : Nat} {u : Value} {ps : List Sk} {xs : List Value} {bs : List Nat} {S : Nat → Prop} (h : NO W wr mb u ps xs bs S) (ht : Turn mb wr w1) (hm : NiMap w1 mb S) : NO W w1 mb u ps xs bs S :=
  ⟨Turn.below h.bel h.bel.size ht h.mlo, own_keep9 h.row (fun g hg => ht.block g (h.ne hg).2.2 (h.ne hg).1), h.stk, h.nd, h.fr, h.sm, h.nam, hm, h.mlo⟩
theorem NO.more {W w5 w8 : World} {mb : Nat} {u v' : Value} {ps : List Sk} {xs : List Value} {bs b1 : List Nat} {S : Nat → Prop} {nm : Nm} {l : List Tm} {n g o cap : Nat} {ao : Option Addr} (h : NO W w5 mb u ps xs bs S)
    (h1 : l ≠ [] → ao = some ⟨g, o, none⟩) (h2 : l.length ≤ cap) (h3 : cap ≤ maxLen) (h4 : OsR W l b1 g o) (hnd : (bs ++ b1).Nodup) (hfr : ∀ b ∈ b1, ¬ S b) (hnm : ∃ b o, nm.1 = some (b, o) ∧ S b)
    (hown : w8.ownsRow W.heap.size 160 4 v' (ps.length + 1) (xs ++ [npV nm.1, .int .i64 nm.2, .slice ao l.length cap, .int .i64 n])) (hgr : w5.grownBy w8 u.ownBlock) :
    NO W w8 mb v' (ps ++ [(nm, l, n)]) (xs ++ [npV nm.1, .int .i64 nm.2, .slice ao l.length cap, .int .i64 n]) (bs ++ b1) S := by
  have hk : ∀ b, b < w5.heap.size → u.ownBlock ≠ some b → w8.heap[b]? = w5.heap[b]? := fun b hb hg => hgr.block b hb (fun e => hg e.symm)
  have hB : Below W.heap.size w5 w8 := ⟨hgr.os, hgr.tape, hgr.output, hgr.size, fun b hb => hk b (Nat.lt_of_lt_of_le hb h.bel.size) (fun e => by have := (h.ne e).2.1; omega)⟩
  refine ⟨h.bel.trans hB, by rw [List.length_append]; exact hown, NStk.snoc h1 h2 h3 h4 h.stk, hnd, fun b hb => (List.mem_append.1 hb).elim (h.fr b) (hfr b), h.sm, fun p hp => ?_, h.map.keep (hk mb h.mlt (fun e => (h.ne e).1 rfl)) (fun b hs => hB.block b (h.sm b hs).2), h.mlo⟩
  cases ps with
  | nil => cases hp
  | cons q qs =>
    rw [List.cons_append, List.tail_cons] at hp
    rcases List.mem_append.1 hp with hp | hp
    · exact h.nam p hp
    · simp at hp
      subst hp
      exact hnm
theorem totN_top (qs : List Sk) (nm : Nm) (l : List Tm) (n : Nat) : totN (qs ++ [(nm, l, n)]) = totN qs + (n + ndL l) := totN_snoc _ _
theorem msrN_top (qs : List Sk) (nm : Nm) (l : List Tm) (n : Nat) : msrN (qs ++ [(nm, l, n)]) = msrN qs + (2 * ntL l + 1) := msrN_snoc _ _
theorem NO.cells {W wr w1 : World} {mb g c n : Nat} {nm : Nm} {qs : List Sk} {l : List Tm} {xs : List Value} {bs : List Nat} {S : Nat → Prop} (h : NO W wr mb (.slice (some ⟨g, 0, none⟩) (qs.length + 1) c) (qs ++ [(nm, l, n)]) xs bs S) (o : Nat) (v : Value) :
    Below W.heap.size wr (wr.setCell ⟨g, o, none⟩ v) ∧ (wr.setCell ⟨g, o, none⟩ v).heap[mb]? = wr.heap[mb]? := by
  have hn := h.ne (g := g) rfl
  refine ⟨(Below.refl _ _).setCell hn.2.1 _, ?_⟩
  rw [Below.heap_setCell _ ⟨g, o, none⟩ _ mb (fun e => hn.1 e.symm)]
/-- The top has so many words more. -/
theorem NO.addN {W wr : World} {mb g c n : Nat} {nm : Nm} {qs : List Sk} {l : List Tm} {xs : List Value} {bs : List Nat} {S : Nat → Prop} (h : NO W wr mb (.slice (some ⟨g, 0, none⟩) (qs.length + 1) c) (qs ++ [(nm, l, n)]) xs bs S) (d : Nat) :
    ∃ xs', NO W (wr.setCell ⟨g, qs.length * 4 + 3, none⟩ (.int .i64 ((n + d : Nat) : Int))) mb (.slice (some ⟨g, 0, none⟩) (qs.length + 1) c) (qs ++ [(nm, l, n + d)]) xs' bs S := by
  obtain ⟨g', c', b, o, cap, ao, ys, b1, b2, e1, e2, e3, e4, e5, e6, e7, e8, e9, _⟩ := h.top
  have hr := h.row
  rw [List.length_append, List.length_singleton] at hr
  obtain ⟨r1, g1⟩ := hr.stored (qs.length * 4 + 3) (.int .i64 ((n + d : Nat) : Int))
  obtain ⟨k1, k2⟩ := h.cells (w1 := wr) (qs.length * 4 + 3) (.int .i64 ((n + d : Nat) : Int))
  have hx : xs.set (qs.length * 4 + 3) (.int .i64 ((n + d : Nat) : Int)) = ys ++ [npV nm.1, .int .i64 nm.2, .slice ao l.length cap, .int .i64 ((n + d : Nat) : Int)] := by
    rw [e2, List.set_append_right _ _ (by omega), e3, show qs.length * 4 + 3 - qs.length * 4 = 3 by omega]
    rfl
  rw [hx] at r1
  have := h.set e4 e5 (List.Sublist.refl b1) e7 e8 e9 e6 r1 k1 k2
  rw [← e5] at this
  exact ⟨_, this⟩
def ofsN (o c : Nat) : Nat := if c = 1 then o else o + 4
/-- The first of what is to be looked at is taken. -/
theorem NO.takeN {W wr : World} {mb g c n b o cap : Nat} {nm : Nm} {qs : List Sk} {t : Tm} {r : List Tm} {xs ys : List Value} {bs b1 b2 : List Nat} {S : Nat → Prop} (h : NO W wr mb (.slice (some ⟨g, 0, none⟩) (qs.length + 1) c) (qs ++ [(nm, t :: r, n)]) xs bs S)
    (e2 : xs = ys ++ [npV nm.1, .int .i64 nm.2, .slice (some ⟨b, o, none⟩) (r.length + 1) cap, .int .i64 n]) (e3 : ys.length = qs.length * 4) (e4 : NStk W qs ys b2) (e5 : bs = b2 ++ b1) {bt br : List Nat} (e10 : b1 = bt ++ br) (h4 : OsT W t bt b o) (h5 : OsR W r br b (o + 4)) (e8 : r.length + 1 ≤ cap) (e9 : cap ≤ maxLen) :
    ∃ xs' bs', NO W (wr.setCell ⟨g, qs.length * 4 + 2, none⟩ (.slice (some ⟨b, ofsN o cap, none⟩) r.length (cap - 1))) mb (.slice (some ⟨g, 0, none⟩) (qs.length + 1) c) (qs ++ [(nm, r, n)]) xs' bs' S ∧ (bs' ++ bt).Nodup ∧ ∀ x ∈ bt, ¬ S x := by
  have hr := h.row
  rw [List.length_append, List.length_singleton] at hr
  obtain ⟨r1, g1⟩ := hr.stored (qs.length * 4 + 2) (.slice (some ⟨b, ofsN o cap, none⟩) r.length (cap - 1))
  obtain ⟨k1, k2⟩ := h.cells (w1 := wr) (qs.length * 4 + 2) (.slice (some ⟨b, ofsN o cap, none⟩) r.length (cap - 1))
  have hx : xs.set (qs.length * 4 + 2) (.slice (some ⟨b, ofsN o cap, none⟩) r.length (cap - 1)) = ys ++ [npV nm.1, .int .i64 nm.2, .slice (some ⟨b, ofsN o cap, none⟩) r.length (cap - 1), .int .i64 n] := by
    rw [e2, List.set_append_right _ _ (by omega), e3, show qs.length * 4 + 2 - qs.length * 4 = 2 by omega]
    rfl
  rw [hx] at r1
  have h6 : OsR W r br b (ofsN o cap) := by
    unfold ofsN
    split
    · have : r = [] := by
        cases r with
        | nil => rfl
        | cons a b => simp at e8; omega
      subst this
      rw [OsR] at h5 ⊢
      exact h5
    · exact h5
  have hsub : br.Sublist b1 := by rw [e10]; exact List.sublist_append_right _ _
  refine ⟨_, b2 ++ br, h.set e4 e5 hsub (fun _ => rfl) (by omega) (by omega) h6 r1 k1 k2, ?_, fun x hx => h.fr x (by rw [e5, e10]; simp [hx])⟩
  have h7 := h.nd
  rw [e5, e10] at h7
  refine List.Perm.nodup ?_ h7
  rw [List.append_assoc]
  exact List.Perm.append_left _ List.perm_append_comm
end Go.Proofs.Ytabgfaafpgholaa
