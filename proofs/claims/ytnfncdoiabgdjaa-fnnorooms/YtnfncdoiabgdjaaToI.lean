/-
  The program's comparison of two terms: its stack and its map, round by round.
-/
import Derived.Test.YtnfncdoiabgdjaaToH
import Derived.WalkSmall
namespace Go.Proofs.Ytnfncdoiabgdjaa
open Go.RowKit
set_option linter.unusedVariables false

def msr : List (List Tm × List Tm) → Nat
  | [] => 0
  | p :: r => 2 * cntL p.1 + 1 + msr r
theorem msr_snoc (p : List Tm × List Tm) : ∀ ps, msr (ps ++ [p]) = msr ps + (2 * cntL p.1 + 1)
  | [] => by simp [msr]
  | q :: r => by rw [List.cons_append, msr, msr, msr_snoc p r]; omega
theorem own_keepR {w w' : World} {base : Nat} {T : TypeId} {size n : Nat} {v : Value} {xs : List Value} (h : w.ownsRow base T size v n xs) (hk : ∀ g, v.ownBlock = some g → w'.heap[g]? = w.heap[g]?) : w'.ownsRow base T size v n xs := by
  obtain ⟨h1, h2⟩ := h
  refine ⟨h1, ?_⟩
  rcases h2 with h2 | ⟨g, c, cur, rfl, q1, q2, q3, q4, q5, q6⟩
  · exact .inl h2
  · exact .inr ⟨g, c, cur, rfl, q1, (hk g rfl).trans q2, q3, q4, q5, q6⟩
/-- Stack and map in the world wr; what is compared stands in W. -/
structure TO (W wr : World) (mb : Nat) (u : Value) (ps : List (List Tm × List Tm)) (xs : List Value) (st : List (List Tm × List Tm)) : Prop where
  bel : Below W.heap.size W wr
  row : wr.ownsRow W.heap.size 72 2 u ps.length xs
  stk : Stk W ps xs
  map : PrMap wr mb (Kn W st)
  mlo : W.heap.size ≤ mb
theorem TO.ne {W wr : World} {mb : Nat} {u : Value} {ps st : List (List Tm × List Tm)} {xs : List Value} (h : TO W wr mb u ps xs st) {g : Nat} (hg : u.ownBlock = some g) : g ≠ mb ∧ W.heap.size ≤ g ∧ g < wr.heap.size := by
  obtain ⟨es, clk, hm, _⟩ := h.map
  rcases h.row.2 with ⟨e, _⟩ | ⟨g', c, cur, rfl, q1, q2, _⟩
  · rw [e] at hg; cases hg
  · have hgg : g' = g := by
      have : some g' = some g := hg
      injection this
    subst hgg
    refine ⟨fun e => ?_, q1, ?_⟩
    · rw [e, hm] at q2; cases q2
    · rcases Nat.lt_or_ge g' wr.heap.size with h9 | h9
      · exact h9
      · rw [Array.getElem?_eq_none h9] at q2; cases q2
theorem TO.mlt {W wr : World} {mb : Nat} {u : Value} {ps st : List (List Tm × List Tm)} {xs : List Value} (h : TO W wr mb u ps xs st) : mb < wr.heap.size := by
  obtain ⟨es, clk, hm, _⟩ := h.map
  rcases Nat.lt_or_ge mb wr.heap.size with h9 | h9
  · exact h9
  · rw [Array.getElem?_eq_none h9] at hm; cases hm
theorem nm_lt {W : World} {l : List Tm} {ao : Option Addr} (h : RepL 0 W l ao) {b o : Nat} (e : (nmL l ao).1 = some (b, o)) : b < W.heap.size := by
  rcases l with _ | ⟨t, r⟩
  · rw [nmL_nil] at e; cases e
  · rw [RepL] at h
    obtain ⟨b', o', rfl, _, h2, _⟩ := h
    rw [nmL_cons (by simp)] at e
    simp only [Option.some.injEq, Prod.mk.injEq] at e
    obtain ⟨rfl, rfl⟩ := e
    obtain ⟨k, n, s, l'⟩ := t
    rw [RepT] at h2
    exact World.block_lt_of_cell? W _ h2.1
theorem plainP_keep {w w' : World} : ∀ {p : Option (Nat × Nat)}, PlainP w p → (∀ b o, p = some (b, o) → w'.heap[b]? = w.heap[b]?) → PlainP w' p
  | none, _, _ => trivial
  | some (b, o), ⟨⟨c, t, f, h1⟩, h2⟩, hk => ⟨⟨c, t, f, by rw [hk b o rfl]; exact h1⟩, fun y => by rw [World.frozen?_of_block (w := w) (hk b o rfl)]; exact h2 y⟩
theorem Kn.keep {W w w' : World} {st : List (List Tm × List Tm)} (hb : ∀ b, b < W.heap.size → w'.heap[b]? = w.heap[b]?) (x y : Nm) (hk : Kn W st x y) (hx : PlainP w x.1) (hy : PlainP w y.1) : PlainP w' x.1 ∧ PlainP w' y.1 := by
  obtain ⟨l, l', ao, ao', rfl, rfl, h3, h4, h5⟩ := hk
  exact ⟨plainP_keep hx (fun b o e => hb b (nm_lt h3 e)), plainP_keep hy (fun b o e => hb b (nm_lt h4 e))⟩
theorem TO.call {W wr w1 : World} {mb : Nat} {u : Value} {ps st : List (List Tm × List Tm)} {xs : List Value} (h : TO W wr mb u ps xs st) (hb : Below wr.heap.size wr w1) : TO W w1 mb u ps xs st :=
  ⟨h.bel.trans (hb.mono h.bel.size), own_keepR h.row (fun g hg => hb.block g (h.ne hg).2.2), h.stk, h.map.keep (hb.block mb h.mlt) (Kn.keep fun b hl => hb.block b (Nat.lt_of_lt_of_le hl h.bel.size)), h.mlo⟩
/-- The top of the stack. -/
theorem TO.top {W wr : World} {mb : Nat} {u : Value} {qs st : List (List Tm × List Tm)} {l l' : List Tm} {xs : List Value} (h : TO W wr mb u (qs ++ [(l, l')]) xs st) :
    ∃ g c ys ao ao' ca ca', u = .slice (some ⟨g, 0, none⟩) (qs.length + 1) c ∧ xs = ys ++ [.slice ao l.length ca, .slice ao' l'.length ca'] ∧ ys.length = qs.length * 2 ∧ Stk W qs ys ∧ RepL 0 W l ao ∧ RepL 0 W l' ao' ∧ HpL W l ao l' ao' ∧ l.length ≤ ca ∧ ca ≤ maxLen ∧ l'.length ≤ ca' ∧ ca' ≤ maxLen ∧ qs.length + 1 ≤ c ∧ c ≤ maxLen ∧
      wr.cell? ⟨g, qs.length * 2, none⟩ = some (.slice ao l.length ca) ∧ wr.cell? ⟨g, qs.length * 2 + 1, none⟩ = some (.slice ao' l'.length ca') ∧ ∀ o, wr.frozen? ⟨g, o, none⟩ = false := by
  obtain ⟨ys, v, v', ao, ao', rfl, h1, h2, h3, h4⟩ := h.stk.split
  obtain ⟨ca, rfl, k1, k2⟩ := h2.e
  obtain ⟨ca', rfl, k3, k4⟩ := h3.e
  have hyl := h1.len
  have hr := h.row
  rw [List.length_append] at hr
  rcases hr.2 with ⟨_, e⟩ | ⟨g, c, cur, rfl, q1, q2, q3, q4, q5, q6⟩
  · simp at e
  · have hcell : ∀ j v, (ys ++ [Value.slice ao l.length ca, .slice ao' l'.length ca'])[j]? = some v → wr.cell? ⟨g, j, none⟩ = some v := fun j v hj => by
      rw [← q6, List.getElem?_take] at hj
      split at hj
      · simpa [World.cell?, q2] using hj
      · cases hj
    refine ⟨g, c, ys, ao, ao', ca, ca', by simp, rfl, hyl, h1, h2.r, h3.r, h4, k1, k2, k3, k4, by simpa using q3, q4, hcell _ _ ?_, hcell _ _ ?_, fun o => by simp [World.frozen?, q2]⟩
    · rw [List.getElem?_append_right (by omega), hyl, Nat.sub_self]; rfl
    · rw [List.getElem?_append_right (by omega), hyl, show qs.length * 2 + 1 - qs.length * 2 = 1 by omega]; rfl
theorem TO.pop {W wr : World} {mb g c : Nat} {qs : List (List Tm × List Tm)} {xs : List Value} (h : TO W wr mb (.slice (some ⟨g, 0, none⟩) (qs.length + 1) c) (qs ++ [([], [])]) xs (([], []) :: qs.reverse)) : ∃ ys, TO W wr mb (.slice (some ⟨g, 0, none⟩) qs.length c) qs ys qs.reverse := by
  obtain ⟨g', c', ys, ao, ao', ca, ca', e1, e2, e3, e4, _⟩ := h.top
  cases e1
  have hr := h.row
  rw [List.length_append, e2] at hr
  refine ⟨ys, h.bel, ownsRow_pop e3 hr, e4, ?_, h.mlo⟩
  exact h.map.mono (fun x y hk => Kn.mono (fun l l' hm => hm.pop) hk)
/-- The rest of a list, as a slice behind its first. -/
def ofs (o c : Nat) : Nat := if c = 1 then o else o + 4
theorem sl_tail {W : World} {t : Tm} {r : List Tm} {b o c : Nat} (h : RepL 0 W (t :: r) (some ⟨b, o, none⟩)) (hl : (t :: r).length ≤ c) (hc : c ≤ maxLen) : Sl W (.slice (some ⟨b, ofs o c, none⟩) r.length (c - 1)) r (some ⟨b, ofs o c, none⟩) := by
  rw [List.length_cons] at hl
  refine ⟨⟨c - 1, rfl, by omega, by omega⟩, ?_⟩
  rw [RepL] at h
  obtain ⟨b', o', e, _, _, h2⟩ := h
  cases e
  unfold ofs
  by_cases hc1 : c = 1
  · have : r = [] := by
      cases r with
      | nil => rfl
      | cons a b => simp at hl; omega
    subst this
    rw [RepL]; trivial
  · rw [if_neg hc1]; exact h2
theorem hp_tail {W : World} {t t' : Tm} {r r' : List Tm} {b o c b' o' c' : Nat} (h : HpL W (t :: r) (some ⟨b, o, none⟩) (t' :: r') (some ⟨b', o', none⟩)) (hl : (t :: r).length ≤ c) (hl' : (t' :: r').length ≤ c') : HpL W r (some ⟨b, ofs o c, none⟩) r' (some ⟨b', ofs o' c', none⟩) := by
  rw [HpL] at h
  have h2 := (h b o b' o' rfl rfl).2
  cases r with
  | nil => rw [HpL]; trivial
  | cons a r =>
    cases r' with
    | nil => rw [HpL]; trivial
    | cons a' r' =>
      simp only [List.length_cons] at hl hl'
      unfold ofs
      rw [if_neg (by omega), if_neg (by omega)]
      exact h2
theorem TO.set {W wr : World} {mb g c : Nat} {qs st : List (List Tm × List Tm)} {l l' r r' : List Tm} {ys : List Value} {v v' u u' : Value} {ao ao' : Option Addr}
    (h : TO W wr mb (.slice (some ⟨g, 0, none⟩) (qs.length + 1) c) (qs ++ [(l, l')]) (ys ++ [v, v']) st) (hy : Stk W qs ys) (hu : Sl W u r ao) (hu' : Sl W u' r' ao') (hp : HpL W r ao r' ao') :
    TO W ((wr.setCell ⟨g, qs.length * 2, none⟩ u).setCell ⟨g, qs.length * 2 + 1, none⟩ u') mb (.slice (some ⟨g, 0, none⟩) (qs.length + 1) c) (qs ++ [(r, r')]) (ys ++ [u, u']) st := by
  have hr := h.row
  have hyl := hy.len
  have hn := h.ne (g := g) rfl
  rw [List.length_append, List.length_singleton] at hr
  obtain ⟨r1, g1⟩ := hr.stored (qs.length * 2) u
  obtain ⟨r2, g2⟩ := r1.stored (qs.length * 2 + 1) u'
  have hx : ((ys ++ [v, v']).set (qs.length * 2) u).set (qs.length * 2 + 1) u' = ys ++ [u, u'] := by
    rw [List.set_append_right _ _ (by omega), hyl, Nat.sub_self, List.set_append_right _ _ (by omega), hyl, show qs.length * 2 + 1 - qs.length * 2 = 1 by omega]
    rfl
  rw [hx] at r2
  have hk : ∀ b, b < wr.heap.size → b ≠ g → ((wr.setCell ⟨g, qs.length * 2, none⟩ u).setCell ⟨g, qs.length * 2 + 1, none⟩ u').heap[b]? = wr.heap[b]? := fun b hb hg => by
    have hs : (wr.setCell ⟨g, qs.length * 2, none⟩ u).heap.size = wr.heap.size := World.size_setCell _ _ _
    exact (g2.block b (by omega) (by simpa using hg)).trans (g1.block b hb (by simpa using hg))
  refine ⟨(h.bel.setCell hn.2.1 _).setCell hn.2.1 _, by rw [List.length_append, List.length_singleton]; exact r2, Stk.snoc hu hu' hp hy, h.map.keep (hk mb h.mlt (fun e => hn.1 e.symm)) (Kn.keep fun b hl => hk b (Nat.lt_of_lt_of_le hl h.bel.size) (by omega)), h.mlo⟩
theorem TO.upd {W wr w' : World} {mb : Nat} {u : Value} {ps st st' : List (List Tm × List Tm)} {xs : List Value} (h : TO W wr mb u ps xs st) (ht : Turn mb wr w') (hm : PrMap w' mb (Kn W st')) : TO W w' mb u ps xs st' :=
  ⟨Turn.below h.bel h.bel.size ht h.mlo, own_keepR h.row (fun g hg => ht.block g (h.ne hg).2.2 (h.ne hg).1), h.stk, hm, h.mlo⟩
theorem TO.more {W w5 w8 : World} {mb : Nat} {u v' : Value} {ps st : List (List Tm × List Tm)} {xs : List Value} {l l' : List Tm} {v1 v2 : Value} {ao ao' : Option Addr} (h : TO W w5 mb u ps xs st) (hv : Sl W v1 l ao) (hv' : Sl W v2 l' ao') (hp : HpL W l ao l' ao')
    (hown : w8.ownsRow W.heap.size 72 2 v' (ps.length + 1) (xs ++ [v1, v2])) (hgr : w5.grownBy w8 u.ownBlock) : TO W w8 mb v' (ps ++ [(l, l')]) (xs ++ [v1, v2]) st := by
  have hk : ∀ b, b < w5.heap.size → u.ownBlock ≠ some b → w8.heap[b]? = w5.heap[b]? := fun b hb hg => hgr.block b hb (fun e => hg e.symm)
  refine ⟨⟨hgr.os.trans h.bel.os, hgr.tape.trans h.bel.tape, hgr.output.trans h.bel.output, Nat.le_trans h.bel.size hgr.size, fun b hb => (hk b (Nat.lt_of_lt_of_le hb h.bel.size) (fun e => by have := (h.ne e).2.1; omega)).trans (h.bel.block b hb)⟩, by rw [List.length_append]; exact hown, Stk.snoc hv hv' hp h.stk, h.map.keep (hk mb h.mlt (fun e => (h.ne e).1 rfl)) (Kn.keep fun b hl => hk b (Nat.lt_of_lt_of_le hl h.bel.size) (fun e => by have := (h.ne e).2.1; omega)), h.mlo⟩
/-- What stands within, where it is. -/
def wiA (k : Int) (ao : Option Addr) : Option Addr := if k = 4 ∨ k = 5 then ao else none
theorem sl_wi {W : World} {k : Int} {l : List Tm} {ao : Option Addr} {cap : Nat} (h : RepL 0 W l ao) (hl : l.length ≤ cap) (hc : cap ≤ maxLen) : Sl W (inn k (.slice ao l.length cap)) (wiL k l) (wiA k ao) := by
  unfold inn wiL wiA
  by_cases hk : k = 4 ∨ k = 5
  · rw [if_pos hk, if_pos hk, if_pos hk]; exact ⟨⟨cap, rfl, hl, hc⟩, h⟩
  · rw [if_neg hk, if_neg hk, if_neg hk]; exact ⟨⟨0, rfl, Nat.zero_le _, Nat.zero_le _⟩, by rw [RepL]; trivial⟩
theorem hp_wi {W : World} {k n : Int} {s : ByteArray} {l : List Tm} {k' n' : Int} {s' : ByteArray} {l' : List Tm} {ax ay : Option Addr} (h : HpT W (.mk k n s l) ax (.mk k' n' s' l') ay) (he : k = k') : HpL W (wiL k l) (wiA k ax) (wiL k' l') (wiA k' ay) ∧ PlA W (wiL k l) (wiA k ax) ∧ PlA W (wiL k' l') (wiA k' ay) := by
  subst he
  unfold wiL wiA
  by_cases hk : k = 4 ∨ k = 5
  · rw [if_pos hk, if_pos hk, if_pos hk, if_pos hk]
    rw [HpT] at h
    exact h hk rfl
  · rw [if_neg hk, if_neg hk, if_neg hk, if_neg hk]
    refine ⟨by rw [HpL]; trivial, ?_, ?_⟩ <;> (unfold PlA; rw [nmL_nil]; trivial)
theorem own_same {k n : Int} {s : ByteArray} {a : Nat} {k' n' : Int} {s' : ByteArray} {a' : Nat} (h : thenC (cmpI k k') (ownC k n s a n' s' a') = 0) : k = k' := by
  apply (cmpI_zero k k').1
  unfold thenC at h
  split at h
  · assumption
  · exact h
end Go.Proofs.Ytnfncdoiabgdjaa
