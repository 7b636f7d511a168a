/-
  What was said, as it is drawn: lists in memory, read and grown.
-/
import Derived.Test.YtnfncdoiabgdjaaDrC
import Derived.Test.YtnfncdoiabgdjaaToK
import Derived.Test.YtnfncdoiabgdjaaToN
namespace Go.Proofs.Ytnfncdoiabgdjaa.Nr
open Go.RowKit
set_option linter.unusedVariables false

theorem _root_.Go.Proofs.Ytnfncdoiabgdjaa.RowT.rp' {S : Nat → Prop} {w : World} {xs : List Value} {o g : Nat} {t : Tm} (h : RowT S w xs o t) (he : ∀ j v, xs[j]? = some v → w.cell? ⟨g, j, none⟩ = some v) : RpT S w t g o := by
  obtain ⟨k, n, s, m⟩ := t
  obtain ⟨h0, h1, h2, hs, ao, cap', h3, hl', hc', hr⟩ := h
  rw [RpT]
  exact ⟨he _ _ h0, he _ _ h1, he _ _ h2, hs, ao, cap', he _ _ h3, hl', hc', hr⟩
structure Sn where
  kind : Int
  pid : Int
  t : Tm
structure BxN (w : World) (b o : Nat) (x : Sn) : Prop where
  c0 : w.cell? ⟨b, o, none⟩ = some (.int .i64 x.kind)
  c1 : w.cell? ⟨b, o + 1, none⟩ = some (.int .i64 x.pid)
  t : RepT 0 w x.t b (o + 2)
theorem repT_belowN {w w' : World} {t : Tm} {b o : Nat} (h : RepT 0 w t b o) (hb : Below w.heap.size w w') : RepT 0 w' t b o := by
  obtain ⟨k, n, s, l⟩ := t
  rw [RepT] at h ⊢
  obtain ⟨h0, h1, h2, hs, ao, cap, h3, hl, hc, hr⟩ := h
  exact ⟨keepJ hb h0, keepJ hb h1, keepJ hb h2, hs, ao, cap, keepJ hb h3, hl, hc, (Keeps.below hb 0).repL _ _ hr⟩
theorem BxN.below {w w' : World} {b o : Nat} {x : Sn} (h : BxN w b o x) (hb : Below w.heap.size w w') : BxN w' b o x :=
  ⟨keepJ hb h.c0, keepJ hb h.c1, repT_belowN h.t hb⟩
/-- What was said stands one behind the other from ao on. -/
def RdN (w : World) (ao : Option Addr) (l : List Sn) : Prop := l = [] ∨ ∃ b o, ao = some ⟨b, o, none⟩ ∧ ∀ j (hj : j < l.length), BxN w b (o + j * 6) l[j]
theorem RdN.below {w w' : World} {ao : Option Addr} {l : List Sn} (h : RdN w ao l) (hb : Below w.heap.size w w') : RdN w' ao l := by
  rcases h with h | ⟨b, o, h1, h2⟩
  · exact .inl h
  · exact .inr ⟨b, o, h1, fun j hj => (h2 j hj).below hb⟩
/-- The cells xs hold what was said; what terms lead to stands in blocks of S. -/
def RowN (S : Nat → Prop) (w : World) (l : List Sn) (xs : List Value) : Prop :=
  xs.length = l.length * 6 ∧ ∀ i (hi : i < l.length), xs[i * 6]? = some (.int .i64 l[i].kind) ∧ xs[i * 6 + 1]? = some (.int .i64 l[i].pid) ∧ RowT S w xs (i * 6 + 2) l[i].t
theorem RowN.nil (S : Nat → Prop) (w : World) : RowN S w [] [] := ⟨rfl, fun i hi => absurd hi (Nat.not_lt_zero _)⟩
theorem RowN.move {S S' : Nat → Prop} {w w' : World} (hk : Moves S S' w w') {l : List Sn} {xs : List Value} (h : RowN S w l xs) : RowN S' w' l xs :=
  ⟨h.1, fun i hi => ⟨(h.2 i hi).1, (h.2 i hi).2.1, (h.2 i hi).2.2.move hk⟩⟩
theorem RowN.snoc {S : Nat → Prop} {w : World} {l : List Sn} {xs : List Value} (h : RowN S w l xs) {x : Sn} {a b c d : Value} (hv : RpV S w x.t (.agg #[a, b, c, d])) :
    RowN S w (l ++ [x]) (xs ++ [.int .i64 x.kind, .int .i64 x.pid, a, b, c, d]) := by
  refine ⟨by simp [h.1]; omega, fun i hi => ?_⟩
  by_cases hl : i < l.length
  · rw [List.getElem_append_left hl]
    obtain ⟨h0, h1, h2⟩ := h.2 i hl
    have e : ∀ j v, xs[j]? = some v → (xs ++ [.int .i64 x.kind, .int .i64 x.pid, a, b, c, d])[j]? = some v := fun j v hj => by
      rw [List.getElem?_append_left (List.getElem?_eq_some_iff.1 hj).1]; exact hj
    exact ⟨e _ _ h0, e _ _ h1, h2.app⟩
  · have hil : i = l.length := by simp at hi; omega
    subst hil
    rw [List.getElem_append_right (Nat.le_refl _)]
    simp only [Nat.sub_self, List.getElem_cons_zero]
    have e : ∀ j, (xs ++ [.int .i64 x.kind, .int .i64 x.pid, a, b, c, d])[l.length * 6 + j]? = ([.int .i64 x.kind, .int .i64 x.pid, a, b, c, d] : List Value)[j]? := fun j => by
      rw [List.getElem?_append_right (by rw [h.1]; omega)]; congr 1; rw [h.1]; omega
    obtain ⟨kind, pid, t⟩ := x
    obtain ⟨k, n, s, m⟩ := t
    obtain ⟨ao, cap, e1, hs, hl', hc, hr⟩ := hv
    simp only [Value.agg.injEq, Array.mk.injEq, List.cons.injEq, and_true] at e1
    obtain ⟨rfl, rfl, rfl, rfl⟩ := e1
    exact ⟨e 0, e 1, e 2, e 3, e 4, hs, ao, cap, e 5, hl', hc, hr⟩
theorem RowN.rd {S : Nat → Prop} {w : World} {l : List Sn} {xs : List Value} (h : RowN S w l xs) {base n : Nat} {T : TypeId} {u : Value} (ho : w.ownsRow base T 6 u n xs) (hn : n = l.length) : ∃ ao cap, u = .slice ao l.length cap ∧ l.length ≤ cap ∧ cap ≤ maxLen ∧ RdN w ao l := by
  subst hn
  obtain ⟨hlen, hcase⟩ := id ho
  rcases hcase with ⟨rfl, h0⟩ | ⟨g, cap, cur, rfl, hb, hg, hn, hc, hsz, htake⟩
  · have : l = [] := List.eq_nil_of_length_eq_zero h0
    subst this
    exact ⟨none, 0, rfl, Nat.le_refl _, Nat.zero_le _, .inl rfl⟩
  · refine ⟨some ⟨g, 0, none⟩, cap, rfl, hn, hc, .inr ⟨g, 0, rfl, fun i hi => ?_⟩⟩
    have e : ∀ j v, xs[j]? = some v → w.cell? ⟨g, j, none⟩ = some v := fun j v hj => by
      rw [ho.cellAt j (by have := (List.getElem?_eq_some_iff.1 hj).1; omega)]; exact hj
    obtain ⟨h0, h1, h2⟩ := h.2 i hi
    rw [Nat.zero_add]
    exact ⟨e _ _ h0, e _ _ h1, RpT.rep _ _ _ (h2.rp' e)⟩
end Go.Proofs.Ytnfncdoiabgdjaa.Nr
