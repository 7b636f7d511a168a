/-
  Rows of timers as the cells that they take, and one more among them.
-/
import Derived.Test.YtnfncdoiabgdjaaTrU
namespace Go.Proofs.Ytnfncdoiabgdjaa.Tr
open Go.RowKit Atom
set_option linter.unusedVariables false

/-- A row as its cells. -/
theorem gr_cells {w : World} {g : Nat} : ∀ (l : List Sd) (bs : List Nat) (off : Nat), GR eltS w l bs g off → ∃ cs, VL eltS w l cs bs ∧ cs.length = l.length * 6 ∧ (∀ j v, cs[j]? = some v → w.cell? ⟨g, off + j, none⟩ = some v) ∧ ∀ v ∈ cs, v.oneCell' = true
  | [], bs, off, h => by
    rw [GR] at h
    exact ⟨[], ⟨rfl, h⟩, rfl, (fun j v hj => by simp at hj), fun v hv => by cases hv⟩
  | x :: r, bs, off, h => by
    rw [GR] at h
    obtain ⟨b1, b2, eb, hE, hr⟩ := h
    obtain ⟨cs, hv, hl, hc, h1⟩ := gr_cells r b2 (off + eltS.s) hr
    obtain ⟨ta, tp, t⟩ := x
    obtain ⟨tk, tn, ts, tl⟩ := t
    obtain ⟨d0, d1, hOT⟩ := hE
    dsimp only at d0 d1 hOT
    rw [OsT] at hOT
    obtain ⟨d2, d3, d4, hs4, tao, tcap, d5, hl5, hc5, hr5⟩ := hOT
    refine ⟨[.int .i64 ta, .int .i64 tp, .int .i64 tk, .int .i64 tn, .string ts, .slice tao tl.length tcap] ++ cs, ⟨_, cs, b1, b2, rfl, eb, ve_timer (x := ⟨ta, tp, .mk tk tn ts tl⟩) ⟨tao, tcap, rfl, hs4, hl5, hc5, hr5⟩, hv⟩, ?_, fun j v hj => ?_, fun v hv' => ?_⟩
    · rw [List.length_append, hl, List.length_cons]
      show 6 + r.length * 6 = (r.length + 1) * 6
      omega
    · rcases Nat.lt_or_ge j 6 with h6 | h6
      · rw [List.getElem?_append_left (by show j < 6; exact h6)] at hj
        match j, h6 with
        | 0, _ => exact d0.trans hj
        | 1, _ => exact d1.trans hj
        | 2, _ => exact d2.trans hj
        | 3, _ => exact d3.trans hj
        | 4, _ => exact d4.trans hj
        | 5, _ => exact d5.trans hj
      · rw [List.getElem?_append_right (by show 6 ≤ j; exact h6)] at hj
        have := hc (j - 6) v hj
        rw [show off + eltS.s + (j - 6) = off + j by show off + 6 + (j - 6) = _; omega] at this
        exact this
    · rcases List.mem_append.1 hv' with q | q
      · exact sixOne v q
      · exact h1 v q
/-- One more at the place i. -/
def putAt (l : List Sd) (i : Nat) (x : Sd) : List Sd := l.take i ++ x :: l.drop i
theorem VL.insert {w : World} {x : Sd} {vs : List Value} {bx : List Nat} (hx : VE eltS w x vs bx) : ∀ (i : Nat) (l : List Sd) (cs : List Value) (bs : List Nat), VL eltS w l cs bs → i ≤ l.length → ∃ bs', VL eltS w (putAt l i x) (cs.take (i * 6) ++ (vs ++ cs.drop (i * 6))) bs' ∧ bs'.Perm (bx ++ bs)
  | 0, l, cs, bs, h, _ => ⟨bx ++ bs, ⟨vs, cs, bx, bs, by simp, rfl, hx, by simpa using h⟩, List.Perm.refl _⟩
  | i + 1, [], cs, bs, h, hi => by simp at hi
  | i + 1, a :: r, cs, bs, h, hi => by
    obtain ⟨va, ys, b1, b2, e1, e2, ha, hr⟩ := h
    obtain ⟨bs', hv, hp⟩ := VL.insert hx i r ys b2 hr (by simpa using hi)
    have h6 : va.length = 6 := ha.1
    refine ⟨b1 ++ bs', ⟨va, ys.take (i * 6) ++ (vs ++ ys.drop (i * 6)), b1, bs', ?_, rfl, ha, hv⟩, ?_⟩
    · have t1 : (va ++ ys).take ((i + 1) * 6) = va ++ ys.take (i * 6) := by
        rw [List.take_append, List.take_of_length_le (by omega), h6, show (i + 1) * 6 - 6 = i * 6 by omega]
      have t2 : (va ++ ys).drop ((i + 1) * 6) = ys.drop (i * 6) := by
        rw [List.drop_append, List.drop_of_length_le (by omega), h6, show (i + 1) * 6 - 6 = i * 6 by omega, List.nil_append]
      rw [e1, t1, t2, List.append_assoc]
    · rw [e2]
      exact (List.Perm.append_left b1 hp).trans (List.perm_append_comm_assoc _ _ _)
end Go.Proofs.Ytnfncdoiabgdjaa.Tr
