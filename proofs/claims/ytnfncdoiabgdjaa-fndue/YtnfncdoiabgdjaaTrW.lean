/-
  A timer put among others: where it comes to stand, and the program's add.
-/
import Derived.Test.YtnfncdoiabgdjaaTrV
namespace Go.Proofs.Ytnfncdoiabgdjaa.Tr
open Go.RowKit Atom
set_option linter.unusedVariables false

/-- All ahead of k are not later, all from k on are later. -/
structure Place (l : List Sd) (a : Int) (k : Nat) : Prop where
  le : k ≤ l.length
  lo : ∀ t, t < k → (h2 : t < l.length) → l[t].kind ≤ a
  hi : ∀ t, k ≤ t → (h2 : t < l.length) → a < l[t].kind
def plc (l : List Sd) (a : Int) : Nat := (l.takeWhile (fun y => decide (y.kind ≤ a))).length
theorem Place.eq : ∀ {l : List Sd} {a : Int} {k : Nat}, Place l a k → k = plc l a
  | [], a, k, h => by have := h.le; simp at this; unfold plc; simpa using this
  | y :: r, a, 0, h => by
    have h0 : a < y.kind := h.hi 0 (Nat.le_refl _) (by simp)
    unfold plc
    rw [List.takeWhile_cons_of_neg (by simpa using h0)]; rfl
  | y :: r, a, k + 1, h => by
    have h0 : y.kind ≤ a := h.lo 0 (by omega) (by simp)
    have ih := Place.eq (l := r) (a := a) (k := k) ⟨by have := h.le; simpa using this, fun t ht h2 => h.lo (t + 1) (by omega) (by simpa using h2), fun t ht h2 => h.hi (t + 1) (by omega) (by simpa using h2)⟩
    unfold plc at ih ⊢
    rw [List.takeWhile_cons_of_pos (by simpa using h0), List.length_cons, ← ih]
def insT (l : List Sd) (x : Sd) : List Sd := putAt l (plc l x.kind) x
theorem insT_length (l : List Sd) (x : Sd) : (insT l x).length = l.length + 1 := by
  have h1 : plc l x.kind ≤ l.length := (List.takeWhile_sublist _).length_le
  unfold insT putAt
  simp; omega
theorem ord_le {l : List Sd} (h : ordB l = true) (i : Nat) : ∀ (d : Nat) (hid : i + d < l.length), (l[i]'(by omega)).kind ≤ l[i + d].kind
  | 0, hid => Int.le_refl _
  | d + 1, hid => by
    have h1 := ord_le h i d (by omega)
    have h2 : (l[i + d]'(by omega)).kind ≤ l[i + (d + 1)].kind := (of_decide_eq_true h) (i + (d + 1)) hid
    exact Int.le_trans h1 h2
theorem gl_cells {w : World} {l : List Sd} {bs : List Nat} {g : Nat} (h : GL eltS w l bs (some ⟨g, 0, none⟩)) : ∃ cs b0, VL eltS w l cs b0 ∧ cs.length = l.length * 6 ∧ (∀ j v, cs[j]? = some v → w.cell? ⟨g, j, none⟩ = some v) ∧ (∀ v ∈ cs, v.oneCell' = true) ∧ (∀ b ∈ b0, b ∈ bs) ∧ (bs.Nodup → b0.Nodup) := by
  rcases h with ⟨rfl, rfl⟩ | ⟨hl, g', o, b, rfl, e2, hf, hr⟩
  · exact ⟨[], [], ⟨rfl, rfl⟩, rfl, (fun j v hj => by simp at hj), (fun v hv => by cases hv), (fun b hb => hb), fun h => h⟩
  · injection e2 with e2
    injection e2 with e3 e4
    subst e3 e4
    obtain ⟨cs, hv, hlen, hc, h1⟩ := gr_cells l b 0 hr
    exact ⟨cs, b, hv, hlen, fun j v hj => by have := hc j v hj; rwa [Nat.zero_add] at this, h1, fun x hx => List.mem_cons_of_mem _ hx, fun hn => (List.nodup_cons.1 hn).2⟩
end Go.Proofs.Ytnfncdoiabgdjaa.Tr
