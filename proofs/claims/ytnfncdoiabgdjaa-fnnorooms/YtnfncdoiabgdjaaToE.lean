/-
  Lookup and update of a map whose keys are pairs of names of lists.
-/
import Derived.Test.YtnfncdoiabgdjaaToD
namespace Go.Proofs.Ytnfncdoiabgdjaa
open Go.RowKit
set_option linter.unusedVariables false

theorem checkKey_nm {w : World} (p : Value) (n : Value) (em : Bool) (d : Nat) : (Instr.checkKey em (d + 2) 84 (.agg #[p, n])).run Try.prog w = .ok () w := by
  obtain ⟨f1, f2, hu, e1, e2, e3, e4, e5, e6⟩ := undName
  have p1 : ∀ (x y : Value), (part 82 #[x, y] 0).run Try.prog w = .ok x w := fun x y => by simp [part]
  have p2 : ∀ (x y : Value), (part 3 #[x, y] 1).run Try.prog w = .ok y w := fun x y => by simp [part]
  have c1 : ∀ v, (Instr.checkKey em (d + 1) 82 v).run Try.prog w = .ok () w := fun v => by simp [Instr.checkKey, run_underlying ptrTerm]
  have c2 : ∀ v, (Instr.checkKey em (d + 1) 3 v).run Try.prog w = .ok () w := fun v => by simp [Instr.checkKey, run_underlying Try.underlying3]
  rw [show d + 2 = (d + 1) + 1 from rfl, Instr.checkKey]
  simp only [Sem.run_bind, run_underlying hu, Result.andThen_ok]
  simp [e1, e2, e3, e4, e5, e6, p1, p2, c1, c2]
theorem checkKey_pair {w : World} (x y : Nm) (em : Bool) (d : Nat) : (Instr.checkKey em (d + 3) 86 (kV x y)).run Try.prog w = .ok () w := by
  obtain ⟨i, hi⟩ := infoName
  have c1 := fun p n => checkKey_nm (w := w) p n em d
  have hs : (sizeOf 84).run Try.prog w = .ok 2 w := by kernel_rfl
  rw [kV, show d + 3 = (d + 2) + 1 from rfl, Instr.checkKey]
  simp only [Sem.run_bind, run_underlying undPair, Result.andThen_ok]
  simp only [Std.Legacy.Range.forIn_eq_forIn_range', Std.Legacy.Range.size, Nat.sub_zero, Nat.add_one_sub_one, Nat.div_one]
  have r : List.range' 0 2 = [0, 1] := rfl
  rw [r]
  simp [hs, partName, c1]
theorem PlainP.heap {w w' : World} (e : w'.heap = w.heap) : ∀ {p : Option (Nat × Nat)}, PlainP w p → PlainP w' p
  | none, _ => trivial
  | some (b, o), ⟨⟨c, t, f, h1⟩, h2⟩ => ⟨⟨c, t, f, by rw [e]; exact h1⟩, fun y => by rw [World.frozen?_of_block (w := w) (by rw [e])]; exact h2 y⟩
theorem PlainP.turn {w w' : World} {mb : Nat} (ht : Turn mb w w') (hm : ∀ b, Plain w b → b ≠ mb) : ∀ {p : Option (Nat × Nat)}, PlainP w p → PlainP w' p
  | none, _ => trivial
  | some (b, o), h => Plain.turn ht (hm b h) h
/-- Lookup, in every world that has this heap. -/
theorem lookup_pair {w : World} {mb : Nat} {S : Nm → Nm → Prop} (h : PrMap w mb S) {x y : Nm} (hx : PlainP w x.1) (hy : PlainP w y.1) :
    ∃ q, (∀ w' : World, w'.heap = w.heap → (Instr.lookup 74 (.map (some mb)) (kV x y) true).run Try.prog w' = .ok (.tuple #[.agg #[], .bool q]) w') ∧ (q = true → S x y) := by
  obtain ⟨es, clk, hm, he⟩ := h
  have hc : ∀ w' : World, (Instr.checkKey es.isEmpty 10000 86 (kV x y)).run Try.prog w' = .ok () w' := fun w' => checkKey_pair x y es.isEmpty 9997
  have hf : ∀ w' : World, w'.heap = w.heap → (Instr.findKey 86 (kV x y) es.toList).run Try.prog w' = .ok (nmFind (kV x y) es.toList 0) w' := fun w' e =>
    findKey_pair (hx.heap e) (hy.heap e) es.toList (fun z hz => by obtain ⟨x', y', k1, k2, k3, k4, k5⟩ := he z hz; exact ⟨x', y', k1, k2.heap e, k3.heap e, k4, k5⟩)
  cases hr : nmFind (kV x y) es.toList 0 with
  | none =>
    refine ⟨false, fun w' e => ?_, fun h => by cases h⟩
    have h1 := hf w' e
    rw [hr] at h1
    have hm' : w'.heap[mb]? = some (.map es clk) := by rw [e]; exact hm
    simp [Instr.lookup, run_underlying undPm, MapKept.run_getObj_map hm', hc, h1]
  | some z =>
    obtain ⟨j, v⟩ := z
    obtain ⟨e0, m1, m2, m3⟩ := nmFind_hit hr
    obtain ⟨x', y', k1, k2, k3, k4, k5⟩ := he e0 m1
    obtain ⟨rfl, rfl⟩ := kV_inj (k1.symm.trans m2)
    refine ⟨true, fun w' e => ?_, fun _ => k4⟩
    have h1 := hf w' e
    rw [hr] at h1
    rw [← m3, k5] at h1
    have hm' : w'.heap[mb]? = some (.map es clk) := by rw [e]; exact hm
    simp [Instr.lookup, run_underlying undPm, MapKept.run_getObj_map hm', hc, h1]
theorem nmFind_from {k : Value} : ∀ {es : List MapEntry} {i j : Nat} {v : Value}, nmFind k es i = some (j, v) → i ≤ j ∧ ∃ e, es[j - i]? = some e ∧ e.key = k
  | [], i, j, v, h => by simp [nmFind] at h
  | e :: es, i, j, v, h => by
    rw [nmFind] at h
    split at h
    · rename_i hk
      simp only [Option.some.injEq, Prod.mk.injEq] at h
      obtain ⟨rfl, _⟩ := h
      exact ⟨Nat.le_refl _, e, by simp, hk⟩
    · obtain ⟨h1, e', h2, h3⟩ := nmFind_from h
      refine ⟨by omega, e', ?_, h3⟩
      rw [show j - i = (j - (i + 1)) + 1 by omega, List.getElem?_cons_succ]
      exact h2
theorem nmFind_at {k : Value} {es : List MapEntry} {j : Nat} {v : Value} (h : nmFind k es 0 = some (j, v)) : ∃ e, es[j]? = some e ∧ e.key = k := (nmFind_from h).2
theorem stays_pair {w : World} (x y : Nm) : (Instr.keyThatStays (kV x y) (kV x y)).run Try.prog w = .ok (kV x y) w := by
  have : Instr.sameBits 10000 (kV x y) (kV x y) = true := by
    show Instr.sameBits (9998 + 1 + 1) _ _ = true
    obtain ⟨p, n⟩ := x
    obtain ⟨q, m⟩ := y
    rcases p with _ | ⟨b, o⟩ <;> rcases q with _ | ⟨b', o'⟩ <;> simp [kV, npV, Instr.sameBits]
  simp [Instr.keyThatStays, this]
theorem update_pair {w : World} {mb : Nat} {S : Nm → Nm → Prop} (h : PrMap w mb S) {x y : Nm} (hx : PlainP w x.1) (hy : PlainP w y.1) :
    ∃ w', (Instr.mapUpdate 74 (.map (some mb)) (kV x y) (.agg #[])).run Try.prog w = .ok () w' ∧ Turn mb w w' ∧ PrMap w' mb (fun a b => S a b ∨ (a = x ∧ b = y)) := by
  obtain ⟨es, clk, hm, he⟩ := h
  have hc : (Instr.checkKey false 10000 86 (kV x y)).run Try.prog w = .ok () w := checkKey_pair x y false 9997
  have hml : mb < w.heap.size := by
    rcases Nat.lt_or_ge mb w.heap.size with h | h
    · exact h
    · rw [Array.getElem?_eq_none h] at hm; cases hm
  have hpl : ∀ b, Plain w b → b ≠ mb := fun b hb e => by
    subst e
    obtain ⟨⟨c, t, f, h⟩, _⟩ := hb
    rw [hm] at h; cases h
  have turn : ∀ O, Turn mb w { w with heap := w.heap.setIfInBounds mb O } := fun O => ⟨rfl, rfl, rfl, by simp, fun k hk hne => by
    show (w.heap.setIfInBounds mb O)[k]? = _
    rw [Array.getElem?_setIfInBounds_ne (Ne.symm hne)]⟩
  have new : ∀ O, ({ w with heap := w.heap.setIfInBounds mb O } : World).heap[mb]? = some O := fun O => by
    show (w.heap.setIfInBounds mb O)[mb]? = _
    rw [Array.getElem?_setIfInBounds_self_of_lt hml]
  have old : ∀ O e, PrE w S e → PrE { w with heap := w.heap.setIfInBounds mb O } (fun a b => S a b ∨ (a = x ∧ b = y)) e := fun O e ⟨x', y', k1, k2, k3, k4, k5⟩ =>
    ⟨x', y', k1, k2.turn (turn O) hpl, k3.turn (turn O) hpl, .inl k4, k5⟩
  have mine : ∀ O cl, PrE { w with heap := w.heap.setIfInBounds mb O } (fun a b => S a b ∨ (a = x ∧ b = y)) ⟨kV x y, .agg #[], cl⟩ := fun O cl =>
    ⟨x, y, rfl, hx.turn (turn O) hpl, hy.turn (turn O) hpl, .inr ⟨rfl, rfl⟩, rfl⟩
  have h0 := findKey_pair hx hy es.toList he
  cases hr : nmFind (kV x y) es.toList 0 with
  | none =>
    rw [hr] at h0
    refine ⟨{ w with heap := w.heap.setIfInBounds mb (.map (es.push ⟨kV x y, .agg #[], clk⟩) (clk + 1)) }, by simp [Instr.mapUpdate, run_underlying undPm, MapKept.run_getObj_map hm, hc, h0, MapKept.run_setObj_map _ hm], turn _, _, _, new _, ?_⟩
    intro z hz
    simp only [Array.toList_push, List.mem_append, List.mem_singleton] at hz
    rcases hz with hz | rfl
    · exact old _ z (he z hz)
    · exact mine _ _
  | some r =>
    obtain ⟨j, v⟩ := r
    rw [hr] at h0
    obtain ⟨e, hj, hk⟩ := nmFind_at hr
    have hj' : es[j]? = some e := by simpa using hj
    refine ⟨{ w with heap := w.heap.setIfInBounds mb (.map (es.modify j fun e' => { e' with key := kV x y, val := .agg #[] }) clk) }, by simp [Instr.mapUpdate, run_underlying undPm, MapKept.run_getObj_map hm, hc, h0, hj', hk, stays_pair, MapKept.run_setObj_map _ hm], turn _, _, _, new _, ?_⟩
    intro z hz
    rcases MapFrom.mem_modify hz with hz | ⟨e', _, rfl⟩
    · exact old _ z (he z hz)
    · exact mine _ _
theorem PrMap.mono {w : World} {mb : Nat} {S S' : Nm → Nm → Prop} (h : PrMap w mb S) (hs : ∀ x y, S x y → S' x y) : PrMap w mb S' := by
  obtain ⟨es, clk, hm, he⟩ := h
  exact ⟨es, clk, hm, fun e hx => by obtain ⟨x', y', k1, k2, k3, k4, k5⟩ := he e hx; exact ⟨x', y', k1, k2, k3, hs _ _ k4, k5⟩⟩
/-- Another world that keeps the map and all blocks of cells that are named. -/
theorem PrMap.keep {w w' : World} {mb : Nat} {S : Nm → Nm → Prop} (h : PrMap w mb S) (hm : w'.heap[mb]? = w.heap[mb]?) (hk : ∀ x y, S x y → PlainP w x.1 → PlainP w y.1 → PlainP w' x.1 ∧ PlainP w' y.1) : PrMap w' mb S := by
  obtain ⟨es, clk, hm', he⟩ := h
  exact ⟨es, clk, hm.trans hm', fun e hx => by obtain ⟨x', y', k1, k2, k3, k4, k5⟩ := he e hx; exact ⟨x', y', k1, (hk _ _ k4 k2 k3).1, (hk _ _ k4 k2 k3).2, k4, k5⟩⟩
end Go.Proofs.Ytnfncdoiabgdjaa
