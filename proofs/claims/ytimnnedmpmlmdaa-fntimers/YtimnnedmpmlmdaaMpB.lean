/-
  Lookup and update of a map whose keys are names of lists.
-/
import Derived.Test.YtimnnedmpmlmdaaMpA
import Derived.Test.YtimnnedmpmlmdaaCurA
import Derived.MapKept
import Derived.Maps.OwnSet
namespace Go.Proofs.Ytimnnedmpmlmdaa
open Go.RowKit
set_option linter.unusedVariables false

/-- The block mb is such a map. -/
def NmMap (w : World) (mb : Nat) (S : Nat → Nat → Prop) : Prop := ∃ es clk, w.heap[mb]? = some (.map es clk) ∧ ∀ e ∈ es.toList, NmE w S e
theorem undMap : Try.prog.underlying 116 = some (.map 74 28) := by kernel_rfl
theorem Plain.turn {w w' : World} {mb b : Nat} (ht : Turn mb w w') (hne : b ≠ mb) (h : Plain w b) : Plain w' b := by
  obtain ⟨⟨c, t, f, hb⟩, hf⟩ := h
  have hl : b < w.heap.size := by
    rcases Nat.lt_or_ge b w.heap.size with h | h
    · exact h
    · rw [Array.getElem?_eq_none h] at hb; cases hb
  have e := ht.block b hl hne
  exact ⟨⟨c, t, f, e.trans hb⟩, fun o => by rw [World.frozen?_of_block (w := w) e]; exact hf o⟩
theorem lookup_name {w : World} {mb : Nat} {S : Nat → Nat → Prop} (h : NmMap w mb S) {b o : Nat} {n : Int} (hb : Plain w b) :
    ∃ a l c q, (Instr.lookup 116 (.map (some mb)) (nmV b o n) true).run Try.prog w = .ok (.tuple #[.slice a l c, .bool q]) w ∧ (q = true → S b o) := by
  obtain ⟨es, clk, hm, he⟩ := h
  have hc : (Instr.checkKey es.isEmpty 10000 74 (nmV b o n)).run Try.prog w = .ok () w := checkKey_name es.isEmpty 9998
  rcases findKey_name (n := n) (o := o) hb es.toList he with h1 | ⟨j, e, h1, h2, h3, h4⟩
  · refine ⟨none, 0, 0, false, ?_, fun h => by cases h⟩
    simp [Instr.lookup, run_underlying undMap, MapKept.run_getObj_map hm, hc, h1]
  · obtain ⟨_, _, _, _, _, _, a, l, c, hv⟩ := he e (List.mem_of_getElem? h2)
    refine ⟨a, l, c, true, ?_, fun _ => h4⟩
    rw [hv] at h1
    simp [Instr.lookup, run_underlying undMap, MapKept.run_getObj_map hm, hc, h1]
open Classical in
/-- The first entry of this key. -/
noncomputable def nmFind (k : Value) : List MapEntry → Nat → Option (Nat × Value)
  | [], _ => none
  | e :: es, i => if e.key = k then some (i, e.val) else nmFind k es (i + 1)
theorem find_pure {w : World} {S : Nat → Nat → Prop} {b o : Nat} {n : Int} (hb : Plain w b) : ∀ (es : List MapEntry) (i : Nat), (∀ e ∈ es, NmE w S e) →
    (Instr.findAsking 74 (nmV b o n) es i).run Try.prog w = .ok (nmFind (nmV b o n) es i) w
  | [], i, _ => by simp [Instr.findAsking, nmFind]
  | e :: es, i, h => by
    obtain ⟨b', o', n', hk, hp, hs, a, l, c, hv⟩ := h e (by simp)
    have q := eq_name (o := o) (o' := o') (n := n) (n' := n') hb hp
    rw [← hk] at q
    rw [nmFind]
    by_cases hq : e.key = nmV b o n
    · have hq' := hq
      rw [hk] at hq'
      simp only [nmV, Value.agg.injEq, Array.mk.injEq, List.cons.injEq, and_true, Value.pointer.injEq, Option.some.injEq, Addr.mk.injEq, Value.int.injEq, true_and] at hq'
      obtain ⟨⟨rfl, rfl⟩, rfl⟩ := hq'
      rw [if_pos hq, Instr.findAsking, Sem.run_bind, q]
      simp
    · have hf : (decide (b = b' ∧ o = o') && (n == n')) = false := by
        by_cases h1 : b = b' ∧ o = o'
        · have : n ≠ n' := fun x => hq (by rw [hk, h1.1, h1.2, x])
          simp [this]
        · rw [decide_eq_false h1]; rfl
      rw [hf] at q
      rw [if_neg hq, Instr.findAsking, Sem.run_bind, q]
      simpa using find_pure hb es (i + 1) (fun x hx => h x (by simp [hx]))
theorem findKey_pure {w : World} {S : Nat → Nat → Prop} {b o : Nat} {n : Int} (hb : Plain w b) (es : List MapEntry) (h : ∀ e ∈ es, NmE w S e) :
    (Instr.findKey 74 (nmV b o n) es).run Try.prog w = .ok (nmFind (nmV b o n) es 0) w := by
  obtain ⟨f1, f2, hu, _⟩ := undName
  have key : (Instr.findKey 74 (nmV b o n) es).run Try.prog w = (Instr.findAsking 74 (nmV b o n) es 0).run Try.prog w := by
    unfold Instr.findKey
    rw [Sem.run_bind, run_underlying hu, Result.andThen_ok]
    cases es with
    | nil => simp [Instr.findNow, Instr.findAsking]
    | cons e r => simp [Instr.findNow, Instr.sameNow]
  rw [key]
  exact find_pure hb es 0 h
theorem nmFind_hit {k : Value} : ∀ {es : List MapEntry} {i j : Nat} {v : Value}, nmFind k es i = some (j, v) → ∃ e ∈ es, e.key = k ∧ e.val = v
  | [], i, j, v, h => by simp [nmFind] at h
  | e :: es, i, j, v, h => by
    rw [nmFind] at h
    split at h
    · rename_i hk
      simp only [Option.some.injEq, Prod.mk.injEq] at h
      exact ⟨e, by simp, hk, h.2⟩
    · obtain ⟨e', h1, h2⟩ := nmFind_hit h
      exact ⟨e', by simp [h1], h2⟩
/-- Lookup, in every world that has this heap. -/
theorem lookup_all {w : World} {mb : Nat} {S : Nat → Nat → Prop} (h : NmMap w mb S) {b o : Nat} {n : Int} (hb : Plain w b) :
    ∃ a l c q, (∀ w' : World, w'.heap = w.heap → (Instr.lookup 116 (.map (some mb)) (nmV b o n) true).run Try.prog w' = .ok (.tuple #[.slice a l c, .bool q]) w') ∧ (q = true → S b o) := by
  obtain ⟨es, clk, hm, he⟩ := h
  have hc : ∀ w' : World, (Instr.checkKey es.isEmpty 10000 74 (nmV b o n)).run Try.prog w' = .ok () w' := fun w' => checkKey_name es.isEmpty 9998
  have pl : ∀ w' : World, w'.heap = w.heap → ∀ x, Plain w x → Plain w' x := fun w' e x ⟨⟨c, t, f, h1⟩, h2⟩ => ⟨⟨c, t, f, by rw [e]; exact h1⟩, fun y => by
    rw [World.frozen?_of_block (w := w) (by rw [e])]; exact h2 y⟩
  have hf : ∀ w' : World, w'.heap = w.heap → (Instr.findKey 74 (nmV b o n) es.toList).run Try.prog w' = .ok (nmFind (nmV b o n) es.toList 0) w' := fun w' e =>
    findKey_pure (pl w' e b hb) es.toList (fun x hx => by obtain ⟨b', o', n', k1, k2, k3, k4⟩ := he x hx; exact ⟨b', o', n', k1, pl w' e _ k2, k3, k4⟩)
  cases hr : nmFind (nmV b o n) es.toList 0 with
  | none =>
    refine ⟨none, 0, 0, false, fun w' e => ?_, fun h => by cases h⟩
    have h1 := hf w' e
    rw [hr] at h1
    have hm' : w'.heap[mb]? = some (.map es clk) := by rw [e]; exact hm
    simp [Instr.lookup, run_underlying undMap, MapKept.run_getObj_map hm', hc, h1]
  | some x =>
    obtain ⟨j, v⟩ := x
    obtain ⟨e0, m1, m2, m3⟩ := nmFind_hit hr
    obtain ⟨b', o', n', k1, k2, k3, a, l, c, k4⟩ := he e0 m1
    rw [m2] at k1
    simp only [nmV, Value.agg.injEq, Array.mk.injEq, List.cons.injEq, and_true, Value.pointer.injEq, Option.some.injEq, Addr.mk.injEq, Value.int.injEq, true_and] at k1
    obtain ⟨⟨rfl, rfl⟩, rfl⟩ := k1
    refine ⟨a, l, c, true, fun w' e => ?_, fun _ => k3⟩
    have h1 := hf w' e
    rw [hr] at h1
    rw [← m3, k4] at h1
    have hm' : w'.heap[mb]? = some (.map es clk) := by rw [e]; exact hm
    simp [Instr.lookup, run_underlying undMap, MapKept.run_getObj_map hm', hc, h1]
theorem stays_name {w : World} {b o : Nat} {n : Int} : (Instr.keyThatStays (nmV b o n) (nmV b o n)).run Try.prog w = .ok (nmV b o n) w := by
  have : Instr.sameBits 10000 (nmV b o n) (nmV b o n) = true := by
    show Instr.sameBits (9998 + 1 + 1) _ _ = true
    simp [Instr.sameBits]
  simp [Instr.keyThatStays, this]
theorem update_name {w : World} {mb : Nat} {S : Nat → Nat → Prop} (h : NmMap w mb S) {b o : Nat} {n : Int} (hb : Plain w b) (a : Option Addr) (l c : Nat) :
    ∃ w', (Instr.mapUpdate 116 (.map (some mb)) (nmV b o n) (.slice a l c)).run Try.prog w = .ok () w' ∧ Turn mb w w' ∧ NmMap w' mb (fun x y => S x y ∨ (x = b ∧ y = o)) := by
  obtain ⟨es, clk, hm, he⟩ := h
  have hc : (Instr.checkKey false 10000 74 (nmV b o n)).run Try.prog w = .ok () w := checkKey_name false 9998
  have hml : mb < w.heap.size := by
    rcases Nat.lt_or_ge mb w.heap.size with h | h
    · exact h
    · rw [Array.getElem?_eq_none h] at hm; cases hm
  have hpl : ∀ x, Plain w x → x ≠ mb := fun x hx e => by
    subst e
    obtain ⟨⟨c, t, f, h⟩, _⟩ := hx
    rw [hm] at h; cases h
  have turn : ∀ O, Turn mb w { w with heap := w.heap.setIfInBounds mb O } := fun O => ⟨rfl, rfl, rfl, by simp, fun k hk hne => by
    show (w.heap.setIfInBounds mb O)[k]? = _
    rw [Array.getElem?_setIfInBounds_ne (Ne.symm hne)]⟩
  have new : ∀ O, ({ w with heap := w.heap.setIfInBounds mb O } : World).heap[mb]? = some O := fun O => by
    show (w.heap.setIfInBounds mb O)[mb]? = _
    rw [Array.getElem?_setIfInBounds_self_of_lt hml]
  have old : ∀ O x, NmE w S x → NmE { w with heap := w.heap.setIfInBounds mb O } (fun x y => S x y ∨ (x = b ∧ y = o)) x := fun O x ⟨b', o', n', k1, k2, k3, k4⟩ =>
    ⟨b', o', n', k1, k2.turn (turn O) (hpl b' k2), .inl k3, k4⟩
  have mine : ∀ O cl, NmE { w with heap := w.heap.setIfInBounds mb O } (fun x y => S x y ∨ (x = b ∧ y = o)) ⟨nmV b o n, .slice a l c, cl⟩ := fun O cl =>
    ⟨b, o, n, rfl, hb.turn (turn O) (hpl b hb), .inr ⟨rfl, rfl⟩, a, l, c, rfl⟩
  rcases findKey_name (n := n) (o := o) hb es.toList he with h1 | ⟨j, e, h1, h2, h3, h4⟩
  · refine ⟨{ w with heap := w.heap.setIfInBounds mb (.map (es.push ⟨nmV b o n, .slice a l c, clk⟩) (clk + 1)) }, by simp [Instr.mapUpdate, run_underlying undMap, MapKept.run_getObj_map hm, hc, h1, MapKept.run_setObj_map _ hm], turn _, _, _, new _, ?_⟩
    intro x hx
    simp only [Array.toList_push, List.mem_append, List.mem_singleton] at hx
    rcases hx with hx | rfl
    · exact old _ x (he x hx)
    · exact mine _ _
  · have hj : es[j]? = some e := by simpa using h2
    refine ⟨{ w with heap := w.heap.setIfInBounds mb (.map (es.modify j fun e' => { e' with key := nmV b o n, val := .slice a l c }) clk) }, by simp [Instr.mapUpdate, run_underlying undMap, MapKept.run_getObj_map hm, hc, h1, hj, h3, stays_name, MapKept.run_setObj_map _ hm], turn _, _, _, new _, ?_⟩
    intro x hx
    rcases MapFrom.mem_modify hx with hx | ⟨e', _, rfl⟩
    · exact old _ x (he x hx)
    · exact mine _ _
theorem NmMap.mono {w : World} {mb : Nat} {S S' : Nat → Nat → Prop} (h : NmMap w mb S) (hs : ∀ b o, S b o → S' b o) : NmMap w mb S' := by
  obtain ⟨es, clk, hm, he⟩ := h
  exact ⟨es, clk, hm, fun e hx => by obtain ⟨b', o', n', k1, k2, k3, k4⟩ := he e hx; exact ⟨b', o', n', k1, k2, hs _ _ k3, k4⟩⟩
/-- Another world that keeps the map and all blocks of cells that are named. -/
theorem NmMap.keep {w w' : World} {mb : Nat} {S : Nat → Nat → Prop} (h : NmMap w mb S) (hm : w'.heap[mb]? = w.heap[mb]?) (hk : ∀ b o, S b o → Plain w b → Plain w' b) : NmMap w' mb S := by
  obtain ⟨es, clk, hm', he⟩ := h
  exact ⟨es, clk, hm.trans hm', fun e hx => by obtain ⟨b', o', n', k1, k2, k3, k4⟩ := he e hx; exact ⟨b', o', n', k1, hk _ _ k3 k2, k3, k4⟩⟩
end Go.Proofs.Ytimnnedmpmlmdaa
