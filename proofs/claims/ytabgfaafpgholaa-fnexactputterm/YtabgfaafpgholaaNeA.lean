/-
  A map from names of lists to numbers, the nil name included: what was never put there is not found.
-/
import Derived.Test.YtabgfaafpgholaaToD
namespace Go.Proofs.Ytabgfaafpgholaa
open Go.RowKit
set_option linter.unusedVariables false

theorem nV_inj {x y : Nm} (h : nV x = nV y) : x = y := by
  simp only [nV, Value.agg.injEq, Array.mk.injEq, List.cons.injEq, and_true, Value.int.injEq, true_and] at h
  exact Prod.ext (npV_inj h.1) h.2
theorem PlainP.heap9 {w w' : World} (e : w'.heap = w.heap) : ∀ {p : Option (Nat × Nat)}, PlainP w p → PlainP w' p
  | none, _ => trivial
  | some (b, o), ⟨⟨c, t, f, h1⟩, h2⟩ => ⟨⟨c, t, f, by rw [e]; exact h1⟩, fun y => by rw [World.frozen?_of_block (w := w) (by rw [e])]; exact h2 y⟩
/-- An entry: a list's name, of which S holds. -/
def NiE (w : World) (S : Nat → Prop) (e : MapEntry) : Prop := ∃ x : Nm, e.key = nV x ∧ PlainP w x.1 ∧ (∃ b o, x.1 = some (b, o) ∧ S b) ∧ ∃ v, e.val = .int .i64 v
/-- The block mb is such a map. -/
def NiMap (w : World) (mb : Nat) (S : Nat → Prop) : Prop := ∃ es clk, w.heap[mb]? = some (.map es clk) ∧ ∀ e ∈ es.toList, NiE w S e
theorem undNi : Try.prog.underlying 162 = some (.map 128 3) := by kernel_rfl
theorem find_ni {w : World} {S : Nat → Prop} {x : Nm} (hx : PlainP w x.1) : ∀ (es : List MapEntry) (i : Nat), (∀ e ∈ es, NiE w S e) →
    (Instr.findAsking 128 (nV x) es i).run Try.prog w = .ok (nmFind (nV x) es i) w
  | [], i, _ => by simp [Instr.findAsking, nmFind]
  | e :: es, i, h => by
    obtain ⟨y, hk, hp, hs, v, hv⟩ := h e (by simp)
    have q : (Op.equal 128 (nV x) (nV y)).run Try.prog w = .ok (decide (x = y)) w := eq_nm hx hp 9998
    rw [← hk] at q
    rw [nmFind]
    by_cases hq : e.key = nV x
    · have hq' : y = x := nV_inj (hk.symm.trans hq)
      rw [decide_eq_true hq'.symm] at q
      rw [if_pos hq, Instr.findAsking, Sem.run_bind, q]
      simp
    · have hf : ¬ x = y := fun a => hq (by rw [hk, a])
      rw [decide_eq_false hf] at q
      rw [if_neg hq, Instr.findAsking, Sem.run_bind, q]
      simpa using find_ni hx es (i + 1) (fun z hz => h z (by simp [hz]))
theorem findKey_ni {w : World} {S : Nat → Prop} {x : Nm} (hx : PlainP w x.1) (es : List MapEntry) (h : ∀ e ∈ es, NiE w S e) :
    (Instr.findKey 128 (nV x) es).run Try.prog w = .ok (nmFind (nV x) es 0) w := by
  obtain ⟨f1, f2, hu, _⟩ := undName
  have key : (Instr.findKey 128 (nV x) es).run Try.prog w = (Instr.findAsking 128 (nV x) es 0).run Try.prog w := by
    unfold Instr.findKey
    rw [Sem.run_bind, run_underlying hu, Result.andThen_ok]
    cases es with
    | nil => simp [Instr.findNow, Instr.findAsking]
    | cons e r => simp [nV, Instr.findNow, Instr.sameNow]
  rw [key]
  exact find_ni hx es 0 h
theorem checkKey_ni {w : World} (x : Nm) (em : Bool) (d : Nat) : (Instr.checkKey em (d + 2) 128 (nV x)).run Try.prog w = .ok () w := by
  obtain ⟨f1, f2, hu, e1, e2, e3, e4, e5, e6⟩ := undName
  have p1 : ∀ (x y : Value), (part 126 #[x, y] 0).run Try.prog w = .ok x w := fun x y => by simp [part]
  have p2 : ∀ (x y : Value), (part 3 #[x, y] 1).run Try.prog w = .ok y w := fun x y => by simp [part]
  have c1 : ∀ v, (Instr.checkKey em (d + 1) 126 v).run Try.prog w = .ok () w := fun v => by simp [Instr.checkKey, run_underlying ptrTerm]
  have c2 : ∀ v, (Instr.checkKey em (d + 1) 3 v).run Try.prog w = .ok () w := fun v => by simp [Instr.checkKey, run_underlying Try.underlying3]
  rw [show d + 2 = (d + 1) + 1 from rfl, nV, Instr.checkKey]
  simp only [Sem.run_bind, run_underlying hu, Result.andThen_ok]
  simp [e1, e2, e3, e4, e5, e6, p1, p2, c1, c2]
/-- What is not there is not found, in every world that has this heap. -/
theorem lookup_ni {w : World} {mb : Nat} {S : Nat → Prop} (h : NiMap w mb S) {x : Nm} (hx : PlainP w x.1) (hn : ∀ b o, x.1 = some (b, o) → ¬ S b) :
    ∀ w' : World, w'.heap = w.heap → (Instr.lookup 162 (.map (some mb)) (nV x) true).run Try.prog w' = .ok (.tuple #[.int .i64 0, .bool false]) w' := by
  obtain ⟨es, clk, hm, he⟩ := h
  have hr : nmFind (nV x) es.toList 0 = none := by
    cases hr : nmFind (nV x) es.toList 0 with
    | none => rfl
    | some z =>
      obtain ⟨j, v⟩ := z
      obtain ⟨e0, m1, m2, m3⟩ := nmFind_hit hr
      obtain ⟨y, k1, k2, ⟨b, o, k3, k4⟩, k5⟩ := he e0 m1
      have := nV_inj (k1.symm.trans m2)
      subst this
      exact absurd k4 (hn b o k3)
  intro w' e
  have hc : (Instr.checkKey es.isEmpty 10000 128 (nV x)).run Try.prog w' = .ok () w' := checkKey_ni x es.isEmpty 9998
  have h1 := findKey_ni (w := w') (S := S) (x := x) (hx.heap9 e) es.toList (fun z hz => by obtain ⟨y, k1, k2, k3, k4⟩ := he z hz; exact ⟨y, k1, k2.heap9 e, k3, k4⟩)
  rw [hr] at h1
  have hm' : w'.heap[mb]? = some (.map es clk) := by rw [e]; exact hm
  simp [Instr.lookup, run_underlying undNi, MapKept.run_getObj_map hm', hc, h1]
theorem nmFind_from9 {k : Value} : ∀ {es : List MapEntry} {i j : Nat} {v : Value}, nmFind k es i = some (j, v) → i ≤ j ∧ ∃ e, es[j - i]? = some e ∧ e.key = k
  | [], i, j, v, h => by simp [nmFind] at h
  | e :: es, i, j, v, h => by
    rw [nmFind] at h
    split at h
    · rename_i hk
      simp only [Option.some.injEq, Prod.mk.injEq] at h
      obtain ⟨rfl, _⟩ := h
      exact ⟨Nat.le_refl _, e, by simp, hk⟩
    · obtain ⟨h1, e', h2, h3⟩ := nmFind_from9 h
      refine ⟨by omega, e', ?_, h3⟩
      rw [show j - i = (j - (i + 1)) + 1 by omega, List.getElem?_cons_succ]
      exact h2
theorem stays_ni {w : World} (x : Nm) : (Instr.keyThatStays (nV x) (nV x)).run Try.prog w = .ok (nV x) w := by
  have : Instr.sameBits 10000 (nV x) (nV x) = true := by
    show Instr.sameBits (9998 + 1 + 1) _ _ = true
    obtain ⟨p, n⟩ := x
    rcases p with _ | ⟨b, o⟩ <;> simp [nV, npV, Instr.sameBits]
  simp [Instr.keyThatStays, this]
theorem PlainP.turn9 {w w' : World} {mb : Nat} (ht : Turn mb w w') (hm : ∀ b, Plain w b → b ≠ mb) : ∀ {p : Option (Nat × Nat)}, PlainP w p → PlainP w' p
  | none, _ => trivial
  | some (b, o), h => Plain.turn ht (hm b h) h
theorem update_ni {w : World} {mb : Nat} {S : Nat → Prop} (h : NiMap w mb S) {b o : Nat} {n : Int} (hx : Plain w b) (v : Int) :
    ∃ w', (Instr.mapUpdate 162 (.map (some mb)) (.agg #[.pointer (some ⟨b, o, none⟩), .int .i64 n]) (.int .i64 v)).run Try.prog w = .ok () w' ∧ Turn mb w w' ∧ NiMap w' mb (fun c => S c ∨ c = b) := by
  obtain ⟨es, clk, hm, he⟩ := h
  have hc : (Instr.checkKey false 10000 128 (nV (some (b, o), n))).run Try.prog w = .ok () w := checkKey_ni (some (b, o), n) false 9998
  have hml : mb < w.heap.size := by
    rcases Nat.lt_or_ge mb w.heap.size with h | h
    · exact h
    · rw [Array.getElem?_eq_none h] at hm; cases hm
  have hpl : ∀ b, Plain w b → b ≠ mb := fun b hb e => by
    subst e
    obtain ⟨⟨c, t, f, h⟩, _⟩ := hb
    rw [hm] at h; cases h
  have turn : ∀ O, Turn mb w { w with heap := w.heap.setIfInBounds mb O } := fun O => ⟨rfl, rfl, rfl, by simp, fun k hk hne => by
    show (w.heap.setIfInBounds mb O)[k]? = _
    rw [Array.getElem?_setIfInBounds_ne (Ne.symm hne)]⟩
  have new : ∀ O, ({ w with heap := w.heap.setIfInBounds mb O } : World).heap[mb]? = some O := fun O => by
    show (w.heap.setIfInBounds mb O)[mb]? = _
    rw [Array.getElem?_setIfInBounds_self_of_lt hml]
  have old : ∀ O e, NiE w S e → NiE { w with heap := w.heap.setIfInBounds mb O } (fun c => S c ∨ c = b) e := fun O e ⟨x, k1, k2, ⟨b', o', k3, k4⟩, k5⟩ =>
    ⟨x, k1, k2.turn9 (turn O) hpl, ⟨b', o', k3, .inl k4⟩, k5⟩
  have mine : ∀ O cl, NiE { w with heap := w.heap.setIfInBounds mb O } (fun c => S c ∨ c = b) ⟨nV (some (b, o), n), .int .i64 v, cl⟩ := fun O cl =>
    ⟨(some (b, o), n), rfl, Plain.turn (turn O) (hpl b hx) hx, ⟨b, o, rfl, .inr rfl⟩, v, rfl⟩
  have h0 := findKey_ni (x := (some (b, o), n)) hx es.toList he
  show ∃ w', (Instr.mapUpdate 162 (.map (some mb)) (nV (some (b, o), n)) (.int .i64 v)).run Try.prog w = .ok () w' ∧ _
  cases hr : nmFind (nV (some (b, o), n)) es.toList 0 with
  | none =>
    rw [hr] at h0
    refine ⟨{ w with heap := w.heap.setIfInBounds mb (.map (es.push ⟨nV (some (b, o), n), .int .i64 v, clk⟩) (clk + 1)) }, by simp [Instr.mapUpdate, run_underlying undNi, MapKept.run_getObj_map hm, hc, h0, MapKept.run_setObj_map _ hm], turn _, _, _, new _, ?_⟩
    intro z hz
    simp only [Array.toList_push, List.mem_append, List.mem_singleton] at hz
    rcases hz with hz | rfl
    · exact old _ z (he z hz)
    · exact mine _ _
  | some r =>
    obtain ⟨j, u⟩ := r
    rw [hr] at h0
    obtain ⟨_, e, hj, hk⟩ := nmFind_from9 hr
    have hj' : es[j]? = some e := by simpa using hj
    refine ⟨{ w with heap := w.heap.setIfInBounds mb (.map (es.modify j fun e' => { e' with key := nV (some (b, o), n), val := .int .i64 v }) clk) }, by simp [Instr.mapUpdate, run_underlying undNi, MapKept.run_getObj_map hm, hc, h0, hj', hk, stays_ni, MapKept.run_setObj_map _ hm], turn _, _, _, new _, ?_⟩
    intro z hz
    rcases MapFrom.mem_modify hz with hz | ⟨e', _, rfl⟩
    · exact old _ z (he z hz)
    · exact mine _ _
theorem NiMap.mono {w : World} {mb : Nat} {S S' : Nat → Prop} (h : NiMap w mb S) (hs : ∀ b, S b → S' b) : NiMap w mb S' := by
  obtain ⟨es, clk, hm, he⟩ := h
  exact ⟨es, clk, hm, fun e hx => by obtain ⟨x, k1, k2, ⟨b, o, k3, k4⟩, k5⟩ := he e hx; exact ⟨x, k1, k2, ⟨b, o, k3, hs _ k4⟩, k5⟩⟩
theorem plainP_keep9 {w w' : World} : ∀ {p : Option (Nat × Nat)}, PlainP w p → (∀ b o, p = some (b, o) → w'.heap[b]? = w.heap[b]?) → PlainP w' p
  | none, _, _ => trivial
  | some (b, o), ⟨⟨c, t, f, h1⟩, h2⟩, hk => ⟨⟨c, t, f, by rw [hk b o rfl]; exact h1⟩, fun y => by rw [World.frozen?_of_block (w := w) (hk b o rfl)]; exact h2 y⟩
/-- Another world that keeps the map and all blocks that are named. -/
theorem NiMap.keep {w w' : World} {mb : Nat} {S : Nat → Prop} (h : NiMap w mb S) (hm : w'.heap[mb]? = w.heap[mb]?) (hk : ∀ b, S b → w'.heap[b]? = w.heap[b]?) : NiMap w' mb S := by
  obtain ⟨es, clk, hm', he⟩ := h
  exact ⟨es, clk, hm.trans hm', fun e hx => by
    obtain ⟨x, k1, k2, ⟨b, o, k3, k4⟩, k5⟩ := he e hx
    exact ⟨x, k1, plainP_keep9 k2 (fun b' o' e' => hk b' (by rw [k3] at e'; cases e'; exact k4)), ⟨b, o, k3, k4⟩, k5⟩⟩
end Go.Proofs.Ytabgfaafpgholaa
