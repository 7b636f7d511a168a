/-
  A map from names of lists to numbers, the nil name included: what was never put there is not found.
  (Ahead of it, in this text: Maps whose keys are pairs of names of lists.)
-/
import Derived.Test.YtabgfaafpgholaaW27
namespace Go.Proofs.Ytabgfaafpgholaa
open Go.RowKit
set_option linter.unusedVariables false

/-- A name: where the list begins (nowhere, of an empty one), and how long it is. -/
abbrev Nm := Option (Nat × Nat) × Int
def npV : Option (Nat × Nat) → Value
  | none => .pointer none
  | some (b, o) => .pointer (some ⟨b, o, none⟩)
def PlainP (w : World) : Option (Nat × Nat) → Prop
  | none => True
  | some (b, _) => Plain w b
theorem npV_inj {p q : Option (Nat × Nat)} (h : npV p = npV q) : p = q := by
  rcases p with _ | ⟨b, o⟩ <;> rcases q with _ | ⟨b', o'⟩ <;> simp_all [npV]
theorem eq_np {w : World} {p q : Option (Nat × Nat)} (hp : PlainP w p) (hq : PlainP w q) (d : Nat) : (Op.equalIn (d + 1) 126 (npV p) (npV q)).run Try.prog w = .ok (decide (p = q)) w := by
  rcases p with _ | ⟨b, o⟩ <;> rcases q with _ | ⟨b', o'⟩
  · simp [npV, Op.equalIn, run_underlying ptrTerm]
  · simp [npV, Op.equalIn, run_underlying ptrTerm]
  · simp [npV, Op.equalIn, run_underlying ptrTerm]
  · rw [npV, npV, eq_ptr hp hq d]
    simp
def nV (x : Nm) : Value := .agg #[npV x.1, .int .i64 x.2]
theorem eq_nm {w : World} {x y : Nm} (hx : PlainP w x.1) (hy : PlainP w y.1) (d : Nat) : (Op.equalIn (d + 2) 128 (nV x) (nV y)).run Try.prog w = .ok (decide (x = y)) w := by
  obtain ⟨p, n⟩ := x
  obtain ⟨q, m⟩ := y
  obtain ⟨f1, f2, hu, e1, e2, e3, e4, e5, e6⟩ := undName
  have p1 : ∀ (x y : Value), (part 126 #[x, y] 0).run Try.prog w = .ok x w := fun x y => by simp [part]
  have p2 : ∀ (x y : Value), (part 3 #[x, y] 1).run Try.prog w = .ok y w := fun x y => by simp [part]
  have q1 := eq_np hx hy d
  have q2 := eq_int9 (w := w) (n := n) (n' := m) d
  show (Op.equalIn (d + 1 + 1) 128 (.agg #[npV p, .int .i64 n]) (.agg #[npV q, .int .i64 m])).run Try.prog w = _
  rw [Op.equalIn]
  simp only [Sem.run_bind, run_underlying hu, Result.andThen_ok]
  by_cases e : p = q
  · subst e
    rw [decide_eq_true rfl] at q1
    by_cases en : n = m
    · subst en
      simp [e1, e2, e3, e4, e5, e6, p1, p2, q1, q2]
    · have en2 : (n == m) = false := by simp [en]
      rw [en2] at q2
      simp [e1, e2, e3, e4, e5, e6, p1, p2, q1, q2, en]
  · rw [decide_eq_false e] at q1
    simp [e1, e2, e3, e4, e5, e6, p1, q1, e]

/-- A key: two names. -/
def kV (x y : Nm) : Value := .agg #[npV x.1, .int .i64 x.2, npV y.1, .int .i64 y.2]
theorem kV_inj {x y x' y' : Nm} (h : kV x y = kV x' y') : x = x' ∧ y = y' := by
  simp only [kV, Value.agg.injEq, Array.mk.injEq, List.cons.injEq, and_true, Value.int.injEq, true_and] at h
  exact ⟨Prod.ext (npV_inj h.1) h.2.1, Prod.ext (npV_inj h.2.2.1) h.2.2.2⟩
theorem undPair : Try.prog.underlying 130 = some (.array 2 128) := by kernel_rfl
theorem infoName : ∃ i, Try.prog.info? 128 = some i := by
  have h : (Try.prog.info? 128).isSome = true := by kernel_rfl
  exact Option.isSome_iff_exists.1 h
theorem cellsName : Try.prog.cellsOf 128 = 2 := by kernel_rfl
theorem partName (w : World) (cs : Array Value) (o : Nat) : (part 128 cs o).run Try.prog w = .ok (.agg (cs.extract o (o + 2))) w := by
  have h1 : (isAgg 128).run Try.prog w = .ok true w := by kernel_rfl
  simp [part, h1]
theorem eq_pairIn {w : World} {x y x' y' : Nm} (hx : PlainP w x.1) (hy : PlainP w y.1) (hx' : PlainP w x'.1) (hy' : PlainP w y'.1) (d : Nat) :
    (Op.equalIn (d + 3) 130 (kV x y) (kV x' y')).run Try.prog w = .ok (decide (x = x' ∧ y = y')) w := by
  obtain ⟨i, hi⟩ := infoName
  have q1 := eq_nm hx hx' d
  have q2 := eq_nm hy hy' d
  unfold nV at q1 q2
  show (Op.equalIn ((d + 2) + 1) 130 (.agg _) (.agg _)).run Try.prog w = _
  rw [run_equalIn_array w (d + 2) _ _ undPair hi, cellsName]
  have r : List.range 2 = [0, 1] := rfl
  rw [r]
  by_cases e : x = x'
  · subst e
    rw [decide_eq_true rfl] at q1
    by_cases e2 : y = y'
    · subst e2
      rw [decide_eq_true rfl] at q2
      simp [Op.eqItems, partName, q1, q2]
    · rw [decide_eq_false e2] at q2
      simp [Op.eqItems, partName, q1, q2, e2]
  · rw [decide_eq_false e] at q1
    simp [Op.eqItems, partName, q1, e]
theorem eq_pair {w : World} {x y x' y' : Nm} (hx : PlainP w x.1) (hy : PlainP w y.1) (hx' : PlainP w x'.1) (hy' : PlainP w y'.1) :
    (Op.equal 130 (kV x y) (kV x' y')).run Try.prog w = .ok (decide (x = x' ∧ y = y')) w := eq_pairIn hx hy hx' hy' 9997

/-- An entry of such a map; S tells which pairs may be named. -/
def PrE (w : World) (S : Nm → Nm → Prop) (e : MapEntry) : Prop := ∃ x y, e.key = kV x y ∧ PlainP w x.1 ∧ PlainP w y.1 ∧ S x y ∧ e.val = .agg #[]
/-- The block mb is such a map. -/
def PrMap (w : World) (mb : Nat) (S : Nm → Nm → Prop) : Prop := ∃ es clk, w.heap[mb]? = some (.map es clk) ∧ ∀ e ∈ es.toList, PrE w S e
theorem undPm : Try.prog.underlying 119 = some (.map 130 131) := by kernel_rfl
theorem find_pair {w : World} {S : Nm → Nm → Prop} {x y : Nm} (hx : PlainP w x.1) (hy : PlainP w y.1) : ∀ (es : List MapEntry) (i : Nat), (∀ e ∈ es, PrE w S e) →
    (Instr.findAsking 130 (kV x y) es i).run Try.prog w = .ok (nmFind (kV x y) es i) w
  | [], i, _ => by simp [Instr.findAsking, nmFind]
  | e :: es, i, h => by
    obtain ⟨x', y', hk, h1, h2, hs, hv⟩ := h e (by simp)
    have q := eq_pair hx hy h1 h2
    rw [← hk] at q
    rw [nmFind]
    by_cases hq : e.key = kV x y
    · obtain ⟨rfl, rfl⟩ := kV_inj (hk.symm.trans hq)
      rw [decide_eq_true ⟨rfl, rfl⟩] at q
      rw [if_pos hq, Instr.findAsking, Sem.run_bind, q]
      simp
    · have hf : ¬ (x = x' ∧ y = y') := fun ⟨a, b⟩ => hq (by rw [hk, a, b])
      rw [decide_eq_false hf] at q
      rw [if_neg hq, Instr.findAsking, Sem.run_bind, q]
      simpa using find_pair hx hy es (i + 1) (fun z hz => h z (by simp [hz]))
theorem findKey_pair {w : World} {S : Nm → Nm → Prop} {x y : Nm} (hx : PlainP w x.1) (hy : PlainP w y.1) (es : List MapEntry) (h : ∀ e ∈ es, PrE w S e) :
    (Instr.findKey 130 (kV x y) es).run Try.prog w = .ok (nmFind (kV x y) es 0) w := by
  have key : (Instr.findKey 130 (kV x y) es).run Try.prog w = (Instr.findAsking 130 (kV x y) es 0).run Try.prog w := by
    unfold Instr.findKey
    rw [Sem.run_bind, run_underlying undPair, Result.andThen_ok]
    cases es with
    | nil => simp [Instr.findNow, Instr.findAsking]
    | cons e r => simp [kV, Instr.findNow, Instr.sameNow]
  rw [key]
  exact find_pair hx hy es 0 h
end Go.Proofs.Ytabgfaafpgholaa
namespace Go.Proofs.Ytabgfaafpgholaa
open Go.RowKit
set_option linter.unusedVariables false

theorem nV_inj {x y : Nm} (h : nV x = nV y) : x = y := by
  simp only [nV, Value.agg.injEq, Array.mk.injEq, List.cons.injEq, and_true, Value.int.injEq, true_and] at h
  exact Prod.ext (npV_inj h.1) h.2
theorem PlainP.heap9 {w w' : World} (e : w'.heap = w.heap) : ∀ {p : Option (Nat × Nat)}, PlainP w p → PlainP w' p
  | none, _ => trivial
  | some (b, o), ⟨⟨c, t, f, h1⟩, h2⟩ => ⟨⟨c, t, f, by rw [e]; exact h1⟩, fun y => by rw [World.frozen?_of_block (w := w) (by rw [e])]; exact h2 y⟩
/-- An entry: a list's name, of which S holds. -/
def NiE (w : World) (S : Nat → Prop) (e : MapEntry) : Prop := ∃ x : Nm, e.key = nV x ∧ PlainP w x.1 ∧ (∃ b o, x.1 = some (b, o) ∧ S b) ∧ ∃ v, e.val = .int .i64 v
/-- The block mb is such a map. -/
def NiMap (w : World) (mb : Nat) (S : Nat → Prop) : Prop := ∃ es clk, w.heap[mb]? = some (.map es clk) ∧ ∀ e ∈ es.toList, NiE w S e
theorem undNi : Try.prog.underlying 162 = some (.map 128 3) := by kernel_rfl
theorem find_ni {w : World} {S : Nat → Prop} {x : Nm} (hx : PlainP w x.1) : ∀ (es : List MapEntry) (i : Nat), (∀ e ∈ es, NiE w S e) →
    (Instr.findAsking 128 (nV x) es i).run Try.prog w = .ok (nmFind (nV x) es i) w
  | [], i, _ => by simp [Instr.findAsking, nmFind]
  | e :: es, i, h => by
    obtain ⟨y, hk, hp, hs, v, hv⟩ := h e (by simp)
    have q : (Op.equal 128 (nV x) (nV y)).run Try.prog w = .ok (decide (x = y)) w := eq_nm hx hp 9998
    rw [← hk] at q
    rw [nmFind]
    by_cases hq : e.key = nV x
    · have hq' : y = x := nV_inj (hk.symm.trans hq)
      rw [decide_eq_true hq'.symm] at q
      rw [if_pos hq, Instr.findAsking, Sem.run_bind, q]
      simp
    · have hf : ¬ x = y := fun a => hq (by rw [hk, a])
      rw [decide_eq_false hf] at q
      rw [if_neg hq, Instr.findAsking, Sem.run_bind, q]
      simpa using find_ni hx es (i + 1) (fun z hz => h z (by simp [hz]))
theorem findKey_ni {w : World} {S : Nat → Prop} {x : Nm} (hx : PlainP w x.1) (es : List MapEntry) (h : ∀ e ∈ es, NiE w S e) :
    (Instr.findKey 128 (nV x) es).run Try.prog w = .ok (nmFind (nV x) es 0) w := by
  obtain ⟨f1, f2, hu, _⟩ := undName
  have key : (Instr.findKey 128 (nV x) es).run Try.prog w = (Instr.findAsking 128 (nV x) es 0).run Try.prog w := by
    unfold Instr.findKey
    rw [Sem.run_bind, run_underlying hu, Result.andThen_ok]
    cases es with
    | nil => simp [Instr.findNow, Instr.findAsking]
    | cons e r => simp [nV, Instr.findNow, Instr.sameNow]
  rw [key]
  exact find_ni hx es 0 h
theorem checkKey_ni {w : World} (x : Nm) (em : Bool) (d : Nat) : (Instr.checkKey em (d + 2) 128 (nV x)).run Try.prog w = .ok () w := by
  obtain ⟨f1, f2, hu, e1, e2, e3, e4, e5, e6⟩ := undName
  have p1 : ∀ (x y : Value), (part 126 #[x, y] 0).run Try.prog w = .ok x w := fun x y => by simp [part]
  have p2 : ∀ (x y : Value), (part 3 #[x, y] 1).run Try.prog w = .ok y w := fun x y => by simp [part]
  have c1 : ∀ v, (Instr.checkKey em (d + 1) 126 v).run Try.prog w = .ok () w := fun v => by simp [Instr.checkKey, run_underlying ptrTerm]
  have c2 : ∀ v, (Instr.checkKey em (d + 1) 3 v).run Try.prog w = .ok () w := fun v => by simp [Instr.checkKey, run_underlying Try.underlying3]
  rw [show d + 2 = (d + 1) + 1 from rfl, nV, Instr.checkKey]
  simp only [Sem.run_bind, run_underlying hu, Result.andThen_ok]
  simp [e1, e2, e3, e4, e5, e6, p1, p2, c1, c2]
/-- What is not there is not found, in every world that has this heap. -/
theorem lookup_ni {w : World} {mb : Nat} {S : Nat → Prop} (h : NiMap w mb S) {x : Nm} (hx : PlainP w x.1) (hn : ∀ b o, x.1 = some (b, o) → ¬ S b) :
    ∀ w' : World, w'.heap = w.heap → (Instr.lookup 162 (.map (some mb)) (nV x) true).run Try.prog w' = .ok (.tuple #[.int .i64 0, .bool false]) w' := by
  obtain ⟨es, clk, hm, he⟩ := h
  have hr : nmFind (nV x) es.toList 0 = none := by
    cases hr : nmFind (nV x) es.toList 0 with
    | none => rfl
    | some z =>
      obtain ⟨j, v⟩ := z
      obtain ⟨e0, m1, m2, m3⟩ := nmFind_hit hr
      obtain ⟨y, k1, k2, ⟨b, o, k3, k4⟩, k5⟩ := he e0 m1
      have := nV_inj (k1.symm.trans m2)
      subst this
      exact absurd k4 (hn b o k3)
  intro w' e
  have hc : (Instr.checkKey es.isEmpty 10000 128 (nV x)).run Try.prog w' = .ok () w' := checkKey_ni x es.isEmpty 9998
  have h1 := findKey_ni (w := w') (S := S) (x := x) (hx.heap9 e) es.toList (fun z hz => by obtain ⟨y, k1, k2, k3, k4⟩ := he z hz; exact ⟨y, k1, k2.heap9 e, k3, k4⟩)
  rw [hr] at h1
  have hm' : w'.heap[mb]? = some (.map es clk) := by rw [e]; exact hm
  simp [Instr.lookup, run_underlying undNi, MapKept.run_getObj_map hm', hc, h1]
theorem nmFind_from9 {k : Value} : ∀ {es : List MapEntry} {i j : Nat} {v : Value}, nmFind k es i = some (j, v) → i ≤ j ∧ ∃ e, es[j - i]? = some e ∧ e.key = k
  | [], i, j, v, h => by simp [nmFind] at h
  | e :: es, i, j, v, h => by
    rw [nmFind] at h
    split at h
    · rename_i hk
      simp only [Option.some.injEq, Prod.mk.injEq] at h
      obtain ⟨rfl, _⟩ := h
      exact ⟨Nat.le_refl _, e, by simp, hk⟩
    · obtain ⟨h1, e', h2, h3⟩ := nmFind_from9 h
      refine ⟨by omega, e', ?_, h3⟩
      rw [show j - i = (j - (i + 1)) + 1 by omega, List.getElem?_cons_succ]
      exact h2
theorem stays_ni {w : World} (x : Nm) : (Instr.keyThatStays (nV x) (nV x)).run Try.prog w = .ok (nV x) w := by
  have : Instr.sameBits 10000 (nV x) (nV x) = true := by
    show Instr.sameBits (9998 + 1 + 1) _ _ = true
    obtain ⟨p, n⟩ := x
    rcases p with _ | ⟨b, o⟩ <;> simp [nV, npV, Instr.sameBits]
  simp [Instr.keyThatStays, this]
theorem PlainP.turn9 {w w' : World} {mb : Nat} (ht : Turn mb w w') (hm : ∀ b, Plain w b → b ≠ mb) : ∀ {p : Option (Nat × Nat)}, PlainP w p → PlainP w' p
  | none, _ => trivial
  | some (b, o), h => Plain.turn ht (hm b h) h
theorem update_ni {w : World} {mb : Nat} {S : Nat → Prop} (h : NiMap w mb S) {b o : Nat} {n : Int} (hx : Plain w b) (v : Int) :
    ∃ w', (Instr.mapUpdate 162 (.map (some mb)) (.agg #[.pointer (some ⟨b, o, none⟩), .int .i64 n]) (.int .i64 v)).run Try.prog w = .ok () w' ∧ Turn mb w w' ∧ NiMap w' mb (fun c => S c ∨ c = b) := by
  obtain ⟨es, clk, hm, he⟩ := h
  have hc : (Instr.checkKey false 10000 128 (nV (some (b, o), n))).run Try.prog w = .ok () w := checkKey_ni (some (b, o), n) false 9998
  have hml : mb < w.heap.size := by
    rcases Nat.lt_or_ge mb w.heap.size with h | h
    · exact h
    · rw [Array.getElem?_eq_none h] at hm; cases hm
  have hpl : ∀ b, Plain w b → b ≠ mb := fun b hb e => by
    subst e
    obtain ⟨⟨c, t, f, h⟩, _⟩ := hb
    rw [hm] at h; cases h
  have turn : ∀ O, Turn mb w { w with heap := w.heap.setIfInBounds mb O } := fun O => ⟨rfl, rfl, rfl, by simp, fun k hk hne => by
    show (w.heap.setIfInBounds mb O)[k]? = _
    rw [Array.getElem?_setIfInBounds_ne (Ne.symm hne)]⟩
  have new : ∀ O, ({ w with heap := w.heap.setIfInBounds mb O } : World).heap[mb]? = some O := fun O => by
    show (w.heap.setIfInBounds mb O)[mb]? = _
    rw [Array.getElem?_setIfInBounds_self_of_lt hml]
  have old : ∀ O e, NiE w S e → NiE { w with heap := w.heap.setIfInBounds mb O } (fun c => S c ∨ c = b) e := fun O e ⟨x, k1, k2, ⟨b', o', k3, k4⟩, k5⟩ =>
    ⟨x, k1, k2.turn9 (turn O) hpl, ⟨b', o', k3, .inl k4⟩, k5⟩
  have mine : ∀ O cl, NiE { w with heap := w.heap.setIfInBounds mb O } (fun c => S c ∨ c = b) ⟨nV (some (b, o), n), .int .i64 v, cl⟩ := fun O cl =>
    ⟨(some (b, o), n), rfl, Plain.turn (turn O) (hpl b hx) hx, ⟨b, o, rfl, .inr rfl⟩, v, rfl⟩
  have h0 := findKey_ni (x := (some (b, o), n)) hx es.toList he
  show ∃ w', (Instr.mapUpdate 162 (.map (some mb)) (nV (some (b, o), n)) (.int .i64 v)).run Try.prog w = .ok () w' ∧ _
  cases hr : nmFind (nV (some (b, o), n)) es.toList 0 with
  | none =>
    rw [hr] at h0
    refine ⟨{ w with heap := w.heap.setIfInBounds mb (.map (es.push ⟨nV (some (b, o), n), .int .i64 v, clk⟩) (clk + 1)) }, by simp [Instr.mapUpdate, run_underlying undNi, MapKept.run_getObj_map hm, hc, h0, MapKept.run_setObj_map _ hm], turn _, _, _, new _, ?_⟩
    intro z hz
    simp only [Array.toList_push, List.mem_append, List.mem_singleton] at hz
    rcases hz with hz | rfl
    · exact old _ z (he z hz)
    · exact mine _ _
  | some r =>
    obtain ⟨j, u⟩ := r
    rw [hr] at h0
    obtain ⟨_, e, hj, hk⟩ := nmFind_from9 hr
    have hj' : es[j]? = some e := by simpa using hj
    refine ⟨{ w with heap := w.heap.setIfInBounds mb (.map (es.modify j fun e' => { e' with key := nV (some (b, o), n), val := .int .i64 v }) clk) }, by simp [Instr.mapUpdate, run_underlying undNi, MapKept.run_getObj_map hm, hc, h0, hj', hk, stays_ni, MapKept.run_setObj_map _ hm], turn _, _, _, new _, ?_⟩
    intro z hz
    rcases MapFrom.mem_modify hz with hz | ⟨e', _, rfl⟩
    · exact old _ z (he z hz)
    · exact mine _ _
theorem NiMap.mono {w : World} {mb : Nat} {S S' : Nat → Prop} (h : NiMap w mb S) (hs : ∀ b, S b → S' b) : NiMap w mb S' := by
  obtain ⟨es, clk, hm, he⟩ := h
  exact ⟨es, clk, hm, fun e hx => by obtain ⟨x, k1, k2, ⟨b, o, k3, k4⟩, k5⟩ := he e hx; exact ⟨x, k1, k2, ⟨b, o, k3, hs _ k4⟩, k5⟩⟩
theorem plainP_keep9 {w w' : World} : ∀ {p : Option (Nat × Nat)}, PlainP w p → (∀ b o, p = some (b, o) → w'.heap[b]? = w.heap[b]?) → PlainP w' p
  | none, _, _ => trivial
  | some (b, o), ⟨⟨c, t, f, h1⟩, h2⟩, hk => ⟨⟨c, t, f, by rw [hk b o rfl]; exact h1⟩, fun y => by rw [World.frozen?_of_block (w := w) (hk b o rfl)]; exact h2 y⟩
/-- Another world that keeps the map and all blocks that are named. -/
theorem NiMap.keep {w w' : World} {mb : Nat} {S : Nat → Prop} (h : NiMap w mb S) (hm : w'.heap[mb]? = w.heap[mb]?) (hk : ∀ b, S b → w'.heap[b]? = w.heap[b]?) : NiMap w' mb S := by
  obtain ⟨es, clk, hm', he⟩ := h
  exact ⟨es, clk, hm.trans hm', fun e hx => by
    obtain ⟨x, k1, k2, ⟨b, o, k3, k4⟩, k5⟩ := he e hx
    exact ⟨x, k1, plainP_keep9 k2 (fun b' o' e' => hk b' (by rw [k3] at e'; cases e'; exact k4)), ⟨b, o, k3, k4⟩, k5⟩⟩
end Go.Proofs.Ytabgfaafpgholaa
