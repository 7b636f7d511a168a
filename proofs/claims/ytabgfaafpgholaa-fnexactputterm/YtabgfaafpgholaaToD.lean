/-
  Maps whose keys are pairs of names of lists.
-/
import Derived.Test.YtabgfaafpgholaaMpB
namespace Go.Proofs.Ytabgfaafpgholaa
open Go.RowKit
set_option linter.unusedVariables false

/-- A name: where the list begins (nowhere, of an empty one), and how long it is. -/
abbrev Nm := Option (Nat × Nat) × Int
def npV : Option (Nat × Nat) → Value
  | none => .pointer none
  | some (b, o) => .pointer (some ⟨b, o, none⟩)
def PlainP (w : World) : Option (Nat × Nat) → Prop
  | none => True
  | some (b, _) => Plain w b
theorem npV_inj {p q : Option (Nat × Nat)} (h : npV p = npV q) : p = q := by
  rcases p with _ | ⟨b, o⟩ <;> rcases q with _ | ⟨b', o'⟩ <;> simp_all [npV]
theorem eq_np {w : World} {p q : Option (Nat × Nat)} (hp : PlainP w p) (hq : PlainP w q) (d : Nat) : (Op.equalIn (d + 1) 126 (npV p) (npV q)).run Try.prog w = .ok (decide (p = q)) w := by
  rcases p with _ | ⟨b, o⟩ <;> rcases q with _ | ⟨b', o'⟩
  · simp [npV, Op.equalIn, run_underlying ptrTerm]
  · simp [npV, Op.equalIn, run_underlying ptrTerm]
  · simp [npV, Op.equalIn, run_underlying ptrTerm]
  · rw [npV, npV, eq_ptr hp hq d]
    simp
def nV (x : Nm) : Value := .agg #[npV x.1, .int .i64 x.2]
theorem eq_nm {w : World} {x y : Nm} (hx : PlainP w x.1) (hy : PlainP w y.1) (d : Nat) : (Op.equalIn (d + 2) 128 (nV x) (nV y)).run Try.prog w = .ok (decide (x = y)) w := by
  obtain ⟨p, n⟩ := x
  obtain ⟨q, m⟩ := y
  obtain ⟨f1, f2, hu, e1, e2, e3, e4, e5, e6⟩ := undName
  have p1 : ∀ (x y : Value), (part 126 #[x, y] 0).run Try.prog w = .ok x w := fun x y => by simp [part]
  have p2 : ∀ (x y : Value), (part 3 #[x, y] 1).run Try.prog w = .ok y w := fun x y => by simp [part]
  have q1 := eq_np hx hy d
  have q2 := eq_int9 (w := w) (n := n) (n' := m) d
  show (Op.equalIn (d + 1 + 1) 128 (.agg #[npV p, .int .i64 n]) (.agg #[npV q, .int .i64 m])).run Try.prog w = _
  rw [Op.equalIn]
  simp only [Sem.run_bind, run_underlying hu, Result.andThen_ok]
  by_cases e : p = q
  · subst e
    rw [decide_eq_true rfl] at q1
    by_cases en : n = m
    · subst en
      simp [e1, e2, e3, e4, e5, e6, p1, p2, q1, q2]
    · have en2 : (n == m) = false := by simp [en]
      rw [en2] at q2
      simp [e1, e2, e3, e4, e5, e6, p1, p2, q1, q2, en]
  · rw [decide_eq_false e] at q1
    simp [e1, e2, e3, e4, e5, e6, p1, q1, e]

/-- A key: two names. -/
def kV (x y : Nm) : Value := .agg #[npV x.1, .int .i64 x.2, npV y.1, .int .i64 y.2]
theorem kV_inj {x y x' y' : Nm} (h : kV x y = kV x' y') : x = x' ∧ y = y' := by
  simp only [kV, Value.agg.injEq, Array.mk.injEq, List.cons.injEq, and_true, Value.int.injEq, true_and] at h
  exact ⟨Prod.ext (npV_inj h.1) h.2.1, Prod.ext (npV_inj h.2.2.1) h.2.2.2⟩
theorem undPair : Try.prog.underlying 130 = some (.array 2 128) := by kernel_rfl
theorem infoName : ∃ i, Try.prog.info? 128 = some i := by
  have h : (Try.prog.info? 128).isSome = true := by kernel_rfl
  exact Option.isSome_iff_exists.1 h
theorem cellsName : Try.prog.cellsOf 128 = 2 := by kernel_rfl
theorem partName (w : World) (cs : Array Value) (o : Nat) : (part 128 cs o).run Try.prog w = .ok (.agg (cs.extract o (o + 2))) w := by
  have h1 : (isAgg 128).run Try.prog w = .ok true w := by kernel_rfl
  simp [part, h1]
theorem eq_pairIn {w : World} {x y x' y' : Nm} (hx : PlainP w x.1) (hy : PlainP w y.1) (hx' : PlainP w x'.1) (hy' : PlainP w y'.1) (d : Nat) :
    (Op.equalIn (d + 3) 130 (kV x y) (kV x' y')).run Try.prog w = .ok (decide (x = x' ∧ y = y')) w := by
  obtain ⟨i, hi⟩ := infoName
  have q1 := eq_nm hx hx' d
  have q2 := eq_nm hy hy' d
  unfold nV at q1 q2
  show (Op.equalIn ((d + 2) + 1) 130 (.agg _) (.agg _)).run Try.prog w = _
  rw [run_equalIn_array w (d + 2) _ _ undPair hi, cellsName]
  have r : List.range 2 = [0, 1] := rfl
  rw [r]
  by_cases e : x = x'
  · subst e
    rw [decide_eq_true rfl] at q1
    by_cases e2 : y = y'
    · subst e2
      rw [decide_eq_true rfl] at q2
      simp [Op.eqItems, partName, q1, q2]
    · rw [decide_eq_false e2] at q2
      simp [Op.eqItems, partName, q1, q2, e2]
  · rw [decide_eq_false e] at q1
    simp [Op.eqItems, partName, q1, e]
theorem eq_pair {w : World} {x y x' y' : Nm} (hx : PlainP w x.1) (hy : PlainP w y.1) (hx' : PlainP w x'.1) (hy' : PlainP w y'.1) :
    (Op.equal 130 (kV x y) (kV x' y')).run Try.prog w = .ok (decide (x = x' ∧ y = y')) w := eq_pairIn hx hy hx' hy' 9997

/-- An entry of such a map; S tells which pairs may be named. -/
def PrE (w : World) (S : Nm → Nm → Prop) (e : MapEntry) : Prop := ∃ x y, e.key = kV x y ∧ PlainP w x.1 ∧ PlainP w y.1 ∧ S x y ∧ e.val = .agg #[]
/-- The block mb is such a map. -/
def PrMap (w : World) (mb : Nat) (S : Nm → Nm → Prop) : Prop := ∃ es clk, w.heap[mb]? = some (.map es clk) ∧ ∀ e ∈ es.toList, PrE w S e
theorem undPm : Try.prog.underlying 119 = some (.map 130 131) := by kernel_rfl
theorem find_pair {w : World} {S : Nm → Nm → Prop} {x y : Nm} (hx : PlainP w x.1) (hy : PlainP w y.1) : ∀ (es : List MapEntry) (i : Nat), (∀ e ∈ es, PrE w S e) →
    (Instr.findAsking 130 (kV x y) es i).run Try.prog w = .ok (nmFind (kV x y) es i) w
  | [], i, _ => by simp [Instr.findAsking, nmFind]
  | e :: es, i, h => by
    obtain ⟨x', y', hk, h1, h2, hs, hv⟩ := h e (by simp)
    have q := eq_pair hx hy h1 h2
    rw [← hk] at q
    rw [nmFind]
    by_cases hq : e.key = kV x y
    · obtain ⟨rfl, rfl⟩ := kV_inj (hk.symm.trans hq)
      rw [decide_eq_true ⟨rfl, rfl⟩] at q
      rw [if_pos hq, Instr.findAsking, Sem.run_bind, q]
      simp
    · have hf : ¬ (x = x' ∧ y = y') := fun ⟨a, b⟩ => hq (by rw [hk, a, b])
      rw [decide_eq_false hf] at q
      rw [if_neg hq, Instr.findAsking, Sem.run_bind, q]
      simpa using find_pair hx hy es (i + 1) (fun z hz => h z (by simp [hz]))
theorem findKey_pair {w : World} {S : Nm → Nm → Prop} {x y : Nm} (hx : PlainP w x.1) (hy : PlainP w y.1) (es : List MapEntry) (h : ∀ e ∈ es, PrE w S e) :
    (Instr.findKey 130 (kV x y) es).run Try.prog w = .ok (nmFind (kV x y) es 0) w := by
  have key : (Instr.findKey 130 (kV x y) es).run Try.prog w = (Instr.findAsking 130 (kV x y) es 0).run Try.prog w := by
    unfold Instr.findKey
    rw [Sem.run_bind, run_underlying undPair, Result.andThen_ok]
    cases es with
    | nil => simp [Instr.findNow, Instr.findAsking]
    | cons e r => simp [kV, Instr.findNow, Instr.sameNow]
  rw [key]
  exact find_pair hx hy es 0 h
end Go.Proofs.Ytabgfaafpgholaa
