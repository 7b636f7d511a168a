/-
  Lookup and update of a map whose keys are names of lists.
-/
import Derived.Test.YtabgfaafpgholaaMpA
import Derived.Test.YtabgfaafpgholaaCurA
import Derived.MapKept
import Derived.Maps.OwnSet
namespace Go.Proofs.Ytabgfaafpgholaa
open Go.RowKit
set_option linter.unusedVariables false

/-- The block mb is such a map. -/
def NmMap (w : World) (mb : Nat) (S : Nat → Nat → Prop) : Prop := ∃ es clk, w.heap[mb]? = some (.map es clk) ∧ ∀ e ∈ es.toList, NmE w S e
theorem Plain.turn {w w' : World} {mb b : Nat} (ht : Turn mb w w') (hne : b ≠ mb) (h : Plain w b) : Plain w' b := by
  obtain ⟨⟨c, t, f, hb⟩, hf⟩ := h
  have hl : b < w.heap.size := by
    rcases Nat.lt_or_ge b w.heap.size with h | h
    · exact h
    · rw [Array.getElem?_eq_none h] at hb; cases hb
  have e := ht.block b hl hne
  exact ⟨⟨c, t, f, e.trans hb⟩, fun o => by rw [World.frozen?_of_block (w := w) e]; exact hf o⟩
open Classical in
/-- The first entry of this key. -/
noncomputable def nmFind (k : Value) : List MapEntry → Nat → Option (Nat × Value)
  | [], _ => none
  | e :: es, i => if e.key = k then some (i, e.val) else nmFind k es (i + 1)
theorem find_pure {w : World} {S : Nat → Nat → Prop} {b o : Nat} {n : Int} (hb : Plain w b) : ∀ (es : List MapEntry) (i : Nat), (∀ e ∈ es, NmE w S e) →
    (Instr.findAsking 128 (nmV b o n) es i).run Try.prog w = .ok (nmFind (nmV b o n) es i) w
  | [], i, _ => by simp [Instr.findAsking, nmFind]
  | e :: es, i, h => by
    obtain ⟨b', o', n', hk, hp, hs, a, l, c, hv⟩ := h e (by simp)
    have q := eq_name (o := o) (o' := o') (n := n) (n' := n') hb hp
    rw [← hk] at q
    rw [nmFind]
    by_cases hq : e.key = nmV b o n
    · have hq' := hq
      rw [hk] at hq'
      simp only [nmV, Value.agg.injEq, Array.mk.injEq, List.cons.injEq, and_true, Value.pointer.injEq, Option.some.injEq, Addr.mk.injEq, Value.int.injEq, true_and] at hq'
      obtain ⟨⟨rfl, rfl⟩, rfl⟩ := hq'
      rw [if_pos hq, Instr.findAsking, Sem.run_bind, q]
      simp
    · have hf : (decide (b = b' ∧ o = o') && (n == n')) = false := by
        by_cases h1 : b = b' ∧ o = o'
        · have : n ≠ n' := fun x => hq (by rw [hk, h1.1, h1.2, x])
          simp [this]
        · rw [decide_eq_false h1]; rfl
      rw [hf] at q
      rw [if_neg hq, Instr.findAsking, Sem.run_bind, q]
      simpa using find_pure hb es (i + 1) (fun x hx => h x (by simp [hx]))
theorem findKey_pure {w : World} {S : Nat → Nat → Prop} {b o : Nat} {n : Int} (hb : Plain w b) (es : List MapEntry) (h : ∀ e ∈ es, NmE w S e) :
    (Instr.findKey 128 (nmV b o n) es).run Try.prog w = .ok (nmFind (nmV b o n) es 0) w := by
  obtain ⟨f1, f2, hu, _⟩ := undName
  have key : (Instr.findKey 128 (nmV b o n) es).run Try.prog w = (Instr.findAsking 128 (nmV b o n) es 0).run Try.prog w := by
    unfold Instr.findKey
    rw [Sem.run_bind, run_underlying hu, Result.andThen_ok]
    cases es with
    | nil => simp [Instr.findNow, Instr.findAsking]
    | cons e r => simp [Instr.findNow, Instr.sameNow]
  rw [key]
  exact find_pure hb es 0 h
theorem nmFind_hit {k : Value} : ∀ {es : List MapEntry} {i j : Nat} {v : Value}, nmFind k es i = some (j, v) → ∃ e ∈ es, e.key = k ∧ e.val = v
  | [], i, j, v, h => by simp [nmFind] at h
  | e :: es, i, j, v, h => by
    rw [nmFind] at h
    split at h
    · rename_i hk
      simp only [Option.some.injEq, Prod.mk.injEq] at h
      exact ⟨e, by simp, hk, h.2⟩
    · obtain ⟨e', h1, h2⟩ := nmFind_hit h
      exact ⟨e', by simp [h1], h2⟩
theorem stays_name {w : World} {b o : Nat} {n : Int} : (Instr.keyThatStays (nmV b o n) (nmV b o n)).run Try.prog w = .ok (nmV b o n) w := by
  have : Instr.sameBits 10000 (nmV b o n) (nmV b o n) = true := by
    show Instr.sameBits (9998 + 1 + 1) _ _ = true
    simp [Instr.sameBits]
  simp [Instr.keyThatStays, this]
theorem NmMap.mono {w : World} {mb : Nat} {S S' : Nat → Nat → Prop} (h : NmMap w mb S) (hs : ∀ b o, S b o → S' b o) : NmMap w mb S' := by
  obtain ⟨es, clk, hm, he⟩ := h
  exact ⟨es, clk, hm, fun e hx => by obtain ⟨b', o', n', k1, k2, k3, k4⟩ := he e hx; exact ⟨b', o', n', k1, k2, hs _ _ k3, k4⟩⟩
/-- Another world that keeps the map and all blocks of cells that are named. -/
theorem NmMap.keep {w w' : World} {mb : Nat} {S : Nat → Nat → Prop} (h : NmMap w mb S) (hm : w'.heap[mb]? = w.heap[mb]?) (hk : ∀ b o, S b o → Plain w b → Plain w' b) : NmMap w' mb S := by
  obtain ⟨es, clk, hm', he⟩ := h
  exact ⟨es, clk, hm.trans hm', fun e hx => by obtain ⟨b', o', n', k1, k2, k3, k4⟩ := he e hx; exact ⟨b', o', n', k1, hk _ _ k3 k2, k3, k4⟩⟩
end Go.Proofs.Ytabgfaafpgholaa
