/-
  Lookup and update of a map whose keys are names of lists.
  (Ahead of it, in this text: Maps whose keys are names of lists: a pointer and a number.)
-/
import Derived.Test.YtabgfaafpgholaaProg
import Derived.Laws.World
import Derived.LaidEql
import Derived.Below
import Derived.ChangeKeysEq
import Derived.Test.YtabgfaafpgholaaW4
import Derived.MapKept
import Derived.Maps.OwnSet
namespace Go.Proofs.Ytabgfaafpgholaa
open Go.RowKit
set_option linter.unusedVariables false

theorem blk_of_cell {w : World} {b o : Nat} {v : Value} (h : w.cell? ⟨b, o, none⟩ = some v) : ∃ c t f, w.heap[b]? = some (.cells c t f) := by
  unfold World.cell? at h
  cases hq : w.heap[b]? with
  | none => simp [hq] at h
  | some x => cases x <;> simp [hq] at h ⊢
/-- A block of cells none of which is frozen. -/
def Plain (w : World) (b : Nat) : Prop := (∃ c t f, w.heap[b]? = some (.cells c t f)) ∧ ∀ o, w.frozen? ⟨b, o, none⟩ = false
theorem sameAddr_any {P : Program} {w : World} {b o b' o' : Nat} (hb : Plain w b) (hb' : Plain w b') : (sameAddr ⟨b, o, none⟩ ⟨b', o', none⟩).run P w = .ok (decide (b = b' ∧ o = o')) w := by
  obtain ⟨⟨c, t, f, h⟩, hf⟩ := hb
  obtain ⟨⟨c', t', f', h'⟩, hf'⟩ := hb'
  by_cases e : b = b'
  · subst e
    by_cases e2 : o = o'
    · subst e2; simp [sameAddr]
    · simp [sameAddr, e2]
  · simp [sameAddr, e, hf, hf', noView, viewAt, World.shape?, mayBeOne, stringish, h, h']


theorem fldName : (match Try.prog.underlying 128 with | some (.struct fs) => fs.toList.map (fun f => (f.name, f.type, f.offset)) | _ => []) = [("first", 126, 0), ("n", 3, 1)] := by kernel_rfl
theorem undName : ∃ f1 f2 : Field, Try.prog.underlying 128 = some (.struct #[f1, f2]) ∧ f1.name = "first" ∧ f1.type = 126 ∧ f1.offset = 0 ∧ f2.name = "n" ∧ f2.type = 3 ∧ f2.offset = 1 := by
  have h := fldName
  generalize Try.prog.underlying 128 = u at h
  rcases u with _ | u
  · simp at h
  · cases u <;> simp at h
    rename_i fs
    obtain ⟨l⟩ := fs
    rcases l with _ | ⟨f1, _ | ⟨f2, _ | ⟨f3, r⟩⟩⟩ <;> simp at h
    exact ⟨f1, f2, rfl, h.1.1, h.1.2.1, h.1.2.2, h.2.1, h.2.2.1, h.2.2.2⟩
theorem ptrTerm : Try.prog.underlying 126 = some (.pointer 39) := by kernel_rfl

theorem eq_ptr {w : World} {b o b' o' : Nat} (hb : Plain w b) (hb' : Plain w b') (d : Nat) : (Op.equalIn (d + 1) 126 (.pointer (some ⟨b, o, none⟩)) (.pointer (some ⟨b', o', none⟩))).run Try.prog w = .ok (decide (b = b' ∧ o = o')) w := by
  simp [Op.equalIn, run_underlying ptrTerm, sameAddr_any hb hb']
theorem eq_int9 {w : World} {n n' : Int} (d : Nat) : (Op.equalIn (d + 1) 3 (.int .i64 n) (.int .i64 n')).run Try.prog w = .ok (n == n') w := by
  simp [Op.equalIn, run_underlying Try.underlying3]

abbrev nmV (b o : Nat) (n : Int) : Value := .agg #[.pointer (some ⟨b, o, none⟩), .int .i64 n]
theorem eq_nameIn {w : World} {b o b' o' : Nat} {n n' : Int} (hb : Plain w b) (hb' : Plain w b') (d : Nat) :
    (Op.equalIn (d + 2) 128 (nmV b o n) (nmV b' o' n')).run Try.prog w = .ok (decide (b = b' ∧ o = o') && (n == n')) w := by
  obtain ⟨f1, f2, hu, e1, e2, e3, e4, e5, e6⟩ := undName
  have p1 : ∀ (x y : Value), (part 126 #[x, y] 0).run Try.prog w = .ok x w := fun x y => by simp [part]
  have p2 : ∀ (x y : Value), (part 3 #[x, y] 1).run Try.prog w = .ok y w := fun x y => by simp [part]
  have q1 := eq_ptr hb hb' (o := o) (o' := o') d
  have q2 := eq_int9 (w := w) (n := n) (n' := n') d
  rw [show d + 2 = (d + 1) + 1 from rfl, Op.equalIn]
  simp only [Sem.run_bind, run_underlying hu, Result.andThen_ok]
  by_cases e : b = b' ∧ o = o'
  · rw [decide_eq_true e] at q1 ⊢
    by_cases en : n = n'
    · subst en
      simp [e1, e2, e3, e4, e5, e6, p1, p2, q1, q2]
    · have en2 : (n == n') = false := by simp [en]
      rw [en2] at q2
      simp [e1, e2, e3, e4, e5, e6, p1, p2, q1, q2, en]
  · rw [decide_eq_false e] at q1 ⊢
    simp [e1, e2, e3, e4, e5, e6, p1, q1]
theorem eq_name {w : World} {b o b' o' : Nat} {n n' : Int} (hb : Plain w b) (hb' : Plain w b') :
    (Op.equal 128 (nmV b o n) (nmV b' o' n')).run Try.prog w = .ok (decide (b = b' ∧ o = o') && (n == n')) w := eq_nameIn hb hb' 9998

/-- An entry of such a map; S tells which lists may be named. -/
def NmE (w : World) (S : Nat → Nat → Prop) (e : MapEntry) : Prop := ∃ b o n, e.key = nmV b o n ∧ Plain w b ∧ S b o ∧ ∃ a l c, e.val = .slice a l c
theorem find_name {w : World} {S : Nat → Nat → Prop} {b o : Nat} {n : Int} (hb : Plain w b) : ∀ (es : List MapEntry) (i : Nat), (∀ e ∈ es, NmE w S e) →
    ((Instr.findAsking 128 (nmV b o n) es i).run Try.prog w = .ok none w) ∨ ∃ j e, (Instr.findAsking 128 (nmV b o n) es i).run Try.prog w = .ok (some (i + j, e.val)) w ∧ es[j]? = some e ∧ e.key = nmV b o n ∧ S b o
  | [], i, _ => .inl (by simp [Instr.findAsking])
  | e :: es, i, h => by
    obtain ⟨b', o', n', hk, hp, hs, a, l, c, hv⟩ := h e (by simp)
    have q := eq_name (o := o) (o' := o') (n := n) (n' := n') hb hp
    rw [← hk] at q
    by_cases hq : (b = b' ∧ o = o') ∧ n = n'
    · right
      obtain ⟨⟨rfl, rfl⟩, rfl⟩ := hq
      refine ⟨0, e, ?_, rfl, hk, hs⟩
      rw [Instr.findAsking, Sem.run_bind, q]
      simp
    · have hf : (decide (b = b' ∧ o = o') && (n == n')) = false := by
        by_cases h1 : b = b' ∧ o = o'
        · have : n ≠ n' := fun x => hq ⟨h1, x⟩
          simp [this]
        · rw [decide_eq_false h1]; rfl
      rw [hf] at q
      rcases find_name (n := n) (o := o) (S := S) hb es (i + 1) (fun x hx => h x (by simp [hx])) with h1 | ⟨j, e', h1, h2, h3, h4⟩
      · left
        rw [Instr.findAsking, Sem.run_bind, q]
        simpa using h1
      · right
        refine ⟨j + 1, e', ?_, by simpa using h2, h3, h4⟩
        rw [Instr.findAsking, Sem.run_bind, q]
        have : i + (j + 1) = i + 1 + j := by omega
        rw [this]
        simpa using h1
theorem findKey_name {w : World} {S : Nat → Nat → Prop} {b o : Nat} {n : Int} (hb : Plain w b) (es : List MapEntry) (h : ∀ e ∈ es, NmE w S e) :
    ((Instr.findKey 128 (nmV b o n) es).run Try.prog w = .ok none w) ∨ ∃ j e, (Instr.findKey 128 (nmV b o n) es).run Try.prog w = .ok (some (j, e.val)) w ∧ es[j]? = some e ∧ e.key = nmV b o n ∧ S b o := by
  obtain ⟨f1, f2, hu, _⟩ := undName
  have key : (Instr.findKey 128 (nmV b o n) es).run Try.prog w = (Instr.findAsking 128 (nmV b o n) es 0).run Try.prog w := by
    unfold Instr.findKey
    rw [Sem.run_bind, run_underlying hu, Result.andThen_ok]
    cases es with
    | nil => simp [Instr.findNow, Instr.findAsking]
    | cons e r => simp [Instr.findNow, Instr.sameNow]
  rw [key]
  rcases find_name (n := n) (o := o) (S := S) hb es 0 h with h1 | ⟨j, e, h1, h2, h3, h4⟩
  · exact .inl h1
  · exact .inr ⟨j, e, by simpa using h1, h2, h3, h4⟩
theorem checkKey_name {w : World} {b o : Nat} {n : Int} (em : Bool) (d : Nat) : (Instr.checkKey em (d + 2) 128 (nmV b o n)).run Try.prog w = .ok () w := by
  obtain ⟨f1, f2, hu, e1, e2, e3, e4, e5, e6⟩ := undName
  have p1 : ∀ (x y : Value), (part 126 #[x, y] 0).run Try.prog w = .ok x w := fun x y => by simp [part]
  have p2 : ∀ (x y : Value), (part 3 #[x, y] 1).run Try.prog w = .ok y w := fun x y => by simp [part]
  have c1 : ∀ v, (Instr.checkKey em (d + 1) 126 v).run Try.prog w = .ok () w := fun v => by simp [Instr.checkKey, run_underlying ptrTerm]
  have c2 : ∀ v, (Instr.checkKey em (d + 1) 3 v).run Try.prog w = .ok () w := fun v => by simp [Instr.checkKey, run_underlying Try.underlying3]
  rw [show d + 2 = (d + 1) + 1 from rfl, Instr.checkKey]
  simp only [Sem.run_bind, run_underlying hu, Result.andThen_ok]
  simp [e1, e2, e3, e4, e5, e6, p1, p2, c1, c2]
end Go.Proofs.Ytabgfaafpgholaa
namespace Go.Proofs.Ytabgfaafpgholaa
open Go.RowKit
set_option linter.unusedVariables false

/-- The block mb is such a map. -/
def NmMap (w : World) (mb : Nat) (S : Nat → Nat → Prop) : Prop := ∃ es clk, w.heap[mb]? = some (.map es clk) ∧ ∀ e ∈ es.toList, NmE w S e
theorem Plain.turn {w w' : World} {mb b : Nat} (ht : Turn mb w w') (hne : b ≠ mb) (h : Plain w b) : Plain w' b := by
  obtain ⟨⟨c, t, f, hb⟩, hf⟩ := h
  have hl : b < w.heap.size := by
    rcases Nat.lt_or_ge b w.heap.size with h | h
    · exact h
    · rw [Array.getElem?_eq_none h] at hb; cases hb
  have e := ht.block b hl hne
  exact ⟨⟨c, t, f, e.trans hb⟩, fun o => by rw [World.frozen?_of_block (w := w) e]; exact hf o⟩
open Classical in
/-- The first entry of this key. -/
noncomputable def nmFind (k : Value) : List MapEntry → Nat → Option (Nat × Value)
  | [], _ => none
  | e :: es, i => if e.key = k then some (i, e.val) else nmFind k es (i + 1)
theorem find_pure {w : World} {S : Nat → Nat → Prop} {b o : Nat} {n : Int} (hb : Plain w b) : ∀ (es : List MapEntry) (i : Nat), (∀ e ∈ es, NmE w S e) →
    (Instr.findAsking 128 (nmV b o n) es i).run Try.prog w = .ok (nmFind (nmV b o n) es i) w
  | [], i, _ => by simp [Instr.findAsking, nmFind]
  | e :: es, i, h => by
    obtain ⟨b', o', n', hk, hp, hs, a, l, c, hv⟩ := h e (by simp)
    have q := eq_name (o := o) (o' := o') (n := n) (n' := n') hb hp
    rw [← hk] at q
    rw [nmFind]
    by_cases hq : e.key = nmV b o n
    · have hq' := hq
      rw [hk] at hq'
      simp only [nmV, Value.agg.injEq, Array.mk.injEq, List.cons.injEq, and_true, Value.pointer.injEq, Option.some.injEq, Addr.mk.injEq, Value.int.injEq, true_and] at hq'
      obtain ⟨⟨rfl, rfl⟩, rfl⟩ := hq'
      rw [if_pos hq, Instr.findAsking, Sem.run_bind, q]
      simp
    · have hf : (decide (b = b' ∧ o = o') && (n == n')) = false := by
        by_cases h1 : b = b' ∧ o = o'
        · have : n ≠ n' := fun x => hq (by rw [hk, h1.1, h1.2, x])
          simp [this]
        · rw [decide_eq_false h1]; rfl
      rw [hf] at q
      rw [if_neg hq, Instr.findAsking, Sem.run_bind, q]
      simpa using find_pure hb es (i + 1) (fun x hx => h x (by simp [hx]))
theorem findKey_pure {w : World} {S : Nat → Nat → Prop} {b o : Nat} {n : Int} (hb : Plain w b) (es : List MapEntry) (h : ∀ e ∈ es, NmE w S e) :
    (Instr.findKey 128 (nmV b o n) es).run Try.prog w = .ok (nmFind (nmV b o n) es 0) w := by
  obtain ⟨f1, f2, hu, _⟩ := undName
  have key : (Instr.findKey 128 (nmV b o n) es).run Try.prog w = (Instr.findAsking 128 (nmV b o n) es 0).run Try.prog w := by
    unfold Instr.findKey
    rw [Sem.run_bind, run_underlying hu, Result.andThen_ok]
    cases es with
    | nil => simp [Instr.findNow, Instr.findAsking]
    | cons e r => simp [Instr.findNow, Instr.sameNow]
  rw [key]
  exact find_pure hb es 0 h
theorem nmFind_hit {k : Value} : ∀ {es : List MapEntry} {i j : Nat} {v : Value}, nmFind k es i = some (j, v) → ∃ e ∈ es, e.key = k ∧ e.val = v
  | [], i, j, v, h => by simp [nmFind] at h
  | e :: es, i, j, v, h => by
    rw [nmFind] at h
    split at h
    · rename_i hk
      simp only [Option.some.injEq, Prod.mk.injEq] at h
      exact ⟨e, by simp, hk, h.2⟩
    · obtain ⟨e', h1, h2⟩ := nmFind_hit h
      exact ⟨e', by simp [h1], h2⟩
theorem stays_name {w : World} {b o : Nat} {n : Int} : (Instr.keyThatStays (nmV b o n) (nmV b o n)).run Try.prog w = .ok (nmV b o n) w := by
  have : Instr.sameBits 10000 (nmV b o n) (nmV b o n) = true := by
    show Instr.sameBits (9998 + 1 + 1) _ _ = true
    simp [Instr.sameBits]
  simp [Instr.keyThatStays, this]
theorem NmMap.mono {w : World} {mb : Nat} {S S' : Nat → Nat → Prop} (h : NmMap w mb S) (hs : ∀ b o, S b o → S' b o) : NmMap w mb S' := by
  obtain ⟨es, clk, hm, he⟩ := h
  exact ⟨es, clk, hm, fun e hx => by obtain ⟨b', o', n', k1, k2, k3, k4⟩ := he e hx; exact ⟨b', o', n', k1, k2, hs _ _ k3, k4⟩⟩
/-- Another world that keeps the map and all blocks of cells that are named. -/
theorem NmMap.keep {w w' : World} {mb : Nat} {S : Nat → Nat → Prop} (h : NmMap w mb S) (hm : w'.heap[mb]? = w.heap[mb]?) (hk : ∀ b o, S b o → Plain w b → Plain w' b) : NmMap w' mb S := by
  obtain ⟨es, clk, hm', he⟩ := h
  exact ⟨es, clk, hm.trans hm', fun e hx => by obtain ⟨b', o', n', k1, k2, k3, k4⟩ := he e hx; exact ⟨b', o', n', k1, hk _ _ k3 k2, k3, k4⟩⟩
end Go.Proofs.Ytabgfaafpgholaa
