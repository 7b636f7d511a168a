/-
  A copy that is being made: what its lists are when all is done.
  (Ahead of it, in this text: Lookup and update of a map whose keys are names of lists. A copy of a text is that text. Names of lists, copies of texts, shallow copies of lists. What a copy that is being made has in hand; its listOf.)
-/
import Derived.Test.YtjibnlpjpbileaaGreatDoorMpA
import Derived.Test.YtjibnlpjpbileaaGreatDoorCurA
import Derived.MapKept
import Derived.Maps.OwnSet
import Derived.Test.YtjibnlpjpbileaaGreatDoorShelf
import Derived.Outline
import Derived.Test.YtjibnlpjpbileaaGreatDoorOsA
import Derived.Lib.SliceRun
import Derived.Maps.AppendAt
import Derived.Deep.OwnRows
namespace Go.Proofs.YtjibnlpjpbileaaGreatDoor
open Go.RowKit
set_option linter.unusedVariables false

/-- The block mb is such a map. -/
def NmMap (w : World) (mb : Nat) (S : Nat → Nat → Prop) : Prop := ∃ es clk, w.heap[mb]? = some (.map es clk) ∧ ∀ e ∈ es.toList, NmE w S e
theorem undMap : Tryz.prog.underlying 167 = some (.map 184 36) := by kernel_rfl
theorem Plain.turn {w w' : World} {mb b : Nat} (ht : Turn mb w w') (hne : b ≠ mb) (h : Plain w b) : Plain w' b := by
  obtain ⟨⟨c, t, f, hb⟩, hf⟩ := h
  have hl : b < w.heap.size := by
    rcases Nat.lt_or_ge b w.heap.size with h | h
    · exact h
    · rw [Array.getElem?_eq_none h] at hb; cases hb
  have e := ht.block b hl hne
  exact ⟨⟨c, t, f, e.trans hb⟩, fun o => by rw [World.frozen?_of_block (w := w) e]; exact hf o⟩
theorem lookup_name {w : World} {mb : Nat} {S : Nat → Nat → Prop} (h : NmMap w mb S) {b o : Nat} {n : Int} (hb : Plain w b) :
    ∃ a l c q, (Instr.lookup 167 (.map (some mb)) (nmV b o n) true).run Tryz.prog w = .ok (.tuple #[.slice a l c, .bool q]) w ∧ (q = true → S b o) := by
  obtain ⟨es, clk, hm, he⟩ := h
  have hc : (Instr.checkKey es.isEmpty 10000 184 (nmV b o n)).run Tryz.prog w = .ok () w := checkKey_name es.isEmpty 9998
  rcases findKey_name (n := n) (o := o) hb es.toList he with h1 | ⟨j, e, h1, h2, h3, h4⟩
  · refine ⟨none, 0, 0, false, ?_, fun h => by cases h⟩
    simp [Instr.lookup, run_underlying undMap, MapKept.run_getObj_map hm, hc, h1]
  · obtain ⟨_, _, _, _, _, _, a, l, c, hv⟩ := he e (List.mem_of_getElem? h2)
    refine ⟨a, l, c, true, ?_, fun _ => h4⟩
    rw [hv] at h1
    simp [Instr.lookup, run_underlying undMap, MapKept.run_getObj_map hm, hc, h1]
open Classical in
/-- The first entry of this key. -/
noncomputable def nmFind (k : Value) : List MapEntry → Nat → Option (Nat × Value)
  | [], _ => none
  | e :: es, i => if e.key = k then some (i, e.val) else nmFind k es (i + 1)
theorem find_pure {w : World} {S : Nat → Nat → Prop} {b o : Nat} {n : Int} (hb : Plain w b) : ∀ (es : List MapEntry) (i : Nat), (∀ e ∈ es, NmE w S e) →
    (Instr.findAsking 184 (nmV b o n) es i).run Tryz.prog w = .ok (nmFind (nmV b o n) es i) w
  | [], i, _ => by simp [Instr.findAsking, nmFind]
  | e :: es, i, h => by
    obtain ⟨b', o', n', hk, hp, hs, a, l, c, hv⟩ := h e (by simp)
    have q := eq_name (o := o) (o' := o') (n := n) (n' := n') hb hp
    rw [← hk] at q
    rw [nmFind]
    by_cases hq : e.key = nmV b o n
    · have hq' := hq
      rw [hk] at hq'
      simp only [nmV, Value.agg.injEq, Array.mk.injEq, List.cons.injEq, and_true, Value.pointer.injEq, Option.some.injEq, Addr.mk.injEq, Value.int.injEq, true_and] at hq'
      obtain ⟨⟨rfl, rfl⟩, rfl⟩ := hq'
      rw [if_pos hq, Instr.findAsking, Sem.run_bind, q]
      simp
    · have hf : (decide (b = b' ∧ o = o') && (n == n')) = false := by
        by_cases h1 : b = b' ∧ o = o'
        · have : n ≠ n' := fun x => hq (by rw [hk, h1.1, h1.2, x])
          simp [this]
        · rw [decide_eq_false h1]; rfl
      rw [hf] at q
      rw [if_neg hq, Instr.findAsking, Sem.run_bind, q]
      simpa using find_pure hb es (i + 1) (fun x hx => h x (by simp [hx]))
theorem findKey_pure {w : World} {S : Nat → Nat → Prop} {b o : Nat} {n : Int} (hb : Plain w b) (es : List MapEntry) (h : ∀ e ∈ es, NmE w S e) :
    (Instr.findKey 184 (nmV b o n) es).run Tryz.prog w = .ok (nmFind (nmV b o n) es 0) w := by
  obtain ⟨f1, f2, hu, _⟩ := undName
  have key : (Instr.findKey 184 (nmV b o n) es).run Tryz.prog w = (Instr.findAsking 184 (nmV b o n) es 0).run Tryz.prog w := by
    unfold Instr.findKey
    rw [Sem.run_bind, run_underlying hu, Result.andThen_ok]
    cases es with
    | nil => simp [Instr.findNow, Instr.findAsking]
    | cons e r => simp [Instr.findNow, Instr.sameNow]
  rw [key]
  exact find_pure hb es 0 h
theorem nmFind_hit {k : Value} : ∀ {es : List MapEntry} {i j : Nat} {v : Value}, nmFind k es i = some (j, v) → ∃ e ∈ es, e.key = k ∧ e.val = v
  | [], i, j, v, h => by simp [nmFind] at h
  | e :: es, i, j, v, h => by
    rw [nmFind] at h
    split at h
    · rename_i hk
      simp only [Option.some.injEq, Prod.mk.injEq] at h
      exact ⟨e, by simp, hk, h.2⟩
    · obtain ⟨e', h1, h2⟩ := nmFind_hit h
      exact ⟨e', by simp [h1], h2⟩
/-- Lookup, in every world that has this heap. -/
theorem lookup_all {w : World} {mb : Nat} {S : Nat → Nat → Prop} (h : NmMap w mb S) {b o : Nat} {n : Int} (hb : Plain w b) :
    ∃ a l c q, (∀ w' : World, w'.heap = w.heap → (Instr.lookup 167 (.map (some mb)) (nmV b o n) true).run Tryz.prog w' = .ok (.tuple #[.slice a l c, .bool q]) w') ∧ (q = true → S b o) := by
  obtain ⟨es, clk, hm, he⟩ := h
  have hc : ∀ w' : World, (Instr.checkKey es.isEmpty 10000 184 (nmV b o n)).run Tryz.prog w' = .ok () w' := fun w' => checkKey_name es.isEmpty 9998
  have pl : ∀ w' : World, w'.heap = w.heap → ∀ x, Plain w x → Plain w' x := fun w' e x ⟨⟨c, t, f, h1⟩, h2⟩ => ⟨⟨c, t, f, by rw [e]; exact h1⟩, fun y => by
    rw [World.frozen?_of_block (w := w) (by rw [e])]; exact h2 y⟩
  have hf : ∀ w' : World, w'.heap = w.heap → (Instr.findKey 184 (nmV b o n) es.toList).run Tryz.prog w' = .ok (nmFind (nmV b o n) es.toList 0) w' := fun w' e =>
    findKey_pure (pl w' e b hb) es.toList (fun x hx => by obtain ⟨b', o', n', k1, k2, k3, k4⟩ := he x hx; exact ⟨b', o', n', k1, pl w' e _ k2, k3, k4⟩)
  cases hr : nmFind (nmV b o n) es.toList 0 with
  | none =>
    refine ⟨none, 0, 0, false, fun w' e => ?_, fun h => by cases h⟩
    have h1 := hf w' e
    rw [hr] at h1
    have hm' : w'.heap[mb]? = some (.map es clk) := by rw [e]; exact hm
    simp [Instr.lookup, run_underlying undMap, MapKept.run_getObj_map hm', hc, h1]
  | some x =>
    obtain ⟨j, v⟩ := x
    obtain ⟨e0, m1, m2, m3⟩ := nmFind_hit hr
    obtain ⟨b', o', n', k1, k2, k3, a, l, c, k4⟩ := he e0 m1
    rw [m2] at k1
    simp only [nmV, Value.agg.injEq, Array.mk.injEq, List.cons.injEq, and_true, Value.pointer.injEq, Option.some.injEq, Addr.mk.injEq, Value.int.injEq, true_and] at k1
    obtain ⟨⟨rfl, rfl⟩, rfl⟩ := k1
    refine ⟨a, l, c, true, fun w' e => ?_, fun _ => k3⟩
    have h1 := hf w' e
    rw [hr] at h1
    rw [← m3, k4] at h1
    have hm' : w'.heap[mb]? = some (.map es clk) := by rw [e]; exact hm
    simp [Instr.lookup, run_underlying undMap, MapKept.run_getObj_map hm', hc, h1]
theorem stays_name {w : World} {b o : Nat} {n : Int} : (Instr.keyThatStays (nmV b o n) (nmV b o n)).run Tryz.prog w = .ok (nmV b o n) w := by
  have : Instr.sameBits 10000 (nmV b o n) (nmV b o n) = true := by
    show Instr.sameBits (9998 + 1 + 1) _ _ = true
    simp [Instr.sameBits]
  simp [Instr.keyThatStays, this]
theorem update_name {w : World} {mb : Nat} {S : Nat → Nat → Prop} (h : NmMap w mb S) {b o : Nat} {n : Int} (hb : Plain w b) (a : Option Addr) (l c : Nat) :
    ∃ w', (Instr.mapUpdate 167 (.map (some mb)) (nmV b o n) (.slice a l c)).run Tryz.prog w = .ok () w' ∧ Turn mb w w' ∧ NmMap w' mb (fun x y => S x y ∨ (x = b ∧ y = o)) := by
  obtain ⟨es, clk, hm, he⟩ := h
  have hc : (Instr.checkKey false 10000 184 (nmV b o n)).run Tryz.prog w = .ok () w := checkKey_name false 9998
  have hml : mb < w.heap.size := by
    rcases Nat.lt_or_ge mb w.heap.size with h | h
    · exact h
    · rw [Array.getElem?_eq_none h] at hm; cases hm
  have hpl : ∀ x, Plain w x → x ≠ mb := fun x hx e => by
    subst e
    obtain ⟨⟨c, t, f, h⟩, _⟩ := hx
    rw [hm] at h; cases h
  have turn : ∀ O, Turn mb w { w with heap := w.heap.setIfInBounds mb O } := fun O => ⟨rfl, rfl, rfl, by simp, fun k hk hne => by
    show (w.heap.setIfInBounds mb O)[k]? = _
    rw [Array.getElem?_setIfInBounds_ne (Ne.symm hne)]⟩
  have new : ∀ O, ({ w with heap := w.heap.setIfInBounds mb O } : World).heap[mb]? = some O := fun O => by
    show (w.heap.setIfInBounds mb O)[mb]? = _
    rw [Array.getElem?_setIfInBounds_self_of_lt hml]
  have old : ∀ O x, NmE w S x → NmE { w with heap := w.heap.setIfInBounds mb O } (fun x y => S x y ∨ (x = b ∧ y = o)) x := fun O x ⟨b', o', n', k1, k2, k3, k4⟩ =>
    ⟨b', o', n', k1, k2.turn (turn O) (hpl b' k2), .inl k3, k4⟩
  have mine : ∀ O cl, NmE { w with heap := w.heap.setIfInBounds mb O } (fun x y => S x y ∨ (x = b ∧ y = o)) ⟨nmV b o n, .slice a l c, cl⟩ := fun O cl =>
    ⟨b, o, n, rfl, hb.turn (turn O) (hpl b hb), .inr ⟨rfl, rfl⟩, a, l, c, rfl⟩
  rcases findKey_name (n := n) (o := o) hb es.toList he with h1 | ⟨j, e, h1, h2, h3, h4⟩
  · refine ⟨{ w with heap := w.heap.setIfInBounds mb (.map (es.push ⟨nmV b o n, .slice a l c, clk⟩) (clk + 1)) }, by simp [Instr.mapUpdate, run_underlying undMap, MapKept.run_getObj_map hm, hc, h1, MapKept.run_setObj_map _ hm], turn _, _, _, new _, ?_⟩
    intro x hx
    simp only [Array.toList_push, List.mem_append, List.mem_singleton] at hx
    rcases hx with hx | rfl
    · exact old _ x (he x hx)
    · exact mine _ _
  · have hj : es[j]? = some e := by simpa using h2
    refine ⟨{ w with heap := w.heap.setIfInBounds mb (.map (es.modify j fun e' => { e' with key := nmV b o n, val := .slice a l c }) clk) }, by simp [Instr.mapUpdate, run_underlying undMap, MapKept.run_getObj_map hm, hc, h1, hj, h3, stays_name, MapKept.run_setObj_map _ hm], turn _, _, _, new _, ?_⟩
    intro x hx
    rcases MapFrom.mem_modify hx with hx | ⟨e', _, rfl⟩
    · exact old _ x (he x hx)
    · exact mine _ _
theorem NmMap.mono {w : World} {mb : Nat} {S S' : Nat → Nat → Prop} (h : NmMap w mb S) (hs : ∀ b o, S b o → S' b o) : NmMap w mb S' := by
  obtain ⟨es, clk, hm, he⟩ := h
  exact ⟨es, clk, hm, fun e hx => by obtain ⟨b', o', n', k1, k2, k3, k4⟩ := he e hx; exact ⟨b', o', n', k1, k2, hs _ _ k3, k4⟩⟩
/-- Another world that keeps the map and all blocks of cells that are named. -/
theorem NmMap.keep {w w' : World} {mb : Nat} {S : Nat → Nat → Prop} (h : NmMap w mb S) (hm : w'.heap[mb]? = w.heap[mb]?) (hk : ∀ b o, S b o → Plain w b → Plain w' b) : NmMap w' mb S := by
  obtain ⟨es, clk, hm', he⟩ := h
  exact ⟨es, clk, hm.trans hm', fun e hx => by obtain ⟨b', o', n', k1, k2, k3, k4⟩ := he e hx; exact ⟨b', o', n', k1, hk _ _ k3 k2, k3, k4⟩⟩
end Go.Proofs.YtjibnlpjpbileaaGreatDoor
namespace Go.Proofs.YtjibnlpjpbileaaGreatDoor
open Go.RowKit
set_option linter.unusedVariables false

theorem strClone_any (s : ByteArray) (w : World) (h : s.size ≤ 1048576) :
    Calls Tryz.prog 69 #[.string s] w fun e w' => e = .returned (.string s) ∧ Below w.heap.size w w' := by
  have HC : Hid (∀ w, Calls Tryz.prog 100 #[.string s] w fun e w' => e = .returned (.string s) ∧ Below w.heap.size w w') := fun w => Tryz.stringslite_Clone s w (by omega)
  go_enter Tryz.func69, Tryz.ntmps69
  go_wp2_with (go_at_call 100; fail)
  refine (HC.out _).mono ?_
  rintro e w1 ⟨rfl, hb1⟩
  have HB : Hid (Below w.heap.size w w1) := hb1
  clear hb1
  go_wp2_with fail
  go_ret
  exact ⟨rfl, HB.out⟩
end Go.Proofs.YtjibnlpjpbileaaGreatDoor
namespace Go.Proofs.YtjibnlpjpbileaaGreatDoor
open Go.RowKit
set_option linter.unusedVariables false

theorem OsR.move {w w' : World} : ∀ (l : List Tm) (bs : List Nat) (g off g' off' : Nat), (∀ x ∈ bs, x < w.heap.size → w'.heap[x]? = w.heap[x]?) → (∀ j v, j < 4 * l.length → w.cell? ⟨g, off + j, none⟩ = some v → w'.cell? ⟨g', off' + j, none⟩ = some v) → OsR w l bs g off → OsR w' l bs g' off'
  | [], bs, g, off, g', off', _, _, h => by rw [OsR] at h ⊢; exact h
  | .mk k n s m :: r, bs, g, off, g', off', hk, hc, h => by
    rw [OsR] at h ⊢
    obtain ⟨b1, b2, e, h4, h5⟩ := h
    subst e
    rw [OsT] at h4
    obtain ⟨h0, h1, h2, hs, ao, cap, h3, hl, hcp, hr⟩ := h4
    refine ⟨b1, b2, rfl, ?_, OsR.move r b2 g (off + 4) g' (off' + 4) (fun x hx => hk x (List.mem_append_right _ hx)) (fun j v hj hv => ?_) h5⟩
    · rw [OsT]
      exact ⟨hc 0 _ (by simp) h0, hc 1 _ (by simp; omega) h1, hc 2 _ (by simp; omega) h2, hs, ao, cap, hc 3 _ (by simp; omega) h3, hl, hcp, OsL.keep m b1 ao (fun x hx => hk x (List.mem_append_left _ hx)) hr⟩
    · have := hc (4 + j) v (by simp; omega) (by rw [← Nat.add_assoc]; exact hv)
      rw [Nat.add_assoc]; exact this
/-- The cells of a row. -/
theorem OsR.vals {w : World} : ∀ (l : List Tm) (bs : List Nat) (g off : Nat), OsR w l bs g off → ∃ xs : List Value, xs.length = l.length * 4 ∧ (∀ j u, xs[j]? = some u → w.cell? ⟨g, off + j, none⟩ = some u) ∧ ∀ u ∈ xs, u.oneCell' = true
  | [], bs, g, off, h => ⟨[], rfl, fun j u h => by simp at h, fun u h => by cases h⟩
  | .mk k n s m :: r, bs, g, off, h => by
    rw [OsR] at h
    obtain ⟨b1, b2, e, h4, h5⟩ := h
    rw [OsT] at h4
    obtain ⟨h0, h1, h2, hs, ao, cap, h3, hl, hcp, hr⟩ := h4
    obtain ⟨xs, e1, e2, e3⟩ := OsR.vals r b2 g (off + 4) h5
    refine ⟨.int .i64 k :: .int .i64 n :: .string s :: .slice ao m.length cap :: xs, by simp [e1]; omega, fun j u hj => ?_, fun u hu => ?_⟩
    · match j, hj with
      | 0, hj => simp at hj; subst hj; exact h0
      | 1, hj => simp at hj; subst hj; exact h1
      | 2, hj => simp at hj; subst hj; exact h2
      | 3, hj => simp at hj; subst hj; exact h3
      | j + 4, hj =>
        simp at hj
        have := e2 j u hj
        rw [show off + (j + 4) = off + 4 + j by omega]; exact this
    · simp only [List.mem_cons] at hu
      rcases hu with rfl | rfl | rfl | rfl | hu
      · rfl
      · rfl
      · rfl
      · rfl
      · exact e3 u hu

theorem nameOf_any (b o n cap : Nat) (w : World) (hn : n ≠ 0) :
    Calls Tryz.prog 145 #[.slice (some ⟨b, o, none⟩) n cap] w fun e w' => e = .returned (nmV b o n) ∧ Below w.heap.size w w' := by
  have q : ((n : Int) == 0) = false := by simp; omega
  have hpos : 0 < n := by omega
  clear hn
  go_enter Tryz.func145, Tryz.ntmps145
  go_wp2
  refine bodyPost_ret (v := nmV b o n) (by simp [results, Tryz.results145, go_sem]) rfl ⟨rfl, ?_⟩
  exact (Below.refl _ _).alloc (Nat.le_refl _) _

theorem infoParts9 {e : TypeId} {z : Value} {n b : Nat} (h : (Tryz.prog.info? e).map (fun i => (i.zero, i.size, i.bytes)) = some (some z, n, b)) : ∃ i, Tryz.prog.info? e = some i ∧ i.zero = some z ∧ i.size = n ∧ i.bytes = b := by
  obtain ⟨i, hi, he⟩ := Option.map_eq_some_iff.1 h
  simp only [Prod.mk.injEq] at he
  exact ⟨i, hi, he.1, he.2.1, he.2.2⟩

set_option maxHeartbeats 1000000 in
theorem clone_any (l : List Tm) (bs : List Nat) (b o cap : Nat) (w : World) (h : OsR w l bs b o) (hne : l ≠ []) (hlen : l.length ≤ 4194304) (hbl : ∀ x ∈ bs, x < w.heap.size) :
    Calls Tryz.prog 173 #[.slice (some ⟨b, o, none⟩) l.length cap] w fun e w' => ∃ g c, e = .returned (.slice (some ⟨g, 0, none⟩) l.length c) ∧ l.length ≤ c ∧ c ≤ maxLen ∧ w.heap.size ≤ g ∧ g < w'.heap.size ∧ OsR w' l bs g 0 ∧ (∀ x, w'.frozen? ⟨g, x, none⟩ = false) ∧ Below w.heap.size w w' := by
  obtain ⟨xs, e1, e2, e3⟩ := OsR.vals l bs b o h
  have hnil := fun (w : World) (a : Option Addr) (n c : Nat) => Go.Lib.run_eql_slice_nil (P := Tryz.prog) w 36 38 a n c 0 0 underlying24
  obtain ⟨i0, hi, hz, hs, hb⟩ := infoParts9 info26
  have HI : Hid (Tryz.prog.info? 38 = some i0 ∧ i0.zero = some (.agg #[.int .i64 0, .int .i64 0, .string ⟨#[]⟩, .slice none 0 0]) ∧ i0.size = 4 ∧ i0.bytes = 56) := ⟨hi, hz, hs, hb⟩
  have HO : Hid ((w.alloc (.cells #[] 38)).ownsRow w.heap.size 38 4 (.slice (some ⟨w.heap.size, 0, none⟩) 0 0) 0 []) := World.ownsRow_made w #[] 0 (Nat.le_refl _) (Nat.zero_le _) rfl
  have HB : Hid (Below w.heap.size w (w.alloc (.cells #[] 38))) := (Below.refl _ _).alloc (Nat.le_refl _) _
  have HL : Hid (xs.length = l.length * 4) := e1
  have HC : Hid (∀ j u, xs[j]? = some u → (w.alloc (.cells #[] 38)).cell? ((⟨b, o, none⟩ : Addr).add j) = some u) := fun j u hj => by
    have hc := e2 j u hj
    have hlt := World.block_lt_of_cell? w _ hc
    rw [Addr.add_lit, HB.out.cell (p := ⟨b, o + j, none⟩) hlt]; exact hc
  have H1 : Hid (∀ u ∈ xs, u.oneCell' = true) := e3
  have C3 : Hid (0 + l.length ≤ maxLen) := by show _ ≤ _; unfold maxLen; omega
  have C4 : Hid ((0 + l.length) * 56 ≤ 140737488355328) := by show _ ≤ _; omega
  have HR : Hid (OsR w l bs b o) := h
  have HE2 : Hid (∀ j u, xs[j]? = some u → w.cell? ⟨b, o + j, none⟩ = some u) := e2
  have hpos : l.length ≠ 0 := fun e => hne (List.eq_nil_of_length_eq_zero e)
  have HPOS : Hid (l.length ≠ 0) := hpos
  have HBL : Hid (∀ x ∈ bs, x < w.heap.size) := hbl
  clear h hne e1 e2 e3 hi hz hs hb hpos hbl
  go_enter Tryz.func173, Tryz.ntmps173
  go_wp2_with (at_builtin; refine wpList_append_own_at _ rfl _ _ 36 rfl w.heap.size 38 i0 (.agg #[.int .i64 0, .int .i64 0, .string ⟨#[]⟩, .slice none 0 0]) 4 56 underlying24 HI.out.1 HI.out.2.1 HI.out.2.2.1 HI.out.2.2.2 rfl (by decide) (.slice (some ⟨w.heap.size, 0, none⟩) 0 0) 0 [] rfl HO.out ⟨b, o, none⟩ l.length cap xs rfl HL.out HC.out H1.out C3.out C4.out HB.out.size ?_; intro v2 w2 hown2 hgr2 hnn2 hat2; have HOWN : Hid (w2.ownsRow w.heap.size 38 4 v2 (0 + l.length) ([] ++ xs)) := hown2; have HGR : Hid ((w.alloc (.cells #[] 38)).grownBy w2 (some w.heap.size)) := hgr2; clear hown2 hgr2 hnn2 hat2)
  go_ret
  have hB2 : Below w.heap.size w w2 := HB.out.grown HGR.out HB.out.size (fun k hk => by injection hk with hk; omega)
  have ho := HOWN.out
  rw [Nat.zero_add, List.nil_append] at ho
  obtain ⟨_, h1 | ⟨g, c, cur, rfl, hg, hh, hn, hc, hsz, htk⟩⟩ := ho
  · exact absurd h1.2 HPOS.out
  · have hcell : ∀ x, w2.cell? ⟨g, x, none⟩ = cur[x]? := fun x => by simp [World.cell?, hh]
    refine ⟨g, c, rfl, hn, hc, hg, ?_, ?_, fun x => by simp [World.frozen?, hh], hB2⟩
    · rcases Nat.lt_or_ge g w2.heap.size with h | h
      · exact h
      · rw [Array.getElem?_eq_none h] at hh; cases hh
    · refine OsR.move l bs b o g 0 (fun x hx hl => hB2.block x hl) (fun j v hj hv => ?_) HR.out
      have hjx : j < xs.length := by rw [HL.out]; omega
      have hx : xs[j]? = some v := by
        rw [List.getElem?_eq_getElem hjx]
        have := HE2.out j xs[j] (List.getElem?_eq_getElem hjx)
        rw [hv] at this
        exact this.symm ▸ rfl
      rw [Nat.zero_add, hcell, ← Array.getElem?_toList]
      rw [← htk, List.getElem?_take] at hx
      split at hx
      · exact hx
      · cases hx
end Go.Proofs.YtjibnlpjpbileaaGreatDoor
namespace Go.Proofs.YtjibnlpjpbileaaGreatDoor
open Go.RowKit
set_option linter.unusedVariables false

/-- A list that was copied, but not yet what stands in it. -/
structure Ps where
  g : Nat
  c : Nat
  m : List Tm
  ob : List Nat
def psV (x : Ps) : Value := .slice (some ⟨x.g, 0, none⟩) x.m.length x.c
structure Ps.ok (w : World) (x : Ps) : Prop where
  row : OsR w x.m x.ob x.g 0
  free : ∀ o, w.frozen? ⟨x.g, o, none⟩ = false
  le : x.m.length ≤ x.c
  max : x.c ≤ maxLen
/-- C: the block of the copying, mb: its map, ov: its open lists. S: the lists that were met. -/
structure Cp (w0 w : World) (C mb : Nat) (ov : Value) (st : List Ps) (nn : Nat) (S : Nat → Nat → Prop) : Prop where
  be : Below w0.heap.size w0 w
  c0 : w.cell? ⟨C, 0, none⟩ = some ov
  c1 : w.cell? ⟨C, 1, none⟩ = some (.map (some mb))
  c2 : w.cell? ⟨C, 2, none⟩ = some (.int .i64 nn)
  fz : ∀ o, w.frozen? ⟨C, o, none⟩ = false
  own : w.ownsRow w0.heap.size 36 1 ov st.length (st.map psV)
  mp : NmMap w mb S
  old : ∀ b o, S b o → b < w0.heap.size
  hC : w0.heap.size ≤ C
  hm : w0.heap.size ≤ mb
  ne1 : C ≠ mb
  ne2 : ∀ g, ov.ownBlock = some g → g ≠ C ∧ g ≠ mb
theorem Cp.slice {w0 w : World} {C mb : Nat} {ov : Value} {st : List Ps} {nn : Nat} {S : Nat → Nat → Prop} (h : Cp w0 w C mb ov st nn S) : ∃ a c, ov = .slice a st.length c := by
  obtain ⟨_, h1 | ⟨g, c, cur, e, _⟩⟩ := h.own
  · exact ⟨none, 0, by rw [h1.1, h1.2]⟩
  · exact ⟨_, c, e⟩
/-- A call that makes new memory alone. -/
theorem Cp.call {w0 w w' : World} {C mb : Nat} {ov : Value} {st : List Ps} {nn : Nat} {S : Nat → Nat → Prop} (h : Cp w0 w C mb ov st nn S) (hb : Below w.heap.size w w') : Cp w0 w' C mb ov st nn S := by
  have hg : w.grownBy w' none := ⟨hb.os, hb.tape, hb.output, hb.size, fun k hk _ => hb.block k hk⟩
  have hCl := World.block_lt_of_cell? w _ h.c0
  have hml : mb < w.heap.size := by
    obtain ⟨es, clk, hm, _⟩ := h.mp
    rcases Nat.lt_or_ge mb w.heap.size with h | h
    · exact h
    · rw [Array.getElem?_eq_none h] at hm; cases hm
  refine ⟨h.be.trans (hb.mono h.be.size), ?_, ?_, ?_, fun o => ?_, h.own.kept hg (by by_cases e : ov.ownBlock = none; exact Or.inl e; exact Or.inr e), h.mp.keep (hb.block mb hml) (fun b o hs hp => ?_), h.old, h.hC, h.hm, h.ne1, h.ne2⟩
  · rw [hb.cell (p := ⟨C, 0, none⟩) hCl]; exact h.c0
  · rw [hb.cell (p := ⟨C, 1, none⟩) hCl]; exact h.c1
  · rw [hb.cell (p := ⟨C, 2, none⟩) hCl]; exact h.c2
  · rw [hb.frozen (p := ⟨C, o, none⟩) hCl]; exact h.fz o
  · have hbl : b < w.heap.size := Nat.lt_of_lt_of_le (h.old b o hs) h.be.size
    obtain ⟨⟨c, t, f, hh⟩, hf⟩ := hp
    exact ⟨⟨c, t, f, (hb.block b hbl).trans hh⟩, fun x => by rw [hb.frozen (p := ⟨b, x, none⟩) hbl]; exact hf x⟩
/-- Whatever a listOf leaves alone. -/
structure Lf (C mb : Nat) (ov : Value) (w w' : World) : Prop where
  os : w'.os = w.os
  tape : w'.tape = w.tape
  output : w'.output = w.output
  size : w.heap.size ≤ w'.heap.size
  block : ∀ k, k < w.heap.size → k ≠ C → k ≠ mb → ov.ownBlock ≠ some k → w'.heap[k]? = w.heap[k]?

theorem listOf_none (C : Nat) (ao : Option Addr) (cap : Nat) (w : World) :
    Calls Tryz.prog 140 #[.pointer (some ⟨C, 0, none⟩), .slice ao 0 cap] w fun e w' => e = .returned (.slice none 0 0) ∧ w' = w := by
  go_enter Tryz.func140, Tryz.ntmps140
  go_wp2_with fail
  go_ret
  exact ⟨rfl, rfl⟩

theorem ownsRow_set9 {w : World} {base : Nat} {e : TypeId} {size n : Nat} {v : Value} {xs : List Value} (h : w.ownsRow base e size v n xs) {b o : Nat} (hb : v.ownBlock ≠ some b) (u : Value) : (w.setCell ⟨b, o, none⟩ u).ownsRow base e size v n xs := by
  obtain ⟨h1, h2⟩ := h
  refine ⟨h1, ?_⟩
  rcases h2 with h2 | ⟨g', cap', cur, hv, hg, hh, r⟩
  · exact Or.inl h2
  · refine Or.inr ⟨g', cap', cur, hv, hg, ?_, r⟩
    rw [Below.heap_setCell _ _ _ _ (by show g' ≠ b; intro q; subst q; exact hb (by rw [hv]; rfl))]
    exact hh
theorem own_base {w : World} {base : Nat} {e : TypeId} {size n : Nat} {v : Value} {xs : List Value} (h : w.ownsRow base e size v n xs) {k : Nat} (hk : v.ownBlock = some k) : base ≤ k ∧ k < w.heap.size := by
  obtain ⟨_, hh | ⟨g, c, cur, e1, e2, e3, _⟩⟩ := h
  · rw [hh.1] at hk; cases hk
  · rw [e1] at hk
    simp only [Value.ownBlock, Option.some.injEq] at hk
    subst hk
    refine ⟨e2, ?_⟩
    rcases Nat.lt_or_ge g w.heap.size with h | h
    · exact h
    · rw [Array.getElem?_eq_none h] at e3; cases e3
theorem infoTmsS : (Tryz.prog.info? 36).map (fun i => (i.zero, i.size, i.bytes)) = some (some (.slice none 0 0), 1, 24) := by kernel_rfl
theorem undTmsS : Tryz.prog.underlying 168 = some (.slice 36) := by kernel_rfl
theorem src9 (w : World) (x : Value) (t : TypeId) : ∀ j u, [x][j]? = some u → (w.alloc (.cells #[x] t)).cell? ((⟨w.heap.size, 0, none⟩ : Addr).add j) = some u := fun j u hu => by
  match j, hu with
  | 0, hu => simp at hu; subst hu; simp [Addr.add]
theorem one9 (a : Option Addr) (n c : Nat) : ∀ u ∈ [Value.slice a n c], u.oneCell' = true := fun u hu => by
  simp at hu; subst hu; rfl
theorem form9 {w : World} {base : Nat} {e : TypeId} {n : Nat} {v : Value} {xs : List Value} (h : w.ownsRow base e 1 v (n + 1) xs) : ∃ g c, v = .slice (some ⟨g, 0, none⟩) (n + 1) c := by
  obtain ⟨_, hh | ⟨g, c, cur, e1, _⟩⟩ := h
  · exact absurd hh.2 (by omega)
  · exact ⟨g, c, e1⟩
theorem NmMap.lt {w : World} {mb : Nat} {S : Nat → Nat → Prop} (h : NmMap w mb S) : mb < w.heap.size := by
  obtain ⟨es, clk, hm, _⟩ := h
  rcases Nat.lt_or_ge mb w.heap.size with h | h
  · exact h
  · rw [Array.getElem?_eq_none h] at hm; cases hm
/-- What listOf leaves: the map, the open lists and the count are written. -/
theorem Cp.lay {w0 w2 w3 W3 w4 : World} {C mb : Nat} {ov v' : Value} {st : List Ps} {nn : Nat} {S S' : Nat → Nat → Prop} {x : Ps} (h : Cp w0 w2 C mb ov st nn S) (ht : Turn mb w2 w3) (hm : NmMap w3 mb S') (hS' : ∀ b o, S' b o → b < w0.heap.size) (hb3 : Below w3.heap.size w3 W3)
    (hown : w4.ownsRow w0.heap.size 36 1 v' (st.length + 1) (st.map psV ++ [psV x])) (hgr : W3.grownBy w4 ov.ownBlock) (hat : v'.ownBlock = ov.ownBlock ∨ v'.ownBlock = some W3.heap.size) (nn' : Nat) :
    Cp w0 ((w4.setCell ⟨C, 0, none⟩ v').setCell ⟨C, 2, none⟩ (.int .i64 nn')) C mb v' (st ++ [x]) nn' S' ∧ Lf C mb ov w2 ((w4.setCell ⟨C, 0, none⟩ v').setCell ⟨C, 2, none⟩ (.int .i64 nn')) ∧ (v'.ownBlock = ov.ownBlock ∨ ∃ k, v'.ownBlock = some k ∧ w2.heap.size ≤ k) := by
  have hC2 : C < w2.heap.size := World.block_lt_of_cell? w2 _ h.c0
  have hm2 := h.mp.lt
  have z23 := ht.size
  have z3 := hb3.size
  have z4 := hgr.size
  have hne : some C ≠ ov.ownBlock := fun e => (h.ne2 C e.symm).1 rfl
  have hnm : some mb ≠ ov.ownBlock := fun e => (h.ne2 mb e.symm).2 rfl
  have K4 : ∀ k, k < w3.heap.size → ov.ownBlock ≠ some k → w4.heap[k]? = w3.heap[k]? := fun k hk hn => (hgr.block k (by omega) (fun e => hn e.symm)).trans (hb3.block k hk)
  have K : ∀ k, k < w2.heap.size → k ≠ mb → ov.ownBlock ≠ some k → w4.heap[k]? = w2.heap[k]? := fun k hk h1 h2 => (K4 k (by omega) h2).trans (ht.block k hk h1)
  have F : ∀ k, k ≠ C → ((w4.setCell ⟨C, 0, none⟩ v').setCell ⟨C, 2, none⟩ (.int .i64 nn')).heap[k]? = w4.heap[k]? := fun k hk => by
    rw [Below.heap_setCell _ ⟨C, 2, none⟩ _ k hk, Below.heap_setCell _ ⟨C, 0, none⟩ _ k hk]
  have hCb := K C hC2 h.ne1 (fun e => hne e.symm)
  have q0 : w4.cell? ⟨C, 0, none⟩ = some ov := (World.cell?_of_block (w := w2) hCb).trans h.c0
  have q1 : w4.cell? ⟨C, 1, none⟩ = some (.map (some mb)) := (World.cell?_of_block (w := w2) hCb).trans h.c1
  have q2 : w4.cell? ⟨C, 2, none⟩ = some (.int .i64 nn) := (World.cell?_of_block (w := w2) hCb).trans h.c2
  have hv1 : v'.ownBlock ≠ some C := fun e => by
    rcases hat with h1 | h1
    · rw [h1] at e; exact hne e.symm
    · rw [h1] at e; injection e with e; omega
  have hv2 : v'.ownBlock ≠ some mb := fun e => by
    rcases hat with h1 | h1
    · rw [h1] at e; exact hnm e.symm
    · rw [h1] at e; injection e with e; omega
  have LF : Lf C mb ov w2 ((w4.setCell ⟨C, 0, none⟩ v').setCell ⟨C, 2, none⟩ (.int .i64 nn')) :=
    ⟨hgr.os.trans (hb3.os.trans ht.os), hgr.tape.trans (hb3.tape.trans ht.tape), hgr.output.trans (hb3.output.trans ht.output), by rw [World.size_setCell, World.size_setCell]; omega, fun k hk h1 h2 h3 => (F k h1).trans (K k hk h2 h3)⟩
  refine ⟨⟨?_, ?_, ?_, ?_, fun o => ?_, ?_, ?_, hS', h.hC, h.hm, h.ne1, fun g hg => ⟨fun e => hv1 (by rw [hg, e]), fun e => hv2 (by rw [hg, e])⟩⟩, LF, ?_⟩
  · refine ⟨LF.os.trans h.be.os, LF.tape.trans h.be.tape, LF.output.trans h.be.output, Nat.le_trans h.be.size LF.size, fun k hk => ?_⟩
    have h1 := h.hC
    have h2 := h.hm
    have h3 := h.be.size
    rw [LF.block k (by omega) (by omega) (by omega) (fun e => by have := (own_base h.own e).1; omega)]
    exact h.be.block k hk
  · rw [World.cell?_setCell_other (h := fun e => by simp only [Addr.mk.injEq] at e; omega)]
    exact World.cell?_setCell_same _ _ _ q0
  · rw [World.cell?_setCell_other (h := fun e => by simp only [Addr.mk.injEq] at e; omega), World.cell?_setCell_other (h := fun e => by simp only [Addr.mk.injEq] at e; omega)]
    exact q1
  · refine World.cell?_setCell_same _ _ _ (u := .int .i64 nn) ?_
    rw [World.cell?_setCell_other (h := fun e => by simp only [Addr.mk.injEq] at e; omega)]
    exact q2
  · rw [World.frozen?_setCell, World.frozen?_setCell, World.frozen?_of_block (w := w2) hCb]; exact h.fz o
  · rw [List.length_append, List.map_append]
    exact ownsRow_set9 (ownsRow_set9 hown hv1 _) hv1 _
  · refine hm.keep ?_ (fun b o hs hp => ?_)
    · rw [F mb (fun e => h.ne1 e.symm)]; exact K4 mb (by omega) (fun e => hnm e.symm)
    · have hb0 := hS' b o hs
      have h1 := h.hC
      have h3 := h.be.size
      have hov : ov.ownBlock ≠ some b := fun e => by have := (own_base h.own e).1; omega
      have hbb : ((w4.setCell ⟨C, 0, none⟩ v').setCell ⟨C, 2, none⟩ (.int .i64 nn')).heap[b]? = w3.heap[b]? := (F b (by omega)).trans (K4 b (by omega) hov)
      obtain ⟨⟨c, t, f, hh⟩, hf⟩ := hp
      exact ⟨⟨c, t, f, hbb.trans hh⟩, fun y => by rw [World.frozen?_of_block (w := w3) hbb]; exact hf y⟩
  · rcases hat with h1 | h1
    · exact .inl h1
    · exact .inr ⟨_, h1, by omega⟩

set_option maxHeartbeats 1000000 in
set_option maxRecDepth 100000 in
theorem listOf_any (w0 w : World) (C mb : Nat) (ov : Value) (st : List Ps) (nn : Nat) (S : Nat → Nat → Prop) (hcp : Cp w0 w C mb ov st nn S) (l : List Tm) (hl : l ≠ []) (b o cap : Nat) (bs : List Nat) (hos : OsL w l (b :: bs) (some ⟨b, o, none⟩)) (hold : b < w0.heap.size) (hlen : l.length ≤ 4194304) (hnn : nn ≤ 4194304) (hst : st.length ≤ 4194304) (hbs : ∀ x ∈ bs, x < w0.heap.size) (hnew : S b o → nn ≤ 10000) :
    Calls Tryz.prog 140 #[.pointer (some ⟨C, 0, none⟩), .slice (some ⟨b, o, none⟩) l.length cap] w fun e w' => ∃ g c ov', e = .returned (.slice (some ⟨g, 0, none⟩) l.length c) ∧ Ps.ok w' ⟨g, c, l, bs⟩ ∧ w.heap.size ≤ g ∧ Cp w0 w' C mb ov' (st ++ [⟨g, c, l, bs⟩]) (nn + l.length) (fun x y => S x y ∨ (x = b ∧ y = o)) ∧ Lf C mb ov w w' ∧ (ov'.ownBlock = ov.ownBlock ∨ ∃ k, ov'.ownBlock = some k ∧ w.heap.size ≤ k ∧ k ≠ g) := by
  have hpos : l.length ≠ 0 := fun e => hl (List.eq_nil_of_length_eq_zero e)
  have q0 : ((l.length : Int) == 0) = false := by simp; omega
  obtain ⟨g0, o0, b0, e1, e2, hfz, hrow⟩ := (OsL.iff hl).1 hos
  simp only [Option.some.injEq, Addr.mk.injEq, and_true] at e2
  obtain ⟨rfl, rfl⟩ := e2
  simp only [List.cons.injEq, true_and] at e1
  obtain rfl := e1
  have HPL : Hid (Plain w b) := OsL.plain hl hos
  have HCP : Hid (Cp w0 w C mb ov st nn S) := hcp
  have HROW : Hid (OsR w l bs b o) := hrow
  have HNM : Hid (∀ w', Calls Tryz.prog 145 #[.slice (some ⟨b, o, none⟩) l.length cap] w' fun e w'' => e = .returned (nmV b o l.length) ∧ Below w'.heap.size w' w'') := fun w' => nameOf_any b o l.length cap w' hpos
  clear hcp hos hfz hrow hpos
  go_enter Tryz.func140, Tryz.ntmps140
  go_wp2_with (go_at_call 145; fail)
  refine (HNM.out _).mono ?_
  rintro e w1 ⟨rfl, hb1⟩
  obtain ⟨W1, hW1⟩ : ∃ W1, W1 = w1.alloc (.cells #[.pointer (some ⟨b, o, none⟩), .int .i64 l.length] 184) := ⟨_, rfl⟩
  have hbW : Below w.heap.size w W1 := by rw [hW1]; exact hb1.alloc hb1.size _
  have HCW : Hid (Cp w0 W1 C mb ov st nn S) := HCP.out.call hbW
  have HPW : Hid (Plain W1 b) := by
    obtain ⟨⟨c, t, f, h1⟩, h2⟩ := HPL.out
    have hbl : b < w.heap.size := by
      rcases Nat.lt_or_ge b w.heap.size with h | h
      · exact h
      · rw [Array.getElem?_eq_none h] at h1; cases h1
    exact ⟨⟨c, t, f, (hbW.block b hbl).trans h1⟩, fun x => by rw [hbW.frozen (p := ⟨b, x, none⟩) hbl]; exact h2 x⟩
  obtain ⟨la, ll, lc, lq, hlk, hlS⟩ := lookup_all (o := o) (n := (l.length : Int)) HCW.out.mp HPW.out
  have hlk' : ∀ k, (Instr.lookup 167 (.map (some mb)) (nmV b o l.length) true).run Tryz.prog (W1.drewN k) = .ok (.tuple #[.slice la ll lc, .bool lq]) (W1.drewN k) := fun k => hlk _ rfl
  have k0 := HCW.out.c0
  have k1 := HCW.out.c1
  have k2 := HCW.out.c2
  have kn : ∀ x, W1.cell? ⟨w1.heap.size, x, none⟩ = (#[.pointer (some ⟨b, o, none⟩), .int .i64 l.length] : Array Value)[x]? := fun x => by rw [hW1, World.cell?_alloc_new]
  have HLS : Hid (lq = true → nn ≤ 10000) := fun h => hnew (hlS h)
  go_wp2_with fail
  rw [← hW1]
  clear hlk hlS hW1
  go_quiet (fail)
  obtain ⟨WD, hWD⟩ : ∃ WD, WD = W1.drewN nq := ⟨_, rfl⟩
  rw [← hWD]
  have HCD : Hid (Cp w0 WD C mb ov st nn S) := by rw [hWD]; exact HCW.out.call (below_drewN (Below.refl _ _) nq)
  have d2 := HCD.out.c2
  have HBD : Hid (Below w.heap.size w WD) := by rw [hWD]; exact below_drewN hbW nq
  have knD : ∀ x, WD.cell? ⟨w1.heap.size, x, none⟩ = (#[.pointer (some ⟨b, o, none⟩), .int .i64 l.length] : Array Value)[x]? := fun x => by rw [hWD]; simp [kn]
  have hzn : w1.heap.size < WD.heap.size := by
    have : WD.cell? ⟨w1.heap.size, 0, none⟩ = some (.pointer (some ⟨b, o, none⟩)) := knD 0
    exact World.block_lt_of_cell? WD _ this
  clear hWD hbW hb1 hlk' k0 k1 k2 kn HCW HPW
  have HRD : Hid (OsR WD l bs b o) := OsR.keep l bs b o (fun x hx hl => HBD.out.block x hl) (fun x v _ _ hv => by rw [HBD.out.cell (p := ⟨b, x, none⟩) (World.block_lt_of_cell? w _ hv)]; exact hv) HROW.out
  have HPD : Hid (Plain WD b) := by
    obtain ⟨⟨c, t, f, h1⟩, h2⟩ := HPL.out
    have hbl : b < w.heap.size := by
      rcases Nat.lt_or_ge b w.heap.size with h | h
      · exact h
      · rw [Array.getElem?_eq_none h] at h1; cases h1
    exact ⟨⟨c, t, f, (HBD.out.block b hbl).trans h1⟩, fun x => by rw [HBD.out.frozen (p := ⟨b, x, none⟩) hbl]; exact h2 x⟩
  have HCL : Hid (Calls Tryz.prog 173 #[.slice (some ⟨b, o, none⟩) l.length cap] WD fun e w' => ∃ g c, e = .returned (.slice (some ⟨g, 0, none⟩) l.length c) ∧ l.length ≤ c ∧ c ≤ maxLen ∧ WD.heap.size ≤ g ∧ g < w'.heap.size ∧ OsR w' l bs g 0 ∧ (∀ x, w'.frozen? ⟨g, x, none⟩ = false) ∧ Below WD.heap.size WD w') :=
    clone_any l bs b o cap WD HRD.out hl hlen (fun x hx => Nat.lt_of_lt_of_le (hbs x hx) HCD.out.be.size)
  cases lq
  all_goals
    first
      | (have hle : (nn : Int) ≤ 10000 := by have := HLS.out rfl; omega)
      | skip
    go_wp2_with (go_at_call 173; fail)
    refine HCL.out.mono ?_
    rintro e w2 ⟨g, c, rfl, hc1, hc2, hg1, hg2, hr2, hf2, hb2⟩
    have HC2 : Hid (Cp w0 w2 C mb ov st nn S) := HCD.out.call hb2
    have HPS : Hid (OsR w2 l bs g 0 ∧ (∀ x, w2.frozen? ⟨g, x, none⟩ = false) ∧ l.length ≤ c ∧ c ≤ maxLen ∧ WD.heap.size ≤ g ∧ g < w2.heap.size) := ⟨hr2, hf2, hc1, hc2, hg1, hg2⟩
    have HB2 : Hid (Below w.heap.size w w2) := HBD.out.trans (hb2.mono HBD.out.size)
    have kn2 : ∀ x, w2.cell? ⟨w1.heap.size, x, none⟩ = (#[.pointer (some ⟨b, o, none⟩), .int .i64 l.length] : Array Value)[x]? := fun x => by rw [hb2.cell (p := ⟨w1.heap.size, x, none⟩) hzn]; exact knD x
    have HP2 : Hid (Plain w2 b) := by
      obtain ⟨⟨c, t, f, h1⟩, h2⟩ := HPD.out
      have hbl : b < WD.heap.size := by
        rcases Nat.lt_or_ge b WD.heap.size with h | h
        · exact h
        · rw [Array.getElem?_eq_none h] at h1; cases h1
      exact ⟨⟨c, t, f, (hb2.block b hbl).trans h1⟩, fun x => by rw [hb2.frozen (p := ⟨b, x, none⟩) hbl]; exact h2 x⟩
    have e1 := HC2.out.c1
    clear hr2 hf2 hc1 hc2 hg1 hg2 hb2
    obtain ⟨w3, hup, ht3, hm3⟩ := update_name (w := w2.drew) (mb := mb) (S := S) (n := (l.length : Int)) (b := b) (o := o) (HC2.out.call ((Below.refl _ _).drew)).mp ⟨HP2.out.1, HP2.out.2⟩ (some ⟨g, 0, none⟩) l.length c
    have HT3 : Hid (Turn mb w2 w3) := ⟨ht3.os, ht3.tape, ht3.output, ht3.size, ht3.block⟩
    have HM3 : Hid (NmMap w3 mb (fun x y => S x y ∨ (x = b ∧ y = o))) := hm3
    clear ht3 hm3
    have HC3 : Hid (w3.cell? ⟨C, 0, none⟩ = some ov ∧ w3.cell? ⟨C, 1, none⟩ = some (.map (some mb)) ∧ w3.cell? ⟨C, 2, none⟩ = some (.int .i64 nn) ∧ C < w3.heap.size ∧ ∀ x, w3.frozen? ⟨C, x, none⟩ = false) := by
      have hb := HT3.out.block C (World.block_lt_of_cell? w2 _ HC2.out.c0) HC2.out.ne1
      have hz : C < w2.heap.size := World.block_lt_of_cell? w2 _ HC2.out.c0
      exact ⟨(World.cell?_of_block (w := w2) hb).trans HC2.out.c0, (World.cell?_of_block (w := w2) hb).trans HC2.out.c1, (World.cell?_of_block (w := w2) hb).trans HC2.out.c2, Nat.lt_of_lt_of_le hz HT3.out.size, fun x => (World.frozen?_of_block (w := w2) hb).trans (HC2.out.fz x)⟩
    have HOV : Hid (ov.ownBlock ≠ some C) := fun e => (HC2.out.ne2 C e).1 rfl
    have HOW : Hid ((w3.alloc (.cells #[.slice (some ⟨g, 0, none⟩) l.length c] 36)).ownsRow w0.heap.size 36 1 ov st.length (st.map psV)) := by
      have hg : w2.grownBy w3 (some mb) := ⟨HT3.out.os, HT3.out.tape, HT3.out.output, HT3.out.size, fun k hk hn => HT3.out.block k hk (fun e => hn (by rw [e]))⟩
      exact World.ownsRow.alloc (HC2.out.own.kept hg (Or.inr (fun e => (HC2.out.ne2 mb e).2 rfl))) _
    have HQ4 : Hid (∀ w4, (w3.alloc (.cells #[.slice (some ⟨g, 0, none⟩) l.length c] 36)).grownBy w4 ov.ownBlock → w4.cell? ⟨C, 0, none⟩ = some ov ∧ w4.cell? ⟨C, 2, none⟩ = some (.int .i64 nn) ∧ ∀ x, w4.frozen? ⟨C, x, none⟩ = false) := fun w4 hg => by
      have hz := HC3.out.2.2.2.1
      have hb : w4.heap[C]? = w3.heap[C]? := (hg.block C (by simp; omega) (fun e => HOV.out e.symm)).trans (by show (w3.heap.push _)[C]? = _; rw [Array.getElem?_push, if_neg (by omega)])
      exact ⟨(World.cell?_of_block (w := w3) hb).trans HC3.out.1, (World.cell?_of_block (w := w3) hb).trans HC3.out.2.2.1, fun x => (World.frozen?_of_block (w := w3) hb).trans (HC3.out.2.2.2.2 x)⟩
    have HBS : Hid (w0.heap.size ≤ (w3.alloc (.cells #[.slice (some ⟨g, 0, none⟩) l.length c] 36)).heap.size) := by
      show _ ≤ _
      have h1 := HC2.out.be.size
      have h2 := HT3.out.size
      simp; omega
    obtain ⟨i0, hi, hz, hs, hb⟩ := infoParts9 infoTmsS
    have HI : Hid (Tryz.prog.info? 36 = some i0 ∧ i0.zero = some (.slice none 0 0) ∧ i0.size = 1 ∧ i0.bytes = 24) := ⟨hi, hz, hs, hb⟩
    clear hi hz hs hb
    have D3 : Hid (st.length + 1 ≤ maxLen) := by show _ ≤ _; unfold maxLen; omega
    have D4 : Hid ((st.length + 1) * 24 ≤ 140737488355328) := by show _ ≤ _; omega
    have c30 := HC3.out.1
    have c31 := HC3.out.2.1
    have c32 := HC3.out.2.2.1
    have ew : IntKind.i64.wrap ((nn : Int) + (l.length : Int)) = ((nn + l.length : Nat) : Int) := by rw [IntKind.wrap_i64]; omega
    go_wp2_with fail
    go_region
    clear hup e1 kn2
    go_wp2_with (at_builtin; refine wpList_append_own_at _ rfl _ _ 168 rfl w0.heap.size 36 i0 (.slice none 0 0) 1 24 undTmsS HI.out.1 HI.out.2.1 HI.out.2.2.1 HI.out.2.2.2 rfl Nat.zero_lt_one ov st.length (st.map psV) rfl HOW.out ⟨w3.heap.size, 0, none⟩ 1 1 [.slice (some ⟨g, 0, none⟩) l.length c] rfl rfl (src9 _ _ _) (one9 _ _ _) D3.out D4.out HBS.out ?_; intro v4 w4 hown4 hgr4 hnn4 hat4; obtain ⟨g4, c4, rfl⟩ := form9 hown4; obtain ⟨s0, s2, sf⟩ := HQ4.out w4 hgr4; have HO4 : Hid (w4.ownsRow w0.heap.size 36 1 (.slice (some ⟨g4, 0, none⟩) (st.length + 1) c4) (st.length + 1) (st.map psV ++ [.slice (some ⟨g, 0, none⟩) l.length c])) := hown4; have HG4 : Hid ((w3.alloc (.cells #[.slice (some ⟨g, 0, none⟩) l.length c] 36)).grownBy w4 ov.ownBlock) := hgr4; have HA4 : Hid ((Value.slice (some ⟨g4, 0, none⟩) (st.length + 1) c4).ownBlock = ov.ownBlock ∨ (Value.slice (some ⟨g4, 0, none⟩) (st.length + 1) c4).ownBlock = some (w3.alloc (.cells #[.slice (some ⟨g, 0, none⟩) l.length c] 36)).heap.size) := hat4; clear hown4 hgr4 hnn4 hat4)
    go_ret
    have ecast : ((nn : Int) + (l.length : Int)) = ((nn + l.length : Nat) : Int) := by omega
    rw [ecast]
    obtain ⟨L1, L2, L3⟩ := Cp.lay (x := ⟨g, c, l, bs⟩) HC2.out HT3.out HM3.out (fun b' o' h => by rcases h with h | ⟨rfl, _⟩; exact HCP.out.old b' o' h; exact hold) ((Below.refl _ _).alloc (Nat.le_refl _) _) HO4.out HG4.out HA4.out (nn + l.length)
    obtain ⟨p1, p2, p3, p4, p5, p6⟩ := HPS.out
    have hCW : C < WD.heap.size := World.block_lt_of_cell? WD _ HCD.out.c0
    have hmW := HCD.out.mp.lt
    have h0W := HCD.out.be.size
    have hz2 := HB2.out.size
    have h0w := HCP.out.be.size
    have hw2 := HC2.out.be.size
    have hC0 := HCD.out.hC
    have hm0 := HCD.out.hm
    have hgb := L2.block g p6 (by omega) (by omega) (fun e => by have := (own_base HCD.out.own e).2; omega)
    have hwz : w.heap.size ≤ WD.heap.size := HBD.out.size
    refine ⟨g, c, _, rfl, ⟨?_, fun x => ?_, p3, p4⟩, by omega, L1, ?_, ?_⟩
    · refine OsR.keep l bs g 0 (fun x hx hl2 => ?_) (fun x v _ _ hv => (World.cell?_of_block (w := w2) hgb).trans hv) p1
      have hx0 := hbs x hx
      exact L2.block x hl2 (by omega) (by omega) (fun e => by have := (own_base HCD.out.own e).1; omega)
    · exact (World.frozen?_of_block (w := w2) hgb).trans (p2 x)
    · exact ⟨L2.os.trans HB2.out.os, L2.tape.trans HB2.out.tape, L2.output.trans HB2.out.output, Nat.le_trans hz2 L2.size, fun k hk h1 h2 h3 => (L2.block k (by omega) h1 h2 h3).trans (HB2.out.block k hk)⟩
    · rcases L3 with h | ⟨k, h1, h2⟩
      · exact .inl h
      · exact .inr ⟨k, h1, by omega, by omega⟩
end Go.Proofs.YtjibnlpjpbileaaGreatDoor
namespace Go.Proofs.YtjibnlpjpbileaaGreatDoor
open Go.RowKit
set_option linter.unusedVariables false

/-- All of these are copied whole, into the blocks B and their own. -/
def Done (w : World) : List Ps → List Nat → Prop
  | [], B => B = []
  | x :: r, B => ∃ b1 b2, B = b1 ++ b2 ∧ OsR w x.m b1 x.g 0 ∧ (∀ o, w.frozen? ⟨x.g, o, none⟩ = false) ∧ Done w r b2
theorem Done.split {w : World} : ∀ {a b : List Ps} {B : List Nat}, Done w (a ++ b) B → ∃ B1 B2, B = B1 ++ B2 ∧ Done w a B1 ∧ Done w b B2
  | [], b, B, h => ⟨[], B, rfl, by rw [Done], h⟩
  | x :: a, b, B, h => by
    rw [List.cons_append, Done] at h
    obtain ⟨b1, b2, e, h1, h2, h3⟩ := h
    obtain ⟨B1, B2, e2, h4, h5⟩ := Done.split h3
    exact ⟨b1 ++ B1, B2, by rw [e, e2, List.append_assoc], by rw [Done]; exact ⟨b1, B1, rfl, h1, h2, h4⟩, h5⟩
theorem Done.join {w : World} : ∀ {a b : List Ps} {B1 B2 : List Nat}, Done w a B1 → Done w b B2 → Done w (a ++ b) (B1 ++ B2)
  | [], b, B1, B2, h, h' => by rw [Done] at h; subst h; exact h'
  | x :: a, b, B1, B2, h, h' => by
    rw [Done] at h
    obtain ⟨b1, b2, e, h1, h2, h3⟩ := h
    rw [List.cons_append, Done]
    exact ⟨b1, b2 ++ B2, by rw [e, List.append_assoc], h1, h2, Done.join h3 h'⟩
/-- The terms of m stand in the block g from off on, their lists those of cs. -/
def Half (w : World) (g : Nat) : List Tm → Nat → List Ps → Prop
  | [], _, cs => cs = []
  | .mk k n s l :: r, off, cs => w.cell? ⟨g, off, none⟩ = some (.int .i64 k) ∧ w.cell? ⟨g, off + 1, none⟩ = some (.int .i64 n) ∧ w.cell? ⟨g, off + 2, none⟩ = some (.string s) ∧ s.size ≤ 1048576 ∧
      ((l = [] ∧ w.cell? ⟨g, off + 3, none⟩ = some (.slice none 0 0) ∧ Half w g r (off + 4) cs) ∨
       (l ≠ [] ∧ ∃ x cs', cs = x :: cs' ∧ x.m = l ∧ w.cell? ⟨g, off + 3, none⟩ = some (.slice (some ⟨x.g, 0, none⟩) l.length x.c) ∧ l.length ≤ x.c ∧ x.c ≤ maxLen ∧ Half w g r (off + 4) cs'))
theorem Half.keep {w w' : World} {g : Nat} : ∀ {m : List Tm} {off : Nat} {cs : List Ps}, (∀ o v, off ≤ o → o < off + 4 * m.length → w.cell? ⟨g, o, none⟩ = some v → w'.cell? ⟨g, o, none⟩ = some v) → Half w g m off cs → Half w' g m off cs
  | [], off, cs, _, h => by rw [Half] at h ⊢; exact h
  | .mk k n s l :: r, off, cs, hc, h => by
    rw [Half] at h ⊢
    obtain ⟨h0, h1, h2, hs, h3⟩ := h
    have hr : ∀ cs, Half w g r (off + 4) cs → Half w' g r (off + 4) cs := fun cs => Half.keep (fun o v ho1 ho2 hv => hc o v (by omega) (by simp; omega) hv)
    refine ⟨hc _ _ (by omega) (by simp) h0, hc _ _ (by omega) (by simp; omega) h1, hc _ _ (by omega) (by simp; omega) h2, hs, ?_⟩
    rcases h3 with ⟨e, h3, h4⟩ | ⟨e, x, cs', e1, e2, h3, h4, h5, h6⟩
    · exact .inl ⟨e, hc _ _ (by omega) (by simp; omega) h3, hr _ h4⟩
    · exact .inr ⟨e, x, cs', e1, e2, hc _ _ (by omega) (by simp; omega) h3, h4, h5, hr _ h6⟩
theorem Half.snoc {w : World} {g : Nat} {k n : Int} {s : ByteArray} {l : List Tm} {c : List Ps} : ∀ {m : List Tm} {off : Nat} {cs : List Ps}, Half w g m off cs → Half w g [.mk k n s l] (off + 4 * m.length) c → Half w g (m ++ [.mk k n s l]) off (cs ++ c)
  | [], off, cs, h, h' => by rw [Half] at h; subst h; simpa using h'
  | .mk k1 n1 s1 l1 :: r, off, cs, h, h' => by
    rw [Half] at h
    rw [List.cons_append, Half]
    obtain ⟨h0, h1, h2, hs, h3⟩ := h
    have e : off + 4 * (Tm.mk k1 n1 s1 l1 :: r).length = off + 4 + 4 * r.length := by simp; omega
    rw [e] at h'
    refine ⟨h0, h1, h2, hs, ?_⟩
    rcases h3 with ⟨e, h3, h4⟩ | ⟨e, x, cs', e1, e2, h3, h4, h5, h6⟩
    · exact .inl ⟨e, h3, Half.snoc h4 h'⟩
    · exact .inr ⟨e, x, cs' ++ c, by rw [e1]; rfl, e2, h3, h4, h5, Half.snoc h6 h'⟩
/-- Where all of cs are whole, so is the row. -/
theorem Half.done {w w' : World} {g : Nat} (hk : ∀ o v, w.cell? ⟨g, o, none⟩ = some v → w'.cell? ⟨g, o, none⟩ = some v) : ∀ {m : List Tm} {off : Nat} {cs : List Ps} {B : List Nat}, Half w g m off cs → Done w' cs B → ∃ Bm, OsR w' m Bm g off ∧ Bm.Perm (cs.map Ps.g ++ B)
  | [], off, cs, B, h, hd => by
    rw [Half] at h
    subst h
    rw [Done] at hd
    subst hd
    exact ⟨[], by rw [OsR], List.Perm.refl _⟩
  | .mk k n s l :: r, off, cs, B, h, hd => by
    rw [Half] at h
    obtain ⟨h0, h1, h2, hs, h3⟩ := h
    rcases h3 with ⟨e, h3, h4⟩ | ⟨e, x, cs', e1, e2, h3, h4, h5, h6⟩
    · subst e
      obtain ⟨Bm, hb, hp⟩ := Half.done hk h4 hd
      refine ⟨[] ++ Bm, ?_, by simpa using hp⟩
      rw [OsR]
      refine ⟨[], Bm, rfl, ?_, hb⟩
      rw [OsT]
      exact ⟨hk _ _ h0, hk _ _ h1, hk _ _ h2, hs, none, 0, hk _ _ h3, Nat.le_refl _, Nat.zero_le _, by rw [OsL]⟩
    · subst e1
      rw [Done] at hd
      obtain ⟨b1, b2, eb, hr, hf, hd2⟩ := hd
      obtain ⟨Bm, hb, hp⟩ := Half.done hk h6 hd2
      rw [e2] at hr
      refine ⟨(x.g :: b1) ++ Bm, ?_, ?_⟩
      · rw [OsR]
        refine ⟨x.g :: b1, Bm, rfl, ?_, hb⟩
        rw [OsT]
        exact ⟨hk _ _ h0, hk _ _ h1, hk _ _ h2, hs, some ⟨x.g, 0, none⟩, x.c, hk _ _ h3, h4, h5, (OsL.iff e).2 ⟨x.g, 0, b1, rfl, rfl, hf, hr⟩⟩
      · rw [eb, List.map_cons, List.cons_append, List.cons_append]
        refine List.Perm.cons _ ?_
        refine (hp.append_left b1).trans ?_
        rw [← List.append_assoc, ← List.append_assoc]
        exact List.perm_append_comm.append_right b2
/-- What remains to be done makes all of l whole. -/
def Kont (l : List Tm) (g0 : Nat) (F : List Nat) (w : World) (st : List Ps) : Prop := ∀ w' B, (∀ b ∈ F, w'.heap[b]? = w.heap[b]?) → Done w' st B → ∃ bs, bs.Perm (F ++ (st.map Ps.g ++ B)) ∧ OsL w' l bs (some ⟨g0, 0, none⟩)
theorem Kont.start {l : List Tm} (hl : l ≠ []) (w : World) (g c : Nat) (ob : List Nat) : Kont l g [] w [⟨g, c, l, ob⟩] := fun w' B _ hd => by
  rw [Done] at hd
  obtain ⟨b1, b2, e, h1, h2, h3⟩ := hd
  rw [Done] at h3
  subst h3
  rw [List.append_nil] at e
  subst e
  exact ⟨g :: B, List.Perm.refl _, (OsL.iff hl).2 ⟨g, 0, B, rfl, rfl, h2, h1⟩⟩
theorem Kont.step {l : List Tm} {g0 : Nat} {F : List Nat} {wS w1 : World} {st0 cs : List Ps} {x : Ps} (h : Kont l g0 F wS (st0 ++ [x])) (hF : ∀ b ∈ F, w1.heap[b]? = wS.heap[b]?) (hh : Half w1 x.g x.m 0 cs) (hf : ∀ o, w1.frozen? ⟨x.g, o, none⟩ = false) : Kont l g0 (x.g :: F) w1 (st0 ++ cs) := fun w' B hk hd => by
  obtain ⟨B0, Bc, e, h1, h2⟩ := Done.split hd
  have hg := hk x.g (List.mem_cons_self ..)
  obtain ⟨Bm, hb, hp⟩ := Half.done (w' := w') (fun o v hv => (World.cell?_of_block (w := w1) hg).trans hv) hh h2
  obtain ⟨bs, hperm, hos⟩ := h w' (B0 ++ Bm) (fun b hb => (hk b (List.mem_cons_of_mem _ hb)).trans (hF b hb)) (Done.join h1 (by rw [Done]; exact ⟨Bm, [], by simp, hb, fun o => (World.frozen?_of_block (w := w1) hg).trans (hf o), by rw [Done]⟩))
  refine ⟨bs, hperm.trans ?_, hos⟩
  rw [e, List.map_append, List.map_append, List.map_cons, List.map_nil]
  rw [List.perm_iff_count]
  intro a
  have := (List.perm_iff_count.1 hp) a
  simp only [List.count_append, List.count_cons, List.count_nil] at this ⊢
  omega
theorem Kont.fin {l : List Tm} {g0 : Nat} {F : List Nat} {w : World} (h : Kont l g0 F w []) : ∃ bs, bs.Perm F ∧ OsL w l bs (some ⟨g0, 0, none⟩) := by
  obtain ⟨bs, h1, h2⟩ := h w [] (fun _ _ => rfl) (by rw [Done])
  exact ⟨bs, by simpa using h1, h2⟩
end Go.Proofs.YtjibnlpjpbileaaGreatDoor
