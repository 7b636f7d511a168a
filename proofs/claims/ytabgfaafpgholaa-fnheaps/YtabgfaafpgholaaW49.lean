/-
  What lies at one address is one term; what a stack of pairs of lists answers.
  (Ahead of it, in this text: Two forms held against each other: orderAlone. Lookup and update of a map whose keys are pairs of names of lists.)
-/
import Derived.Test.YtabgfaafpgholaaW38
import Derived.Test.YtabgfaafpgholaaW34
import Derived.Test.YtabgfaafpgholaaW36
namespace Go.Proofs.Ytabgfaafpgholaa
open Go.RowKit
set_option linter.unusedVariables false

theorem is_int (v : Value) (W : World) : (Instr.typeAssert (.iface 149 v) 122 149 false).run Try.prog W = .ok v W := by kernel_rfl
theorem is_atom (v : Value) (W : World) : (Instr.typeAssert (.iface 150 v) 122 150 false).run Try.prog W = .ok v W := by kernel_rfl
theorem is_pid (v : Value) (W : World) : (Instr.typeAssert (.iface 151 v) 122 151 false).run Try.prog W = .ok v W := by kernel_rfl
theorem is_tuple (v : Value) (W : World) : (Instr.typeAssert (.iface 137 v) 122 137 false).run Try.prog W = .ok v W := by kernel_rfl
theorem is_bin (v : Value) (W : World) : (Instr.typeAssert (.iface 140 v) 122 140 false).run Try.prog W = .ok v W := by kernel_rfl
theorem assert_84_85 (v : Value) (W : World) : (Instr.typeAssert (.iface 139 v) 122 140 true).run Try.prog W = .ok (.tuple #[.string ⟨#[]⟩, .bool false]) W := by kernel_rfl

set_option maxRecDepth 100000 in
set_option maxHeartbeats 1000000 in
theorem alone_int (n n' : Int) (w : World) :
    Calls Try.prog 84 #[.iface 149 (.int .i64 n), .iface 149 (.int .i64 n')] w fun e w' => e = .returned (.int .i64 (cmpI n n')) ∧ w' = w := by
  have m1 := meth_int
  have a80 := assert_80_80
  have i1 := is_int
  go_enter Try.func84, Try.ntmps84
  go_wp2_with (first | (go_at_call 153; refine (kind_int _ _).mono ?_; rintro e w1 ⟨rfl, hw⟩; obtain rfl := hw.symm) | (go_at_call 110; refine (cmp_intForm _ _ _).mono ?_; rintro e w1 ⟨rfl, hw⟩; obtain rfl := hw.symm))
  go_ret
  exact ⟨rfl, rfl⟩
set_option maxRecDepth 100000 in
set_option maxHeartbeats 1000000 in
theorem alone_atom (s s' : ByteArray) (w : World) :
    Calls Try.prog 84 #[.iface 150 (.string s), .iface 150 (.string s')] w fun e w' => e = .returned (.int .i64 (cmpS s s')) ∧ w' = w := by
  have m1 := meth_atom
  have a80 := assert_81_80
  have a81 := assert_81_81
  have i1 := is_atom
  go_enter Try.func84, Try.ntmps84
  go_wp2_with (first | (go_at_call 154; refine (kind_atom _ _).mono ?_; rintro e w1 ⟨rfl, hw⟩; obtain rfl := hw.symm) | (go_at_call 111; refine (cmp_atomForm _ _ _).mono ?_; rintro e w1 ⟨rfl, hw⟩; obtain rfl := hw.symm))
  go_ret
  exact ⟨rfl, rfl⟩
set_option maxRecDepth 100000 in
set_option maxHeartbeats 1000000 in
theorem alone_pid (n n' : Int) (w : World) :
    Calls Try.prog 84 #[.iface 151 (.int .i64 n), .iface 151 (.int .i64 n')] w fun e w' => e = .returned (.int .i64 (cmpI n n')) ∧ w' = w := by
  have m1 := meth_pid
  have a80 := assert_82_80
  have a81 := assert_82_81
  have a82 := assert_82_82
  have i1 := is_pid
  go_enter Try.func84, Try.ntmps84
  go_wp2_with (first | (go_at_call 155; refine (kind_pid _ _).mono ?_; rintro e w1 ⟨rfl, hw⟩; obtain rfl := hw.symm) | (go_at_call 112; refine (cmp_pidForm _ _ _).mono ?_; rintro e w1 ⟨rfl, hw⟩; obtain rfl := hw.symm))
  go_ret
  exact ⟨rfl, rfl⟩
set_option maxRecDepth 100000 in
set_option maxHeartbeats 1000000 in
theorem alone_tuple (ao ao' : Option Addr) (len len' cap cap' : Nat) (w : World) :
    Calls Try.prog 84 #[.iface 137 (.slice ao len cap), .iface 137 (.slice ao' len' cap')] w fun e w' => e = .returned (.int .i64 (cmpI len len')) ∧ w' = w := by
  have m1 := meth_tuple
  have a80 := assert_83_80
  have a81 := assert_83_81
  have a82 := assert_83_82
  have a83 := assert_83_83
  have i1 := is_tuple
  go_enter Try.func84, Try.ntmps84
  go_wp2_with (first | (go_at_call 150; refine (kind_tuple _ _).mono ?_; rintro e w1 ⟨rfl, hw⟩; obtain rfl := hw.symm) | (go_at_call 82; refine (cmpInt_any _ _ _).mono ?_; rintro e w1 ⟨rfl, hw⟩; obtain rfl := hw.symm))
  go_ret
  exact ⟨rfl, rfl⟩
set_option maxRecDepth 100000 in
set_option maxHeartbeats 1000000 in
theorem alone_list (x x' : Value) (w : World) :
    Calls Try.prog 84 #[.iface 139 (x), .iface 139 (x')] w fun e w' => e = .returned (.int .i64 (0)) ∧ w' = w := by
  have m1 := meth_list
  have a80 := assert_84_80
  have a81 := assert_84_81
  have a82 := assert_84_82
  have a83 := assert_84_83
  have a85 := assert_84_85
  go_enter Try.func84, Try.ntmps84
  go_wp2_with (first | (go_at_call 151; refine (kind_list _ _).mono ?_; rintro e w1 ⟨rfl, hw⟩; obtain rfl := hw.symm))
  go_ret
  exact ⟨rfl, rfl⟩
set_option maxRecDepth 100000 in
set_option maxHeartbeats 1000000 in
theorem alone_bin (s s' : ByteArray) (w : World) :
    Calls Try.prog 84 #[.iface 140 (.string s), .iface 140 (.string s')] w fun e w' => e = .returned (.int .i64 (cmpS s s')) ∧ w' = w := by
  have m1 := meth_bin
  have a80 := assert_85_80
  have a81 := assert_85_81
  have a82 := assert_85_82
  have a83 := assert_85_83
  have a85 := assert_85_85
  have i1 := is_bin
  go_enter Try.func84, Try.ntmps84
  go_wp2_with (first | (go_at_call 152; refine (kind_bin _ _).mono ?_; rintro e w1 ⟨rfl, hw⟩; obtain rfl := hw.symm) | (go_at_call 113; refine (cmp_binForm _ _ _).mono ?_; rintro e w1 ⟨rfl, hw⟩; obtain rfl := hw.symm))
  go_ret
  exact ⟨rfl, rfl⟩
set_option maxRecDepth 100000 in
set_option maxHeartbeats 1000000 in
theorem alone_no (k : Int) (w : World) :
    Calls Try.prog 84 #[.iface 152 (.int .i64 k), .iface 152 (.int .i64 k)] w fun e w' => e = .returned (.int .i64 (0)) ∧ w' = w := by
  have m1 := meth_no
  have a80 := assert_86_80
  have a81 := assert_86_81
  have a82 := assert_86_82
  have a83 := assert_86_83
  have a85 := assert_86_85
  go_enter Try.func84, Try.ntmps84
  go_wp2_with (first | (go_at_call 156; refine (kind_no _ _).mono ?_; rintro e w1 ⟨rfl, hw⟩; obtain rfl := hw.symm))
  go_ret
  exact ⟨rfl, rfl⟩

/-- Both forms of two terms. -/
theorem orderAlone_any (k n : Int) (s : ByteArray) (ao : Option Addr) (len cap : Nat) (k' n' : Int) (s' : ByteArray) (ao' : Option Addr) (len' cap' : Nat) (w : World) :
    Calls Try.prog 84 #[frm k n s (.slice ao len cap), frm k' n' s' (.slice ao' len' cap')] w fun e w' => e = .returned (.int .i64 (thenC (cmpI k k') (ownC k n s len n' s' len'))) ∧ w' = w := by
  by_cases he : k = k'
  · subst he
    have h0 : cmpI k k = 0 := (cmpI_zero k k).2 rfl
    have h1 : thenC (cmpI k k) (ownC k n s len n' s' len') = ownC k n s len n' s' len' := by unfold thenC; rw [if_pos h0]
    rw [h1]
    by_cases hk : 1 ≤ k ∧ k ≤ 6
    · rcases kinds hk with rfl | rfl | rfl | rfl | rfl | rfl
      · exact alone_int n n' w
      · exact alone_atom s s' w
      · exact alone_pid n n' w
      · exact alone_tuple ao ao' len len' cap cap' w
      · exact alone_list _ _ w
      · exact alone_bin s s' w
    · have h2 : ownC k n s len n' s' len' = 0 := by
        unfold ownC
        rw [if_neg (by omega), if_neg (by omega), if_neg (by omega)]
      rw [h2, frm_no n s _ hk, frm_no n' s' _ hk]
      exact alone_no k w
  · have h1 : thenC (cmpI k k') (ownC k n s len n' s' len') = cmpI k k' := by
      unfold thenC; rw [if_neg (fun h => he ((cmpI_zero k k').1 h))]
    rw [h1]
    obtain ⟨t, u, f, h⟩ := fm_of k n s (.slice ao len cap)
    obtain ⟨t', u', f', h'⟩ := fm_of k' n' s' (.slice ao' len' cap')
    exact alone_unlike h h' he w
end Go.Proofs.Ytabgfaafpgholaa
namespace Go.Proofs.Ytabgfaafpgholaa
open Go.RowKit
set_option linter.unusedVariables false

theorem checkKey_nm {w : World} (p : Value) (n : Value) (em : Bool) (d : Nat) : (Instr.checkKey em (d + 2) 128 (.agg #[p, n])).run Try.prog w = .ok () w := by
  obtain ⟨f1, f2, hu, e1, e2, e3, e4, e5, e6⟩ := undName
  have p1 : ∀ (x y : Value), (part 126 #[x, y] 0).run Try.prog w = .ok x w := fun x y => by simp [part]
  have p2 : ∀ (x y : Value), (part 3 #[x, y] 1).run Try.prog w = .ok y w := fun x y => by simp [part]
  have c1 : ∀ v, (Instr.checkKey em (d + 1) 126 v).run Try.prog w = .ok () w := fun v => by simp [Instr.checkKey, run_underlying ptrTerm]
  have c2 : ∀ v, (Instr.checkKey em (d + 1) 3 v).run Try.prog w = .ok () w := fun v => by simp [Instr.checkKey, run_underlying Try.underlying3]
  rw [show d + 2 = (d + 1) + 1 from rfl, Instr.checkKey]
  simp only [Sem.run_bind, run_underlying hu, Result.andThen_ok]
  simp [e1, e2, e3, e4, e5, e6, p1, p2, c1, c2]
theorem checkKey_pair {w : World} (x y : Nm) (em : Bool) (d : Nat) : (Instr.checkKey em (d + 3) 130 (kV x y)).run Try.prog w = .ok () w := by
  obtain ⟨i, hi⟩ := infoName
  have c1 := fun p n => checkKey_nm (w := w) p n em d
  have hs : (sizeOf 128).run Try.prog w = .ok 2 w := by kernel_rfl
  rw [kV, show d + 3 = (d + 2) + 1 from rfl, Instr.checkKey]
  simp only [Sem.run_bind, run_underlying undPair, Result.andThen_ok]
  simp only [Std.Legacy.Range.forIn_eq_forIn_range', Std.Legacy.Range.size, Nat.sub_zero, Nat.add_one_sub_one, Nat.div_one]
  have r : List.range' 0 2 = [0, 1] := rfl
  rw [r]
  simp [hs, partName, c1]
theorem PlainP.heap {w w' : World} (e : w'.heap = w.heap) : ∀ {p : Option (Nat × Nat)}, PlainP w p → PlainP w' p
  | none, _ => trivial
  | some (b, o), ⟨⟨c, t, f, h1⟩, h2⟩ => ⟨⟨c, t, f, by rw [e]; exact h1⟩, fun y => by rw [World.frozen?_of_block (w := w) (by rw [e])]; exact h2 y⟩
theorem PlainP.turn {w w' : World} {mb : Nat} (ht : Turn mb w w') (hm : ∀ b, Plain w b → b ≠ mb) : ∀ {p : Option (Nat × Nat)}, PlainP w p → PlainP w' p
  | none, _ => trivial
  | some (b, o), h => Plain.turn ht (hm b h) h
/-- Lookup, in every world that has this heap. -/
theorem lookup_pair {w : World} {mb : Nat} {S : Nm → Nm → Prop} (h : PrMap w mb S) {x y : Nm} (hx : PlainP w x.1) (hy : PlainP w y.1) :
    ∃ q, (∀ w' : World, w'.heap = w.heap → (Instr.lookup 119 (.map (some mb)) (kV x y) true).run Try.prog w' = .ok (.tuple #[.agg #[], .bool q]) w') ∧ (q = true → S x y) := by
  obtain ⟨es, clk, hm, he⟩ := h
  have hc : ∀ w' : World, (Instr.checkKey es.isEmpty 10000 130 (kV x y)).run Try.prog w' = .ok () w' := fun w' => checkKey_pair x y es.isEmpty 9997
  have hf : ∀ w' : World, w'.heap = w.heap → (Instr.findKey 130 (kV x y) es.toList).run Try.prog w' = .ok (nmFind (kV x y) es.toList 0) w' := fun w' e =>
    findKey_pair (hx.heap e) (hy.heap e) es.toList (fun z hz => by obtain ⟨x', y', k1, k2, k3, k4, k5⟩ := he z hz; exact ⟨x', y', k1, k2.heap e, k3.heap e, k4, k5⟩)
  cases hr : nmFind (kV x y) es.toList 0 with
  | none =>
    refine ⟨false, fun w' e => ?_, fun h => by cases h⟩
    have h1 := hf w' e
    rw [hr] at h1
    have hm' : w'.heap[mb]? = some (.map es clk) := by rw [e]; exact hm
    simp [Instr.lookup, run_underlying undPm, MapKept.run_getObj_map hm', hc, h1]
  | some z =>
    obtain ⟨j, v⟩ := z
    obtain ⟨e0, m1, m2, m3⟩ := nmFind_hit hr
    obtain ⟨x', y', k1, k2, k3, k4, k5⟩ := he e0 m1
    obtain ⟨rfl, rfl⟩ := kV_inj (k1.symm.trans m2)
    refine ⟨true, fun w' e => ?_, fun _ => k4⟩
    have h1 := hf w' e
    rw [hr] at h1
    rw [← m3, k5] at h1
    have hm' : w'.heap[mb]? = some (.map es clk) := by rw [e]; exact hm
    simp [Instr.lookup, run_underlying undPm, MapKept.run_getObj_map hm', hc, h1]
theorem nmFind_from {k : Value} : ∀ {es : List MapEntry} {i j : Nat} {v : Value}, nmFind k es i = some (j, v) → i ≤ j ∧ ∃ e, es[j - i]? = some e ∧ e.key = k
  | [], i, j, v, h => by simp [nmFind] at h
  | e :: es, i, j, v, h => by
    rw [nmFind] at h
    split at h
    · rename_i hk
      simp only [Option.some.injEq, Prod.mk.injEq] at h
      obtain ⟨rfl, _⟩ := h
      exact ⟨Nat.le_refl _, e, by simp, hk⟩
    · obtain ⟨h1, e', h2, h3⟩ := nmFind_from h
      refine ⟨by omega, e', ?_, h3⟩
      rw [show j - i = (j - (i + 1)) + 1 by omega, List.getElem?_cons_succ]
      exact h2
theorem nmFind_at {k : Value} {es : List MapEntry} {j : Nat} {v : Value} (h : nmFind k es 0 = some (j, v)) : ∃ e, es[j]? = some e ∧ e.key = k := (nmFind_from h).2
theorem stays_pair {w : World} (x y : Nm) : (Instr.keyThatStays (kV x y) (kV x y)).run Try.prog w = .ok (kV x y) w := by
  have : Instr.sameBits 10000 (kV x y) (kV x y) = true := by
    show Instr.sameBits (9998 + 1 + 1) _ _ = true
    obtain ⟨p, n⟩ := x
    obtain ⟨q, m⟩ := y
    rcases p with _ | ⟨b, o⟩ <;> rcases q with _ | ⟨b', o'⟩ <;> simp [kV, npV, Instr.sameBits]
  simp [Instr.keyThatStays, this]
theorem update_pair {w : World} {mb : Nat} {S : Nm → Nm → Prop} (h : PrMap w mb S) {x y : Nm} (hx : PlainP w x.1) (hy : PlainP w y.1) :
    ∃ w', (Instr.mapUpdate 119 (.map (some mb)) (kV x y) (.agg #[])).run Try.prog w = .ok () w' ∧ Turn mb w w' ∧ PrMap w' mb (fun a b => S a b ∨ (a = x ∧ b = y)) := by
  obtain ⟨es, clk, hm, he⟩ := h
  have hc : (Instr.checkKey false 10000 130 (kV x y)).run Try.prog w = .ok () w := checkKey_pair x y false 9997
  have hml : mb < w.heap.size := by
    rcases Nat.lt_or_ge mb w.heap.size with h | h
    · exact h
    · rw [Array.getElem?_eq_none h] at hm; cases hm
  have hpl : ∀ b, Plain w b → b ≠ mb := fun b hb e => by
    subst e
    obtain ⟨⟨c, t, f, h⟩, _⟩ := hb
    rw [hm] at h; cases h
  have turn : ∀ O, Turn mb w { w with heap := w.heap.setIfInBounds mb O } := fun O => ⟨rfl, rfl, rfl, by simp, fun k hk hne => by
    show (w.heap.setIfInBounds mb O)[k]? = _
    rw [Array.getElem?_setIfInBounds_ne (Ne.symm hne)]⟩
  have new : ∀ O, ({ w with heap := w.heap.setIfInBounds mb O } : World).heap[mb]? = some O := fun O => by
    show (w.heap.setIfInBounds mb O)[mb]? = _
    rw [Array.getElem?_setIfInBounds_self_of_lt hml]
  have old : ∀ O e, PrE w S e → PrE { w with heap := w.heap.setIfInBounds mb O } (fun a b => S a b ∨ (a = x ∧ b = y)) e := fun O e ⟨x', y', k1, k2, k3, k4, k5⟩ =>
    ⟨x', y', k1, k2.turn (turn O) hpl, k3.turn (turn O) hpl, .inl k4, k5⟩
  have mine : ∀ O cl, PrE { w with heap := w.heap.setIfInBounds mb O } (fun a b => S a b ∨ (a = x ∧ b = y)) ⟨kV x y, .agg #[], cl⟩ := fun O cl =>
    ⟨x, y, rfl, hx.turn (turn O) hpl, hy.turn (turn O) hpl, .inr ⟨rfl, rfl⟩, rfl⟩
  have h0 := findKey_pair hx hy es.toList he
  cases hr : nmFind (kV x y) es.toList 0 with
  | none =>
    rw [hr] at h0
    refine ⟨{ w with heap := w.heap.setIfInBounds mb (.map (es.push ⟨kV x y, .agg #[], clk⟩) (clk + 1)) }, by simp [Instr.mapUpdate, run_underlying undPm, MapKept.run_getObj_map hm, hc, h0, MapKept.run_setObj_map _ hm], turn _, _, _, new _, ?_⟩
    intro z hz
    simp only [Array.toList_push, List.mem_append, List.mem_singleton] at hz
    rcases hz with hz | rfl
    · exact old _ z (he z hz)
    · exact mine _ _
  | some r =>
    obtain ⟨j, v⟩ := r
    rw [hr] at h0
    obtain ⟨e, hj, hk⟩ := nmFind_at hr
    have hj' : es[j]? = some e := by simpa using hj
    refine ⟨{ w with heap := w.heap.setIfInBounds mb (.map (es.modify j fun e' => { e' with key := kV x y, val := .agg #[] }) clk) }, by simp [Instr.mapUpdate, run_underlying undPm, MapKept.run_getObj_map hm, hc, h0, hj', hk, stays_pair, MapKept.run_setObj_map _ hm], turn _, _, _, new _, ?_⟩
    intro z hz
    rcases MapFrom.mem_modify hz with hz | ⟨e', _, rfl⟩
    · exact old _ z (he z hz)
    · exact mine _ _
theorem PrMap.mono {w : World} {mb : Nat} {S S' : Nm → Nm → Prop} (h : PrMap w mb S) (hs : ∀ x y, S x y → S' x y) : PrMap w mb S' := by
  obtain ⟨es, clk, hm, he⟩ := h
  exact ⟨es, clk, hm, fun e hx => by obtain ⟨x', y', k1, k2, k3, k4, k5⟩ := he e hx; exact ⟨x', y', k1, k2, k3, hs _ _ k4, k5⟩⟩
/-- Another world that keeps the map and all blocks of cells that are named. -/
theorem PrMap.keep {w w' : World} {mb : Nat} {S : Nm → Nm → Prop} (h : PrMap w mb S) (hm : w'.heap[mb]? = w.heap[mb]?) (hk : ∀ x y, S x y → PlainP w x.1 → PlainP w y.1 → PlainP w' x.1 ∧ PlainP w' y.1) : PrMap w' mb S := by
  obtain ⟨es, clk, hm', he⟩ := h
  exact ⟨es, clk, hm.trans hm', fun e hx => by obtain ⟨x', y', k1, k2, k3, k4, k5⟩ := he e hx; exact ⟨x', y', k1, (hk _ _ k4 k2 k3).1, (hk _ _ k4 k2 k3).2, k4, k5⟩⟩
end Go.Proofs.Ytabgfaafpgholaa
namespace Go.Proofs.Ytabgfaafpgholaa
open Go.RowKit
set_option linter.unusedVariables false

theorem repT_one {B B' : Nat} {w : World} : ∀ (t t' : Tm) (b off : Nat), RepT B w t b off → RepT B' w t' b off → t = t' := by
  refine Tm.ind ?_
  intro k n s l ih t' b off h h'
  obtain ⟨k', n', s', l'⟩ := t'
  rw [RepT] at h h'
  obtain ⟨h0, h1, h2, _, ao, cap, h3, _, _, hr⟩ := h
  obtain ⟨g0, g1, g2, _, ao', cap', g3, _, _, gr⟩ := h'
  rw [h0] at g0
  rw [h1] at g1
  rw [h2] at g2
  rw [h3] at g3
  simp only [Option.some.injEq, Value.int.injEq, Value.string.injEq, Value.slice.injEq, true_and] at g0 g1 g2 g3
  obtain ⟨rfl, hlen, _⟩ := g3
  have hl : ∀ (l l' : List Tm) (ao : Option Addr), (∀ t, t ∈ l → ∀ (t' : Tm) (b off : Nat), RepT B w t b off → RepT B' w t' b off → t = t') → l.length = l'.length → RepL B w l ao → RepL B' w l' ao → l = l' := by
    intro l
    induction l with
    | nil => intro l' ao _ e _ _; exact (List.length_eq_zero_iff.1 e.symm).symm
    | cons t r ihr =>
      intro l' ao hi e h h'
      rcases l' with _ | ⟨t', r'⟩
      · simp at e
      rw [RepL] at h h'
      obtain ⟨b1, o1, rfl, _, q1, q2⟩ := h
      obtain ⟨b2, o2, e2, _, p1, p2⟩ := h'
      simp only [Option.some.injEq, Addr.mk.injEq, and_true] at e2
      obtain ⟨rfl, rfl⟩ := e2
      rw [hi t (List.mem_cons_self ..) t' _ _ q1 p1, ihr r' _ (fun x hx => hi x (List.mem_cons_of_mem _ hx)) (by simpa using e) q2 p2]
  rw [hl l l' ao ih hlen hr gr, g0, g1, g2]
theorem repL_one {B B' : Nat} {w : World} : ∀ (l l' : List Tm) (ao : Option Addr), l.length = l'.length → RepL B w l ao → RepL B' w l' ao → l = l' := by
  intro l
  induction l with
  | nil => intro l' ao e _ _; exact (List.length_eq_zero_iff.1 e.symm).symm
  | cons t r ihr =>
    intro l' ao e h h'
    rcases l' with _ | ⟨t', r'⟩
    · simp at e
    rw [RepL] at h h'
    obtain ⟨b1, o1, rfl, _, q1, q2⟩ := h
    obtain ⟨b2, o2, e2, _, p1, p2⟩ := h'
    simp only [Option.some.injEq, Addr.mk.injEq, and_true] at e2
    obtain ⟨rfl, rfl⟩ := e2
    rw [repT_one t t' _ _ q1 p1, ihr r' _ (by simpa using e) q2 p2]

/-- What a stack of pairs of lists answers, its top first. -/
def stackC : List (List Tm × List Tm) → Int
  | [] => 0
  | (a, b) :: r => thenC (cmpL a b) (stackC r)
theorem thenC_assoc (a b c : Int) : thenC (thenC a b) c = thenC a (thenC b c) := by
  unfold thenC
  by_cases h : a = 0
  · simp [h]
  · simp [h]
theorem thenC_zero (a : Int) : thenC 0 a = a := by simp [thenC]
/-- What stands within, of a kind that has it. -/
def wiL (k : Int) (l : List Tm) : List Tm := if k = 4 ∨ k = 5 then l else []
theorem cmpL_nil : cmpL [] [] = 0 := by rw [cmpL]
/-- Two kinds that are one: within is held against within. -/
theorem cmpT_in (k n : Int) (s : ByteArray) (l : List Tm) (k' n' : Int) (s' : ByteArray) (l' : List Tm) :
    cmpT (.mk k n s l) (.mk k' n' s' l') = thenC (thenC (cmpI k k') (ownC k n s l.length n' s' l'.length)) (if k = k' then cmpL (wiL k l) (wiL k' l') else 0) := by
  rw [cmpT, thenC_assoc]
  by_cases h : k = k'
  · subst h
    rw [if_pos rfl]
    unfold wiL
    by_cases h2 : k = 4 ∨ k = 5
    · rw [if_pos h2, if_pos h2, if_pos h2]
    · rw [if_neg h2, if_neg h2, if_neg h2, cmpL_nil]
  · have h0 : cmpI k k' ≠ 0 := fun e => h ((cmpI_zero k k').1 e)
    unfold thenC
    rw [if_neg h0, if_neg h0]
theorem stackC_step (k n : Int) (s : ByteArray) (l : List Tm) (k' n' : Int) (s' : ByteArray) (l' : List Tm) (r r' : List Tm) (st : List (List Tm × List Tm)) (h0 : thenC (cmpI k k') (ownC k n s l.length n' s' l'.length) = 0) :
    stackC ((.mk k n s l :: r, .mk k' n' s' l' :: r') :: st) = stackC ((wiL k l, wiL k' l') :: (r, r') :: st) := by
  have hk : k = k' := by
    apply (cmpI_zero k k').1
    unfold thenC at h0
    split at h0
    · assumption
    · exact h0
  rw [stackC, cmpL, stackC, stackC, cmpT_in, h0, thenC_zero, if_pos hk, thenC_assoc]
theorem stackC_unlike (k n : Int) (s : ByteArray) (l : List Tm) (k' n' : Int) (s' : ByteArray) (l' : List Tm) (r r' : List Tm) (st : List (List Tm × List Tm)) (h0 : thenC (cmpI k k') (ownC k n s l.length n' s' l'.length) ≠ 0) :
    stackC ((.mk k n s l :: r, .mk k' n' s' l' :: r') :: st) = thenC (cmpI k k') (ownC k n s l.length n' s' l'.length) := by
  rw [stackC, cmpL, cmpT_in]
  generalize thenC (cmpI k k') (ownC k n s l.length n' s' l'.length) = c at h0
  rw [thenC_assoc, thenC_assoc]
  unfold thenC
  rw [if_neg h0]
theorem stackC_ends (l l' : List Tm) (st : List (List Tm × List Tm)) (h : l = [] ∨ l' = []) (hne : l.length ≠ l'.length) : stackC ((l, l') :: st) = cmpI l.length l'.length := by
  rw [stackC]
  rcases l with _ | ⟨x, r⟩ <;> rcases l' with _ | ⟨y, s⟩
  · exact absurd rfl hne
  · rw [cmpL]
    unfold thenC cmpI
    rw [if_neg (by decide), if_pos (by simp)]
  · rw [cmpL]
    unfold thenC cmpI
    rw [if_neg (by decide), if_neg (by simp; omega), if_pos (by simp)]
  · simp at h
theorem stackC_pop (st : List (List Tm × List Tm)) : stackC (([], []) :: st) = stackC st := by rw [stackC, cmpL_nil, thenC_zero]

mutual
/-- How many terms there are. -/
def cntT : Tm → Nat
  | .mk _ _ _ l => 1 + cntL l
def cntL : List Tm → Nat
  | [] => 0
  | t :: r => cntT t + cntL r
end
theorem cnt_in (k n : Int) (s : ByteArray) (l r : List Tm) : cntL (wiL k l) < cntL (.mk k n s l :: r) ∧ cntL r ≤ cntL (.mk k n s l :: r) := by
  rw [cntL, cntT]
  unfold wiL
  split
  · omega
  · rw [cntL]; omega
/-- What is known of two lists that have met: they are the same, or what is still open of them stands on the stack. -/
def Mok (st : List (List Tm × List Tm)) (l l' : List Tm) : Prop :=
  cmpL l l' = 0 ∨ ∃ top rest, st = top ++ rest ∧ cmpL l l' = stackC top ∧ ∀ p ∈ top, cntL p.1 ≤ cntL l
theorem Mok.pop {st : List (List Tm × List Tm)} {l l' : List Tm} (h : Mok (([], []) :: st) l l') : Mok st l l' := by
  rcases h with h | ⟨top, rest, e, h1, h2⟩
  · exact .inl h
  rcases top with _ | ⟨p, top⟩
  · exact .inl h1
  simp only [List.cons_append, List.cons.injEq] at e
  obtain ⟨rfl, rfl⟩ := e
  exact .inr ⟨top, rest, rfl, by rw [h1, stackC_pop], fun p hp => h2 p (List.mem_cons_of_mem _ hp)⟩
theorem Mok.push {k n : Int} {s : ByteArray} {i : List Tm} {k' n' : Int} {s' : ByteArray} {i' : List Tm} {r r' : List Tm} {st : List (List Tm × List Tm)} {l l' : List Tm}
    (h0 : thenC (cmpI k k') (ownC k n s i.length n' s' i'.length) = 0) (h : Mok ((.mk k n s i :: r, .mk k' n' s' i' :: r') :: st) l l') : Mok ((wiL k i, wiL k' i') :: (r, r') :: st) l l' := by
  rcases h with h | ⟨top, rest, e, h1, h2⟩
  · exact .inl h
  rcases top with _ | ⟨p, top⟩
  · exact .inl h1
  simp only [List.cons_append, List.cons.injEq] at e
  obtain ⟨rfl, rfl⟩ := e
  have hc := h2 _ (List.mem_cons_self ..)
  have hn := cnt_in k n s i r
  refine .inr ⟨(wiL k i, wiL k' i') :: (r, r') :: top, rest, rfl, by rw [h1, stackC_step _ _ _ _ _ _ _ _ _ _ _ h0], ?_⟩
  intro p hp
  simp only [List.mem_cons] at hp
  rcases hp with rfl | rfl | hp
  · show cntL (wiL k i) ≤ _
    have hc' : cntL (.mk k n s i :: r) ≤ cntL l := hc
    omega
  · show cntL r ≤ _
    have hc' : cntL (.mk k n s i :: r) ≤ cntL l := hc
    omega
  · exact h2 p (List.mem_cons_of_mem _ hp)
theorem thenC_right (a : Int) : thenC a 0 = a := by unfold thenC; split <;> simp_all
theorem Mok.new (i i' : List Tm) (st : List (List Tm × List Tm)) : Mok ((i, i') :: st) i i' :=
  .inr ⟨[(i, i')], st, rfl, by rw [stackC, stackC, thenC_right], fun p hp => by simp only [List.mem_singleton] at hp; subst hp; exact Nat.le_refl _⟩
/-- Two lists within the top that have met are the same. -/
theorem Mok.same {k n : Int} {s : ByteArray} {i : List Tm} {t' : Tm} {i' : List Tm} {r r' : List Tm} {st : List (List Tm × List Tm)}
    (h : Mok ((.mk k n s i :: r, t' :: r') :: st) (wiL k i) i') : cmpL (wiL k i) i' = 0 := by
  rcases h with h | ⟨top, rest, e, h1, h2⟩
  · exact h
  rcases top with _ | ⟨p, top⟩
  · exact h1
  simp only [List.cons_append, List.cons.injEq] at e
  obtain ⟨rfl, rfl⟩ := e
  have hc : cntL (.mk k n s i :: r) ≤ cntL (wiL k i) := h2 _ (List.mem_cons_self ..)
  have := (cnt_in k n s i r).1
  omega
theorem Mok.skip {k n : Int} {s : ByteArray} {i : List Tm} {k' n' : Int} {s' : ByteArray} {i' : List Tm} {r r' : List Tm} {st : List (List Tm × List Tm)} {l l' : List Tm}
    (h0 : thenC (cmpI k k') (ownC k n s i.length n' s' i'.length) = 0) (hz : cmpL (wiL k i) (wiL k' i') = 0) (h : Mok ((.mk k n s i :: r, .mk k' n' s' i' :: r') :: st) l l') : Mok ((r, r') :: st) l l' := by
  rcases h.push h0 with h | ⟨top, rest, e, h1, h2⟩
  · exact .inl h
  rcases top with _ | ⟨p, top⟩
  · exact .inl h1
  simp only [List.cons_append, List.cons.injEq] at e
  obtain ⟨rfl, e⟩ := e
  rw [stackC, hz, thenC_zero] at h1
  rw [e]
  exact .inr ⟨top, rest, rfl, h1, fun p hp => h2 p (List.mem_cons_of_mem _ hp)⟩
theorem stackC_skip {k n : Int} {s : ByteArray} {i : List Tm} {k' n' : Int} {s' : ByteArray} {i' : List Tm} {r r' : List Tm} {st : List (List Tm × List Tm)}
    (h0 : thenC (cmpI k k') (ownC k n s i.length n' s' i'.length) = 0) (hz : cmpL (wiL k i) (wiL k' i') = 0) : stackC ((.mk k n s i :: r, .mk k' n' s' i' :: r') :: st) = stackC ((r, r') :: st) := by
  rw [stackC_step _ _ _ _ _ _ _ _ _ _ _ h0, stackC, hz, thenC_zero]
end Go.Proofs.Ytabgfaafpgholaa
