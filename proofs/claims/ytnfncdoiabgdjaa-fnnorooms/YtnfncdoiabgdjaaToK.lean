/-
  The order of terms, as reckoning: two right terms that are not told apart are one.
-/
import Derived.Test.YtnfncdoiabgdjaaOrA
import Derived.Test.YtnfncdoiabgdjaaToH
namespace Go.Proofs.Ytnfncdoiabgdjaa
open Go.RowKit
set_option linter.unusedVariables false

theorem thenC_iff {a b : Int} : thenC a b = 0 ↔ a = 0 ∧ b = 0 := by
  unfold thenC
  by_cases h : a = 0
  · rw [if_pos h]; exact ⟨fun e => ⟨h, e⟩, fun e => e.2⟩
  · rw [if_neg h]; exact ⟨fun e => absurd e h, fun e => absurd e.1 h⟩
theorem ba_ext {s t : ByteArray} (h : s.toList = t.toList) : s = t := by
  rw [ByteArray.toList_eq, ByteArray.toList_eq] at h
  obtain ⟨⟨a⟩⟩ := s
  obtain ⟨⟨b⟩⟩ := t
  have : a = b := h
  rw [this]
theorem ownC_self (k n : Int) (s : ByteArray) (a : Nat) : ownC k n s a n s a = 0 := by
  have := own_anti k n s a n s a
  omega
theorem cmpT_self (t : Tm) : cmpT t t = 0 := by
  have := cmpT_anti t t
  omega
theorem cmpL_self : ∀ l : List Tm, cmpL l l = 0
  | [] => by rw [cmpL]
  | t :: r => by rw [cmpL]; exact thenC_iff.2 ⟨cmpT_self t, cmpL_self r⟩
theorem cmpT_zero : ∀ a b : Tm, WfT a → WfT b → cmpT a b = 0 → a = b := by
  refine Tm.ind ?_
  intro k n s l ih
  have hl : ∀ (r m : List Tm), (∀ t, t ∈ r → t ∈ l) → (∀ t, t ∈ r → WfT t) → (∀ t, t ∈ m → WfT t) → cmpL r m = 0 → r = m := by
    intro r
    induction r with
    | nil =>
      intro m _ _ _ h
      cases m with
      | nil => rfl
      | cons y m => rw [cmpL] at h; exact absurd h (by decide)
    | cons x r ihr =>
      intro m hr hw hw' h
      cases m with
      | nil => rw [cmpL] at h; exact absurd h (by decide)
      | cons y m =>
        rw [cmpL] at h
        obtain ⟨h1, h2⟩ := thenC_iff.1 h
        rw [ih x (hr x (List.mem_cons_self ..)) y (hw x (List.mem_cons_self ..)) (hw' y (List.mem_cons_self ..)) h1, ihr m (fun t ht => hr t (List.mem_cons_of_mem _ ht)) (fun t ht => hw t (List.mem_cons_of_mem _ ht)) (fun t ht => hw' t (List.mem_cons_of_mem _ ht)) h2]
  rintro ⟨k', n', s', l'⟩ hw hw' h
  rw [cmpT] at h
  obtain ⟨h1, h2⟩ := thenC_iff.1 h
  obtain ⟨h3, h4⟩ := thenC_iff.1 h2
  have e1 := (cmpI_zero _ _).1 h1
  subst e1
  rw [WfT] at hw hw'
  obtain ⟨p, _, q⟩ := hw
  obtain ⟨p', _, q'⟩ := hw'
  unfold ownC at h3
  rcases p with ⟨rfl, rfl, rfl, _, _⟩ | ⟨rfl, rfl, rfl, _⟩ | ⟨rfl, rfl, rfl, _, _⟩ | ⟨hk, rfl, rfl⟩ | ⟨rfl, rfl, rfl, _⟩
  · have h5 := (cmpI_zero n n').1 (by simpa using h3)
    rcases p' with ⟨_, rfl, rfl, _, _⟩ | ⟨e, _⟩ | ⟨e, _⟩ | ⟨e, _⟩ | ⟨e, _⟩
    · rw [h5]
    all_goals exact absurd e (by decide)
  · have h5 := ba_ext ((cmpS_zero s s').1 (by simpa using h3))
    rcases p' with ⟨e, _⟩ | ⟨_, rfl, rfl, _⟩ | ⟨e, _⟩ | ⟨e, _⟩ | ⟨e, _⟩
    · exact absurd e (by decide)
    · rw [h5]
    all_goals exact absurd e (by decide)
  · have h5 := (cmpI_zero n n').1 (by simpa using h3)
    rcases p' with ⟨e, _⟩ | ⟨e, _⟩ | ⟨_, rfl, rfl, _, _⟩ | ⟨e, _⟩ | ⟨e, _⟩
    · exact absurd e (by decide)
    · exact absurd e (by decide)
    · rw [h5]
    all_goals exact absurd e (by decide)
  · rw [if_pos hk] at h4
    have h5 := hl l l' (fun t ht => ht) q q' h4
    rcases p' with ⟨e, _⟩ | ⟨e, _⟩ | ⟨e, _⟩ | ⟨_, rfl, rfl⟩ | ⟨e, _⟩
    · omega
    · omega
    · omega
    · rw [h5]
    · omega
  · have h5 := ba_ext ((cmpS_zero s s').1 (by simpa using h3))
    rcases p' with ⟨e, _⟩ | ⟨e, _⟩ | ⟨e, _⟩ | ⟨e, _⟩ | ⟨_, rfl, rfl, _⟩
    · exact absurd e (by decide)
    · exact absurd e (by decide)
    · exact absurd e (by decide)
    · exact absurd e (by decide)
    · rw [h5]
/-- Two lists that are one so far. -/
theorem cmpL_take : ∀ (j : Nat) (l l' : List Tm), l.take j = l'.take j → j ≤ l.length → j ≤ l'.length → cmpL l l' = cmpL (l.drop j) (l'.drop j)
  | 0, l, l', _, _, _ => rfl
  | j + 1, [], l', _, h, _ => absurd h (Nat.not_succ_le_zero _)
  | j + 1, _ :: _, [], _, _, h => absurd h (Nat.not_succ_le_zero _)
  | j + 1, x :: r, y :: m, e, h, h' => by
    simp only [List.take_succ_cons, List.cons.injEq] at e
    obtain ⟨rfl, e⟩ := e
    rw [cmpL, cmpT_self]
    unfold thenC
    rw [if_pos rfl]
    simp only [List.drop_succ_cons]
    exact cmpL_take j r m e (by simpa using h) (by simpa using h')
theorem cmpL_at {j : Nat} {l l' : List Tm} (h : l.take j = l'.take j) (h1 : j < l.length) (h2 : j < l'.length) (hn : cmpT l[j] l'[j] ≠ 0) : cmpL l l' = cmpT l[j] l'[j] := by
  rw [cmpL_take j l l' h (by omega) (by omega), List.drop_eq_getElem_cons h1, List.drop_eq_getElem_cons h2, cmpL]
  unfold thenC
  rw [if_neg hn]
theorem cmpL_end {j : Nat} {l l' : List Tm} (h : l.take j = l'.take j) (h1 : j ≤ l.length) (h2 : j ≤ l'.length) (he : j = l.length ∨ j = l'.length) : cmpL l l' < 0 ↔ l.length < l'.length := by
  rw [cmpL_take j l l' h h1 h2]
  rcases he with rfl | rfl
  · rw [List.drop_length]
    cases hd : l'.drop l.length with
    | nil =>
      have := List.drop_eq_nil_iff.1 hd
      rw [cmpL]; omega
    | cons y m =>
      rw [cmpL]
      have h3 : l.length < l'.length := by
        rcases Nat.lt_or_ge l.length l'.length with h4 | h4
        · exact h4
        · rw [List.drop_eq_nil_iff.2 h4] at hd; cases hd
      exact ⟨fun _ => h3, fun _ => by decide⟩
  · rw [List.drop_length]
    cases hd : l.drop l'.length with
    | nil => rw [cmpL]; omega
    | cons y m => rw [cmpL]; omega

/-! ### Nothing frozen: names can be told apart -/
theorem pl_nf {w : World} {S : Nat → Prop} (hS : ∀ b, S b → Nf w b) {l : List Tm} {ao : Option Addr} (h : RpL S w l ao) : PlA w l ao := by
  unfold PlA
  cases l with
  | nil => rw [nmL_nil]; trivial
  | cons t r =>
    rw [RpL] at h
    obtain ⟨b, off, rfl, hb, ht, _⟩ := h
    rw [nmL_cons (by simp)]
    obtain ⟨v, hv⟩ := ht.head
    exact ⟨blk_of_cell hv, hS b hb⟩
mutual
theorem hpT_nf {w : World} {S S' : Nat → Prop} (hS : ∀ b, S b → Nf w b) (hS' : ∀ b, S' b → Nf w b) : ∀ (t : Tm) (ao : Option Addr) (t' : Tm) (ao' : Option Addr), (∀ k n s l k' n' s' l', t = .mk k n s l → t' = .mk k' n' s' l' → RpL S w l ao ∧ RpL S' w l' ao') → HpT w t ao t' ao'
  | .mk k n s l, ao, .mk k' n' s' l', ao', h => by
    rw [HpT]
    intro _ _
    obtain ⟨h1, h2⟩ := h k n s l k' n' s' l' rfl rfl
    exact ⟨hpL_nf hS hS' l ao l' ao' h1 h2, pl_nf hS h1, pl_nf hS' h2⟩
theorem hpL_nf {w : World} {S S' : Nat → Prop} (hS : ∀ b, S b → Nf w b) (hS' : ∀ b, S' b → Nf w b) : ∀ (l : List Tm) (ao : Option Addr) (l' : List Tm) (ao' : Option Addr), RpL S w l ao → RpL S' w l' ao' → HpL w l ao l' ao'
  | [], ao, l', ao', _, _ => by rw [HpL]; trivial
  | t :: r, ao, [], ao', _, _ => by rw [HpL]; trivial
  | t :: r, ao, t' :: r', ao', h1, h2 => by
    rw [HpL]
    rw [RpL] at h1 h2
    obtain ⟨b, o, rfl, _, q1, q2⟩ := h1
    obtain ⟨b', o', rfl, _, p1, p2⟩ := h2
    intro b1 o1 b2 o2 e1 e2
    cases e1
    cases e2
    refine ⟨fun ax n c ay n' c' c1 c2 => ?_, hpL_nf hS hS' r _ r' _ q2 p2⟩
    obtain ⟨k, n0, s, l⟩ := t
    obtain ⟨k', n0', s', l'⟩ := t'
    rw [RpT] at q1 p1
    obtain ⟨_, _, _, _, bo, cap, a3, _, _, rl⟩ := q1
    obtain ⟨_, _, _, _, bo', cap', a3', _, _, rl'⟩ := p1
    rw [a3] at c1
    rw [a3'] at c2
    cases c1
    cases c2
    exact hpT_nf hS hS' _ _ _ _ (fun k1 n1 s1 l1 k2 n2 s2 l2 e3 e4 => by cases e3; cases e4; exact ⟨rl, rl'⟩)
end
end Go.Proofs.Ytnfncdoiabgdjaa
