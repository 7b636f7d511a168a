/-
  What lies at one address is one term; what a stack of pairs of lists answers.
-/
import Derived.Test.YtnfncdoiabgdjaaOrA
namespace Go.Proofs.Ytnfncdoiabgdjaa
open Go.RowKit
set_option linter.unusedVariables false

theorem repT_one {B B' : Nat} {w : World} : ∀ (t t' : Tm) (b off : Nat), RepT B w t b off → RepT B' w t' b off → t = t' := by
  refine Tm.ind ?_
  intro k n s l ih t' b off h h'
  obtain ⟨k', n', s', l'⟩ := t'
  rw [RepT] at h h'
  obtain ⟨h0, h1, h2, _, ao, cap, h3, _, _, hr⟩ := h
  obtain ⟨g0, g1, g2, _, ao', cap', g3, _, _, gr⟩ := h'
  rw [h0] at g0
  rw [h1] at g1
  rw [h2] at g2
  rw [h3] at g3
  simp only [Option.some.injEq, Value.int.injEq, Value.string.injEq, Value.slice.injEq, true_and] at g0 g1 g2 g3
  obtain ⟨rfl, hlen, _⟩ := g3
  have hl : ∀ (l l' : List Tm) (ao : Option Addr), (∀ t, t ∈ l → ∀ (t' : Tm) (b off : Nat), RepT B w t b off → RepT B' w t' b off → t = t') → l.length = l'.length → RepL B w l ao → RepL B' w l' ao → l = l' := by
    intro l
    induction l with
    | nil => intro l' ao _ e _ _; exact (List.length_eq_zero_iff.1 e.symm).symm
    | cons t r ihr =>
      intro l' ao hi e h h'
      rcases l' with _ | ⟨t', r'⟩
      · simp at e
      rw [RepL] at h h'
      obtain ⟨b1, o1, rfl, _, q1, q2⟩ := h
      obtain ⟨b2, o2, e2, _, p1, p2⟩ := h'
      simp only [Option.some.injEq, Addr.mk.injEq, and_true] at e2
      obtain ⟨rfl, rfl⟩ := e2
      rw [hi t (List.mem_cons_self ..) t' _ _ q1 p1, ihr r' _ (fun x hx => hi x (List.mem_cons_of_mem _ hx)) (by simpa using e) q2 p2]
  rw [hl l l' ao ih hlen hr gr, g0, g1, g2]
theorem repL_one {B B' : Nat} {w : World} : ∀ (l l' : List Tm) (ao : Option Addr), l.length = l'.length → RepL B w l ao → RepL B' w l' ao → l = l' := by
  intro l
  induction l with
  | nil => intro l' ao e _ _; exact (List.length_eq_zero_iff.1 e.symm).symm
  | cons t r ihr =>
    intro l' ao e h h'
    rcases l' with _ | ⟨t', r'⟩
    · simp at e
    rw [RepL] at h h'
    obtain ⟨b1, o1, rfl, _, q1, q2⟩ := h
    obtain ⟨b2, o2, e2, _, p1, p2⟩ := h'
    simp only [Option.some.injEq, Addr.mk.injEq, and_true] at e2
    obtain ⟨rfl, rfl⟩ := e2
    rw [repT_one t t' _ _ q1 p1, ihr r' _ (by simpa using e) q2 p2]

/-- What a stack of pairs of lists answers, its top first. -/
def stackC : List (List Tm × List Tm) → Int
  | [] => 0
  | (a, b) :: r => thenC (cmpL a b) (stackC r)
theorem thenC_assoc (a b c : Int) : thenC (thenC a b) c = thenC a (thenC b c) := by
  unfold thenC
  by_cases h : a = 0
  · simp [h]
  · simp [h]
theorem thenC_zero (a : Int) : thenC 0 a = a := by simp [thenC]
/-- What stands within, of a kind that has it. -/
def wiL (k : Int) (l : List Tm) : List Tm := if k = 4 ∨ k = 5 then l else []
theorem cmpL_nil : cmpL [] [] = 0 := by rw [cmpL]
/-- Two kinds that are one: within is held against within. -/
theorem cmpT_in (k n : Int) (s : ByteArray) (l : List Tm) (k' n' : Int) (s' : ByteArray) (l' : List Tm) :
    cmpT (.mk k n s l) (.mk k' n' s' l') = thenC (thenC (cmpI k k') (ownC k n s l.length n' s' l'.length)) (if k = k' then cmpL (wiL k l) (wiL k' l') else 0) := by
  rw [cmpT, thenC_assoc]
  by_cases h : k = k'
  · subst h
    rw [if_pos rfl]
    unfold wiL
    by_cases h2 : k = 4 ∨ k = 5
    · rw [if_pos h2, if_pos h2, if_pos h2]
    · rw [if_neg h2, if_neg h2, if_neg h2, cmpL_nil]
  · have h0 : cmpI k k' ≠ 0 := fun e => h ((cmpI_zero k k').1 e)
    unfold thenC
    rw [if_neg h0, if_neg h0]
theorem stackC_step (k n : Int) (s : ByteArray) (l : List Tm) (k' n' : Int) (s' : ByteArray) (l' : List Tm) (r r' : List Tm) (st : List (List Tm × List Tm)) (h0 : thenC (cmpI k k') (ownC k n s l.length n' s' l'.length) = 0) :
    stackC ((.mk k n s l :: r, .mk k' n' s' l' :: r') :: st) = stackC ((wiL k l, wiL k' l') :: (r, r') :: st) := by
  have hk : k = k' := by
    apply (cmpI_zero k k').1
    unfold thenC at h0
    split at h0
    · assumption
    · exact h0
  rw [stackC, cmpL, stackC, stackC, cmpT_in, h0, thenC_zero, if_pos hk, thenC_assoc]
theorem stackC_unlike (k n : Int) (s : ByteArray) (l : List Tm) (k' n' : Int) (s' : ByteArray) (l' : List Tm) (r r' : List Tm) (st : List (List Tm × List Tm)) (h0 : thenC (cmpI k k') (ownC k n s l.length n' s' l'.length) ≠ 0) :
    stackC ((.mk k n s l :: r, .mk k' n' s' l' :: r') :: st) = thenC (cmpI k k') (ownC k n s l.length n' s' l'.length) := by
  rw [stackC, cmpL, cmpT_in]
  generalize thenC (cmpI k k') (ownC k n s l.length n' s' l'.length) = c at h0
  rw [thenC_assoc, thenC_assoc]
  unfold thenC
  rw [if_neg h0]
theorem stackC_ends (l l' : List Tm) (st : List (List Tm × List Tm)) (h : l = [] ∨ l' = []) (hne : l.length ≠ l'.length) : stackC ((l, l') :: st) = cmpI l.length l'.length := by
  rw [stackC]
  rcases l with _ | ⟨x, r⟩ <;> rcases l' with _ | ⟨y, s⟩
  · exact absurd rfl hne
  · rw [cmpL]
    unfold thenC cmpI
    rw [if_neg (by decide), if_pos (by simp)]
  · rw [cmpL]
    unfold thenC cmpI
    rw [if_neg (by decide), if_neg (by simp; omega), if_pos (by simp)]
  · simp at h
theorem stackC_pop (st : List (List Tm × List Tm)) : stackC (([], []) :: st) = stackC st := by rw [stackC, cmpL_nil, thenC_zero]

mutual
/-- How many terms there are. -/
def cntT : Tm → Nat
  | .mk _ _ _ l => 1 + cntL l
def cntL : List Tm → Nat
  | [] => 0
  | t :: r => cntT t + cntL r
end
theorem cnt_in (k n : Int) (s : ByteArray) (l r : List Tm) : cntL (wiL k l) < cntL (.mk k n s l :: r) ∧ cntL r ≤ cntL (.mk k n s l :: r) := by
  rw [cntL, cntT]
  unfold wiL
  split
  · omega
  · rw [cntL]; omega
/-- What is known of two lists that have met: they are the same, or what is still open of them stands on the stack. -/
def Mok (st : List (List Tm × List Tm)) (l l' : List Tm) : Prop :=
  cmpL l l' = 0 ∨ ∃ top rest, st = top ++ rest ∧ cmpL l l' = stackC top ∧ ∀ p ∈ top, cntL p.1 ≤ cntL l
theorem Mok.pop {st : List (List Tm × List Tm)} {l l' : List Tm} (h : Mok (([], []) :: st) l l') : Mok st l l' := by
  rcases h with h | ⟨top, rest, e, h1, h2⟩
  · exact .inl h
  rcases top with _ | ⟨p, top⟩
  · exact .inl h1
  simp only [List.cons_append, List.cons.injEq] at e
  obtain ⟨rfl, rfl⟩ := e
  exact .inr ⟨top, rest, rfl, by rw [h1, stackC_pop], fun p hp => h2 p (List.mem_cons_of_mem _ hp)⟩
theorem Mok.push {k n : Int} {s : ByteArray} {i : List Tm} {k' n' : Int} {s' : ByteArray} {i' : List Tm} {r r' : List Tm} {st : List (List Tm × List Tm)} {l l' : List Tm}
    (h0 : thenC (cmpI k k') (ownC k n s i.length n' s' i'.length) = 0) (h : Mok ((.mk k n s i :: r, .mk k' n' s' i' :: r') :: st) l l') : Mok ((wiL k i, wiL k' i') :: (r, r') :: st) l l' := by
  rcases h with h | ⟨top, rest, e, h1, h2⟩
  · exact .inl h
  rcases top with _ | ⟨p, top⟩
  · exact .inl h1
  simp only [List.cons_append, List.cons.injEq] at e
  obtain ⟨rfl, rfl⟩ := e
  have hc := h2 _ (List.mem_cons_self ..)
  have hn := cnt_in k n s i r
  refine .inr ⟨(wiL k i, wiL k' i') :: (r, r') :: top, rest, rfl, by rw [h1, stackC_step _ _ _ _ _ _ _ _ _ _ _ h0], ?_⟩
  intro p hp
  simp only [List.mem_cons] at hp
  rcases hp with rfl | rfl | hp
  · show cntL (wiL k i) ≤ _
    have hc' : cntL (.mk k n s i :: r) ≤ cntL l := hc
    omega
  · show cntL r ≤ _
    have hc' : cntL (.mk k n s i :: r) ≤ cntL l := hc
    omega
  · exact h2 p (List.mem_cons_of_mem _ hp)
theorem thenC_right (a : Int) : thenC a 0 = a := by unfold thenC; split <;> simp_all
theorem Mok.new (i i' : List Tm) (st : List (List Tm × List Tm)) : Mok ((i, i') :: st) i i' :=
  .inr ⟨[(i, i')], st, rfl, by rw [stackC, stackC, thenC_right], fun p hp => by simp only [List.mem_singleton] at hp; subst hp; exact Nat.le_refl _⟩
/-- Two lists within the top that have met are the same. -/
theorem Mok.same {k n : Int} {s : ByteArray} {i : List Tm} {t' : Tm} {i' : List Tm} {r r' : List Tm} {st : List (List Tm × List Tm)}
    (h : Mok ((.mk k n s i :: r, t' :: r') :: st) (wiL k i) i') : cmpL (wiL k i) i' = 0 := by
  rcases h with h | ⟨top, rest, e, h1, h2⟩
  · exact h
  rcases top with _ | ⟨p, top⟩
  · exact h1
  simp only [List.cons_append, List.cons.injEq] at e
  obtain ⟨rfl, rfl⟩ := e
  have hc : cntL (.mk k n s i :: r) ≤ cntL (wiL k i) := h2 _ (List.mem_cons_self ..)
  have := (cnt_in k n s i r).1
  omega
theorem Mok.skip {k n : Int} {s : ByteArray} {i : List Tm} {k' n' : Int} {s' : ByteArray} {i' : List Tm} {r r' : List Tm} {st : List (List Tm × List Tm)} {l l' : List Tm}
    (h0 : thenC (cmpI k k') (ownC k n s i.length n' s' i'.length) = 0) (hz : cmpL (wiL k i) (wiL k' i') = 0) (h : Mok ((.mk k n s i :: r, .mk k' n' s' i' :: r') :: st) l l') : Mok ((r, r') :: st) l l' := by
  rcases h.push h0 with h | ⟨top, rest, e, h1, h2⟩
  · exact .inl h
  rcases top with _ | ⟨p, top⟩
  · exact .inl h1
  simp only [List.cons_append, List.cons.injEq] at e
  obtain ⟨rfl, e⟩ := e
  rw [stackC, hz, thenC_zero] at h1
  rw [e]
  exact .inr ⟨top, rest, rfl, h1, fun p hp => h2 p (List.mem_cons_of_mem _ hp)⟩
theorem stackC_skip {k n : Int} {s : ByteArray} {i : List Tm} {k' n' : Int} {s' : ByteArray} {i' : List Tm} {r r' : List Tm} {st : List (List Tm × List Tm)}
    (h0 : thenC (cmpI k k') (ownC k n s i.length n' s' i'.length) = 0) (hz : cmpL (wiL k i) (wiL k' i') = 0) : stackC ((.mk k n s i :: r, .mk k' n' s' i' :: r') :: st) = stackC ((r, r') :: st) := by
  rw [stackC_step _ _ _ _ _ _ _ _ _ _ _ h0, stackC, hz, thenC_zero]
end Go.Proofs.Ytnfncdoiabgdjaa
