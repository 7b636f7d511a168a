/-
  The order of terms, as reckoning: it is total.
-/
import Derived.Test.YtabgfaafpgholaaW6
namespace Go.Proofs.Ytabgfaafpgholaa
open Go.RowKit
set_option linter.unusedVariables false

def thenC (a b : Int) : Int := if a = 0 then b else a
def cmpI (x y : Int) : Int := if x < y then -1 else if y < x then 1 else 0
def cmpS (s t : ByteArray) : Int := if Op.bytesLess s.toList t.toList then -1 else if Op.bytesLess t.toList s.toList then 1 else 0
/-- What a kind names, but for what stands within. -/
def ownC (k n : Int) (s : ByteArray) (a : Nat) (n' : Int) (s' : ByteArray) (a' : Nat) : Int :=
  if k = 1 ∨ k = 3 then cmpI n n' else if k = 2 ∨ k = 6 then cmpS s s' else if k = 4 then cmpI a a' else 0
mutual
def cmpT : Tm → Tm → Int
  | .mk k n s l, .mk k' n' s' l' => thenC (cmpI k k') (thenC (ownC k n s l.length n' s' l'.length) (if k = 4 ∨ k = 5 then cmpL l l' else 0))
def cmpL : List Tm → List Tm → Int
  | [], [] => 0
  | [], _ :: _ => -1
  | _ :: _, [] => 1
  | x :: r, y :: s => thenC (cmpT x y) (cmpL r s)
end

/-! ### Bytes -/
theorem bl_irr : ∀ a : List UInt8, Op.bytesLess a a = false
  | [] => rfl
  | x :: r => by simp [Op.bytesLess, bl_irr r]
theorem bl_asym : ∀ a b : List UInt8, Op.bytesLess a b = true → Op.bytesLess b a = false
  | [], [], h => by simp [Op.bytesLess] at h
  | [], _ :: _, _ => by simp [Op.bytesLess]
  | _ :: _, [], h => by simp [Op.bytesLess] at h
  | x :: r, y :: s, h => by
    simp only [Op.bytesLess, Bool.or_eq_true, decide_eq_true_eq, Bool.and_eq_true, beq_iff_eq] at h
    simp only [Op.bytesLess, Bool.or_eq_false_iff, decide_eq_false_iff_not, Bool.and_eq_false_iff, beq_eq_false_iff_ne]
    rcases h with h | ⟨rfl, h⟩
    · exact ⟨fun h' => absurd (UInt8.lt_trans h h') (UInt8.lt_irrefl _), Or.inl (fun e => by subst e; exact UInt8.lt_irrefl _ h)⟩
    · exact ⟨UInt8.lt_irrefl _, Or.inr (bl_asym r s h)⟩
theorem bl_tot : ∀ a b : List UInt8, Op.bytesLess a b = false → Op.bytesLess b a = false → a = b
  | [], [], _, _ => rfl
  | [], _ :: _, h, _ => by simp [Op.bytesLess] at h
  | _ :: _, [], _, h => by simp [Op.bytesLess] at h
  | x :: r, y :: s, h, h' => by
    simp only [Op.bytesLess, Bool.or_eq_false_iff, decide_eq_false_iff_not, Bool.and_eq_false_iff, beq_eq_false_iff_ne] at h h'
    have e : x = y := by
      rcases UInt8.lt_or_lt_of_ne (a := x) (b := y) with h1
      by_cases e : x = y
      · exact e
      · rcases h1 e with h1 | h1
        · exact absurd h1 h.1
        · exact absurd h1 h'.1
    subst e
    have e2 := bl_tot r s (by rcases h.2 with h | h; exact absurd rfl h; exact h) (by rcases h'.2 with h | h; exact absurd rfl h; exact h)
    rw [e2]
theorem bl_trans : ∀ a b c : List UInt8, Op.bytesLess a b = true → Op.bytesLess b c = true → Op.bytesLess a c = true
  | [], [], _, h, _ => by simp [Op.bytesLess] at h
  | _ :: _, [], _, h, _ => by simp [Op.bytesLess] at h
  | _, _ :: _, [], _, h => by simp [Op.bytesLess] at h
  | [], _ :: _, _ :: _, _, _ => by simp [Op.bytesLess]
  | x :: r, y :: s, z :: t, h, h' => by
    simp only [Op.bytesLess, Bool.or_eq_true, decide_eq_true_eq, Bool.and_eq_true, beq_iff_eq] at h h' ⊢
    rcases h with h | ⟨rfl, h⟩
    · rcases h' with h' | ⟨rfl, h'⟩
      · exact Or.inl (UInt8.lt_trans h h')
      · exact Or.inl h
    · rcases h' with h' | ⟨rfl, h'⟩
      · exact Or.inl h'
      · exact Or.inr ⟨rfl, bl_trans r s t h h'⟩

/-! ### Three numbers of one order -/
/-- Of a to b, b to c and a to c. -/
def T3 (p q r : Int) : Prop := (p = 0 → r = q) ∧ (q = 0 → r = p) ∧ (p < 0 → q < 0 → r < 0)
theorem T3.lex {p q r p' q' r' : Int} (h : T3 p q r) (h' : p = 0 → q = 0 → T3 p' q' r') : T3 (thenC p p') (thenC q q') (thenC r r') := by
  obtain ⟨h1, h2, h3⟩ := h
  unfold thenC
  by_cases hp : p = 0
  · by_cases hq : q = 0
    · have hr : r = 0 := by rw [h1 hp, hq]
      rw [if_pos hp, if_pos hq, if_pos hr]
      exact h' hp hq
    · have hr : r = q := h1 hp
      rw [if_pos hp, if_neg hq, if_neg (by rw [hr]; exact hq)]
      exact ⟨fun _ => hr, fun e => absurd e hq, fun _ hlt => by omega⟩
  · by_cases hq : q = 0
    · have hr : r = p := h2 hq
      rw [if_neg hp, if_pos hq, if_neg (by rw [hr]; exact hp)]
      exact ⟨fun e => absurd e hp, fun _ => hr, fun hlt _ => by omega⟩
    · rw [if_neg hp, if_neg hq]
      refine ⟨fun e => absurd e hp, fun e => absurd e hq, fun hlt hlt' => ?_⟩
      have := h3 hlt hlt'
      rw [if_neg (by omega)]; exact this
theorem T3.zero : T3 0 0 0 := ⟨fun _ => rfl, fun _ => rfl, fun h => absurd h (by decide)⟩
theorem cmpI_t3 (x y z : Int) : T3 (cmpI x y) (cmpI y z) (cmpI x z) := by
  unfold T3 cmpI
  refine ⟨?_, ?_, ?_⟩ <;> repeat' split
  all_goals omega
theorem cmpI_zero (x y : Int) : cmpI x y = 0 ↔ x = y := by
  unfold cmpI; repeat' split
  all_goals omega
theorem cmpI_anti (x y : Int) : cmpI y x = - cmpI x y := by
  unfold cmpI; repeat' split
  all_goals omega
theorem cmpI_neg (x y : Int) : cmpI x y < 0 ↔ x < y := by
  unfold cmpI; repeat' split
  all_goals omega
theorem cmpS_zero (s t : ByteArray) : cmpS s t = 0 ↔ s.toList = t.toList := by
  unfold cmpS
  constructor
  · intro h
    cases h1 : Op.bytesLess s.toList t.toList <;> cases h2 : Op.bytesLess t.toList s.toList <;> simp [h1, h2] at h
    exact bl_tot _ _ h1 h2
  · intro h; rw [h, bl_irr]; rfl
theorem cmpS_anti (s t : ByteArray) : cmpS t s = - cmpS s t := by
  unfold cmpS
  cases h1 : Op.bytesLess s.toList t.toList <;> cases h2 : Op.bytesLess t.toList s.toList <;> simp
  have := bl_asym _ _ h1
  rw [h2] at this; exact absurd this (by simp)
theorem cmpS_neg (s t : ByteArray) : cmpS s t < 0 ↔ Op.bytesLess s.toList t.toList = true := by
  unfold cmpS
  cases h1 : Op.bytesLess s.toList t.toList <;> cases h2 : Op.bytesLess t.toList s.toList <;> simp
theorem cmpS_t3 (s t u : ByteArray) : T3 (cmpS s t) (cmpS t u) (cmpS s u) := by
  refine ⟨fun h => ?_, fun h => ?_, fun h h' => ?_⟩
  · have := (cmpS_zero s t).1 h
    unfold cmpS; rw [this]
  · have := (cmpS_zero t u).1 h
    unfold cmpS; rw [this]
  · exact (cmpS_neg s u).2 (bl_trans _ _ _ ((cmpS_neg s t).1 h) ((cmpS_neg t u).1 h'))
theorem own_t3 (k : Int) (n : Int) (s : ByteArray) (a : Nat) (n' : Int) (s' : ByteArray) (a' : Nat) (n'' : Int) (s'' : ByteArray) (a'' : Nat) :
    T3 (ownC k n s a n' s' a') (ownC k n' s' a' n'' s'' a'') (ownC k n s a n'' s'' a'') := by
  unfold ownC
  by_cases h1 : k = 1 ∨ k = 3
  · rw [if_pos h1, if_pos h1, if_pos h1]; exact cmpI_t3 _ _ _
  · rw [if_neg h1, if_neg h1, if_neg h1]
    by_cases h2 : k = 2 ∨ k = 6
    · rw [if_pos h2, if_pos h2, if_pos h2]; exact cmpS_t3 _ _ _
    · rw [if_neg h2, if_neg h2, if_neg h2]
      by_cases h3 : k = 4
      · rw [if_pos h3, if_pos h3, if_pos h3]; exact cmpI_t3 _ _ _
      · rw [if_neg h3, if_neg h3, if_neg h3]; exact T3.zero
theorem own_anti (k : Int) (n : Int) (s : ByteArray) (a : Nat) (n' : Int) (s' : ByteArray) (a' : Nat) : ownC k n' s' a' n s a = - ownC k n s a n' s' a' := by
  unfold ownC
  by_cases h1 : k = 1 ∨ k = 3
  · rw [if_pos h1, if_pos h1]; exact cmpI_anti _ _
  · rw [if_neg h1, if_neg h1]
    by_cases h2 : k = 2 ∨ k = 6
    · rw [if_pos h2, if_pos h2]; exact cmpS_anti _ _
    · rw [if_neg h2, if_neg h2]
      by_cases h3 : k = 4
      · rw [if_pos h3, if_pos h3]; exact cmpI_anti _ _
      · rw [if_neg h3, if_neg h3]; rfl
theorem thenC_neg (a b : Int) : thenC (-a) (-b) = - thenC a b := by
  unfold thenC
  by_cases h : a = 0
  · rw [if_pos h, if_pos (by omega)]
  · rw [if_neg h, if_neg (by omega)]

theorem cmpT_t3 : ∀ a b c : Tm, T3 (cmpT a b) (cmpT b c) (cmpT a c) := by
  refine Tm.ind ?_
  intro k n s l ih
  have hl : ∀ (r m o : List Tm), (∀ t, t ∈ r → t ∈ l) → T3 (cmpL r m) (cmpL m o) (cmpL r o) := by
    intro r
    induction r with
    | nil =>
      intro m o _
      cases m <;> cases o <;> simp [cmpL, T3]
    | cons x r ihr =>
      intro m o hr
      cases m with
      | nil => cases o <;> simp [cmpL, T3]
      | cons y m =>
        cases o with
        | nil =>
          have e1 : ∀ (a : Tm) (q : List Tm), cmpL (a :: q) [] = 1 := fun a q => by rw [cmpL]
          rw [e1, e1]
          exact ⟨fun _ => rfl, fun h => absurd h (by decide), fun _ h => absurd h (by decide)⟩
        | cons z o =>
          simp only [cmpL]
          exact T3.lex (ih x (hr x (List.mem_cons_self ..)) y z) (fun _ _ => ihr m o (fun t ht => hr t (List.mem_cons_of_mem _ ht)))
  rintro ⟨k', n', s', l'⟩ ⟨k'', n'', s'', l''⟩
  simp only [cmpT]
  refine T3.lex (cmpI_t3 _ _ _) (fun h1 h2 => ?_)
  have e1 := (cmpI_zero _ _).1 h1
  have e2 := (cmpI_zero _ _).1 h2
  subst e1
  subst e2
  refine T3.lex (own_t3 _ _ _ _ _ _ _ _ _ _) (fun _ _ => ?_)
  by_cases h : k = 4 ∨ k = 5
  · rw [if_pos h, if_pos h, if_pos h]; exact hl l l' l'' (fun t ht => ht)
  · rw [if_neg h, if_neg h, if_neg h]; exact T3.zero
theorem cmpT_anti : ∀ a b : Tm, cmpT b a = - cmpT a b := by
  refine Tm.ind ?_
  intro k n s l ih
  have hl : ∀ (r m : List Tm), (∀ t, t ∈ r → t ∈ l) → cmpL m r = - cmpL r m := by
    intro r
    induction r with
    | nil => intro m _; cases m <;> simp [cmpL]
    | cons x r ihr =>
      intro m hr
      cases m with
      | nil => simp [cmpL]
      | cons y m =>
        simp only [cmpL]
        rw [ih x (hr x (List.mem_cons_self ..)) y, ihr m (fun t ht => hr t (List.mem_cons_of_mem _ ht)), thenC_neg]
  rintro ⟨k', n', s', l'⟩
  simp only [cmpT]
  by_cases hk : k = k'
  · subst hk
    have e1 : cmpI k k = 0 := (cmpI_zero _ _).2 rfl
    rw [e1, own_anti]
    unfold thenC
    rw [if_pos rfl, if_pos rfl]
    by_cases ho : ownC k n s l.length n' s' l'.length = 0
    · rw [if_pos (by omega), if_pos ho]
      by_cases h : k = 4 ∨ k = 5
      · rw [if_pos h, if_pos h]; exact hl l l' (fun t ht => ht)
      · rw [if_neg h, if_neg h]; rfl
    · rw [if_neg (by omega), if_neg ho]
  · have e1 : cmpI k k' ≠ 0 := fun h => hk ((cmpI_zero _ _).1 h)
    rw [cmpI_anti k k']
    unfold thenC
    rw [if_neg (by omega), if_neg e1]
theorem cmpT_trans (a b c : Tm) (h : cmpT a b < 0) (h' : cmpT b c < 0) : cmpT a c < 0 := (cmpT_t3 a b c).2.2 h h'
end Go.Proofs.Ytabgfaafpgholaa
