/-
  Lookup and update of a map whose keys are pairs of names of lists.
  (Ahead of it, in this text: The order of terms, as reckoning: it is total. Two terms held against each other, without what stands within: forms, and cmp.Compare. Two forms held against each other. Two forms held against each other: orderAlone. Maps whose keys are pairs of names of lists.)
-/
import Derived.Test.YtimnnedmpmlmdaaDrB
import Derived.Test.YtimnnedmpmlmdaaTmF
import Derived.Test.YtimnnedmpmlmdaaMpB
namespace Go.Proofs.Ytimnnedmpmlmdaa
open Go.RowKit
set_option linter.unusedVariables false

def thenC (a b : Int) : Int := if a = 0 then b else a
def cmpI (x y : Int) : Int := if x < y then -1 else if y < x then 1 else 0
def cmpS (s t : ByteArray) : Int := if Op.bytesLess s.toList t.toList then -1 else if Op.bytesLess t.toList s.toList then 1 else 0
/-- What a kind names, but for what stands within. -/
def ownC (k n : Int) (s : ByteArray) (a : Nat) (n' : Int) (s' : ByteArray) (a' : Nat) : Int :=
  if k = 1 ∨ k = 3 then cmpI n n' else if k = 2 ∨ k = 6 then cmpS s s' else if k = 4 then cmpI a a' else 0
mutual
def cmpT : Tm → Tm → Int
  | .mk k n s l, .mk k' n' s' l' => thenC (cmpI k k') (thenC (ownC k n s l.length n' s' l'.length) (if k = 4 ∨ k = 5 then cmpL l l' else 0))
def cmpL : List Tm → List Tm → Int
  | [], [] => 0
  | [], _ :: _ => -1
  | _ :: _, [] => 1
  | x :: r, y :: s => thenC (cmpT x y) (cmpL r s)
end

/-! ### Bytes -/
theorem bl_irr : ∀ a : List UInt8, Op.bytesLess a a = false
  | [] => rfl
  | x :: r => by simp [Op.bytesLess, bl_irr r]
theorem bl_asym : ∀ a b : List UInt8, Op.bytesLess a b = true → Op.bytesLess b a = false
  | [], [], h => by simp [Op.bytesLess] at h
  | [], _ :: _, _ => by simp [Op.bytesLess]
  | _ :: _, [], h => by simp [Op.bytesLess] at h
  | x :: r, y :: s, h => by
    simp only [Op.bytesLess, Bool.or_eq_true, decide_eq_true_eq, Bool.and_eq_true, beq_iff_eq] at h
    simp only [Op.bytesLess, Bool.or_eq_false_iff, decide_eq_false_iff_not, Bool.and_eq_false_iff, beq_eq_false_iff_ne]
    rcases h with h | ⟨rfl, h⟩
    · exact ⟨fun h' => absurd (UInt8.lt_trans h h') (UInt8.lt_irrefl _), Or.inl (fun e => by subst e; exact UInt8.lt_irrefl _ h)⟩
    · exact ⟨UInt8.lt_irrefl _, Or.inr (bl_asym r s h)⟩
theorem bl_tot : ∀ a b : List UInt8, Op.bytesLess a b = false → Op.bytesLess b a = false → a = b
  | [], [], _, _ => rfl
  | [], _ :: _, h, _ => by simp [Op.bytesLess] at h
  | _ :: _, [], _, h => by simp [Op.bytesLess] at h
  | x :: r, y :: s, h, h' => by
    simp only [Op.bytesLess, Bool.or_eq_false_iff, decide_eq_false_iff_not, Bool.and_eq_false_iff, beq_eq_false_iff_ne] at h h'
    have e : x = y := by
      rcases UInt8.lt_or_lt_of_ne (a := x) (b := y) with h1
      by_cases e : x = y
      · exact e
      · rcases h1 e with h1 | h1
        · exact absurd h1 h.1
        · exact absurd h1 h'.1
    subst e
    have e2 := bl_tot r s (by rcases h.2 with h | h; exact absurd rfl h; exact h) (by rcases h'.2 with h | h; exact absurd rfl h; exact h)
    rw [e2]
theorem bl_trans : ∀ a b c : List UInt8, Op.bytesLess a b = true → Op.bytesLess b c = true → Op.bytesLess a c = true
  | [], [], _, h, _ => by simp [Op.bytesLess] at h
  | _ :: _, [], _, h, _ => by simp [Op.bytesLess] at h
  | _, _ :: _, [], _, h => by simp [Op.bytesLess] at h
  | [], _ :: _, _ :: _, _, _ => by simp [Op.bytesLess]
  | x :: r, y :: s, z :: t, h, h' => by
    simp only [Op.bytesLess, Bool.or_eq_true, decide_eq_true_eq, Bool.and_eq_true, beq_iff_eq] at h h' ⊢
    rcases h with h | ⟨rfl, h⟩
    · rcases h' with h' | ⟨rfl, h'⟩
      · exact Or.inl (UInt8.lt_trans h h')
      · exact Or.inl h
    · rcases h' with h' | ⟨rfl, h'⟩
      · exact Or.inl h'
      · exact Or.inr ⟨rfl, bl_trans r s t h h'⟩

/-! ### Three numbers of one order -/
/-- Of a to b, b to c and a to c. -/
def T3 (p q r : Int) : Prop := (p = 0 → r = q) ∧ (q = 0 → r = p) ∧ (p < 0 → q < 0 → r < 0)
theorem T3.lex {p q r p' q' r' : Int} (h : T3 p q r) (h' : p = 0 → q = 0 → T3 p' q' r') : T3 (thenC p p') (thenC q q') (thenC r r') := by
  obtain ⟨h1, h2, h3⟩ := h
  unfold thenC
  by_cases hp : p = 0
  · by_cases hq : q = 0
    · have hr : r = 0 := by rw [h1 hp, hq]
      rw [if_pos hp, if_pos hq, if_pos hr]
      exact h' hp hq
    · have hr : r = q := h1 hp
      rw [if_pos hp, if_neg hq, if_neg (by rw [hr]; exact hq)]
      exact ⟨fun _ => hr, fun e => absurd e hq, fun _ hlt => by omega⟩
  · by_cases hq : q = 0
    · have hr : r = p := h2 hq
      rw [if_neg hp, if_pos hq, if_neg (by rw [hr]; exact hp)]
      exact ⟨fun e => absurd e hp, fun _ => hr, fun hlt _ => by omega⟩
    · rw [if_neg hp, if_neg hq]
      refine ⟨fun e => absurd e hp, fun e => absurd e hq, fun hlt hlt' => ?_⟩
      have := h3 hlt hlt'
      rw [if_neg (by omega)]; exact this
theorem T3.zero : T3 0 0 0 := ⟨fun _ => rfl, fun _ => rfl, fun h => absurd h (by decide)⟩
theorem cmpI_t3 (x y z : Int) : T3 (cmpI x y) (cmpI y z) (cmpI x z) := by
  unfold T3 cmpI
  refine ⟨?_, ?_, ?_⟩ <;> repeat' split
  all_goals omega
theorem cmpI_zero (x y : Int) : cmpI x y = 0 ↔ x = y := by
  unfold cmpI; repeat' split
  all_goals omega
theorem cmpI_anti (x y : Int) : cmpI y x = - cmpI x y := by
  unfold cmpI; repeat' split
  all_goals omega
theorem cmpI_neg (x y : Int) : cmpI x y < 0 ↔ x < y := by
  unfold cmpI; repeat' split
  all_goals omega
theorem cmpS_zero (s t : ByteArray) : cmpS s t = 0 ↔ s.toList = t.toList := by
  unfold cmpS
  constructor
  · intro h
    cases h1 : Op.bytesLess s.toList t.toList <;> cases h2 : Op.bytesLess t.toList s.toList <;> simp [h1, h2] at h
    exact bl_tot _ _ h1 h2
  · intro h; rw [h, bl_irr]; rfl
theorem cmpS_anti (s t : ByteArray) : cmpS t s = - cmpS s t := by
  unfold cmpS
  cases h1 : Op.bytesLess s.toList t.toList <;> cases h2 : Op.bytesLess t.toList s.toList <;> simp
  have := bl_asym _ _ h1
  rw [h2] at this; exact absurd this (by simp)
theorem cmpS_neg (s t : ByteArray) : cmpS s t < 0 ↔ Op.bytesLess s.toList t.toList = true := by
  unfold cmpS
  cases h1 : Op.bytesLess s.toList t.toList <;> cases h2 : Op.bytesLess t.toList s.toList <;> simp
theorem cmpS_t3 (s t u : ByteArray) : T3 (cmpS s t) (cmpS t u) (cmpS s u) := by
  refine ⟨fun h => ?_, fun h => ?_, fun h h' => ?_⟩
  · have := (cmpS_zero s t).1 h
    unfold cmpS; rw [this]
  · have := (cmpS_zero t u).1 h
    unfold cmpS; rw [this]
  · exact (cmpS_neg s u).2 (bl_trans _ _ _ ((cmpS_neg s t).1 h) ((cmpS_neg t u).1 h'))
theorem own_t3 (k : Int) (n : Int) (s : ByteArray) (a : Nat) (n' : Int) (s' : ByteArray) (a' : Nat) (n'' : Int) (s'' : ByteArray) (a'' : Nat) :
    T3 (ownC k n s a n' s' a') (ownC k n' s' a' n'' s'' a'') (ownC k n s a n'' s'' a'') := by
  unfold ownC
  by_cases h1 : k = 1 ∨ k = 3
  · rw [if_pos h1, if_pos h1, if_pos h1]; exact cmpI_t3 _ _ _
  · rw [if_neg h1, if_neg h1, if_neg h1]
    by_cases h2 : k = 2 ∨ k = 6
    · rw [if_pos h2, if_pos h2, if_pos h2]; exact cmpS_t3 _ _ _
    · rw [if_neg h2, if_neg h2, if_neg h2]
      by_cases h3 : k = 4
      · rw [if_pos h3, if_pos h3, if_pos h3]; exact cmpI_t3 _ _ _
      · rw [if_neg h3, if_neg h3, if_neg h3]; exact T3.zero
theorem own_anti (k : Int) (n : Int) (s : ByteArray) (a : Nat) (n' : Int) (s' : ByteArray) (a' : Nat) : ownC k n' s' a' n s a = - ownC k n s a n' s' a' := by
  unfold ownC
  by_cases h1 : k = 1 ∨ k = 3
  · rw [if_pos h1, if_pos h1]; exact cmpI_anti _ _
  · rw [if_neg h1, if_neg h1]
    by_cases h2 : k = 2 ∨ k = 6
    · rw [if_pos h2, if_pos h2]; exact cmpS_anti _ _
    · rw [if_neg h2, if_neg h2]
      by_cases h3 : k = 4
      · rw [if_pos h3, if_pos h3]; exact cmpI_anti _ _
      · rw [if_neg h3, if_neg h3]; rfl
theorem thenC_neg (a b : Int) : thenC (-a) (-b) = - thenC a b := by
  unfold thenC
  by_cases h : a = 0
  · rw [if_pos h, if_pos (by omega)]
  · rw [if_neg h, if_neg (by omega)]

theorem cmpT_t3 : ∀ a b c : Tm, T3 (cmpT a b) (cmpT b c) (cmpT a c) := by
  refine Tm.ind ?_
  intro k n s l ih
  have hl : ∀ (r m o : List Tm), (∀ t, t ∈ r → t ∈ l) → T3 (cmpL r m) (cmpL m o) (cmpL r o) := by
    intro r
    induction r with
    | nil =>
      intro m o _
      cases m <;> cases o <;> simp [cmpL, T3]
    | cons x r ihr =>
      intro m o hr
      cases m with
      | nil => cases o <;> simp [cmpL, T3]
      | cons y m =>
        cases o with
        | nil =>
          have e1 : ∀ (a : Tm) (q : List Tm), cmpL (a :: q) [] = 1 := fun a q => by rw [cmpL]
          rw [e1, e1]
          exact ⟨fun _ => rfl, fun h => absurd h (by decide), fun _ h => absurd h (by decide)⟩
        | cons z o =>
          simp only [cmpL]
          exact T3.lex (ih x (hr x (List.mem_cons_self ..)) y z) (fun _ _ => ihr m o (fun t ht => hr t (List.mem_cons_of_mem _ ht)))
  rintro ⟨k', n', s', l'⟩ ⟨k'', n'', s'', l''⟩
  simp only [cmpT]
  refine T3.lex (cmpI_t3 _ _ _) (fun h1 h2 => ?_)
  have e1 := (cmpI_zero _ _).1 h1
  have e2 := (cmpI_zero _ _).1 h2
  subst e1
  subst e2
  refine T3.lex (own_t3 _ _ _ _ _ _ _ _ _ _) (fun _ _ => ?_)
  by_cases h : k = 4 ∨ k = 5
  · rw [if_pos h, if_pos h, if_pos h]; exact hl l l' l'' (fun t ht => ht)
  · rw [if_neg h, if_neg h, if_neg h]; exact T3.zero
theorem cmpT_anti : ∀ a b : Tm, cmpT b a = - cmpT a b := by
  refine Tm.ind ?_
  intro k n s l ih
  have hl : ∀ (r m : List Tm), (∀ t, t ∈ r → t ∈ l) → cmpL m r = - cmpL r m := by
    intro r
    induction r with
    | nil => intro m _; cases m <;> simp [cmpL]
    | cons x r ihr =>
      intro m hr
      cases m with
      | nil => simp [cmpL]
      | cons y m =>
        simp only [cmpL]
        rw [ih x (hr x (List.mem_cons_self ..)) y, ihr m (fun t ht => hr t (List.mem_cons_of_mem _ ht)), thenC_neg]
  rintro ⟨k', n', s', l'⟩
  simp only [cmpT]
  by_cases hk : k = k'
  · subst hk
    have e1 : cmpI k k = 0 := (cmpI_zero _ _).2 rfl
    rw [e1, own_anti]
    unfold thenC
    rw [if_pos rfl, if_pos rfl]
    by_cases ho : ownC k n s l.length n' s' l'.length = 0
    · rw [if_pos (by omega), if_pos ho]
      by_cases h : k = 4 ∨ k = 5
      · rw [if_pos h, if_pos h]; exact hl l l' (fun t ht => ht)
      · rw [if_neg h, if_neg h]; rfl
    · rw [if_neg (by omega), if_neg ho]
  · have e1 : cmpI k k' ≠ 0 := fun h => hk ((cmpI_zero _ _).1 h)
    rw [cmpI_anti k k']
    unfold thenC
    rw [if_neg (by omega), if_neg e1]
theorem cmpT_trans (a b c : Tm) (h : cmpT a b < 0) (h' : cmpT b c < 0) : cmpT a c < 0 := (cmpT_t3 a b c).2.2 h h'
end Go.Proofs.Ytimnnedmpmlmdaa
namespace Go.Proofs.Ytimnnedmpmlmdaa
open Go.RowKit
set_option linter.unusedVariables false

/-- The form of a term, as the program sees it. -/
def frm (k n : Int) (s : ByteArray) (x : Value) : Value :=
  if k = 1 then .iface 92 (.int .i64 n) else if k = 2 then .iface 93 (.string s) else if k = 3 then .iface 94 (.int .i64 n)
  else if k = 4 then .iface 95 x else if k = 5 then .iface 96 x else if k = 6 then .iface 97 (.string s) else .iface 98 (.int .i64 k)
theorem frm_1 (n : Int) (s : ByteArray) (x : Value) : frm 1 n s x = .iface 92 (.int .i64 n) := rfl
theorem frm_2 (n : Int) (s : ByteArray) (x : Value) : frm 2 n s x = .iface 93 (.string s) := rfl
theorem frm_3 (n : Int) (s : ByteArray) (x : Value) : frm 3 n s x = .iface 94 (.int .i64 n) := rfl
theorem frm_4 (n : Int) (s : ByteArray) (x : Value) : frm 4 n s x = .iface 95 x := rfl
theorem frm_5 (n : Int) (s : ByteArray) (x : Value) : frm 5 n s x = .iface 96 x := rfl
theorem frm_6 (n : Int) (s : ByteArray) (x : Value) : frm 6 n s x = .iface 97 (.string s) := rfl
theorem frm_no {k : Int} (n : Int) (s : ByteArray) (x : Value) (h : ¬ (1 ≤ k ∧ k ≤ 6)) : frm k n s x = .iface 98 (.int .i64 k) := by
  unfold frm
  rw [if_neg (by omega), if_neg (by omega), if_neg (by omega), if_neg (by omega), if_neg (by omega), if_neg (by omega)]

theorem kinds {k : Int} (h : 1 ≤ k ∧ k ≤ 6) : k = 1 ∨ k = 2 ∨ k = 3 ∨ k = 4 ∨ k = 5 ∨ k = 6 := by omega

set_option maxHeartbeats 1000000 in
theorem formOf_any (k n : Int) (s : ByteArray) (ao : Option Addr) (len cap : Nat) (w : World) :
    Calls Try.prog 36 #[.agg #[.int .i64 k, .int .i64 n, .string s, .slice ao len cap]] w fun e w' => e = .returned (frm k n s (.slice ao len cap)) ∧ Below w.heap.size w w' := by
  by_cases hk : 1 ≤ k ∧ k ≤ 6
  · rcases kinds hk with rfl | rfl | rfl | rfl | rfl | rfl
    all_goals
      go_enter Try.func36, Try.ntmps36
      go_wp2_with fail
      go_ret
      exact ⟨rfl, (Below.refl _ _).alloc (Nat.le_refl _) _⟩
  · have e1 : (k == 1) = false := beq_eq_false_iff_ne.2 (by omega)
    have e2 : (k == 2) = false := beq_eq_false_iff_ne.2 (by omega)
    have e3 : (k == 3) = false := beq_eq_false_iff_ne.2 (by omega)
    have e4 : (k == 4) = false := beq_eq_false_iff_ne.2 (by omega)
    have e5 : (k == 5) = false := beq_eq_false_iff_ne.2 (by omega)
    have e6 : (k == 6) = false := beq_eq_false_iff_ne.2 (by omega)
    have HF : Hid (frm k n s (.slice ao len cap) = .iface 98 (.int .i64 k)) := frm_no n s _ hk
    go_enter Try.func36, Try.ntmps36
    go_wp2_with fail
    go_ret
    exact ⟨by rw [HF.out]; rfl, (Below.refl _ _).alloc (Nat.le_refl _) _⟩

/-- What stands within, of a kind that has it. -/
def inn (k : Int) (x : Value) : Value := if k = 4 ∨ k = 5 then x else .slice none 0 0

theorem gtr_string (t : TypeId) (a b : ByteArray) : binOp .gtr t (.string a) (.string b) = pure (.bool !(Op.bytesLess a.toList b.toList || a.toList == b.toList)) := by simp [binOp, Op.stringOp]
theorem gtr_bytes (a b : ByteArray) (h : Op.bytesLess a.toList b.toList = false) : (!(Op.bytesLess a.toList b.toList || a.toList == b.toList)) = Op.bytesLess b.toList a.toList := by
  rw [h, Bool.false_or]
  cases h2 : Op.bytesLess b.toList a.toList
  · rw [bl_tot _ _ h h2]; simp
  · have : a.toList ≠ b.toList := fun e => by rw [e, bl_irr] at h2; cases h2
    simp [this]
theorem cmpInt_any (x y : Int) (w : World) :
    Calls Try.prog 35 #[.int .i64 x, .int .i64 y] w fun e w' => e = .returned (.int .i64 (cmpI x y)) ∧ w' = w := by
  by_cases h1 : x < y
  · have HC : Hid (cmpI x y = -1) := if_pos h1
    go_enter Try.func35, Try.ntmps35
    go_wp2_with (go_at_call 53; go_in)
    go_ret
    exact ⟨by rw [HC.out]; rfl, rfl⟩
  · by_cases h2 : y < x
    · have HC : Hid (cmpI x y = 1) := (if_neg h1).trans (if_pos h2)
      go_enter Try.func35, Try.ntmps35
      go_wp2_with (go_at_call 53; go_in)
      go_ret
      exact ⟨by rw [HC.out]; rfl, rfl⟩
    · have HC : Hid (cmpI x y = 0) := (if_neg h1).trans (if_neg h2)
      go_enter Try.func35, Try.ntmps35
      go_wp2_with (go_at_call 53; go_in)
      go_ret
      exact ⟨by rw [HC.out]; rfl, rfl⟩
theorem cmp_intForm (x y : Int) (w : World) :
    Calls Try.prog 54 #[.int .i64 x, .int .i64 y] w fun e w' => e = .returned (.int .i64 (cmpI x y)) ∧ w' = w := by
  by_cases h1 : x < y
  · have HC : Hid (cmpI x y = -1) := if_pos h1
    go_enter Try.func54, Try.ntmps54
    go_wp2_with (go_at_call 65; go_in)
    go_ret
    exact ⟨by rw [HC.out]; rfl, rfl⟩
  · by_cases h2 : y < x
    · have HC : Hid (cmpI x y = 1) := (if_neg h1).trans (if_pos h2)
      go_enter Try.func54, Try.ntmps54
      go_wp2_with (go_at_call 65; go_in)
      go_ret
      exact ⟨by rw [HC.out]; rfl, rfl⟩
    · have HC : Hid (cmpI x y = 0) := (if_neg h1).trans (if_neg h2)
      go_enter Try.func54, Try.ntmps54
      go_wp2_with (go_at_call 65; go_in)
      go_ret
      exact ⟨by rw [HC.out]; rfl, rfl⟩
theorem cmp_pidForm (x y : Int) (w : World) :
    Calls Try.prog 56 #[.int .i64 x, .int .i64 y] w fun e w' => e = .returned (.int .i64 (cmpI x y)) ∧ w' = w := by
  by_cases h1 : x < y
  · have HC : Hid (cmpI x y = -1) := if_pos h1
    go_enter Try.func56, Try.ntmps56
    go_wp2_with (go_at_call 67; go_in)
    go_ret
    exact ⟨by rw [HC.out]; rfl, rfl⟩
  · by_cases h2 : y < x
    · have HC : Hid (cmpI x y = 1) := (if_neg h1).trans (if_pos h2)
      go_enter Try.func56, Try.ntmps56
      go_wp2_with (go_at_call 67; go_in)
      go_ret
      exact ⟨by rw [HC.out]; rfl, rfl⟩
    · have HC : Hid (cmpI x y = 0) := (if_neg h1).trans (if_neg h2)
      go_enter Try.func56, Try.ntmps56
      go_wp2_with (go_at_call 67; go_in)
      go_ret
      exact ⟨by rw [HC.out]; rfl, rfl⟩
theorem cmp_atomForm (x y : ByteArray) (w : World) :
    Calls Try.prog 55 #[.string x, .string y] w fun e w' => e = .returned (.int .i64 (cmpS x y)) ∧ w' = w := by
  cases h1 : Op.bytesLess x.toList y.toList
  · cases h2 : Op.bytesLess y.toList x.toList
    · have HC : Hid (cmpS x y = 0) := by show _ = _; unfold cmpS; rw [h1, h2]; rfl
      have hg : ∀ w : World, (binOp .gtr 93 (.string x) (.string y)).run Try.prog w = .ok (.bool false) w := fun w => by rw [gtr_string, gtr_bytes x y h1, h2]; rfl
      go_enter Try.func55, Try.ntmps55
      go_wp2_with (go_at_call 66; go_in)
      go_ret
      exact ⟨by rw [HC.out]; rfl, rfl⟩
    · have HC : Hid (cmpS x y = 1) := by show _ = _; unfold cmpS; rw [h1, h2]; rfl
      have hg : ∀ w : World, (binOp .gtr 93 (.string x) (.string y)).run Try.prog w = .ok (.bool true) w := fun w => by rw [gtr_string, gtr_bytes x y h1, h2]; rfl
      go_enter Try.func55, Try.ntmps55
      go_wp2_with (go_at_call 66; go_in)
      go_ret
      exact ⟨by rw [HC.out]; rfl, rfl⟩
  · have HC : Hid (cmpS x y = -1) := by show _ = _; unfold cmpS; rw [h1]; rfl
    go_enter Try.func55, Try.ntmps55
    go_wp2_with (go_at_call 66; go_in)
    go_ret
    exact ⟨by rw [HC.out]; rfl, rfl⟩
theorem cmp_binForm (x y : ByteArray) (w : World) :
    Calls Try.prog 57 #[.string x, .string y] w fun e w' => e = .returned (.int .i64 (cmpS x y)) ∧ w' = w := by
  cases h1 : Op.bytesLess x.toList y.toList
  · cases h2 : Op.bytesLess y.toList x.toList
    · have HC : Hid (cmpS x y = 0) := by show _ = _; unfold cmpS; rw [h1, h2]; rfl
      have hg : ∀ w : World, (binOp .gtr 97 (.string x) (.string y)).run Try.prog w = .ok (.bool false) w := fun w => by rw [gtr_string, gtr_bytes x y h1, h2]; rfl
      go_enter Try.func57, Try.ntmps57
      go_wp2_with (go_at_call 68; go_in)
      go_ret
      exact ⟨by rw [HC.out]; rfl, rfl⟩
    · have HC : Hid (cmpS x y = 1) := by show _ = _; unfold cmpS; rw [h1, h2]; rfl
      have hg : ∀ w : World, (binOp .gtr 97 (.string x) (.string y)).run Try.prog w = .ok (.bool true) w := fun w => by rw [gtr_string, gtr_bytes x y h1, h2]; rfl
      go_enter Try.func57, Try.ntmps57
      go_wp2_with (go_at_call 68; go_in)
      go_ret
      exact ⟨by rw [HC.out]; rfl, rfl⟩
  · have HC : Hid (cmpS x y = -1) := by show _ = _; unfold cmpS; rw [h1]; rfl
    go_enter Try.func57, Try.ntmps57
    go_wp2_with (go_at_call 68; go_in)
    go_ret
    exact ⟨by rw [HC.out]; rfl, rfl⟩
end Go.Proofs.Ytimnnedmpmlmdaa
namespace Go.Proofs.Ytimnnedmpmlmdaa
open Go.RowKit
set_option linter.unusedVariables false

theorem innerOf_any (k n : Int) (s : ByteArray) (ao : Option Addr) (len cap : Nat) (w : World) :
    Calls Try.prog 38 #[frm k n s (.slice ao len cap)] w fun e w' => e = .returned (inn k (.slice ao len cap)) ∧ w' = w := by
  by_cases hk : 1 ≤ k ∧ k ≤ 6
  · rcases kinds hk with rfl | rfl | rfl | rfl | rfl | rfl
    · rw [frm_1]
      have q1 : ∀ W, (Instr.typeAssert (.iface 92 (.int .i64 n)) 68 95 true).run Try.prog W = .ok (.tuple #[.slice none 0 0, .bool false]) W := fun W => by kernel_rfl
      have q2 : ∀ W, (Instr.typeAssert (.iface 92 (.int .i64 n)) 68 96 true).run Try.prog W = .ok (.tuple #[.slice none 0 0, .bool false]) W := fun W => by kernel_rfl
      go_enter Try.func38, Try.ntmps38
      go_wp2_with fail
      go_ret
      exact ⟨rfl, rfl⟩
    · rw [frm_2]
      have q1 : ∀ W, (Instr.typeAssert (.iface 93 (.string s)) 68 95 true).run Try.prog W = .ok (.tuple #[.slice none 0 0, .bool false]) W := fun W => by kernel_rfl
      have q2 : ∀ W, (Instr.typeAssert (.iface 93 (.string s)) 68 96 true).run Try.prog W = .ok (.tuple #[.slice none 0 0, .bool false]) W := fun W => by kernel_rfl
      go_enter Try.func38, Try.ntmps38
      go_wp2_with fail
      go_ret
      exact ⟨rfl, rfl⟩
    · rw [frm_3]
      have q1 : ∀ W, (Instr.typeAssert (.iface 94 (.int .i64 n)) 68 95 true).run Try.prog W = .ok (.tuple #[.slice none 0 0, .bool false]) W := fun W => by kernel_rfl
      have q2 : ∀ W, (Instr.typeAssert (.iface 94 (.int .i64 n)) 68 96 true).run Try.prog W = .ok (.tuple #[.slice none 0 0, .bool false]) W := fun W => by kernel_rfl
      go_enter Try.func38, Try.ntmps38
      go_wp2_with fail
      go_ret
      exact ⟨rfl, rfl⟩
    · rw [frm_4]
      have q1 := assert_83_83
      go_enter Try.func38, Try.ntmps38
      go_wp2_with fail
      go_ret
      exact ⟨rfl, rfl⟩
    · rw [frm_5]
      have q1 := assert_84_83
      have q2 := assert_84_84
      go_enter Try.func38, Try.ntmps38
      go_wp2_with fail
      go_ret
      exact ⟨rfl, rfl⟩
    · rw [frm_6]
      have q1 := assert_85_83
      have q2 := assert_85_84
      go_enter Try.func38, Try.ntmps38
      go_wp2_with fail
      go_ret
      exact ⟨rfl, rfl⟩
  · rw [frm_no n s _ hk]
    have HI : Hid (inn k (.slice ao len cap) = .slice none 0 0) := if_neg (by omega)
    have q1 := assert_86_83
    have q2 := assert_86_84
    go_enter Try.func38, Try.ntmps38
    go_wp2_with fail
    go_ret
    exact ⟨by rw [HI.out]; rfl, rfl⟩

theorem meth_int (v : Value) (w : World) : (method 241 92 v "loop.example/g00248/impl.kind").run Try.prog w = .ok (95, v) w := by kernel_rfl
theorem meth_atom (v : Value) (w : World) : (method 241 93 v "loop.example/g00248/impl.kind").run Try.prog w = .ok (96, v) w := by kernel_rfl
theorem meth_pid (v : Value) (w : World) : (method 241 94 v "loop.example/g00248/impl.kind").run Try.prog w = .ok (97, v) w := by kernel_rfl
theorem meth_tuple (v : Value) (w : World) : (method 241 95 v "loop.example/g00248/impl.kind").run Try.prog w = .ok (98, v) w := by kernel_rfl
theorem meth_list (v : Value) (w : World) : (method 241 96 v "loop.example/g00248/impl.kind").run Try.prog w = .ok (99, v) w := by kernel_rfl
theorem meth_bin (v : Value) (w : World) : (method 241 97 v "loop.example/g00248/impl.kind").run Try.prog w = .ok (100, v) w := by kernel_rfl
theorem meth_no (v : Value) (w : World) : (method 241 98 v "loop.example/g00248/impl.kind").run Try.prog w = .ok (101, v) w := by kernel_rfl
/-- A form, as its method kind sees it. -/
structure Fm (v : Value) (k : Int) (t : TypeId) (u : Value) (f : FuncId) : Prop where
  eq : v = .iface t u
  meth : ∀ w : World, (method 241 t u "loop.example/g00248/impl.kind").run Try.prog w = .ok (f, u) w
  call : ∀ w : World, (callFunc f #[u]).run Try.prog w = .ok (.enter f #[u]) w
  kind : ∀ w : World, Calls Try.prog f #[u] w fun e w' => e = .returned (.int .i64 k) ∧ w' = w
theorem kind_int (u : Value) (w : World) : Calls Try.prog 95 #[u] w fun e w' => e = .returned (.int .i64 1) ∧ w' = w := by
  go_enter Try.func95, Try.ntmps95
  go_wp2_with fail
  go_ret
  exact ⟨rfl, rfl⟩
theorem kind_atom (u : Value) (w : World) : Calls Try.prog 96 #[u] w fun e w' => e = .returned (.int .i64 2) ∧ w' = w := by
  go_enter Try.func96, Try.ntmps96
  go_wp2_with fail
  go_ret
  exact ⟨rfl, rfl⟩
theorem kind_pid (u : Value) (w : World) : Calls Try.prog 97 #[u] w fun e w' => e = .returned (.int .i64 3) ∧ w' = w := by
  go_enter Try.func97, Try.ntmps97
  go_wp2_with fail
  go_ret
  exact ⟨rfl, rfl⟩
theorem kind_tuple (u : Value) (w : World) : Calls Try.prog 98 #[u] w fun e w' => e = .returned (.int .i64 4) ∧ w' = w := by
  go_enter Try.func98, Try.ntmps98
  go_wp2_with fail
  go_ret
  exact ⟨rfl, rfl⟩
theorem kind_list (u : Value) (w : World) : Calls Try.prog 99 #[u] w fun e w' => e = .returned (.int .i64 5) ∧ w' = w := by
  go_enter Try.func99, Try.ntmps99
  go_wp2_with fail
  go_ret
  exact ⟨rfl, rfl⟩
theorem kind_bin (u : Value) (w : World) : Calls Try.prog 100 #[u] w fun e w' => e = .returned (.int .i64 6) ∧ w' = w := by
  go_enter Try.func100, Try.ntmps100
  go_wp2_with fail
  go_ret
  exact ⟨rfl, rfl⟩
theorem kind_no (k : Int) (w : World) : Calls Try.prog 101 #[.int .i64 k] w fun e w' => e = .returned (.int .i64 k) ∧ w' = w := by
  go_enter Try.func101, Try.ntmps101
  go_wp2_with fail
  go_ret
  exact ⟨rfl, rfl⟩
theorem fm_of (k n : Int) (s : ByteArray) (x : Value) : ∃ t u f, Fm (frm k n s x) k t u f := by
  by_cases hk : 1 ≤ k ∧ k ≤ 6
  · rcases kinds hk with rfl | rfl | rfl | rfl | rfl | rfl
    · exact ⟨_, _, _, frm_1 n s x, meth_int _, fun w => by kernel_rfl, kind_int _⟩
    · exact ⟨_, _, _, frm_2 n s x, meth_atom _, fun w => by kernel_rfl, kind_atom _⟩
    · exact ⟨_, _, _, frm_3 n s x, meth_pid _, fun w => by kernel_rfl, kind_pid _⟩
    · exact ⟨_, _, _, frm_4 n s x, meth_tuple _, fun w => by kernel_rfl, kind_tuple _⟩
    · exact ⟨_, _, _, frm_5 n s x, meth_list _, fun w => by kernel_rfl, kind_list _⟩
    · exact ⟨_, _, _, frm_6 n s x, meth_bin _, fun w => by kernel_rfl, kind_bin _⟩
  · exact ⟨_, _, _, frm_no n s x hk, meth_no _, fun w => by kernel_rfl, kind_no k⟩

set_option maxRecDepth 100000 in
set_option maxHeartbeats 1000000 in
theorem alone_unlike {v v' : Value} {k k' : Int} {t t' : TypeId} {u u' : Value} {f f' : FuncId} (h : Fm v k t u f) (h' : Fm v' k' t' u' f') (hne : k ≠ k') (w : World) :
    Calls Try.prog 37 #[v, v'] w fun e w' => e = .returned (.int .i64 (cmpI k k')) ∧ w' = w := by
  obtain ⟨rfl, m1, f1, c1⟩ := h
  obtain ⟨rfl, m2, f2, c2⟩ := h'
  have HC1 : Hid (∀ w : World, Calls Try.prog f #[u] w fun e w' => e = .returned (.int .i64 k) ∧ w' = w) := c1
  have HC2 : Hid (∀ w : World, Calls Try.prog f' #[u'] w fun e w' => e = .returned (.int .i64 k') ∧ w' = w) := c2
  have HCM : Hid (∀ w : World, Calls Try.prog 35 #[.int .i64 k, .int .i64 k'] w fun e w' => e = .returned (.int .i64 (cmpI k k')) ∧ w' = w) := fun w => cmpInt_any k k' w
  have b1 : (k == k') = false := beq_eq_false_iff_ne.2 hne
  generalize cmpI k k' = C at HCM ⊢
  clear c1 c2
  go_enter Try.func37, Try.ntmps37
  go_wp2_with (first | (refine (HC1.out _).mono ?_; rintro e w1 ⟨rfl, hw⟩; obtain rfl := hw.symm) | (refine (HC2.out _).mono ?_; rintro e w1 ⟨rfl, hw⟩; obtain rfl := hw.symm) | (refine (HCM.out _).mono ?_; rintro e w1 ⟨rfl, hw⟩; obtain rfl := hw.symm))
  go_ret
  exact ⟨rfl, rfl⟩
end Go.Proofs.Ytimnnedmpmlmdaa
namespace Go.Proofs.Ytimnnedmpmlmdaa
open Go.RowKit
set_option linter.unusedVariables false

theorem is_int (v : Value) (W : World) : (Instr.typeAssert (.iface 92 v) 68 92 false).run Try.prog W = .ok v W := by kernel_rfl
theorem is_atom (v : Value) (W : World) : (Instr.typeAssert (.iface 93 v) 68 93 false).run Try.prog W = .ok v W := by kernel_rfl
theorem is_pid (v : Value) (W : World) : (Instr.typeAssert (.iface 94 v) 68 94 false).run Try.prog W = .ok v W := by kernel_rfl
theorem is_tuple (v : Value) (W : World) : (Instr.typeAssert (.iface 95 v) 68 95 false).run Try.prog W = .ok v W := by kernel_rfl
theorem is_bin (v : Value) (W : World) : (Instr.typeAssert (.iface 97 v) 68 97 false).run Try.prog W = .ok v W := by kernel_rfl
theorem assert_84_85 (v : Value) (W : World) : (Instr.typeAssert (.iface 96 v) 68 97 true).run Try.prog W = .ok (.tuple #[.string ⟨#[]⟩, .bool false]) W := by kernel_rfl

set_option maxRecDepth 100000 in
set_option maxHeartbeats 1000000 in
theorem alone_int (n n' : Int) (w : World) :
    Calls Try.prog 37 #[.iface 92 (.int .i64 n), .iface 92 (.int .i64 n')] w fun e w' => e = .returned (.int .i64 (cmpI n n')) ∧ w' = w := by
  have m1 := meth_int
  have a80 := assert_80_80
  have i1 := is_int
  go_enter Try.func37, Try.ntmps37
  go_wp2_with (first | (go_at_call 95; refine (kind_int _ _).mono ?_; rintro e w1 ⟨rfl, hw⟩; obtain rfl := hw.symm) | (go_at_call 54; refine (cmp_intForm _ _ _).mono ?_; rintro e w1 ⟨rfl, hw⟩; obtain rfl := hw.symm))
  go_ret
  exact ⟨rfl, rfl⟩
set_option maxRecDepth 100000 in
set_option maxHeartbeats 1000000 in
theorem alone_atom (s s' : ByteArray) (w : World) :
    Calls Try.prog 37 #[.iface 93 (.string s), .iface 93 (.string s')] w fun e w' => e = .returned (.int .i64 (cmpS s s')) ∧ w' = w := by
  have m1 := meth_atom
  have a80 := assert_81_80
  have a81 := assert_81_81
  have i1 := is_atom
  go_enter Try.func37, Try.ntmps37
  go_wp2_with (first | (go_at_call 96; refine (kind_atom _ _).mono ?_; rintro e w1 ⟨rfl, hw⟩; obtain rfl := hw.symm) | (go_at_call 55; refine (cmp_atomForm _ _ _).mono ?_; rintro e w1 ⟨rfl, hw⟩; obtain rfl := hw.symm))
  go_ret
  exact ⟨rfl, rfl⟩
set_option maxRecDepth 100000 in
set_option maxHeartbeats 1000000 in
theorem alone_pid (n n' : Int) (w : World) :
    Calls Try.prog 37 #[.iface 94 (.int .i64 n), .iface 94 (.int .i64 n')] w fun e w' => e = .returned (.int .i64 (cmpI n n')) ∧ w' = w := by
  have m1 := meth_pid
  have a80 := assert_82_80
  have a81 := assert_82_81
  have a82 := assert_82_82
  have i1 := is_pid
  go_enter Try.func37, Try.ntmps37
  go_wp2_with (first | (go_at_call 97; refine (kind_pid _ _).mono ?_; rintro e w1 ⟨rfl, hw⟩; obtain rfl := hw.symm) | (go_at_call 56; refine (cmp_pidForm _ _ _).mono ?_; rintro e w1 ⟨rfl, hw⟩; obtain rfl := hw.symm))
  go_ret
  exact ⟨rfl, rfl⟩
set_option maxRecDepth 100000 in
set_option maxHeartbeats 1000000 in
theorem alone_tuple (ao ao' : Option Addr) (len len' cap cap' : Nat) (w : World) :
    Calls Try.prog 37 #[.iface 95 (.slice ao len cap), .iface 95 (.slice ao' len' cap')] w fun e w' => e = .returned (.int .i64 (cmpI len len')) ∧ w' = w := by
  have m1 := meth_tuple
  have a80 := assert_83_80
  have a81 := assert_83_81
  have a82 := assert_83_82
  have a83 := assert_83_83
  have i1 := is_tuple
  go_enter Try.func37, Try.ntmps37
  go_wp2_with (first | (go_at_call 98; refine (kind_tuple _ _).mono ?_; rintro e w1 ⟨rfl, hw⟩; obtain rfl := hw.symm) | (go_at_call 35; refine (cmpInt_any _ _ _).mono ?_; rintro e w1 ⟨rfl, hw⟩; obtain rfl := hw.symm))
  go_ret
  exact ⟨rfl, rfl⟩
set_option maxRecDepth 100000 in
set_option maxHeartbeats 1000000 in
theorem alone_list (x x' : Value) (w : World) :
    Calls Try.prog 37 #[.iface 96 (x), .iface 96 (x')] w fun e w' => e = .returned (.int .i64 (0)) ∧ w' = w := by
  have m1 := meth_list
  have a80 := assert_84_80
  have a81 := assert_84_81
  have a82 := assert_84_82
  have a83 := assert_84_83
  have a85 := assert_84_85
  go_enter Try.func37, Try.ntmps37
  go_wp2_with (first | (go_at_call 99; refine (kind_list _ _).mono ?_; rintro e w1 ⟨rfl, hw⟩; obtain rfl := hw.symm))
  go_ret
  exact ⟨rfl, rfl⟩
set_option maxRecDepth 100000 in
set_option maxHeartbeats 1000000 in
theorem alone_bin (s s' : ByteArray) (w : World) :
    Calls Try.prog 37 #[.iface 97 (.string s), .iface 97 (.string s')] w fun e w' => e = .returned (.int .i64 (cmpS s s')) ∧ w' = w := by
  have m1 := meth_bin
  have a80 := assert_85_80
  have a81 := assert_85_81
  have a82 := assert_85_82
  have a83 := assert_85_83
  have a85 := assert_85_85
  have i1 := is_bin
  go_enter Try.func37, Try.ntmps37
  go_wp2_with (first | (go_at_call 100; refine (kind_bin _ _).mono ?_; rintro e w1 ⟨rfl, hw⟩; obtain rfl := hw.symm) | (go_at_call 57; refine (cmp_binForm _ _ _).mono ?_; rintro e w1 ⟨rfl, hw⟩; obtain rfl := hw.symm))
  go_ret
  exact ⟨rfl, rfl⟩
set_option maxRecDepth 100000 in
set_option maxHeartbeats 1000000 in
theorem alone_no (k : Int) (w : World) :
    Calls Try.prog 37 #[.iface 98 (.int .i64 k), .iface 98 (.int .i64 k)] w fun e w' => e = .returned (.int .i64 (0)) ∧ w' = w := by
  have m1 := meth_no
  have a80 := assert_86_80
  have a81 := assert_86_81
  have a82 := assert_86_82
  have a83 := assert_86_83
  have a85 := assert_86_85
  go_enter Try.func37, Try.ntmps37
  go_wp2_with (first | (go_at_call 101; refine (kind_no _ _).mono ?_; rintro e w1 ⟨rfl, hw⟩; obtain rfl := hw.symm))
  go_ret
  exact ⟨rfl, rfl⟩

/-- Both forms of two terms. -/
theorem orderAlone_any (k n : Int) (s : ByteArray) (ao : Option Addr) (len cap : Nat) (k' n' : Int) (s' : ByteArray) (ao' : Option Addr) (len' cap' : Nat) (w : World) :
    Calls Try.prog 37 #[frm k n s (.slice ao len cap), frm k' n' s' (.slice ao' len' cap')] w fun e w' => e = .returned (.int .i64 (thenC (cmpI k k') (ownC k n s len n' s' len'))) ∧ w' = w := by
  by_cases he : k = k'
  · subst he
    have h0 : cmpI k k = 0 := (cmpI_zero k k).2 rfl
    have h1 : thenC (cmpI k k) (ownC k n s len n' s' len') = ownC k n s len n' s' len' := by unfold thenC; rw [if_pos h0]
    rw [h1]
    by_cases hk : 1 ≤ k ∧ k ≤ 6
    · rcases kinds hk with rfl | rfl | rfl | rfl | rfl | rfl
      · exact alone_int n n' w
      · exact alone_atom s s' w
      · exact alone_pid n n' w
      · exact alone_tuple ao ao' len len' cap cap' w
      · exact alone_list _ _ w
      · exact alone_bin s s' w
    · have h2 : ownC k n s len n' s' len' = 0 := by
        unfold ownC
        rw [if_neg (by omega), if_neg (by omega), if_neg (by omega)]
      rw [h2, frm_no n s _ hk, frm_no n' s' _ hk]
      exact alone_no k w
  · have h1 : thenC (cmpI k k') (ownC k n s len n' s' len') = cmpI k k' := by
      unfold thenC; rw [if_neg (fun h => he ((cmpI_zero k k').1 h))]
    rw [h1]
    obtain ⟨t, u, f, h⟩ := fm_of k n s (.slice ao len cap)
    obtain ⟨t', u', f', h'⟩ := fm_of k' n' s' (.slice ao' len' cap')
    exact alone_unlike h h' he w
end Go.Proofs.Ytimnnedmpmlmdaa
namespace Go.Proofs.Ytimnnedmpmlmdaa
open Go.RowKit
set_option linter.unusedVariables false

/-- A name: where the list begins (nowhere, of an empty one), and how long it is. -/
abbrev Nm := Option (Nat × Nat) × Int
def npV : Option (Nat × Nat) → Value
  | none => .pointer none
  | some (b, o) => .pointer (some ⟨b, o, none⟩)
def PlainP (w : World) : Option (Nat × Nat) → Prop
  | none => True
  | some (b, _) => Plain w b
theorem npV_inj {p q : Option (Nat × Nat)} (h : npV p = npV q) : p = q := by
  rcases p with _ | ⟨b, o⟩ <;> rcases q with _ | ⟨b', o'⟩ <;> simp_all [npV]
theorem eq_np {w : World} {p q : Option (Nat × Nat)} (hp : PlainP w p) (hq : PlainP w q) (d : Nat) : (Op.equalIn (d + 1) 72 (npV p) (npV q)).run Try.prog w = .ok (decide (p = q)) w := by
  rcases p with _ | ⟨b, o⟩ <;> rcases q with _ | ⟨b', o'⟩
  · simp [npV, Op.equalIn, run_underlying ptrTerm]
  · simp [npV, Op.equalIn, run_underlying ptrTerm]
  · simp [npV, Op.equalIn, run_underlying ptrTerm]
  · rw [npV, npV, eq_ptr hp hq d]
    simp
def nV (x : Nm) : Value := .agg #[npV x.1, .int .i64 x.2]
theorem eq_nm {w : World} {x y : Nm} (hx : PlainP w x.1) (hy : PlainP w y.1) (d : Nat) : (Op.equalIn (d + 2) 74 (nV x) (nV y)).run Try.prog w = .ok (decide (x = y)) w := by
  obtain ⟨p, n⟩ := x
  obtain ⟨q, m⟩ := y
  obtain ⟨f1, f2, hu, e1, e2, e3, e4, e5, e6⟩ := undName
  have p1 : ∀ (x y : Value), (part 72 #[x, y] 0).run Try.prog w = .ok x w := fun x y => by simp [part]
  have p2 : ∀ (x y : Value), (part 3 #[x, y] 1).run Try.prog w = .ok y w := fun x y => by simp [part]
  have q1 := eq_np hx hy d
  have q2 := eq_int9 (w := w) (n := n) (n' := m) d
  show (Op.equalIn (d + 1 + 1) 74 (.agg #[npV p, .int .i64 n]) (.agg #[npV q, .int .i64 m])).run Try.prog w = _
  rw [Op.equalIn]
  simp only [Sem.run_bind, run_underlying hu, Result.andThen_ok]
  by_cases e : p = q
  · subst e
    rw [decide_eq_true rfl] at q1
    by_cases en : n = m
    · subst en
      simp [e1, e2, e3, e4, e5, e6, p1, p2, q1, q2]
    · have en2 : (n == m) = false := by simp [en]
      rw [en2] at q2
      simp [e1, e2, e3, e4, e5, e6, p1, p2, q1, q2, en]
  · rw [decide_eq_false e] at q1
    simp [e1, e2, e3, e4, e5, e6, p1, q1, e]

/-- A key: two names. -/
def kV (x y : Nm) : Value := .agg #[npV x.1, .int .i64 x.2, npV y.1, .int .i64 y.2]
theorem kV_inj {x y x' y' : Nm} (h : kV x y = kV x' y') : x = x' ∧ y = y' := by
  simp only [kV, Value.agg.injEq, Array.mk.injEq, List.cons.injEq, and_true, Value.int.injEq, true_and] at h
  exact ⟨Prod.ext (npV_inj h.1) h.2.1, Prod.ext (npV_inj h.2.2.1) h.2.2.2⟩
theorem undPair : Try.prog.underlying 76 = some (.array 2 74) := by kernel_rfl
theorem infoName : ∃ i, Try.prog.info? 74 = some i := by
  have h : (Try.prog.info? 74).isSome = true := by kernel_rfl
  exact Option.isSome_iff_exists.1 h
theorem cellsName : Try.prog.cellsOf 74 = 2 := by kernel_rfl
theorem partName (w : World) (cs : Array Value) (o : Nat) : (part 74 cs o).run Try.prog w = .ok (.agg (cs.extract o (o + 2))) w := by
  have h1 : (isAgg 74).run Try.prog w = .ok true w := by kernel_rfl
  simp [part, h1]
theorem eq_pairIn {w : World} {x y x' y' : Nm} (hx : PlainP w x.1) (hy : PlainP w y.1) (hx' : PlainP w x'.1) (hy' : PlainP w y'.1) (d : Nat) :
    (Op.equalIn (d + 3) 76 (kV x y) (kV x' y')).run Try.prog w = .ok (decide (x = x' ∧ y = y')) w := by
  obtain ⟨i, hi⟩ := infoName
  have q1 := eq_nm hx hx' d
  have q2 := eq_nm hy hy' d
  unfold nV at q1 q2
  show (Op.equalIn ((d + 2) + 1) 76 (.agg _) (.agg _)).run Try.prog w = _
  rw [run_equalIn_array w (d + 2) _ _ undPair hi, cellsName]
  have r : List.range 2 = [0, 1] := rfl
  rw [r]
  by_cases e : x = x'
  · subst e
    rw [decide_eq_true rfl] at q1
    by_cases e2 : y = y'
    · subst e2
      rw [decide_eq_true rfl] at q2
      simp [Op.eqItems, partName, q1, q2]
    · rw [decide_eq_false e2] at q2
      simp [Op.eqItems, partName, q1, q2, e2]
  · rw [decide_eq_false e] at q1
    simp [Op.eqItems, partName, q1, e]
theorem eq_pair {w : World} {x y x' y' : Nm} (hx : PlainP w x.1) (hy : PlainP w y.1) (hx' : PlainP w x'.1) (hy' : PlainP w y'.1) :
    (Op.equal 76 (kV x y) (kV x' y')).run Try.prog w = .ok (decide (x = x' ∧ y = y')) w := eq_pairIn hx hy hx' hy' 9997

/-- An entry of such a map; S tells which pairs may be named. -/
def PrE (w : World) (S : Nm → Nm → Prop) (e : MapEntry) : Prop := ∃ x y, e.key = kV x y ∧ PlainP w x.1 ∧ PlainP w y.1 ∧ S x y ∧ e.val = .agg #[]
/-- The block mb is such a map. -/
def PrMap (w : World) (mb : Nat) (S : Nm → Nm → Prop) : Prop := ∃ es clk, w.heap[mb]? = some (.map es clk) ∧ ∀ e ∈ es.toList, PrE w S e
theorem undPm : Try.prog.underlying 64 = some (.map 76 77) := by kernel_rfl
theorem find_pair {w : World} {S : Nm → Nm → Prop} {x y : Nm} (hx : PlainP w x.1) (hy : PlainP w y.1) : ∀ (es : List MapEntry) (i : Nat), (∀ e ∈ es, PrE w S e) →
    (Instr.findAsking 76 (kV x y) es i).run Try.prog w = .ok (nmFind (kV x y) es i) w
  | [], i, _ => by simp [Instr.findAsking, nmFind]
  | e :: es, i, h => by
    obtain ⟨x', y', hk, h1, h2, hs, hv⟩ := h e (by simp)
    have q := eq_pair hx hy h1 h2
    rw [← hk] at q
    rw [nmFind]
    by_cases hq : e.key = kV x y
    · obtain ⟨rfl, rfl⟩ := kV_inj (hk.symm.trans hq)
      rw [decide_eq_true ⟨rfl, rfl⟩] at q
      rw [if_pos hq, Instr.findAsking, Sem.run_bind, q]
      simp
    · have hf : ¬ (x = x' ∧ y = y') := fun ⟨a, b⟩ => hq (by rw [hk, a, b])
      rw [decide_eq_false hf] at q
      rw [if_neg hq, Instr.findAsking, Sem.run_bind, q]
      simpa using find_pair hx hy es (i + 1) (fun z hz => h z (by simp [hz]))
theorem findKey_pair {w : World} {S : Nm → Nm → Prop} {x y : Nm} (hx : PlainP w x.1) (hy : PlainP w y.1) (es : List MapEntry) (h : ∀ e ∈ es, PrE w S e) :
    (Instr.findKey 76 (kV x y) es).run Try.prog w = .ok (nmFind (kV x y) es 0) w := by
  have key : (Instr.findKey 76 (kV x y) es).run Try.prog w = (Instr.findAsking 76 (kV x y) es 0).run Try.prog w := by
    unfold Instr.findKey
    rw [Sem.run_bind, run_underlying undPair, Result.andThen_ok]
    cases es with
    | nil => simp [Instr.findNow, Instr.findAsking]
    | cons e r => simp [kV, Instr.findNow, Instr.sameNow]
  rw [key]
  exact find_pair hx hy es 0 h
end Go.Proofs.Ytimnnedmpmlmdaa
namespace Go.Proofs.Ytimnnedmpmlmdaa
open Go.RowKit
set_option linter.unusedVariables false

theorem checkKey_nm {w : World} (p : Value) (n : Value) (em : Bool) (d : Nat) : (Instr.checkKey em (d + 2) 74 (.agg #[p, n])).run Try.prog w = .ok () w := by
  obtain ⟨f1, f2, hu, e1, e2, e3, e4, e5, e6⟩ := undName
  have p1 : ∀ (x y : Value), (part 72 #[x, y] 0).run Try.prog w = .ok x w := fun x y => by simp [part]
  have p2 : ∀ (x y : Value), (part 3 #[x, y] 1).run Try.prog w = .ok y w := fun x y => by simp [part]
  have c1 : ∀ v, (Instr.checkKey em (d + 1) 72 v).run Try.prog w = .ok () w := fun v => by simp [Instr.checkKey, run_underlying ptrTerm]
  have c2 : ∀ v, (Instr.checkKey em (d + 1) 3 v).run Try.prog w = .ok () w := fun v => by simp [Instr.checkKey, run_underlying Try.underlying3]
  rw [show d + 2 = (d + 1) + 1 from rfl, Instr.checkKey]
  simp only [Sem.run_bind, run_underlying hu, Result.andThen_ok]
  simp [e1, e2, e3, e4, e5, e6, p1, p2, c1, c2]
theorem checkKey_pair {w : World} (x y : Nm) (em : Bool) (d : Nat) : (Instr.checkKey em (d + 3) 76 (kV x y)).run Try.prog w = .ok () w := by
  obtain ⟨i, hi⟩ := infoName
  have c1 := fun p n => checkKey_nm (w := w) p n em d
  have hs : (sizeOf 74).run Try.prog w = .ok 2 w := by kernel_rfl
  rw [kV, show d + 3 = (d + 2) + 1 from rfl, Instr.checkKey]
  simp only [Sem.run_bind, run_underlying undPair, Result.andThen_ok]
  simp only [Std.Legacy.Range.forIn_eq_forIn_range', Std.Legacy.Range.size, Nat.sub_zero, Nat.add_one_sub_one, Nat.div_one]
  have r : List.range' 0 2 = [0, 1] := rfl
  rw [r]
  simp [hs, partName, c1]
theorem PlainP.heap {w w' : World} (e : w'.heap = w.heap) : ∀ {p : Option (Nat × Nat)}, PlainP w p → PlainP w' p
  | none, _ => trivial
  | some (b, o), ⟨⟨c, t, f, h1⟩, h2⟩ => ⟨⟨c, t, f, by rw [e]; exact h1⟩, fun y => by rw [World.frozen?_of_block (w := w) (by rw [e])]; exact h2 y⟩
theorem PlainP.turn {w w' : World} {mb : Nat} (ht : Turn mb w w') (hm : ∀ b, Plain w b → b ≠ mb) : ∀ {p : Option (Nat × Nat)}, PlainP w p → PlainP w' p
  | none, _ => trivial
  | some (b, o), h => Plain.turn ht (hm b h) h
/-- Lookup, in every world that has this heap. -/
theorem lookup_pair {w : World} {mb : Nat} {S : Nm → Nm → Prop} (h : PrMap w mb S) {x y : Nm} (hx : PlainP w x.1) (hy : PlainP w y.1) :
    ∃ q, (∀ w' : World, w'.heap = w.heap → (Instr.lookup 64 (.map (some mb)) (kV x y) true).run Try.prog w' = .ok (.tuple #[.agg #[], .bool q]) w') ∧ (q = true → S x y) := by
  obtain ⟨es, clk, hm, he⟩ := h
  have hc : ∀ w' : World, (Instr.checkKey es.isEmpty 10000 76 (kV x y)).run Try.prog w' = .ok () w' := fun w' => checkKey_pair x y es.isEmpty 9997
  have hf : ∀ w' : World, w'.heap = w.heap → (Instr.findKey 76 (kV x y) es.toList).run Try.prog w' = .ok (nmFind (kV x y) es.toList 0) w' := fun w' e =>
    findKey_pair (hx.heap e) (hy.heap e) es.toList (fun z hz => by obtain ⟨x', y', k1, k2, k3, k4, k5⟩ := he z hz; exact ⟨x', y', k1, k2.heap e, k3.heap e, k4, k5⟩)
  cases hr : nmFind (kV x y) es.toList 0 with
  | none =>
    refine ⟨false, fun w' e => ?_, fun h => by cases h⟩
    have h1 := hf w' e
    rw [hr] at h1
    have hm' : w'.heap[mb]? = some (.map es clk) := by rw [e]; exact hm
    simp [Instr.lookup, run_underlying undPm, MapKept.run_getObj_map hm', hc, h1]
  | some z =>
    obtain ⟨j, v⟩ := z
    obtain ⟨e0, m1, m2, m3⟩ := nmFind_hit hr
    obtain ⟨x', y', k1, k2, k3, k4, k5⟩ := he e0 m1
    obtain ⟨rfl, rfl⟩ := kV_inj (k1.symm.trans m2)
    refine ⟨true, fun w' e => ?_, fun _ => k4⟩
    have h1 := hf w' e
    rw [hr] at h1
    rw [← m3, k5] at h1
    have hm' : w'.heap[mb]? = some (.map es clk) := by rw [e]; exact hm
    simp [Instr.lookup, run_underlying undPm, MapKept.run_getObj_map hm', hc, h1]
theorem nmFind_from {k : Value} : ∀ {es : List MapEntry} {i j : Nat} {v : Value}, nmFind k es i = some (j, v) → i ≤ j ∧ ∃ e, es[j - i]? = some e ∧ e.key = k
  | [], i, j, v, h => by simp [nmFind] at h
  | e :: es, i, j, v, h => by
    rw [nmFind] at h
    split at h
    · rename_i hk
      simp only [Option.some.injEq, Prod.mk.injEq] at h
      obtain ⟨rfl, _⟩ := h
      exact ⟨Nat.le_refl _, e, by simp, hk⟩
    · obtain ⟨h1, e', h2, h3⟩ := nmFind_from h
      refine ⟨by omega, e', ?_, h3⟩
      rw [show j - i = (j - (i + 1)) + 1 by omega, List.getElem?_cons_succ]
      exact h2
theorem nmFind_at {k : Value} {es : List MapEntry} {j : Nat} {v : Value} (h : nmFind k es 0 = some (j, v)) : ∃ e, es[j]? = some e ∧ e.key = k := (nmFind_from h).2
theorem stays_pair {w : World} (x y : Nm) : (Instr.keyThatStays (kV x y) (kV x y)).run Try.prog w = .ok (kV x y) w := by
  have : Instr.sameBits 10000 (kV x y) (kV x y) = true := by
    show Instr.sameBits (9998 + 1 + 1) _ _ = true
    obtain ⟨p, n⟩ := x
    obtain ⟨q, m⟩ := y
    rcases p with _ | ⟨b, o⟩ <;> rcases q with _ | ⟨b', o'⟩ <;> simp [kV, npV, Instr.sameBits]
  simp [Instr.keyThatStays, this]
theorem update_pair {w : World} {mb : Nat} {S : Nm → Nm → Prop} (h : PrMap w mb S) {x y : Nm} (hx : PlainP w x.1) (hy : PlainP w y.1) :
    ∃ w', (Instr.mapUpdate 64 (.map (some mb)) (kV x y) (.agg #[])).run Try.prog w = .ok () w' ∧ Turn mb w w' ∧ PrMap w' mb (fun a b => S a b ∨ (a = x ∧ b = y)) := by
  obtain ⟨es, clk, hm, he⟩ := h
  have hc : (Instr.checkKey false 10000 76 (kV x y)).run Try.prog w = .ok () w := checkKey_pair x y false 9997
  have hml : mb < w.heap.size := by
    rcases Nat.lt_or_ge mb w.heap.size with h | h
    · exact h
    · rw [Array.getElem?_eq_none h] at hm; cases hm
  have hpl : ∀ b, Plain w b → b ≠ mb := fun b hb e => by
    subst e
    obtain ⟨⟨c, t, f, h⟩, _⟩ := hb
    rw [hm] at h; cases h
  have turn : ∀ O, Turn mb w { w with heap := w.heap.setIfInBounds mb O } := fun O => ⟨rfl, rfl, rfl, by simp, fun k hk hne => by
    show (w.heap.setIfInBounds mb O)[k]? = _
    rw [Array.getElem?_setIfInBounds_ne (Ne.symm hne)]⟩
  have new : ∀ O, ({ w with heap := w.heap.setIfInBounds mb O } : World).heap[mb]? = some O := fun O => by
    show (w.heap.setIfInBounds mb O)[mb]? = _
    rw [Array.getElem?_setIfInBounds_self_of_lt hml]
  have old : ∀ O e, PrE w S e → PrE { w with heap := w.heap.setIfInBounds mb O } (fun a b => S a b ∨ (a = x ∧ b = y)) e := fun O e ⟨x', y', k1, k2, k3, k4, k5⟩ =>
    ⟨x', y', k1, k2.turn (turn O) hpl, k3.turn (turn O) hpl, .inl k4, k5⟩
  have mine : ∀ O cl, PrE { w with heap := w.heap.setIfInBounds mb O } (fun a b => S a b ∨ (a = x ∧ b = y)) ⟨kV x y, .agg #[], cl⟩ := fun O cl =>
    ⟨x, y, rfl, hx.turn (turn O) hpl, hy.turn (turn O) hpl, .inr ⟨rfl, rfl⟩, rfl⟩
  have h0 := findKey_pair hx hy es.toList he
  cases hr : nmFind (kV x y) es.toList 0 with
  | none =>
    rw [hr] at h0
    refine ⟨{ w with heap := w.heap.setIfInBounds mb (.map (es.push ⟨kV x y, .agg #[], clk⟩) (clk + 1)) }, by simp [Instr.mapUpdate, run_underlying undPm, MapKept.run_getObj_map hm, hc, h0, MapKept.run_setObj_map _ hm], turn _, _, _, new _, ?_⟩
    intro z hz
    simp only [Array.toList_push, List.mem_append, List.mem_singleton] at hz
    rcases hz with hz | rfl
    · exact old _ z (he z hz)
    · exact mine _ _
  | some r =>
    obtain ⟨j, v⟩ := r
    rw [hr] at h0
    obtain ⟨e, hj, hk⟩ := nmFind_at hr
    have hj' : es[j]? = some e := by simpa using hj
    refine ⟨{ w with heap := w.heap.setIfInBounds mb (.map (es.modify j fun e' => { e' with key := kV x y, val := .agg #[] }) clk) }, by simp [Instr.mapUpdate, run_underlying undPm, MapKept.run_getObj_map hm, hc, h0, hj', hk, stays_pair, MapKept.run_setObj_map _ hm], turn _, _, _, new _, ?_⟩
    intro z hz
    rcases MapFrom.mem_modify hz with hz | ⟨e', _, rfl⟩
    · exact old _ z (he z hz)
    · exact mine _ _
theorem PrMap.mono {w : World} {mb : Nat} {S S' : Nm → Nm → Prop} (h : PrMap w mb S) (hs : ∀ x y, S x y → S' x y) : PrMap w mb S' := by
  obtain ⟨es, clk, hm, he⟩ := h
  exact ⟨es, clk, hm, fun e hx => by obtain ⟨x', y', k1, k2, k3, k4, k5⟩ := he e hx; exact ⟨x', y', k1, k2, k3, hs _ _ k4, k5⟩⟩
/-- Another world that keeps the map and all blocks of cells that are named. -/
theorem PrMap.keep {w w' : World} {mb : Nat} {S : Nm → Nm → Prop} (h : PrMap w mb S) (hm : w'.heap[mb]? = w.heap[mb]?) (hk : ∀ x y, S x y → PlainP w x.1 → PlainP w y.1 → PlainP w' x.1 ∧ PlainP w' y.1) : PrMap w' mb S := by
  obtain ⟨es, clk, hm', he⟩ := h
  exact ⟨es, clk, hm.trans hm', fun e hx => by obtain ⟨x', y', k1, k2, k3, k4, k5⟩ := he e hx; exact ⟨x', y', k1, (hk _ _ k4 k2 k3).1, (hk _ _ k4 k2 k3).2, k4, k5⟩⟩
end Go.Proofs.Ytimnnedmpmlmdaa
