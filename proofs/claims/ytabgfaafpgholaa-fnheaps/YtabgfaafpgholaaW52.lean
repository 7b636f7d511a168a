/-
  The program's SameTerm and LessTerm, by its comparison.
  (Ahead of it, in this text: The order of terms, as reckoning: two right terms that are not told apart are one.)
-/
import Derived.Test.YtabgfaafpgholaaW36
import Derived.Test.YtabgfaafpgholaaW50
import Derived.Test.YtabgfaafpgholaaW51
namespace Go.Proofs.Ytabgfaafpgholaa
open Go.RowKit
set_option linter.unusedVariables false

theorem thenC_iff {a b : Int} : thenC a b = 0 ↔ a = 0 ∧ b = 0 := by
  unfold thenC
  by_cases h : a = 0
  · rw [if_pos h]; exact ⟨fun e => ⟨h, e⟩, fun e => e.2⟩
  · rw [if_neg h]; exact ⟨fun e => absurd e h, fun e => absurd e.1 h⟩
theorem ba_ext {s t : ByteArray} (h : s.toList = t.toList) : s = t := by
  rw [ByteArray.toList_eq, ByteArray.toList_eq] at h
  obtain ⟨⟨a⟩⟩ := s
  obtain ⟨⟨b⟩⟩ := t
  have : a = b := h
  rw [this]
theorem ownC_self (k n : Int) (s : ByteArray) (a : Nat) : ownC k n s a n s a = 0 := by
  have := own_anti k n s a n s a
  omega
theorem cmpT_self (t : Tm) : cmpT t t = 0 := by
  have := cmpT_anti t t
  omega
theorem cmpL_self : ∀ l : List Tm, cmpL l l = 0
  | [] => by rw [cmpL]
  | t :: r => by rw [cmpL]; exact thenC_iff.2 ⟨cmpT_self t, cmpL_self r⟩
theorem cmpT_zero : ∀ a b : Tm, WfT a → WfT b → cmpT a b = 0 → a = b := by
  refine Tm.ind ?_
  intro k n s l ih
  have hl : ∀ (r m : List Tm), (∀ t, t ∈ r → t ∈ l) → (∀ t, t ∈ r → WfT t) → (∀ t, t ∈ m → WfT t) → cmpL r m = 0 → r = m := by
    intro r
    induction r with
    | nil =>
      intro m _ _ _ h
      cases m with
      | nil => rfl
      | cons y m => rw [cmpL] at h; exact absurd h (by decide)
    | cons x r ihr =>
      intro m hr hw hw' h
      cases m with
      | nil => rw [cmpL] at h; exact absurd h (by decide)
      | cons y m =>
        rw [cmpL] at h
        obtain ⟨h1, h2⟩ := thenC_iff.1 h
        rw [ih x (hr x (List.mem_cons_self ..)) y (hw x (List.mem_cons_self ..)) (hw' y (List.mem_cons_self ..)) h1, ihr m (fun t ht => hr t (List.mem_cons_of_mem _ ht)) (fun t ht => hw t (List.mem_cons_of_mem _ ht)) (fun t ht => hw' t (List.mem_cons_of_mem _ ht)) h2]
  rintro ⟨k', n', s', l'⟩ hw hw' h
  rw [cmpT] at h
  obtain ⟨h1, h2⟩ := thenC_iff.1 h
  obtain ⟨h3, h4⟩ := thenC_iff.1 h2
  have e1 := (cmpI_zero _ _).1 h1
  subst e1
  rw [WfT] at hw hw'
  obtain ⟨p, _, q⟩ := hw
  obtain ⟨p', _, q'⟩ := hw'
  unfold ownC at h3
  rcases p with ⟨rfl, rfl, rfl, _, _⟩ | ⟨rfl, rfl, rfl, _⟩ | ⟨rfl, rfl, rfl, _, _⟩ | ⟨hk, rfl, rfl⟩ | ⟨rfl, rfl, rfl, _⟩
  · have h5 := (cmpI_zero n n').1 (by simpa using h3)
    rcases p' with ⟨_, rfl, rfl, _, _⟩ | ⟨e, _⟩ | ⟨e, _⟩ | ⟨e, _⟩ | ⟨e, _⟩
    · rw [h5]
    all_goals exact absurd e (by decide)
  · have h5 := ba_ext ((cmpS_zero s s').1 (by simpa using h3))
    rcases p' with ⟨e, _⟩ | ⟨_, rfl, rfl, _⟩ | ⟨e, _⟩ | ⟨e, _⟩ | ⟨e, _⟩
    · exact absurd e (by decide)
    · rw [h5]
    all_goals exact absurd e (by decide)
  · have h5 := (cmpI_zero n n').1 (by simpa using h3)
    rcases p' with ⟨e, _⟩ | ⟨e, _⟩ | ⟨_, rfl, rfl, _, _⟩ | ⟨e, _⟩ | ⟨e, _⟩
    · exact absurd e (by decide)
    · exact absurd e (by decide)
    · rw [h5]
    all_goals exact absurd e (by decide)
  · rw [if_pos hk] at h4
    have h5 := hl l l' (fun t ht => ht) q q' h4
    rcases p' with ⟨e, _⟩ | ⟨e, _⟩ | ⟨e, _⟩ | ⟨_, rfl, rfl⟩ | ⟨e, _⟩
    · omega
    · omega
    · omega
    · rw [h5]
    · omega
  · have h5 := ba_ext ((cmpS_zero s s').1 (by simpa using h3))
    rcases p' with ⟨e, _⟩ | ⟨e, _⟩ | ⟨e, _⟩ | ⟨e, _⟩ | ⟨_, rfl, rfl, _⟩
    · exact absurd e (by decide)
    · exact absurd e (by decide)
    · exact absurd e (by decide)
    · exact absurd e (by decide)
    · rw [h5]
/-- Two lists that are one so far. -/
theorem cmpL_take : ∀ (j : Nat) (l l' : List Tm), l.take j = l'.take j → j ≤ l.length → j ≤ l'.length → cmpL l l' = cmpL (l.drop j) (l'.drop j)
  | 0, l, l', _, _, _ => rfl
  | j + 1, [], l', _, h, _ => absurd h (Nat.not_succ_le_zero _)
  | j + 1, _ :: _, [], _, _, h => absurd h (Nat.not_succ_le_zero _)
  | j + 1, x :: r, y :: m, e, h, h' => by
    simp only [List.take_succ_cons, List.cons.injEq] at e
    obtain ⟨rfl, e⟩ := e
    rw [cmpL, cmpT_self]
    unfold thenC
    rw [if_pos rfl]
    simp only [List.drop_succ_cons]
    exact cmpL_take j r m e (by simpa using h) (by simpa using h')
theorem cmpL_at {j : Nat} {l l' : List Tm} (h : l.take j = l'.take j) (h1 : j < l.length) (h2 : j < l'.length) (hn : cmpT l[j] l'[j] ≠ 0) : cmpL l l' = cmpT l[j] l'[j] := by
  rw [cmpL_take j l l' h (by omega) (by omega), List.drop_eq_getElem_cons h1, List.drop_eq_getElem_cons h2, cmpL]
  unfold thenC
  rw [if_neg hn]
theorem cmpL_end {j : Nat} {l l' : List Tm} (h : l.take j = l'.take j) (h1 : j ≤ l.length) (h2 : j ≤ l'.length) (he : j = l.length ∨ j = l'.length) : cmpL l l' < 0 ↔ l.length < l'.length := by
  rw [cmpL_take j l l' h h1 h2]
  rcases he with rfl | rfl
  · rw [List.drop_length]
    cases hd : l'.drop l.length with
    | nil =>
      have := List.drop_eq_nil_iff.1 hd
      rw [cmpL]; omega
    | cons y m =>
      rw [cmpL]
      have h3 : l.length < l'.length := by
        rcases Nat.lt_or_ge l.length l'.length with h4 | h4
        · exact h4
        · rw [List.drop_eq_nil_iff.2 h4] at hd; cases hd
      exact ⟨fun _ => h3, fun _ => by decide⟩
  · rw [List.drop_length]
    cases hd : l.drop l'.length with
    | nil => rw [cmpL]; omega
    | cons y m => rw [cmpL]; omega

/-! ### Nothing frozen: names can be told apart -/
theorem pl_nf {w : World} {S : Nat → Prop} (hS : ∀ b, S b → Nf w b) {l : List Tm} {ao : Option Addr} (h : RpL S w l ao) : PlA w l ao := by
  unfold PlA
  cases l with
  | nil => rw [nmL_nil]; trivial
  | cons t r =>
    rw [RpL] at h
    obtain ⟨b, off, rfl, hb, ht, _⟩ := h
    rw [nmL_cons (by simp)]
    obtain ⟨v, hv⟩ := ht.head
    exact ⟨blk_of_cell hv, hS b hb⟩
mutual
theorem hpT_nf {w : World} {S S' : Nat → Prop} (hS : ∀ b, S b → Nf w b) (hS' : ∀ b, S' b → Nf w b) : ∀ (t : Tm) (ao : Option Addr) (t' : Tm) (ao' : Option Addr), (∀ k n s l k' n' s' l', t = .mk k n s l → t' = .mk k' n' s' l' → RpL S w l ao ∧ RpL S' w l' ao') → HpT w t ao t' ao'
  | .mk k n s l, ao, .mk k' n' s' l', ao', h => by
    rw [HpT]
    intro _ _
    obtain ⟨h1, h2⟩ := h k n s l k' n' s' l' rfl rfl
    exact ⟨hpL_nf hS hS' l ao l' ao' h1 h2, pl_nf hS h1, pl_nf hS' h2⟩
theorem hpL_nf {w : World} {S S' : Nat → Prop} (hS : ∀ b, S b → Nf w b) (hS' : ∀ b, S' b → Nf w b) : ∀ (l : List Tm) (ao : Option Addr) (l' : List Tm) (ao' : Option Addr), RpL S w l ao → RpL S' w l' ao' → HpL w l ao l' ao'
  | [], ao, l', ao', _, _ => by rw [HpL]; trivial
  | t :: r, ao, [], ao', _, _ => by rw [HpL]; trivial
  | t :: r, ao, t' :: r', ao', h1, h2 => by
    rw [HpL]
    rw [RpL] at h1 h2
    obtain ⟨b, o, rfl, _, q1, q2⟩ := h1
    obtain ⟨b', o', rfl, _, p1, p2⟩ := h2
    intro b1 o1 b2 o2 e1 e2
    cases e1
    cases e2
    refine ⟨fun ax n c ay n' c' c1 c2 => ?_, hpL_nf hS hS' r _ r' _ q2 p2⟩
    obtain ⟨k, n0, s, l⟩ := t
    obtain ⟨k', n0', s', l'⟩ := t'
    rw [RpT] at q1 p1
    obtain ⟨_, _, _, _, bo, cap, a3, _, _, rl⟩ := q1
    obtain ⟨_, _, _, _, bo', cap', a3', _, _, rl'⟩ := p1
    rw [a3] at c1
    rw [a3'] at c2
    cases c1
    cases c2
    exact hpT_nf hS hS' _ _ _ _ (fun k1 n1 s1 l1 k2 n2 s2 l2 e3 e4 => by cases e3; cases e4; exact ⟨rl, rl'⟩)
end
end Go.Proofs.Ytabgfaafpgholaa
namespace Go.Proofs.Ytabgfaafpgholaa
open Go.RowKit
set_option linter.unusedVariables false

def bnd : Nat → Nat
  | 0 => 1
  | d + 1 => 1 + 3 * bnd d
theorem cntL_le {c : Nat} : ∀ l : List Tm, (∀ t, t ∈ l → cntT t ≤ c) → cntL l ≤ l.length * c
  | [], _ => by rw [cntL]; omega
  | t :: r, h => by
    have h1 := h t (List.mem_cons_self ..)
    have h2 := cntL_le r (fun x hx => h x (List.mem_cons_of_mem _ hx))
    rw [cntL, List.length_cons, Nat.add_mul]; omega
theorem cnt_bnd : ∀ (d : Nat) (t : Tm), RtT d t → cntT t ≤ bnd d
  | 0, .mk k n s l, h => by
    have h2 := h.2
    rw [DpT] at h2
    subst h2
    rw [cntT, cntL]; exact Nat.le_refl _
  | d + 1, .mk k n s l, h => by
    have h1 := h.1
    have h2 := h.2
    rw [DpT] at h2
    rw [WfT] at h1
    have h3 := cntL_le (c := bnd d) l (fun t ht => cnt_bnd d t ⟨h1.2.2 t ht, h2 t ht⟩)
    have h4 : l.length * bnd d ≤ 3 * bnd d := Nat.mul_le_mul_right _ h1.2.1
    rw [cntT, bnd]; omega
theorem cnt_6 {d : Nat} (hd : d ≤ 6) {t : Tm} (h : RtT d t) : cntT t ≤ 1000000000 := by
  have h1 := cnt_bnd d t h
  have h2 : bnd d ≤ 100000 := by
    have : d = 0 ∨ d = 1 ∨ d = 2 ∨ d = 3 ∨ d = 4 ∨ d = 5 ∨ d = 6 := by omega
    rcases this with rfl | rfl | rfl | rfl | rfl | rfl | rfl <;> decide
  omega

set_option maxHeartbeats 4000000 in
theorem sameI_of (k n : Int) (s : ByteArray) (l : List Tm) (ax : Option Addr) (cx : Nat) (k' n' : Int) (s' : ByteArray) (l' : List Tm) (ay : Option Addr) (cy : Nat) (w : World)
    (hv : RepV 0 w (.mk k n s l) (.agg #[.int .i64 k, .int .i64 n, .string s, .slice ax l.length cx])) (hv' : RepV 0 w (.mk k' n' s' l') (.agg #[.int .i64 k', .int .i64 n', .string s', .slice ay l'.length cy]))
    (hp : HpT w (.mk k n s l) ax (.mk k' n' s' l') ay) (hcnt : cntT (.mk k n s l) ≤ 1000000000) (q : Bool) (hq : q = true ↔ cmpT (.mk k n s l) (.mk k' n' s' l') = 0) :
    Calls Try.prog 29 #[.agg #[.int .i64 k, .int .i64 n, .string s, .slice ax l.length cx], .agg #[.int .i64 k', .int .i64 n', .string s', .slice ay l'.length cy]] w fun e w' => e = .returned (.bool q) ∧ Below w.heap.size w w' := by
  have HB2 : Hid (∀ a b, Below w.heap.size w ((w.alloc a).alloc b)) := fun a b => ((Below.refl _ _).alloc (Nat.le_refl _) _).alloc (by simp) _
  obtain ⟨C, hC⟩ : ∃ C, C = cmpT (.mk k n s l) (.mk k' n' s' l') := ⟨_, rfl⟩
  have HT : Hid (∀ W, Below w.heap.size w W → Calls Try.prog 61 #[.agg #[.int .i64 k, .int .i64 n, .string s, .slice ax l.length cx], .agg #[.int .i64 k', .int .i64 n', .string s', .slice ay l'.length cy]] W fun e w' => e = .returned (.int .i64 C) ∧ Below w.heap.size w w') := fun W hb => by
    rw [hC]
    refine (termOrder_any k n s l ax cx k' n' s' l' ay cy W ((Keeps.below hb 0).repV hv) ((Keeps.below hb 0).repV hv') ?_ hcnt).mono fun e w' h => ⟨h.1, hb.trans (h.2.mono hb.size)⟩
    obtain ⟨_, _, e1, _, _, _, r1⟩ := hv
    obtain ⟨_, _, e2, _, _, _, r2⟩ := hv'
    cases e1
    cases e2
    exact HpT.below hb _ _ _ _ (fun k1 n1 s1 l1 k2 n2 s2 l2 e3 e4 => by cases e3; cases e4; exact ⟨r1, r2⟩) hp
  have e1 : (C == 0) = q := by
    rw [← hC] at hq
    cases q
    · rw [beq_eq_false_iff_ne]; exact fun h => absurd (hq.2 h) (by decide)
    · rw [beq_iff_eq]; exact hq.1 rfl
  clear hv hv' hp hcnt hq hC
  go_enter Try.func29, Try.ntmps29
  go_wp2_with (go_at_call 61; refine (HT.out _ ?_).mono ?_; exact HB2.out _ _; rintro e w1 ⟨rfl, hb1⟩)
  go_ret
  exact ⟨rfl, hb1⟩
theorem sameI_nf {t t' : Tm} {S S' : Nat → Prop} {w : World} {v v' : Value} (hS : ∀ b, S b → Nf w b) (hS' : ∀ b, S' b → Nf w b) (h : RpV S w t v) (h' : RpV S' w t' v') (hc : cntT t ≤ 1000000000) (q : Bool) (hq : q = true ↔ cmpT t t' = 0) :
    Calls Try.prog 29 #[v, v'] w fun e w' => e = .returned (.bool q) ∧ Below w.heap.size w w' := by
  obtain ⟨k, n, s, l⟩ := t
  obtain ⟨k', n', s', l'⟩ := t'
  have g := h.rep
  have g' := h'.rep
  obtain ⟨ax, cx, rfl, _, _, _, r1⟩ := h
  obtain ⟨ay, cy, rfl, _, _, _, r2⟩ := h'
  exact sameI_of k n s l ax cx k' n' s' l' ay cy w g g' (hpT_nf hS hS' _ _ _ _ (fun k1 n1 s1 l1 k2 n2 s2 l2 e3 e4 => by cases e3; cases e4; exact ⟨r1, r2⟩)) hc q hq
theorem nf_below {t : Tm} {w w' : World} {v : Value} (h : RpV (Nf w) w t v) (hb : Below w.heap.size w w') : RpV (Nf w') w' t v :=
  Moves.repV (fun b o v hq hc => ⟨hq.blk (hb.block b (World.block_lt_of_cell? w _ hc)), by rw [hb.cell (p := ⟨b, o, none⟩) (World.block_lt_of_cell? w _ hc)]; exact hc⟩) h
end Go.Proofs.Ytabgfaafpgholaa
