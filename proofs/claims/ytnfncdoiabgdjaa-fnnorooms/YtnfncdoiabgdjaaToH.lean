/-
  The program's comparison of two terms: what its stack of pairs of lists holds.
-/
import Derived.Test.YtnfncdoiabgdjaaToC
import Derived.Test.YtnfncdoiabgdjaaToE
import Derived.Test.YtnfncdoiabgdjaaToF
import Derived.Test.YtnfncdoiabgdjaaInn
import Derived.Laws.OwnMore
import Derived.Maps.AppendAt
namespace Go.Proofs.Ytnfncdoiabgdjaa
open Go.RowKit
set_option linter.unusedVariables false

/-- Where a list begins, if it has something. -/
def nmL (l : List Tm) : Option Addr → Nm
  | some ⟨b, o, _⟩ => if l = [] then (none, 0) else (some (b, o), l.length)
  | none => (none, 0)
theorem nmL_nil (ao : Option Addr) : nmL [] ao = (none, 0) := by
  rcases ao with _ | ⟨b, o, s⟩
  · rfl
  · show (if ([] : List Tm) = [] then ((none, 0) : Nm) else (some (b, o), ((0 : Nat) : Int))) = _
    rw [if_pos rfl]
theorem nmL_cons {l : List Tm} (h : l ≠ []) (b o : Nat) : nmL l (some ⟨b, o, none⟩) = ((some (b, o), (l.length : Int)) : Nm) := by
  show (if l = [] then ((none, 0) : Nm) else _) = _
  rw [if_neg h]
theorem nmL_one {w : World} {l l' : List Tm} {ao ao' : Option Addr} (h : RepL 0 w l ao) (h' : RepL 0 w l' ao') (e : nmL l ao = nmL l' ao') : l = l' := by
  rcases l with _ | ⟨x, r⟩
  · rcases l' with _ | ⟨y, s⟩
    · rfl
    · rw [RepL] at h'
      obtain ⟨b, o, rfl, _, _, _⟩ := h'
      rw [nmL_nil, nmL_cons (by simp)] at e
      cases e
  · have h0 := h
    rw [RepL] at h
    obtain ⟨b, o, rfl, _, _, _⟩ := h
    rcases l' with _ | ⟨y, s⟩
    · rw [nmL_nil, nmL_cons (by simp)] at e
      cases e
    · have h0' := h'
      rw [RepL] at h'
      obtain ⟨b', o', rfl, _, _, _⟩ := h'
      rw [nmL_cons (by simp), nmL_cons (by simp)] at e
      simp only [Prod.mk.injEq, Option.some.injEq] at e
      obtain ⟨⟨rfl, rfl⟩, e2⟩ := e
      exact repL_one _ _ _ (by omega) h0 h0'
/-- Its block can be told from others. -/
def PlA (w : World) (l : List Tm) (ao : Option Addr) : Prop := PlainP w (nmL l ao).1
mutual
/-- Wherever two within are held against each other their blocks can be told from others. -/
def HpT (w : World) : Tm → Option Addr → Tm → Option Addr → Prop
  | .mk k _ _ l, ao, .mk k' _ _ l', ao' => (k = 4 ∨ k = 5) → k = k' → HpL w l ao l' ao' ∧ PlA w l ao ∧ PlA w l' ao'
def HpL (w : World) : List Tm → Option Addr → List Tm → Option Addr → Prop
  | t :: r, ao, t' :: r', ao' => ∀ b o b' o', ao = some ⟨b, o, none⟩ → ao' = some ⟨b', o', none⟩ →
      (∀ ax n c ay n' c', w.cell? ⟨b, o + 3, none⟩ = some (.slice ax n c) → w.cell? ⟨b', o' + 3, none⟩ = some (.slice ay n' c') → HpT w t ax t' ay) ∧ HpL w r (some ⟨b, o + 4, none⟩) r' (some ⟨b', o' + 4, none⟩)
  | [], _, _, _ => True
  | _ :: _, _, [], _ => True
end
/-- One list of a pair: its slice, and what it holds in the world W. -/
structure Sl (W : World) (v : Value) (l : List Tm) (ao : Option Addr) : Prop where
  e : ∃ cap, v = .slice ao l.length cap ∧ l.length ≤ cap ∧ cap ≤ maxLen
  r : RepL 0 W l ao
/-- The stack, its bottom first: the cells of its row. -/
def Stk (W : World) : List (List Tm × List Tm) → List Value → Prop
  | [], xs => xs = []
  | (l, l') :: ps, xs => ∃ v v' ao ao' ys, xs = v :: v' :: ys ∧ Sl W v l ao ∧ Sl W v' l' ao' ∧ HpL W l ao l' ao' ∧ Stk W ps ys
theorem Stk.len {W : World} : ∀ {ps : List (List Tm × List Tm)} {xs : List Value}, Stk W ps xs → xs.length = ps.length * 2
  | [], xs, h => by rw [Stk] at h; subst h; rfl
  | (l, l') :: ps, xs, h => by
    rw [Stk] at h
    obtain ⟨v, v', ao, ao', ys, rfl, _, _, _, h5⟩ := h
    have := h5.len
    simp only [List.length_cons]; omega
theorem Stk.split {W : World} {p : List Tm × List Tm} : ∀ {ps : List (List Tm × List Tm)} {xs : List Value}, Stk W (ps ++ [p]) xs → ∃ ys v v' ao ao', xs = ys ++ [v, v'] ∧ Stk W ps ys ∧ Sl W v p.1 ao ∧ Sl W v' p.2 ao' ∧ HpL W p.1 ao p.2 ao'
  | [], xs, h => by
    rw [List.nil_append, Stk] at h
    obtain ⟨v, v', ao, ao', ys, rfl, h1, h2, h3, h5⟩ := h
    rw [Stk] at h5
    subst h5
    exact ⟨[], v, v', ao, ao', rfl, by rw [Stk], h1, h2, h3⟩
  | (l, l') :: ps, xs, h => by
    rw [List.cons_append, Stk] at h
    obtain ⟨v, v', ao, ao', ys, rfl, h1, h2, h3, h5⟩ := h
    obtain ⟨zs, u, u', bo, bo', rfl, k1, k2, k3, k4⟩ := h5.split
    exact ⟨v :: v' :: zs, u, u', bo, bo', rfl, by rw [Stk]; exact ⟨v, v', ao, ao', zs, rfl, h1, h2, h3, k1⟩, k2, k3, k4⟩
theorem Stk.snoc {W : World} {l l' : List Tm} {v v' : Value} {bo bo' : Option Addr} (hv : Sl W v l bo) (hv' : Sl W v' l' bo') (hp : HpL W l bo l' bo') : ∀ {ps : List (List Tm × List Tm)} {xs : List Value}, Stk W ps xs → Stk W (ps ++ [(l, l')]) (xs ++ [v, v'])
  | [], xs, h => by
    rw [Stk] at h
    subst h
    rw [List.nil_append, Stk]
    exact ⟨v, v', bo, bo', [], rfl, hv, hv', hp, by rw [Stk]⟩
  | (a, a') :: ps, xs, h => by
    rw [Stk] at h
    obtain ⟨u, u', ao, ao', ys, rfl, h1, h2, h3, h5⟩ := h
    rw [List.cons_append, Stk]
    exact ⟨u, u', ao, ao', ys ++ [v, v'], rfl, h1, h2, h3, Stk.snoc hv hv' hp h5⟩
/-- What the map knows: pairs of lists by their names. -/
def Kn (W : World) (st : List (List Tm × List Tm)) (x y : Nm) : Prop := ∃ l l' ao ao', x = nmL l ao ∧ y = nmL l' ao' ∧ RepL 0 W l ao ∧ RepL 0 W l' ao' ∧ Mok st l l'
theorem Kn.mono {W : World} {st st' : List (List Tm × List Tm)} (h : ∀ l l', Mok st l l' → Mok st' l l') {x y : Nm} (hk : Kn W st x y) : Kn W st' x y := by
  obtain ⟨l, l', ao, ao', h1, h2, h3, h4, h5⟩ := hk
  exact ⟨l, l', ao, ao', h1, h2, h3, h4, h _ _ h5⟩
theorem Kn.hit {W : World} {st : List (List Tm × List Tm)} {l l' : List Tm} {ao ao' : Option Addr} (h : Kn W st (nmL l ao) (nmL l' ao')) (hr : RepL 0 W l ao) (hr' : RepL 0 W l' ao') : Mok st l l' := by
  obtain ⟨m, m', bo, bo', h1, h2, h3, h4, h5⟩ := h
  rw [nmL_one hr h3 h1, nmL_one hr' h4 h2]
  exact h5
theorem infoSides : (Try.prog.info? 72).map (fun i => (i.zero, i.size, i.bytes)) = some (some (.agg #[.slice none 0 0, .slice none 0 0]), 2, 48) := by kernel_rfl
theorem undSides : Try.prog.underlying 73 = some (.slice 72) := by kernel_rfl
theorem nameOf_nil (ao : Option Addr) (cap : Nat) (w : World) : Calls Try.prog 45 #[.slice ao 0 cap] w fun e w' => e = .returned (.agg #[.pointer none, .int .i64 0]) ∧ Below w.heap.size w w' := by
  go_enter Try.func45, Try.ntmps45
  go_wp2
  refine bodyPost_ret (v := .agg #[.pointer none, .int .i64 0]) (by simp [results, Try.results45, go_sem]) rfl ⟨rfl, ?_⟩
  exact (Below.refl _ _).alloc (Nat.le_refl _) _
theorem nameOf_some (b o n cap : Nat) (w : World) (hn : n ≠ 0) :
    Calls Try.prog 45 #[.slice (some ⟨b, o, none⟩) n cap] w fun e w' => e = .returned (.agg #[.pointer (some ⟨b, o, none⟩), .int .i64 n]) ∧ Below w.heap.size w w' := by
  have q : ((n : Int) == 0) = false := by simp; omega
  have hpos : 0 < n := by omega
  clear hn
  go_enter Try.func45, Try.ntmps45
  go_wp2
  refine bodyPost_ret (v := .agg #[.pointer (some ⟨b, o, none⟩), .int .i64 n]) (by simp [results, Try.results45, go_sem]) rfl ⟨rfl, ?_⟩
  exact (Below.refl _ _).alloc (Nat.le_refl _) _
theorem nameOf_all {W : World} {l : List Tm} {ao : Option Addr} (h : RepL 0 W l ao) (cap : Nat) (w : World) : Calls Try.prog 45 #[.slice ao l.length cap] w fun e w' => e = .returned (.agg #[npV (nmL l ao).1, .int .i64 (nmL l ao).2]) ∧ Below w.heap.size w w' := by
  rcases l with _ | ⟨t, r⟩
  · rw [nmL_nil]
    exact nameOf_nil ao cap w
  · rw [RepL] at h
    obtain ⟨b, o, rfl, _⟩ := h
    rw [nmL_cons (by simp)]
    exact nameOf_some b o _ cap w (by simp)
end Go.Proofs.Ytnfncdoiabgdjaa
