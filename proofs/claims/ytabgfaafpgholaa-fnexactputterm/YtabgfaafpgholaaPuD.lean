/-
  How the specification puts a term: a tuple.
-/
import Derived.Test.YtabgfaafpgholaaPuC
namespace Go.Proofs.Ytabgfaafpgholaa
open Go.RowKit
set_option linter.unusedVariables false

theorem ptL_app (p q : List Tm) : ∀ (a : Nat) (A : List ByteArray), ptL (p ++ q) a A = match ptL p a A with
    | none => none
    | some (ws, ns, A1) => match ptL q (a + ns.length) A1 with
      | none => none
      | some (ws2, ns2, A2) => some (ws ++ ws2, ns ++ ns2, A2) := by
  induction p with
  | nil =>
    intro a A
    rw [List.nil_append, ptL]
    simp only [List.length_nil, Nat.add_zero, List.nil_append]
    cases ptL q a A with
    | none => rfl
    | some r => rfl
  | cons t p ih =>
    intro a A
    rw [List.cons_append, ptL, ptL]
    cases ptT t a A with
    | none => rfl
    | some r =>
      obtain ⟨ns, A1, x⟩ := r
      simp only
      rw [ih]
      cases ptL p (a + ns.length) A1 with
      | none => rfl
      | some r2 =>
        obtain ⟨ws2, ns2, A2⟩ := r2
        simp only [List.length_append, Nat.add_assoc]
        cases ptL q (a + (ns.length + ns2.length)) A2 with
        | none => rfl
        | some r3 => simp only [List.append_assoc, List.cons_append]
theorem take_one (l : List Tm) (i : Nat) (h : i < l.length) : l.take (i + 1) = l.take i ++ [l[i]] := by rw [List.take_add_one, List.getElem?_eq_getElem h]; rfl
theorem take_drop1 (l : List Tm) (i : Nat) (h : i < l.length) : l = l.take i ++ l[i] :: l.drop (i + 1) := by
  rw [← List.drop_eq_getElem_cons h, List.take_append_drop]
theorem ptL_yes {l : List Tm} {i a : Nat} {A A1 A2 : List ByteArray} {ws ns ns2 : List Int} {x : Int} (h : i < l.length) (h1 : ptL (l.take i) a A = some (ws, ns, A1)) (h2 : ptT l[i] (a + ns.length) A1 = some (ns2, A2, x)) : ptL (l.take (i + 1)) a A = some (ws ++ [x], ns ++ ns2, A2) := by
  rw [take_one l i h, ptL_app, h1]
  simp only
  rw [ptL, h2]
  simp only [ptL, List.append_nil]
theorem ptL_no {l : List Tm} {i a : Nat} {A A1 : List ByteArray} {ws ns : List Int} (h : i < l.length) (h1 : ptL (l.take i) a A = some (ws, ns, A1)) (h2 : ptT l[i] (a + ns.length) A1 = none) : ptL l a A = none := by
  rw [take_drop1 l i h, ptL_app, h1]
  simp only
  rw [ptL, h2]
theorem nL_app (p q : List Tm) : nL (p ++ q) = nL p + nL q := by
  induction p with
  | nil => simp [nL]
  | cons t p ih => rw [List.cons_append, nL, nL, ih]; omega
theorem nL_take (l : List Tm) (i : Nat) (h : i < l.length) : nL (l.take (i + 1)) = nL (l.take i) + nT l[i] := by rw [take_one l i h, nL_app, nL, nL]; omega
theorem nL_le (l : List Tm) (i : Nat) : nL (l.take i) ≤ nL l := by
  have := nL_app (l.take i) (l.drop i)
  rw [List.take_append_drop] at this
  omega
theorem RpL.at {S : Nat → Prop} {w : World} : ∀ (l : List Tm) (ao : Option Addr), RpL S w l ao → ∀ i (hi : i < l.length), ∃ b off, ao = some ⟨b, off, none⟩ ∧ S b ∧ RpT S w l[i] b (off + i * 4)
  | [], _, _, i, hi => absurd hi (Nat.not_lt_zero i)
  | t :: r, ao, h, 0, hi => by
    rw [RpL] at h
    obtain ⟨b, off, e, hb, ht, _⟩ := h
    exact ⟨b, off, e, hb, by simpa using ht⟩
  | t :: r, ao, h, i + 1, hi => by
    rw [RpL] at h
    obtain ⟨b, off, e, hb, _, hr⟩ := h
    obtain ⟨b', off', e', hb', ht'⟩ := RpL.at r _ hr i (by simpa using hi)
    simp only [Option.some.injEq, Addr.mk.injEq, and_true] at e'
    obtain ⟨rfl, rfl⟩ := e'
    refine ⟨b, off, e, hb', ?_⟩
    have e2 : off + 4 + i * 4 = off + (i + 1) * 4 := by omega
    rw [e2] at ht'
    exact ht'
theorem goodL_at : ∀ (l : List Tm), goodL l → ∀ i (h : i < l.length), goodT l[i]
  | [], _, i, h => absurd h (Nat.not_lt_zero i)
  | t :: r, hg, 0, h => by rw [goodL] at hg; exact hg.1
  | t :: r, hg, i + 1, h => by rw [goodL] at hg; exact goodL_at r hg.2 i (by simpa using h)
theorem set_mid (P : List Int) (z : Int) (Q : List Int) (x : Int) (j : Nat) (h : j = P.length) : (P ++ z :: Q).set j x = P ++ x :: Q := by
  subst h
  rw [List.set_append_right _ _ (Nat.le_refl _)]
  simp
/-- What stands there behind i of them. -/
def tupW (xs : List Int) (n i : Nat) (ws ns : List Int) : List Int := xs ++ ((n : Int) :: (ws ++ List.replicate (n - i) 0 ++ ns))
theorem tupW_len (xs : List Int) {n i : Nat} {ws ns : List Int} (hw : ws.length = i) (hi : i ≤ n) : (tupW xs n i ws ns).length = xs.length + 1 + n + ns.length := by
  unfold tupW
  simp only [List.length_append, List.length_cons, List.length_replicate, hw]
  omega
theorem tupW_set (xs : List Int) {n i : Nat} {ws ns ns2 : List Int} (x : Int) (hw : ws.length = i) (hi : i < n) : (tupW xs n i ws ns ++ ns2).set (xs.length + 1 + i) x = tupW xs n (i + 1) (ws ++ [x]) (ns ++ ns2) := by
  unfold tupW
  rw [show n - i = (n - (i + 1)) + 1 by omega, List.replicate_succ]
  have e : xs ++ ((n : Int) :: (ws ++ 0 :: List.replicate (n - (i + 1)) 0 ++ ns)) ++ ns2 = (xs ++ (n : Int) :: ws) ++ 0 :: (List.replicate (n - (i + 1)) 0 ++ ns ++ ns2) := by simp
  rw [e, set_mid _ _ _ _ _ (by simp [hw]; omega)]
  simp
end Go.Proofs.Ytabgfaafpgholaa
