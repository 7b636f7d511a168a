/-
  What a term that is put adds to words and atoms, as reckoning: both kinds of PutTerm are to answer this.
-/
import Derived.Test.YtabgfaafpgholaaNdA
import Derived.Test.YtabgfaafpgholaaSgC
import Derived.Test.YtabgfaafpgholaaWdA
namespace Go.Proofs.Ytabgfaafpgholaa
open Go.RowKit
set_option linter.unusedVariables false

/-- The cells of a list whose heads are these words, from the place at on. -/
def consL : List Int → Nat → List Int
  | [], _ => []
  | [x], _ => [x, 3]
  | x :: y :: r, at' => x :: mkw 5 ((at' : Int) + 2) :: consL (y :: r) (at' + 2)
theorem consL_len : ∀ (ws : List Int) (a : Nat), (consL ws a).length = 2 * ws.length
  | [], a => by simp [consL]
  | [x], a => by simp [consL]
  | x :: y :: r, a => by
    rw [consL, List.length_cons, List.length_cons, consL_len (y :: r) (a + 2)]
    simp only [List.length_cons]
    omega
def bytesI (s : ByteArray) : List Int := s.data.toList.map (fun b => (b.toNat : Int))
theorem bytesI_len (s : ByteArray) : (bytesI s).length = s.size := by
  unfold bytesI
  rw [List.length_map, Array.length_toList]
  rfl
mutual
/-- What is new behind the place at, the atoms, and the word; nothing: an atom has no room. -/
def ptT : Tm → Nat → List ByteArray → Option (List Int × List ByteArray × Int)
  | .mk k n s l, a, A =>
    if k = 1 then some ([], A, mkw 0 (n + 1000000))
    else if k = 3 then some ([], A, mkw 2 n)
    else if k = 2 then (if addK A s < 0 then none else some ([], addL A s, mkw 1 (addK A s)))
    else if k = 6 then some ((s.size : Int) :: bytesI s, A, mkw 6 a)
    else if k = 4 then match ptL l (a + 1 + l.length) A with
      | none => none
      | some (ws, ns, A') => some ((l.length : Int) :: (ws ++ ns), A', mkw 4 a)
    else if l.length = 0 then some ([], A, 3)
    else match ptL l (a + 2 * l.length) A with
      | none => none
      | some (ws, ns, A') => some (consL ws a ++ ns, A', mkw 5 a)
def ptL : List Tm → Nat → List ByteArray → Option (List Int × List Int × List ByteArray)
  | [], _, A => some ([], [], A)
  | t :: r, a, A => match ptT t a A with
    | none => none
    | some (ns, A1, w) => match ptL r (a + ns.length) A1 with
      | none => none
      | some (ws, ns2, A2) => some (w :: ws, ns ++ ns2, A2)
end
mutual
def AllK : Tm → Prop
  | .mk k n s l => ((k = 1 ∨ k = 2 ∨ k = 3 ∨ k = 6) ∧ l = [] ∨ k = 4 ∨ k = 5) ∧ AllKL l
def AllKL : List Tm → Prop
  | [] => True
  | t :: r => AllK t ∧ AllKL r
end
theorem addL_pre (A : List ByteArray) (s : ByteArray) : ∃ B, addL A s = A ++ B := by
  unfold addL
  split
  · exact ⟨[s], rfl⟩
  · exact ⟨[], by simp⟩
mutual
/-- Just so many words are new as NeedOf tells; the atoms that were there stay. -/
theorem ptT_len : ∀ (t : Tm) (a : Nat) (A : List ByteArray) (ns : List Int) (A' : List ByteArray) (w : Int), AllK t → ptT t a A = some (ns, A', w) → ns.length = ndT t ∧ ∃ B, A' = A ++ B
  | .mk k n s l, a, A, ns, A', w, hK, h => by
    rw [AllK] at hK
    rw [ptT] at h
    rw [ndT]
    by_cases k1 : k = 1
    · rw [if_pos k1] at h
      simp only [Option.some.injEq, Prod.mk.injEq] at h
      obtain ⟨rfl, rfl, rfl⟩ := h
      have hl : l = [] := by rcases hK.1 with ⟨_, h⟩ | h | h; exact h; all_goals omega
      subst hl
      exact ⟨by simp [ndO, ndL, k1], [], by simp⟩
    rw [if_neg k1] at h
    by_cases k3 : k = 3
    · rw [if_pos k3] at h
      simp only [Option.some.injEq, Prod.mk.injEq] at h
      obtain ⟨rfl, rfl, rfl⟩ := h
      have hl : l = [] := by rcases hK.1 with ⟨_, h⟩ | h | h; exact h; all_goals omega
      subst hl
      exact ⟨by simp [ndO, ndL, k3], [], by simp⟩
    rw [if_neg k3] at h
    by_cases k2 : k = 2
    · rw [if_pos k2] at h
      split at h
      · cases h
      · simp only [Option.some.injEq, Prod.mk.injEq] at h
        obtain ⟨rfl, rfl, rfl⟩ := h
        have hl : l = [] := by rcases hK.1 with ⟨_, h⟩ | h | h; exact h; all_goals omega
        subst hl
        exact ⟨by simp [ndO, ndL, k2], addL_pre A s⟩
    rw [if_neg k2] at h
    by_cases k6 : k = 6
    · rw [if_pos k6] at h
      simp only [Option.some.injEq, Prod.mk.injEq] at h
      obtain ⟨rfl, rfl, rfl⟩ := h
      have hl : l = [] := by rcases hK.1 with ⟨_, h⟩ | h | h; exact h; all_goals omega
      subst hl
      refine ⟨?_, [], by simp⟩
      rw [List.length_cons, bytesI_len]
      simp [ndO, ndL, k6]
      omega
    rw [if_neg k6] at h
    by_cases k4 : k = 4
    · rw [if_pos k4] at h
      split at h
      · cases h
      · rename_i ws ns' A1 hp
        simp only [Option.some.injEq, Prod.mk.injEq] at h
        obtain ⟨rfl, rfl, rfl⟩ := h
        obtain ⟨h1, h2, h3⟩ := ptL_len l _ A ws ns' A1 hK.2 hp
        refine ⟨?_, h3⟩
        rw [List.length_cons, List.length_append, h1, h2]
        simp [ndO, k4]
        omega
    rw [if_neg k4] at h
    have k5 : k = 5 := by rcases hK.1 with ⟨h, _⟩ | h | h <;> omega
    split at h
    · rename_i hl0
      simp only [Option.some.injEq, Prod.mk.injEq] at h
      obtain ⟨rfl, rfl, rfl⟩ := h
      have hl : l = [] := List.eq_nil_of_length_eq_zero hl0
      subst hl
      exact ⟨by simp [ndO, ndL, k5], [], by simp⟩
    · split at h
      · cases h
      · rename_i ws ns' A1 hp
        simp only [Option.some.injEq, Prod.mk.injEq] at h
        obtain ⟨rfl, rfl, rfl⟩ := h
        obtain ⟨h1, h2, h3⟩ := ptL_len l _ A ws ns' A1 hK.2 hp
        refine ⟨?_, h3⟩
        rw [List.length_append, consL_len, h1, h2]
        simp [ndO, k5]
theorem ptL_len : ∀ (l : List Tm) (a : Nat) (A : List ByteArray) (ws ns : List Int) (A' : List ByteArray), AllKL l → ptL l a A = some (ws, ns, A') → ws.length = l.length ∧ ns.length = ndL l ∧ ∃ B, A' = A ++ B
  | [], a, A, ws, ns, A', _, h => by
    rw [ptL] at h
    simp only [Option.some.injEq, Prod.mk.injEq] at h
    obtain ⟨rfl, rfl, rfl⟩ := h
    exact ⟨rfl, by simp [ndL], [], by simp⟩
  | t :: r, a, A, ws, ns, A', hK, h => by
    rw [AllKL] at hK
    rw [ptL] at h
    split at h
    · cases h
    · rename_i ns1 A1 w1 hp
      split at h
      · cases h
      · rename_i ws2 ns2 A2 hp2
        simp only [Option.some.injEq, Prod.mk.injEq] at h
        obtain ⟨rfl, rfl, rfl⟩ := h
        obtain ⟨a1, B1, rfl⟩ := ptT_len t a A ns1 A1 w1 hK.1 hp
        obtain ⟨b1, b2, B2, rfl⟩ := ptL_len r _ _ ws2 ns2 A2 hK.2 hp2
        exact ⟨by simp [b1], by rw [List.length_append, a1, b2, ndL], B1 ++ B2, by simp⟩
end
end Go.Proofs.Ytabgfaafpgholaa
