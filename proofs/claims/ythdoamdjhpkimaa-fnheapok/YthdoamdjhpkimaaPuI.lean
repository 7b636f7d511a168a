/-
  How many terms, and how many words they want.
-/
import Derived.Test.YthdoamdjhpkimaaPuH
import Derived.Test.YthdoamdjhpkimaaPuG
namespace Go.Proofs.Ythdoamdjhpkimaa
open Go.RowKit
set_option linter.unusedVariables false

mutual
theorem look_n : ∀ (t : Tm) (d m x : Nat), look t d m = some x → nT t + x = m
  | .mk k n s l, d, m, x, h => by
    rw [look] at h
    split at h
    · cases h
    · rename_i hc
      have := lookL_n l _ _ _ h
      rw [nT]
      omega
theorem lookL_n : ∀ (l : List Tm) (d m x : Nat), lookL l d m = some x → nL l + x = m
  | [], d, m, x, h => by
    rw [lookL] at h
    injection h with h
    rw [nL]
    omega
  | t :: r, d, m, x, h => by
    rw [lookL] at h
    split at h
    · cases h
    · rename_i y hy
      have h1 := look_n t d m y hy
      have h2 := lookL_n r d y x h
      rw [nL]
      omega
end
theorem ndO_le (k n : Int) (s : ByteArray) (len : Nat) (h : shapeB k n s len = true) : ndO k s len ≤ 41 := by
  unfold ndO
  split
  · rename_i hk
    subst hk
    simp [shapeB] at h
    omega
  · split
    · rename_i hk
      subst hk
      simp [shapeB] at h
      omega
    · split
      · rename_i hk
        subst hk
        simp [shapeB] at h
        omega
      · omega
mutual
theorem nd_n : ∀ (t : Tm), goodT t → ndT t ≤ 41 * nT t
  | .mk k n s l, h => by
    rw [goodT] at h
    have h1 := ndO_le k n s l.length h.1
    have h2 := ndL_n l h.2
    rw [ndT, nT]
    omega
theorem ndL_n : ∀ (l : List Tm), goodL l → ndL l ≤ 41 * nL l
  | [], h => by rw [ndL]; omega
  | t :: r, h => by
    rw [goodL] at h
    have h1 := nd_n t h.1
    have h2 := ndL_n r h.2
    rw [ndL, nL]
    omega
end
theorem look_b {t : Tm} (h : (look t 6 100).isSome = true) : goodT t ∧ nT t ≤ 100 ∧ ndT t ≤ 4100 := by
  obtain ⟨x, hx⟩ := Option.isSome_iff_exists.1 h
  have h1 := look_good t _ _ _ hx
  have h2 := look_n t _ _ _ hx
  have h3 := nd_n t h1
  exact ⟨h1, by omega, by omega⟩
/-- What PutTerm is to answer. -/
def PtR (t : Tm) (xs : List Int) (A : List ByteArray) : Option (List Int × List ByteArray × Int) := if (look t 6 100).isSome = true ∧ xs.length + ndT t ≤ 2000 then ptT t xs.length A else none
/-- An answer of PutTerm: words and atoms stand in rows of the call's own. -/
structure PtA (w w' : World) (g c ga ca : Nat) (xs : List Int) (A : List ByteArray) : Prop where
  wr : w'.ownsRow w.heap.size 3 1 (.slice (some ⟨g, 0, none⟩) xs.length c) xs.length (xs.map (Value.int .i64))
  ar : w'.ownsRow w.heap.size 9 1 (.slice (some ⟨ga, 0, none⟩) A.length ca) A.length (A.map Value.string)
  be : Below w.heap.size w w'
def Pt (w : World) (t : Tm) (xs : List Int) (A : List ByteArray) (e : Ending) (w' : World) : Prop :=
  ∃ g c ga ca xs' A' x ok, e = .returned (.tuple #[.agg #[.slice (some ⟨g, 0, none⟩) xs'.length c], .slice (some ⟨ga, 0, none⟩) A'.length ca, .int .i64 x, .bool ok]) ∧ PtA w w' g c ga ca xs' A' ∧
    ((ok = false ∧ xs' = xs ∧ A' = A ∧ x = 0 ∧ PtR t xs A = none) ∨ (ok = true ∧ (∃ ns, xs' = xs ++ ns ∧ PtR t xs A = some (ns, A', x)) ∧ xs'.length ≤ 2000 ∧ A'.length ≤ A.length + 100))
end Go.Proofs.Ythdoamdjhpkimaa
