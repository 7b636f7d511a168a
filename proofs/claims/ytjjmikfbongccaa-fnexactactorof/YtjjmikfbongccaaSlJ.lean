/-
  How the specification reads off both lists: every word, at every depth.
-/
import Derived.Test.YtjjmikfbongccaaSlI
namespace Go.Proofs.Ytjjmikfbongccaa.Gn
open Go.RowKit
set_option linter.unusedVariables false

theorem read_of {E : SE} {d : Nat} (hd6 : d ≤ 6) (ih : ∀ d', d = d' + 1 → ReadC E d') : ReadC E d := by
  intro w left x h hl hx
  have key : ∀ R, rT false E.H d x left = R → RdAt E d w x R → Calls Try.prog 41 #[.pointer (some ⟨E.rb, 0, none⟩), .int .i64 x, .int .i64 d] w fun e w' => Ans E w w' (rT false E.H d x left) e := fun R hR hA => by rw [hR]; exact hA
  by_cases h0 : 0 ≤ x
  · cases d with
    | zero => exact key none (by rw [rT]) (read_refuse hl h x hx _ (by omega) (.inr (.inl ⟨h0, by omega⟩)))
    | succ d' =>
      cases left with
      | zero => exact key none (by rw [rT, if_neg (by simp)]) (read_refuse hl h x hx _ (by omega) (.inr (.inr ⟨h0, by omega, rfl⟩)))
      | succ k =>
        have hi := ih d' rfl
        have hk : k ≤ 100 := by omega
        have hD : (1 : Int) ≤ ((d' + 1 : Nat) : Int) ∧ ((d' + 1 : Nat) : Int) ≤ 7 := by omega
        have ht := tagW_ge x
        have e0 : rT false E.H (d' + 1) x (k + 1) = raw false E.H (rT false E.H d') x k := by rw [rT, if_pos ⟨by simpa using h0, by omega⟩, held_false]; rfl
        have hc : tagW x = 0 ∨ tagW x = 1 ∨ tagW x = 2 ∨ tagW x = 3 ∨ tagW x = 4 ∨ tagW x = 5 ∨ tagW x = 6 ∨ tagW x = 7 := by omega
        rcases hc with hc | hc | hc | hc | hc | hc | hc | hc
        · exact key _ e0 (read_0 hk h x hx h0 _ hD hc _ rfl)
        · exact key _ e0 (read_1 hk h x hx h0 _ hD hc _ rfl)
        · exact key _ e0 (read_2 hk h x hx h0 _ hD hc _ rfl)
        · exact key _ e0 (read_3 hi (by omega) hk h x hx h0 _ hD hc rfl _ (by unfold raw; rw [if_neg (by omega), if_neg (by omega), if_neg (by omega), if_neg (by omega), if_neg (by omega), if_neg (by omega)]; rfl))
        · exact key _ e0 (read_4 hi (by omega) hk h x hx h0 _ hD hc rfl _ (by unfold raw; rw [if_neg (by omega), if_neg (by omega), if_neg (by omega), if_pos hc]))
        · exact key _ e0 (read_5 hi (by omega) hk h x hx h0 _ hD hc rfl _ (by unfold raw; rw [if_neg (by omega), if_neg (by omega), if_neg (by omega), if_neg (by omega), if_neg (by omega), if_neg (by omega)]; rfl))
        · exact key _ e0 (read_6 hk h x hx h0 _ hD hc _ (by unfold raw; rw [if_neg (by omega), if_neg (by omega), if_neg (by omega), if_neg (by omega), if_pos hc]))
        · exact key _ e0 (read_7 hk h x hx h0 _ hD hc _ rfl)
  · exact key none (by cases d with | zero => rw [rT] | succ d => rw [rT, if_neg (by simp; omega)]) (read_refuse hl h x hx _ (by omega) (.inl (by omega)))
theorem read_all (E : SE) : ∀ d : Nat, d ≤ 6 → ReadC E d
  | 0, h => read_of h (fun d' e => by omega)
  | d + 1, h => read_of h (fun d' e => by
      have : d' = d := by omega
      subst this
      exact read_all E d' (by omega))
end Go.Proofs.Ytjjmikfbongccaa.Gn
