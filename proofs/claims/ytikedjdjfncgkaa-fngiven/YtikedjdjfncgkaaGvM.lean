/-
  What is known of a block that is given.
-/
import Derived.Test.YtikedjdjfncgkaaApM
namespace Go.Proofs.Ytikedjdjfncgkaa
open Go.RowKit
set_option linter.unusedVariables false

theorem usd_app (l m : List (Nat × Nat × Bool)) : usd (l ++ m) = usd l ++ usd m := by simp [usd]
theorem usd_news (p n x : Nat) : (usd (news p n x)).length = 1 := by
  unfold news
  split <;> simp [usd]
theorem usd_mem {l : List (Nat × Nat × Bool)} {p : Nat} (h : p ∈ usd l) : ∃ n, (p, n, true) ∈ l := by
  unfold usd at h
  obtain ⟨⟨q, n, u⟩, h1, h2⟩ := List.mem_map.1 h
  obtain ⟨h3, h4⟩ := List.mem_filter.1 h1
  dsimp only at h2 h4
  subst h2 h4
  exact ⟨n, h3⟩
theorem AllocR.given2 {f F : Nat → Int} {N : Nat} {x p : Int} (h : AllocR f N x F p 0) (hN : N ≤ 4000) :
    ∃ q m y : Nat, p = q ∧ x = y ∧ y ≤ m ∧ m ≤ y + 3 ∧ Whole F N ∧ (q, m, true) ∈ bk F N 0 ∧ (∀ i, i < m → F (q + 2 + i) = 0) ∧ (usd (bk F N 0)).length = (usd (bk f N 0)).length + 1 ∧
      ∀ b ∈ bk f N 0, b.2.2 = true → b ∈ bk F N 0 ∧ b.1 ≠ q ∧ ∀ i, i < b.2.1 → F (b.1 + 2 + i) = f (b.1 + 2 + i) := by
  rcases h with ⟨h, _⟩ | ⟨h, _⟩ | ⟨h, _⟩ | ⟨_, hW, q, y, A, n, B, rfl, rfl, hy, hy2, g⟩
  · cases h
  · cases h
  · cases h
  · obtain ⟨w1, w2⟩ := g.whole hW hN hy
    have hq : (q, n, false) ∈ bk f N 0 := by rw [g.all]; exact List.mem_append_right _ List.mem_cons_self
    have hgl := got_le n y g.fits
    refine ⟨q, got n y, y, rfl, rfl, hgl.1, hgl.2.1, w1, ?_, fun i hi => ?_, ?_, fun b hb hu => ?_⟩
    · rw [w2]; exact List.mem_append_right _ (List.mem_append_left _ (got_mem q n y))
    · rw [g.words]; exact got_zero f q n y i hi
    · rw [w2, g.all, usd_app, usd_app, usd_app]
      have e : usd ((q, n, false) :: B) = usd B := by simp [usd]
      rw [e]
      simp only [List.length_append, usd_news]
      omega
    · obtain ⟨bp, bn, bu⟩ := b
      dsimp only at hu ⊢
      subst hu
      have hne : bp ≠ q := fun e => by
        subst e
        have h1 := (bk_blk hb).1
        have h2 := (bk_blk hq).1
        rw [h1] at h2
        cases h2
      have hap := bk_two hb hq hne
      refine ⟨?_, hne, fun i hi => ?_⟩
      · rw [w2]
        rw [g.all] at hb
        rcases List.mem_append.1 hb with h | h
        · exact List.mem_append_left _ h
        · rcases List.mem_cons.1 h with h | h
          · cases h
          · exact List.mem_append_right _ (List.mem_append_right _ h)
      · rw [g.words]
        exact alloc_out f q n y _ g.fits (by omega)
end Go.Proofs.Ytikedjdjfncgkaa
