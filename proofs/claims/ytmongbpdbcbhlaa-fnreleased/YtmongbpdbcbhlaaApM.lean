/-
  Two blocks given one after the other: what is known of them.
-/
import Derived.Test.YtmongbpdbcbhlaaTiB
namespace Go.Proofs.Ytmongbpdbcbhlaa
open Go.RowKit
set_option linter.unusedVariables false

/-- What Alloc says goes by the words and the number alone. -/
theorem AllocR.code {f F G : Nat → Int} {N : Nat} {x p q c d : Int} (h : AllocR f N x F p c) (k : AllocR f N x G q d) : c = d := by
  have no : ∀ {F : Nat → Int} {p y n : Nat} {A B : List (Nat × Nat × Bool)}, (∀ b ∈ bk f N 0, b.2.2 = false → (b.2.1 : Int) < x) → x = y → AllocG f N y F p A n B → False := fun hl e g => by
    have h1 := hl _ (by rw [g.all]; exact List.mem_append_right _ List.mem_cons_self) rfl
    have h2 := g.fits
    dsimp only at h1
    omega
  rcases h with ⟨rfl, h1, _⟩ | ⟨rfl, h1, h2, _⟩ | ⟨rfl, h1, h2, h3, _⟩ | ⟨rfl, h1, p', y, A, n, B, _, e, h2, h3, h4⟩ <;> rcases k with ⟨rfl, k1, _⟩ | ⟨rfl, k1, k2, _⟩ | ⟨rfl, k1, k2, k3, _⟩ | ⟨rfl, k1, q', z, A', n', B', _, e', k2, k3, k4⟩
  all_goals first
    | rfl
    | exact absurd ‹Whole f N› ‹¬ Whole f N›
    | exact absurd ‹1 ≤ x ∧ x ≤ 4000› ‹¬ (1 ≤ x ∧ x ≤ 4000)›
    | exact (no h3 e' k4).elim
    | exact (no k3 e h4).elim
    | (exfalso; omega)

/-- A block that is given: it is among the blocks, all its words are 0, and the used blocks that were there stay; none of them is at its place. -/
theorem AllocR.given {f F : Nat → Int} {N : Nat} {x p : Int} (h : AllocR f N x F p 0) (hN : N ≤ 4000) : Whole F N ∧ ∃ q m : Nat, p = q ∧ 1 ≤ m ∧ (q, m, true) ∈ bk F N 0 ∧ (∀ i, i < m → F (q + 2 + i) = 0) ∧ (∀ b ∈ bk f N 0, b.2.2 = true → b ∈ bk F N 0 ∧ b.1 ≠ q) := by
  rcases h with ⟨h, _⟩ | ⟨h, _⟩ | ⟨h, _⟩ | ⟨_, hW, q, y, A, n, B, rfl, rfl, hy, hy2, g⟩
  · cases h
  · cases h
  · cases h
  · obtain ⟨w1, w2⟩ := g.whole hW hN hy
    obtain ⟨s, hs, _⟩ := bk_all f N
    have hst : ∀ b ∈ bk f N 0, b.2.2 = true → b ∈ bk F N 0 ∧ b.1 ≠ q := fun b hb hu => by
      refine ⟨?_, fun e => ?_⟩
      · rw [w2]
        rw [g.all] at hb
        rcases List.mem_append.1 hb with h | h
        · exact List.mem_append_left _ h
        · rcases List.mem_cons.1 h with rfl | h
          · cases hu
          · exact List.mem_append_right _ (List.mem_append_right _ h)
      · have h1 := blkO_some (hs.mem b hb).2.2
        have h2 := blkO_some (hs.mem (q, n, false) (by rw [g.all]; exact List.mem_append_right _ List.mem_cons_self)).2.2
        dsimp only at h2
        rw [e, h2] at h1
        have h3 := Option.some.inj h1
        rw [hu] at h3
        cases h3
    have hf := g.fits
    by_cases hc : y + 4 ≤ n
    · refine ⟨w1, q, y, rfl, hy, ?_, fun i hi => ?_, hst⟩
      · rw [w2, news, if_pos hc]
        exact List.mem_append_right _ (List.mem_append_left _ List.mem_cons_self)
      · rw [g.words, allocF, if_pos hc]
        exact lay_zero _ _ _ _ hi
    · refine ⟨w1, q, n, rfl, by omega, ?_, fun i hi => ?_, hst⟩
      · rw [w2, news, if_neg hc]
        exact List.mem_append_right _ (List.mem_append_left _ List.mem_cons_self)
      · rw [g.words, allocF, if_neg hc]
        exact lay_zero _ _ _ _ hi
theorem bk_apart2 {f : Nat → Int} {N p n : Nat} {u : Bool} (h : (p, n, u) ∈ bk f N 0) : ∀ b ∈ bk f N 0, ¬ (b.1 < p ∧ p < b.1 + b.2.1 + 3) := by
  obtain ⟨q, hs, _⟩ := bk_all f N
  obtain ⟨A, B, e⟩ := split_at h
  rw [e] at hs ⊢
  obtain ⟨h1, h2, h3⟩ := hs.cut
  intro b hb hc
  rcases List.mem_append.1 hb with ha | ha
  · have := (h1.mem b ha).2.1
    dsimp only at this
    omega
  · rcases List.mem_cons.1 ha with rfl | ha
    · dsimp only at hc; omega
    · have := (h3.mem b ha).1
      dsimp only at this
      omega
/-- Two blocks at two places stand apart. -/
theorem bk_two {f : Nat → Int} {N p n q m : Nat} {u v : Bool} (h : (p, n, u) ∈ bk f N 0) (k : (q, m, v) ∈ bk f N 0) (hn : p ≠ q) : p + n + 3 ≤ q ∨ q + m + 3 ≤ p := by
  have h1 := bk_apart2 h (q, m, v) k
  have h2 := bk_apart2 k (p, n, u) h
  dsimp only at h1 h2
  omega
theorem bk_blk {f : Nat → Int} {N p n : Nat} {u : Bool} (h : (p, n, u) ∈ bk f N 0) : blkO f N p = some (n, u) ∧ p + n + 3 ≤ N ∧ 1 ≤ n := by
  obtain ⟨q, hs, _⟩ := bk_all f N
  have hb := (hs.mem _ h).2.2
  exact ⟨blkO_some hb, hb.fit, hb.h1⟩
end Go.Proofs.Ytmongbpdbcbhlaa
