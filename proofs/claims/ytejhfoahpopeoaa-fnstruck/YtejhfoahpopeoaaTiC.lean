/-
  A word that is struck outside of what holders have is found.
-/
import Derived.Test.YtejhfoahpopeoaaTiB
namespace Go.Proofs.Ytejhfoahpopeoaa
open Go.RowKit
set_option linter.unusedVariables false

theorem Seg.find {f : Nat → Int} {N : Nat} : ∀ {L : List (Nat × Nat × Bool)} {p q : Nat}, Seg f N p L q → ∀ k, p ≤ k → k < q → ∃ b ∈ L, b.1 ≤ k ∧ k < b.1 + b.2.1 + 3
  | [], p, q, h, k, h1, h2 => by have : p = q := h; omega
  | b :: L, p, q, ⟨e, _, h⟩, k, h1, h2 => by
    by_cases hk : k < p + b.2.1 + 3
    · exact ⟨b, List.mem_cons_self, by omega, by omega⟩
    · obtain ⟨c, hc, h3⟩ := h.find k (by omega) h2
      exact ⟨c, List.mem_cons_of_mem _ hc, h3⟩
theorem Seg.fin {f : Nat → Int} {N : Nat} : ∀ {L : List (Nat × Nat × Bool)} {p q q' : Nat}, Seg f N p L q → Seg f N p L q' → q = q'
  | [], p, q, q', h, h' => by have a : p = q := h; have b : p = q' := h'; omega
  | b :: L, p, q, q', ⟨_, _, h⟩, ⟨_, _, h'⟩ => h.fin h'
theorem gw_rng (p n : Int) (u : Bool) (m : Int) : 0 ≤ gw p n u m ∧ gw p n u m ≤ 1000003 := by
  unfold gw
  split <;> omega
theorem pois_rng (p : Int) : 0 ≤ pois p ∧ pois p ≤ 1000003 := by
  unfold pois
  split <;> omega
theorem far_dec : ∀ d, d < 257 → ∀ e, e < 3 → 1 ≤ d → (d * 314187 + e * 3 + 1000000) % 1000003 ≠ 0 := by decide +kernel
theorem far1 (d e : Nat) (a b : Int) (ha : a = 1 ∨ a = 2) (hb : b = 1 ∨ b = 2) (he : (e : Int) = b - a + 1) (h : ((d : Int) * 314187 + (b - a) * 3) % 1000003 = 0) : (d * 314187 + e * 3 + 1000000) % 1000003 = 0 := by
  omega
theorem far2 (a b : Int) (ha : a = 1 ∨ a = 2) (hb : b = 1 ∨ b = 2) :  ∃ e : Nat, (e : Int) = b - a + 1 ∧ e < 3 := by
  exact ⟨(b - a + 1).toNat, by omega, by omega⟩
theorem far_int (d : Nat) (a b : Int) (ha : a = 1 ∨ a = 2) (hb : b = 1 ∨ b = 2) (h1 : 1 ≤ d) (h2 : d ≤ 256) (h : ((d : Int) * 314187 + (b - a) * 3) % 1000003 = 0) : False := by
  obtain ⟨e, he, he3⟩ := far2 a b ha hb
  have h3 : d < 257 := Nat.lt_succ_of_le h2
  have hx := far1 d e a b ha hb he h
  exact far_dec d h3 e he3 h1 hx
/-- Guards of one place for two lengths that are not far apart are unlike. -/
theorem gw_far (p n d : Nat) (u v : Bool) (hp : p ≤ 4000) (hn : n + d ≤ 4000) (h1 : 1 ≤ d) (h2 : d ≤ 256) (m : Int) : gw p n u m ≠ gw p ((n + d : Nat) : Int) v m := by
  intro h
  have e1 : inA (p : Int) = true := by simp [inA]; omega
  have e2 : inA (n : Int) = true := by simp [inA]; omega
  have e3 : inA ((n + d : Nat) : Int) = true := by simp only [inA, decide_eq_true_eq]; omega
  unfold gw at h
  rw [e1, e2, e3] at h
  simp only [Bool.and_self, if_true] at h
  have hu : useOf u = 1 ∨ useOf u = 2 := by cases u <;> simp [useOf]
  have hv : useOf v = 1 ∨ useOf v = 2 := by cases v <;> simp [useOf]
  refine far_int d (useOf u) (useOf v) hu hv h1 h2 ?_
  have h4 := Int.emod_eq_emod_iff_emod_sub_eq_zero.1 h.symm
  have h5 : ((p : Int) * 7919 + ((n + d : Nat) : Int) * 104729 + useOf v) * 3 + m - (((p : Int) * 7919 + (n : Int) * 104729 + useOf u) * 3 + m) = (d : Int) * 314187 + (useOf v - useOf u) * 3 := by omega
  rw [h5] at h4
  exact h4
/-- Outside of what holders have, words are small. -/
theorem small_at {F : Nat → Int} {M k : Nat} (hW : Whole F M) (hk : k < M) (hnot : ∀ b ∈ bk F M 0, b.2.2 = true → ¬ (b.1 + 2 ≤ k ∧ k < b.1 + 2 + b.2.1)) : 0 ≤ F k ∧ F k ≤ 1000003 := by
  obtain ⟨h1, _⟩ := whole_iff.1 hW
  obtain ⟨⟨p, n, u⟩, hb, k1, k2⟩ := h1.find k (by omega) hk
  obtain ⟨_, _, hB⟩ := h1.mem _ hb
  dsimp only at k1 k2 hB
  by_cases c0 : k = p
  · rw [c0, hB.ahead]; exact gw_rng _ _ _ _
  · by_cases c1 : k = p + 1
    · rw [c1, hB.len]; have := hB.hn; omega
    · by_cases c2 : k = p + 2 + n
      · rw [c2, hB.behind]; exact gw_rng _ _ _ _
      · cases u with
        | true => exact absurd (⟨by show p + 2 ≤ k; omega, by show k < p + 2 + n; omega⟩ : (p, n, true).1 + 2 ≤ k ∧ k < (p, n, true).1 + 2 + (p, n, true).2.1) (hnot _ hb rfl)
        | false =>
          have := hB.free rfl (k - (p + 2)) (by omega)
          rw [show p + 2 + (k - (p + 2)) = k by omega] at this
          rw [this]; exact pois_rng _
theorem struck {F : Nat → Int} {M k : Nat} {d : Nat} (hW : Whole F M) (hk : k < M) (hnot : ∀ b ∈ bk F M 0, b.2.2 = true → ¬ (b.1 + 2 ≤ k ∧ k < b.1 + 2 + b.2.1)) (hd1 : 1 ≤ d) (hd2 : d ≤ 256) : ¬ Whole (upd F k (F k + d)) M := by
  intro hG
  obtain ⟨h1, _⟩ := whole_iff.1 hW
  obtain ⟨g1, _⟩ := whole_iff.1 hG
  obtain ⟨⟨p, n, u⟩, hb, k1, k2⟩ := h1.find k (by omega) hk
  obtain ⟨A, B, hAB⟩ := split_at hb
  rw [hAB] at h1
  obtain ⟨sA, hB, sB⟩ := h1.cut
  dsimp only at k1 k2 hB sA sB
  have hle := sB.le
  have ho : ∀ j, j ≠ k → upd F k (F k + d) j = F j := fun j hj => upd_other F _ hj
  have hsame : upd F k (F k + d) k = F k + d := upd_same F k _
  generalize upd F k (F k + d) = G at *
  have tA : Seg G M 0 A p := sA.congr fun j _ hj => ho j (by omega)
  rw [tA.bk] at g1
  obtain ⟨m, s1, s2⟩ := Seg.app.1 g1
  obtain rfl := tA.fin s1
  obtain ⟨n', v, hC⟩ : ∃ n' v, Blk G M p n' v := by
    cases hc : bk G M p with
    | nil => rw [hc] at s2; have : p = M := s2; have := hB.fit; omega
    | cons c C => rw [hc] at s2; exact ⟨_, _, s2.2.1⟩
  have hp := hB.hp
  have hn := hB.hn
  have hl := hC.len
  by_cases c1 : k = p + 1
  · rw [c1] at hsame
    rw [hsame, hB.len] at hl
    have hn' : n' = n + d := by omega
    have ha := hC.ahead
    rw [ho p (by omega), hB.ahead, hn'] at ha
    have := hC.hn
    exact gw_far p n d u v hp (by omega) hd1 hd2 1000 ha
  · rw [ho (p + 1) (by omega), hB.len] at hl
    have hn' : n' = n := by omega
    subst hn'
    by_cases c0 : k = p
    · have hr := hC.behind
      rw [ho _ (by omega), hB.behind] at hr
      have hu : u = v := by
        have a1 := gw_use p n' (by omega) (by omega) (by omega) (by omega) 1001
        cases u <;> cases v
        · rfl
        · exact absurd hr.symm a1
        · exact absurd hr a1
        · rfl
      have ha := hC.ahead
      rw [c0] at hsame
      rw [hsame, hB.ahead, hu] at ha
      omega
    · have ha := hC.ahead
      rw [ho p (by omega), hB.ahead] at ha
      have hu : u = v := by
        have a1 := gw_use p n' (by omega) (by omega) (by omega) (by omega) 1000
        cases u <;> cases v
        · rfl
        · exact absurd ha.symm a1
        · exact absurd ha a1
        · rfl
      subst hu
      by_cases c2 : k = p + 2 + n'
      · have hr := hC.behind
        rw [c2] at hsame
        rw [hsame, hB.behind] at hr
        omega
      · cases u with
        | true => exact hnot _ hb rfl ⟨by show p + 2 ≤ k; omega, by show k < p + 2 + n'; omega⟩
        | false =>
          have a1 := hC.free rfl (k - (p + 2)) (by omega)
          have a2 := hB.free rfl (k - (p + 2)) (by omega)
          rw [show p + 2 + (k - (p + 2)) = k by omega] at a1 a2
          rw [hsame, a2] at a1
          omega
end Go.Proofs.Ytejhfoahpopeoaa
