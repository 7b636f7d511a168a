/-
  A block that is taken back, as reckoning.
  What joins a block that is taken back.
-/
import Derived.Test.YtmongbpdbcbhlaaTiB
import Derived.Test.YtmongbpdbcbhlaaJoH
namespace Go.Proofs.Ytmongbpdbcbhlaa
open Go.RowKit
set_option linter.unusedVariables false

/-- What Release says goes by the words and the place alone. -/
theorem RelR.code {f F G : Nat → Int} {N : Nat} {x c d : Int} (h : RelR f N x F c) (k : RelR f N x G d) : c = d := by
  have no : ∀ {F : Nat → Int} {p : Nat} {A A' : List (Nat × Nat × Bool)} {n : Nat} {B B' : List (Nat × Nat × Bool)} {q k : Nat}, (∀ b ∈ bk f N 0, b.2.2 = true → (b.1 : Int) ≠ x) → x = p → RelG f N p F A A' n B B' q k → False := fun hl e g => by
    have h1 := hl _ (by rw [g.all]; exact List.mem_append_right _ List.mem_cons_self) rfl
    exact h1 e.symm
  rcases h with ⟨rfl, h1, _⟩ | ⟨rfl, h1, h2, _⟩ | ⟨rfl, h1, p, A, A', n, B, B', q, k', e, g⟩ <;> rcases k with ⟨rfl, k1, _⟩ | ⟨rfl, k1, k2, _⟩ | ⟨rfl, k1, p2, A2, A2', n2, B2, B2', q2, k2', e2, g2⟩
  all_goals first
    | rfl
    | exact absurd ‹Whole f N› ‹¬ Whole f N›
    | exact (no h2 e2 g2).elim
    | exact (no k2 e g).elim
theorem RelR.same {f F : Nat → Int} {N : Nat} {x c : Int} (h : RelR f N x F c) (hc : c ≠ 0) : F = f := by
  rcases h with ⟨_, _, h⟩ | ⟨_, _, _, h⟩ | ⟨h, _⟩
  · exact h
  · exact h
  · exact absurd h hc
theorem usd_app2 (l m : List (Nat × Nat × Bool)) : usd (l ++ m) = usd l ++ usd m := by simp [usd]
theorem fsum_app (l m : List (Nat × Nat × Bool)) : fsum (l ++ m) = fsum l + fsum m := by simp [fsum]
/-- Behind a block that is taken back. -/
theorem RelR.taken {f F : Nat → Int} {N : Nat} {x : Int} (h : RelR f N x F 0) (hN : N ≤ 4000) :
    Whole F N ∧ (usd (bk f N 0)).length = (usd (bk F N 0)).length + 1 ∧ (∀ j ∈ usd (bk F N 0), (j : Int) ≠ x) ∧ fsum ((bk f N 0).filter isFree) < fsum ((bk F N 0).filter isFree) := by
  rcases h with ⟨h, _⟩ | ⟨h, _⟩ | ⟨_, hW, p, A, A', n, B, B', q, k, rfl, g⟩
  · cases h
  · cases h
  obtain ⟨s1, s2, s3, s4, s5⟩ := g.seg hW hN
  have hF := s1.all
  obtain ⟨h1, _⟩ := whole_iff.1 hW
  rw [g.all] at h1
  obtain ⟨a1, a2, a3⟩ := h1.cut
  dsimp only at a1 a2 a3
  have hn1 := a2.h1
  have uA : usd A = usd A' ∧ fsum (A.filter isFree) + 3 ≤ fsum (A'.filter isFree) + (p - q) + 3 := by
    rcases g.ahead with ⟨e1, e2, _⟩ | ⟨m, e1⟩
    · rw [e1]; exact ⟨rfl, by omega⟩
    · rw [e1] at a1
      obtain ⟨m', b1, b2⟩ := Seg.app.1 a1
      have b3 := (b2.mem (q, m, false) List.mem_cons_self).2.1
      dsimp only at b3
      refine ⟨by rw [e1, usd_app2]; simp [usd], ?_⟩
      rw [e1, List.filter_append, fsum_app]
      have : fsum ([(q, m, false)].filter isFree) = m := by simp [fsum, isFree]
      omega
  have uB : usd B = usd B' ∧ fsum (B.filter isFree) + (p + n + 3) ≤ fsum (B'.filter isFree) + (q + k + 3) := by
    rcases g.behind with ⟨e1, e2, _⟩ | ⟨m, e1, e2⟩
    · rw [e1]; exact ⟨rfl, by omega⟩
    · refine ⟨by rw [e1]; simp [usd], ?_⟩
      rw [e1]
      have : fsum (((p + n + 3, m, false) :: B').filter isFree) = m + fsum (B'.filter isFree) := by simp [fsum, isFree]
      omega
  refine ⟨whole_of s1 s2, ?_, ?_, ?_⟩
  · rw [hF, g.all, usd_app2, usd_app2, uA.1]
    have e1 : usd ((p, n, true) :: B) = p :: usd B := by simp [usd]
    have e2 : usd ((q, k, false) :: B') = usd B' := by simp [usd]
    rw [e1, e2, uB.1]
    simp only [List.length_append, List.length_cons]
    omega
  · intro j hj e
    rw [hF] at hj
    have hjp : j = p := by omega
    subst hjp
    obtain ⟨t1, t2, t3⟩ := s1.cut
    dsimp only at t1 t2 t3
    rw [usd_app2] at hj
    have e2 : usd ((q, k, false) :: B') = usd B' := by simp [usd]
    rw [e2] at hj
    rcases List.mem_append.1 hj with hj | hj
    · unfold usd at hj
      obtain ⟨b, hb, rfl⟩ := List.mem_map.1 hj
      have := (t1.mem b ((List.mem_filter.1 hb).1)).2.1
      omega
    · unfold usd at hj
      obtain ⟨b, hb, rfl⟩ := List.mem_map.1 hj
      have := (t3.mem b ((List.mem_filter.1 hb).1)).1
      omega
  · rw [hF, g.all, List.filter_append, List.filter_append, fsum_app, fsum_app]
    have e1 : fsum (((p, n, true) :: B).filter isFree) = fsum (B.filter isFree) := by simp [fsum, isFree]
    have e2 : fsum (((q, k, false) :: B').filter isFree) = k + fsum (B'.filter isFree) := by simp [fsum, isFree]
    rw [e1, e2]
    have := uA.2
    have := uB.2
    omega
/-- The same place in the same blocks. -/
theorem same_place {f : Nat → Int} {N q : Nat} : ∀ {A A1 : List (Nat × Nat × Bool)} {p : Nat} {b b1 : Nat × Nat × Bool} {B B1 : List (Nat × Nat × Bool)}, Seg f N p (A ++ b :: B) N → A ++ b :: B = A1 ++ b1 :: B1 → b.1 = q → b1.1 = q → A = A1 ∧ b = b1 ∧ B = B1
  | [], [], p, b, b1, B, B1, h, e, _, _ => by
    simp only [List.nil_append, List.cons.injEq] at e
    exact ⟨rfl, e⟩
  | [], c :: A1, p, b, b1, B, B1, h, e, hb, hb1 => by
    simp only [List.nil_append, List.cons_append, List.cons.injEq] at e
    obtain ⟨rfl, rfl⟩ := e
    obtain ⟨_, k2, k3⟩ := h
    have := (k3.mem b1 (List.mem_append_right _ List.mem_cons_self)).1
    have := k2.h1
    omega
  | c :: A, [], p, b, b1, B, B1, h, e, hb, hb1 => by
    simp only [List.nil_append, List.cons_append, List.cons.injEq] at e
    obtain ⟨rfl, rfl⟩ := e
    obtain ⟨_, k2, k3⟩ := h
    have := (k3.mem b (List.mem_append_right _ List.mem_cons_self)).1
    have := k2.h1
    omega
  | c :: A, c1 :: A1, p, b, b1, B, B1, h, e, hb, hb1 => by
    simp only [List.cons_append, List.cons.injEq] at e
    obtain ⟨rfl, e⟩ := e
    obtain ⟨_, _, k3⟩ := h
    obtain ⟨r1, r2, r3⟩ := same_place k3 e hb hb1
    exact ⟨by rw [r1], r2, r3⟩
/-- Given and taken back: the words are as they were. -/
theorem back_same {F G Z : Nat → Int} {N : Nat} {x p c : Int} (h : AllocR F N x G p 0) (k : RelR G N p Z c) (hN : N ≤ 4000) : c = 0 ∧ ∀ j, Z j = F j := by
  rcases h with ⟨h, _⟩ | ⟨h, _⟩ | ⟨h, _⟩ | ⟨_, hW, q, y, A, n, B, rfl, rfl, hy, hy2, g⟩
  · cases h
  · cases h
  · cases h
  obtain ⟨w1, w2⟩ := g.whole hW hN hy
  obtain ⟨s1, s2⟩ := g.seg hW hN hy
  obtain ⟨p1, p2, p3, p4, p5, p6⟩ := g.parts hW
  have hf := g.fits
  rcases k with ⟨_, h1, _⟩ | ⟨_, _, h2, _⟩ | ⟨rfl, _, q', A1, A1', n1, B1, B1', Q, k, e, r⟩
  · exact absurd w1 h1
  · refine absurd rfl (h2 (q, got n y, true) ?_ rfl)
    rw [w2]
    exact List.mem_append_right _ (List.mem_append_left _ (got_mem _ _ _))
  have hq : q = q' := by omega
  subst hq
  refine ⟨rfl, ?_⟩
  have hall := r.all
  rw [w2] at hall
  have hin : ∀ j, ¬ (q ≤ j ∧ j < q + n + 3) → G j = F j := fun j hj => by rw [g.words]; exact alloc_out F q n y j hf hj
  have fin : Q = q → k = n → ∀ j, Z j = F j := fun e1 e2 j => by
    rw [r.words, e1, e2]
    exact lay_free p2 G hin j
  have hA : ∀ {A'' : List (Nat × Nat × Bool)} {m : Nat}, A = A'' ++ [(Q, m, false)] → False := fun e => by
    rw [e, lf_snoc] at p5
    cases p5
  by_cases hc : y + 4 ≤ n
  · rw [news, if_pos hc] at hall s1
    obtain ⟨e1, e2, e3⟩ := same_place (A := A) (A1 := A1) (b := (q, y, true)) (b1 := (q, n1, true)) (B := (q + y + 3, n - y - 3, false) :: B) (B1 := B1) (by simpa using s1) (by simpa using hall) rfl rfl
    injection e2 with e21 e22
    injection e22 with e22 _
    subst e1 e22
    have hQ : Q = q := by
      rcases r.ahead with ⟨_, e, _⟩ | ⟨m, e⟩
      · exact e
      · exact (hA e).elim
    rcases r.behind with ⟨_, _, e5⟩ | ⟨m, e4, e5⟩
    · rw [← e3] at e5
      simp [alt] at e5
    · rw [← e3] at e4
      injection e4 with e4 _
      injection e4 with _ e4
      injection e4 with e4 _
      exact fin hQ (by omega)
  · rw [news, if_neg hc] at hall s1
    obtain ⟨e1, e2, e3⟩ := same_place (A := A) (A1 := A1) (b := (q, n, true)) (b1 := (q, n1, true)) (B := B) (B1 := B1) (by simpa using s1) (by simpa using hall) rfl rfl
    injection e2 with e21 e22
    injection e22 with e22 _
    subst e1 e22
    have hQ : Q = q := by
      rcases r.ahead with ⟨_, e, _⟩ | ⟨m, e⟩
      · exact e
      · exact (hA e).elim
    rcases r.behind with ⟨_, e5, _⟩ | ⟨m, e4, e5⟩
    · exact fin hQ (by omega)
    · rw [← e3] at e4
      rw [e4] at p6
      simp [alt] at p6
end Go.Proofs.Ytmongbpdbcbhlaa

namespace Go.Proofs.Ytmongbpdbcbhlaa
open Go.RowKit
set_option linter.unusedVariables false

theorem seg_nil {f : Nat → Int} {N p : Nat} {L : List (Nat × Nat × Bool)} (h : Seg f N p L p) : L = [] := by
  cases L with
  | nil => rfl
  | cons b L =>
    obtain ⟨_, _, h3⟩ := h
    have := h3.le
    omega
theorem fk_mem {f : Nat → Int} {N : Nat} {b : Nat × Nat × Bool} : b ∈ fk f N ↔ b ∈ bk f N 0 ∧ b.2.2 = false := by
  unfold fk
  rw [List.mem_filter]
  simp [isFree]
theorem rel_of {f : Nat → Int} {N p n S E : Nat} (hW : Whole f N) (hb : (p, n, true) ∈ bk f N 0) (hS : SP p (fk f N) S) (hE : EP (p + n + 3) (fk f N) E) :
    1 ≤ n ∧ S ≤ p ∧ p + n + 3 ≤ E ∧ E ≤ N ∧ ∃ A A' B B', RelG f N p (layF f S (E - S - 3) false) A A' n B B' S (E - S - 3) := by
  obtain ⟨h1, h2⟩ := whole_iff.1 hW
  obtain ⟨A, B, hAB⟩ := split_at hb
  have h1' := h1
  rw [hAB] at h1' h2
  obtain ⟨a1, a2, a3⟩ := h1'.cut
  dsimp only at a1 a2 a3
  have hn1 := a2.h1
  have hfit := a2.fit
  have ha3 := a3.le
  rw [alt_app] at h2
  simp only [Bool.and_eq_true] at h2
  obtain ⟨d1, d2⟩ := h2
  have d3 : alt false B = true := by
    simp only [alt, Bool.and_eq_true] at d2
    exact d2.2
  have key : (S ≤ p ∧ ((∃ A', A = A' ∧ S = p ∧ lf false A = false) ∨ ∃ A' m, A = A' ++ [(S, m, false)])) := by
    rcases hS with ⟨rfl, hn⟩ | ⟨m, u, hm, he⟩
    · refine ⟨Nat.le_refl _, .inl ⟨A, rfl, rfl, ?_⟩⟩
      rcases List.eq_nil_or_concat A with rfl | ⟨A0, b, rfl⟩
      · rfl
      · rw [List.concat_eq_append] at a1 hAB ⊢
        rw [lf_snoc]
        obtain ⟨m', b1, b2⟩ := Seg.app.1 a1
        obtain ⟨e1, e2, e3⟩ := b2
        cases hu : b.2.2 with
        | true => rfl
        | false =>
          exfalso
          refine hn b (fk_mem.2 ⟨?_, hu⟩) ?_
          · rw [hAB]; simp
          · have e3 : m' + b.2.1 + 3 = S := e3
            omega
    · obtain ⟨hm1, hm2⟩ := fk_mem.1 hm
      have hu : u = false := hm2
      subst hu
      refine ⟨by omega, .inr ?_⟩
      rw [hAB] at hm1
      rcases List.mem_append.1 hm1 with hm1 | hm1
      · obtain ⟨A1, A2, rfl⟩ := split_at hm1
        obtain ⟨_, _, c3⟩ := a1.cut
        dsimp only at c3
        rw [he] at c3
        have := seg_nil c3
        subst this
        exact ⟨A1, m, rfl⟩
      · rcases List.mem_cons.1 hm1 with e | hm1
        · injection e with e1 e2
          injection e2 with e2 e3
          cases e3
        · have := (a3.mem _ hm1).1
          dsimp only at this
          omega
  have key2 : (p + n + 3 ≤ E ∧ E ≤ N ∧ ((∃ B', B = B' ∧ E = p + n + 3 ∧ alt true B = true) ∨ ∃ B' m, B = (p + n + 3, m, false) :: B' ∧ E = p + n + 3 + m + 3)) := by
    rcases hE with ⟨rfl, hn⟩ | ⟨m, u, hm, he⟩
    · refine ⟨Nat.le_refl _, by omega, .inl ⟨B, rfl, rfl, ?_⟩⟩
      cases B with
      | nil => rfl
      | cons b B0 =>
        obtain ⟨e1, _, _⟩ := a3
        cases hu : b.2.2 with
        | true =>
          simp only [alt, hu] at d3 ⊢
          simpa using d3
        | false =>
          exfalso
          refine hn b (fk_mem.2 ⟨?_, hu⟩) e1
          rw [hAB]; simp
    · obtain ⟨hm1, hm2⟩ := fk_mem.1 hm
      have hu : u = false := hm2
      subst hu
      rw [hAB] at hm1
      rcases List.mem_append.1 hm1 with hm1 | hm1
      · have := (a1.mem _ hm1).2.1
        dsimp only at this
        omega
      · rcases List.mem_cons.1 hm1 with e | hm1
        · injection e with e1 e2
          omega
        · cases B with
          | nil => cases hm1
          | cons b B0 =>
            obtain ⟨e1, e2, e3⟩ := a3
            rcases List.mem_cons.1 hm1 with e | hm1
            · have h5 := e3.le
              rw [← e] at h5
              dsimp only at h5
              exact ⟨by omega, by omega, .inr ⟨B0, m, by rw [e], he⟩⟩
            · have := (e3.mem _ hm1).1
              dsimp only at this
              omega
  obtain ⟨k1, k2⟩ := key
  obtain ⟨k3, k4, k5⟩ := key2
  refine ⟨hn1, k1, k3, k4, ?_⟩
  have hk : S + (E - S - 3) + 3 = E := by omega
  rcases k2 with ⟨A', e1, e2, e3⟩ | ⟨A', m, e1⟩ <;> rcases k5 with ⟨B', f1, f2, f3⟩ | ⟨B', m', f1, f2⟩
  · exact ⟨A, A', B, B', ⟨hAB, .inl ⟨e1, e2, e3⟩, .inl ⟨f1, by omega, f3⟩, rfl⟩⟩
  · exact ⟨A, A', B, B', ⟨hAB, .inl ⟨e1, e2, e3⟩, .inr ⟨m', f1, by omega⟩, rfl⟩⟩
  · exact ⟨A, A', B, B', ⟨hAB, .inr ⟨m, e1⟩, .inl ⟨f1, by omega, f3⟩, rfl⟩⟩
  · exact ⟨A, A', B, B', ⟨hAB, .inr ⟨m, e1⟩, .inr ⟨m', f1, by omega⟩, rfl⟩⟩
end Go.Proofs.Ytmongbpdbcbhlaa
