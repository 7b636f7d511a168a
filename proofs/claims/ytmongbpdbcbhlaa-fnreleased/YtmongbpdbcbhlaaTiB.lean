/-
  What a block that is given, and one that is taken back, leave of an arena that is whole.
-/
import Derived.Test.YtmongbpdbcbhlaaTiA
namespace Go.Proofs.Ytmongbpdbcbhlaa
open Go.RowKit
set_option linter.unusedVariables false

/-- The words behind x words given of the free block of n words at p. -/
def allocF (f : Nat → Int) (p n x : Nat) : Nat → Int := if x + 4 ≤ n then layF (layF f (p + x + 3) (n - x - 3) false) p x true else layF f p n true
def news (p n x : Nat) : List (Nat × Nat × Bool) := if x + 4 ≤ n then [(p, x, true), (p + x + 3, n - x - 3, false)] else [(p, n, true)]
/-- Of these words x were given at p: the first free block that has them. -/
structure AllocG (f : Nat → Int) (N x : Nat) (F : Nat → Int) (p : Nat) (A : List (Nat × Nat × Bool)) (n : Nat) (B : List (Nat × Nat × Bool)) : Prop where
  all : bk f N 0 = A ++ (p, n, false) :: B
  less : ∀ b ∈ A, b.2.2 = false → b.2.1 < x
  fits : x ≤ n
  words : F = allocF f p n x
def AllocR (f : Nat → Int) (N : Nat) (x : Int) (F : Nat → Int) (p code : Int) : Prop :=
  (code = 3 ∧ ¬ Whole f N ∧ p = 0 ∧ F = f) ∨ (code = 2 ∧ Whole f N ∧ ¬ (1 ≤ x ∧ x ≤ 4000) ∧ p = 0 ∧ F = f) ∨
  (code = 1 ∧ Whole f N ∧ (1 ≤ x ∧ x ≤ 4000) ∧ (∀ b ∈ bk f N 0, b.2.2 = false → (b.2.1 : Int) < x) ∧ p = 0 ∧ F = f) ∨
  (code = 0 ∧ Whole f N ∧ ∃ (q y : Nat) (A : List (Nat × Nat × Bool)) (n : Nat) (B : List (Nat × Nat × Bool)), p = q ∧ x = y ∧ 1 ≤ y ∧ y ≤ 4000 ∧ AllocG f N y F q A n B)

theorem alloc_out (f : Nat → Int) (p n x j : Nat) (hx : x ≤ n) (h : ¬ (p ≤ j ∧ j < p + n + 3)) : allocF f p n x j = f j := by
  unfold allocF
  split
  · rw [lay_out _ _ _ _ _ (by omega), lay_out _ _ _ _ _ (by omega)]
  · exact lay_out _ _ _ _ _ h
theorem AllocG.parts {f F : Nat → Int} {N x p n : Nat} {A B : List (Nat × Nat × Bool)} (g : AllocG f N x F p A n B) (hW : Whole f N) : Seg f N 0 A p ∧ Blk f N p n false ∧ Seg f N (p + n + 3) B N ∧ alt false A = true ∧ lf false A = false ∧ alt true B = true := by
  obtain ⟨h1, h2⟩ := whole_iff.1 hW
  rw [g.all] at h1 h2
  obtain ⟨a, b, c⟩ := h1.cut
  rw [alt_app] at h2
  simp only [alt, Bool.and_eq_true, Bool.not_eq_true', Bool.and_eq_false_iff] at h2
  refine ⟨a, b, c, h2.1, ?_, h2.2.2⟩
  cases hl : lf false A
  · rfl
  · rw [hl] at h2; simp at h2
theorem AllocG.seg {f F : Nat → Int} {N x p n : Nat} {A B : List (Nat × Nat × Bool)} (g : AllocG f N x F p A n B) (hW : Whole f N) (hN : N ≤ 4000) (hx : 1 ≤ x) : Seg F N 0 (A ++ (news p n x ++ B)) N ∧ alt false (A ++ (news p n x ++ B)) = true := by
  obtain ⟨a, b, c, d, e, k⟩ := g.parts hW
  have hp := b.hp
  have hf := b.fit
  have hn := b.hn
  have hxn := g.fits
  have ho : ∀ j, ¬ (p ≤ j ∧ j < p + n + 3) → F j = f j := fun j hj => by rw [g.words]; exact alloc_out f p n x j hxn hj
  have hA : Seg F N 0 A p := a.congr fun j _ hj => ho j (by omega)
  have hB : Seg F N (p + n + 3) B N := c.congr fun j hj _ => ho j (by omega)
  unfold news
  by_cases h4 : x + 4 ≤ n
  · rw [if_pos h4]
    have hw : F = layF (layF f (p + x + 3) (n - x - 3) false) p x true := by rw [g.words]; unfold allocF; rw [if_pos h4]
    refine ⟨Seg.app.2 ⟨p, hA, rfl, ?_, rfl, ?_, ?_⟩, ?_⟩
    · rw [hw]; exact lay_blk _ N p x true hp hx (by omega) (by omega)
    · rw [hw]; exact (lay_blk f N (p + x + 3) (n - x - 3) false (by omega) (by omega) (by omega) (by omega)).congr fun j h1 h2 => lay_out _ _ _ _ _ (by omega)
    · dsimp only; rw [show p + x + 3 + (n - x - 3) + 3 = p + n + 3 by omega]; exact hB
    · rw [alt_app, d, e]; simp only [List.cons_append, List.nil_append, alt]; simp [k]
  · rw [if_neg h4]
    have hw : F = layF f p n true := by rw [g.words]; unfold allocF; rw [if_neg h4]
    refine ⟨Seg.app.2 ⟨p, hA, rfl, ?_, hB⟩, ?_⟩
    · rw [hw]; exact lay_blk _ N p n true hp b.h1 hn hf
    · rw [alt_app, d, e]; simp only [List.cons_append, List.nil_append, alt]; simp [alt_less k]
theorem AllocG.whole {f F : Nat → Int} {N x p n : Nat} {A B : List (Nat × Nat × Bool)} (g : AllocG f N x F p A n B) (hW : Whole f N) (hN : N ≤ 4000) (hx : 1 ≤ x) : Whole F N ∧ bk F N 0 = A ++ (news p n x ++ B) := by
  obtain ⟨h1, h2⟩ := g.seg hW hN hx
  exact ⟨whole_of h1 h2, h1.all⟩
/-- How many words the given block has. -/
def got (n x : Nat) : Nat := if x + 4 ≤ n then x else n
theorem got_mem (p n x : Nat) : (p, got n x, true) ∈ news p n x := by unfold got news; split <;> simp
theorem got_le (n x : Nat) (h : x ≤ n) : x ≤ got n x ∧ got n x ≤ x + 3 ∧ got n x ≤ n := by unfold got; split <;> omega
theorem got_zero (f : Nat → Int) (p n x i : Nat) (hi : i < got n x) : allocF f p n x (p + 2 + i) = 0 := by
  unfold got at hi
  unfold allocF
  split at hi
  · rw [if_pos (by assumption)]; exact lay_zero _ p x i hi
  · rw [if_neg (by assumption)]; exact lay_zero _ p n i hi
theorem AllocR.whole {f F : Nat → Int} {N : Nat} {x p code : Int} (h : AllocR f N x F p code) (hN : N ≤ 4000) (hW : Whole f N) : Whole F N := by
  rcases h with ⟨_, h, _⟩ | ⟨_, _, _, _, e⟩ | ⟨_, _, _, _, _, e⟩ | ⟨_, _, q, y, A, n, B, _, _, h1, _, g⟩
  · exact absurd hW h
  · rw [e]; exact hW
  · rw [e]; exact hW
  · exact (g.whole hW hN h1).1
/-- The place that is given has a word, and is a used block's. -/
theorem AllocR.good {f F : Nat → Int} {N : Nat} {x p : Int} (h : AllocR f N x F p 0) (hN : N ≤ 4000) : ∃ q m : Nat, p = q ∧ 1 ≤ m ∧ q + m + 3 ≤ N ∧ Whole F N ∧ (q, m, true) ∈ bk F N 0 := by
  rcases h with ⟨e, _⟩ | ⟨e, _⟩ | ⟨e, _⟩ | ⟨_, hW, q, y, A, n, B, e1, e2, h1, _, g⟩
  · omega
  · omega
  · omega
  · obtain ⟨k1, k2⟩ := g.whole hW hN h1
    have hm : (q, got n y, true) ∈ bk F N 0 := by rw [k2]; exact List.mem_append_right _ (List.mem_append_left _ (got_mem _ _ _))
    have hg := got_le n y g.fits
    obtain ⟨s1, _⟩ := g.seg hW hN h1
    obtain ⟨_, t2, _⟩ := s1.mem (q, got n y, true) (List.mem_append_right _ (List.mem_append_left _ (got_mem _ _ _)))
    exact ⟨q, got n y, e1, by omega, t2, k1, hm⟩

/-- The block of n words at p was taken back: with what joins it there stands a free block of k words at q. -/
structure RelG (f : Nat → Int) (N p : Nat) (F : Nat → Int) (A A' : List (Nat × Nat × Bool)) (n : Nat) (B B' : List (Nat × Nat × Bool)) (q k : Nat) : Prop where
  all : bk f N 0 = A ++ (p, n, true) :: B
  ahead : (A = A' ∧ q = p ∧ lf false A = false) ∨ ∃ m, A = A' ++ [(q, m, false)]
  behind : (B = B' ∧ q + k + 3 = p + n + 3 ∧ alt true B = true) ∨ ∃ m, B = (p + n + 3, m, false) :: B' ∧ q + k + 3 = p + n + 3 + m + 3
  words : F = layF f q k false
def RelR (f : Nat → Int) (N : Nat) (x : Int) (F : Nat → Int) (code : Int) : Prop :=
  (code = 3 ∧ ¬ Whole f N ∧ F = f) ∨ (code = 2 ∧ Whole f N ∧ (∀ b ∈ bk f N 0, b.2.2 = true → (b.1 : Int) ≠ x) ∧ F = f) ∨
  (code = 0 ∧ Whole f N ∧ ∃ (p : Nat) (A A' : List (Nat × Nat × Bool)) (n : Nat) (B B' : List (Nat × Nat × Bool)) (q k : Nat), x = p ∧ RelG f N p F A A' n B B' q k)
theorem RelG.seg {f F : Nat → Int} {N p n q k : Nat} {A A' B B' : List (Nat × Nat × Bool)} (g : RelG f N p F A A' n B B' q k) (hW : Whole f N) (hN : N ≤ 4000) : Seg F N 0 (A' ++ (q, k, false) :: B') N ∧ alt false (A' ++ (q, k, false) :: B') = true ∧ Seg f N 0 A' q ∧ q ≤ p ∧ p + n + 3 ≤ q + k + 3 := by
  obtain ⟨h1, h2⟩ := whole_iff.1 hW
  rw [g.all] at h1 h2
  obtain ⟨a, b, c⟩ := h1.cut
  dsimp only at a b c
  rw [alt_app] at h2
  simp only [alt, Bool.and_eq_true, Bool.not_eq_true', Bool.and_eq_false_iff] at h2
  obtain ⟨d1, _, d2⟩ := h2
  have hb1 := b.h1
  have hbp := b.hp
  obtain ⟨sA, hq, aA⟩ : Seg f N 0 A' q ∧ q ≤ p ∧ (alt false A' = true ∧ lf false A' = false) := by
    rcases g.ahead with ⟨e1, e2, e3⟩ | ⟨m, e⟩
    · subst e1 e2; exact ⟨a, Nat.le_refl _, d1, e3⟩
    · rw [e] at a d1
      obtain ⟨s, hm, t⟩ := a.cut
      have := t.le
      rw [alt_app] at d1
      simp only [alt, Bool.and_eq_true, Bool.not_eq_true', Bool.and_eq_false_iff] at d1
      dsimp only at s this
      refine ⟨s, by omega, d1.1, ?_⟩
      cases hl : lf false A'
      · rfl
      · rw [hl] at d1; simp at d1
  obtain ⟨sB, hq2, aB⟩ : Seg f N (q + k + 3) B' N ∧ p + n + 3 ≤ q + k + 3 ∧ alt true B' = true := by
    rcases g.behind with ⟨e1, e2, e3⟩ | ⟨m, e, e2⟩
    · subst e1; rw [e2]; exact ⟨c, Nat.le_refl _, e3⟩
    · rw [e] at c d2
      obtain ⟨_, _, t⟩ := c
      rw [e2]
      simp only [alt, Bool.and_eq_true] at d2
      exact ⟨t, by omega, by simpa using d2.2⟩
  have hle := sB.le
  have ho : ∀ j, ¬ (q ≤ j ∧ j < q + k + 3) → F j = f j := fun j hj => by rw [g.words]; exact lay_out _ _ _ _ _ hj
  refine ⟨Seg.glue (sA.congr fun j _ hj => ho j (by omega)) ?_ (sB.congr fun j hj _ => ho j (by omega)), ?_, sA, hq, hq2⟩
  · rw [g.words]; exact lay_blk f N q k false (by omega) (by omega) (by omega) (by omega)
  · rw [alt_app, aA.1, aA.2]; simp only [alt]; simp [aB]
theorem RelR.whole {f F : Nat → Int} {N : Nat} {x code : Int} (h : RelR f N x F code) (hN : N ≤ 4000) (hW : Whole f N) : Whole F N := by
  rcases h with ⟨_, h, _⟩ | ⟨_, _, _, e⟩ | ⟨_, _, p, A, A', n, B, B', q, k, _, g⟩
  · exact absurd hW h
  · rw [e]; exact hW
  · obtain ⟨h1, h2, _⟩ := g.seg hW hN
    exact whole_of h1 h2
theorem rel_make {f : Nat → Int} {N p n m : Nat} (hW : Whole f N) (hm : m < (bk f N 0).length) (hp : (bls f N 0).getD m 0 = p) (hB : blkO f N p = some (n, true)) {Q k : Nat}
    (ha : (Q = p ∧ (m = 0 ∨ ∃ j n1 p1, m = j + 1 ∧ (bls f N 0).getD j 0 = p1 ∧ blkO f N p1 = some (n1, true))) ∨ ∃ j n1, m = j + 1 ∧ (bls f N 0).getD j 0 = Q ∧ blkO f N Q = some (n1, false))
    (hb : (Q + k + 3 = p + n + 3 ∧ (¬ m + 1 < (bk f N 0).length ∨ ∃ n2, blkO f N (p + n + 3) = some (n2, true))) ∨ ∃ n2, blkO f N (p + n + 3) = some (n2, false) ∧ Q + k + 3 = p + n + 3 + n2 + 3) :
    ∃ A A' B B', RelG f N p (layF f Q k false) A A' n B B' Q k := by
  obtain ⟨p', n', u', e1, e2, e3, _, _⟩ := bk_nth f N m hm
  rw [hp] at e1
  subst e1
  rw [hB] at e2
  simp only [Option.some.injEq, Prod.mk.injEq] at e2
  obtain ⟨rfl, rfl⟩ := e2
  have hall : bk f N 0 = (bk f N 0).take m ++ (p, n, true) :: (bk f N 0).drop (m + 1) := by
    have e := List.take_append_drop (m + 1) (bk f N 0)
    rw [e3, List.append_assoc] at e
    exact e.symm
  obtain ⟨w1, w2⟩ := whole_iff.1 hW
  rw [hall] at w1 w2
  obtain ⟨_, _, sB⟩ := w1.cut
  rw [alt_app] at w2
  simp only [alt, Bool.and_eq_true, Bool.not_true] at w2
  have aB : alt false ((bk f N 0).drop (m + 1)) = true := w2.2.2
  dsimp only at sB
  have hA : ∃ A', ((bk f N 0).take m = A' ∧ Q = p ∧ lf false ((bk f N 0).take m) = false) ∨ ∃ m1, (bk f N 0).take m = A' ++ [(Q, m1, false)] := by
    rcases ha with ⟨h1, h2 | ⟨j, n1, p1, h2, h3, h4⟩⟩ | ⟨j, n1, h2, h3, h4⟩
    · exact ⟨_, .inl ⟨rfl, h1, by subst h2; rfl⟩⟩
    · obtain ⟨p'', n'', u'', f1, f2, f3, _, _⟩ := bk_nth f N j (by omega)
      rw [h3] at f1
      subst f1
      rw [h4] at f2
      simp only [Option.some.injEq, Prod.mk.injEq] at f2
      exact ⟨_, .inl ⟨rfl, h1, by rw [h2, f3, lf_snoc, ← f2.2]; rfl⟩⟩
    · obtain ⟨p'', n'', u'', f1, f2, f3, _, _⟩ := bk_nth f N j (by omega)
      rw [h3] at f1
      subst f1
      rw [h4] at f2
      simp only [Option.some.injEq, Prod.mk.injEq] at f2
      exact ⟨(bk f N 0).take j, .inr ⟨n'', by rw [h2, f3, ← f2.2]⟩⟩
  have hBB : ∃ B', ((bk f N 0).drop (m + 1) = B' ∧ Q + k + 3 = p + n + 3 ∧ alt true ((bk f N 0).drop (m + 1)) = true) ∨ ∃ m2, (bk f N 0).drop (m + 1) = (p + n + 3, m2, false) :: B' ∧ Q + k + 3 = p + n + 3 + m2 + 3 := by
    rcases hb with ⟨h1, h2 | ⟨n2, h2⟩⟩ | ⟨n2, h2, h3⟩
    · exact ⟨_, .inl ⟨rfl, h1, by rw [List.drop_eq_nil_of_le (by omega)]; rfl⟩⟩
    · refine ⟨_, .inl ⟨rfl, h1, ?_⟩⟩
      cases hd : (bk f N 0).drop (m + 1) with
      | nil => rfl
      | cons b B =>
        rw [hd] at sB aB
        obtain ⟨_, s2, _⟩ := sB
        have := (s2.uniq (blkO_of h2)).2
        simp only [alt, this] at aB ⊢
        simpa using aB
    · cases hd : (bk f N 0).drop (m + 1) with
      | nil =>
        rw [hd] at sB
        have s : p + n + 3 = N := sB
        have := (blkO_of h2).fit
        omega
      | cons b B =>
        rw [hd] at sB
        obtain ⟨s1, s2, _⟩ := sB
        obtain ⟨u1, u2⟩ := s2.uniq (blkO_of h2)
        obtain ⟨b1, b2, b3⟩ := b
        dsimp only at s1 u1 u2
        subst s1 u1 u2
        exact ⟨B, .inr ⟨_, rfl, h3⟩⟩
  obtain ⟨A', hA⟩ := hA
  obtain ⟨B', hBB⟩ := hBB
  exact ⟨_, A', _, B', hall, hA, hBB, rfl⟩
/-- A new arena is whole. -/
theorem fresh_seg (n : Nat) (h4 : 4 ≤ n) (hn : n ≤ 4000) : Seg (freshF n) n 0 [(0, n - 3, false)] n := by
  have hb := lay_blk (fun _ => 0) n 0 (n - 3) false (by omega) (by omega) (by omega) (by omega)
  exact ⟨rfl, hb, by show 0 + (n - 3) + 3 = n; omega⟩
theorem fresh_whole (n : Nat) (h4 : 4 ≤ n) (hn : n ≤ 4000) : Whole (freshF n) n := whole_of (fresh_seg n h4 hn) rfl
end Go.Proofs.Ytmongbpdbcbhlaa
