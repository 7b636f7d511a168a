/-
  The blocks of an arena as a list: what an audit that finds nothing says; what a block that is laid, and a word that a holder writes, leave.
-/
import Derived.Test.YtmongbpdbcbhlaaAuA
namespace Go.Proofs.Ytmongbpdbcbhlaa
open Go.RowKit
set_option linter.unusedVariables false

/-- The blocks from p on: place, words for the holder, used. -/
noncomputable def bk (f : Nat → Int) (N : Nat) (p : Nat) : List (Nat × Nat × Bool) :=
  if p < N then (if (blkO f N p).isSome then (p, (blkO f N p).elim 0 (·.1), (blkO f N p).elim false (·.2)) :: bk f N (p + (blkO f N p).elim 0 (·.1) + 3) else []) else []
termination_by N - p
theorem bk_cons {f : Nat → Int} {N p n : Nat} {u : Bool} (h : blkO f N p = some (n, u)) : bk f N p = (p, n, u) :: bk f N (p + n + 3) := by
  have hf := (blkO_of h).fit
  rw [bk, if_pos (by omega), h]
  simp
theorem bk_nil {f : Nat → Int} {N p : Nat} (h : blkO f N p = none) : bk f N p = [] := by
  rw [bk, h]
  simp
theorem bls_bk (f : Nat → Int) (N : Nat) : ∀ k p, N - p ≤ k → bls f N p = (bk f N p).map (·.1) := by
  intro k
  induction k with
  | zero => intro p h; rw [bls_nil (blkO_end (by omega)), bk_nil (blkO_end (by omega))]; rfl
  | succ k ih =>
    intro p h
    cases hB : blkO f N p with
    | none => rw [bls_nil hB, bk_nil hB]; rfl
    | some x =>
      obtain ⟨n, u⟩ := x
      rw [bls_cons hB, bk_cons hB, List.map_cons, ih _ (by omega)]
theorem bls_facts' (f : Nat → Int) (N : Nat) : ∀ k p, N - p ≤ k → (bls f N p).length * 4 ≤ N - p := by
  intro k
  induction k with
  | zero => intro p h; rw [bls_nil (blkO_end (by omega))]; simp
  | succ k ih =>
    intro p h
    cases hB : blkO f N p with
    | none => rw [bls_nil hB]; simp
    | some x =>
      obtain ⟨n, u⟩ := x
      have h1 := (blkO_of hB).fit
      have h2 := (blkO_of hB).h1
      have i2 := ih (p + n + 3) (by omega)
      rw [bls_cons hB, List.length_cons]; omega
theorem bls_is (f : Nat → Int) (N : Nat) : bls f N 0 = (bk f N 0).map (·.1) := bls_bk f N N 0 (by omega)

/-- The blocks L stand one behind the other from p to q. -/
def Seg (f : Nat → Int) (N : Nat) : Nat → List (Nat × Nat × Bool) → Nat → Prop
  | p, [], q => p = q
  | p, b :: L, q => b.1 = p ∧ Blk f N p b.2.1 b.2.2 ∧ Seg f N (p + b.2.1 + 3) L q

theorem Seg.app {f : Nat → Int} {N : Nat} : ∀ {A : List (Nat × Nat × Bool)} {p : Nat} {B : List (Nat × Nat × Bool)} {q : Nat}, Seg f N p (A ++ B) q ↔ ∃ m, Seg f N p A m ∧ Seg f N m B q
  | [], p, B, q => ⟨fun h => ⟨p, rfl, h⟩, fun ⟨m, e, h⟩ => by cases e; exact h⟩
  | b :: A, p, B, q => by
    constructor
    · rintro ⟨h1, h2, h3⟩
      obtain ⟨m, h4, h5⟩ := Seg.app.1 h3
      exact ⟨m, ⟨h1, h2, h4⟩, h5⟩
    · rintro ⟨m, ⟨h1, h2, h4⟩, h5⟩
      exact ⟨h1, h2, Seg.app.2 ⟨m, h4, h5⟩⟩
theorem Seg.le {f : Nat → Int} {N : Nat} : ∀ {L : List (Nat × Nat × Bool)} {p q : Nat}, Seg f N p L q → p ≤ q
  | [], p, q, h => Nat.le_of_eq h
  | b :: L, p, q, ⟨_, _, h⟩ => by have := h.le; omega
/-- Each block of L has its words between p and q. -/
theorem Seg.mem {f : Nat → Int} {N : Nat} : ∀ {L : List (Nat × Nat × Bool)} {p q : Nat}, Seg f N p L q → ∀ b ∈ L, p ≤ b.1 ∧ b.1 + b.2.1 + 3 ≤ q ∧ Blk f N b.1 b.2.1 b.2.2
  | [], p, q, _, b, hb => by cases hb
  | c :: L, p, q, ⟨h1, h2, h3⟩, b, hb => by
    rcases List.mem_cons.1 hb with rfl | hb
    · rw [h1]; exact ⟨Nat.le_refl _, h3.le, h2⟩
    · obtain ⟨a1, a2, a3⟩ := h3.mem b hb
      exact ⟨by omega, a2, a3⟩
theorem Blk.congr {f F : Nat → Int} {N p n : Nat} {u : Bool} (h : Blk f N p n u) (e : ∀ j, p ≤ j → j < p + n + 3 → F j = f j) : Blk F N p n u :=
  ⟨h.hp, h.h1, h.hn, h.fit, by rw [e _ (by omega) (by have := h.h1; omega)]; exact h.len, by rw [e _ (by omega) (by omega)]; exact h.ahead, by rw [e _ (by omega) (by omega)]; exact h.behind,
    fun hu i hi => by rw [e _ (by omega) (by omega)]; exact h.free hu i hi⟩
theorem Blk.used {f F : Nat → Int} {N p n : Nat} (h : Blk f N p n true) (e0 : F p = f p) (e1 : F (p + 1) = f (p + 1)) (e2 : F (p + 2 + n) = f (p + 2 + n)) : Blk F N p n true :=
  ⟨h.hp, h.h1, h.hn, h.fit, by rw [e1]; exact h.len, by rw [e0]; exact h.ahead, by rw [e2]; exact h.behind, fun hu => by cases hu⟩
theorem Seg.congr {f F : Nat → Int} {N : Nat} : ∀ {L : List (Nat × Nat × Bool)} {p q : Nat}, Seg f N p L q → (∀ j, p ≤ j → j < q → F j = f j) → Seg F N p L q
  | [], p, q, h, _ => h
  | b :: L, p, q, ⟨h1, h2, h3⟩, e => by
    have := h3.le
    exact ⟨h1, h2.congr fun j a c => e j a (by omega), h3.congr fun j a c => e j (by omega) c⟩
theorem Seg.bk {f : Nat → Int} {N : Nat} : ∀ {L : List (Nat × Nat × Bool)} {p q : Nat}, Seg f N p L q → bk f N p = L ++ Go.Proofs.Ytmongbpdbcbhlaa.bk f N q
  | [], p, q, h => by cases h; rfl
  | b :: L, p, q, ⟨h1, h2, h3⟩ => by
    rw [bk_cons (blkO_some h2), h3.bk, ← h1]; rfl
theorem bk_seg (f : Nat → Int) (N : Nat) : ∀ k p, N - p ≤ k → ∃ q, Seg f N p (bk f N p) q ∧ blkO f N q = none := by
  intro k
  induction k with
  | zero => intro p h; rw [bk_nil (blkO_end (by omega))]; exact ⟨p, rfl, blkO_end (by omega)⟩
  | succ k ih =>
    intro p h
    cases hB : blkO f N p with
    | none => rw [bk_nil hB]; exact ⟨p, rfl, hB⟩
    | some x =>
      obtain ⟨n, u⟩ := x
      obtain ⟨q, h1, h2⟩ := ih (p + n + 3) (by omega)
      rw [bk_cons hB]
      exact ⟨q, ⟨rfl, blkO_of hB, h1⟩, h2⟩
theorem bk_all (f : Nat → Int) (N : Nat) : ∃ q, Seg f N 0 (bk f N 0) q ∧ blkO f N q = none := bk_seg f N N 0 (by omega)
theorem bk_end (f : Nat → Int) (N : Nat) : bk f N N = [] := bk_nil (blkO_end (by omega))

/-- No two free ones side by side (behind a free one, or not). -/
def alt : Bool → List (Nat × Nat × Bool) → Bool
  | _, [] => true
  | fr, b :: L => !(fr && !b.2.2) && alt (!b.2.2) L
/-- Is what stands behind these behind a free one? -/
def lf : Bool → List (Nat × Nat × Bool) → Bool
  | fr, [] => fr
  | _, b :: L => lf (!b.2.2) L
theorem alt_app (fr : Bool) : ∀ (A B : List (Nat × Nat × Bool)), alt fr (A ++ B) = (alt fr A && alt (lf fr A) B) := by
  intro A
  induction A generalizing fr with
  | nil => intro B; simp [alt, lf]
  | cons b A ih => intro B; simp [alt, lf, ih, Bool.and_assoc]
theorem lf_snoc (fr : Bool) : ∀ (A : List (Nat × Nat × Bool)) b, lf fr (A ++ [b]) = !b.2.2 := by
  intro A
  induction A generalizing fr with
  | nil => intro b; rfl
  | cons a A ih => intro b; exact ih _ b
theorem alt_less {L : List (Nat × Nat × Bool)} (h : alt true L = true) : alt false L = true := by
  cases L with
  | nil => rfl
  | cons b L => simp [alt] at h ⊢; exact h.2

theorem aud_seg {f : Nat → Int} {N : Nat} : ∀ {L : List (Nat × Nat × Bool)} {p : Nat} {fr : Bool}, Seg f N p L N → alt fr L = true → aud f N p fr = -1
  | [], p, fr, h, _ => aud_end (by cases h; omega)
  | b :: L, p, fr, ⟨h1, h2, h3⟩, ha => by
    have hf := h2.fit
    simp only [alt, Bool.and_eq_true, Bool.not_eq_true'] at ha
    rw [aud_on (n := b.2.1) (u := b.2.2) (by omega) (blkO_some h2) ha.1]
    exact aud_seg h3 ha.2
theorem seg_aud {f : Nat → Int} {N : Nat} : ∀ k p fr, N - p ≤ k → p ≤ N → aud f N p fr = -1 → ∃ L, Seg f N p L N ∧ alt fr L = true := by
  intro k
  induction k with
  | zero => intro p fr h hp _; exact ⟨[], by show p = N; omega, rfl⟩
  | succ k ih =>
    intro p fr h hp ha
    by_cases hlt : p < N
    · cases hB : blkO f N p with
      | none => rw [aud_none hlt hB] at ha; omega
      | some x =>
        obtain ⟨n, u⟩ := x
        have hf := (blkO_of hB).fit
        cases hk : (fr && !u) with
        | true =>
          have h1 : fr = true := by cases fr <;> simp_all
          have h2 : u = false := by cases u <;> simp_all
          subst h1 h2
          rw [aud_two hlt hB] at ha
          omega
        | false =>
          rw [aud_on hlt hB hk] at ha
          obtain ⟨L, h1, h2⟩ := ih (p + n + 3) (!u) (by omega) (by omega) ha
          exact ⟨(p, n, u) :: L, ⟨rfl, blkO_of hB, h1⟩, by simp [alt, hk, h2]⟩
    · exact ⟨[], by show p = N; omega, rfl⟩
/-- An audit finds nothing. -/
def Whole (f : Nat → Int) (N : Nat) : Prop := aud f N 0 false = -1
theorem whole_iff {f : Nat → Int} {N : Nat} : Whole f N ↔ Seg f N 0 (bk f N 0) N ∧ alt false (bk f N 0) = true := by
  constructor
  · intro h
    obtain ⟨L, h1, h2⟩ := seg_aud N 0 false (by omega) (by omega) h
    have e : bk f N 0 = L := by rw [h1.bk, bk_end, List.append_nil]
    rw [e]; exact ⟨h1, h2⟩
  · rintro ⟨h1, h2⟩
    exact aud_seg h1 h2
theorem whole_of {f : Nat → Int} {N : Nat} {L : List (Nat × Nat × Bool)} (h1 : Seg f N 0 L N) (h2 : alt false L = true) : Whole f N := aud_seg h1 h2
theorem Seg.all {f : Nat → Int} {N : Nat} {L : List (Nat × Nat × Bool)} (h1 : Seg f N 0 L N) : Go.Proofs.Ytmongbpdbcbhlaa.bk f N 0 = L := by rw [h1.bk, bk_end, List.append_nil]

/-- A block that is laid. -/
theorem lay_out (f : Nat → Int) (p n : Nat) (u : Bool) (j : Nat) (h : ¬ (p ≤ j ∧ j < p + n + 3)) : layF f p n u j = f j := by
  unfold layF upd midF; (try dsimp only); rw [if_neg (by omega), if_neg (by omega), if_neg (by omega), if_neg (by omega)]
theorem lay_blk (f : Nat → Int) (N p n : Nat) (u : Bool) (hp : p ≤ 4000) (h1 : 1 ≤ n) (hn : n ≤ 4000) (hf : p + n + 3 ≤ N) : Blk (layF f p n u) N p n u := by
  refine ⟨hp, h1, hn, hf, ?_, ?_, ?_, fun hu i hi => ?_⟩
  · unfold layF upd midF; (try dsimp only); rw [if_neg (by omega), if_neg (by omega), if_pos rfl]
  · unfold layF upd midF; (try dsimp only); rw [if_neg (by omega), if_pos rfl]
  · unfold layF upd; (try dsimp only); rw [if_pos rfl]
  · unfold layF upd midF; (try dsimp only); rw [if_neg (by omega), if_neg (by omega), if_neg (by omega), if_pos (by omega), hu]; rfl
theorem lay_zero (f : Nat → Int) (p n i : Nat) (hi : i < n) : layF f p n true (p + 2 + i) = 0 := by
  unfold layF upd midF; (try dsimp only); rw [if_neg (by omega), if_neg (by omega), if_neg (by omega), if_pos (by omega)]; rfl
/-- A free block is what it would be laid. -/
theorem lay_free {f : Nat → Int} {N p n : Nat} (h : Blk f N p n false) (g : Nat → Int) (e : ∀ j, ¬ (p ≤ j ∧ j < p + n + 3) → g j = f j) : ∀ j, layF g p n false j = f j := by
  intro j
  by_cases hj : p ≤ j ∧ j < p + n + 3
  · by_cases a : j = p + 2 + n
    · subst a; unfold layF upd; (try dsimp only); rw [if_pos rfl]; exact h.behind.symm
    · by_cases b : j = p
      · subst b; unfold layF upd midF; (try dsimp only); rw [if_neg a, if_pos rfl]; exact h.ahead.symm
      · by_cases c : j = p + 1
        · subst c; unfold layF upd midF; (try dsimp only); rw [if_neg a, if_neg b, if_pos rfl]; exact h.len.symm
        · unfold layF upd midF; (try dsimp only); rw [if_neg a, if_neg b, if_neg c, if_pos (by omega)]
          have := h.free rfl (j - (p + 2)) (by omega)
          rw [show p + 2 + (j - (p + 2)) = j by omega] at this
          rw [this]; rfl
  · rw [lay_out _ _ _ _ _ hj, e j hj]

/-- A block among all of them: what stands ahead of it and behind it. -/
theorem split_at {L : List (Nat × Nat × Bool)} {b : Nat × Nat × Bool} (h : b ∈ L) : ∃ A B, L = A ++ b :: B := List.append_of_mem h
theorem Seg.cut {f : Nat → Int} {N p q : Nat} {A B : List (Nat × Nat × Bool)} {b : Nat × Nat × Bool} (h : Seg f N p (A ++ b :: B) q) : Seg f N p A b.1 ∧ Blk f N b.1 b.2.1 b.2.2 ∧ Seg f N (b.1 + b.2.1 + 3) B q := by
  obtain ⟨m, h1, h2, h3, h4⟩ := Seg.app.1 h
  subst h2
  exact ⟨h1, h3, h4⟩
theorem Seg.glue {f : Nat → Int} {N p q : Nat} {A B : List (Nat × Nat × Bool)} {b : Nat × Nat × Bool} (h1 : Seg f N p A b.1) (h2 : Blk f N b.1 b.2.1 b.2.2) (h3 : Seg f N (b.1 + b.2.1 + 3) B q) : Seg f N p (A ++ b :: B) q :=
  Seg.app.2 ⟨b.1, h1, rfl, h2, h3⟩

/-- A word of a used block's holder is written: the blocks are the same. -/
theorem write_seg {f F : Nat → Int} {N q : Nat} {L : List (Nat × Nat × Bool)} {p n i : Nat} (h : Seg f N 0 L q) (hb : (p, n, true) ∈ L) (hi : i < n) (e : ∀ j, j ≠ p + 2 + i → F j = f j) : Seg F N 0 L q := by
  obtain ⟨A, B, rfl⟩ := split_at hb
  obtain ⟨h1, h2, h3⟩ := h.cut
  have hl := h3.le
  dsimp only at h1 h2 h3 hl
  exact Seg.glue (h1.congr fun j _ a => e j (by omega)) (h2.used (e _ (by omega)) (e _ (by omega)) (e _ (by omega))) (h3.congr fun j a _ => e j (by omega))
theorem write_none {f F : Nat → Int} {N q : Nat} {L : List (Nat × Nat × Bool)} {p n i : Nat} (h : Seg f N 0 L q) (hb : (p, n, true) ∈ L) (hi : i < n) (e : ∀ j, j ≠ p + 2 + i → F j = f j) (hq : blkO f N q = none) : blkO F N q = none := by
  obtain ⟨a1, a2, _⟩ := h.mem _ hb
  dsimp only at a1 a2
  refine blkO_none fun n' u hB => ?_
  have hc : Blk f N q n' u := hB.congr fun j h1 _ => (e j (by omega)).symm
  rw [blkO_some hc] at hq
  cases hq
theorem write_bk {f F : Nat → Int} {N : Nat} {p n i : Nat} (hb : (p, n, true) ∈ bk f N 0) (hi : i < n) (e : ∀ j, j ≠ p + 2 + i → F j = f j) : bk F N 0 = bk f N 0 := by
  obtain ⟨q, h1, h2⟩ := bk_all f N
  rw [(write_seg h1 hb hi e).bk, bk_nil (write_none h1 hb hi e h2), List.append_nil]
theorem write_whole {f F : Nat → Int} {N : Nat} {p n i : Nat} (h : Whole f N) (hb : (p, n, true) ∈ bk f N 0) (hi : i < n) (e : ∀ j, j ≠ p + 2 + i → F j = f j) : Whole F N := by
  obtain ⟨h1, h2⟩ := whole_iff.1 h
  exact whole_of (write_seg h1 hb hi e) h2
/-- The audit goes by the blocks alone. -/
theorem aud_bk {f F : Nat → Int} {N : Nat} : ∀ k p fr, N - p ≤ k → bk F N p = bk f N p → aud F N p fr = aud f N p fr := by
  intro k
  induction k with
  | zero => intro p fr h _; rw [aud_end (by omega), aud_end (by omega)]
  | succ k ih =>
    intro p fr h e
    by_cases hlt : p < N
    · cases hB : blkO f N p with
      | none =>
        rw [bk_nil hB] at e
        cases hC : blkO F N p with
        | none => rw [aud_none hlt hB, aud_none hlt hC]
        | some x => rw [bk_cons (n := x.1) (u := x.2) hC] at e; cases e
      | some x =>
        obtain ⟨n, u⟩ := x
        rw [bk_cons hB] at e
        cases hC : blkO F N p with
        | none => rw [bk_nil hC] at e; cases e
        | some y =>
          obtain ⟨m, v⟩ := y
          rw [bk_cons hC] at e
          injection e with e1 e2
          simp only [Prod.mk.injEq, true_and] at e1
          obtain ⟨rfl, rfl⟩ := e1
          cases hk : (fr && !v) with
          | true =>
            have h1 : fr = true := by cases fr <;> simp_all
            have h2 : v = false := by cases v <;> simp_all
            subst h1 h2
            rw [aud_two hlt hB, aud_two hlt hC]
          | false =>
            rw [aud_on hlt hB hk, aud_on hlt hC hk]
            exact ih _ _ (by omega) e2
    · rw [aud_end hlt, aud_end hlt]
/-- The m-th of all blocks. -/
theorem bk_nth (f : Nat → Int) (N m : Nat) (h : m < (bk f N 0).length) : ∃ p n u, (bls f N 0).getD m 0 = p ∧ blkO f N p = some (n, u) ∧ (bk f N 0).take (m + 1) = (bk f N 0).take m ++ [(p, n, u)] ∧ n ≤ 4000 ∧ p + n + 3 ≤ N := by
  obtain ⟨q, h1, _⟩ := bk_all f N
  obtain ⟨_, _, h4⟩ := h1.mem _ (List.getElem_mem h)
  refine ⟨(bk f N 0)[m].1, (bk f N 0)[m].2.1, (bk f N 0)[m].2.2, ?_, blkO_some h4, List.take_succ_eq_append_getElem h, h4.hn, h4.fit⟩
  rw [bls_is, List.getD_eq_getElem?_getD, List.getElem?_map, List.getElem?_eq_getElem h]; rfl
theorem bk_len (f : Nat → Int) (N : Nat) : (bls f N 0).length = (bk f N 0).length := by rw [bls_is, List.length_map]
theorem bk_len4 (f : Nat → Int) (N : Nat) : (bk f N 0).length * 4 ≤ N := by have := bls_facts' f N N 0 (by omega); rw [bk_len] at this; omega


def isFree (b : Nat × Nat × Bool) : Bool := !b.2.2
noncomputable def fk (f : Nat → Int) (N : Nat) : List (Nat × Nat × Bool) := (bk f N 0).filter isFree
/-- How many words they have, in all. -/
def fsum (l : List (Nat × Nat × Bool)) : Nat := (l.map (·.2.1)).sum
/-- The places of those that are used. -/
def usd (l : List (Nat × Nat × Bool)) : List Nat := (l.filter (·.2.2)).map (·.1)
theorem usd_snoc_t (l : List (Nat × Nat × Bool)) (p n : Nat) : usd (l ++ [(p, n, true)]) = usd l ++ [p] := by simp [usd]
theorem usd_snoc_f (l : List (Nat × Nat × Bool)) (p n : Nat) : usd (l ++ [(p, n, false)]) = usd l := by simp [usd]
theorem usd_len (l : List (Nat × Nat × Bool)) : (usd l).length ≤ l.length := by unfold usd; rw [List.length_map]; exact List.length_filter_le _ _
end Go.Proofs.Ytmongbpdbcbhlaa
