/-
  The program's iterator over the free blocks, which goes over the one over all blocks.
  (Ahead of it, in this text: The blocks of an arena as a list: what an audit that finds nothing says; what a block that is laid, and a word that a holder writes, leave. The program's iterator over all blocks: what it hands to whatever loop stands over it. A loop over an iterator that itself loops over an iterator: the contract asks more of what is kept (whatever is no cells and lies at or beyond the call's start may turn), and the loop pays it.)
-/
import Derived.Test.YtdglefedbkgghaaV5
import Derived.RangeFuncNested
import Derived.RangeFuncBound
import Derived.RangeFuncCalls
import Derived.RangeFuncLeaves
import Derived.Shelf.Abstract
import Derived.Shelf.RegionOpen
import Derived.OwnWalkIn
import Derived.TacticsInMore
import Derived.LoopNIn
import Derived.LoopIn
namespace Go.Proofs.Ytdglefedbkgghaa
open Go.RowKit
set_option linter.unusedVariables false

/-- The blocks from p on: place, words for the holder, used. -/
noncomputable def bk (f : Nat → Int) (N : Nat) (p : Nat) : List (Nat × Nat × Bool) :=
  if p < N then (if (blkO f N p).isSome then (p, (blkO f N p).elim 0 (·.1), (blkO f N p).elim false (·.2)) :: bk f N (p + (blkO f N p).elim 0 (·.1) + 3) else []) else []
termination_by N - p
theorem bk_cons {f : Nat → Int} {N p n : Nat} {u : Bool} (h : blkO f N p = some (n, u)) : bk f N p = (p, n, u) :: bk f N (p + n + 3) := by
  have hf := (blkO_of h).fit
  rw [bk, if_pos (by omega), h]
  simp
theorem bk_nil {f : Nat → Int} {N p : Nat} (h : blkO f N p = none) : bk f N p = [] := by
  rw [bk, h]
  simp
theorem bls_bk (f : Nat → Int) (N : Nat) : ∀ k p, N - p ≤ k → bls f N p = (bk f N p).map (·.1) := by
  intro k
  induction k with
  | zero => intro p h; rw [bls_nil (blkO_end (by omega)), bk_nil (blkO_end (by omega))]; rfl
  | succ k ih =>
    intro p h
    cases hB : blkO f N p with
    | none => rw [bls_nil hB, bk_nil hB]; rfl
    | some x =>
      obtain ⟨n, u⟩ := x
      rw [bls_cons hB, bk_cons hB, List.map_cons, ih _ (by omega)]
theorem bls_facts' (f : Nat → Int) (N : Nat) : ∀ k p, N - p ≤ k → (bls f N p).length * 4 ≤ N - p := by
  intro k
  induction k with
  | zero => intro p h; rw [bls_nil (blkO_end (by omega))]; simp
  | succ k ih =>
    intro p h
    cases hB : blkO f N p with
    | none => rw [bls_nil hB]; simp
    | some x =>
      obtain ⟨n, u⟩ := x
      have h1 := (blkO_of hB).fit
      have h2 := (blkO_of hB).h1
      have i2 := ih (p + n + 3) (by omega)
      rw [bls_cons hB, List.length_cons]; omega
theorem bls_is (f : Nat → Int) (N : Nat) : bls f N 0 = (bk f N 0).map (·.1) := bls_bk f N N 0 (by omega)

/-- The blocks L stand one behind the other from p to q. -/
def Seg (f : Nat → Int) (N : Nat) : Nat → List (Nat × Nat × Bool) → Nat → Prop
  | p, [], q => p = q
  | p, b :: L, q => b.1 = p ∧ Blk f N p b.2.1 b.2.2 ∧ Seg f N (p + b.2.1 + 3) L q

theorem Seg.app {f : Nat → Int} {N : Nat} : ∀ {A : List (Nat × Nat × Bool)} {p : Nat} {B : List (Nat × Nat × Bool)} {q : Nat}, Seg f N p (A ++ B) q ↔ ∃ m, Seg f N p A m ∧ Seg f N m B q
  | [], p, B, q => ⟨fun h => ⟨p, rfl, h⟩, fun ⟨m, e, h⟩ => by cases e; exact h⟩
  | b :: A, p, B, q => by
    constructor
    · rintro ⟨h1, h2, h3⟩
      obtain ⟨m, h4, h5⟩ := Seg.app.1 h3
      exact ⟨m, ⟨h1, h2, h4⟩, h5⟩
    · rintro ⟨m, ⟨h1, h2, h4⟩, h5⟩
      exact ⟨h1, h2, Seg.app.2 ⟨m, h4, h5⟩⟩
theorem Seg.le {f : Nat → Int} {N : Nat} : ∀ {L : List (Nat × Nat × Bool)} {p q : Nat}, Seg f N p L q → p ≤ q
  | [], p, q, h => Nat.le_of_eq h
  | b :: L, p, q, ⟨_, _, h⟩ => by have := h.le; omega
/-- Each block of L has its words between p and q. -/
theorem Seg.mem {f : Nat → Int} {N : Nat} : ∀ {L : List (Nat × Nat × Bool)} {p q : Nat}, Seg f N p L q → ∀ b ∈ L, p ≤ b.1 ∧ b.1 + b.2.1 + 3 ≤ q ∧ Blk f N b.1 b.2.1 b.2.2
  | [], p, q, _, b, hb => by cases hb
  | c :: L, p, q, ⟨h1, h2, h3⟩, b, hb => by
    rcases List.mem_cons.1 hb with rfl | hb
    · rw [h1]; exact ⟨Nat.le_refl _, h3.le, h2⟩
    · obtain ⟨a1, a2, a3⟩ := h3.mem b hb
      exact ⟨by omega, a2, a3⟩
theorem Blk.congr {f F : Nat → Int} {N p n : Nat} {u : Bool} (h : Blk f N p n u) (e : ∀ j, p ≤ j → j < p + n + 3 → F j = f j) : Blk F N p n u :=
  ⟨h.hp, h.h1, h.hn, h.fit, by rw [e _ (by omega) (by have := h.h1; omega)]; exact h.len, by rw [e _ (by omega) (by omega)]; exact h.ahead, by rw [e _ (by omega) (by omega)]; exact h.behind,
    fun hu i hi => by rw [e _ (by omega) (by omega)]; exact h.free hu i hi⟩
theorem Blk.used {f F : Nat → Int} {N p n : Nat} (h : Blk f N p n true) (e0 : F p = f p) (e1 : F (p + 1) = f (p + 1)) (e2 : F (p + 2 + n) = f (p + 2 + n)) : Blk F N p n true :=
  ⟨h.hp, h.h1, h.hn, h.fit, by rw [e1]; exact h.len, by rw [e0]; exact h.ahead, by rw [e2]; exact h.behind, fun hu => by cases hu⟩
theorem Seg.congr {f F : Nat → Int} {N : Nat} : ∀ {L : List (Nat × Nat × Bool)} {p q : Nat}, Seg f N p L q → (∀ j, p ≤ j → j < q → F j = f j) → Seg F N p L q
  | [], p, q, h, _ => h
  | b :: L, p, q, ⟨h1, h2, h3⟩, e => by
    have := h3.le
    exact ⟨h1, h2.congr fun j a c => e j a (by omega), h3.congr fun j a c => e j (by omega) c⟩
theorem Seg.bk {f : Nat → Int} {N : Nat} : ∀ {L : List (Nat × Nat × Bool)} {p q : Nat}, Seg f N p L q → bk f N p = L ++ Go.Proofs.Ytdglefedbkgghaa.bk f N q
  | [], p, q, h => by cases h; rfl
  | b :: L, p, q, ⟨h1, h2, h3⟩ => by
    rw [bk_cons (blkO_some h2), h3.bk, ← h1]; rfl
theorem bk_seg (f : Nat → Int) (N : Nat) : ∀ k p, N - p ≤ k → ∃ q, Seg f N p (bk f N p) q ∧ blkO f N q = none := by
  intro k
  induction k with
  | zero => intro p h; rw [bk_nil (blkO_end (by omega))]; exact ⟨p, rfl, blkO_end (by omega)⟩
  | succ k ih =>
    intro p h
    cases hB : blkO f N p with
    | none => rw [bk_nil hB]; exact ⟨p, rfl, hB⟩
    | some x =>
      obtain ⟨n, u⟩ := x
      obtain ⟨q, h1, h2⟩ := ih (p + n + 3) (by omega)
      rw [bk_cons hB]
      exact ⟨q, ⟨rfl, blkO_of hB, h1⟩, h2⟩
theorem bk_all (f : Nat → Int) (N : Nat) : ∃ q, Seg f N 0 (bk f N 0) q ∧ blkO f N q = none := bk_seg f N N 0 (by omega)
theorem bk_end (f : Nat → Int) (N : Nat) : bk f N N = [] := bk_nil (blkO_end (by omega))

/-- No two free ones side by side (behind a free one, or not). -/
def alt : Bool → List (Nat × Nat × Bool) → Bool
  | _, [] => true
  | fr, b :: L => !(fr && !b.2.2) && alt (!b.2.2) L
/-- Is what stands behind these behind a free one? -/
def lfB : Bool → List (Nat × Nat × Bool) → Bool
  | fr, [] => fr
  | _, b :: L => lfB (!b.2.2) L
theorem alt_app (fr : Bool) : ∀ (A B : List (Nat × Nat × Bool)), alt fr (A ++ B) = (alt fr A && alt (lfB fr A) B) := by
  intro A
  induction A generalizing fr with
  | nil => intro B; simp [alt, lfB]
  | cons b A ih => intro B; simp [alt, lfB, ih, Bool.and_assoc]
theorem lfB_snoc (fr : Bool) : ∀ (A : List (Nat × Nat × Bool)) b, lfB fr (A ++ [b]) = !b.2.2 := by
  intro A
  induction A generalizing fr with
  | nil => intro b; rfl
  | cons a A ih => intro b; exact ih _ b
theorem alt_less {L : List (Nat × Nat × Bool)} (h : alt true L = true) : alt false L = true := by
  cases L with
  | nil => rfl
  | cons b L => simp [alt] at h ⊢; exact h.2

theorem aud_seg {f : Nat → Int} {N : Nat} : ∀ {L : List (Nat × Nat × Bool)} {p : Nat} {fr : Bool}, Seg f N p L N → alt fr L = true → aud f N p fr = -1
  | [], p, fr, h, _ => aud_end (by cases h; omega)
  | b :: L, p, fr, ⟨h1, h2, h3⟩, ha => by
    have hf := h2.fit
    simp only [alt, Bool.and_eq_true, Bool.not_eq_true'] at ha
    rw [aud_on (n := b.2.1) (u := b.2.2) (by omega) (blkO_some h2) ha.1]
    exact aud_seg h3 ha.2
theorem seg_aud {f : Nat → Int} {N : Nat} : ∀ k p fr, N - p ≤ k → p ≤ N → aud f N p fr = -1 → ∃ L, Seg f N p L N ∧ alt fr L = true := by
  intro k
  induction k with
  | zero => intro p fr h hp _; exact ⟨[], by show p = N; omega, rfl⟩
  | succ k ih =>
    intro p fr h hp ha
    by_cases hlt : p < N
    · cases hB : blkO f N p with
      | none => rw [aud_none hlt hB] at ha; omega
      | some x =>
        obtain ⟨n, u⟩ := x
        have hf := (blkO_of hB).fit
        cases hk : (fr && !u) with
        | true =>
          have h1 : fr = true := by cases fr <;> simp_all
          have h2 : u = false := by cases u <;> simp_all
          subst h1 h2
          rw [aud_two hlt hB] at ha
          omega
        | false =>
          rw [aud_on hlt hB hk] at ha
          obtain ⟨L, h1, h2⟩ := ih (p + n + 3) (!u) (by omega) (by omega) ha
          exact ⟨(p, n, u) :: L, ⟨rfl, blkO_of hB, h1⟩, by simp [alt, hk, h2]⟩
    · exact ⟨[], by show p = N; omega, rfl⟩
/-- An audit finds nothing. -/
def Whole (f : Nat → Int) (N : Nat) : Prop := aud f N 0 false = -1
theorem whole_iff {f : Nat → Int} {N : Nat} : Whole f N ↔ Seg f N 0 (bk f N 0) N ∧ alt false (bk f N 0) = true := by
  constructor
  · intro h
    obtain ⟨L, h1, h2⟩ := seg_aud N 0 false (by omega) (by omega) h
    have e : bk f N 0 = L := by rw [h1.bk, bk_end, List.append_nil]
    rw [e]; exact ⟨h1, h2⟩
  · rintro ⟨h1, h2⟩
    exact aud_seg h1 h2
theorem whole_of {f : Nat → Int} {N : Nat} {L : List (Nat × Nat × Bool)} (h1 : Seg f N 0 L N) (h2 : alt false L = true) : Whole f N := aud_seg h1 h2
theorem Seg.all {f : Nat → Int} {N : Nat} {L : List (Nat × Nat × Bool)} (h1 : Seg f N 0 L N) : Go.Proofs.Ytdglefedbkgghaa.bk f N 0 = L := by rw [h1.bk, bk_end, List.append_nil]

/-- A block that is laid. -/
theorem lay_out (f : Nat → Int) (p n : Nat) (u : Bool) (j : Nat) (h : ¬ (p ≤ j ∧ j < p + n + 3)) : layF f p n u j = f j := by
  unfold layF upd midF; (try dsimp only); rw [if_neg (by omega), if_neg (by omega), if_neg (by omega), if_neg (by omega)]
theorem lay_blk (f : Nat → Int) (N p n : Nat) (u : Bool) (hp : p ≤ 4000) (h1 : 1 ≤ n) (hn : n ≤ 4000) (hf : p + n + 3 ≤ N) : Blk (layF f p n u) N p n u := by
  refine ⟨hp, h1, hn, hf, ?_, ?_, ?_, fun hu i hi => ?_⟩
  · unfold layF upd midF; (try dsimp only); rw [if_neg (by omega), if_neg (by omega), if_pos rfl]
  · unfold layF upd midF; (try dsimp only); rw [if_neg (by omega), if_pos rfl]
  · unfold layF upd; (try dsimp only); rw [if_pos rfl]
  · unfold layF upd midF; (try dsimp only); rw [if_neg (by omega), if_neg (by omega), if_neg (by omega), if_pos (by omega), hu]; rfl
theorem lay_zero (f : Nat → Int) (p n i : Nat) (hi : i < n) : layF f p n true (p + 2 + i) = 0 := by
  unfold layF upd midF; (try dsimp only); rw [if_neg (by omega), if_neg (by omega), if_neg (by omega), if_pos (by omega)]; rfl
/-- A free block is what it would be laid. -/
theorem lay_free {f : Nat → Int} {N p n : Nat} (h : Blk f N p n false) (g : Nat → Int) (e : ∀ j, ¬ (p ≤ j ∧ j < p + n + 3) → g j = f j) : ∀ j, layF g p n false j = f j := by
  intro j
  by_cases hj : p ≤ j ∧ j < p + n + 3
  · by_cases a : j = p + 2 + n
    · subst a; unfold layF upd; (try dsimp only); rw [if_pos rfl]; exact h.behind.symm
    · by_cases b : j = p
      · subst b; unfold layF upd midF; (try dsimp only); rw [if_neg a, if_pos rfl]; exact h.ahead.symm
      · by_cases c : j = p + 1
        · subst c; unfold layF upd midF; (try dsimp only); rw [if_neg a, if_neg b, if_pos rfl]; exact h.len.symm
        · unfold layF upd midF; (try dsimp only); rw [if_neg a, if_neg b, if_neg c, if_pos (by omega)]
          have := h.free rfl (j - (p + 2)) (by omega)
          rw [show p + 2 + (j - (p + 2)) = j by omega] at this
          rw [this]; rfl
  · rw [lay_out _ _ _ _ _ hj, e j hj]

/-- A block among all of them: what stands ahead of it and behind it. -/
theorem split_at {L : List (Nat × Nat × Bool)} {b : Nat × Nat × Bool} (h : b ∈ L) : ∃ A B, L = A ++ b :: B := List.append_of_mem h
theorem Seg.cut {f : Nat → Int} {N p q : Nat} {A B : List (Nat × Nat × Bool)} {b : Nat × Nat × Bool} (h : Seg f N p (A ++ b :: B) q) : Seg f N p A b.1 ∧ Blk f N b.1 b.2.1 b.2.2 ∧ Seg f N (b.1 + b.2.1 + 3) B q := by
  obtain ⟨m, h1, h2, h3, h4⟩ := Seg.app.1 h
  subst h2
  exact ⟨h1, h3, h4⟩
theorem Seg.glue {f : Nat → Int} {N p q : Nat} {A B : List (Nat × Nat × Bool)} {b : Nat × Nat × Bool} (h1 : Seg f N p A b.1) (h2 : Blk f N b.1 b.2.1 b.2.2) (h3 : Seg f N (b.1 + b.2.1 + 3) B q) : Seg f N p (A ++ b :: B) q :=
  Seg.app.2 ⟨b.1, h1, rfl, h2, h3⟩

/-- A word of a used block's holder is written: the blocks are the same. -/
theorem write_seg {f F : Nat → Int} {N q : Nat} {L : List (Nat × Nat × Bool)} {p n i : Nat} (h : Seg f N 0 L q) (hb : (p, n, true) ∈ L) (hi : i < n) (e : ∀ j, j ≠ p + 2 + i → F j = f j) : Seg F N 0 L q := by
  obtain ⟨A, B, rfl⟩ := split_at hb
  obtain ⟨h1, h2, h3⟩ := h.cut
  have hl := h3.le
  dsimp only at h1 h2 h3 hl
  exact Seg.glue (h1.congr fun j _ a => e j (by omega)) (h2.used (e _ (by omega)) (e _ (by omega)) (e _ (by omega))) (h3.congr fun j a _ => e j (by omega))
theorem write_none {f F : Nat → Int} {N q : Nat} {L : List (Nat × Nat × Bool)} {p n i : Nat} (h : Seg f N 0 L q) (hb : (p, n, true) ∈ L) (hi : i < n) (e : ∀ j, j ≠ p + 2 + i → F j = f j) (hq : blkO f N q = none) : blkO F N q = none := by
  obtain ⟨a1, a2, _⟩ := h.mem _ hb
  dsimp only at a1 a2
  refine blkO_none fun n' u hB => ?_
  have hc : Blk f N q n' u := hB.congr fun j h1 _ => (e j (by omega)).symm
  rw [blkO_some hc] at hq
  cases hq
theorem write_bk {f F : Nat → Int} {N : Nat} {p n i : Nat} (hb : (p, n, true) ∈ bk f N 0) (hi : i < n) (e : ∀ j, j ≠ p + 2 + i → F j = f j) : bk F N 0 = bk f N 0 := by
  obtain ⟨q, h1, h2⟩ := bk_all f N
  rw [(write_seg h1 hb hi e).bk, bk_nil (write_none h1 hb hi e h2), List.append_nil]
theorem write_whole {f F : Nat → Int} {N : Nat} {p n i : Nat} (h : Whole f N) (hb : (p, n, true) ∈ bk f N 0) (hi : i < n) (e : ∀ j, j ≠ p + 2 + i → F j = f j) : Whole F N := by
  obtain ⟨h1, h2⟩ := whole_iff.1 h
  exact whole_of (write_seg h1 hb hi e) h2
/-- The audit goes by the blocks alone. -/
theorem aud_bk {f F : Nat → Int} {N : Nat} : ∀ k p fr, N - p ≤ k → bk F N p = bk f N p → aud F N p fr = aud f N p fr := by
  intro k
  induction k with
  | zero => intro p fr h _; rw [aud_end (by omega), aud_end (by omega)]
  | succ k ih =>
    intro p fr h e
    by_cases hlt : p < N
    · cases hB : blkO f N p with
      | none =>
        rw [bk_nil hB] at e
        cases hC : blkO F N p with
        | none => rw [aud_none hlt hB, aud_none hlt hC]
        | some x => rw [bk_cons (n := x.1) (u := x.2) hC] at e; cases e
      | some x =>
        obtain ⟨n, u⟩ := x
        rw [bk_cons hB] at e
        cases hC : blkO F N p with
        | none => rw [bk_nil hC] at e; cases e
        | some y =>
          obtain ⟨m, v⟩ := y
          rw [bk_cons hC] at e
          injection e with e1 e2
          simp only [Prod.mk.injEq, true_and] at e1
          obtain ⟨rfl, rfl⟩ := e1
          cases hk : (fr && !v) with
          | true =>
            have h1 : fr = true := by cases fr <;> simp_all
            have h2 : v = false := by cases v <;> simp_all
            subst h1 h2
            rw [aud_two hlt hB, aud_two hlt hC]
          | false =>
            rw [aud_on hlt hB hk, aud_on hlt hC hk]
            exact ih _ _ (by omega) e2
    · rw [aud_end hlt, aud_end hlt]
/-- The m-th of all blocks. -/
theorem bk_nth (f : Nat → Int) (N m : Nat) (h : m < (bk f N 0).length) : ∃ p n u, (bls f N 0).getD m 0 = p ∧ blkO f N p = some (n, u) ∧ (bk f N 0).take (m + 1) = (bk f N 0).take m ++ [(p, n, u)] ∧ n ≤ 4000 ∧ p + n + 3 ≤ N := by
  obtain ⟨q, h1, _⟩ := bk_all f N
  obtain ⟨_, _, h4⟩ := h1.mem _ (List.getElem_mem h)
  refine ⟨(bk f N 0)[m].1, (bk f N 0)[m].2.1, (bk f N 0)[m].2.2, ?_, blkO_some h4, List.take_succ_eq_append_getElem h, h4.hn, h4.fit⟩
  rw [bls_is, List.getD_eq_getElem?_getD, List.getElem?_map, List.getElem?_eq_getElem h]; rfl
theorem bk_len (f : Nat → Int) (N : Nat) : (bls f N 0).length = (bk f N 0).length := by rw [bls_is, List.length_map]
theorem bk_len4 (f : Nat → Int) (N : Nat) : (bk f N 0).length * 4 ≤ N := by have := bls_facts' f N N 0 (by omega); rw [bk_len] at this; omega


def isFree (b : Nat × Nat × Bool) : Bool := !b.2.2
noncomputable def fk (f : Nat → Int) (N : Nat) : List (Nat × Nat × Bool) := (bk f N 0).filter isFree
/-- How many words they have, in all. -/
def fsum (l : List (Nat × Nat × Bool)) : Nat := (l.map (·.2.1)).sum
/-- The places of those that are used. -/
def usd (l : List (Nat × Nat × Bool)) : List Nat := (l.filter (·.2.2)).map (·.1)
theorem usd_snoc_t (l : List (Nat × Nat × Bool)) (p n : Nat) : usd (l ++ [(p, n, true)]) = usd l ++ [p] := by simp [usd]
theorem usd_snoc_f (l : List (Nat × Nat × Bool)) (p n : Nat) : usd (l ++ [(p, n, false)]) = usd l := by simp [usd]
theorem usd_len (l : List (Nat × Nat × Bool)) : (usd l).length ≤ l.length := by unfold usd; rw [List.length_map]; exact List.length_filter_le _ _
end Go.Proofs.Ytdglefedbkgghaa
namespace Go.Proofs.Ytdglefedbkgghaa
open Go.RowKit Go.Shelf
set_option linter.unusedVariables false
attribute [local go_sem] Oper.semAt_some

/-- A block of these words. -/
abbrev BT (f : Nat → Int) (N : Nat) := { b : Nat × Nat × Bool // Blk f N b.1 b.2.1 b.2.2 }
/-- What the loop's variable holds. -/
def enB {f : Nat → Int} {N : Nat} (x : BT f N) : Array Value := #[.agg #[.int .i64 x.1.1, .int .i64 x.1.2.1, .bool x.1.2.2]]
def unB {f : Nat → Int} {N : Nat} (xs : List (BT f N)) : List (Nat × Nat × Bool) := xs.map (·.1)
/-- What the iterator reads: the arena in its box, the arena's words below n₀. -/
structure Hld (n₀ Bn : Nat) (ao : Option Addr) (N cap : Nat) (f : Nat → Int) (W : World) : Prop where
  box : Boxed W Bn 34 (.slice ao N cap)
  rd : Rd W ao N f
  low : N ≠ 0 → ∀ a, ao = some a → a.block < n₀
/-- What a round that goes on keeps: all below n₀, the boxes of arenas, blocks and yields, and what is no cells from S on. -/
structure KB (n₀ S : Nat) (A B : World) : Prop where
  bel : Below n₀ A B
  box : ∀ (k : Nat) (cs : Array Value) (t : TypeId) (r : Nat × Nat), A.heap[k]? = some (Obj.cells cs t r) → t = 34 ∨ t = 60 ∨ t = 95 → B.heap[k]? = some (Obj.cells cs t r)
  book : ∀ (k : Nat) (o : Obj), S ≤ k → A.heap[k]? = some o → o.isCells = false → B.heap[k]? = some o
theorem KB.refl (n₀ S : Nat) (A : World) : KB n₀ S A A := ⟨Below.refl _ _, fun _ _ _ _ h _ => h, fun _ _ _ h _ => h⟩
theorem KB.trans {n₀ S : Nat} {A B C : World} (h : KB n₀ S A B) (k : KB n₀ S B C) : KB n₀ S A C := ⟨h.bel.trans k.bel, fun i cs t r hi ht => k.box i cs t r (h.box i cs t r hi ht) ht, fun i o hs hi hc => k.book i o hs (h.book i o hs hi hc) hc⟩
theorem KB.up {n₀ S T : Nat} {A B : World} (h : KB n₀ S A B) (hs : S ≤ T) : KB n₀ T A B := ⟨h.bel, h.box, fun k o hk => h.book k o (by omega)⟩
theorem KB.put {n₀ S : Nat} {w : World} (hn : n₀ ≤ w.heap.size) (W : World) (l : Nat) (o o' : Obj) (hl : w.heap.size ≤ l) (hS : l < S) (h : W.heap[l]? = some o) (hc : o.isCells = false) (hw : o.isWalk = false) : KB n₀ S W (W.putObj l o') :=
  ⟨belowK_b hn W l o o' hl h hc hw, fun k cs t r hk _ => by
    rw [World.putObj_heap_other (fun e => by subst e; rw [hk] at h; cases h; cases hc)]; exact hk,
   fun k o2 hk h2 _ => by rw [World.putObj_heap_other (by omega)]; exact h2⟩
theorem KB.of_below {n₀ S : Nat} {A B : World} (h : Below A.heap.size A B) (hn : n₀ ≤ A.heap.size) : KB n₀ S A B :=
  ⟨h.mono hn, fun k cs t r hk _ => (h.block k (Array.getElem?_eq_some_iff.1 hk).1).trans hk, fun k o _ hk _ => (h.block k (Array.getElem?_eq_some_iff.1 hk).1).trans hk⟩
theorem KB.from {n₀ S B : Nat} {A C : World} (h : KB n₀ S A C) (hb : S ≤ B) (hs : A.heap.size ≤ C.heap.size) : KeepsFrom B A C := ⟨hs, fun k o hk h1 h2 => h.book k o (by omega) h1 h2⟩
/-- A store into a box of a number's or a list's kind. -/
theorem KB.set {n₀ S : Nat} {A : World} {X : Nat} {t : TypeId} {v : Value} (h : Boxed A X t v) (hn : n₀ ≤ X) (h1 : t ≠ 34) (h2 : t ≠ 60) (h3 : t ≠ 95) (u : Value) : KB n₀ S A (A.setCell ⟨X, 0, none⟩ u) :=
  ⟨(Below.refl n₀ A).setCell (p := ⟨X, 0, none⟩) hn _, fun k cs t' r hk ht => (Below.heap_setCell A ⟨X, 0, none⟩ u k (by
    show k ≠ X
    intro e; subst e
    have h : A.heap[k]? = _ := h
    rw [hk] at h; injection h with h; injection h with a b c; subst b; exact ht.elim h1 (fun q => q.elim h2 h3))).trans hk,
   fun k o _ hk hc => (KeepsOthers.setCell A ⟨X, 0, none⟩ u).same k o hk hc⟩
theorem Hld.kb {n₀ Bn : Nat} {ao : Option Addr} {N cap : Nat} {f : Nat → Int} {A B : World} (h : Hld n₀ Bn ao N cap f A) {S : Nat} (k : KB n₀ S A B) : Hld n₀ Bn ao N cap f B :=
  ⟨k.box _ _ _ _ h.box (.inl rfl), fun hn => by
    obtain ⟨b, o, e, hc⟩ := h.rd hn
    exact ⟨b, o, e, fun j hj => (k.bel.cell (p := ⟨b, o + j, none⟩) (show b < n₀ from h.low hn _ e)).trans (hc j hj)⟩, h.low⟩
theorem Hld.below {n₀ Bn : Nat} {ao : Option Addr} {N cap : Nat} {f : Nat → Int} {W W' : World} (h : Hld n₀ Bn ao N cap f W) (hb : Below W.heap.size W W') : Hld n₀ Bn ao N cap f W' :=
  ⟨(hb.block Bn h.box.lt).trans h.box, h.rd.below hb, h.low⟩
theorem grown_of_below {W W' : World} (h : Below W.heap.size W W') : W.grownBy W' none := ⟨h.os, h.tape, h.output, h.size, fun k hk _ => h.block k hk⟩

/-- A box that holds a block. -/
def Boxed3 (W : World) (X p m : Nat) (u : Bool) : Prop := W.heap[X]? = some (.cells #[.int .i64 p, .int .i64 m, .bool u] 60 (0, 0))
theorem Boxed3.cells {W : World} {X p m : Nat} {u : Bool} (h : Boxed3 W X p m u) : W.cell? ⟨X, 0, none⟩ = some (.int .i64 p) ∧ W.cell? ⟨X, 1, none⟩ = some (.int .i64 m) ∧ W.cell? ⟨X, 2, none⟩ = some (.bool u) := by
  have h : W.heap[X]? = _ := h
  refine ⟨?_, ?_, ?_⟩ <;> simp [World.cell?, h]

theorem end_any (p n : Nat) (u : Bool) (hp : p ≤ 4000) (hn : n ≤ 4000) (w : World) :
    Calls Try.prog 50 #[.agg #[.int .i64 p, .int .i64 n, .bool u]] w fun e w' => e = .returned (.int .i64 (p + n + 3 : Nat)) ∧ Below w.heap.size w w' := by
  go_enter Try.func50, Try.ntmps50
  go_wp2_with fail
  go_ret
  exact ⟨ret_int (by omega), (Below.refl _ _).alloc (Nat.le_refl _) _⟩

set_option maxRecDepth 100000 in
set_option maxHeartbeats 4000000 in
theorem each1_in (n : Nat) (hn : 1 ≤ n) (l Bn : Nat) (ao : Option Addr) (N cap : Nat) (f : Nat → Int) (hN : N ≤ 1048576) (hcap : N ≤ cap) (n₀ S : Nat) (J Jx : List (BT f N) → World → Prop)
    (W : World) (hJ : AbidesFrom W.heap.size J)
    (hY : ∀ pre x W1, J pre W1 → pre.length < N → YieldAt Fence.wide (n - 1) Try.prog l (enB x) W1 fun e W' =>
      (e = .returned (.bool true) ∧ J (pre ++ [x]) W' ∧ KB n₀ S W1 W') ∨ (e = .returned (.bool false) ∧ Jx (pre ++ [x]) W'))
    (hH : Hld n₀ Bn ao N cap f W) (h0 : J [] W) :
    CallsIn Fence.wide n Try.prog 48 #[.func (.yield l) #[] #[], .pointer (some ⟨Bn, 0, none⟩)] W fun e W' => (∃ v, e = .returned v) ∧
      ((∃ ys, unB ys = bk f N 0 ∧ J ys W') ∨ (∃ pre, (∃ rest, unB pre ++ rest = bk f N 0) ∧ Jx pre W')) := by
  refine callsIn_of_wp Try.func48 rfl trivial ?_ rfl
  simp only [Try.ntmps48, List.size_toArray, List.length_cons, List.length_nil, Nat.reduceAdd, Nat.reduceSub, Array.replicate_succ, Array.replicate_zero, List.push_toArray, List.append_toArray, List.nil_append, List.cons_append]
  have HH : Hid (Hld n₀ Bn ao N cap f W) := hH
  have HJ0 : Hid (J [] W) := h0
  have HY : Hid (∀ pre x W1, J pre W1 → pre.length < N → YieldAt Fence.wide (n - 1) Try.prog l (enB x) W1 fun e W' =>
      (e = .returned (.bool true) ∧ J (pre ++ [x]) W' ∧ KB n₀ S W1 W') ∨ (e = .returned (.bool false) ∧ Jx (pre ++ [x]) W')) := hY
  have HJ : Hid (AbidesFrom W.heap.size J) := hJ
  clear hH h0 hY hJ
  gi_wp2
  gi_loopw [3] (fun a wr => ∃ (p : Nat) (pre : List (BT f N)), p ≤ N ∧ a = .int .i64 p ∧ pre.length * 4 ≤ p ∧ unB pre ++ bk f N p = bk f N 0 ∧ Hld n₀ Bn ao N cap f wr ∧ J pre wr) (fun a _ => N - (intOf a).toNat)
  case atStart => exact ⟨0, [], Nat.zero_le _, rfl, Nat.le_refl _, rfl, HH.out, HJ0.out⟩
  case round =>
    obtain ⟨p, pre, hp, rfl, hlen, hap, hh, hj⟩ := hrel
    have HAP : Hid (unB pre ++ bk f N p = bk f N 0) := hap
    have HHr : Hid (Hld n₀ Bn ao N cap f wr) := hh
    have HJr : Hid (J pre wr) := hj
    have b0 := hh.box.cell
    clear hap hh hj
    gi_wp2
    refine ⟨trivial, (callsIn_wide.2 (implAt_any ao N cap f p wr HHr.out.rd hN hcap)).mono ?_⟩
    rintro e w1 ⟨rfl, hb1⟩
    have HH1 : Hid (Hld n₀ Bn ao N cap f w1) := HHr.out.below hb1
    have HJ1 : Hid (J pre w1) := HJ.out _ _ _ none HJr.out (grown_of_below hb1) (fun r e => by cases e)
    clear hb1 b0
    cases hB : blkO f N p with
    | none =>
      have HO : Hid (unB pre = bk f N 0) := by have := HAP.out; rw [bk_nil hB, List.append_nil] at this; exact this
      clear hB
      dsimp only [bv]
      gi_wp2
      refine ⟨fun _ h => (by cases h), ?_⟩
      gi_wp2
      refine bodyPost_ret (results_none rfl _ _ _) rfl ?_
      exact ⟨⟨_, rfl⟩, .inl ⟨pre, HO.out, HJ.out _ _ _ none HJ1.out (World.grownBy_alloc _ _ none) (fun r e => by cases e)⟩⟩
    | some x =>
      obtain ⟨m, u⟩ := x
      have hBk := blkO_of hB
      have hfit := hBk.fit
      have h1 := hBk.h1
      have h4 := hBk.hp
      have h5 := hBk.hn
      have HN : Hid (unB (pre ++ [⟨(p, m, u), hBk⟩]) ++ bk f N (p + m + 3) = bk f N 0) := by have := HAP.out; rw [bk_cons hB] at this; unfold unB at this ⊢; rw [List.map_append, List.append_assoc]; exact this
      have hbn := (Below.refl w1.heap.size w1).alloc (Nat.le_refl _) (.cells #[.int .i64 p, .int .i64 m, .bool u] 60)
      have HH2 : Hid (Hld n₀ Bn ao N cap f (w1.alloc (.cells #[.int .i64 p, .int .i64 m, .bool u] 60))) := HH1.out.below hbn
      have HJ2 : Hid (J pre (w1.alloc (.cells #[.int .i64 p, .int .i64 m, .bool u] 60))) := HJ.out _ _ _ none HJ1.out (World.grownBy_alloc _ _ none) (fun r e => by cases e)
      obtain ⟨fn, tmps, assign, body, hy, hR⟩ := HY.out pre ⟨(p, m, u), hBk⟩ _ HJ2.out (by omega)
      dsimp only [enB] at hy
      clear hB hbn
      dsimp only [bv]
      gi_wp2
      have hbx : Boxed3 (w1.alloc (.cells #[.int .i64 p, .int .i64 m, .bool u] 60)) w1.heap.size p m u := World.alloc_heap_new _ _
      clear hy
      generalize (w1.alloc (.cells #[.int .i64 p, .int .i64 m, .bool u] 60)) = w2 at HH2 HJ2 hbx hR ⊢
      generalize w1.heap.size = X at hbx ⊢
      have HX : Hid (Boxed3 w2 X p m u) := hbx
      clear hbx HJ1 HH1
      refine hR.mono ?_
      rintro e W3 (⟨rfl, hJ3, hk3⟩ | ⟨rfl, hJx3⟩)
      · have hx3 : Boxed3 W3 X p m u := hk3.box _ _ _ _ HX.out (.inr (.inl rfl))
        obtain ⟨q0, q1, q2⟩ := hx3.cells
        have HH3 : Hid (Hld n₀ Bn ao N cap f W3) := HH2.out.kb hk3
        have HJ3 : Hid (J (pre ++ [⟨(p, m, u), hBk⟩]) W3) := hJ3
        clear hJ3 hk3 hx3 hR
        gi_wp2
        refine ⟨trivial, (callsIn_wide.2 (end_any p m u h4 h5 W3)).mono ?_⟩
        rintro e w4 ⟨rfl, hb4⟩
        have HH4 : Hid (Hld n₀ Bn ao N cap f w4) := HH3.out.below hb4
        have HJ4 : Hid (J (pre ++ [⟨(p, m, u), hBk⟩]) w4) := HJ.out _ _ _ none HJ3.out (grown_of_below hb4) (fun r e => by cases e)
        clear hb4 q0 q1 q2
        gi_wp2
        go_roundw
        case rel => exact ⟨p + m + 3, pre ++ [⟨(p, m, u), hBk⟩], hfit, rfl, by rw [List.length_append, List.length_singleton]; omega, HN.out, HH4.out, HJ4.out⟩
        case measure => simp [intOf]; omega
      · have HJx : Hid (Jx (pre ++ [⟨(p, m, u), hBk⟩]) W3) := hJx3
        clear hJx3 hR
        gi_wp2
        refine bodyPost_ret (results_none rfl _ _ _) rfl ?_
        exact ⟨⟨_, rfl⟩, .inr ⟨pre ++ [⟨(p, m, u), hBk⟩], ⟨_, HN.out⟩, HJx.out⟩⟩

theorem each_in (n : Nat) (ao : Option Addr) (N cap : Nat) (w : World) :
    CallsIn Fence.wide n Try.prog 25 #[.agg #[.slice ao N cap]] w fun e w' => e = .returned (.func (.func 48) #[] #[.pointer (some ⟨w.heap.size, 0, none⟩)]) ∧ w' = w.alloc (.cells #[.slice ao N cap] 34) := by
  refine callsIn_of_wp Try.func25 rfl trivial ?_ rfl
  simp only [Try.ntmps25, List.size_toArray, List.length_cons, List.length_nil, Nat.reduceAdd, Nat.reduceSub, Array.replicate_succ, Array.replicate_zero, List.push_toArray, List.append_toArray, List.nil_append, List.cons_append]
  gi_wp2
  go_ret
  exact ⟨rfl, rfl⟩

/-- All blocks, in their order; or the first ones, where a round has said 'no more'. -/
theorem each_stops (n : Nat) (hn : 1 ≤ n) (n₀ S Bn : Nat) (ao : Option Addr) (N cap : Nat) (f : Nat → Int) (hN : N ≤ 1048576) (hcap : N ≤ cap) (w : World) (hH : Hld n₀ Bn ao N cap f w) :
    SeqStopsK Fence.wide n Try.prog 48 #[.pointer (some ⟨Bn, 0, none⟩)] (enB (f := f) (N := N)) (KB n₀ S) (fun ys => unB ys = bk f N 0) (fun pre => ∃ rest, unB pre ++ rest = bk f N 0) N w := fun l J Jx W hW hJ _ hY h0 =>
  each1_in n hn l Bn ao N cap f hN hcap n₀ S J Jx W hJ hY (hH.below hW) h0
end Go.Proofs.Ytdglefedbkgghaa
namespace Go.Proofs.Ytdglefedbkgghaa
open Go.RowKit Go.Shelf
set_option linter.unusedVariables false

/-- An iterator's contract whose invariants abide the turn of every record laid since the call began. -/
def SeqO {α : Type} (n gf : Nat) (lb : Array Value) (encs : α → Array Value) (n₀ Z : Nat) (S Sp : List α → Prop) (N : Nat) (w : World) : Prop :=
  ∀ (l : Nat) (J Jx : List α → World → Prop) (W : World), Below w.heap.size w W → Z ≤ W.heap.size → OwnFrom W.heap.size J → OwnFrom W.heap.size Jx →
    (∀ pre x W1, J pre W1 → pre.length < N → YieldAt Fence.wide (n - 1) Try.prog l (encs x) W1 fun e W' => (e = .returned (.bool true) ∧ J (pre ++ [x]) W' ∧ KB n₀ Z W1 W') ∨ (e = .returned (.bool false) ∧ Jx (pre ++ [x]) W' ∧ KeepsFrom Z W1 W')) →
    J [] W → CallsIn Fence.wide n Try.prog gf (#[.func (.yield l) #[] #[]] ++ lb) W fun e W' => (∃ v, e = .returned v) ∧ ((∃ xs, S xs ∧ J xs W') ∨ (∃ pre, Sp pre ∧ Jx pre W'))

theorem abides_of_own {β : Type} {B : Nat} {J : β → World → Prop} (h : OwnFrom B J) : AbidesFrom B J := fun s A C row hs hg hr => h s A C row hs hg fun r e => by
  obtain ⟨h1, o, h2, h3⟩ := hr r e
  exact ⟨h1, o, h2, Obj.not_cells_of_walk h3⟩
theorem SeqO.of {α : Type} {n gf : Nat} {lb : Array Value} {encs : α → Array Value} {n₀ Z : Nat} {S Sp : List α → Prop} {N : Nat} {w : World} (h : SeqStopsK Fence.wide n Try.prog gf lb encs (KB n₀ Z) S Sp N w) : SeqO n gf lb encs n₀ Z S Sp N w :=
  fun l J Jx W hW _ hJ hJx hY h0 => h l J Jx W hW (abides_of_own hJ) (abides_of_own hJx) (fun pre x W1 hj hl => (hY pre x W1 hj hl).mono fun e W' h => h.imp_right fun h => ⟨h.1, h.2.1⟩) h0

/-- The loop's record and the block for its deferred calls. -/
structure Recs (W : World) (B : Nat) (r : Loop) : Prop where
  loop : W.heap[B + 1]? = some (.loop r)
  defs : W.heap[B]? = some (.deferred (some []))
theorem Recs.grown {A C : World} {B b : Nat} {r : Loop} {row : Option Nat} (h : Recs A B r) (hb : B + 1 < b) (hg : A.grownBy C row) (hr : ∀ q, row = some q → b ≤ q) : Recs C B r := by
  have h1 := (Array.getElem?_eq_some_iff.1 h.loop).1
  exact ⟨(hg.block _ h1 (fun e => by have := hr _ e.symm; omega)).trans h.loop, (hg.block _ (by omega) (fun e => by have := hr _ e.symm; omega)).trans h.defs⟩
theorem Recs.from {A C : World} {B : Nat} {r : Loop} (h : Recs A B r) (hk : KeepsFrom B A C) : Recs C B r := ⟨hk.same _ _ (by omega) h.loop rfl, hk.same _ _ (Nat.le_refl _) h.defs rfl⟩
theorem Recs.put {A : World} {B : Nat} {r : Loop} (h : Recs A B r) (r' : Loop) : Recs (A.putObj (B + 1) (.loop r')) B r' :=
  ⟨World.putObj_heap_same (Array.getElem?_eq_some_iff.1 h.loop).1, (World.putObj_heap_other (by omega)).trans h.defs⟩

set_option maxHeartbeats 1000000 in
theorem range_over {α : Type} {g : Operand} {ps : Array Tmp} {assign body : Code} {Q : Exit → Act → World → Prop} {a : Act} {w : World} {n : Nat} (h1 : 1 ≤ n) {gf : Nat} {lb : Array Value} (hg : a.eval g = .func (.func gf) #[] lb) (eg : ∀ args w, (callFunc gf args).run Try.prog w = .ok (.enter gf args) w)
    {encs : α → Array Value} {n₀ : Nat} {S Sp : List α → Prop} {N : Nat} (hseq : SeqO (n - 1) gf lb encs n₀ (w.heap.size + 2) S Sp N w) (hn₀ : n₀ ≤ w.heap.size) (hps : ∀ x, (encs x).size = ps.size)
    (I : List α → World → Prop) (Ix : Code → List α → World → Prop) (hI : OwnFrom w.heap.size I) (hIx : ∀ c, OwnFrom w.heap.size (Ix c)) (h0 : I [] w) (Ax : α → Act → World → Prop) (hAx : ∀ x a', OwnFrom w.heap.size (fun (_ : Unit) W => Ax x a' W))
    (hassign : ∀ (l : Nat) (pre : List α) (x : α) (W : World) (K : Act → World → Prop), I pre W → (∀ a' W', KeepsFrom w.heap.size W W' → KB n₀ (w.heap.size + 2) W W' → I pre W' → Ax x a' W' → K a' W') →
      assign.wpIn (Fence.wide.inRound l) (n - 1 - 1) Try.prog (Exit.then K (fun _ _ _ => False)) { tmps := (ps.zip (encs x)).foldl (fun t (p, v) => t.setIfInBounds p v) a.tmps, defers := [] } W)
    (hbody : ∀ (l : Nat) (pre : List α) (x : α) (a' : Act) (W : World), I pre W → Ax x a' W → pre.length < N → body.wpIn (Fence.wide.inRound l) (n - 1 - 1) Try.prog (ownPostG w.heap.size (KB n₀ (w.heap.size + 2)) I Ix (pre ++ [x]) W) a' W)
    (hdone : ∀ (D : Nat) (xs : List α) (W : World), w.heap.size ≤ D → S xs → I xs W → W.heap[D]? = some (.deferred (some [])) → Q .normal { a with defers := { target := .collected D, args := #[] } :: a.defers } W)
    (hstop : ∀ (D : Nat) (c : Code) (pre : List α) (W : World), w.heap.size ≤ D → Sp pre → Ix c pre W → W.heap[D]? = some (.deferred (some [])) → c.wpIn Fence.wide n Try.prog Q { a with defers := { target := .collected D, args := #[] } :: a.defers } W) :
    (Code.rangeFunc g ps assign body).wpIn Fence.wide n Try.prog Q a w := by
  refine wpIn_rangeFunc fun fn hfn => ?_
  obtain ⟨rc, hrc⟩ : ∃ rc : LoopState → Option Code → Loop, rc = fun st pe => { state := st, pending := pe, fn, tmps := a.tmps, params := ps, assign, body, defers := w.heap.size } := ⟨_, rfl⟩
  obtain ⟨B, hB⟩ : ∃ B, B = w.heap.size := ⟨_, rfl⟩
  obtain ⟨V, hV⟩ : ∃ V, V = (w.alloc (.deferred (some []))).alloc (.loop (rc .ready none)) := ⟨_, rfl⟩
  have hz : V.heap.size = B + 2 := by rw [hV, hB]; simp
  have hrV : Recs V B (rc .ready none) := by
    refine ⟨?_, ?_⟩
    · have := World.alloc_heap_new (w.alloc (.deferred (some []))) (.loop (rc .ready none))
      rw [World.size_alloc] at this
      rw [hV, hB]; exact this
    · rw [hV, hB]; exact (Below.heap_alloc _ _ _ (by simp)).trans (World.alloc_heap_new w _)
  have hbV : Below w.heap.size w V := by rw [hV]; exact ((Below.refl _ w).alloc (Nat.le_refl _) _).alloc (by simp) _
  have hIV : I [] V := by rw [hV]; exact hI.alloc _ (hI.alloc _ h0)
  have put : ∀ {β : Type} {J : β → World → Prop} (h : OwnFrom w.heap.size J) {s : β} {A : World} {r : Loop} (r' : Loop), J s A → Recs A B r → J s (A.putObj (B + 1) (.loop r')) := fun h _ _ _ r' hj hr => h.putObj _ hj (by omega) hr.loop rfl
  have kput : ∀ {A : World} {r : Loop} (r' : Loop), Recs A B r → KB n₀ (w.heap.size + 2) A (A.putObj (B + 1) (.loop r')) := fun r' hr => KB.put hn₀ _ _ _ _ (by omega) (by omega) hr.loop rfl rfl
  refine ⟨B + 1, [{ target := .collected B, args := #[] }], V, { target := .fn (.func gf) lb, args := #[.func (.yield (B + 1)) #[] #[]] }, V, gf, #[.func (.yield (B + 1)) #[] #[]] ++ lb, V, ?_, ?_, fun _ _ => trivial, ?_, fun _ => h1, ?_⟩
  · rw [hV, hrc, hB]; exact run_enterLoop_outer _ _ _ _ _
  · simp only [resolve, hg]
    simp [go_sem]
  · simp [invoke, go_sem, eg]
  refine (hseq (B + 1) (fun pre W => I pre W ∧ Recs W B (rc .ready none)) (fun pre W => ∃ c, Ix c pre W ∧ Recs W B (rc .done (some c))) V hbV (by omega) ?_ ?_ ?_ ⟨hIV, hrV⟩).mono ?_
  · intro s A C row hs hg' hr
    exact ⟨hI s A C row hs.1 hg' (fun r e => ⟨by have := (hr r e).1; omega, (hr r e).2⟩), hs.2.grown (b := V.heap.size) (by omega) hg' (fun q e => (hr q e).1)⟩
  · rintro s A C row ⟨c, hs1, hs2⟩ hg' hr
    exact ⟨c, hIx c s A C row hs1 hg' (fun r e => ⟨by have := (hr r e).1; omega, (hr r e).2⟩), hs2.grown (b := V.heap.size) (by omega) hg' (fun q e => (hr q e).1)⟩
  · rintro pre x W ⟨hi, hr⟩ hlen
    have hy := run_yield (P := Try.prog) (args := encs x) hr.loop (by rw [hrc]; exact hps x)
    rw [hrc] at hy
    refine ⟨fn, _, assign, body, hy, roundIn_of_wpIn hfn (hassign _ pre x W _ hi ?_)⟩
    intro a' A hkf hkp hiA hax
    have hrA := hr.from (hB ▸ hkf)
    refine ⟨_, run_beginRound hrA.loop (by rw [hrc]), ?_⟩
    have hrb := hrA.put { rc .ready none with state := .busy }
    refine wpIn_mono (hbody _ pre x a' _ (put hI _ hiA hrA) (put (s := ()) (hAx x a') _ hax hrA) hlen) ?_
    have fin : ∀ (jump : Option Code) (C : World), KeepsFrom w.heap.size (A.putObj (B + 1) (.loop { rc .ready none with state := .busy })) C →
        (Instr.endRound (B + 1) jump).run Try.prog C = .ok (.bool jump.isNone) (C.putObj (B + 1) (.loop (rc (if jump.isNone then .ready else .done) jump))) ∧ Recs C B { rc .ready none with state := .busy } := fun jump C hk => by
      have hrC := hrb.from (show KeepsFrom B (A.putObj (B + 1) (.loop { rc .ready none with state := .busy })) C by have h := hk; rw [← hB] at h; exact h)
      have := run_endRound (P := Try.prog) jump hrC.loop
      rw [hrc] at this hrC ⊢
      exact ⟨this, hrC⟩
    have kfp : ∀ {A : World} {r : Loop} (r' : Loop), Recs A B r → KeepsFrom (w.heap.size + 2) A (A.putObj (B + 1) (.loop r')) := fun r' hr => (kput r' hr).from (Nat.le_refl _) (kput r' hr).bel.size
    have kfu : ∀ {X Y : World}, KeepsFrom w.heap.size X Y → KeepsFrom (w.heap.size + 2) X Y := fun h => ⟨h.size, fun k o hk => h.same k o (by omega)⟩
    rintro e a3 C hp
    cases e with
    | normal =>
      obtain ⟨f1, f2⟩ := fin none C hp.1
      exact ⟨_, _, f1, .inl ⟨rfl, ⟨put hI _ hp.2.2 f2, f2.put _⟩, hkp.trans (((kput _ hrA).trans hp.2.1).trans (kput _ f2))⟩⟩
    | ret =>
      obtain ⟨f1, f2⟩ := fin (some .ret) C hp.1
      exact ⟨_, _, f1, .inr ⟨rfl, ⟨.ret, put (hIx _) _ hp.2 f2, f2.put _⟩, (kfu hkf).trans (((kfp _ hrA).trans (kfu hp.1)).trans (kfp _ f2))⟩⟩
    | exit id =>
      obtain ⟨f1, f2⟩ := fin (some (.exit id)) C hp.1
      exact ⟨_, _, f1, .inr ⟨rfl, ⟨.exit id, put (hIx _) _ hp.2 f2, f2.put _⟩, (kfu hkf).trans (((kfp _ hrA).trans (kfu hp.1)).trans (kfp _ f2))⟩⟩
    | goto t =>
      obtain ⟨f1, f2⟩ := fin (some (.goto t)) C hp.1
      exact ⟨_, _, f1, .inr ⟨rfl, ⟨.goto t, put (hIx _) _ hp.2 f2, f2.put _⟩, (kfu hkf).trans (((kfp _ hrA).trans (kfu hp.1)).trans (kfp _ f2))⟩⟩
    | panic ch => exact hp.elim
    | outgrown => exact hp.elim
  · rintro e W ⟨⟨v, rfl⟩, (⟨xs, hS, hi, hr⟩ | ⟨pre, hSp, c, hi, hr⟩)⟩
    · exact ⟨none, _, by have := run_endLoop (P := Try.prog) hr.loop (by rw [hrc]; simp); rw [hrc] at this; exact this, hdone _ xs _ (by omega) hS (put hI _ hi hr) (hr.put _).defs⟩
    · exact ⟨some c, _, by have := run_endLoop (P := Try.prog) hr.loop (by rw [hrc]; simp); rw [hrc] at this; exact this, hstop _ c pre _ (by omega) hSp (put (hIx c) _ hi hr) (hr.put _).defs⟩
end Go.Proofs.Ytdglefedbkgghaa
namespace Go.Proofs.Ytdglefedbkgghaa
open Go.RowKit Go.Shelf
set_option linter.unusedVariables false
attribute [local go_sem] Oper.semAt_some

def frs {f : Nat → Int} {N : Nat} (xs : List (BT f N)) : List (BT f N) := xs.filter fun x => isFree x.1
theorem unB_frs {f : Nat → Int} {N : Nat} (xs : List (BT f N)) : unB (frs xs) = (unB xs).filter isFree := by
  unfold unB frs
  rw [List.filter_map]
  rfl
theorem frs_snoc {f : Nat → Int} {N : Nat} (xs : List (BT f N)) (x : BT f N) : frs (xs ++ [x]) = if isFree x.1 then frs xs ++ [x] else frs xs := by
  unfold frs
  rw [List.filter_append]
  by_cases h : isFree x.1 = true <;> simp [h]
theorem OwnFrom.up {β : Type} {B C : Nat} {J : β → World → Prop} (h : OwnFrom B J) (hc : B ≤ C) : OwnFrom C J := fun s X Y row hs hg hr => h s X Y row hs hg fun r e => ⟨Nat.le_trans hc (hr r e).1, (hr r e).2⟩
theorem boxed3_own {β : Type} (X p m : Nat) (u : Bool) : Own (fun (_ : β) W => Boxed3 W X p m u) := fun s A C row hs hg hrow => by
  have h : A.heap[X]? = _ := hs
  refine (hg.block X (Array.getElem?_eq_some_iff.1 h).1 (fun e => ?_)).trans h
  obtain ⟨o, ho, hc⟩ := hrow X e.symm
  rw [h] at ho
  cases ho
  cases hc
theorem Boxed3.new (W : World) (p m : Nat) (u : Bool) : Boxed3 (W.alloc (.cells #[.int .i64 p, .int .i64 m, .bool u] 60)) W.heap.size p m u := World.alloc_heap_new W _
theorem round_any {m m' : Nat} {l l2 : Nat} {fn : FuncId} {tmps : Array Value} {assign body : Code} {w : World} {R : Ending → World → Prop} (h : RoundIn Fence.wide m Try.prog l fn tmps assign body w R) : RoundIn (Fence.wide.inRound l2) m' Try.prog l fn tmps assign body w R :=
  ⟨trivial, fun c cs _ => h.2 c cs (fun d hd => by cases hd)⟩

end Go.Proofs.Ytdglefedbkgghaa
