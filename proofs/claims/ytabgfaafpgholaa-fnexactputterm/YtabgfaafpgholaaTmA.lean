/-
  A term as a tree; how a tree lies in memory; what keeps it there.
-/
import Derived.Below
import Derived.Laws.World
namespace Go.Proofs.Ytabgfaafpgholaa
open Go.RowKit

inductive Tm where
  | mk (k n : Int) (s : ByteArray) (l : List Tm)

theorem Tm.ind {P : Tm → Prop} (h : ∀ k n s l, (∀ t, t ∈ l → P t) → P (.mk k n s l)) : ∀ t, P t
  | .mk k n s l => h k n s l (fun t _ => Tm.ind h t)
  termination_by t => SizeOf.sizeOf t
  decreasing_by
    have := List.sizeOf_lt_of_mem ‹t ∈ l›
    simp only [Tm.mk.sizeOf_spec]; omega

mutual
/-- The four cells from off on in the block b are the term t; all blocks that it leads to are B or later. -/
def RepT (B : Nat) (w : World) : Tm → Nat → Nat → Prop
  | .mk k n s l, b, off => w.cell? ⟨b, off, none⟩ = some (.int .i64 k) ∧ w.cell? ⟨b, off + 1, none⟩ = some (.int .i64 n) ∧ w.cell? ⟨b, off + 2, none⟩ = some (.string s) ∧ s.size ≤ maxLen ∧
      ∃ ao cap, w.cell? ⟨b, off + 3, none⟩ = some (.slice ao l.length cap) ∧ l.length ≤ cap ∧ cap ≤ maxLen ∧ RepL B w l ao
/-- From this address on stand the terms of l. -/
def RepL (B : Nat) (w : World) : List Tm → Option Addr → Prop
  | [], _ => True
  | t :: r, ao => ∃ b off, ao = some ⟨b, off, none⟩ ∧ B ≤ b ∧ RepT B w t b off ∧ RepL B w r (some ⟨b, off + 4, none⟩)
end

/-- The value v is the term t. -/
def RepV (B : Nat) (w : World) : Tm → Value → Prop
  | .mk k n s l, v => ∃ ao cap, v = .agg #[.int .i64 k, .int .i64 n, .string s, .slice ao l.length cap] ∧ s.size ≤ maxLen ∧ l.length ≤ cap ∧ cap ≤ maxLen ∧ RepL B w l ao

/-! ### What keeps a tree -/
/-- All cells of blocks from B on that hold something in w hold the same in w'. -/
def Keeps (B : Nat) (w w' : World) : Prop := ∀ b o v, B ≤ b → w.cell? ⟨b, o, none⟩ = some v → w'.cell? ⟨b, o, none⟩ = some v

theorem Keeps.repL {B : Nat} {w w' : World} (hk : Keeps B w w') : ∀ (l : List Tm) (ao : Option Addr), RepL B w l ao → RepL B w' l ao := by
  have ht : ∀ t : Tm, ∀ b off, B ≤ b → RepT B w t b off → RepT B w' t b off := by
    refine Tm.ind ?_
    intro k n s l ih b off hb h
    rw [RepT] at h ⊢
    obtain ⟨h0, h1, h2, hs, ao, cap, h3, hl, hc, hr⟩ := h
    refine ⟨hk _ _ _ hb h0, hk _ _ _ hb h1, hk _ _ _ hb h2, hs, ao, cap, hk _ _ _ hb h3, hl, hc, ?_⟩
    clear h0 h1 h2 h3 hl hc
    induction l generalizing ao with
    | nil => rw [RepL]; trivial
    | cons t r ihr =>
      rw [RepL] at hr ⊢
      obtain ⟨b', off', e, hb', htt, hrr⟩ := hr
      exact ⟨b', off', e, hb', ih t (List.mem_cons_self ..) b' off' hb' htt, ihr (fun x hx => ih x (List.mem_cons_of_mem _ hx)) _ hrr⟩
  intro l
  induction l with
  | nil => intro ao _; rw [RepL]; trivial
  | cons t r ih =>
    intro ao h
    rw [RepL] at h ⊢
    obtain ⟨b', off', e, hb', htt, hrr⟩ := h
    exact ⟨b', off', e, hb', ht t b' off' hb' htt, ih _ hrr⟩
theorem Keeps.repV {B : Nat} {w w' : World} (hk : Keeps B w w') {t : Tm} {v : Value} (h : RepV B w t v) : RepV B w' t v := by
  obtain ⟨k, n, s, l⟩ := t
  obtain ⟨ao, cap, e, h1, h2, h3, h4⟩ := h
  exact ⟨ao, cap, e, h1, h2, h3, hk.repL _ _ h4⟩
theorem Keeps.below {w w' : World} (h : Below w.heap.size w w') (B : Nat) : Keeps B w w' := fun b o v _ hc => by
  rw [h.cell (p := ⟨b, o, none⟩) (World.block_lt_of_cell? w _ hc)]; exact hc
theorem Keeps.set {B : Nat} (w : World) {a : Addr} (ha : a.block < B) (v : Value) : Keeps B w (w.setCell a v) := fun b o u hb hc => by
  rw [World.cell?_setCell_other (h := fun e => by subst e; exact absurd ha (by show ¬ b < B; omega))]; exact hc
theorem Keeps.trans {B : Nat} {a b c : World} (h : Keeps B a b) (k : Keeps B b c) : Keeps B a c := fun x o v hx hc => k x o v hx (h x o v hx hc)
theorem Keeps.refl (B : Nat) (a : World) : Keeps B a a := fun _ _ _ _ hc => hc

mutual
theorem RepT.mono {B B' : Nat} {w : World} (hB : B' ≤ B) : ∀ (t : Tm) (b off : Nat), RepT B w t b off → RepT B' w t b off
  | .mk k n s l, b, off, h => by
    rw [RepT] at h ⊢
    obtain ⟨h0, h1, h2, hs, ao, cap, h3, hl, hc, hr⟩ := h
    exact ⟨h0, h1, h2, hs, ao, cap, h3, hl, hc, RepL.mono hB l ao hr⟩
theorem RepL.mono {B B' : Nat} {w : World} (hB : B' ≤ B) : ∀ (l : List Tm) (ao : Option Addr), RepL B w l ao → RepL B' w l ao
  | [], _, _ => by rw [RepL]; trivial
  | t :: r, ao, h => by
    rw [RepL] at h ⊢
    obtain ⟨b, off, e, hb, ht, hr⟩ := h
    exact ⟨b, off, e, by omega, RepT.mono hB t b off ht, RepL.mono hB r _ hr⟩
end

/-- The i-th of a list. -/
theorem RepL.at {B : Nat} {w : World} : ∀ (l : List Tm) (ao : Option Addr), RepL B w l ao → ∀ i (hi : i < l.length), ∃ b off, ao = some ⟨b, off, none⟩ ∧ B ≤ b ∧ RepT B w l[i] b (off + i * 4)
  | [], _, _, i, hi => absurd hi (Nat.not_lt_zero _)
  | t :: r, ao, h, i, hi => by
    rw [RepL] at h
    obtain ⟨b, off, e, hb, ht, hr⟩ := h
    refine ⟨b, off, e, hb, ?_⟩
    cases i with
    | zero => simpa using ht
    | succ j =>
      obtain ⟨b', off', e', _, h'⟩ := RepL.at r _ hr j (by simpa using hi)
      simp only [Option.some.injEq, Addr.mk.injEq] at e'
      obtain ⟨rfl, rfl, _⟩ := e'
      have : off + (j + 1) * 4 = off + 4 + j * 4 := by omega
      rw [this]
      exact h'

/-- The same one by one: four cells each. -/
theorem RepL.mk {B : Nat} {w : World} {b : Nat} (hb : B ≤ b) : ∀ (l : List Tm) (off : Nat), (∀ i (hi : i < l.length), RepT B w l[i] b (off + i * 4)) → RepL B w l (some ⟨b, off, none⟩)
  | [], _, _ => by rw [RepL]; trivial
  | t :: r, off, h => by
    rw [RepL]
    refine ⟨b, off, rfl, hb, by have := h 0 (Nat.zero_lt_succ _); rw [List.getElem_cons_zero, Nat.zero_mul, Nat.add_zero] at this; exact this, RepL.mk hb r (off + 4) (fun i hi => ?_)⟩
    have := h (i + 1) (by simpa using hi)
    rw [show off + 4 + i * 4 = off + (i + 1) * 4 by omega]
    simpa using this

/-! ### The size -/
mutual
def szT : Tm → Int → Int
  | .mk _ _ s l, left => if left - s.size < 0 then -1 else if left - s.size - l.length < 0 then -1 else szGo l (left - s.size - l.length)
def szGo : List Tm → Int → Int
  | [], a => a
  | t :: r, a => if szT t a < 0 then -1 else szGo r (szT t a)
end
mutual
theorem szT_le : ∀ (t : Tm) (a : Int), 0 ≤ a → -1 ≤ szT t a ∧ szT t a ≤ a
  | .mk k n s l, a, ha => by
    rw [szT]
    split
    · omega
    · split
      · omega
      · have := szGo_le l (a - s.size - l.length) (by omega); omega
theorem szGo_le : ∀ (l : List Tm) (a : Int), 0 ≤ a → -1 ≤ szGo l a ∧ szGo l a ≤ a
  | [], a, ha => by rw [szGo]; omega
  | t :: r, a, ha => by
    rw [szGo]
    have h1 := szT_le t a ha
    split
    · omega
    · have := szGo_le r (szT t a) (by omega); omega
end

/-- Every list in it has at most so many. -/
def SmallT : Tm → Prop
  | .mk _ _ _ l => l.length ≤ 1048576 ∧ ∀ t, t ∈ l → SmallT t
theorem sz_small : ∀ (t : Tm) (a : Int), 0 ≤ a → a ≤ 1048576 → 0 ≤ szT t a → SmallT t := by
  refine Tm.ind ?_
  intro k n s l ih a ha hm h
  rw [szT] at h
  rw [SmallT]
  split at h
  · omega
  · split at h
    · omega
    · refine ⟨by omega, ?_⟩
      have key : ∀ (r : List Tm) (c : Int), 0 ≤ c → c ≤ 1048576 → 0 ≤ szGo r c → (∀ t, t ∈ r → t ∈ l) → ∀ t, t ∈ r → SmallT t := by
        intro r
        induction r with
        | nil => intro _ _ _ _ _ t ht; cases ht
        | cons x r ihr =>
          intro c hc hcm hr hsub t ht
          rw [szGo] at hr
          split at hr
          · omega
          · rename_i hx
            have hle := szT_le x c hc
            rcases List.mem_cons.1 ht with rfl | ht
            · exact ih _ (hsub _ (List.mem_cons_self ..)) c hc hcm (by omega)
            · exact ihr (szT x c) (by omega) (by omega) hr (fun y hy => hsub y (List.mem_cons_of_mem _ hy)) t ht
      exact key l _ (by omega) (by omega) h (fun _ h => h)
end Go.Proofs.Ytabgfaafpgholaa
