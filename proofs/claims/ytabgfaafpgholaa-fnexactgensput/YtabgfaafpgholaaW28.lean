/-
  A term whose lists stand each in a block, the blocks told as a list: what keeps it, its parts, what is read of it.
-/
import Derived.Test.YtabgfaafpgholaaW5
import Derived.Test.YtabgfaafpgholaaW4
import Derived.Test.YtabgfaafpgholaaW27
namespace Go.Proofs.Ytabgfaafpgholaa
open Go.RowKit
set_option linter.unusedVariables false

mutual
/-- The four cells from off on in the block b are the term t; the lists in it stand in the blocks bs. -/
def OsT (w : World) : Tm → List Nat → Nat → Nat → Prop
  | .mk k n s l, bs, b, off => w.cell? ⟨b, off, none⟩ = some (.int .i64 k) ∧ w.cell? ⟨b, off + 1, none⟩ = some (.int .i64 n) ∧ w.cell? ⟨b, off + 2, none⟩ = some (.string s) ∧ s.size ≤ 1048576 ∧
      ∃ ao cap, w.cell? ⟨b, off + 3, none⟩ = some (.slice ao l.length cap) ∧ l.length ≤ cap ∧ cap ≤ maxLen ∧ OsL w l bs ao
/-- From off on in the block g stand the terms of l. -/
def OsR (w : World) : List Tm → List Nat → Nat → Nat → Prop
  | [], bs, _, _ => bs = []
  | t :: r, bs, g, off => ∃ b1 b2, bs = b1 ++ b2 ∧ OsT w t b1 g off ∧ OsR w r b2 g (off + 4)
def OsL (w : World) : List Tm → List Nat → Option Addr → Prop
  | [], bs, _ => bs = []
  | t :: r, bs, ao => ∃ g o b1 b2, bs = g :: (b1 ++ b2) ∧ ao = some ⟨g, o, none⟩ ∧ (∀ x, w.frozen? ⟨g, x, none⟩ = false) ∧ OsT w t b1 g o ∧ OsR w r b2 g (o + 4)
end
def OsV (w : World) (bs : List Nat) : Tm → Value → Prop
  | .mk k n s l, v => ∃ ao cap, v = .agg #[.int .i64 k, .int .i64 n, .string s, .slice ao l.length cap] ∧ s.size ≤ 1048576 ∧ l.length ≤ cap ∧ cap ≤ maxLen ∧ OsL w l bs ao
theorem OsL.iff {w : World} {l : List Tm} {bs : List Nat} {ao : Option Addr} (hl : l ≠ []) : OsL w l bs ao ↔ ∃ g o b, bs = g :: b ∧ ao = some ⟨g, o, none⟩ ∧ (∀ x, w.frozen? ⟨g, x, none⟩ = false) ∧ OsR w l b g o := by
  cases l with
  | nil => exact absurd rfl hl
  | cons t r =>
    rw [OsL]
    constructor
    · rintro ⟨g, o, b1, b2, e1, e2, h3, h4, h5⟩
      exact ⟨g, o, b1 ++ b2, e1, e2, h3, by rw [OsR]; exact ⟨b1, b2, rfl, h4, h5⟩⟩
    · rintro ⟨g, o, b, e1, e2, h3, h4⟩
      rw [OsR] at h4
      obtain ⟨b1, b2, e3, h5, h6⟩ := h4
      exact ⟨g, o, b1, b2, by rw [e1, e3], e2, h3, h5, h6⟩
theorem OsT.head {w : World} {t : Tm} {bs : List Nat} {b off : Nat} (h : OsT w t bs b off) : ∃ v, w.cell? ⟨b, off, none⟩ = some v := by
  obtain ⟨k, n, s, l⟩ := t
  rw [OsT] at h
  exact ⟨_, h.1⟩
mutual
theorem OsT.keep {w w' : World} : ∀ (t : Tm) (bs : List Nat) (b off : Nat), (∀ x ∈ bs, x < w.heap.size → w'.heap[x]? = w.heap[x]?) → (∀ j v, j < 4 → w.cell? ⟨b, off + j, none⟩ = some v → w'.cell? ⟨b, off + j, none⟩ = some v) → OsT w t bs b off → OsT w' t bs b off
  | .mk k n s l, bs, b, off, hk, hc, h => by
    rw [OsT] at h ⊢
    obtain ⟨h0, h1, h2, hs, ao, cap, h3, hl, hcp, hr⟩ := h
    exact ⟨hc 0 _ (by omega) h0, hc 1 _ (by omega) h1, hc 2 _ (by omega) h2, hs, ao, cap, hc 3 _ (by omega) h3, hl, hcp, OsL.keep l bs ao hk hr⟩
theorem OsR.keep {w w' : World} : ∀ (l : List Tm) (bs : List Nat) (g off : Nat), (∀ x ∈ bs, x < w.heap.size → w'.heap[x]? = w.heap[x]?) → (∀ o v, off ≤ o → o < off + 4 * l.length → w.cell? ⟨g, o, none⟩ = some v → w'.cell? ⟨g, o, none⟩ = some v) → OsR w l bs g off → OsR w' l bs g off
  | [], bs, g, off, _, _, h => by rw [OsR] at h ⊢; exact h
  | t :: r, bs, g, off, hk, hc, h => by
    rw [OsR] at h ⊢
    obtain ⟨b1, b2, e, h4, h5⟩ := h
    subst e
    exact ⟨b1, b2, rfl, OsT.keep t b1 g off (fun x hx => hk x (List.mem_append_left _ hx)) (fun j v hj hv => hc _ v (by omega) (by simp; omega) hv) h4, OsR.keep r b2 g (off + 4) (fun x hx => hk x (List.mem_append_right _ hx)) (fun o v ho1 ho2 hv => hc o v (by omega) (by simp; omega) hv) h5⟩
theorem OsL.keep {w w' : World} : ∀ (l : List Tm) (bs : List Nat) (ao : Option Addr), (∀ x ∈ bs, x < w.heap.size → w'.heap[x]? = w.heap[x]?) → OsL w l bs ao → OsL w' l bs ao
  | [], _, _, _, h => by rw [OsL] at h ⊢; exact h
  | t :: r, bs, ao, hk, h => by
    rw [OsL] at h ⊢
    obtain ⟨g, o, b1, b2, e1, e2, hf, h4, h5⟩ := h
    subst e1
    have hgl : g < w.heap.size := by
      obtain ⟨v, hv⟩ := OsT.head h4
      exact World.block_lt_of_cell? w _ hv
    have hg := hk g (List.mem_cons_self ..) hgl
    have hc : ∀ x v, w.cell? ⟨g, x, none⟩ = some v → w'.cell? ⟨g, x, none⟩ = some v := fun x v hv => by rw [World.cell?_of_block (w := w) hg]; exact hv
    exact ⟨g, o, b1, b2, rfl, e2, fun x => by rw [World.frozen?_of_block (w := w) hg]; exact hf x, OsT.keep t b1 g o (fun x hx => hk x (List.mem_cons_of_mem _ (List.mem_append_left _ hx))) (fun j v _ hv => hc _ v hv) h4, OsR.keep r b2 g (o + 4) (fun x hx => hk x (List.mem_cons_of_mem _ (List.mem_append_right _ hx))) (fun x v _ _ hv => hc x v hv) h5⟩
end
theorem OsV.keep {w w' : World} {t : Tm} {bs : List Nat} {v : Value} (hk : ∀ x ∈ bs, x < w.heap.size → w'.heap[x]? = w.heap[x]?) (h : OsV w bs t v) : OsV w' bs t v := by
  obtain ⟨k, n, s, l⟩ := t
  obtain ⟨ao, cap, e, b1, b2, b3, b4⟩ := h
  exact ⟨ao, cap, e, b1, b2, b3, OsL.keep _ _ _ hk b4⟩
theorem OsL.below {w w' : World} {l : List Tm} {bs : List Nat} {ao : Option Addr} (hb : Below w.heap.size w w') (h : OsL w l bs ao) : OsL w' l bs ao := OsL.keep l bs ao (fun x _ hx => hb.block x hx) h
theorem OsV.below {w w' : World} {t : Tm} {bs : List Nat} {v : Value} (hb : Below w.heap.size w w') (h : OsV w bs t v) : OsV w' bs t v := h.keep (fun x _ hx => hb.block x hx)
theorem OsV.form {w : World} {bs : List Nat} {t : Tm} {v : Value} (h : OsV w bs t v) : ∃ a b c d e f, v = .agg #[.int .i64 a, .int .i64 b, .string c, .slice d e f] := by
  obtain ⟨k, n, s, l⟩ := t
  obtain ⟨ao, cap, e, _⟩ := h
  exact ⟨_, _, _, _, _, _, e⟩
mutual
theorem OsT.rep {w : World} : ∀ (t : Tm) (bs : List Nat) (b off : Nat), OsT w t bs b off → RepT 0 w t b off
  | .mk k n s l, bs, b, off, h => by
    rw [OsT] at h
    rw [RepT]
    obtain ⟨h0, h1, h2, hs, ao, cap, h3, hl, hcp, hr⟩ := h
    exact ⟨h0, h1, h2, by unfold maxLen; omega, ao, cap, h3, hl, hcp, OsL.rep l bs ao hr⟩
theorem OsR.rep {w : World} : ∀ (l : List Tm) (bs : List Nat) (g off : Nat), OsR w l bs g off → RepL 0 w l (some ⟨g, off, none⟩)
  | [], bs, g, off, h => by rw [RepL]; trivial
  | t :: r, bs, g, off, h => by
    rw [OsR] at h
    rw [RepL]
    obtain ⟨b1, b2, _, h4, h5⟩ := h
    exact ⟨g, off, rfl, Nat.zero_le _, OsT.rep t b1 g off h4, OsR.rep r b2 g (off + 4) h5⟩
theorem OsL.rep {w : World} : ∀ (l : List Tm) (bs : List Nat) (ao : Option Addr), OsL w l bs ao → RepL 0 w l ao
  | [], _, _, _ => by rw [RepL]; trivial
  | t :: r, bs, ao, h => by
    rw [OsL] at h
    rw [RepL]
    obtain ⟨g, o, b1, b2, _, e, _, h4, h5⟩ := h
    exact ⟨g, o, e, Nat.zero_le _, OsT.rep t b1 g o h4, OsR.rep r b2 g (o + 4) h5⟩
end
theorem OsV.rep {w : World} {bs : List Nat} {t : Tm} {v : Value} (h : OsV w bs t v) : RepV 0 w t v := by
  obtain ⟨k, n, s, l⟩ := t
  obtain ⟨ao, cap, e, b1, b2, b3, b4⟩ := h
  exact ⟨ao, cap, e, by unfold maxLen; omega, b2, b3, OsL.rep _ _ _ b4⟩
mutual
theorem OsT.lt {w : World} : ∀ (t : Tm) (bs : List Nat) (b off : Nat), OsT w t bs b off → ∀ x ∈ bs, x < w.heap.size
  | .mk k n s l, bs, b, off, h, x, hx => by
    rw [OsT] at h
    obtain ⟨_, _, _, _, ao, cap, _, _, _, hr⟩ := h
    exact OsL.lt l bs ao hr x hx
theorem OsR.lt {w : World} : ∀ (l : List Tm) (bs : List Nat) (g off : Nat), OsR w l bs g off → ∀ x ∈ bs, x < w.heap.size
  | [], bs, g, off, h, x, hx => by rw [OsR] at h; rw [h] at hx; cases hx
  | t :: r, bs, g, off, h, x, hx => by
    rw [OsR] at h
    obtain ⟨b1, b2, e, h4, h5⟩ := h
    rw [e] at hx
    rcases List.mem_append.1 hx with hx | hx
    · exact OsT.lt t b1 g off h4 x hx
    · exact OsR.lt r b2 g (off + 4) h5 x hx
theorem OsL.lt {w : World} : ∀ (l : List Tm) (bs : List Nat) (ao : Option Addr), OsL w l bs ao → ∀ x ∈ bs, x < w.heap.size
  | [], bs, _, h, x, hx => by rw [OsL] at h; rw [h] at hx; cases hx
  | t :: r, bs, ao, h, x, hx => by
    rw [OsL] at h
    obtain ⟨g, o, b1, b2, e, _, _, h4, h5⟩ := h
    rw [e] at hx
    rcases List.mem_cons.1 hx with rfl | hx
    · obtain ⟨v, hv⟩ := OsT.head h4
      exact World.block_lt_of_cell? w _ hv
    · rcases List.mem_append.1 hx with hx | hx
      · exact OsT.lt t b1 g o h4 x hx
      · exact OsR.lt r b2 g (o + 4) h5 x hx
end
/-! ### One of a row -/
theorem OsR.split {w : World} {t : Tm} {B : List Tm} {g : Nat} : ∀ {A : List Tm} {bs : List Nat} {off : Nat}, OsR w (A ++ t :: B) bs g off → ∃ ba bt bb, bs = ba ++ (bt ++ bb) ∧ OsR w A ba g off ∧ OsT w t bt g (off + A.length * 4) ∧ OsR w B bb g (off + A.length * 4 + 4)
  | [], bs, off, h => by
    rw [List.nil_append, OsR] at h
    obtain ⟨b1, b2, e, h4, h5⟩ := h
    exact ⟨[], b1, b2, e, by rw [OsR], by simpa using h4, by simpa using h5⟩
  | x :: A, bs, off, h => by
    rw [List.cons_append, OsR] at h
    obtain ⟨b1, b2, e, h4, h5⟩ := h
    obtain ⟨ba, bt, bb, e2, h6, h7, h8⟩ := OsR.split h5
    have el : off + 4 + A.length * 4 = off + (x :: A).length * 4 := by simp; omega
    rw [el] at h7 h8
    exact ⟨b1 ++ ba, bt, bb, by rw [e, e2, List.append_assoc], by rw [OsR]; exact ⟨b1, ba, rfl, h4, h6⟩, h7, h8⟩
theorem OsR.join {w : World} {t : Tm} {B : List Tm} {g : Nat} {bt bb : List Nat} : ∀ {A : List Tm} {ba : List Nat} {off : Nat}, OsR w A ba g off → OsT w t bt g (off + A.length * 4) → OsR w B bb g (off + A.length * 4 + 4) → OsR w (A ++ t :: B) (ba ++ (bt ++ bb)) g off
  | [], ba, off, h, h4, h5 => by
    rw [OsR] at h
    subst h
    rw [List.nil_append, OsR]
    exact ⟨bt, bb, rfl, by simpa using h4, by simpa using h5⟩
  | x :: A, ba, off, h, h4, h5 => by
    rw [OsR] at h
    obtain ⟨b1, b2, e, h6, h7⟩ := h
    have el : off + 4 + A.length * 4 = off + (x :: A).length * 4 := by simp; omega
    rw [← el] at h4 h5
    rw [List.cons_append, OsR]
    exact ⟨b1, b2 ++ (bt ++ bb), by rw [e, List.append_assoc], h6, OsR.join h7 h4 h5⟩
theorem OsL.plain {w : World} {l : List Tm} {g o : Nat} {bs : List Nat} (hl : l ≠ []) (h : OsL w l bs (some ⟨g, o, none⟩)) : Plain w g := by
  obtain ⟨g', o', b, _, e, hf, hr⟩ := (OsL.iff hl).1 h
  simp only [Option.some.injEq, Addr.mk.injEq, and_true] at e
  obtain ⟨rfl, rfl⟩ := e
  cases l with
  | nil => exact absurd rfl hl
  | cons t r =>
    rw [OsR] at hr
    obtain ⟨_, _, _, ht, _⟩ := hr
    obtain ⟨v, hv⟩ := ht.head
    exact ⟨blk_of_cell hv, hf⟩
/-- How many terms there are. -/
def ntL : List Tm → Nat
  | [] => 0
  | .mk _ _ _ l :: r => 1 + ntL l + ntL r
/-- How many there are in what stands in it. -/
def inL : List Tm → Nat
  | [] => 0
  | .mk _ _ _ l :: r => ntL l + inL r
theorem ntL_eq : ∀ l : List Tm, ntL l = l.length + inL l
  | [] => by rw [ntL, inL]; rfl
  | .mk k n s l :: r => by rw [ntL, inL, ntL_eq r, List.length_cons]; omega
end Go.Proofs.Ytabgfaafpgholaa
