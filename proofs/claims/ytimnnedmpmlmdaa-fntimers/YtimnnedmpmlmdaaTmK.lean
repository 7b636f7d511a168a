/-
  Copies that the laws make of terms: each list in a block of its own.
-/
import Derived.Test.YtimnnedmpmlmdaaOsA
namespace Go.Proofs.Ytimnnedmpmlmdaa
open Go.RowKit
set_option linter.unusedVariables false

/-- Texts and lists in it have at most so many. -/
def StS : Tm → Prop
  | .mk _ _ s l => s.size ≤ 1048576 ∧ l.length ≤ 1048576 ∧ ∀ t, t ∈ l → StS t
theorem sz_sts : ∀ (t : Tm) (a : Int), 0 ≤ a → a ≤ 1048576 → 0 ≤ szT t a → StS t := by
  refine Tm.ind ?_
  intro k n s l ih a ha hm h
  rw [szT] at h
  rw [StS]
  split at h
  · omega
  · split at h
    · omega
    · refine ⟨by omega, by omega, ?_⟩
      have go : ∀ (m : List Tm) (c : Int), (∀ t, t ∈ m → t ∈ l) → 0 ≤ c → c ≤ 1048576 → 0 ≤ szGo m c → ∀ t, t ∈ m → StS t := by
        intro m
        induction m with
        | nil => intro c _ _ _ _ t ht; cases ht
        | cons x r ihr =>
          intro c hsub h0 h1 hz t ht
          rw [szGo] at hz
          have hx := szT_le x c h0
          split at hz
          · omega
          · rcases List.mem_cons.1 ht with rfl | ht
            · exact ih t (hsub t (by simp)) c h0 h1 (by omega)
            · exact ihr (szT x c) (fun y hy => hsub y (by simp [hy])) (by omega) (by omega) hz t ht
      exact go l _ (fun t h => h) (by omega) (by omega) h
/-- What is counted. -/
theorem szGo_nt : ∀ (l : List Tm) (a : Int), 0 ≤ a → 0 ≤ szGo l a → szGo l a + (inL l : Int) ≤ a
  | [], a, h0, h => by rw [szGo, inL]; omega
  | .mk k n s l :: r, a, h0, h => by
    rw [szGo] at h ⊢
    have hx := szT_le (.mk k n s l) a h0
    split at h
    · omega
    · rename_i hq
      rw [if_neg hq]
      have h1 := szGo_nt r (szT (.mk k n s l) a) (by omega) h
      have h2 : szT (.mk k n s l) a + (ntL l : Int) ≤ a := by
        rw [szT] at hq ⊢
        split
        · rename_i h3; rw [if_pos h3] at hq; omega
        · rename_i h3
          rw [if_neg h3] at hq
          split
          · rename_i h4; rw [if_pos h4] at hq; omega
          · rename_i h4
            rw [if_neg h4] at hq
            have h5 := szGo_nt l (a - s.size - l.length) (by omega) (by omega)
            have h6 := ntL_eq l
            omega
      rw [inL]
      omega
theorem szT_nt (k n : Int) (s : ByteArray) (l : List Tm) (a : Int) (h0 : 0 ≤ a) (h : 0 ≤ szT (.mk k n s l) a) : (ntL l : Int) ≤ a := by
  rw [szT] at h
  split at h
  · omega
  · split at h
    · omega
    · have h5 := szGo_nt l (a - s.size - l.length) (by omega) h
      have h6 := ntL_eq l
      omega

structure MadeO (w wr : World) (g : Nat) (l : List Tm) (k : Nat) (bs : List Nat) : Prop where
  below : Below w.heap.size w wr
  lt : g < wr.heap.size
  some : ∀ j, j < l.length * 4 → (wr.cell? ⟨g, j, none⟩).isSome = true
  free : ∀ o, wr.frozen? ⟨g, o, none⟩ = false
  row : OsR wr (l.take k) bs g 0
  nd : (g :: bs).Nodup
  lo : ∀ b ∈ bs, w.heap.size ≤ b
theorem MadeO.call {w wr w1 : World} {g : Nat} {l : List Tm} {k : Nat} {bs : List Nat} (h : MadeO w wr g l k bs) (hb : Below wr.heap.size wr w1) : MadeO w w1 g l k bs where
  below := h.below.trans (hb.mono h.below.size)
  lt := Nat.lt_of_lt_of_le h.lt hb.size
  some := fun j hj => by rw [hb.cell (p := ⟨g, j, none⟩) h.lt]; exact h.some j hj
  free := fun o => by rw [hb.frozen (p := ⟨g, o, none⟩) h.lt]; exact h.free o
  row := OsR.keep _ _ _ _ (fun x _ hx => hb.block x hx) (fun o v _ _ hv => by rw [hb.cell (p := ⟨g, o, none⟩) h.lt]; exact hv) h.row
  nd := h.nd
  lo := h.lo
theorem set4_blk {w : World} {g o x : Nat} {a b c d : Value} (h : x ≠ g) : (set4 w g o a b c d).heap[x]? = w.heap[x]? := by
  unfold set4
  rw [Below.heap_setCell _ ⟨g, o + 3, none⟩ _ x h, Below.heap_setCell _ ⟨g, o + 2, none⟩ _ x h, Below.heap_setCell _ ⟨g, o + 1, none⟩ _ x h, Below.heap_setCell _ ⟨g, o, none⟩ _ x h]
theorem MadeO.store {w wr : World} {g : Nat} {l : List Tm} {k B : Nat} {bs bt : List Nat} (h : MadeO w wr g l k bs) (hg : w.heap.size ≤ g) (hk : k < l.length) {a b c d : Value} (hv : OsV wr bt l[k] (.agg #[a, b, c, d])) (hnt : bt.Nodup) (hB : ∀ x ∈ bt, B ≤ x) (hold : ∀ x ∈ bs, x < B) (hgB : g < B) : MadeO w (set4 wr g (k * 4) a b c d) g l (k + 1) (bs ++ (bt ++ [])) := by
  have hin := set4_in (w := wr) (g := g) (o := k * 4) (a := a) (b := b) (c := c) (d := d) (fun j hj => h.some (k * 4 + j) (by omega))
  have hlen : (l.take k).length = k := by simp; omega
  have hwg : ∀ x ∈ bs, x ≠ g := fun x hx e => (List.nodup_cons.1 h.nd).1 (by rw [← e]; exact hx)
  refine ⟨?_, by rw [set4_size]; exact h.lt, ?_, fun o => by rw [set4_frozen]; exact h.free o, ?_, ?_, fun x hx => ?_⟩
  · exact ((((h.below.setCell (p := ⟨g, k * 4, none⟩) hg _).setCell (p := ⟨g, k * 4 + 1, none⟩) hg _).setCell (p := ⟨g, k * 4 + 2, none⟩) hg _).setCell (p := ⟨g, k * 4 + 3, none⟩) hg _)
  · intro j hj
    by_cases hj1 : j < k * 4 ∨ k * 4 + 3 < j
    · rw [set4_far (p := ⟨g, j, none⟩) (Or.inr hj1)]; exact h.some j hj
    · have : j = k * 4 ∨ j = k * 4 + 1 ∨ j = k * 4 + 2 ∨ j = k * 4 + 3 := by omega
      rcases this with rfl | rfl | rfl | rfl
      · rw [hin.1]; rfl
      · rw [hin.2.1]; rfl
      · rw [hin.2.2.1]; rfl
      · rw [hin.2.2.2]; rfl
  · rw [List.take_succ_eq_append_getElem hk]
    revert hv
    generalize l[k] = t
    intro hv
    obtain ⟨k', n', s', l'⟩ := t
    obtain ⟨ao, cap, e, hs, hl, hc, hr⟩ := hv
    simp only [Value.agg.injEq, Array.mk.injEq, List.cons.injEq, and_true] at e
    obtain ⟨rfl, rfl, rfl, rfl⟩ := e
    refine OsR.join (OsR.keep _ _ _ _ (fun x hx _ => set4_blk (hwg x hx)) (fun o v _ ho hv => ?_) h.row) ?_ (by rw [OsR])
    · rw [hlen] at ho
      rw [set4_far (p := ⟨g, o, none⟩) (Or.inr (by show o < k * 4 ∨ _; omega))]; exact hv
    · rw [hlen, Nat.zero_add, OsT]
      exact ⟨hin.1, hin.2.1, hin.2.2.1, hs, ao, cap, hin.2.2.2, hl, hc, OsL.keep _ _ _ (fun x hx _ => set4_blk (by have := hB x hx; omega)) hr⟩
  · rw [List.append_nil, List.nodup_cons]
    obtain ⟨n1, n2⟩ := List.nodup_cons.1 h.nd
    refine ⟨fun hm => ?_, List.nodup_append.2 ⟨n2, hnt, fun x hx y hy e => ?_⟩⟩
    · rcases List.mem_append.1 hm with h1 | h1
      · exact n1 h1
      · have := hB g h1; omega
    · have h1 := hold x hx
      have h2 := hB y hy
      omega
  · rw [List.append_nil] at hx
    rcases List.mem_append.1 hx with h1 | h1
    · exact h.lo x h1
    · have := hB x h1; omega
theorem madeO_start (w : World) (l : List Tm) : MadeO w (w.alloc (.cells (zeros l.length) 30)) w.heap.size l 0 [] := by
  have h := made_start w l
  exact ⟨h.below, h.lt, h.some, h.free, by simp [OsR], by simp, fun b hb => by cases hb⟩

end Go.Proofs.Ytimnnedmpmlmdaa
