/-
  Rows that grow by append: what each thing's cells are, and that they are it.
-/
import Derived.Test.YtimnnedmpmlmdaaRwA
import Derived.Test.YtimnnedmpmlmdaaOsC
import Derived.Maps.AppendAt
import Derived.Laws.OwnMore
namespace Go.Proofs.Ytimnnedmpmlmdaa
open Go.RowKit
set_option linter.unusedVariables false

/-- What a row of one's own holds, cell by cell. -/
theorem owns_cells {w : World} {base : Nat} {T : TypeId} {s : Nat} {v : Value} {n : Nat} {xs : List Value} (h : w.ownsRow base T s v n xs) (hn : n ≠ 0) :
    ∃ g c, v = .slice (some ⟨g, 0, none⟩) n c ∧ base ≤ g ∧ n ≤ c ∧ c ≤ maxLen ∧ (∀ j u, xs[j]? = some u → w.cell? ⟨g, j, none⟩ = some u) ∧ (∀ x, w.frozen? ⟨g, x, none⟩ = false) ∧ g < w.heap.size := by
  obtain ⟨_, h1 | ⟨g, c, cur, rfl, hg, hh, hn', hc, hsz, htk⟩⟩ := h
  · exact absurd h1.2 hn
  · refine ⟨g, c, rfl, hg, hn', hc, fun j u hj => ?_, fun x => by simp [World.frozen?, hh], ?_⟩
    · have hcell : w.cell? ⟨g, j, none⟩ = cur[j]? := by simp [World.cell?, hh]
      rw [hcell, ← Array.getElem?_toList]
      rw [← htk, List.getElem?_take] at hj
      split at hj
      · exact hj
      · cases hj
    · rcases Nat.lt_or_ge g w.heap.size with h | h
      · exact h
      · rw [Array.getElem?_eq_none h] at hh; cases hh
variable {α : Type} {e : Elt α}
/-- These cells are a, wherever they lie, as long as its own blocks stand. -/
def VE (e : Elt α) (w : World) (a : α) (vs : List Value) (bs : List Nat) : Prop :=
  vs.length = e.s ∧ (∀ b ∈ bs, b < w.heap.size) ∧ ∀ (w' : World) (b off : Nat), (∀ j v, vs[j]? = some v → w'.cell? ⟨b, off + j, none⟩ = some v) → (∀ x ∈ bs, w'.heap[x]? = w.heap[x]?) → e.E w' a bs b off
def VL (e : Elt α) (w : World) : List α → List Value → List Nat → Prop
  | [], xs, bs => xs = [] ∧ bs = []
  | a :: l, xs, bs => ∃ vs ys b1 b2, xs = vs ++ ys ∧ bs = b1 ++ b2 ∧ VE e w a vs b1 ∧ VL e w l ys b2
theorem VE.keep {w w' : World} {a : α} {vs : List Value} {bs : List Nat} (h : VE e w a vs bs) (hz : w.heap.size ≤ w'.heap.size) (hk : ∀ x ∈ bs, w'.heap[x]? = w.heap[x]?) : VE e w' a vs bs :=
  ⟨h.1, fun b hb => Nat.lt_of_lt_of_le (h.2.1 b hb) hz, fun w2 b off hc hw => h.2.2 w2 b off hc (fun x hx => (hw x hx).trans (hk x hx))⟩
theorem VL.keep {w w' : World} (hz : w.heap.size ≤ w'.heap.size) : ∀ {l : List α} {xs : List Value} {bs : List Nat}, VL e w l xs bs → (∀ x ∈ bs, w'.heap[x]? = w.heap[x]?) → VL e w' l xs bs
  | [], _, _, h, _ => h
  | a :: l, _, _, ⟨vs, ys, b1, b2, h1, h2, h3, h4⟩, hk => by
    subst h1 h2
    exact ⟨vs, ys, b1, b2, rfl, rfl, h3.keep hz (fun x hx => hk x (List.mem_append_left _ hx)), VL.keep hz h4 (fun x hx => hk x (List.mem_append_right _ hx))⟩
theorem VL.snoc {w : World} {a : α} {vs : List Value} {b : List Nat} (hv : VE e w a vs b) : ∀ {l : List α} {xs : List Value} {bs : List Nat}, VL e w l xs bs → VL e w (l ++ [a]) (xs ++ vs) (bs ++ b)
  | [], _, _, ⟨h1, h2⟩ => by subst h1 h2; exact ⟨vs, [], b, [], by simp, by simp, hv, rfl, rfl⟩
  | x :: l, _, _, ⟨ws, ys, b1, b2, h1, h2, h3, h4⟩ => by
    subst h1 h2
    exact ⟨ws, ys ++ vs, b1, b2 ++ b, by simp, by simp, h3, VL.snoc hv h4⟩
theorem VL.lt {w : World} : ∀ {l : List α} {xs : List Value} {bs : List Nat}, VL e w l xs bs → ∀ b ∈ bs, b < w.heap.size
  | [], _, _, ⟨_, h2⟩, b, hb => by subst h2; cases hb
  | a :: l, _, _, ⟨vs, ys, b1, b2, h1, h2, h3, h4⟩, b, hb => by
    subst h2
    rcases List.mem_append.1 hb with hb | hb
    · exact h3.2.1 b hb
    · exact VL.lt h4 b hb
theorem VL.row {w : World} {g : Nat} : ∀ {l : List α} {xs : List Value} {bs : List Nat} (off : Nat), VL e w l xs bs → (∀ j v, xs[j]? = some v → w.cell? ⟨g, off + j, none⟩ = some v) → GR e w l bs g off
  | [], _, _, off, ⟨_, h2⟩, _ => by rw [GR]; exact h2
  | a :: l, _, _, off, ⟨vs, ys, b1, b2, h1, h2, h3, h4⟩, hc => by
    subst h1 h2
    rw [GR]
    refine ⟨b1, b2, rfl, h3.2.2 w g off (fun j v hj => hc j v (by rw [List.getElem?_append_left (List.getElem?_eq_some_iff.1 hj).1]; exact hj)) (fun _ _ => rfl), VL.row (off + e.s) h4 (fun j v hj => ?_)⟩
    have := hc (e.s + j) v (by rw [List.getElem?_append_right (by rw [h3.1]; omega), h3.1, show e.s + j - e.s = j by omega]; exact hj)
    rw [show off + e.s + j = off + (e.s + j) by omega]; exact this
/-- A row of one's own of such things. -/
theorem VL.gl {w : World} {base : Nat} {T : TypeId} {u : Value} {l : List α} {xs : List Value} {bs : List Nat} (h : VL e w l xs bs) (ho : w.ownsRow base T e.s u l.length xs) :
    ∃ ao c, u = .slice ao l.length c ∧ l.length ≤ c ∧ c ≤ maxLen ∧ ∃ bs', GL e w l bs' ao ∧ (∀ b ∈ bs', b ∈ bs ∨ u.ownBlock = some b) ∧ (bs.Nodup → (∀ b ∈ bs, u.ownBlock ≠ some b) → bs'.Nodup) := by
  cases l with
  | nil =>
    obtain ⟨h1, h2⟩ := h
    subst h1 h2
    obtain ⟨_, ⟨h1, _⟩ | ⟨g, c, cur, rfl, hg, hh, hn', hc, hsz, htk⟩⟩ := ho
    · exact ⟨none, 0, h1, Nat.le_refl _, Nat.zero_le _, [], .inl ⟨rfl, rfl⟩, (fun b hb => by cases hb), fun _ _ => List.nodup_nil⟩
    · exact ⟨_, c, rfl, hn', hc, [], .inl ⟨rfl, rfl⟩, (fun b hb => by cases hb), fun _ _ => List.nodup_nil⟩
  | cons a l =>
    obtain ⟨g, c, rfl, h1, h2, h3, h4, h5, h6⟩ := owns_cells ho (by simp)
    refine ⟨_, c, rfl, h2, h3, g :: bs, .inr ⟨by simp, g, 0, bs, rfl, rfl, h5, h.row 0 (fun j v hj => by rw [Nat.zero_add]; exact h4 j v hj)⟩, fun b hb => ?_, fun hn hd => List.nodup_cons.2 ⟨fun hm => hd g hm rfl, hn⟩⟩
    rcases List.mem_cons.1 hb with rfl | hb
    · exact .inr rfl
    · exact .inl hb
theorem osV_lt {w : World} {bs : List Nat} {t : Tm} {v : Value} (h : OsV w bs t v) : ∀ b ∈ bs, b < w.heap.size := by
  obtain ⟨k, m, s, l⟩ := t
  obtain ⟨ao, cp, _, _, _, _, h4⟩ := h
  exact OsL.lt _ _ _ h4
theorem osV_keep {w w' : World} {bs : List Nat} {t : Tm} {v : Value} (h : OsV w bs t v) (hk : ∀ b ∈ bs, b < w.heap.size → w'.heap[b]? = w.heap[b]?) : OsV w' bs t v := by
  obtain ⟨k, m, s, l⟩ := t
  obtain ⟨ao, cp, h1, h2, h3, h4, h5⟩ := h
  exact ⟨ao, cp, h1, h2, h3, h4, OsL.keep _ _ _ hk h5⟩
end Go.Proofs.Ytimnnedmpmlmdaa
