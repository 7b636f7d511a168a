/-
  Rows of anything that takes so many cells: each in its place of one block, what it leads to in blocks of its own, told as a list.
-/
import Derived.Test.YtimnnedmpmlmdaaOsA
import Derived.Laws.IdiomCopy
namespace Go.Proofs.Ytimnnedmpmlmdaa
open Go.RowKit
set_option linter.unusedVariables false

/-- A kind of thing: how many cells it takes, how it stands in memory, what keeps it there. -/
structure Elt (α : Type) where
  s : Nat
  E : World → α → List Nat → Nat → Nat → Prop
  pos : 0 < s
  keep : ∀ {w w' : World} {a : α} {bs : List Nat} {b off : Nat}, (∀ x ∈ bs, x < w.heap.size → w'.heap[x]? = w.heap[x]?) → (∀ j v, j < s → w.cell? ⟨b, off + j, none⟩ = some v → w'.cell? ⟨b, off + j, none⟩ = some v) → E w a bs b off → E w' a bs b off
  lt : ∀ {w : World} {a : α} {bs : List Nat} {b off : Nat}, E w a bs b off → ∀ x ∈ bs, x < w.heap.size
  head : ∀ {w : World} {a : α} {bs : List Nat} {b off : Nat}, E w a bs b off → ∃ v, w.cell? ⟨b, off, none⟩ = some v
variable {α : Type} {e : Elt α}
/-- From off on in the block g stand the things of l. -/
def GR (e : Elt α) (w : World) : List α → List Nat → Nat → Nat → Prop
  | [], bs, _, _ => bs = []
  | t :: r, bs, g, off => ∃ b1 b2, bs = b1 ++ b2 ∧ e.E w t b1 g off ∧ GR e w r b2 g (off + e.s)
/-- The list l, its block and all others of it told. -/
def GL (e : Elt α) (w : World) (l : List α) (bs : List Nat) (ao : Option Addr) : Prop :=
  (l = [] ∧ bs = []) ∨ (l ≠ [] ∧ ∃ g o b, bs = g :: b ∧ ao = some ⟨g, o, none⟩ ∧ (∀ x, w.frozen? ⟨g, x, none⟩ = false) ∧ GR e w l b g o)
theorem GR.keep {w w' : World} : ∀ (l : List α) (bs : List Nat) (g off : Nat), (∀ x ∈ bs, x < w.heap.size → w'.heap[x]? = w.heap[x]?) → (∀ o v, off ≤ o → o < off + e.s * l.length → w.cell? ⟨g, o, none⟩ = some v → w'.cell? ⟨g, o, none⟩ = some v) → GR e w l bs g off → GR e w' l bs g off
  | [], bs, g, off, _, _, h => by rw [GR] at h ⊢; exact h
  | t :: r, bs, g, off, hk, hc, h => by
    rw [GR] at h ⊢
    obtain ⟨b1, b2, eb, h4, h5⟩ := h
    subst eb
    have hl : e.s * (t :: r).length = e.s * r.length + e.s := by rw [List.length_cons, Nat.mul_succ]
    exact ⟨b1, b2, rfl, e.keep (fun x hx => hk x (List.mem_append_left _ hx)) (fun j v hj hv => hc _ v (by omega) (by omega) hv) h4, GR.keep r b2 g (off + e.s) (fun x hx => hk x (List.mem_append_right _ hx)) (fun o v ho1 ho2 hv => hc o v (by omega) (by omega) hv) h5⟩
theorem GR.lt {w : World} : ∀ {l : List α} {bs : List Nat} {g off : Nat}, GR e w l bs g off → ∀ x ∈ bs, x < w.heap.size
  | [], bs, g, off, h, x, hx => by rw [GR] at h; rw [h] at hx; cases hx
  | t :: r, bs, g, off, h, x, hx => by
    rw [GR] at h
    obtain ⟨b1, b2, eb, h4, h5⟩ := h
    rw [eb] at hx
    rcases List.mem_append.1 hx with hx | hx
    · exact e.lt h4 x hx
    · exact GR.lt h5 x hx
theorem GR.split {w : World} {t : α} {B : List α} {g : Nat} : ∀ {A : List α} {bs : List Nat} {off : Nat}, GR e w (A ++ t :: B) bs g off → ∃ ba bt bb, bs = ba ++ (bt ++ bb) ∧ GR e w A ba g off ∧ e.E w t bt g (off + A.length * e.s) ∧ GR e w B bb g (off + A.length * e.s + e.s)
  | [], bs, off, h => by
    rw [List.nil_append, GR] at h
    obtain ⟨b1, b2, eb, h4, h5⟩ := h
    exact ⟨[], b1, b2, eb, by rw [GR], by simpa using h4, by simpa using h5⟩
  | x :: A, bs, off, h => by
    rw [List.cons_append, GR] at h
    obtain ⟨b1, b2, eb, h4, h5⟩ := h
    obtain ⟨ba, bt, bb, e2, h6, h7, h8⟩ := GR.split h5
    have el : off + e.s + A.length * e.s = off + (x :: A).length * e.s := by rw [List.length_cons, Nat.succ_mul]; omega
    rw [el] at h7 h8
    exact ⟨b1 ++ ba, bt, bb, by rw [eb, e2, List.append_assoc], by rw [GR]; exact ⟨b1, ba, rfl, h4, h6⟩, h7, h8⟩
theorem GR.join {w : World} {t : α} {B : List α} {g : Nat} {bt bb : List Nat} : ∀ {A : List α} {ba : List Nat} {off : Nat}, GR e w A ba g off → e.E w t bt g (off + A.length * e.s) → GR e w B bb g (off + A.length * e.s + e.s) → GR e w (A ++ t :: B) (ba ++ (bt ++ bb)) g off
  | [], ba, off, h, h4, h5 => by
    rw [GR] at h
    subst h
    rw [List.nil_append, GR]
    exact ⟨bt, bb, rfl, by simpa using h4, by simpa using h5⟩
  | x :: A, ba, off, h, h4, h5 => by
    rw [GR] at h
    obtain ⟨b1, b2, eb, h6, h7⟩ := h
    have el : off + e.s + A.length * e.s = off + (x :: A).length * e.s := by rw [List.length_cons, Nat.succ_mul]; omega
    rw [← el] at h4 h5
    rw [List.cons_append, GR]
    exact ⟨b1, b2 ++ (bt ++ bb), by rw [eb, List.append_assoc], h6, GR.join h7 h4 h5⟩
theorem GR.at {w : World} {l : List α} {bs : List Nat} {g off : Nat} (h : GR e w l bs g off) (j : Nat) (hj : j < l.length) : ∃ bt, (∀ x ∈ bt, x ∈ bs) ∧ e.E w l[j] bt g (off + j * e.s) := by
  have hs : l = l.take j ++ l[j] :: l.drop (j + 1) := by rw [← List.drop_eq_getElem_cons hj, List.take_append_drop]
  rw [hs] at h
  obtain ⟨ba, bt, bb, eb, _, h2, _⟩ := GR.split h
  have hl : (l.take j).length = j := by simp; omega
  rw [hl] at h2
  exact ⟨bt, fun x hx => by rw [eb]; simp [hx], h2⟩
theorem GL.keep {w w' : World} {l : List α} {bs : List Nat} {ao : Option Addr} (hk : ∀ x ∈ bs, x < w.heap.size → w'.heap[x]? = w.heap[x]?) (h : GL e w l bs ao) : GL e w' l bs ao := by
  rcases h with h | ⟨hl, g, o, b, e1, e2, hf, hr⟩
  · exact .inl h
  · subst e1
    have hgl : g < w.heap.size := by
      cases l with
      | nil => exact absurd rfl hl
      | cons t r =>
        rw [GR] at hr
        obtain ⟨_, _, _, ht, _⟩ := hr
        obtain ⟨v, hv⟩ := e.head ht
        exact World.block_lt_of_cell? w _ hv
    have hg := hk g (List.mem_cons_self ..) hgl
    exact .inr ⟨hl, g, o, b, rfl, e2, fun x => by rw [World.frozen?_of_block (w := w) hg]; exact hf x, GR.keep l b g o (fun x hx => hk x (List.mem_cons_of_mem _ hx)) (fun x v _ _ hv => by rw [World.cell?_of_block (w := w) hg]; exact hv) hr⟩
theorem GL.below {w w' : World} {l : List α} {bs : List Nat} {ao : Option Addr} (hb : Below w.heap.size w w') (h : GL e w l bs ao) : GL e w' l bs ao := h.keep (fun x _ hx => hb.block x hx)
theorem GL.lt {w : World} {l : List α} {bs : List Nat} {ao : Option Addr} (h : GL e w l bs ao) : ∀ x ∈ bs, x < w.heap.size := by
  rcases h with ⟨_, h⟩ | ⟨hl, g, o, b, e1, e2, hf, hr⟩
  · intro x hx; rw [h] at hx; cases hx
  · intro x hx
    rw [e1] at hx
    rcases List.mem_cons.1 hx with rfl | hx
    · cases l with
      | nil => exact absurd rfl hl
      | cons t r =>
        rw [GR] at hr
        obtain ⟨_, _, _, ht, _⟩ := hr
        obtain ⟨v, hv⟩ := e.head ht
        exact World.block_lt_of_cell? w _ hv
    · exact hr.lt x hx
theorem GL.nil (w : World) (ao : Option Addr) : GL e w ([] : List α) [] ao := .inl ⟨rfl, rfl⟩

/-! ### A row that is being filled -/
structure MadeG (e : Elt α) (w wr : World) (g : Nat) (l : List α) (k : Nat) (bs : List Nat) : Prop where
  below : Below w.heap.size w wr
  lt : g < wr.heap.size
  some : ∀ j, j < l.length * e.s → (wr.cell? ⟨g, j, none⟩).isSome = true
  free : ∀ o, wr.frozen? ⟨g, o, none⟩ = false
  row : GR e wr (l.take k) bs g 0
  nd : (g :: bs).Nodup
  lo : ∀ b ∈ bs, w.heap.size ≤ b
theorem MadeG.call {w wr w1 : World} {g : Nat} {l : List α} {k : Nat} {bs : List Nat} (h : MadeG e w wr g l k bs) (hb : Below wr.heap.size wr w1) : MadeG e w w1 g l k bs where
  below := h.below.trans (hb.mono h.below.size)
  lt := Nat.lt_of_lt_of_le h.lt hb.size
  some := fun j hj => by rw [hb.cell (p := ⟨g, j, none⟩) h.lt]; exact h.some j hj
  free := fun o => by rw [hb.frozen (p := ⟨g, o, none⟩) h.lt]; exact h.free o
  row := GR.keep _ _ _ _ (fun x _ hx => hb.block x hx) (fun o v _ _ hv => by rw [hb.cell (p := ⟨g, o, none⟩) h.lt]; exact hv) h.row
  nd := h.nd
  lo := h.lo
theorem setCells_blk {b x : Nat} (h : x ≠ b) : ∀ (vs : List Value) (o : Nat) (w : World), (w.setCells b o vs).heap[x]? = w.heap[x]?
  | [], _, _ => rfl
  | v :: r, o, w => by rw [World.setCells, setCells_blk h r, Below.heap_setCell _ ⟨b, o, none⟩ _ x h]
theorem setCells_bel {B : Nat} {b : Nat} (hB : B ≤ b) : ∀ (vs : List Value) (o : Nat) (a w : World), Below B a w → Below B a (w.setCells b o vs)
  | [], _, _, _, h => h
  | v :: r, o, a, w, h => by
    rw [World.setCells]
    exact setCells_bel hB r (o + 1) a _ (h.setCell (p := ⟨b, o, none⟩) hB v)
theorem setCells_sz (b : Nat) : ∀ (vs : List Value) (o : Nat) (w : World), (w.setCells b o vs).heap.size = w.heap.size
  | [], _, _ => rfl
  | v :: r, o, w => by rw [World.setCells, setCells_sz b r]; simp [World.setCell]
theorem MadeG.store {w wr : World} {g : Nat} {l : List α} {k B : Nat} {bs bt : List Nat} (h : MadeG e w wr g l k bs) (hg : w.heap.size ≤ g) (hk : k < l.length) (vs : List Value) (hvs : vs.length = e.s)
    (hE : ∀ w', (∀ j (hj : j < vs.length), w'.cell? ⟨g, k * e.s + j, none⟩ = Option.some vs[j]) → (∀ x ∈ bt, x < wr.heap.size → w'.heap[x]? = wr.heap[x]?) → e.E w' l[k] bt g (k * e.s))
    (hnt : bt.Nodup) (hB : ∀ x ∈ bt, B ≤ x) (hold : ∀ x ∈ bs, x < B) (hgB : g < B) : MadeG e w (wr.setCells g (k * e.s) vs) g l (k + 1) (bs ++ (bt ++ [])) := by
  have hks : (k + 1) * e.s ≤ l.length * e.s := Nat.mul_le_mul_right _ hk
  rw [Nat.succ_mul] at hks
  have hin := World.cell?_setCells_in g vs (k * e.s) wr (fun j hj => h.some (k * e.s + j) (by omega))
  have hout : ∀ i, (i < k * e.s ∨ k * e.s + e.s ≤ i) → (wr.setCells g (k * e.s) vs).cell? ⟨g, i, none⟩ = wr.cell? ⟨g, i, none⟩ := fun i hi =>
    World.cell?_setCells_out g vs (k * e.s) wr ⟨g, i, none⟩ (fun _ _ => by rw [hvs]; exact hi)
  have hlen : (l.take k).length = k := by simp; omega
  have hwg : ∀ x ∈ bs, x ≠ g := fun x hx q => (List.nodup_cons.1 h.nd).1 (by rw [← q]; exact hx)
  refine ⟨setCells_bel hg _ _ _ _ h.below, by rw [setCells_sz]; exact h.lt, fun j hj => ?_, fun o => by rw [World.frozen?_setCells]; exact h.free o, ?_, ?_, fun x hx => ?_⟩
  · by_cases hj1 : j < k * e.s ∨ k * e.s + e.s ≤ j
    · rw [hout j hj1]; exact h.some j hj
    · obtain ⟨d, rfl⟩ : ∃ d, j = k * e.s + d := ⟨j - k * e.s, by omega⟩
      rw [hin d (by omega)]; rfl
  · rw [List.take_succ_eq_append_getElem hk]
    refine GR.join (GR.keep _ _ _ _ (fun x hx _ => setCells_blk (hwg x hx) _ _ _) (fun o v _ ho hv => ?_) h.row) ?_ (by rw [GR])
    · rw [hlen, Nat.mul_comm e.s k] at ho
      rw [hout o (.inl (by omega))]; exact hv
    · rw [hlen, Nat.zero_add]
      exact hE _ (fun j hj => hin j hj) (fun x hx _ => setCells_blk (by have := hB x hx; omega) _ _ _)
  · rw [List.append_nil, List.nodup_cons]
    obtain ⟨n1, n2⟩ := List.nodup_cons.1 h.nd
    refine ⟨fun hm => ?_, List.nodup_append.2 ⟨n2, hnt, fun x hx y hy q => ?_⟩⟩
    · rcases List.mem_append.1 hm with h1 | h1
      · exact n1 h1
      · have := hB g h1; omega
    · have h1 := hold x hx
      have h2 := hB y hy
      omega
  · rw [List.append_nil] at hx
    rcases List.mem_append.1 hx with h1 | h1
    · exact h.lo x h1
    · have := hB x h1; omega
theorem MadeG.done {w wr : World} {g : Nat} {l : List α} {bs : List Nat} (h : MadeG e w wr g l l.length bs) (hg : w.heap.size ≤ g) : ∃ bs', GL e wr l bs' (.some ⟨g, 0, none⟩) ∧ bs'.Nodup ∧ ∀ b ∈ bs', w.heap.size ≤ b := by
  have hrow := h.row
  rw [List.take_of_length_le (Nat.le_refl _)] at hrow
  by_cases hn : l = []
  · subst hn
    exact ⟨[], GL.nil _ _, by simp, fun b hb => by cases hb⟩
  · exact ⟨g :: bs, .inr ⟨hn, g, 0, bs, rfl, rfl, h.free, hrow⟩, h.nd, fun b hb => by
      rcases List.mem_cons.1 hb with rfl | hb
      · exact hg
      · exact h.lo b hb⟩
end Go.Proofs.Ytimnnedmpmlmdaa
