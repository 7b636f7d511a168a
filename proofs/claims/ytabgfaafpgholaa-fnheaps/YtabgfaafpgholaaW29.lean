/-
  What a copy that is being made has in hand; its listOf.
  (Ahead of it, in this text: Rows of anything that takes so many cells: each in its place of one block, what it leads to in blocks of its own, told as a list. Names of lists, copies of texts, shallow copies of lists.)
-/
import Derived.Test.YtabgfaafpgholaaW28
import Derived.Laws.IdiomCopy
import Derived.Test.YtabgfaafpgholaaW27
import Derived.Test.YtabgfaafpgholaaW23
import Derived.Lib.SliceRun
import Derived.Maps.AppendAt
import Derived.Deep.OwnRows
import Derived.Outline
namespace Go.Proofs.Ytabgfaafpgholaa
open Go.RowKit
set_option linter.unusedVariables false

/-- A kind of thing: how many cells it takes, how it stands in memory, what keeps it there. -/
structure Elt (α : Type) where
  s : Nat
  E : World → α → List Nat → Nat → Nat → Prop
  pos : 0 < s
  keep : ∀ {w w' : World} {a : α} {bs : List Nat} {b off : Nat}, (∀ x ∈ bs, x < w.heap.size → w'.heap[x]? = w.heap[x]?) → (∀ j v, j < s → w.cell? ⟨b, off + j, none⟩ = some v → w'.cell? ⟨b, off + j, none⟩ = some v) → E w a bs b off → E w' a bs b off
  lt : ∀ {w : World} {a : α} {bs : List Nat} {b off : Nat}, E w a bs b off → ∀ x ∈ bs, x < w.heap.size
  head : ∀ {w : World} {a : α} {bs : List Nat} {b off : Nat}, E w a bs b off → ∃ v, w.cell? ⟨b, off, none⟩ = some v
variable {α : Type} {e : Elt α}
/-- From off on in the block g stand the things of l. -/
def GR (e : Elt α) (w : World) : List α → List Nat → Nat → Nat → Prop
  | [], bs, _, _ => bs = []
  | t :: r, bs, g, off => ∃ b1 b2, bs = b1 ++ b2 ∧ e.E w t b1 g off ∧ GR e w r b2 g (off + e.s)
/-- The list l, its block and all others of it told. -/
def GL (e : Elt α) (w : World) (l : List α) (bs : List Nat) (ao : Option Addr) : Prop :=
  (l = [] ∧ bs = []) ∨ (l ≠ [] ∧ ∃ g o b, bs = g :: b ∧ ao = some ⟨g, o, none⟩ ∧ (∀ x, w.frozen? ⟨g, x, none⟩ = false) ∧ GR e w l b g o)
theorem GR.keep {w w' : World} : ∀ (l : List α) (bs : List Nat) (g off : Nat), (∀ x ∈ bs, x < w.heap.size → w'.heap[x]? = w.heap[x]?) → (∀ o v, off ≤ o → o < off + e.s * l.length → w.cell? ⟨g, o, none⟩ = some v → w'.cell? ⟨g, o, none⟩ = some v) → GR e w l bs g off → GR e w' l bs g off
  | [], bs, g, off, _, _, h => by rw [GR] at h ⊢; exact h
  | t :: r, bs, g, off, hk, hc, h => by
    rw [GR] at h ⊢
    obtain ⟨b1, b2, eb, h4, h5⟩ := h
    subst eb
    have hl : e.s * (t :: r).length = e.s * r.length + e.s := by rw [List.length_cons, Nat.mul_succ]
    exact ⟨b1, b2, rfl, e.keep (fun x hx => hk x (List.mem_append_left _ hx)) (fun j v hj hv => hc _ v (by omega) (by omega) hv) h4, GR.keep r b2 g (off + e.s) (fun x hx => hk x (List.mem_append_right _ hx)) (fun o v ho1 ho2 hv => hc o v (by omega) (by omega) hv) h5⟩
theorem GR.lt {w : World} : ∀ {l : List α} {bs : List Nat} {g off : Nat}, GR e w l bs g off → ∀ x ∈ bs, x < w.heap.size
  | [], bs, g, off, h, x, hx => by rw [GR] at h; rw [h] at hx; cases hx
  | t :: r, bs, g, off, h, x, hx => by
    rw [GR] at h
    obtain ⟨b1, b2, eb, h4, h5⟩ := h
    rw [eb] at hx
    rcases List.mem_append.1 hx with hx | hx
    · exact e.lt h4 x hx
    · exact GR.lt h5 x hx
theorem GR.split {w : World} {t : α} {B : List α} {g : Nat} : ∀ {A : List α} {bs : List Nat} {off : Nat}, GR e w (A ++ t :: B) bs g off → ∃ ba bt bb, bs = ba ++ (bt ++ bb) ∧ GR e w A ba g off ∧ e.E w t bt g (off + A.length * e.s) ∧ GR e w B bb g (off + A.length * e.s + e.s)
  | [], bs, off, h => by
    rw [List.nil_append, GR] at h
    obtain ⟨b1, b2, eb, h4, h5⟩ := h
    exact ⟨[], b1, b2, eb, by rw [GR], by simpa using h4, by simpa using h5⟩
  | x :: A, bs, off, h => by
    rw [List.cons_append, GR] at h
    obtain ⟨b1, b2, eb, h4, h5⟩ := h
    obtain ⟨ba, bt, bb, e2, h6, h7, h8⟩ := GR.split h5
    have el : off + e.s + A.length * e.s = off + (x :: A).length * e.s := by rw [List.length_cons, Nat.succ_mul]; omega
    rw [el] at h7 h8
    exact ⟨b1 ++ ba, bt, bb, by rw [eb, e2, List.append_assoc], by rw [GR]; exact ⟨b1, ba, rfl, h4, h6⟩, h7, h8⟩
theorem GR.join {w : World} {t : α} {B : List α} {g : Nat} {bt bb : List Nat} : ∀ {A : List α} {ba : List Nat} {off : Nat}, GR e w A ba g off → e.E w t bt g (off + A.length * e.s) → GR e w B bb g (off + A.length * e.s + e.s) → GR e w (A ++ t :: B) (ba ++ (bt ++ bb)) g off
  | [], ba, off, h, h4, h5 => by
    rw [GR] at h
    subst h
    rw [List.nil_append, GR]
    exact ⟨bt, bb, rfl, by simpa using h4, by simpa using h5⟩
  | x :: A, ba, off, h, h4, h5 => by
    rw [GR] at h
    obtain ⟨b1, b2, eb, h6, h7⟩ := h
    have el : off + e.s + A.length * e.s = off + (x :: A).length * e.s := by rw [List.length_cons, Nat.succ_mul]; omega
    rw [← el] at h4 h5
    rw [List.cons_append, GR]
    exact ⟨b1, b2 ++ (bt ++ bb), by rw [eb, List.append_assoc], h6, GR.join h7 h4 h5⟩
theorem GR.at {w : World} {l : List α} {bs : List Nat} {g off : Nat} (h : GR e w l bs g off) (j : Nat) (hj : j < l.length) : ∃ bt, (∀ x ∈ bt, x ∈ bs) ∧ e.E w l[j] bt g (off + j * e.s) := by
  have hs : l = l.take j ++ l[j] :: l.drop (j + 1) := by rw [← List.drop_eq_getElem_cons hj, List.take_append_drop]
  rw [hs] at h
  obtain ⟨ba, bt, bb, eb, _, h2, _⟩ := GR.split h
  have hl : (l.take j).length = j := by simp; omega
  rw [hl] at h2
  exact ⟨bt, fun x hx => by rw [eb]; simp [hx], h2⟩
theorem GL.keep {w w' : World} {l : List α} {bs : List Nat} {ao : Option Addr} (hk : ∀ x ∈ bs, x < w.heap.size → w'.heap[x]? = w.heap[x]?) (h : GL e w l bs ao) : GL e w' l bs ao := by
  rcases h with h | ⟨hl, g, o, b, e1, e2, hf, hr⟩
  · exact .inl h
  · subst e1
    have hgl : g < w.heap.size := by
      cases l with
      | nil => exact absurd rfl hl
      | cons t r =>
        rw [GR] at hr
        obtain ⟨_, _, _, ht, _⟩ := hr
        obtain ⟨v, hv⟩ := e.head ht
        exact World.block_lt_of_cell? w _ hv
    have hg := hk g (List.mem_cons_self ..) hgl
    exact .inr ⟨hl, g, o, b, rfl, e2, fun x => by rw [World.frozen?_of_block (w := w) hg]; exact hf x, GR.keep l b g o (fun x hx => hk x (List.mem_cons_of_mem _ hx)) (fun x v _ _ hv => by rw [World.cell?_of_block (w := w) hg]; exact hv) hr⟩
theorem GL.below {w w' : World} {l : List α} {bs : List Nat} {ao : Option Addr} (hb : Below w.heap.size w w') (h : GL e w l bs ao) : GL e w' l bs ao := h.keep (fun x _ hx => hb.block x hx)
theorem GL.lt {w : World} {l : List α} {bs : List Nat} {ao : Option Addr} (h : GL e w l bs ao) : ∀ x ∈ bs, x < w.heap.size := by
  rcases h with ⟨_, h⟩ | ⟨hl, g, o, b, e1, e2, hf, hr⟩
  · intro x hx; rw [h] at hx; cases hx
  · intro x hx
    rw [e1] at hx
    rcases List.mem_cons.1 hx with rfl | hx
    · cases l with
      | nil => exact absurd rfl hl
      | cons t r =>
        rw [GR] at hr
        obtain ⟨_, _, _, ht, _⟩ := hr
        obtain ⟨v, hv⟩ := e.head ht
        exact World.block_lt_of_cell? w _ hv
    · exact hr.lt x hx
theorem GL.nil (w : World) (ao : Option Addr) : GL e w ([] : List α) [] ao := .inl ⟨rfl, rfl⟩

/-! ### A row that is being filled -/
structure MadeG (e : Elt α) (w wr : World) (g : Nat) (l : List α) (k : Nat) (bs : List Nat) : Prop where
  below : Below w.heap.size w wr
  lt : g < wr.heap.size
  some : ∀ j, j < l.length * e.s → (wr.cell? ⟨g, j, none⟩).isSome = true
  free : ∀ o, wr.frozen? ⟨g, o, none⟩ = false
  row : GR e wr (l.take k) bs g 0
  nd : (g :: bs).Nodup
  lo : ∀ b ∈ bs, w.heap.size ≤ b
theorem MadeG.call {w wr w1 : World} {g : Nat} {l : List α} {k : Nat} {bs : List Nat} (h : MadeG e w wr g l k bs) (hb : Below wr.heap.size wr w1) : MadeG e w w1 g l k bs where
  below := h.below.trans (hb.mono h.below.size)
  lt := Nat.lt_of_lt_of_le h.lt hb.size
  some := fun j hj => by rw [hb.cell (p := ⟨g, j, none⟩) h.lt]; exact h.some j hj
  free := fun o => by rw [hb.frozen (p := ⟨g, o, none⟩) h.lt]; exact h.free o
  row := GR.keep _ _ _ _ (fun x _ hx => hb.block x hx) (fun o v _ _ hv => by rw [hb.cell (p := ⟨g, o, none⟩) h.lt]; exact hv) h.row
  nd := h.nd
  lo := h.lo
theorem setCells_blk {b x : Nat} (h : x ≠ b) : ∀ (vs : List Value) (o : Nat) (w : World), (w.setCells b o vs).heap[x]? = w.heap[x]?
  | [], _, _ => rfl
  | v :: r, o, w => by rw [World.setCells, setCells_blk h r, Below.heap_setCell _ ⟨b, o, none⟩ _ x h]
theorem setCells_bel {B : Nat} {b : Nat} (hB : B ≤ b) : ∀ (vs : List Value) (o : Nat) (a w : World), Below B a w → Below B a (w.setCells b o vs)
  | [], _, _, _, h => h
  | v :: r, o, a, w, h => by
    rw [World.setCells]
    exact setCells_bel hB r (o + 1) a _ (h.setCell (p := ⟨b, o, none⟩) hB v)
theorem setCells_sz (b : Nat) : ∀ (vs : List Value) (o : Nat) (w : World), (w.setCells b o vs).heap.size = w.heap.size
  | [], _, _ => rfl
  | v :: r, o, w => by rw [World.setCells, setCells_sz b r]; simp [World.setCell]
theorem MadeG.store {w wr : World} {g : Nat} {l : List α} {k B : Nat} {bs bt : List Nat} (h : MadeG e w wr g l k bs) (hg : w.heap.size ≤ g) (hk : k < l.length) (vs : List Value) (hvs : vs.length = e.s)
    (hE : ∀ w', (∀ j (hj : j < vs.length), w'.cell? ⟨g, k * e.s + j, none⟩ = Option.some vs[j]) → (∀ x ∈ bt, x < wr.heap.size → w'.heap[x]? = wr.heap[x]?) → e.E w' l[k] bt g (k * e.s))
    (hnt : bt.Nodup) (hB : ∀ x ∈ bt, B ≤ x) (hold : ∀ x ∈ bs, x < B) (hgB : g < B) : MadeG e w (wr.setCells g (k * e.s) vs) g l (k + 1) (bs ++ (bt ++ [])) := by
  have hks : (k + 1) * e.s ≤ l.length * e.s := Nat.mul_le_mul_right _ hk
  rw [Nat.succ_mul] at hks
  have hin := World.cell?_setCells_in g vs (k * e.s) wr (fun j hj => h.some (k * e.s + j) (by omega))
  have hout : ∀ i, (i < k * e.s ∨ k * e.s + e.s ≤ i) → (wr.setCells g (k * e.s) vs).cell? ⟨g, i, none⟩ = wr.cell? ⟨g, i, none⟩ := fun i hi =>
    World.cell?_setCells_out g vs (k * e.s) wr ⟨g, i, none⟩ (fun _ _ => by rw [hvs]; exact hi)
  have hlen : (l.take k).length = k := by simp; omega
  have hwg : ∀ x ∈ bs, x ≠ g := fun x hx q => (List.nodup_cons.1 h.nd).1 (by rw [← q]; exact hx)
  refine ⟨setCells_bel hg _ _ _ _ h.below, by rw [setCells_sz]; exact h.lt, fun j hj => ?_, fun o => by rw [World.frozen?_setCells]; exact h.free o, ?_, ?_, fun x hx => ?_⟩
  · by_cases hj1 : j < k * e.s ∨ k * e.s + e.s ≤ j
    · rw [hout j hj1]; exact h.some j hj
    · obtain ⟨d, rfl⟩ : ∃ d, j = k * e.s + d := ⟨j - k * e.s, by omega⟩
      rw [hin d (by omega)]; rfl
  · rw [List.take_succ_eq_append_getElem hk]
    refine GR.join (GR.keep _ _ _ _ (fun x hx _ => setCells_blk (hwg x hx) _ _ _) (fun o v _ ho hv => ?_) h.row) ?_ (by rw [GR])
    · rw [hlen, Nat.mul_comm e.s k] at ho
      rw [hout o (.inl (by omega))]; exact hv
    · rw [hlen, Nat.zero_add]
      exact hE _ (fun j hj => hin j hj) (fun x hx _ => setCells_blk (by have := hB x hx; omega) _ _ _)
  · rw [List.append_nil, List.nodup_cons]
    obtain ⟨n1, n2⟩ := List.nodup_cons.1 h.nd
    refine ⟨fun hm => ?_, List.nodup_append.2 ⟨n2, hnt, fun x hx y hy q => ?_⟩⟩
    · rcases List.mem_append.1 hm with h1 | h1
      · exact n1 h1
      · have := hB g h1; omega
    · have h1 := hold x hx
      have h2 := hB y hy
      omega
  · rw [List.append_nil] at hx
    rcases List.mem_append.1 hx with h1 | h1
    · exact h.lo x h1
    · have := hB x h1; omega
theorem MadeG.done {w wr : World} {g : Nat} {l : List α} {bs : List Nat} (h : MadeG e w wr g l l.length bs) (hg : w.heap.size ≤ g) : ∃ bs', GL e wr l bs' (.some ⟨g, 0, none⟩) ∧ bs'.Nodup ∧ ∀ b ∈ bs', w.heap.size ≤ b := by
  have hrow := h.row
  rw [List.take_of_length_le (Nat.le_refl _)] at hrow
  by_cases hn : l = []
  · subst hn
    exact ⟨[], GL.nil _ _, by simp, fun b hb => by cases hb⟩
  · exact ⟨g :: bs, .inr ⟨hn, g, 0, bs, rfl, rfl, h.free, hrow⟩, h.nd, fun b hb => by
      rcases List.mem_cons.1 hb with rfl | hb
      · exact hg
      · exact h.lo b hb⟩
end Go.Proofs.Ytabgfaafpgholaa
namespace Go.Proofs.Ytabgfaafpgholaa
open Go.RowKit
set_option linter.unusedVariables false

theorem OsR.move {w w' : World} : ∀ (l : List Tm) (bs : List Nat) (g off g' off' : Nat), (∀ x ∈ bs, x < w.heap.size → w'.heap[x]? = w.heap[x]?) → (∀ j v, j < 4 * l.length → w.cell? ⟨g, off + j, none⟩ = some v → w'.cell? ⟨g', off' + j, none⟩ = some v) → OsR w l bs g off → OsR w' l bs g' off'
  | [], bs, g, off, g', off', _, _, h => by rw [OsR] at h ⊢; exact h
  | .mk k n s m :: r, bs, g, off, g', off', hk, hc, h => by
    rw [OsR] at h ⊢
    obtain ⟨b1, b2, e, h4, h5⟩ := h
    subst e
    rw [OsT] at h4
    obtain ⟨h0, h1, h2, hs, ao, cap, h3, hl, hcp, hr⟩ := h4
    refine ⟨b1, b2, rfl, ?_, OsR.move r b2 g (off + 4) g' (off' + 4) (fun x hx => hk x (List.mem_append_right _ hx)) (fun j v hj hv => ?_) h5⟩
    · rw [OsT]
      exact ⟨hc 0 _ (by simp) h0, hc 1 _ (by simp; omega) h1, hc 2 _ (by simp; omega) h2, hs, ao, cap, hc 3 _ (by simp; omega) h3, hl, hcp, OsL.keep m b1 ao (fun x hx => hk x (List.mem_append_left _ hx)) hr⟩
    · have := hc (4 + j) v (by simp; omega) (by rw [← Nat.add_assoc]; exact hv)
      rw [Nat.add_assoc]; exact this
/-- The cells of a row. -/
theorem OsR.vals {w : World} : ∀ (l : List Tm) (bs : List Nat) (g off : Nat), OsR w l bs g off → ∃ xs : List Value, xs.length = l.length * 4 ∧ (∀ j u, xs[j]? = some u → w.cell? ⟨g, off + j, none⟩ = some u) ∧ ∀ u ∈ xs, u.oneCell' = true
  | [], bs, g, off, h => ⟨[], rfl, fun j u h => by simp at h, fun u h => by cases h⟩
  | .mk k n s m :: r, bs, g, off, h => by
    rw [OsR] at h
    obtain ⟨b1, b2, e, h4, h5⟩ := h
    rw [OsT] at h4
    obtain ⟨h0, h1, h2, hs, ao, cap, h3, hl, hcp, hr⟩ := h4
    obtain ⟨xs, e1, e2, e3⟩ := OsR.vals r b2 g (off + 4) h5
    refine ⟨.int .i64 k :: .int .i64 n :: .string s :: .slice ao m.length cap :: xs, by simp [e1]; omega, fun j u hj => ?_, fun u hu => ?_⟩
    · match j, hj with
      | 0, hj => simp at hj; subst hj; exact h0
      | 1, hj => simp at hj; subst hj; exact h1
      | 2, hj => simp at hj; subst hj; exact h2
      | 3, hj => simp at hj; subst hj; exact h3
      | j + 4, hj =>
        simp at hj
        have := e2 j u hj
        rw [show off + (j + 4) = off + 4 + j by omega]; exact this
    · simp only [List.mem_cons] at hu
      rcases hu with rfl | rfl | rfl | rfl | hu
      · rfl
      · rfl
      · rfl
      · rfl
      · exact e3 u hu

theorem nameOf_any (b o n cap : Nat) (w : World) (hn : n ≠ 0) :
    Calls Try.prog 86 #[.slice (some ⟨b, o, none⟩) n cap] w fun e w' => e = .returned (nmV b o n) ∧ Below w.heap.size w w' := by
  have q : ((n : Int) == 0) = false := by simp; omega
  have hpos : 0 < n := by omega
  clear hn
  go_enter Try.func86, Try.ntmps86
  go_wp2
  refine bodyPost_ret (v := nmV b o n) (by simp [results, Try.results86, go_sem]) rfl ⟨rfl, ?_⟩
  exact (Below.refl _ _).alloc (Nat.le_refl _) _

theorem infoParts9 {e : TypeId} {z : Value} {n b : Nat} (h : (Try.prog.info? e).map (fun i => (i.zero, i.size, i.bytes)) = some (some z, n, b)) : ∃ i, Try.prog.info? e = some i ∧ i.zero = some z ∧ i.size = n ∧ i.bytes = b := by
  obtain ⟨i, hi, he⟩ := Option.map_eq_some_iff.1 h
  simp only [Prod.mk.injEq] at he
  exact ⟨i, hi, he.1, he.2.1, he.2.2⟩

/-- The block of a row of terms that has room for c of them. -/
def Szd (w : World) (g c : Nat) : Prop := ∃ cur, w.heap[g]? = some (.cells cur 39 (0, 0)) ∧ cur.size = c * 4
theorem Szd.keep {w w' : World} {g c : Nat} (h : Szd w g c) (hb : w'.heap[g]? = w.heap[g]?) : Szd w' g c := by
  obtain ⟨cur, h1, h2⟩ := h
  exact ⟨cur, hb.trans h1, h2⟩
theorem Szd.set {w : World} {g c : Nat} (h : Szd w g c) (o : Nat) (v : Value) : Szd (w.setCell ⟨g, o, none⟩ v) g c := by
  obtain ⟨cur, h1, h2⟩ := h
  refine ⟨cur.setIfInBounds o v, ?_, by rw [Array.size_setIfInBounds]; exact h2⟩
  simp [World.setCell, Array.getElem?_modify, h1]

end Go.Proofs.Ytabgfaafpgholaa
namespace Go.Proofs.Ytabgfaafpgholaa
open Go.RowKit
set_option linter.unusedVariables false

/-- A list that was copied, but not yet what stands in it. -/
structure Ps where
  g : Nat
  c : Nat
  m : List Tm
  ob : List Nat
def psV (x : Ps) : Value := .slice (some ⟨x.g, 0, none⟩) x.m.length x.c
structure Ps.ok (w : World) (x : Ps) : Prop where
  row : OsR w x.m x.ob x.g 0
  free : ∀ o, w.frozen? ⟨x.g, o, none⟩ = false
  le : x.m.length ≤ x.c
  max : x.c ≤ maxLen
  siz : Szd w x.g x.c
/-- C: the block of the copying, mb: its map, ov: its open lists. S: the lists that were met. -/
structure Cp (w0 w : World) (C mb : Nat) (ov : Value) (st : List Ps) (nn : Nat) (S : Nat → Nat → Prop) : Prop where
  be : Below w0.heap.size w0 w
  c0 : w.cell? ⟨C, 0, none⟩ = some ov
  c1 : w.cell? ⟨C, 1, none⟩ = some (.map (some mb))
  c2 : w.cell? ⟨C, 2, none⟩ = some (.int .i64 nn)
  fz : ∀ o, w.frozen? ⟨C, o, none⟩ = false
  own : w.ownsRow w0.heap.size 37 1 ov st.length (st.map psV)
  mp : NmMap w mb S
  old : ∀ b o, S b o → b < w0.heap.size
  hC : w0.heap.size ≤ C
  hm : w0.heap.size ≤ mb
  ne1 : C ≠ mb
  ne2 : ∀ g, ov.ownBlock = some g → g ≠ C ∧ g ≠ mb
theorem Cp.slice {w0 w : World} {C mb : Nat} {ov : Value} {st : List Ps} {nn : Nat} {S : Nat → Nat → Prop} (h : Cp w0 w C mb ov st nn S) : ∃ a c, ov = .slice a st.length c := by
  obtain ⟨_, h1 | ⟨g, c, cur, e, _⟩⟩ := h.own
  · exact ⟨none, 0, by rw [h1.1, h1.2]⟩
  · exact ⟨_, c, e⟩
/-- A call that makes new memory alone. -/
theorem Cp.call {w0 w w' : World} {C mb : Nat} {ov : Value} {st : List Ps} {nn : Nat} {S : Nat → Nat → Prop} (h : Cp w0 w C mb ov st nn S) (hb : Below w.heap.size w w') : Cp w0 w' C mb ov st nn S := by
  have hg : w.grownBy w' none := ⟨hb.os, hb.tape, hb.output, hb.size, fun k hk _ => hb.block k hk⟩
  have hCl := World.block_lt_of_cell? w _ h.c0
  have hml : mb < w.heap.size := by
    obtain ⟨es, clk, hm, _⟩ := h.mp
    rcases Nat.lt_or_ge mb w.heap.size with h | h
    · exact h
    · rw [Array.getElem?_eq_none h] at hm; cases hm
  refine ⟨h.be.trans (hb.mono h.be.size), ?_, ?_, ?_, fun o => ?_, h.own.kept hg (by by_cases e : ov.ownBlock = none; exact Or.inl e; exact Or.inr e), h.mp.keep (hb.block mb hml) (fun b o hs hp => ?_), h.old, h.hC, h.hm, h.ne1, h.ne2⟩
  · rw [hb.cell (p := ⟨C, 0, none⟩) hCl]; exact h.c0
  · rw [hb.cell (p := ⟨C, 1, none⟩) hCl]; exact h.c1
  · rw [hb.cell (p := ⟨C, 2, none⟩) hCl]; exact h.c2
  · rw [hb.frozen (p := ⟨C, o, none⟩) hCl]; exact h.fz o
  · have hbl : b < w.heap.size := Nat.lt_of_lt_of_le (h.old b o hs) h.be.size
    obtain ⟨⟨c, t, f, hh⟩, hf⟩ := hp
    exact ⟨⟨c, t, f, (hb.block b hbl).trans hh⟩, fun x => by rw [hb.frozen (p := ⟨b, x, none⟩) hbl]; exact hf x⟩
/-- Whatever a listOf leaves alone. -/
structure Lf (C mb : Nat) (ov : Value) (w w' : World) : Prop where
  os : w'.os = w.os
  tape : w'.tape = w.tape
  output : w'.output = w.output
  size : w.heap.size ≤ w'.heap.size
  block : ∀ k, k < w.heap.size → k ≠ C → k ≠ mb → ov.ownBlock ≠ some k → w'.heap[k]? = w.heap[k]?

theorem ownsRow_set9 {w : World} {base : Nat} {e : TypeId} {size n : Nat} {v : Value} {xs : List Value} (h : w.ownsRow base e size v n xs) {b o : Nat} (hb : v.ownBlock ≠ some b) (u : Value) : (w.setCell ⟨b, o, none⟩ u).ownsRow base e size v n xs := by
  obtain ⟨h1, h2⟩ := h
  refine ⟨h1, ?_⟩
  rcases h2 with h2 | ⟨g', cap', cur, hv, hg, hh, r⟩
  · exact Or.inl h2
  · refine Or.inr ⟨g', cap', cur, hv, hg, ?_, r⟩
    rw [Below.heap_setCell _ _ _ _ (by show g' ≠ b; intro q; subst q; exact hb (by rw [hv]; rfl))]
    exact hh
theorem own_base {w : World} {base : Nat} {e : TypeId} {size n : Nat} {v : Value} {xs : List Value} (h : w.ownsRow base e size v n xs) {k : Nat} (hk : v.ownBlock = some k) : base ≤ k ∧ k < w.heap.size := by
  obtain ⟨_, hh | ⟨g, c, cur, e1, e2, e3, _⟩⟩ := h
  · rw [hh.1] at hk; cases hk
  · rw [e1] at hk
    simp only [Value.ownBlock, Option.some.injEq] at hk
    subst hk
    refine ⟨e2, ?_⟩
    rcases Nat.lt_or_ge g w.heap.size with h | h
    · exact h
    · rw [Array.getElem?_eq_none h] at e3; cases e3
theorem infoTmsS : (Try.prog.info? 37).map (fun i => (i.zero, i.size, i.bytes)) = some (some (.slice none 0 0), 1, 24) := by kernel_rfl
theorem src9 (w : World) (x : Value) (t : TypeId) : ∀ j u, [x][j]? = some u → (w.alloc (.cells #[x] t)).cell? ((⟨w.heap.size, 0, none⟩ : Addr).add j) = some u := fun j u hu => by
  match j, hu with
  | 0, hu => simp at hu; subst hu; simp [Addr.add]
theorem one9 (a : Option Addr) (n c : Nat) : ∀ u ∈ [Value.slice a n c], u.oneCell' = true := fun u hu => by
  simp at hu; subst hu; rfl
theorem form9 {w : World} {base : Nat} {e : TypeId} {n : Nat} {v : Value} {xs : List Value} (h : w.ownsRow base e 1 v (n + 1) xs) : ∃ g c, v = .slice (some ⟨g, 0, none⟩) (n + 1) c := by
  obtain ⟨_, hh | ⟨g, c, cur, e1, _⟩⟩ := h
  · exact absurd hh.2 (by omega)
  · exact ⟨g, c, e1⟩
theorem NmMap.lt {w : World} {mb : Nat} {S : Nat → Nat → Prop} (h : NmMap w mb S) : mb < w.heap.size := by
  obtain ⟨es, clk, hm, _⟩ := h
  rcases Nat.lt_or_ge mb w.heap.size with h | h
  · exact h
  · rw [Array.getElem?_eq_none h] at hm; cases hm
/-- What listOf leaves: the map, the open lists and the count are written. -/
theorem Cp.lay {w0 w2 w3 W3 w4 : World} {C mb : Nat} {ov v' : Value} {st : List Ps} {nn : Nat} {S S' : Nat → Nat → Prop} {x : Ps} (h : Cp w0 w2 C mb ov st nn S) (ht : Turn mb w2 w3) (hm : NmMap w3 mb S') (hS' : ∀ b o, S' b o → b < w0.heap.size) (hb3 : Below w3.heap.size w3 W3)
    (hown : w4.ownsRow w0.heap.size 37 1 v' (st.length + 1) (st.map psV ++ [psV x])) (hgr : W3.grownBy w4 ov.ownBlock) (hat : v'.ownBlock = ov.ownBlock ∨ v'.ownBlock = some W3.heap.size) (nn' : Nat) :
    Cp w0 ((w4.setCell ⟨C, 0, none⟩ v').setCell ⟨C, 2, none⟩ (.int .i64 nn')) C mb v' (st ++ [x]) nn' S' ∧ Lf C mb ov w2 ((w4.setCell ⟨C, 0, none⟩ v').setCell ⟨C, 2, none⟩ (.int .i64 nn')) ∧ (v'.ownBlock = ov.ownBlock ∨ ∃ k, v'.ownBlock = some k ∧ w2.heap.size ≤ k) := by
  have hC2 : C < w2.heap.size := World.block_lt_of_cell? w2 _ h.c0
  have hm2 := h.mp.lt
  have z23 := ht.size
  have z3 := hb3.size
  have z4 := hgr.size
  have hne : some C ≠ ov.ownBlock := fun e => (h.ne2 C e.symm).1 rfl
  have hnm : some mb ≠ ov.ownBlock := fun e => (h.ne2 mb e.symm).2 rfl
  have K4 : ∀ k, k < w3.heap.size → ov.ownBlock ≠ some k → w4.heap[k]? = w3.heap[k]? := fun k hk hn => (hgr.block k (by omega) (fun e => hn e.symm)).trans (hb3.block k hk)
  have K : ∀ k, k < w2.heap.size → k ≠ mb → ov.ownBlock ≠ some k → w4.heap[k]? = w2.heap[k]? := fun k hk h1 h2 => (K4 k (by omega) h2).trans (ht.block k hk h1)
  have F : ∀ k, k ≠ C → ((w4.setCell ⟨C, 0, none⟩ v').setCell ⟨C, 2, none⟩ (.int .i64 nn')).heap[k]? = w4.heap[k]? := fun k hk => by
    rw [Below.heap_setCell _ ⟨C, 2, none⟩ _ k hk, Below.heap_setCell _ ⟨C, 0, none⟩ _ k hk]
  have hCb := K C hC2 h.ne1 (fun e => hne e.symm)
  have q0 : w4.cell? ⟨C, 0, none⟩ = some ov := (World.cell?_of_block (w := w2) hCb).trans h.c0
  have q1 : w4.cell? ⟨C, 1, none⟩ = some (.map (some mb)) := (World.cell?_of_block (w := w2) hCb).trans h.c1
  have q2 : w4.cell? ⟨C, 2, none⟩ = some (.int .i64 nn) := (World.cell?_of_block (w := w2) hCb).trans h.c2
  have hv1 : v'.ownBlock ≠ some C := fun e => by
    rcases hat with h1 | h1
    · rw [h1] at e; exact hne e.symm
    · rw [h1] at e; injection e with e; omega
  have hv2 : v'.ownBlock ≠ some mb := fun e => by
    rcases hat with h1 | h1
    · rw [h1] at e; exact hnm e.symm
    · rw [h1] at e; injection e with e; omega
  have LF : Lf C mb ov w2 ((w4.setCell ⟨C, 0, none⟩ v').setCell ⟨C, 2, none⟩ (.int .i64 nn')) :=
    ⟨hgr.os.trans (hb3.os.trans ht.os), hgr.tape.trans (hb3.tape.trans ht.tape), hgr.output.trans (hb3.output.trans ht.output), by rw [World.size_setCell, World.size_setCell]; omega, fun k hk h1 h2 h3 => (F k h1).trans (K k hk h2 h3)⟩
  refine ⟨⟨?_, ?_, ?_, ?_, fun o => ?_, ?_, ?_, hS', h.hC, h.hm, h.ne1, fun g hg => ⟨fun e => hv1 (by rw [hg, e]), fun e => hv2 (by rw [hg, e])⟩⟩, LF, ?_⟩
  · refine ⟨LF.os.trans h.be.os, LF.tape.trans h.be.tape, LF.output.trans h.be.output, Nat.le_trans h.be.size LF.size, fun k hk => ?_⟩
    have h1 := h.hC
    have h2 := h.hm
    have h3 := h.be.size
    rw [LF.block k (by omega) (by omega) (by omega) (fun e => by have := (own_base h.own e).1; omega)]
    exact h.be.block k hk
  · rw [World.cell?_setCell_other (h := fun e => by simp only [Addr.mk.injEq] at e; omega)]
    exact World.cell?_setCell_same _ _ _ q0
  · rw [World.cell?_setCell_other (h := fun e => by simp only [Addr.mk.injEq] at e; omega), World.cell?_setCell_other (h := fun e => by simp only [Addr.mk.injEq] at e; omega)]
    exact q1
  · refine World.cell?_setCell_same _ _ _ (u := .int .i64 nn) ?_
    rw [World.cell?_setCell_other (h := fun e => by simp only [Addr.mk.injEq] at e; omega)]
    exact q2
  · rw [World.frozen?_setCell, World.frozen?_setCell, World.frozen?_of_block (w := w2) hCb]; exact h.fz o
  · rw [List.length_append, List.map_append]
    exact ownsRow_set9 (ownsRow_set9 hown hv1 _) hv1 _
  · refine hm.keep ?_ (fun b o hs hp => ?_)
    · rw [F mb (fun e => h.ne1 e.symm)]; exact K4 mb (by omega) (fun e => hnm e.symm)
    · have hb0 := hS' b o hs
      have h1 := h.hC
      have h3 := h.be.size
      have hov : ov.ownBlock ≠ some b := fun e => by have := (own_base h.own e).1; omega
      have hbb : ((w4.setCell ⟨C, 0, none⟩ v').setCell ⟨C, 2, none⟩ (.int .i64 nn')).heap[b]? = w3.heap[b]? := (F b (by omega)).trans (K4 b (by omega) hov)
      obtain ⟨⟨c, t, f, hh⟩, hf⟩ := hp
      exact ⟨⟨c, t, f, hbb.trans hh⟩, fun y => by rw [World.frozen?_of_block (w := w3) hbb]; exact hf y⟩
  · rcases hat with h1 | h1
    · exact .inl h1
    · exact .inr ⟨_, h1, by omega⟩

end Go.Proofs.Ytabgfaafpgholaa
