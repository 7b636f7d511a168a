/-
  The specification's PlainOk, its parts: l11Has, l11At, l11Said, l11Both.
  (Ahead of it, in this text: Rows of anything that takes so many cells: each in its place of one block, what it leads to in blocks of its own, told as a list. A system on terms in memory: its code, its actors, what was said; each of them read, and each of them owned. When a system on terms is right: reckoned.)
-/
import Derived.Test.YtgbopbpiciopdaaGreatDoorOsA
import Derived.Laws.IdiomCopy
import Derived.Test.YtgbopbpiciopdaaGreatDoorAcC
import Derived.Test.YtgbopbpiciopdaaGreatDoorCkA
import Derived.Test.YtgbopbpiciopdaaGreatDoorAcE
import Derived.Test.YtgbopbpiciopdaaGreatDoorInn
import Derived.Deep.RegionLaw
namespace Go.Proofs.YtgbopbpiciopdaaGreatDoor
open Go.RowKit
set_option linter.unusedVariables false

/-- A kind of thing: how many cells it takes, how it stands in memory, what keeps it there. -/
structure Elt (α : Type) where
  s : Nat
  E : World → α → List Nat → Nat → Nat → Prop
  pos : 0 < s
  keep : ∀ {w w' : World} {a : α} {bs : List Nat} {b off : Nat}, (∀ x ∈ bs, x < w.heap.size → w'.heap[x]? = w.heap[x]?) → (∀ j v, j < s → w.cell? ⟨b, off + j, none⟩ = some v → w'.cell? ⟨b, off + j, none⟩ = some v) → E w a bs b off → E w' a bs b off
  lt : ∀ {w : World} {a : α} {bs : List Nat} {b off : Nat}, E w a bs b off → ∀ x ∈ bs, x < w.heap.size
  head : ∀ {w : World} {a : α} {bs : List Nat} {b off : Nat}, E w a bs b off → ∃ v, w.cell? ⟨b, off, none⟩ = some v
variable {α : Type} {e : Elt α}
/-- From off on in the block g stand the things of l. -/
def GR (e : Elt α) (w : World) : List α → List Nat → Nat → Nat → Prop
  | [], bs, _, _ => bs = []
  | t :: r, bs, g, off => ∃ b1 b2, bs = b1 ++ b2 ∧ e.E w t b1 g off ∧ GR e w r b2 g (off + e.s)
/-- The list l, its block and all others of it told. -/
def GL (e : Elt α) (w : World) (l : List α) (bs : List Nat) (ao : Option Addr) : Prop :=
  (l = [] ∧ bs = []) ∨ (l ≠ [] ∧ ∃ g o b, bs = g :: b ∧ ao = some ⟨g, o, none⟩ ∧ (∀ x, w.frozen? ⟨g, x, none⟩ = false) ∧ GR e w l b g o)
theorem GR.keep {w w' : World} : ∀ (l : List α) (bs : List Nat) (g off : Nat), (∀ x ∈ bs, x < w.heap.size → w'.heap[x]? = w.heap[x]?) → (∀ o v, off ≤ o → o < off + e.s * l.length → w.cell? ⟨g, o, none⟩ = some v → w'.cell? ⟨g, o, none⟩ = some v) → GR e w l bs g off → GR e w' l bs g off
  | [], bs, g, off, _, _, h => by rw [GR] at h ⊢; exact h
  | t :: r, bs, g, off, hk, hc, h => by
    rw [GR] at h ⊢
    obtain ⟨b1, b2, eb, h4, h5⟩ := h
    subst eb
    have hl : e.s * (t :: r).length = e.s * r.length + e.s := by rw [List.length_cons, Nat.mul_succ]
    exact ⟨b1, b2, rfl, e.keep (fun x hx => hk x (List.mem_append_left _ hx)) (fun j v hj hv => hc _ v (by omega) (by omega) hv) h4, GR.keep r b2 g (off + e.s) (fun x hx => hk x (List.mem_append_right _ hx)) (fun o v ho1 ho2 hv => hc o v (by omega) (by omega) hv) h5⟩
theorem GR.lt {w : World} : ∀ {l : List α} {bs : List Nat} {g off : Nat}, GR e w l bs g off → ∀ x ∈ bs, x < w.heap.size
  | [], bs, g, off, h, x, hx => by rw [GR] at h; rw [h] at hx; cases hx
  | t :: r, bs, g, off, h, x, hx => by
    rw [GR] at h
    obtain ⟨b1, b2, eb, h4, h5⟩ := h
    rw [eb] at hx
    rcases List.mem_append.1 hx with hx | hx
    · exact e.lt h4 x hx
    · exact GR.lt h5 x hx
theorem GR.split {w : World} {t : α} {B : List α} {g : Nat} : ∀ {A : List α} {bs : List Nat} {off : Nat}, GR e w (A ++ t :: B) bs g off → ∃ ba bt bb, bs = ba ++ (bt ++ bb) ∧ GR e w A ba g off ∧ e.E w t bt g (off + A.length * e.s) ∧ GR e w B bb g (off + A.length * e.s + e.s)
  | [], bs, off, h => by
    rw [List.nil_append, GR] at h
    obtain ⟨b1, b2, eb, h4, h5⟩ := h
    exact ⟨[], b1, b2, eb, by rw [GR], by simpa using h4, by simpa using h5⟩
  | x :: A, bs, off, h => by
    rw [List.cons_append, GR] at h
    obtain ⟨b1, b2, eb, h4, h5⟩ := h
    obtain ⟨ba, bt, bb, e2, h6, h7, h8⟩ := GR.split h5
    have el : off + e.s + A.length * e.s = off + (x :: A).length * e.s := by rw [List.length_cons, Nat.succ_mul]; omega
    rw [el] at h7 h8
    exact ⟨b1 ++ ba, bt, bb, by rw [eb, e2, List.append_assoc], by rw [GR]; exact ⟨b1, ba, rfl, h4, h6⟩, h7, h8⟩
theorem GR.join {w : World} {t : α} {B : List α} {g : Nat} {bt bb : List Nat} : ∀ {A : List α} {ba : List Nat} {off : Nat}, GR e w A ba g off → e.E w t bt g (off + A.length * e.s) → GR e w B bb g (off + A.length * e.s + e.s) → GR e w (A ++ t :: B) (ba ++ (bt ++ bb)) g off
  | [], ba, off, h, h4, h5 => by
    rw [GR] at h
    subst h
    rw [List.nil_append, GR]
    exact ⟨bt, bb, rfl, by simpa using h4, by simpa using h5⟩
  | x :: A, ba, off, h, h4, h5 => by
    rw [GR] at h
    obtain ⟨b1, b2, eb, h6, h7⟩ := h
    have el : off + e.s + A.length * e.s = off + (x :: A).length * e.s := by rw [List.length_cons, Nat.succ_mul]; omega
    rw [← el] at h4 h5
    rw [List.cons_append, GR]
    exact ⟨b1, b2 ++ (bt ++ bb), by rw [eb, List.append_assoc], h6, GR.join h7 h4 h5⟩
theorem GR.at {w : World} {l : List α} {bs : List Nat} {g off : Nat} (h : GR e w l bs g off) (j : Nat) (hj : j < l.length) : ∃ bt, (∀ x ∈ bt, x ∈ bs) ∧ e.E w l[j] bt g (off + j * e.s) := by
  have hs : l = l.take j ++ l[j] :: l.drop (j + 1) := by rw [← List.drop_eq_getElem_cons hj, List.take_append_drop]
  rw [hs] at h
  obtain ⟨ba, bt, bb, eb, _, h2, _⟩ := GR.split h
  have hl : (l.take j).length = j := by simp; omega
  rw [hl] at h2
  exact ⟨bt, fun x hx => by rw [eb]; simp [hx], h2⟩
theorem GL.keep {w w' : World} {l : List α} {bs : List Nat} {ao : Option Addr} (hk : ∀ x ∈ bs, x < w.heap.size → w'.heap[x]? = w.heap[x]?) (h : GL e w l bs ao) : GL e w' l bs ao := by
  rcases h with h | ⟨hl, g, o, b, e1, e2, hf, hr⟩
  · exact .inl h
  · subst e1
    have hgl : g < w.heap.size := by
      cases l with
      | nil => exact absurd rfl hl
      | cons t r =>
        rw [GR] at hr
        obtain ⟨_, _, _, ht, _⟩ := hr
        obtain ⟨v, hv⟩ := e.head ht
        exact World.block_lt_of_cell? w _ hv
    have hg := hk g (List.mem_cons_self ..) hgl
    exact .inr ⟨hl, g, o, b, rfl, e2, fun x => by rw [World.frozen?_of_block (w := w) hg]; exact hf x, GR.keep l b g o (fun x hx => hk x (List.mem_cons_of_mem _ hx)) (fun x v _ _ hv => by rw [World.cell?_of_block (w := w) hg]; exact hv) hr⟩
theorem GL.below {w w' : World} {l : List α} {bs : List Nat} {ao : Option Addr} (hb : Below w.heap.size w w') (h : GL e w l bs ao) : GL e w' l bs ao := h.keep (fun x _ hx => hb.block x hx)
theorem GL.lt {w : World} {l : List α} {bs : List Nat} {ao : Option Addr} (h : GL e w l bs ao) : ∀ x ∈ bs, x < w.heap.size := by
  rcases h with ⟨_, h⟩ | ⟨hl, g, o, b, e1, e2, hf, hr⟩
  · intro x hx; rw [h] at hx; cases hx
  · intro x hx
    rw [e1] at hx
    rcases List.mem_cons.1 hx with rfl | hx
    · cases l with
      | nil => exact absurd rfl hl
      | cons t r =>
        rw [GR] at hr
        obtain ⟨_, _, _, ht, _⟩ := hr
        obtain ⟨v, hv⟩ := e.head ht
        exact World.block_lt_of_cell? w _ hv
    · exact hr.lt x hx
theorem GL.nil (w : World) (ao : Option Addr) : GL e w ([] : List α) [] ao := .inl ⟨rfl, rfl⟩

/-! ### A row that is being filled -/
structure MadeG (e : Elt α) (w wr : World) (g : Nat) (l : List α) (k : Nat) (bs : List Nat) : Prop where
  below : Below w.heap.size w wr
  lt : g < wr.heap.size
  some : ∀ j, j < l.length * e.s → (wr.cell? ⟨g, j, none⟩).isSome = true
  free : ∀ o, wr.frozen? ⟨g, o, none⟩ = false
  row : GR e wr (l.take k) bs g 0
  nd : (g :: bs).Nodup
  lo : ∀ b ∈ bs, w.heap.size ≤ b
theorem MadeG.call {w wr w1 : World} {g : Nat} {l : List α} {k : Nat} {bs : List Nat} (h : MadeG e w wr g l k bs) (hb : Below wr.heap.size wr w1) : MadeG e w w1 g l k bs where
  below := h.below.trans (hb.mono h.below.size)
  lt := Nat.lt_of_lt_of_le h.lt hb.size
  some := fun j hj => by rw [hb.cell (p := ⟨g, j, none⟩) h.lt]; exact h.some j hj
  free := fun o => by rw [hb.frozen (p := ⟨g, o, none⟩) h.lt]; exact h.free o
  row := GR.keep _ _ _ _ (fun x _ hx => hb.block x hx) (fun o v _ _ hv => by rw [hb.cell (p := ⟨g, o, none⟩) h.lt]; exact hv) h.row
  nd := h.nd
  lo := h.lo
theorem setCells_blk {b x : Nat} (h : x ≠ b) : ∀ (vs : List Value) (o : Nat) (w : World), (w.setCells b o vs).heap[x]? = w.heap[x]?
  | [], _, _ => rfl
  | v :: r, o, w => by rw [World.setCells, setCells_blk h r, Below.heap_setCell _ ⟨b, o, none⟩ _ x h]
theorem setCells_bel {B : Nat} {b : Nat} (hB : B ≤ b) : ∀ (vs : List Value) (o : Nat) (a w : World), Below B a w → Below B a (w.setCells b o vs)
  | [], _, _, _, h => h
  | v :: r, o, a, w, h => by
    rw [World.setCells]
    exact setCells_bel hB r (o + 1) a _ (h.setCell (p := ⟨b, o, none⟩) hB v)
theorem setCells_sz (b : Nat) : ∀ (vs : List Value) (o : Nat) (w : World), (w.setCells b o vs).heap.size = w.heap.size
  | [], _, _ => rfl
  | v :: r, o, w => by rw [World.setCells, setCells_sz b r]; simp [World.setCell]
theorem MadeG.store {w wr : World} {g : Nat} {l : List α} {k B : Nat} {bs bt : List Nat} (h : MadeG e w wr g l k bs) (hg : w.heap.size ≤ g) (hk : k < l.length) (vs : List Value) (hvs : vs.length = e.s)
    (hE : ∀ w', (∀ j (hj : j < vs.length), w'.cell? ⟨g, k * e.s + j, none⟩ = Option.some vs[j]) → (∀ x ∈ bt, x < wr.heap.size → w'.heap[x]? = wr.heap[x]?) → e.E w' l[k] bt g (k * e.s))
    (hnt : bt.Nodup) (hB : ∀ x ∈ bt, B ≤ x) (hold : ∀ x ∈ bs, x < B) (hgB : g < B) : MadeG e w (wr.setCells g (k * e.s) vs) g l (k + 1) (bs ++ (bt ++ [])) := by
  have hks : (k + 1) * e.s ≤ l.length * e.s := Nat.mul_le_mul_right _ hk
  rw [Nat.succ_mul] at hks
  have hin := World.cell?_setCells_in g vs (k * e.s) wr (fun j hj => h.some (k * e.s + j) (by omega))
  have hout : ∀ i, (i < k * e.s ∨ k * e.s + e.s ≤ i) → (wr.setCells g (k * e.s) vs).cell? ⟨g, i, none⟩ = wr.cell? ⟨g, i, none⟩ := fun i hi =>
    World.cell?_setCells_out g vs (k * e.s) wr ⟨g, i, none⟩ (fun _ _ => by rw [hvs]; exact hi)
  have hlen : (l.take k).length = k := by simp; omega
  have hwg : ∀ x ∈ bs, x ≠ g := fun x hx q => (List.nodup_cons.1 h.nd).1 (by rw [← q]; exact hx)
  refine ⟨setCells_bel hg _ _ _ _ h.below, by rw [setCells_sz]; exact h.lt, fun j hj => ?_, fun o => by rw [World.frozen?_setCells]; exact h.free o, ?_, ?_, fun x hx => ?_⟩
  · by_cases hj1 : j < k * e.s ∨ k * e.s + e.s ≤ j
    · rw [hout j hj1]; exact h.some j hj
    · obtain ⟨d, rfl⟩ : ∃ d, j = k * e.s + d := ⟨j - k * e.s, by omega⟩
      rw [hin d (by omega)]; rfl
  · rw [List.take_succ_eq_append_getElem hk]
    refine GR.join (GR.keep _ _ _ _ (fun x hx _ => setCells_blk (hwg x hx) _ _ _) (fun o v _ ho hv => ?_) h.row) ?_ (by rw [GR])
    · rw [hlen, Nat.mul_comm e.s k] at ho
      rw [hout o (.inl (by omega))]; exact hv
    · rw [hlen, Nat.zero_add]
      exact hE _ (fun j hj => hin j hj) (fun x hx _ => setCells_blk (by have := hB x hx; omega) _ _ _)
  · rw [List.append_nil, List.nodup_cons]
    obtain ⟨n1, n2⟩ := List.nodup_cons.1 h.nd
    refine ⟨fun hm => ?_, List.nodup_append.2 ⟨n2, hnt, fun x hx y hy q => ?_⟩⟩
    · rcases List.mem_append.1 hm with h1 | h1
      · exact n1 h1
      · have := hB g h1; omega
    · have h1 := hold x hx
      have h2 := hB y hy
      omega
  · rw [List.append_nil] at hx
    rcases List.mem_append.1 hx with h1 | h1
    · exact h.lo x h1
    · have := hB x h1; omega
theorem MadeG.done {w wr : World} {g : Nat} {l : List α} {bs : List Nat} (h : MadeG e w wr g l l.length bs) (hg : w.heap.size ≤ g) : ∃ bs', GL e wr l bs' (.some ⟨g, 0, none⟩) ∧ bs'.Nodup ∧ ∀ b ∈ bs', w.heap.size ≤ b := by
  have hrow := h.row
  rw [List.take_of_length_le (Nat.le_refl _)] at hrow
  by_cases hn : l = []
  · subst hn
    exact ⟨[], GL.nil _ _, by simp, fun b hb => by cases hb⟩
  · exact ⟨g :: bs, .inr ⟨hn, g, 0, bs, rfl, rfl, h.free, hrow⟩, h.nd, fun b hb => by
      rcases List.mem_cons.1 hb with rfl | hb
      · exact hg
      · exact h.lo b hb⟩
end Go.Proofs.YtgbopbpiciopdaaGreatDoor
namespace Go.Proofs.YtgbopbpiciopdaaGreatDoor
open Go.RowKit
open Go.Proofs.YtgbopbpiciopdaaGreatDoor.Code
set_option linter.unusedVariables false

/-! ### What is read -/
structure Sd where
  kind : Int
  pid : Int
  t : Tm
structure Bx5 (w : World) (b o : Nat) (a : Ac) (h : Wh) : Prop where
  c0 : w.cell? ⟨b, o, none⟩ = some (.int .i64 a.pid)
  c1 : w.cell? ⟨b, o + 1, none⟩ = some (.int .i64 a.pc)
  c2 : w.cell? ⟨b, o + 2, none⟩ = some (.slice h.ra a.regs.length h.rc)
  c3 : w.cell? ⟨b, o + 3, none⟩ = some (.slice h.ba a.box.length h.bc)
  c4 : w.cell? ⟨b, o + 4, none⟩ = some (.slice h.la a.N h.lc)
theorem Bx5.below {w w' : World} {b o : Nat} {a : Ac} {h : Wh} (x : Bx5 w b o a h) (hb : Below w.heap.size w w') : Bx5 w' b o a h :=
  ⟨keepA hb x.c0, keepA hb x.c1, keepA hb x.c2, keepA hb x.c3, keepA hb x.c4⟩
/-- The actors l stand one behind the other from ao on. -/
def RowA (w : World) (ao : Option Addr) (l : List Ac) : Prop := l = [] ∨ ∃ b o, ao = some ⟨b, o, none⟩ ∧ ∀ j (hj : j < l.length), ∃ h, Bx5 w b (o + j * 5) l[j] h ∧ AcR w l[j] h
theorem RowA.below {w w' : World} {ao : Option Addr} {l : List Ac} (h : RowA w ao l) (hb : Below w.heap.size w w') : RowA w' ao l := by
  rcases h with h | ⟨b, o, h1, h2⟩
  · exact .inl h
  · exact .inr ⟨b, o, h1, fun j hj => by obtain ⟨h, x, y⟩ := h2 j hj; exact ⟨h, x.below hb, y.below hb⟩⟩
structure BxS (w : World) (b o : Nat) (x : Sd) : Prop where
  c0 : w.cell? ⟨b, o, none⟩ = some (.int .i64 x.kind)
  c1 : w.cell? ⟨b, o + 1, none⟩ = some (.int .i64 x.pid)
  t : RepT 0 w x.t b (o + 2)
theorem repT_below {w w' : World} {t : Tm} {b o : Nat} (h : RepT 0 w t b o) (hb : Below w.heap.size w w') : RepT 0 w' t b o := by
  obtain ⟨k, n, s, l⟩ := t
  rw [RepT] at h ⊢
  obtain ⟨h0, h1, h2, hs, ao, cap, h3, hl, hc, hr⟩ := h
  exact ⟨keepA hb h0, keepA hb h1, keepA hb h2, hs, ao, cap, keepA hb h3, hl, hc, (Keeps.below hb 0).repL _ _ hr⟩
theorem BxS.below {w w' : World} {b o : Nat} {x : Sd} (h : BxS w b o x) (hb : Below w.heap.size w w') : BxS w' b o x :=
  ⟨keepA hb h.c0, keepA hb h.c1, repT_below h.t hb⟩
/-- What was said stands one behind the other from ao on. -/
def RowS (w : World) (ao : Option Addr) (l : List Sd) : Prop := l = [] ∨ ∃ b o, ao = some ⟨b, o, none⟩ ∧ ∀ j (hj : j < l.length), BxS w b (o + j * 6) l[j]
theorem RowS.below {w w' : World} {ao : Option Addr} {l : List Sd} (h : RowS w ao l) (hb : Below w.heap.size w w') : RowS w' ao l := by
  rcases h with h | ⟨b, o, h1, h2⟩
  · exact .inl h
  · exact .inr ⟨b, o, h1, fun j hj => (h2 j hj).below hb⟩
structure Pl where
  code : List I
  acts : List Ac
  next : Int
  out : List Sd
/-- Where its three lists stand. -/
structure Pw where
  ca : Option Addr
  cc : Nat
  aa : Option Addr
  ac : Nat
  oa : Option Addr
  oc : Nat
structure PlR (w : World) (p : Pl) (h : Pw) : Prop where
  code : RowI w h.ca p.code
  acts : RowA w h.aa p.acts
  out : RowS w h.oa p.out
  sm : SmI maxLen p.code
  c1 : p.code.length ≤ maxLen
  a1 : p.acts.length ≤ maxLen
  o1 : p.out.length ≤ maxLen
abbrev plV (p : Pl) (h : Pw) : Value := .agg #[.slice h.ca p.code.length h.cc, .slice h.aa p.acts.length h.ac, .int .i64 p.next, .slice h.oa p.out.length h.oc]
theorem PlR.below {w w' : World} {p : Pl} {h : Pw} (x : PlR w p h) (hb : Below w.heap.size w w') : PlR w' p h :=
  ⟨x.code.below hb, x.acts.below hb, x.out.below hb, x.sm, x.c1, x.a1, x.o1⟩

/-! ### What is owned -/
/-- N numbers in a block of their own. -/
def OwnI (w : World) (N : Nat) (f : Nat → Int) (bs : List Nat) (ao : Option Addr) : Prop :=
  (N = 0 ∧ bs = []) ∨ (N ≠ 0 ∧ ∃ g o, bs = [g] ∧ ao = some ⟨g, o, none⟩ ∧ (∀ x, w.frozen? ⟨g, x, none⟩ = false) ∧ ∀ j, j < N → w.cell? ⟨g, o + j, none⟩ = some (.int .i64 (f j)))
theorem OwnI.rdI {w : World} {N : Nat} {f : Nat → Int} {bs : List Nat} {ao : Option Addr} (h : OwnI w N f bs ao) : RdI w ao N f := fun hn => by
  rcases h with ⟨h0, _⟩ | ⟨_, g, o, _, e, _, hc⟩
  · exact absurd h0 hn
  · exact ⟨g, o, e, hc⟩
theorem OwnI.lt {w : World} {N : Nat} {f : Nat → Int} {bs : List Nat} {ao : Option Addr} (h : OwnI w N f bs ao) : ∀ x ∈ bs, x < w.heap.size := by
  rcases h with ⟨_, h0⟩ | ⟨hn, g, o, e, _, _, hc⟩
  · intro x hx; rw [h0] at hx; cases hx
  · intro x hx
    rw [e] at hx
    obtain rfl := List.mem_singleton.1 hx
    exact World.block_lt_of_cell? w _ (hc 0 (by omega))
theorem OwnI.keep {w w' : World} {N : Nat} {f : Nat → Int} {bs : List Nat} {ao : Option Addr} (hk : ∀ x ∈ bs, x < w.heap.size → w'.heap[x]? = w.heap[x]?) (h : OwnI w N f bs ao) : OwnI w' N f bs ao := by
  have hlt := h.lt
  rcases h with h | ⟨hn, g, o, e, ea, hf, hc⟩
  · exact .inl h
  · have hg := hk g (by rw [e]; simp) (hlt g (by rw [e]; simp))
    exact .inr ⟨hn, g, o, e, ea, fun x => by rw [World.frozen?_of_block (w := w) hg]; exact hf x, fun j hj => by rw [World.cell?_of_block (w := w) hg]; exact hc j hj⟩
/-- The three lists of an actor in blocks of their own. -/
structure AqP (w : World) (a : Ac) (h : Wh) (b1 b2 b3 : List Nat) : Prop where
  regs : OsL w a.regs b1 h.ra
  box : OsL w a.box b2 h.ba
  links : OwnI w a.N a.f b3 h.la
  r1 : a.regs.length ≤ h.rc
  r2 : h.rc ≤ maxLen
  x1 : a.box.length ≤ h.bc
  x2 : h.bc ≤ maxLen
  l1 : a.N ≤ h.lc
  l2 : h.lc ≤ maxLen
def AqO (w : World) (a : Ac) (h : Wh) (bs : List Nat) : Prop := ∃ b1 b2 b3, bs = b1 ++ (b2 ++ b3) ∧ AqP w a h b1 b2 b3
theorem AqO.acR {w : World} {a : Ac} {h : Wh} {bs : List Nat} (x : AqO w a h bs) : AcR w a h := by
  obtain ⟨b1, b2, b3, _, y⟩ := x
  exact ⟨OsL.rep _ _ _ y.regs, OsL.rep _ _ _ y.box, y.links.rdI, y.r1, y.r2, y.x1, y.x2, y.l1, y.l2⟩
theorem AqO.lt {w : World} {a : Ac} {h : Wh} {bs : List Nat} (x : AqO w a h bs) : ∀ b ∈ bs, b < w.heap.size := by
  obtain ⟨b1, b2, b3, e, y⟩ := x
  intro b hb
  rw [e] at hb
  rcases List.mem_append.1 hb with hb | hb
  · exact OsL.lt _ _ _ y.regs b hb
  · rcases List.mem_append.1 hb with hb | hb
    · exact OsL.lt _ _ _ y.box b hb
    · exact y.links.lt b hb
theorem AqO.keep {w w' : World} {a : Ac} {h : Wh} {bs : List Nat} (hk : ∀ x ∈ bs, x < w.heap.size → w'.heap[x]? = w.heap[x]?) (x : AqO w a h bs) : AqO w' a h bs := by
  obtain ⟨b1, b2, b3, e, y⟩ := x
  subst e
  exact ⟨b1, b2, b3, rfl, OsL.keep _ _ _ (fun z hz => hk z (by simp [hz])) y.regs, OsL.keep _ _ _ (fun z hz => hk z (by simp [hz])) y.box, y.links.keep (fun z hz => hk z (by simp [hz])), y.r1, y.r2, y.x1, y.x2, y.l1, y.l2⟩
theorem AqO.below {w w' : World} {a : Ac} {h : Wh} {bs : List Nat} (hb : Below w.heap.size w w') (x : AqO w a h bs) : AqO w' a h bs := x.keep (fun z _ hz => hb.block z hz)
def eltA : Elt Ac where
  s := 5
  E := fun w a bs b off => ∃ h, Bx5 w b off a h ∧ AqO w a h bs
  pos := by omega
  keep := fun hk hc ⟨h, x, y⟩ => ⟨h, ⟨hc 0 _ (by omega) x.c0, hc 1 _ (by omega) x.c1, hc 2 _ (by omega) x.c2, hc 3 _ (by omega) x.c3, hc 4 _ (by omega) x.c4⟩, y.keep hk⟩
  lt := fun ⟨h, x, y⟩ => y.lt
  head := fun ⟨h, x, y⟩ => ⟨_, x.c0⟩
def eltS : Elt Sd where
  s := 6
  E := fun w x bs b off => w.cell? ⟨b, off, none⟩ = some (.int .i64 x.kind) ∧ w.cell? ⟨b, off + 1, none⟩ = some (.int .i64 x.pid) ∧ OsT w x.t bs b (off + 2)
  pos := by omega
  keep := fun hk hc ⟨h0, h1, h2⟩ => ⟨hc 0 _ (by omega) h0, hc 1 _ (by omega) h1, OsT.keep _ _ _ _ hk (fun j v hj hv => by rw [Nat.add_assoc] at hv ⊢; exact hc (2 + j) v (by omega) hv) h2⟩
  lt := fun ⟨h0, h1, h2⟩ => OsT.lt _ _ _ _ h2
  head := fun ⟨h0, h1, h2⟩ => ⟨_, h0⟩
def eltI : Elt I where
  s := 6
  E := fun w x bs b off => bs = [] ∧ Bx6 w b off x
  pos := by omega
  keep := fun hk hc ⟨h0, x⟩ => ⟨h0, ⟨hc 0 _ (by omega) x.c0, hc 1 _ (by omega) x.c1, hc 2 _ (by omega) x.c2, hc 3 _ (by omega) x.c3, hc 4 _ (by omega) x.c4, hc 5 _ (by omega) x.c5⟩⟩
  lt := fun ⟨h0, x⟩ b hb => by rw [h0] at hb; cases hb
  head := fun ⟨h0, x⟩ => ⟨_, x.c0⟩
theorem GL.rowA {w : World} {l : List Ac} {bs : List Nat} {ao : Option Addr} (h : GL eltA w l bs ao) : RowA w ao l := by
  rcases h with h | ⟨hl, g, o, b, _, e2, _, hr⟩
  · exact .inl h.1
  · refine .inr ⟨g, o, e2, fun j hj => ?_⟩
    obtain ⟨bt, _, k, x, y⟩ := hr.at j hj
    exact ⟨k, x, y.acR⟩
theorem GL.rowS {w : World} {l : List Sd} {bs : List Nat} {ao : Option Addr} (h : GL eltS w l bs ao) : RowS w ao l := by
  rcases h with h | ⟨hl, g, o, b, _, e2, _, hr⟩
  · exact .inl h.1
  · refine .inr ⟨g, o, e2, fun j hj => ?_⟩
    obtain ⟨bt, _, x, y, z⟩ := hr.at j hj
    exact ⟨x, y, OsT.rep _ _ _ _ z⟩
theorem GL.rowI {w : World} {l : List I} {bs : List Nat} {ao : Option Addr} (h : GL eltI w l bs ao) : RowI w ao l := by
  rcases h with h | ⟨hl, g, o, b, _, e2, _, hr⟩
  · exact .inl h.1
  · refine .inr ⟨g, o, e2, fun j hj => ?_⟩
    obtain ⟨bt, _, x, y⟩ := hr.at j hj
    exact y
/-- A system in blocks of its own. -/
structure PlQ (w : World) (p : Pl) (h : Pw) (b1 b2 b3 : List Nat) : Prop where
  code : GL eltI w p.code b1 h.ca
  acts : GL eltA w p.acts b2 h.aa
  out : GL eltS w p.out b3 h.oa
  sm : SmI maxLen p.code
  c1 : p.code.length ≤ maxLen
  a1 : p.acts.length ≤ maxLen
  o1 : p.out.length ≤ maxLen
def PlO (w : World) (p : Pl) (h : Pw) (bs : List Nat) : Prop := ∃ b1 b2 b3, bs = b1 ++ (b2 ++ b3) ∧ PlQ w p h b1 b2 b3
theorem PlO.plR {w : World} {p : Pl} {h : Pw} {bs : List Nat} (x : PlO w p h bs) : PlR w p h := by
  obtain ⟨b1, b2, b3, _, y⟩ := x
  exact ⟨y.code.rowI, y.acts.rowA, y.out.rowS, y.sm, y.c1, y.a1, y.o1⟩
theorem PlO.lt {w : World} {p : Pl} {h : Pw} {bs : List Nat} (x : PlO w p h bs) : ∀ b ∈ bs, b < w.heap.size := by
  obtain ⟨b1, b2, b3, e, y⟩ := x
  intro b hb
  rw [e] at hb
  rcases List.mem_append.1 hb with hb | hb
  · exact y.code.lt b hb
  · rcases List.mem_append.1 hb with hb | hb
    · exact y.acts.lt b hb
    · exact y.out.lt b hb
theorem PlO.keep {w w' : World} {p : Pl} {h : Pw} {bs : List Nat} (hk : ∀ x ∈ bs, x < w.heap.size → w'.heap[x]? = w.heap[x]?) (x : PlO w p h bs) : PlO w' p h bs := by
  obtain ⟨b1, b2, b3, e, y⟩ := x
  subst e
  exact ⟨b1, b2, b3, rfl, y.code.keep (fun z hz => hk z (by simp [hz])), y.acts.keep (fun z hz => hk z (by simp [hz])), y.out.keep (fun z hz => hk z (by simp [hz])), y.sm, y.c1, y.a1, y.o1⟩
theorem PlO.below {w w' : World} {p : Pl} {h : Pw} {bs : List Nat} (hb : Below w.heap.size w w') (x : PlO w p h bs) : PlO w' p h bs := x.keep (fun z _ hz => hb.block z hz)
end Go.Proofs.YtgbopbpiciopdaaGreatDoor
namespace Go.Proofs.YtgbopbpiciopdaaGreatDoor
open Go.RowKit Atom
open Go.Proofs.YtgbopbpiciopdaaGreatDoor.Code
set_option linter.unusedVariables false

def hasB (f : Nat → Int) (N : Nat) (x : Int) : Bool := (List.range N).any fun j => f j == x
theorem hasB_yes {f : Nat → Int} {N : Nat} {x : Int} {k : Nat} (hk : k < N) (h : f k = x) : hasB f N x = true := by
  unfold hasB
  rw [List.any_eq_true]
  exact ⟨k, by simp; exact hk, by simp [h]⟩
theorem hasB_no {f : Nat → Int} {N : Nat} {x : Int} (h : ∀ j, j < N → f j ≠ x) : hasB f N x = false := by
  unfold hasB
  rw [List.any_eq_false]
  intro j hj
  simp only [List.mem_range] at hj
  simp [h j hj]
def findA (l : List Ac) (pid : Int) : Option Ac := l.find? fun a => a.pid == pid
theorem findA_yes {l : List Ac} {pid : Int} {m : Nat} (hm : m < l.length) (h : l[m].pid = pid) (hn : ∀ j (hj : j < l.length), j < m → l[j].pid ≠ pid) : findA l pid = some l[m] := by
  unfold findA
  rw [List.find?_eq_some_iff_getElem]
  refine ⟨by simp [h], m, hm, rfl, fun j hj => ?_⟩
  simp [hn j (by omega) hj]
theorem findA_no {l : List Ac} {pid : Int} (hn : ∀ j (hj : j < l.length), l[j].pid ≠ pid) : findA l pid = none := by
  unfold findA
  rw [List.find?_eq_none]
  intro a ha
  obtain ⟨j, hj, rfl⟩ := List.mem_iff_getElem.1 ha
  simp [hn j hj]
/-- The place of the actor of this Pid; -1: there is none. -/
def atZ (l : List Ac) (pid : Int) : Int := match l.findIdx? (fun a => a.pid == pid) with
  | none => -1
  | some m => (m : Int)
theorem atZ_yes {l : List Ac} {pid : Int} {m : Nat} (hm : m < l.length) (h : l[m].pid = pid) (hn : ∀ j (hj : j < l.length), j < m → l[j].pid ≠ pid) : atZ l pid = m := by
  have h1 : l.findIdx? (fun a => a.pid == pid) = some m := List.findIdx?_eq_some_iff_getElem.2 ⟨hm, by simp [h], fun j hj => by simp [hn j (by omega) hj]⟩
  unfold atZ; rw [h1]
theorem atZ_no {l : List Ac} {pid : Int} (hn : ∀ j (hj : j < l.length), l[j].pid ≠ pid) : atZ l pid = -1 := by
  have h1 : l.findIdx? (fun a => a.pid == pid) = none := List.findIdx?_eq_none_iff.2 fun a ha => by
    obtain ⟨j, hj, rfl⟩ := List.mem_iff_getElem.1 ha
    simp [hn j hj]
  unfold atZ; rw [h1]
theorem atZ_cases (l : List Ac) (pid : Int) : (atZ l pid = -1 ∧ findA l pid = none) ∨ ∃ m, ∃ hm : m < l.length, atZ l pid = m ∧ findA l pid = some l[m] := by
  cases h : l.findIdx? (fun a => a.pid == pid) with
  | none =>
    have hn := List.findIdx?_eq_none_iff.1 h
    have hn' : ∀ j (hj : j < l.length), l[j].pid ≠ pid := fun j hj => by have := hn _ (List.getElem_mem hj); simpa using this
    exact .inl ⟨atZ_no hn', findA_no hn'⟩
  | some m =>
    obtain ⟨hm, h1, h2⟩ := List.findIdx?_eq_some_iff_getElem.1 h
    have h1' : l[m].pid = pid := by simpa using h1
    have h2' : ∀ j (hj : j < l.length), j < m → l[j].pid ≠ pid := fun j hj hjm => by have := h2 j hjm; simpa using this
    exact .inr ⟨m, hm, atZ_yes hm h1' h2', findA_yes hm h1' h2'⟩
def bothAt (l : List Ac) (a : Ac) (k : Nat) : Bool := match findA l (a.f k) with
  | none => true
  | some m => hasB m.f m.N a.pid
def bothB (l : List Ac) (a : Ac) : Bool := (List.range a.N).all (bothAt l a)
theorem bothB_no {l : List Ac} {a : Ac} {k : Nat} (hk : k < a.N) (h : bothAt l a k = false) : bothB l a = false := by
  unfold bothB
  rw [List.all_eq_false]
  exact ⟨k, by simp; exact hk, by simp [h]⟩
theorem bothB_yes {l : List Ac} {a : Ac} (h : ∀ k, k < a.N → bothAt l a k = true) : bothB l a = true := by
  unfold bothB
  rw [List.all_eq_true]
  intro k hk
  simp only [List.mem_range] at hk
  exact h k hk
theorem bothAt_none {l : List Ac} {a : Ac} {k : Nat} (h : findA l (a.f k) = none) : bothAt l a k = true := by unfold bothAt; rw [h]
theorem bothAt_some {l : List Ac} {a m : Ac} {k : Nat} (h : findA l (a.f k) = some m) : bothAt l a k = hasB m.f m.N a.pid := by unfold bothAt; rw [h]
def sdB (x : Sd) : Bool := decide (1 ≤ x.kind ∧ x.kind ≤ 3) && (pidB x.pid && okT x.t)
def saidB (l : List Sd) : Bool := l.all sdB && decide (l.length ≤ 500)
theorem saidB_no {l : List Sd} {k : Nat} (hk : k < l.length) (h : sdB l[k] = false) : saidB l = false := by
  unfold saidB
  have : l.all sdB = false := by
    rw [List.all_eq_false]
    exact ⟨l[k], List.getElem_mem hk, by rw [h]; simp⟩
  rw [this]; rfl
theorem saidB_long {l : List Sd} (h : ¬ l.length ≤ 500) : saidB l = false := by
  unfold saidB; rw [decide_eq_false h]; simp
theorem saidB_is {l : List Sd} (h : ∀ k (hk : k < l.length), sdB l[k] = true) : saidB l = decide (l.length ≤ 500) := by
  unfold saidB
  have : l.all sdB = true := by
    rw [List.all_eq_true]
    intro x hx
    obtain ⟨k, hk, rfl⟩ := List.mem_iff_getElem.1 hx
    exact h k hk
  rw [this]; simp
/-- The i-th actor is right where it stands. -/
def ActP (p : Pl) (i : Nat) (hi : i < p.acts.length) : Prop := acB p.code p.acts[i] = true ∧ p.acts[i].pid < p.next ∧ ∀ j (hj : j + 1 = i), (p.acts[j]'(by omega)).pid < p.acts[i].pid
/-- Its actors are right, and linked both ways. -/
def AcsP (p : Pl) : Prop := p.acts.length ≤ 20 ∧ (∀ i (hi : i < p.acts.length), ActP p i hi) ∧ ∀ i (hi : i < p.acts.length), bothB p.acts p.acts[i] = true
def PlP (p : Pl) : Prop := codeB p.code = true ∧ (1 ≤ p.next ∧ p.next ≤ 90000) ∧ AcsP p ∧ saidB p.out = true
open Classical in
noncomputable def acsB (p : Pl) : Bool := decide (AcsP p)
open Classical in
noncomputable def plB (p : Pl) : Bool := decide (PlP p)
open Classical in
theorem acsB_no {p : Pl} (h : ¬ AcsP p) : acsB p = false := by unfold acsB; exact decide_eq_false h
open Classical in
theorem acsB_yes {p : Pl} (h : AcsP p) : acsB p = true := by unfold acsB; exact decide_eq_true h
open Classical in
theorem plB_no {p : Pl} (h : ¬ PlP p) : plB p = false := by unfold plB; exact decide_eq_false h
open Classical in
theorem plB_yes {p : Pl} (h : PlP p) : plB p = true := by unfold plB; exact decide_eq_true h
theorem plB_is {p : Pl} (h1 : codeB p.code = true) (h2 : 1 ≤ p.next ∧ p.next ≤ 90000) (h3 : acsB p = true) : plB p = saidB p.out := by
  have h3' : AcsP p := by
    by_cases h : AcsP p
    · exact h
    · rw [acsB_no h] at h3; cases h3
  cases h : saidB p.out
  · exact plB_no fun q => by rw [q.2.2.2] at h; cases h
  · exact plB_yes ⟨h1, h2, h3', h⟩
/-- The Pids rise: no two alike. -/
theorem rises {p : Pl} (h : ∀ i (hi : i < p.acts.length), ActP p i hi) : ∀ (d i : Nat) (hi : i + d + 1 < p.acts.length), (p.acts[i]'(by omega)).pid < (p.acts[i + d + 1]'hi).pid
  | 0, i, hi => (h (i + 1) hi).2.2 i rfl
  | d + 1, i, hi => by
    have h1 := rises h d i (by omega)
    have h2 := (h (i + d + 1 + 1) (by omega)).2.2 (i + d + 1) rfl
    have e : i + (d + 1) + 1 = i + d + 1 + 1 := by omega
    simp only [e]
    omega
theorem unlike {p : Pl} (h : ∀ i (hi : i < p.acts.length), ActP p i hi) (i j : Nat) (hi : i < p.acts.length) (hj : j < p.acts.length) (hne : i ≠ j) : p.acts[i].pid ≠ p.acts[j].pid := by
  rcases Nat.lt_or_ge i j with h1 | h1
  · have := rises h (j - i - 1) i (by omega)
    have e : i + (j - i - 1) + 1 = j := by omega
    simp only [e] at this
    omega
  · have := rises h (i - j - 1) j (by omega)
    have e : j + (i - j - 1) + 1 = i := by omega
    simp only [e] at this
    omega
end Go.Proofs.YtgbopbpiciopdaaGreatDoor
namespace Go.Proofs.YtgbopbpiciopdaaGreatDoor
open Go.RowKit Atom
open Go.Proofs.YtgbopbpiciopdaaGreatDoor.Code
set_option linter.unusedVariables false

set_option maxHeartbeats 1000000 in
theorem l11Has_any (ao : Option Addr) (N cap : Nat) (f : Nat → Int) (x : Int) (w : World) (hr : RdI w ao N f) (hN : N ≤ maxLen) :
    Calls Tryz.prog 74 #[.slice ao N cap, .int .i64 x] w fun e w' => e = .returned (.bool (hasB f N x)) ∧ w' = w := by
  have HR : Hid (RdI w ao N f) := hr
  clear hr
  unfold maxLen at hN
  go_enter Tryz.func74, Tryz.ntmps74
  go_wp2_with fail
  go_loopw [5] (fun i wr => ∃ k : Nat, k ≤ N ∧ i = .int .i64 k ∧ wr = w ∧ ∀ j, j < k → f j ≠ x) (fun i _ => N - (intOf i).toNat)
  case atStart => exact ⟨0, Nat.zero_le _, rfl, rfl, fun j hj => absurd hj (Nat.not_lt_zero _)⟩
  case round =>
    obtain ⟨k, hk, rfl, hw, hn⟩ := hrel
    obtain rfl := hw.symm
    have HN : Hid (∀ j, j < k → f j ≠ x) := hn
    clear hn
    by_cases hlt : k < N
    · obtain ⟨b, o, rfl, hc⟩ := HR.out (by omega)
      have ck := hc k hlt
      by_cases he : f k = x
      · have HF : Hid (hasB f N x = true) := hasB_yes hlt he
        have q1 : (f k == x) = true := by simp [he]
        generalize f k = y at ck q1
        clear hc he
        go_wp2_with fail
        go_ret
        exact ⟨ret_bool HF.out.symm, rfl⟩
      · have q1 : (f k == x) = false := by simp [he]
        have HS : Hid (∀ j, j < k + 1 → f j ≠ x) := fun j hj => by
          rcases Nat.lt_or_ge j k with h | h
          · exact HN.out j h
          · have : j = k := by omega
            subst this; exact he
        generalize f k = y at ck q1
        clear hc he
        go_wp2_with fail
        go_roundw
        case rel => exact ⟨k + 1, by omega, by go_num, by first | trivial | rfl, HS.out⟩
        case measure => simp [intOf]; omega
    · have HF : Hid (hasB f N x = false) := hasB_no fun j hj => HN.out j (by omega)
      go_wp2_with fail
      go_ret
      exact ⟨ret_bool HF.out.symm, rfl⟩

/-- The box of a system. -/
abbrev plC (p : Pl) (h : Pw) : Array Value := #[.slice h.ca p.code.length h.cc, .slice h.aa p.acts.length h.ac, .int .i64 p.next, .slice h.oa p.out.length h.oc]

set_option maxHeartbeats 1000000 in
set_option maxRecDepth 100000 in
theorem l11At_any (p : Pl) (h : Pw) (pid : Int) (w : World) (hr : RowA w h.aa p.acts) (hl : p.acts.length ≤ maxLen) :
    Calls Tryz.prog 66 #[plV p h, .int .i64 pid] w fun e w' => e = .returned (.int .i64 (atZ p.acts pid)) ∧ Below w.heap.size w w' := by
  obtain ⟨code, acts, next, out⟩ := p
  obtain ⟨ca, cc, aa, ac, oa, oc⟩ := h
  unfold maxLen at hl
  dsimp only at hl hr
  obtain ⟨w0, hw0⟩ : ∃ w0, w0 = w.alloc (.cells #[.slice ca code.length cc, .slice aa acts.length ac, .int .i64 next, .slice oa out.length oc] 33) := ⟨_, rfl⟩
  have hb0 : Below w.heap.size w w0 := by rw [hw0]; exact (Below.refl _ _).alloc (Nat.le_refl _) _
  have HB0 : Hid (Below w.heap.size w w0) := hb0
  have HR : Hid (RowA w0 aa acts) := hr.below hb0
  have d1 : w0.cell? ⟨w.heap.size, 1, none⟩ = some (.slice aa acts.length ac) := by rw [hw0, World.cell?_alloc_new]; rfl
  clear hr hb0
  go_enter Tryz.func66, Tryz.ntmps66
  go_wp2_with fail
  rw [← hw0]
  clear hw0
  go_loopw [5] (fun i wr => ∃ k : Nat, k ≤ acts.length ∧ i = .int .i64 k ∧ wr = w0 ∧ ∀ j (hj : j < acts.length), j < k → acts[j].pid ≠ pid) (fun i _ => acts.length - (intOf i).toNat)
  case atStart => exact ⟨0, Nat.zero_le _, rfl, rfl, fun j _ hj => absurd hj (Nat.not_lt_zero _)⟩
  case round =>
    obtain ⟨k, hk, rfl, hw, hn⟩ := hrel
    obtain rfl := hw.symm
    have HN : Hid (∀ j (hj : j < acts.length), j < k → acts[j].pid ≠ pid) := hn
    clear hn hw
    by_cases hlt : k < acts.length
    · rcases HR.out with h0 | ⟨b, o, rfl, hrow⟩
      · rw [h0] at hlt; simp at hlt
      obtain ⟨hh, hbx, _⟩ := hrow k hlt
      have ck := hbx.c0
      clear hrow hbx
      by_cases he : acts[k].pid = pid
      · have HF : Hid (atZ acts pid = k) := atZ_yes hlt he HN.out
        have q1 : (acts[k].pid == pid) = true := by simp [he]
        clear he
        generalize acts[k].pid = y at ck q1
        go_wp2_with fail
        go_ret
        exact ⟨ret_int HF.out.symm, HB0.out⟩
      · have q1 : (acts[k].pid == pid) = false := by simp [he]
        have HS : Hid (∀ j (hj : j < acts.length), j < k + 1 → acts[j].pid ≠ pid) := fun j hj hjk => by
          rcases Nat.lt_or_ge j k with h | h
          · exact HN.out j hj h
          · have : j = k := by omega
            subst this; exact he
        clear he
        generalize acts[k].pid = y at ck q1
        go_wp2_with fail
        go_roundw
        case rel => exact ⟨k + 1, by omega, by go_num, by first | trivial | rfl, HS.out⟩
        case measure => simp [intOf]; omega
    · have HF : Hid (atZ acts pid = -1) := atZ_no fun j hj => HN.out j hj (by omega)
      go_wp2_with fail
      go_ret
      exact ⟨ret_int HF.out.symm, HB0.out⟩

theorem pidB_in (x : Int) : Atom.inB x 1 99999 = pidB x := rfl
set_option maxHeartbeats 2000000 in
set_option maxRecDepth 100000 in
theorem l11Said_any (l : List Sd) (ao : Option Addr) (cap : Nat) (w : World) (hr : RowS w ao l) (hl : l.length ≤ maxLen) :
    Calls Tryz.prog 32 #[.slice ao l.length cap] w fun e w' => e = .returned (.bool (saidB l)) ∧ Below w.heap.size w w' := by
  have HR : Hid (RowS w ao l) := hr
  clear hr
  unfold maxLen at hl
  go_enter Tryz.func32, Tryz.ntmps32
  go_wp2_with fail
  go_loopw [3] (fun i wr => ∃ k : Nat, k ≤ l.length ∧ i = .int .i64 k ∧ Below w.heap.size w wr ∧ ∀ j (hj : j < l.length), j < k → sdB l[j] = true) (fun i _ => l.length - (intOf i).toNat)
  case atStart => exact ⟨0, Nat.zero_le _, rfl, Below.refl _ _, fun j _ hj => absurd hj (Nat.not_lt_zero _)⟩
  case round =>
    obtain ⟨k, hk, rfl, hb, hn⟩ := hrel
    have HB : Hid (Below w.heap.size w wr) := hb
    have HN : Hid (∀ j (hj : j < l.length), j < k → sdB l[j] = true) := hn
    clear hn hb
    by_cases hlt : k < l.length
    · rcases HR.out.below HB.out with h0 | ⟨b, o, rfl, hrow⟩
      · rw [h0] at hlt; simp at hlt
      have hbx := hrow k hlt
      have HS : Hid (sdB l[k] = true → ∀ j (hj : j < l.length), j < k + 1 → sdB l[j] = true) := fun hq j hj hjk => by
        rcases Nat.lt_or_ge j k with h | h
        · exact HN.out j hj h
        · have : j = k := by omega
          subst this; exact hq
      have HNO : Hid (sdB l[k] = false → saidB l = false) := fun h => saidB_no hlt h
      obtain ⟨tk, tn, ts, tao, tlen, tcap, e0, e1, e2, e3, hv⟩ := hbx.t.cells
      have d0 := hbx.c0
      have d1 := hbx.c1
      have HC : Hid (Calls Tryz.prog 62 #[.agg #[.int .i64 tk, .int .i64 tn, .string ts, .slice tao tlen tcap]] wr fun e w' => e = .returned (.bool (okT l[k].t)) ∧ Below wr.heap.size wr w') := specOk_any l[k].t 0 wr _ hv
      have HD : Hid (sdB l[k] = (decide (1 ≤ l[k].kind ∧ l[k].kind ≤ 3) && (pidB l[k].pid && okT l[k].t))) := rfl
      generalize okT l[k].t = q at HC HD
      generalize l[k].kind = kk at d0 HD
      generalize l[k].pid = pp at d1 HD
      generalize sdB l[k] = sb at HS HNO HD
      clear hrow hbx hv
      by_cases h1 : 1 ≤ kk ∧ kk ≤ 3
      · have i1 : Atom.inB kk 1 3 = true := decide_eq_true h1
        by_cases h2 : 1 ≤ pp ∧ pp ≤ 99999
        · have i2 : Atom.inB pp 1 99999 = true := decide_eq_true h2
          have HE : Hid (sb = q) := by
            show _ = _
            rw [HD.out, decide_eq_true h1, show pidB pp = true from decide_eq_true h2]; simp
          clear h1 h2 HD
          cases q
          · have HF : Hid (saidB l = false) := HNO.out HE.out
            go_wp2_with (first | (go_at_call 31; refine (Atom.in_any _ _ _ _).mono ?_; rintro e w' ⟨rfl, hw'⟩; obtain rfl := hw'.symm) | (go_at_call 62; refine HC.out.mono ?_; rintro e w3 ⟨rfl, hb3⟩; have HB3 : Hid (Below w.heap.size w w3) := HB.out.trans (hb3.mono HB.out.size); clear hb3))
            go_ret
            exact ⟨ret_bool HF.out.symm, HB3.out⟩
          · have HF : Hid (∀ j (hj : j < l.length), j < k + 1 → sdB l[j] = true) := HS.out HE.out
            go_wp2_with (first | (go_at_call 31; refine (Atom.in_any _ _ _ _).mono ?_; rintro e w' ⟨rfl, hw'⟩; obtain rfl := hw'.symm) | (go_at_call 62; refine HC.out.mono ?_; rintro e w3 ⟨rfl, hb3⟩; have HB3 : Hid (Below w.heap.size w w3) := HB.out.trans (hb3.mono HB.out.size); clear hb3))
            go_roundw
            case rel => exact ⟨k + 1, by omega, by go_num, HB3.out, HF.out⟩
            case measure => simp [intOf]; omega
        · have i2 : Atom.inB pp 1 99999 = false := decide_eq_false h2
          have HF : Hid (saidB l = false) := HNO.out (by rw [HD.out, show pidB pp = false from decide_eq_false h2]; simp)
          clear h1 h2 HD
          go_wp2_with (first | (go_at_call 31; refine (Atom.in_any _ _ _ _).mono ?_; rintro e w' ⟨rfl, hw'⟩; obtain rfl := hw'.symm))
          go_ret
          exact ⟨ret_bool HF.out.symm, HB.out⟩
      · have i1 : Atom.inB kk 1 3 = false := decide_eq_false h1
        have HF : Hid (saidB l = false) := HNO.out (by rw [HD.out, decide_eq_false h1]; simp)
        clear h1 HD
        go_wp2_with (first | (go_at_call 31; refine (Atom.in_any _ _ _ _).mono ?_; rintro e w' ⟨rfl, hw'⟩; obtain rfl := hw'.symm))
        go_ret
        exact ⟨ret_bool HF.out.symm, HB.out⟩
    · have HF : Hid (saidB l = decide ((l.length : Int) ≤ 500)) := by
        show _ = _
        rw [saidB_is fun j hj => HN.out j hj (by omega)]
        exact decide_eq_decide.2 (by omega)
      go_wp2_with fail
      go_ret
      exact ⟨ret_bool HF.out.symm, HB.out⟩

set_option maxHeartbeats 2000000 in
set_option maxRecDepth 100000 in
theorem l11Both_any (p : Pl) (h : Pw) (i : Nat) (hi : i < p.acts.length) (w : World) (hr : RowA w h.aa p.acts) (hl : p.acts.length ≤ maxLen) :
    Calls Tryz.prog 34 #[plV p h, .int .i64 i] w fun e w' => e = .returned (.bool (bothB p.acts p.acts[i])) ∧ Below w.heap.size w w' := by
  have KAT : Hid (∀ (pid : Int) (wc : World), Below w.heap.size w wc → Calls Tryz.prog 66 #[plV p h, .int .i64 pid] wc fun e w' => e = .returned (.int .i64 (atZ p.acts pid)) ∧ Below wc.heap.size wc w') := fun pid wc hb => l11At_any p h pid wc (hr.below hb) hl
  obtain ⟨code, acts, next, out⟩ := p
  obtain ⟨ca, cc, aa, ac, oa, oc⟩ := h
  unfold maxLen at hl
  dsimp only at hl hr hi KAT
  rcases hr with h0 | ⟨b, o, rfl, hrow⟩
  · rw [h0] at hi; simp at hi
  have HROW : Hid (∀ wc, Below w.heap.size w wc → ∀ j (hj : j < acts.length), ∃ hh, Bx5 wc b (o + j * 5) acts[j] hh ∧ AcR wc acts[j] hh) := fun wc hb j hj => by obtain ⟨hh, x, y⟩ := hrow j hj; exact ⟨hh, x.below hb, y.below hb⟩
  obtain ⟨hh, hbx, hac⟩ := HROW.out (w.alloc (.cells #[.slice ca code.length cc, .slice (some ⟨b, o, none⟩) acts.length ac, .int .i64 next, .slice oa out.length oc] 33)) ((Below.refl _ _).alloc (Nat.le_refl _) _) i hi
  have HBO : Hid (∀ k, k < acts[i].N → bothAt acts acts[i] k = false → bothB acts acts[i] = false) := fun k hk hf => bothB_no hk hf
  have HBY : Hid ((∀ k, k < acts[i].N → bothAt acts acts[i] k = true) → bothB acts acts[i] = true) := bothB_yes
  have HBN : Hid (∀ k, findA acts (acts[i].f k) = none → bothAt acts acts[i] k = true) := fun k hq => bothAt_none hq
  have HBS : Hid (∀ k m, findA acts (acts[i].f k) = some m → bothAt acts acts[i] k = hasB m.f m.N acts[i].pid) := fun k m hq => bothAt_some hq
  generalize acts[i] = a at hbx hac HBO HBY HBN HBS ⊢
  obtain ⟨pid, pc, regs, box, N, f⟩ := a
  obtain ⟨ra, rc, ba, bc, la, lc⟩ := hh
  have c0 := hbx.c0
  have c1 := hbx.c1
  have c2 := hbx.c2
  have c3 := hbx.c3
  have c4 := hbx.c4
  have hNm : N ≤ 9223372036854775807 := by have h1 := hac.l1; have h2 := hac.l2; unfold maxLen at h2; dsimp only at h1 h2; omega
  obtain ⟨w1, hw1⟩ : ∃ w1, w1 = (w.alloc (.cells #[.slice ca code.length cc, .slice (some ⟨b, o, none⟩) acts.length ac, .int .i64 next, .slice oa out.length oc] 33)).alloc (.cells #[.int .i64 pid, .int .i64 pc, .slice ra regs.length rc, .slice ba box.length bc, .slice la N lc] 64) := ⟨_, rfl⟩
  have hb1 : Below w.heap.size w w1 := by rw [hw1]; exact ((Below.refl _ _).alloc (Nat.le_refl _) _).alloc (by simp) _
  have HB1 : Hid (Below w.heap.size w w1) := hb1
  have e1 : (w.alloc (.cells #[.slice ca code.length cc, .slice (some ⟨b, o, none⟩) acts.length ac, .int .i64 next, .slice oa out.length oc] 33)).heap.size = w.heap.size + 1 := by simp
  have q0 : ∀ x, w1.cell? ⟨w.heap.size, x, none⟩ = (#[.slice ca code.length cc, .slice (some ⟨b, o, none⟩) acts.length ac, .int .i64 next, .slice oa out.length oc] : Array Value)[x]? := fun x => by rw [hw1, World.cell?_alloc_lt (h := by simp), World.cell?_alloc_new]
  have qa : ∀ x, w1.cell? ⟨w.heap.size + 1, x, none⟩ = (#[.int .i64 pid, .int .i64 pc, .slice ra regs.length rc, .slice ba box.length bc, .slice la N lc] : Array Value)[x]? := fun x => by rw [hw1, ← e1, World.cell?_alloc_new]
  have hz1 : w.heap.size + 1 < w1.heap.size := by rw [hw1]; simp
  have HLK : Hid (RdI w1 la N f) := hac.links.below (by rw [hw1]; exact (Below.refl _ _).alloc (Nat.le_refl _) _)
  have HQ : Hid (∀ wc, Below w1.heap.size w1 wc → (∀ x, wc.cell? ⟨w.heap.size, x, none⟩ = (#[.slice ca code.length cc, .slice (some ⟨b, o, none⟩) acts.length ac, .int .i64 next, .slice oa out.length oc] : Array Value)[x]?) ∧ ∀ x, wc.cell? ⟨w.heap.size + 1, x, none⟩ = (#[.int .i64 pid, .int .i64 pc, .slice ra regs.length rc, .slice ba box.length bc, .slice la N lc] : Array Value)[x]?) := fun wc hb =>
    ⟨fun x => by rw [hb.cell (p := ⟨w.heap.size, x, none⟩) (by show w.heap.size < _; omega)]; exact q0 x, fun x => by rw [hb.cell (p := ⟨w.heap.size + 1, x, none⟩) hz1]; exact qa x⟩
  clear hbx hac hrow hb1 q0 qa e1 hz1
  dsimp only at c0 c1 c2 c3 c4 HBO HBY HBN HBS
  go_enter Tryz.func34, Tryz.ntmps34
  go_wp2_with fail
  rw [← hw1]
  clear hw1 c0 c1 c2 c3 c4
  go_loopw [6] (fun iv wr => ∃ k : Nat, k ≤ N ∧ iv = .int .i64 k ∧ Below w1.heap.size w1 wr ∧ ∀ j, j < k → bothAt acts ⟨pid, pc, regs, box, N, f⟩ j = true) (fun iv _ => N - (intOf iv).toNat)
  case atStart => exact ⟨0, Nat.zero_le _, rfl, Below.refl _ _, fun j hj => absurd hj (Nat.not_lt_zero _)⟩
  case round =>
    obtain ⟨k, hk, rfl, hb, hn⟩ := hrel
    have HB : Hid (Below w1.heap.size w1 wr) := hb
    have HBW : Hid (Below w.heap.size w wr) := HB1.out.trans (hb.mono HB1.out.size)
    have HN : Hid (∀ j, j < k → bothAt acts ⟨pid, pc, regs, box, N, f⟩ j = true) := hn
    clear hn
    obtain ⟨q0, qa⟩ := HQ.out wr hb
    by_cases hlt : k < N
    · obtain ⟨lb, lo, rfl, hc⟩ := HLK.out.below hb (by omega)
      have ck := hc k hlt
      have HS : Hid (bothAt acts ⟨pid, pc, regs, box, N, f⟩ k = true → ∀ j, j < k + 1 → bothAt acts ⟨pid, pc, regs, box, N, f⟩ j = true) := fun hq j hj => by
        rcases Nat.lt_or_ge j k with h | h
        · exact HN.out j h
        · have : j = k := by omega
          subst this; exact hq
      have hcases := atZ_cases acts (f k)
      have HNK : Hid (findA acts (f k) = none → bothAt acts ⟨pid, pc, regs, box, N, f⟩ k = true) := HBN.out k
      have HSK : Hid (∀ m, findA acts (f k) = some m → bothAt acts ⟨pid, pc, regs, box, N, f⟩ k = hasB m.f m.N pid) := HBS.out k
      have HOK : Hid (bothAt acts ⟨pid, pc, regs, box, N, f⟩ k = false → bothB acts ⟨pid, pc, regs, box, N, f⟩ = false) := HBO.out k hlt
      have d0 := Inn.keep (q0 0)
      have d1 := Inn.keep (q0 1)
      have d2 := Inn.keep (q0 2)
      have d3 := Inn.keep (q0 3)
      have a4 := Inn.keep (qa 4)
      have dk := Inn.keep ck
      have KA : Hid (∀ y : Inn wr, Calls Tryz.prog 66 #[.agg #[.slice ca code.length cc, .slice (some ⟨b, o, none⟩) acts.length ac, .int .i64 next, .slice oa out.length oc], .int .i64 (f k)] y.val fun e w' => e = .returned (.int .i64 (atZ acts (f k))) ∧ Below y.val.heap.size y.val w') := fun y => KAT.out (f k) y.val (HBW.out.trans (y.bel.mono HBW.out.size))
      generalize f k = x at *
      generalize atZ acts x = z at *
      clear hc ck hb
      haveI := inn_ne wr
      go_wp2_with fail
      refine wp_region_inn ?_ ?_ ?_
      · kernel_rfl
      · kernel_rfl
      repeat (go_big_quiet_step (first | (go_at_call 66; exact calls_inn (KA.out _))))
      refine wpQuiet_nil ?_
      intro w7 h7
      have HB7 : Hid (Below w1.heap.size w1 w7 ∧ Below w.heap.size w w7) := by
        obtain ⟨y, rfl⟩ := h7
        exact ⟨HB.out.trans (y.bel.mono HB.out.size), HBW.out.trans (y.bel.mono HBW.out.size)⟩
      clear h7 d0 d1 d2 d3 a4 dk q0 qa
      rcases hcases with ⟨rfl, hfn⟩ | ⟨m, hm, rfl, hfs⟩
      · have HF : Hid (∀ j, j < k + 1 → bothAt acts ⟨pid, pc, regs, box, N, f⟩ j = true) := HS.out (HNK.out hfn)
        clear hfn
        haveI := inn_ne w7
        go_wp2_with fail
        refine wp_region_inn ?_ ?_ ?_
        · kernel_rfl
        · kernel_rfl
        repeat (go_big_quiet_step (fail))
        refine wpQuiet_nil ?_
        intro w8 h8
        have HB8 : Hid (Below w1.heap.size w1 w8) := by
          obtain ⟨y, rfl⟩ := h8
          exact HB7.out.1.trans (y.bel.mono HB7.out.1.size)
        clear h8
        go_wp2_with fail
        go_roundw
        case rel => exact ⟨k + 1, by omega, by go_num, HB8.out, HF.out⟩
        case measure => simp [intOf]; omega
      · have HE : Hid (bothAt acts ⟨pid, pc, regs, box, N, f⟩ k = hasB acts[m].f acts[m].N pid) := HSK.out _ hfs
        clear hfs
        obtain ⟨q0, qa⟩ := HQ.out w7 HB7.out.1
        obtain ⟨hh, hbx, hac⟩ := HROW.out w7 HB7.out.2 m hm
        have c4 := hbx.c4
        have hlk := hac.links
        have hml := Nat.le_trans hac.l1 hac.l2
        clear hbx
        generalize acts[m].f = g at *
        generalize acts[m].N = M at *
        have KH : Hid (∀ y : Inn w7, Calls Tryz.prog 74 #[.slice hh.la M hh.lc, .int .i64 pid] y.val fun e w' => e = .returned (.bool (hasB g M pid)) ∧ w' = y.val) := fun y => l11Has_any hh.la M hh.lc g pid y.val (hlk.below y.bel) hml
        generalize hasB g M pid = q at *
        have d1 := Inn.keep (q0 1)
        have a0 := Inn.keep (qa 0)
        have dk := Inn.keep c4
        have hm0 : (m : Int) ≥ 0 := by omega
        clear q0 qa c4 hlk hml hac
        haveI := inn_ne w7
        go_wp2_with fail
        refine wp_region_inn ?_ ?_ ?_
        · kernel_rfl
        · kernel_rfl
        repeat (go_big_quiet_step (first | (go_at_call 74; exact calls_inn_same (KH.out _))))
        refine wpQuiet_nil ?_
        intro w8 h8
        have HB8 : Hid (Below w1.heap.size w1 w8 ∧ Below w.heap.size w w8) := by
          obtain ⟨y, rfl⟩ := h8
          exact ⟨HB7.out.1.trans (y.bel.mono HB7.out.1.size), HB7.out.2.trans (y.bel.mono HB7.out.2.size)⟩
        clear h8 d1 a0 dk
        cases q
        · have HF : Hid (bothB acts ⟨pid, pc, regs, box, N, f⟩ = false) := HOK.out HE.out
          go_wp2_with fail
          go_ret
          exact ⟨ret_bool HF.out.symm, HB8.out.2⟩
        · have HF : Hid (∀ j, j < k + 1 → bothAt acts ⟨pid, pc, regs, box, N, f⟩ j = true) := HS.out HE.out
          go_wp2_with fail
          go_roundw
          case rel => exact ⟨k + 1, by omega, by go_num, HB8.out.1, HF.out⟩
          case measure => simp [intOf]; omega
    · have HF : Hid (bothB acts ⟨pid, pc, regs, box, N, f⟩ = true) := HBY.out fun j hj => HN.out j (by omega)
      clear hb q0
      go_wp2_with fail
      go_ret
      exact ⟨ret_bool HF.out.symm, HBW.out⟩
end Go.Proofs.YtgbopbpiciopdaaGreatDoor
