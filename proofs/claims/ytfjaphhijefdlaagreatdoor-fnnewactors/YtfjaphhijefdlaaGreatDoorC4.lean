/-
  Rows that grow by append: what each thing's cells are, and that they are it.
  (Ahead of it, in this text: Rows of anything that takes so many cells: each in its place of one block, what it leads to in blocks of its own, told as a list. How the exact laws over rows of strings measure, copy, compare, mark and hold them. What the laws mark of a term whose lists stand each in a block of its own. What is marked is found marked (marks up to nine millions). Rows of anything: one of a row is turned; how marks are counted; a row that is begun. Copies that the laws make of terms: each list in a block of its own. Timers in memory: as they are read, as they are owned; the laws' copies of them. Timers in memory of their own: the program's copies.)
-/
import Derived.Test.YtfjaphhijefdlaaGreatDoorC2
import Derived.Laws.IdiomCopy
import Derived.Test.YtfjaphhijefdlaaGreatDoorSgA
import Derived.Deep.RegionWith
import Derived.Laws.IdiomStrings
import Derived.Test.YtfjaphhijefdlaaGreatDoorC3
import Derived.Deep.RegionHeld3
import Derived.Maps.AppendAt
import Derived.Laws.OwnMore
namespace Go.Proofs.YtfjaphhijefdlaaGreatDoor
open Go.RowKit
set_option linter.unusedVariables false

/-- A kind of thing: how many cells it takes, how it stands in memory, what keeps it there. -/
structure Elt (α : Type) where
  s : Nat
  E : World → α → List Nat → Nat → Nat → Prop
  pos : 0 < s
  keep : ∀ {w w' : World} {a : α} {bs : List Nat} {b off : Nat}, (∀ x ∈ bs, x < w.heap.size → w'.heap[x]? = w.heap[x]?) → (∀ j v, j < s → w.cell? ⟨b, off + j, none⟩ = some v → w'.cell? ⟨b, off + j, none⟩ = some v) → E w a bs b off → E w' a bs b off
  lt : ∀ {w : World} {a : α} {bs : List Nat} {b off : Nat}, E w a bs b off → ∀ x ∈ bs, x < w.heap.size
  head : ∀ {w : World} {a : α} {bs : List Nat} {b off : Nat}, E w a bs b off → ∃ v, w.cell? ⟨b, off, none⟩ = some v
variable {α : Type} {e : Elt α}
/-- From off on in the block g stand the things of l. -/
def GR (e : Elt α) (w : World) : List α → List Nat → Nat → Nat → Prop
  | [], bs, _, _ => bs = []
  | t :: r, bs, g, off => ∃ b1 b2, bs = b1 ++ b2 ∧ e.E w t b1 g off ∧ GR e w r b2 g (off + e.s)
/-- The list l, its block and all others of it told. -/
def GL (e : Elt α) (w : World) (l : List α) (bs : List Nat) (ao : Option Addr) : Prop :=
  (l = [] ∧ bs = []) ∨ (l ≠ [] ∧ ∃ g o b, bs = g :: b ∧ ao = some ⟨g, o, none⟩ ∧ (∀ x, w.frozen? ⟨g, x, none⟩ = false) ∧ GR e w l b g o)
theorem GR.keep {w w' : World} : ∀ (l : List α) (bs : List Nat) (g off : Nat), (∀ x ∈ bs, x < w.heap.size → w'.heap[x]? = w.heap[x]?) → (∀ o v, off ≤ o → o < off + e.s * l.length → w.cell? ⟨g, o, none⟩ = some v → w'.cell? ⟨g, o, none⟩ = some v) → GR e w l bs g off → GR e w' l bs g off
  | [], bs, g, off, _, _, h => by rw [GR] at h ⊢; exact h
  | t :: r, bs, g, off, hk, hc, h => by
    rw [GR] at h ⊢
    obtain ⟨b1, b2, eb, h4, h5⟩ := h
    subst eb
    have hl : e.s * (t :: r).length = e.s * r.length + e.s := by rw [List.length_cons, Nat.mul_succ]
    exact ⟨b1, b2, rfl, e.keep (fun x hx => hk x (List.mem_append_left _ hx)) (fun j v hj hv => hc _ v (by omega) (by omega) hv) h4, GR.keep r b2 g (off + e.s) (fun x hx => hk x (List.mem_append_right _ hx)) (fun o v ho1 ho2 hv => hc o v (by omega) (by omega) hv) h5⟩
theorem GR.lt {w : World} : ∀ {l : List α} {bs : List Nat} {g off : Nat}, GR e w l bs g off → ∀ x ∈ bs, x < w.heap.size
  | [], bs, g, off, h, x, hx => by rw [GR] at h; rw [h] at hx; cases hx
  | t :: r, bs, g, off, h, x, hx => by
    rw [GR] at h
    obtain ⟨b1, b2, eb, h4, h5⟩ := h
    rw [eb] at hx
    rcases List.mem_append.1 hx with hx | hx
    · exact e.lt h4 x hx
    · exact GR.lt h5 x hx
theorem GR.split {w : World} {t : α} {B : List α} {g : Nat} : ∀ {A : List α} {bs : List Nat} {off : Nat}, GR e w (A ++ t :: B) bs g off → ∃ ba bt bb, bs = ba ++ (bt ++ bb) ∧ GR e w A ba g off ∧ e.E w t bt g (off + A.length * e.s) ∧ GR e w B bb g (off + A.length * e.s + e.s)
  | [], bs, off, h => by
    rw [List.nil_append, GR] at h
    obtain ⟨b1, b2, eb, h4, h5⟩ := h
    exact ⟨[], b1, b2, eb, by rw [GR], by simpa using h4, by simpa using h5⟩
  | x :: A, bs, off, h => by
    rw [List.cons_append, GR] at h
    obtain ⟨b1, b2, eb, h4, h5⟩ := h
    obtain ⟨ba, bt, bb, e2, h6, h7, h8⟩ := GR.split h5
    have el : off + e.s + A.length * e.s = off + (x :: A).length * e.s := by rw [List.length_cons, Nat.succ_mul]; omega
    rw [el] at h7 h8
    exact ⟨b1 ++ ba, bt, bb, by rw [eb, e2, List.append_assoc], by rw [GR]; exact ⟨b1, ba, rfl, h4, h6⟩, h7, h8⟩
theorem GR.join {w : World} {t : α} {B : List α} {g : Nat} {bt bb : List Nat} : ∀ {A : List α} {ba : List Nat} {off : Nat}, GR e w A ba g off → e.E w t bt g (off + A.length * e.s) → GR e w B bb g (off + A.length * e.s + e.s) → GR e w (A ++ t :: B) (ba ++ (bt ++ bb)) g off
  | [], ba, off, h, h4, h5 => by
    rw [GR] at h
    subst h
    rw [List.nil_append, GR]
    exact ⟨bt, bb, rfl, by simpa using h4, by simpa using h5⟩
  | x :: A, ba, off, h, h4, h5 => by
    rw [GR] at h
    obtain ⟨b1, b2, eb, h6, h7⟩ := h
    have el : off + e.s + A.length * e.s = off + (x :: A).length * e.s := by rw [List.length_cons, Nat.succ_mul]; omega
    rw [← el] at h4 h5
    rw [List.cons_append, GR]
    exact ⟨b1, b2 ++ (bt ++ bb), by rw [eb, List.append_assoc], h6, GR.join h7 h4 h5⟩
theorem GR.at {w : World} {l : List α} {bs : List Nat} {g off : Nat} (h : GR e w l bs g off) (j : Nat) (hj : j < l.length) : ∃ bt, (∀ x ∈ bt, x ∈ bs) ∧ e.E w l[j] bt g (off + j * e.s) := by
  have hs : l = l.take j ++ l[j] :: l.drop (j + 1) := by rw [← List.drop_eq_getElem_cons hj, List.take_append_drop]
  rw [hs] at h
  obtain ⟨ba, bt, bb, eb, _, h2, _⟩ := GR.split h
  have hl : (l.take j).length = j := by simp; omega
  rw [hl] at h2
  exact ⟨bt, fun x hx => by rw [eb]; simp [hx], h2⟩
theorem GL.keep {w w' : World} {l : List α} {bs : List Nat} {ao : Option Addr} (hk : ∀ x ∈ bs, x < w.heap.size → w'.heap[x]? = w.heap[x]?) (h : GL e w l bs ao) : GL e w' l bs ao := by
  rcases h with h | ⟨hl, g, o, b, e1, e2, hf, hr⟩
  · exact .inl h
  · subst e1
    have hgl : g < w.heap.size := by
      cases l with
      | nil => exact absurd rfl hl
      | cons t r =>
        rw [GR] at hr
        obtain ⟨_, _, _, ht, _⟩ := hr
        obtain ⟨v, hv⟩ := e.head ht
        exact World.block_lt_of_cell? w _ hv
    have hg := hk g (List.mem_cons_self ..) hgl
    exact .inr ⟨hl, g, o, b, rfl, e2, fun x => by rw [World.frozen?_of_block (w := w) hg]; exact hf x, GR.keep l b g o (fun x hx => hk x (List.mem_cons_of_mem _ hx)) (fun x v _ _ hv => by rw [World.cell?_of_block (w := w) hg]; exact hv) hr⟩
theorem GL.below {w w' : World} {l : List α} {bs : List Nat} {ao : Option Addr} (hb : Below w.heap.size w w') (h : GL e w l bs ao) : GL e w' l bs ao := h.keep (fun x _ hx => hb.block x hx)
theorem GL.lt {w : World} {l : List α} {bs : List Nat} {ao : Option Addr} (h : GL e w l bs ao) : ∀ x ∈ bs, x < w.heap.size := by
  rcases h with ⟨_, h⟩ | ⟨hl, g, o, b, e1, e2, hf, hr⟩
  · intro x hx; rw [h] at hx; cases hx
  · intro x hx
    rw [e1] at hx
    rcases List.mem_cons.1 hx with rfl | hx
    · cases l with
      | nil => exact absurd rfl hl
      | cons t r =>
        rw [GR] at hr
        obtain ⟨_, _, _, ht, _⟩ := hr
        obtain ⟨v, hv⟩ := e.head ht
        exact World.block_lt_of_cell? w _ hv
    · exact hr.lt x hx
theorem GL.nil (w : World) (ao : Option Addr) : GL e w ([] : List α) [] ao := .inl ⟨rfl, rfl⟩

/-! ### A row that is being filled -/
structure MadeG (e : Elt α) (w wr : World) (g : Nat) (l : List α) (k : Nat) (bs : List Nat) : Prop where
  below : Below w.heap.size w wr
  lt : g < wr.heap.size
  some : ∀ j, j < l.length * e.s → (wr.cell? ⟨g, j, none⟩).isSome = true
  free : ∀ o, wr.frozen? ⟨g, o, none⟩ = false
  row : GR e wr (l.take k) bs g 0
  nd : (g :: bs).Nodup
  lo : ∀ b ∈ bs, w.heap.size ≤ b
theorem MadeG.call {w wr w1 : World} {g : Nat} {l : List α} {k : Nat} {bs : List Nat} (h : MadeG e w wr g l k bs) (hb : Below wr.heap.size wr w1) : MadeG e w w1 g l k bs where
  below := h.below.trans (hb.mono h.below.size)
  lt := Nat.lt_of_lt_of_le h.lt hb.size
  some := fun j hj => by rw [hb.cell (p := ⟨g, j, none⟩) h.lt]; exact h.some j hj
  free := fun o => by rw [hb.frozen (p := ⟨g, o, none⟩) h.lt]; exact h.free o
  row := GR.keep _ _ _ _ (fun x _ hx => hb.block x hx) (fun o v _ _ hv => by rw [hb.cell (p := ⟨g, o, none⟩) h.lt]; exact hv) h.row
  nd := h.nd
  lo := h.lo
theorem setCells_blk {b x : Nat} (h : x ≠ b) : ∀ (vs : List Value) (o : Nat) (w : World), (w.setCells b o vs).heap[x]? = w.heap[x]?
  | [], _, _ => rfl
  | v :: r, o, w => by rw [World.setCells, setCells_blk h r, Below.heap_setCell _ ⟨b, o, none⟩ _ x h]
theorem setCells_bel {B : Nat} {b : Nat} (hB : B ≤ b) : ∀ (vs : List Value) (o : Nat) (a w : World), Below B a w → Below B a (w.setCells b o vs)
  | [], _, _, _, h => h
  | v :: r, o, a, w, h => by
    rw [World.setCells]
    exact setCells_bel hB r (o + 1) a _ (h.setCell (p := ⟨b, o, none⟩) hB v)
theorem setCells_sz (b : Nat) : ∀ (vs : List Value) (o : Nat) (w : World), (w.setCells b o vs).heap.size = w.heap.size
  | [], _, _ => rfl
  | v :: r, o, w => by rw [World.setCells, setCells_sz b r]; simp [World.setCell]
theorem MadeG.store {w wr : World} {g : Nat} {l : List α} {k B : Nat} {bs bt : List Nat} (h : MadeG e w wr g l k bs) (hg : w.heap.size ≤ g) (hk : k < l.length) (vs : List Value) (hvs : vs.length = e.s)
    (hE : ∀ w', (∀ j (hj : j < vs.length), w'.cell? ⟨g, k * e.s + j, none⟩ = Option.some vs[j]) → (∀ x ∈ bt, x < wr.heap.size → w'.heap[x]? = wr.heap[x]?) → e.E w' l[k] bt g (k * e.s))
    (hnt : bt.Nodup) (hB : ∀ x ∈ bt, B ≤ x) (hold : ∀ x ∈ bs, x < B) (hgB : g < B) : MadeG e w (wr.setCells g (k * e.s) vs) g l (k + 1) (bs ++ (bt ++ [])) := by
  have hks : (k + 1) * e.s ≤ l.length * e.s := Nat.mul_le_mul_right _ hk
  rw [Nat.succ_mul] at hks
  have hin := World.cell?_setCells_in g vs (k * e.s) wr (fun j hj => h.some (k * e.s + j) (by omega))
  have hout : ∀ i, (i < k * e.s ∨ k * e.s + e.s ≤ i) → (wr.setCells g (k * e.s) vs).cell? ⟨g, i, none⟩ = wr.cell? ⟨g, i, none⟩ := fun i hi =>
    World.cell?_setCells_out g vs (k * e.s) wr ⟨g, i, none⟩ (fun _ _ => by rw [hvs]; exact hi)
  have hlen : (l.take k).length = k := by simp; omega
  have hwg : ∀ x ∈ bs, x ≠ g := fun x hx q => (List.nodup_cons.1 h.nd).1 (by rw [← q]; exact hx)
  refine ⟨setCells_bel hg _ _ _ _ h.below, by rw [setCells_sz]; exact h.lt, fun j hj => ?_, fun o => by rw [World.frozen?_setCells]; exact h.free o, ?_, ?_, fun x hx => ?_⟩
  · by_cases hj1 : j < k * e.s ∨ k * e.s + e.s ≤ j
    · rw [hout j hj1]; exact h.some j hj
    · obtain ⟨d, rfl⟩ : ∃ d, j = k * e.s + d := ⟨j - k * e.s, by omega⟩
      rw [hin d (by omega)]; rfl
  · rw [List.take_succ_eq_append_getElem hk]
    refine GR.join (GR.keep _ _ _ _ (fun x hx _ => setCells_blk (hwg x hx) _ _ _) (fun o v _ ho hv => ?_) h.row) ?_ (by rw [GR])
    · rw [hlen, Nat.mul_comm e.s k] at ho
      rw [hout o (.inl (by omega))]; exact hv
    · rw [hlen, Nat.zero_add]
      exact hE _ (fun j hj => hin j hj) (fun x hx _ => setCells_blk (by have := hB x hx; omega) _ _ _)
  · rw [List.append_nil, List.nodup_cons]
    obtain ⟨n1, n2⟩ := List.nodup_cons.1 h.nd
    refine ⟨fun hm => ?_, List.nodup_append.2 ⟨n2, hnt, fun x hx y hy q => ?_⟩⟩
    · rcases List.mem_append.1 hm with h1 | h1
      · exact n1 h1
      · have := hB g h1; omega
    · have h1 := hold x hx
      have h2 := hB y hy
      omega
  · rw [List.append_nil] at hx
    rcases List.mem_append.1 hx with h1 | h1
    · exact h.lo x h1
    · have := hB x h1; omega
theorem MadeG.done {w wr : World} {g : Nat} {l : List α} {bs : List Nat} (h : MadeG e w wr g l l.length bs) (hg : w.heap.size ≤ g) : ∃ bs', GL e wr l bs' (.some ⟨g, 0, none⟩) ∧ bs'.Nodup ∧ ∀ b ∈ bs', w.heap.size ≤ b := by
  have hrow := h.row
  rw [List.take_of_length_le (Nat.le_refl _)] at hrow
  by_cases hn : l = []
  · subst hn
    exact ⟨[], GL.nil _ _, by simp, fun b hb => by cases hb⟩
  · exact ⟨g :: bs, .inr ⟨hn, g, 0, bs, rfl, rfl, h.free, hrow⟩, h.nd, fun b hb => by
      rcases List.mem_cons.1 hb with rfl | hb
      · exact hg
      · exact h.lo b hb⟩
end Go.Proofs.YtfjaphhijefdlaaGreatDoor
namespace Go.Proofs.YtfjaphhijefdlaaGreatDoor
open Go.RowKit
set_option linter.unusedVariables false

/-- The N strings f stand in the block b from 0 on, and may be written. -/
structure Sts (w : World) (b N : Nat) (f : Nat → ByteArray) : Prop where
  cell : ∀ j, j < N → w.cell? ⟨b, j, none⟩ = some (.string (f j))
  free : ∀ x, w.frozen? ⟨b, x, none⟩ = false
def updS (f : Nat → ByteArray) (i : Nat) (x : ByteArray) : Nat → ByteArray := fun j => if j = i then x else f j
theorem Sts.congr {w : World} {b N : Nat} {f g : Nat → ByteArray} (h : Sts w b N f) (e : ∀ j, j < N → f j = g j) : Sts w b N g :=
  ⟨fun j hj => by rw [← e j hj]; exact h.cell j hj, h.free⟩
theorem Sts.set {w : World} {b N : Nat} {f : Nat → ByteArray} (h : Sts w b N f) (i : Nat) (hi : i < N) (x : ByteArray) : Sts (w.setCell ⟨b, i, none⟩ (.string x)) b N (updS f i x) := by
  refine ⟨fun j hj => ?_, fun y => by rw [World.frozen?_setCell]; exact h.free y⟩
  by_cases e : j = i
  · subst e
    rw [updS, if_pos rfl]
    exact World.cell?_setCell_same w _ _ (h.cell j hj)
  · rw [updS, if_neg e, World.cell?_setCell_other (h := fun q => by simp at q; try omega)]
    exact h.cell j hj
theorem Sts.below {w w' : World} {b N : Nat} {f : Nat → ByteArray} (h : Sts w b N f) (hb : Below w.heap.size w w') (hlt : b < w.heap.size) : Sts w' b N f :=
  ⟨fun j hj => by rw [hb.cell (p := ⟨b, j, none⟩) hlt]; exact h.cell j hj, fun x => by rw [hb.frozen (p := ⟨b, x, none⟩) hlt]; exact h.free x⟩
theorem Sts.turn {cb : Nat} {w w' : World} {b N : Nat} {f : Nat → ByteArray} (h : Sts w b N f) (t : Turn cb w w') (hn : b ≠ cb) (hlt : b < w.heap.size) : Sts w' b N f :=
  ⟨fun j hj => t.cell hn (h.cell j hj), fun x => by rw [t.frozen hn hlt]; exact h.free x⟩
def lf (L : List ByteArray) : Nat → ByteArray := fun j => L.getD j ByteArray.empty
theorem lf_at (L : List ByteArray) (j : Nat) (h : j < L.length) : lf L j = L[j] := by
  unfold lf; rw [List.getD_eq_getElem?_getD, List.getElem?_eq_getElem h]; rfl
theorem Sts.txt {w : World} {b : Nat} {L : List ByteArray} (h : Sts w b L.length (lf L)) : Txt w b 0 L := fun j hj => by
  rw [Nat.zero_add, ← lf_at L j hj]; exact h.cell j hj

/-- What a law is handed: L, wherever it lies; of nothing the place is open. -/
def RdT (w : World) (ao : Option Addr) (L : List ByteArray) : Prop := L.length ≠ 0 → ∃ b o, ao = some ⟨b, o, none⟩ ∧ Txt w b o L
theorem RdT.below {w w' : World} {ao : Option Addr} {L : List ByteArray} (h : RdT w ao L) (hb : Below w.heap.size w w') : RdT w' ao L := fun h0 => by
  obtain ⟨b, o, e, hc⟩ := h h0
  exact ⟨b, o, e, hc.below hb⟩
theorem Txt.rd {w : World} {b o : Nat} {L : List ByteArray} (h : Txt w b o L) : RdT w (some ⟨b, o, none⟩) L := fun _ => ⟨b, o, rfl, h⟩

theorem infoStr : (Tryz.prog.info? 9).map (fun i => (i.zero, i.size, i.bytes)) = some (some (.string ByteArray.empty), 1, 16) := by kernel_rfl
theorem undStrs : Tryz.prog.underlying 74 = some (.slice 9) := by kernel_rfl
theorem run_strs (n : Nat) (hn : n ≤ 1048576) (w : World) :
    (Instr.makeSlice 74 (.int .i64 (n : Int)) (.int .i64 (n : Int))).run Tryz.prog w = .ok (.slice (some ⟨w.heap.size, 0, none⟩) n n) (w.alloc (.cells (madeCells #[.string ByteArray.empty] n) 9)) :=
  run_make_row' (P := Tryz.prog) 74 9 (.string ByteArray.empty) 16 undStrs infoStr rfl .i64 .i64 n (by omega) (by omega) w
theorem strs_made (w : World) (n : Nat) : Sts (w.alloc (.cells (madeCells #[.string ByteArray.empty] n) 9)) w.heap.size n (fun _ => ByteArray.empty) := by
  have h := World.rowIs_made w (.string ByteArray.empty) n 9
  exact ⟨fun j hj => h.cell hj, fun x => h.frozen x⟩

/-- The text of a mark. -/
def mkGo (k : Nat) (out : ByteArray) : ByteArray := if h : k = 0 then out else mkGo (k / 10) (⟨#[UInt8.ofNat (48 + k % 10)]⟩ ++ out)
termination_by k
decreasing_by omega
def mkT (k : Nat) : ByteArray := ⟨#[109]⟩ ++ mkGo k ⟨#[]⟩

theorem conv1 (b : UInt8) (x : Int) (h : x = b.toNat) (W : World) (g : Nat) (hc : W.cell? ⟨g, 0, none⟩ = some (.int .u8 x)) :
    (convert 22 9 (.slice (some ⟨g, 0, none⟩) 1 1)).run Tryz.prog W = .ok (.string ⟨#[b]⟩) W := by
  have := run_convert_bytes_back (P := Tryz.prog) W 22 9 5 ⟨g, 0, none⟩ 1 [b] Tryz.underlying22 Tryz.underlying5 Tryz.underlying9 (fun j hj => by
    have : j = 0 := by simpa using hj
    subst this
    show W.cell? ((⟨g, 0, none⟩ : Addr).add 0) = some (.int .u8 (b.toNat : Int))
    rw [← h]
    simpa [Addr.add] using hc)
  exact this
theorem tm (u : Nat) : 48 + (u : Int) % 10 = ((UInt8.ofNat (48 + u % 10)).toNat : Int) := by
  simp; omega
theorem ret_str {a b : ByteArray} (h : a = b) : Ending.returned (.string a) = .returned (.string b) := by rw [h]
theorem pow_fit {m k u : Nat} (h : u * 10 ^ m ≤ k) (hk : k ≤ 4000000000) (hu : 1 ≤ u) : m ≤ 9 := by
  rcases Nat.lt_or_ge 9 m with h6 | h6
  · have h1 : 10 ^ 10 ≤ 10 ^ m := Nat.pow_le_pow_right (by omega) h6
    have h2 : 10 ^ m ≤ u * 10 ^ m := Nat.le_mul_of_pos_left _ hu
    have : (10 : Nat) ^ 10 = 10000000000 := by decide
    omega
  · exact h6
theorem size_cons (b : UInt8) (s : ByteArray) : ((⟨#[b]⟩ : ByteArray) ++ s).size = s.size + 1 := by
  rw [ByteArray.size_append]
  show 1 + s.size = s.size + 1
  omega
end Go.Proofs.YtfjaphhijefdlaaGreatDoor
namespace Go.Proofs.YtfjaphhijefdlaaGreatDoor
open Go.RowKit
set_option linter.unusedVariables false

mutual
def cT : Tm → Nat
  | .mk _ _ _ l => 3 + cL l
def cL : List Tm → Nat
  | [] => 0
  | t :: r => cT t + cL r
end
mutual
def mrT : Tm → Nat → Tm
  | .mk _ _ _ l, K => .mk K ((K : Int) + 1) (mkT (K + 2)) (mrL l (K + 3))
def mrL : List Tm → Nat → List Tm
  | [], _ => []
  | t :: r, K => mrT t K :: mrL r (K + cT t)
end
theorem mrL_len : ∀ (l : List Tm) (K : Nat), (mrL l K).length = l.length
  | [], K => by rw [mrL]
  | t :: r, K => by rw [mrL, List.length_cons, List.length_cons, mrL_len r]
theorem cL_take (l : List Tm) (i : Nat) (h : i < l.length) : cL (l.take (i + 1)) = cL (l.take i) + cT l[i] := by
  induction l generalizing i with
  | nil => simp at h
  | cons t r ih =>
    cases i with
    | zero => simp [cL]
    | succ j =>
      have := ih j (by simpa using h)
      rw [List.take_succ_cons, List.take_succ_cons, cL, cL, this]
      simp only [List.getElem_cons_succ]
      omega
theorem mrL_take (l : List Tm) (i K : Nat) (h : i < l.length) : mrL (l.take (i + 1)) K = mrL (l.take i) K ++ [mrT l[i] (K + cL (l.take i))] := by
  induction l generalizing i K with
  | nil => simp at h
  | cons t r ih =>
    cases i with
    | zero => simp [mrL, cL]
    | succ j =>
      have := ih j (K + cT t) (by simpa using h)
      rw [List.take_succ_cons, List.take_succ_cons, mrL, mrL, this, cL]
      simp only [List.getElem_cons_succ, List.cons_append]
      rw [Nat.add_assoc]
theorem cL_le (l : List Tm) (i : Nat) : cL (l.take i) ≤ cL l := by
  induction l generalizing i with
  | nil => simp [cL]
  | cons t r ih =>
    cases i with
    | zero => simp [cL]
    | succ j => rw [List.take_succ_cons, cL, cL]; have := ih j; omega
theorem mkGo_dig : ∀ (d k : Nat) (s : ByteArray), k < 10 ^ d → (mkGo k s).size ≤ s.size + d := by
  intro d
  induction d with
  | zero =>
    intro k s h
    rw [mkGo]
    split
    · omega
    · rename_i hk; simp at h; omega
  | succ d ih =>
    intro k s h
    rw [mkGo]
    split
    · omega
    · have h1 := ih (k / 10) (⟨#[UInt8.ofNat (48 + k % 10)]⟩ ++ s) (by rw [Nat.pow_succ] at h; omega)
      rw [size_cons] at h1
      omega
theorem mkT_dig (k : Nat) (h : k ≤ 9000000) : (mkT k).size ≤ 1048576 := by
  unfold mkT
  rw [size_cons]
  have := mkGo_dig 7 k ⟨#[]⟩ (by omega)
  have e : (⟨#[]⟩ : ByteArray).size = 0 := rfl
  omega

/-- What is in none of these blocks is as it was. -/
structure OutB (bs : List Nat) (w w' : World) : Prop where
  os : w'.os = w.os
  tape : w'.tape = w.tape
  output : w'.output = w.output
  size : w.heap.size ≤ w'.heap.size
  block : ∀ b, b < w.heap.size → b ∉ bs → w'.heap[b]? = w.heap[b]?
theorem OutB.refl (bs : List Nat) (w : World) : OutB bs w w := ⟨rfl, rfl, rfl, Nat.le_refl _, fun _ _ _ => rfl⟩
theorem OutB.trans {bs : List Nat} {a b c : World} (h : OutB bs a b) (k : OutB bs b c) : OutB bs a c :=
  ⟨k.os.trans h.os, k.tape.trans h.tape, k.output.trans h.output, Nat.le_trans h.size k.size, fun x hx hn => (k.block x (Nat.lt_of_lt_of_le hx h.size) hn).trans (h.block x hx hn)⟩
theorem OutB.wide {bs bs' : List Nat} {a b : World} (h : OutB bs a b) (h1 : ∀ x ∈ bs, x ∈ bs') : OutB bs' a b := ⟨h.os, h.tape, h.output, h.size, fun x hx hn => h.block x hx (fun hh => hn (h1 x hh))⟩
theorem OutB.below {bs : List Nat} {a b : World} (h : Below a.heap.size a b) : OutB bs a b := ⟨h.os, h.tape, h.output, h.size, fun x hx _ => h.block x hx⟩
theorem OutB.set {bs : List Nat} {a b : World} (h : OutB bs a b) {g : Nat} (h1 : g ∈ bs) (o : Nat) (v : Value) : OutB bs a (b.setCell ⟨g, o, none⟩ v) :=
  ⟨h.os, h.tape, h.output, by rw [World.size_setCell]; exact h.size, fun x hx hn => by rw [Below.heap_setCell _ ⟨g, o, none⟩ _ x (by show x ≠ g; intro e; exact hn (by rw [e]; exact h1))]; exact h.block x hx hn⟩

theorem keepM {w w' : World} (h : Below w.heap.size w w') {b o : Nat} {v : Value} (hc : w.cell? ⟨b, o, none⟩ = some v) : w'.cell? ⟨b, o, none⟩ = some v := by
  rw [h.cell (p := ⟨b, o, none⟩) (World.block_lt_of_cell? w _ hc)]; exact hc
/-- The two first cells are written. -/
def two (wr : World) (g o : Nat) (x y : Value) : World := (wr.setCell ⟨g, o, none⟩ x).setCell ⟨g, o + 1, none⟩ y
theorem two_far1 {wr : World} {g o : Nat} {x y : Value} {b o' : Nat} (h : b ≠ g ∨ o' < o ∨ o + 1 < o') : (two wr g o x y).cell? ⟨b, o', none⟩ = wr.cell? ⟨b, o', none⟩ := by
  unfold two
  rw [World.cell?_setCell_other (h := fun e => by simp only [Addr.mk.injEq] at e; omega), World.cell?_setCell_other (h := fun e => by simp only [Addr.mk.injEq] at e; omega)]
theorem two_in {wr : World} {g o : Nat} {x y x0 y0 : Value} (h0 : wr.cell? ⟨g, o, none⟩ = some x0) (h1 : wr.cell? ⟨g, o + 1, none⟩ = some y0) : (two wr g o x y).cell? ⟨g, o, none⟩ = some x ∧ (two wr g o x y).cell? ⟨g, o + 1, none⟩ = some y := by
  unfold two
  refine ⟨?_, ?_⟩
  · rw [World.cell?_setCell_other (h := fun e => by simp only [Addr.mk.injEq] at e; omega)]
    exact World.cell?_setCell_same wr _ _ h0
  · refine World.cell?_setCell_same _ _ _ (u := y0) ?_
    rw [World.cell?_setCell_other (h := fun e => by simp only [Addr.mk.injEq] at e; omega)]
    exact h1
theorem two_block {wr : World} {g o : Nat} {x y : Value} {b : Nat} (h : b ≠ g) : (two wr g o x y).heap[b]? = wr.heap[b]? := by
  unfold two
  rw [Below.heap_setCell _ ⟨g, o + 1, none⟩ _ b h, Below.heap_setCell _ ⟨g, o, none⟩ _ b h]
theorem two_size {wr : World} {g o : Nat} {x y : Value} : (two wr g o x y).heap.size = wr.heap.size := by
  unfold two
  rw [World.size_setCell, World.size_setCell]
theorem two_frozen {wr : World} {g o : Nat} {x y : Value} (p : Addr) : (two wr g o x y).frozen? p = wr.frozen? p := by
  unfold two
  rw [World.frozen?_setCell, World.frozen?_setCell]
/-- One of a row is marked. -/
theorem mark_stepB {wr w3 w5 : World} {A B : List Tm} {g i f Q : Nat} {ba bt bb : List Nat} {k0 n0 : Int} {s0 : ByteArray} {L0 : List Tm} {ao0 : Option Addr} {cap0 : Nat} (hAl : A.length = i)
    (hA : OsR wr A ba g f) (hgw : g < wr.heap.size) (hnd : (g :: (ba ++ (bt ++ bb))).Nodup) (hlt : ∀ x ∈ ba ++ (bt ++ bb), x < wr.heap.size) (hB : OsR wr B bb g (f + i * 4 + 4)) (hQ : Q ≤ 8999990)
    (h0 : wr.cell? ⟨g, f + i * 4, none⟩ = some (.int .i64 k0)) (h1 : wr.cell? ⟨g, f + i * 4 + 1, none⟩ = some (.int .i64 n0)) (h2 : wr.cell? ⟨g, f + i * 4 + 2, none⟩ = some (.string s0)) (h3 : wr.cell? ⟨g, f + i * 4 + 3, none⟩ = some (.slice ao0 L0.length cap0)) (hl0 : L0.length ≤ cap0) (hc0 : cap0 ≤ maxLen)
    (hb3 : Below (two wr g (f + i * 4) (.int .i64 Q) (.int .i64 ((Q : Int) + 1))).heap.size (two wr g (f + i * 4) (.int .i64 Q) (.int .i64 ((Q : Int) + 1))) w3)
    (hO5 : OsL w5 (mrL L0 (Q + 3)) bt ao0) (hout : OutB bt (w3.setCell ⟨g, f + i * 4 + 2, none⟩ (.string (mkT (Q + 2)))) w5) :
    OsR w5 (A ++ mrT (.mk k0 n0 s0 L0) Q :: B) (ba ++ (bt ++ bb)) g f ∧ (∀ o, wr.frozen? ⟨g, o, none⟩ = w5.frozen? ⟨g, o, none⟩) := by
  have s2 : (two wr g (f + i * 4) (.int .i64 Q) (.int .i64 ((Q : Int) + 1))).heap.size = wr.heap.size := two_size
  have s3 := hb3.size
  rw [s2] at s3
  obtain ⟨n1, n2⟩ := List.nodup_cons.1 hnd
  have hgt : g ∉ bt := fun h => n1 (by simp [h])
  have hg3 : g < (w3.setCell ⟨g, f + i * 4 + 2, none⟩ (.string (mkT (Q + 2)))).heap.size := by rw [World.size_setCell]; omega
  have hgb : w5.heap[g]? = (w3.setCell ⟨g, f + i * 4 + 2, none⟩ (.string (mkT (Q + 2)))).heap[g]? := hout.block g hg3 hgt
  have hgc : ∀ o, w5.cell? ⟨g, o, none⟩ = (w3.setCell ⟨g, f + i * 4 + 2, none⟩ (.string (mkT (Q + 2)))).cell? ⟨g, o, none⟩ := fun o => World.cell?_of_block hgb
  have hfar : ∀ o v, (o < f + i * 4 ∨ f + i * 4 + 2 < o) → wr.cell? ⟨g, o, none⟩ = some v → w5.cell? ⟨g, o, none⟩ = some v := fun o v ho hv => by
    rw [hgc, World.cell?_setCell_other (h := fun e => by simp only [Addr.mk.injEq] at e; omega)]
    exact keepM hb3 (by rw [two_far1 (by omega)]; exact hv)
  have hblk : ∀ b, b ≠ g → b ∉ bt → b < wr.heap.size → w5.heap[b]? = wr.heap[b]? := fun b hbg hbn hbl => by
    rw [hout.block b (by rw [World.size_setCell]; omega) hbn, Below.heap_setCell _ ⟨g, f + i * 4 + 2, none⟩ _ b hbg, hb3.block b (by rw [s2]; exact hbl), two_block hbg]
  obtain ⟨t0, t1⟩ := two_in (x := .int .i64 Q) (y := .int .i64 ((Q : Int) + 1)) h0 h1
  have d1 := List.nodup_append.1 n2
  have d2 := List.nodup_append.1 d1.2.1
  refine ⟨OsR.join (OsR.keep A ba g f (fun b hb hbl => hblk b (fun e => n1 (by rw [← e]; simp [hb])) (fun hq => d1.2.2 b hb b (by simp [hq]) rfl) hbl) (fun o v _ ho hv => hfar o v (by omega) hv) hA) ?_ ?_, fun o => ?_⟩
  · rw [hAl, mrT, OsT]
    refine ⟨?_, ?_, ?_, mkT_dig _ (by omega), ao0, cap0, ?_, by rw [mrL_len]; exact hl0, hc0, hO5⟩
    · rw [hgc, World.cell?_setCell_other (h := fun e => by simp only [Addr.mk.injEq] at e; omega)]
      exact keepM hb3 t0
    · rw [hgc, World.cell?_setCell_other (h := fun e => by simp only [Addr.mk.injEq] at e; omega)]
      exact keepM hb3 t1
    · rw [hgc]
      refine World.cell?_setCell_same _ _ _ (u := .string s0) ?_
      exact keepM hb3 (by rw [two_far1 (by omega)]; exact h2)
    · rw [mrL_len]
      exact hfar _ _ (by omega) h3
  · rw [hAl]
    exact OsR.keep B bb g (f + i * 4 + 4) (fun b hb hbl => hblk b (fun e => n1 (by rw [← e]; simp [hb])) (fun hq => d2.2.2 b hq b hb rfl) hbl) (fun o v ho _ hv => hfar o v (by omega) hv) hB
  · have f1 : w5.frozen? ⟨g, o, none⟩ = (w3.setCell ⟨g, f + i * 4 + 2, none⟩ (.string (mkT (Q + 2)))).frozen? ⟨g, o, none⟩ := World.frozen?_of_block hgb
    rw [f1, World.frozen?_setCell, hb3.frozen (p := ⟨g, o, none⟩) (by show g < _; rw [s2]; exact hgw), two_frozen]

end Go.Proofs.YtfjaphhijefdlaaGreatDoor
namespace Go.Proofs.YtfjaphhijefdlaaGreatDoor
open Go.RowKit
set_option linter.unusedVariables false

theorem mrL_get : ∀ (l : List Tm) (K i : Nat) (h : i < (mrL l K).length) (h' : i < l.length), (mrL l K)[i] = mrT l[i] (K + cL (l.take i))
  | [], K, i, h, h' => absurd h' (by simp)
  | t :: r, K, i, h, h' => by
    cases i with
    | zero => simp [mrL, cL]
    | succ j =>
      have hj : j < r.length := by simpa using h'
      have := mrL_get r (K + cT t) j (by rw [mrL_len]; exact hj) hj
      simp only [mrL, List.getElem_cons_succ, this, List.take_succ_cons, cL]
      rw [Nat.add_assoc]
theorem bundrewM {W w3 : World} (hb : Below W.drew.heap.size W.drew w3) : Below W.heap.size W w3 := ⟨hb.os, hb.tape, hb.output, hb.size, hb.block⟩
theorem repL_below {w w' : World} {l : List Tm} {ao : Option Addr} (h : RepL 0 w l ao) (hb : Below w.heap.size w w') : RepL 0 w' l ao := (Keeps.below hb 0).repL _ _ h

end Go.Proofs.YtfjaphhijefdlaaGreatDoor
namespace Go.Proofs.YtfjaphhijefdlaaGreatDoor
open Go.RowKit
set_option linter.unusedVariables false

variable {α : Type} {e : Elt α}
/-- One of a row is turned, and what it leads to; all others stay. -/
theorem GR.turn {w w' : World} {A B : List α} {t' : α} {ba bt bb : List Nat} {g f off : Nat} (ho : off = f + A.length * e.s) (hA : GR e w A ba g f) (hB : GR e w B bb g (off + e.s)) (hnd : (g :: (ba ++ (bt ++ bb))).Nodup) (hlt : ∀ x ∈ ba ++ (bt ++ bb), x < w.heap.size) (hout : OutB (g :: bt) w w')
    (hc : ∀ o v, (o < off ∨ off + e.s ≤ o) → w.cell? ⟨g, o, none⟩ = some v → w'.cell? ⟨g, o, none⟩ = some v) (hE : e.E w' t' bt g off) : GR e w' (A ++ t' :: B) (ba ++ (bt ++ bb)) g f := by
  subst ho
  obtain ⟨n1, n2⟩ := List.nodup_cons.1 hnd
  have d1 := List.nodup_append.1 n2
  have d2 := List.nodup_append.1 d1.2.1
  have hg : ∀ x ∈ ba ++ (bt ++ bb), x ≠ g := fun x hx q => n1 (by rw [← q]; exact hx)
  refine GR.join (GR.keep A ba g f (fun x hx _ => hout.block x (hlt x (by simp [hx])) (fun hm => ?_)) (fun o v _ ho hv => hc o v (.inl (by rw [Nat.mul_comm] at ho; omega)) hv) hA) hE (GR.keep B bb g _ (fun x hx _ => hout.block x (hlt x (by simp [hx])) (fun hm => ?_)) (fun o v ho _ hv => hc o v (.inr ho) hv) hB)
  · rcases List.mem_cons.1 hm with rfl | hm
    · exact hg x (by simp [hx]) rfl
    · exact d1.2.2 x hx x (by simp [hm]) rfl
  · rcases List.mem_cons.1 hm with rfl | hm
    · exact hg x (by simp [hx]) rfl
    · exact d2.2.2 x hm x hx rfl
def cG (c : α → Nat) : List α → Nat
  | [] => 0
  | t :: r => c t + cG c r
def mrG (m : α → Nat → α) (c : α → Nat) : List α → Nat → List α
  | [], _ => []
  | t :: r, K => m t K :: mrG m c r (K + c t)
variable {m : α → Nat → α} {c : α → Nat}
theorem mrG_len : ∀ (l : List α) (K : Nat), (mrG m c l K).length = l.length
  | [], K => by rw [mrG]
  | t :: r, K => by rw [mrG, List.length_cons, List.length_cons, mrG_len r]
theorem cG_take (l : List α) (i : Nat) (h : i < l.length) : cG c (l.take (i + 1)) = cG c (l.take i) + c l[i] := by
  induction l generalizing i with
  | nil => simp at h
  | cons t r ih =>
    cases i with
    | zero => simp [cG]
    | succ j =>
      have := ih j (by simpa using h)
      rw [List.take_succ_cons, List.take_succ_cons, cG, cG, this]
      simp only [List.getElem_cons_succ]
      omega
theorem mrG_take (l : List α) (i K : Nat) (h : i < l.length) : mrG m c (l.take (i + 1)) K = mrG m c (l.take i) K ++ [m l[i] (K + cG c (l.take i))] := by
  induction l generalizing i K with
  | nil => simp at h
  | cons t r ih =>
    cases i with
    | zero => simp [mrG, cG]
    | succ j =>
      have := ih j (K + c t) (by simpa using h)
      rw [List.take_succ_cons, List.take_succ_cons, mrG, mrG, this, cG]
      simp only [List.getElem_cons_succ, List.cons_append]
      rw [Nat.add_assoc]
theorem cG_le (l : List α) (i : Nat) : cG c (l.take i) ≤ cG c l := by
  induction l generalizing i with
  | nil => simp [cG]
  | cons t r ih =>
    cases i with
    | zero => simp [cG]
    | succ j => rw [List.take_succ_cons, cG, cG]; have := ih j; omega
theorem mrG_get : ∀ (l : List α) (K i : Nat) (h : i < (mrG m c l K).length) (h' : i < l.length), (mrG m c l K)[i] = m l[i] (K + cG c (l.take i))
  | [], K, i, h, h' => absurd h' (by simp)
  | t :: r, K, i, h, h' => by
    cases i with
    | zero => simp [mrG, cG]
    | succ j =>
      have hj : j < r.length := by simpa using h'
      have := mrG_get r (K + c t) j (by rw [mrG_len]; exact hj) hj
      simp only [mrG, List.getElem_cons_succ, this, List.take_succ_cons, cG]
      rw [Nat.add_assoc]
theorem madeG_start {α : Type} {e : Elt α} (w : World) (l : List α) (z : Array Value) (hz : z.size = l.length * e.s) (t : TypeId) : MadeG e w (w.alloc (.cells z t)) w.heap.size l 0 [] where
  below := (Below.refl _ _).alloc (Nat.le_refl _) _
  lt := by show w.heap.size < (w.heap.push _).size; simp
  some := fun j hj => by
    rw [World.cell?_alloc_new]
    have : j < z.size := by rw [hz]; exact hj
    simp [this]
  free := fun o => by simp
  row := by simp [GR]
  nd := by simp
  lo := fun b hb => by cases hb
theorem cellOut {bs : List Nat} {w w' : World} (h : OutB bs w w') {b o : Nat} {v : Value} (hn : b ∉ bs) (hc : w.cell? ⟨b, o, none⟩ = some v) : w'.cell? ⟨b, o, none⟩ = some v := by
  rw [World.cell?_of_block (w := w) (h.block b (World.block_lt_of_cell? w _ hc) hn)]; exact hc
end Go.Proofs.YtfjaphhijefdlaaGreatDoor
namespace Go.Proofs.YtfjaphhijefdlaaGreatDoor
open Go.RowKit
set_option linter.unusedVariables false

/-- Texts and lists in it have at most so many. -/
def StS : Tm → Prop
  | .mk _ _ s l => s.size ≤ 1048576 ∧ l.length ≤ 1048576 ∧ ∀ t, t ∈ l → StS t
theorem sz_sts : ∀ (t : Tm) (a : Int), 0 ≤ a → a ≤ 1048576 → 0 ≤ szT t a → StS t := by
  refine Tm.ind ?_
  intro k n s l ih a ha hm h
  rw [szT] at h
  rw [StS]
  split at h
  · omega
  · split at h
    · omega
    · refine ⟨by omega, by omega, ?_⟩
      have go : ∀ (m : List Tm) (c : Int), (∀ t, t ∈ m → t ∈ l) → 0 ≤ c → c ≤ 1048576 → 0 ≤ szGo m c → ∀ t, t ∈ m → StS t := by
        intro m
        induction m with
        | nil => intro c _ _ _ _ t ht; cases ht
        | cons x r ihr =>
          intro c hsub h0 h1 hz t ht
          rw [szGo] at hz
          have hx := szT_le x c h0
          split at hz
          · omega
          · rcases List.mem_cons.1 ht with rfl | ht
            · exact ih t (hsub t (by simp)) c h0 h1 (by omega)
            · exact ihr (szT x c) (fun y hy => hsub y (by simp [hy])) (by omega) (by omega) hz t ht
      exact go l _ (fun t h => h) (by omega) (by omega) h
/-- What is counted. -/
theorem szGo_nt : ∀ (l : List Tm) (a : Int), 0 ≤ a → 0 ≤ szGo l a → szGo l a + (inL l : Int) ≤ a
  | [], a, h0, h => by rw [szGo, inL]; omega
  | .mk k n s l :: r, a, h0, h => by
    rw [szGo] at h ⊢
    have hx := szT_le (.mk k n s l) a h0
    split at h
    · omega
    · rename_i hq
      rw [if_neg hq]
      have h1 := szGo_nt r (szT (.mk k n s l) a) (by omega) h
      have h2 : szT (.mk k n s l) a + (ntL l : Int) ≤ a := by
        rw [szT] at hq ⊢
        split
        · rename_i h3; rw [if_pos h3] at hq; omega
        · rename_i h3
          rw [if_neg h3] at hq
          split
          · rename_i h4; rw [if_pos h4] at hq; omega
          · rename_i h4
            rw [if_neg h4] at hq
            have h5 := szGo_nt l (a - s.size - l.length) (by omega) (by omega)
            have h6 := ntL_eq l
            omega
      rw [inL]
      omega
theorem szT_nt (k n : Int) (s : ByteArray) (l : List Tm) (a : Int) (h0 : 0 ≤ a) (h : 0 ≤ szT (.mk k n s l) a) : (ntL l : Int) ≤ a := by
  rw [szT] at h
  split at h
  · omega
  · split at h
    · omega
    · have h5 := szGo_nt l (a - s.size - l.length) (by omega) h
      have h6 := ntL_eq l
      omega

structure MadeO (w wr : World) (g : Nat) (l : List Tm) (k : Nat) (bs : List Nat) : Prop where
  below : Below w.heap.size w wr
  lt : g < wr.heap.size
  some : ∀ j, j < l.length * 4 → (wr.cell? ⟨g, j, none⟩).isSome = true
  free : ∀ o, wr.frozen? ⟨g, o, none⟩ = false
  row : OsR wr (l.take k) bs g 0
  nd : (g :: bs).Nodup
  lo : ∀ b ∈ bs, w.heap.size ≤ b
theorem MadeO.call {w wr w1 : World} {g : Nat} {l : List Tm} {k : Nat} {bs : List Nat} (h : MadeO w wr g l k bs) (hb : Below wr.heap.size wr w1) : MadeO w w1 g l k bs where
  below := h.below.trans (hb.mono h.below.size)
  lt := Nat.lt_of_lt_of_le h.lt hb.size
  some := fun j hj => by rw [hb.cell (p := ⟨g, j, none⟩) h.lt]; exact h.some j hj
  free := fun o => by rw [hb.frozen (p := ⟨g, o, none⟩) h.lt]; exact h.free o
  row := OsR.keep _ _ _ _ (fun x _ hx => hb.block x hx) (fun o v _ _ hv => by rw [hb.cell (p := ⟨g, o, none⟩) h.lt]; exact hv) h.row
  nd := h.nd
  lo := h.lo
theorem set4_blk {w : World} {g o x : Nat} {a b c d : Value} (h : x ≠ g) : (set4 w g o a b c d).heap[x]? = w.heap[x]? := by
  unfold set4
  rw [Below.heap_setCell _ ⟨g, o + 3, none⟩ _ x h, Below.heap_setCell _ ⟨g, o + 2, none⟩ _ x h, Below.heap_setCell _ ⟨g, o + 1, none⟩ _ x h, Below.heap_setCell _ ⟨g, o, none⟩ _ x h]
theorem MadeO.store {w wr : World} {g : Nat} {l : List Tm} {k B : Nat} {bs bt : List Nat} (h : MadeO w wr g l k bs) (hg : w.heap.size ≤ g) (hk : k < l.length) {a b c d : Value} (hv : OsV wr bt l[k] (.agg #[a, b, c, d])) (hnt : bt.Nodup) (hB : ∀ x ∈ bt, B ≤ x) (hold : ∀ x ∈ bs, x < B) (hgB : g < B) : MadeO w (set4 wr g (k * 4) a b c d) g l (k + 1) (bs ++ (bt ++ [])) := by
  have hin := set4_in (w := wr) (g := g) (o := k * 4) (a := a) (b := b) (c := c) (d := d) (fun j hj => h.some (k * 4 + j) (by omega))
  have hlen : (l.take k).length = k := by simp; omega
  have hwg : ∀ x ∈ bs, x ≠ g := fun x hx e => (List.nodup_cons.1 h.nd).1 (by rw [← e]; exact hx)
  refine ⟨?_, by rw [set4_size]; exact h.lt, ?_, fun o => by rw [set4_frozen]; exact h.free o, ?_, ?_, fun x hx => ?_⟩
  · exact ((((h.below.setCell (p := ⟨g, k * 4, none⟩) hg _).setCell (p := ⟨g, k * 4 + 1, none⟩) hg _).setCell (p := ⟨g, k * 4 + 2, none⟩) hg _).setCell (p := ⟨g, k * 4 + 3, none⟩) hg _)
  · intro j hj
    by_cases hj1 : j < k * 4 ∨ k * 4 + 3 < j
    · rw [set4_far (p := ⟨g, j, none⟩) (Or.inr hj1)]; exact h.some j hj
    · have : j = k * 4 ∨ j = k * 4 + 1 ∨ j = k * 4 + 2 ∨ j = k * 4 + 3 := by omega
      rcases this with rfl | rfl | rfl | rfl
      · rw [hin.1]; rfl
      · rw [hin.2.1]; rfl
      · rw [hin.2.2.1]; rfl
      · rw [hin.2.2.2]; rfl
  · rw [List.take_succ_eq_append_getElem hk]
    revert hv
    generalize l[k] = t
    intro hv
    obtain ⟨k', n', s', l'⟩ := t
    obtain ⟨ao, cap, e, hs, hl, hc, hr⟩ := hv
    simp only [Value.agg.injEq, Array.mk.injEq, List.cons.injEq, and_true] at e
    obtain ⟨rfl, rfl, rfl, rfl⟩ := e
    refine OsR.join (OsR.keep _ _ _ _ (fun x hx _ => set4_blk (hwg x hx)) (fun o v _ ho hv => ?_) h.row) ?_ (by rw [OsR])
    · rw [hlen] at ho
      rw [set4_far (p := ⟨g, o, none⟩) (Or.inr (by show o < k * 4 ∨ _; omega))]; exact hv
    · rw [hlen, Nat.zero_add, OsT]
      exact ⟨hin.1, hin.2.1, hin.2.2.1, hs, ao, cap, hin.2.2.2, hl, hc, OsL.keep _ _ _ (fun x hx _ => set4_blk (by have := hB x hx; omega)) hr⟩
  · rw [List.append_nil, List.nodup_cons]
    obtain ⟨n1, n2⟩ := List.nodup_cons.1 h.nd
    refine ⟨fun hm => ?_, List.nodup_append.2 ⟨n2, hnt, fun x hx y hy e => ?_⟩⟩
    · rcases List.mem_append.1 hm with h1 | h1
      · exact n1 h1
      · have := hB g h1; omega
    · have h1 := hold x hx
      have h2 := hB y hy
      omega
  · rw [List.append_nil] at hx
    rcases List.mem_append.1 hx with h1 | h1
    · exact h.lo x h1
    · have := hB x h1; omega
theorem madeO_start (w : World) (l : List Tm) : MadeO w (w.alloc (.cells (zeros l.length) 26)) w.heap.size l 0 [] := by
  have h := made_start w l
  exact ⟨h.below, h.lt, h.some, h.free, by simp [OsR], by simp, fun b hb => by cases hb⟩

end Go.Proofs.YtfjaphhijefdlaaGreatDoor
namespace Go.Proofs.YtfjaphhijefdlaaGreatDoor.Tr
open Go.RowKit Atom
set_option linter.unusedVariables false

structure Sd where
  kind : Int
  pid : Int
  t : Tm
structure BxS (w : World) (b o : Nat) (x : Sd) : Prop where
  c0 : w.cell? ⟨b, o, none⟩ = some (.int .i64 x.kind)
  c1 : w.cell? ⟨b, o + 1, none⟩ = some (.int .i64 x.pid)
  t : RepT 0 w x.t b (o + 2)
theorem repT_below {w w' : World} {t : Tm} {b o : Nat} (h : RepT 0 w t b o) (hb : Below w.heap.size w w') : RepT 0 w' t b o := by
  obtain ⟨k, n, s, l⟩ := t
  rw [RepT] at h ⊢
  obtain ⟨h0, h1, h2, hs, ao, cap, h3, hl, hc, hr⟩ := h
  exact ⟨keepOt hb h0, keepOt hb h1, keepOt hb h2, hs, ao, cap, keepOt hb h3, hl, hc, (Keeps.below hb 0).repL _ _ hr⟩
theorem BxS.below {w w' : World} {b o : Nat} {x : Sd} (h : BxS w b o x) (hb : Below w.heap.size w w') : BxS w' b o x :=
  ⟨keepOt hb h.c0, keepOt hb h.c1, repT_below h.t hb⟩
/-- What was said stands one behind the other from ao on. -/
def RowS (w : World) (ao : Option Addr) (l : List Sd) : Prop := l = [] ∨ ∃ b o, ao = some ⟨b, o, none⟩ ∧ ∀ j (hj : j < l.length), BxS w b (o + j * 6) l[j]
theorem RowS.below {w w' : World} {ao : Option Addr} {l : List Sd} (h : RowS w ao l) (hb : Below w.heap.size w w') : RowS w' ao l := by
  rcases h with h | ⟨b, o, h1, h2⟩
  · exact .inl h
  · exact .inr ⟨b, o, h1, fun j hj => (h2 j hj).below hb⟩
def eltS : Elt Sd where
  s := 6
  E := fun w x bs b off => w.cell? ⟨b, off, none⟩ = some (.int .i64 x.kind) ∧ w.cell? ⟨b, off + 1, none⟩ = some (.int .i64 x.pid) ∧ OsT w x.t bs b (off + 2)
  pos := by omega
  keep := fun hk hc ⟨h0, h1, h2⟩ => ⟨hc 0 _ (by omega) h0, hc 1 _ (by omega) h1, OsT.keep _ _ _ _ hk (fun j v hj hv => by rw [Nat.add_assoc] at hv ⊢; exact hc (2 + j) v (by omega) hv) h2⟩
  lt := fun ⟨h0, h1, h2⟩ => OsT.lt _ _ _ _ h2
  head := fun ⟨h0, h1, h2⟩ => ⟨_, h0⟩
theorem GL.rowS {w : World} {l : List Sd} {bs : List Nat} {ao : Option Addr} (h : GL eltS w l bs ao) : RowS w ao l := by
  rcases h with h | ⟨hl, g, o, b, _, e2, _, hr⟩
  · exact .inl h.1
  · refine .inr ⟨g, o, e2, fun j hj => ?_⟩
    obtain ⟨bt, _, x, y, z⟩ := hr.at j hj
    exact ⟨x, y, OsT.rep _ _ _ _ z⟩
def zerosS (n : Nat) : Array Value := madeCells #[.int .i64 0, .int .i64 0, .int .i64 0, .int .i64 0, .string ⟨#[]⟩, .slice none 0 0] (n * 6)
abbrev sdV (kind pid k n : Int) (s : ByteArray) (ao : Option Addr) (len cap : Nat) : Value := .agg #[.int .i64 kind, .int .i64 pid, .int .i64 k, .int .i64 n, .string s, .slice ao len cap]
end Go.Proofs.YtfjaphhijefdlaaGreatDoor.Tr
namespace Go.Proofs.YtfjaphhijefdlaaGreatDoor.Tr
open Go.RowKit Atom
set_option linter.unusedVariables false

theorem GL.elt {w : World} {l : List Sd} {bs : List Nat} {ao : Option Addr} (h : GL eltS w l bs ao) (hnd : bs.Nodup) (j : Nat) (hj : j < l.length) : ∃ g o bt, ao = some ⟨g, o, none⟩ ∧ bt.Nodup ∧ (∀ x ∈ bt, x ∈ bs) ∧ eltS.E w l[j] bt g (o + j * 6) := by
  rcases h with h | ⟨hl, g, o, b, e1, e2, _, hr⟩
  · rw [h.1] at hj; simp at hj
  · have el : l = l.take j ++ l[j] :: l.drop (j + 1) := by rw [← List.drop_eq_getElem_cons hj, List.take_append_drop]
    have hr' : GR eltS w (l.take j ++ l[j] :: l.drop (j + 1)) b g o := by rw [← el]; exact hr
    obtain ⟨ba, bt, bb, eb, hA, hE, hB⟩ := GR.split hr'
    have hlen : (l.take j).length = j := by simp; omega
    rw [hlen] at hE
    rw [e1, eb, List.nodup_cons] at hnd
    have d1 := List.nodup_append.1 hnd.2
    exact ⟨g, o, bt, e2, (List.nodup_append.1 d1.2.1).1, fun x hx => by rw [e1, eb]; simp [hx], hE⟩
end Go.Proofs.YtfjaphhijefdlaaGreatDoor.Tr
namespace Go.Proofs.YtfjaphhijefdlaaGreatDoor
open Go.RowKit
set_option linter.unusedVariables false

/-- What a row of one's own holds, cell by cell. -/
theorem owns_cells {w : World} {base : Nat} {T : TypeId} {s : Nat} {v : Value} {n : Nat} {xs : List Value} (h : w.ownsRow base T s v n xs) (hn : n ≠ 0) :
    ∃ g c, v = .slice (some ⟨g, 0, none⟩) n c ∧ base ≤ g ∧ n ≤ c ∧ c ≤ maxLen ∧ (∀ j u, xs[j]? = some u → w.cell? ⟨g, j, none⟩ = some u) ∧ (∀ x, w.frozen? ⟨g, x, none⟩ = false) ∧ g < w.heap.size := by
  obtain ⟨_, h1 | ⟨g, c, cur, rfl, hg, hh, hn', hc, hsz, htk⟩⟩ := h
  · exact absurd h1.2 hn
  · refine ⟨g, c, rfl, hg, hn', hc, fun j u hj => ?_, fun x => by simp [World.frozen?, hh], ?_⟩
    · have hcell : w.cell? ⟨g, j, none⟩ = cur[j]? := by simp [World.cell?, hh]
      rw [hcell, ← Array.getElem?_toList]
      rw [← htk, List.getElem?_take] at hj
      split at hj
      · exact hj
      · cases hj
    · rcases Nat.lt_or_ge g w.heap.size with h | h
      · exact h
      · rw [Array.getElem?_eq_none h] at hh; cases hh
variable {α : Type} {e : Elt α}
/-- These cells are a, wherever they lie, as long as its own blocks stand. -/
def VE (e : Elt α) (w : World) (a : α) (vs : List Value) (bs : List Nat) : Prop :=
  vs.length = e.s ∧ (∀ b ∈ bs, b < w.heap.size) ∧ ∀ (w' : World) (b off : Nat), (∀ j v, vs[j]? = some v → w'.cell? ⟨b, off + j, none⟩ = some v) → (∀ x ∈ bs, w'.heap[x]? = w.heap[x]?) → e.E w' a bs b off
def VL (e : Elt α) (w : World) : List α → List Value → List Nat → Prop
  | [], xs, bs => xs = [] ∧ bs = []
  | a :: l, xs, bs => ∃ vs ys b1 b2, xs = vs ++ ys ∧ bs = b1 ++ b2 ∧ VE e w a vs b1 ∧ VL e w l ys b2
theorem VE.keep {w w' : World} {a : α} {vs : List Value} {bs : List Nat} (h : VE e w a vs bs) (hz : w.heap.size ≤ w'.heap.size) (hk : ∀ x ∈ bs, w'.heap[x]? = w.heap[x]?) : VE e w' a vs bs :=
  ⟨h.1, fun b hb => Nat.lt_of_lt_of_le (h.2.1 b hb) hz, fun w2 b off hc hw => h.2.2 w2 b off hc (fun x hx => (hw x hx).trans (hk x hx))⟩
theorem VL.keep {w w' : World} (hz : w.heap.size ≤ w'.heap.size) : ∀ {l : List α} {xs : List Value} {bs : List Nat}, VL e w l xs bs → (∀ x ∈ bs, w'.heap[x]? = w.heap[x]?) → VL e w' l xs bs
  | [], _, _, h, _ => h
  | a :: l, _, _, ⟨vs, ys, b1, b2, h1, h2, h3, h4⟩, hk => by
    subst h1 h2
    exact ⟨vs, ys, b1, b2, rfl, rfl, h3.keep hz (fun x hx => hk x (List.mem_append_left _ hx)), VL.keep hz h4 (fun x hx => hk x (List.mem_append_right _ hx))⟩
theorem VL.snoc {w : World} {a : α} {vs : List Value} {b : List Nat} (hv : VE e w a vs b) : ∀ {l : List α} {xs : List Value} {bs : List Nat}, VL e w l xs bs → VL e w (l ++ [a]) (xs ++ vs) (bs ++ b)
  | [], _, _, ⟨h1, h2⟩ => by subst h1 h2; exact ⟨vs, [], b, [], by simp, by simp, hv, rfl, rfl⟩
  | x :: l, _, _, ⟨ws, ys, b1, b2, h1, h2, h3, h4⟩ => by
    subst h1 h2
    exact ⟨ws, ys ++ vs, b1, b2 ++ b, by simp, by simp, h3, VL.snoc hv h4⟩
theorem VL.lt {w : World} : ∀ {l : List α} {xs : List Value} {bs : List Nat}, VL e w l xs bs → ∀ b ∈ bs, b < w.heap.size
  | [], _, _, ⟨_, h2⟩, b, hb => by subst h2; cases hb
  | a :: l, _, _, ⟨vs, ys, b1, b2, h1, h2, h3, h4⟩, b, hb => by
    subst h2
    rcases List.mem_append.1 hb with hb | hb
    · exact h3.2.1 b hb
    · exact VL.lt h4 b hb
theorem VL.row {w : World} {g : Nat} : ∀ {l : List α} {xs : List Value} {bs : List Nat} (off : Nat), VL e w l xs bs → (∀ j v, xs[j]? = some v → w.cell? ⟨g, off + j, none⟩ = some v) → GR e w l bs g off
  | [], _, _, off, ⟨_, h2⟩, _ => by rw [GR]; exact h2
  | a :: l, _, _, off, ⟨vs, ys, b1, b2, h1, h2, h3, h4⟩, hc => by
    subst h1 h2
    rw [GR]
    refine ⟨b1, b2, rfl, h3.2.2 w g off (fun j v hj => hc j v (by rw [List.getElem?_append_left (List.getElem?_eq_some_iff.1 hj).1]; exact hj)) (fun _ _ => rfl), VL.row (off + e.s) h4 (fun j v hj => ?_)⟩
    have := hc (e.s + j) v (by rw [List.getElem?_append_right (by rw [h3.1]; omega), h3.1, show e.s + j - e.s = j by omega]; exact hj)
    rw [show off + e.s + j = off + (e.s + j) by omega]; exact this
/-- A row of one's own of such things. -/
theorem VL.gl {w : World} {base : Nat} {T : TypeId} {u : Value} {l : List α} {xs : List Value} {bs : List Nat} (h : VL e w l xs bs) (ho : w.ownsRow base T e.s u l.length xs) :
    ∃ ao c, u = .slice ao l.length c ∧ l.length ≤ c ∧ c ≤ maxLen ∧ ∃ bs', GL e w l bs' ao ∧ (∀ b ∈ bs', b ∈ bs ∨ u.ownBlock = some b) ∧ (bs.Nodup → (∀ b ∈ bs, u.ownBlock ≠ some b) → bs'.Nodup) := by
  cases l with
  | nil =>
    obtain ⟨h1, h2⟩ := h
    subst h1 h2
    obtain ⟨_, ⟨h1, _⟩ | ⟨g, c, cur, rfl, hg, hh, hn', hc, hsz, htk⟩⟩ := ho
    · exact ⟨none, 0, h1, Nat.le_refl _, Nat.zero_le _, [], .inl ⟨rfl, rfl⟩, (fun b hb => by cases hb), fun _ _ => List.nodup_nil⟩
    · exact ⟨_, c, rfl, hn', hc, [], .inl ⟨rfl, rfl⟩, (fun b hb => by cases hb), fun _ _ => List.nodup_nil⟩
  | cons a l =>
    obtain ⟨g, c, rfl, h1, h2, h3, h4, h5, h6⟩ := owns_cells ho (by simp)
    refine ⟨_, c, rfl, h2, h3, g :: bs, .inr ⟨by simp, g, 0, bs, rfl, rfl, h5, h.row 0 (fun j v hj => by rw [Nat.zero_add]; exact h4 j v hj)⟩, fun b hb => ?_, fun hn hd => List.nodup_cons.2 ⟨fun hm => hd g hm rfl, hn⟩⟩
    rcases List.mem_cons.1 hb with rfl | hb
    · exact .inr rfl
    · exact .inl hb
theorem osV_lt {w : World} {bs : List Nat} {t : Tm} {v : Value} (h : OsV w bs t v) : ∀ b ∈ bs, b < w.heap.size := by
  obtain ⟨k, m, s, l⟩ := t
  obtain ⟨ao, cp, _, _, _, _, h4⟩ := h
  exact OsL.lt _ _ _ h4
theorem osV_keep {w w' : World} {bs : List Nat} {t : Tm} {v : Value} (h : OsV w bs t v) (hk : ∀ b ∈ bs, b < w.heap.size → w'.heap[b]? = w.heap[b]?) : OsV w' bs t v := by
  obtain ⟨k, m, s, l⟩ := t
  obtain ⟨ao, cp, h1, h2, h3, h4, h5⟩ := h
  exact ⟨ao, cp, h1, h2, h3, h4, OsL.keep _ _ _ hk h5⟩
end Go.Proofs.YtfjaphhijefdlaaGreatDoor
