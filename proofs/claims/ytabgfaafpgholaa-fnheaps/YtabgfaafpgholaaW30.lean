/-
  Terms that are drawn, each list in a block of its own: how they lie in memory while more are drawn.
  (Ahead of it, in this text: Rows that grow by append: what each thing's cells are, and that they are it.)
-/
import Derived.Test.YtabgfaafpgholaaW29
import Derived.Maps.AppendAt
import Derived.Laws.OwnMore
import Derived.Test.YtabgfaafpgholaaW15
namespace Go.Proofs.Ytabgfaafpgholaa
open Go.RowKit
set_option linter.unusedVariables false

/-- What a row of one's own holds, cell by cell. -/
theorem owns_cells {w : World} {base : Nat} {T : TypeId} {s : Nat} {v : Value} {n : Nat} {xs : List Value} (h : w.ownsRow base T s v n xs) (hn : n ≠ 0) :
    ∃ g c, v = .slice (some ⟨g, 0, none⟩) n c ∧ base ≤ g ∧ n ≤ c ∧ c ≤ maxLen ∧ (∀ j u, xs[j]? = some u → w.cell? ⟨g, j, none⟩ = some u) ∧ (∀ x, w.frozen? ⟨g, x, none⟩ = false) ∧ g < w.heap.size := by
  obtain ⟨_, h1 | ⟨g, c, cur, rfl, hg, hh, hn', hc, hsz, htk⟩⟩ := h
  · exact absurd h1.2 hn
  · refine ⟨g, c, rfl, hg, hn', hc, fun j u hj => ?_, fun x => by simp [World.frozen?, hh], ?_⟩
    · have hcell : w.cell? ⟨g, j, none⟩ = cur[j]? := by simp [World.cell?, hh]
      rw [hcell, ← Array.getElem?_toList]
      rw [← htk, List.getElem?_take] at hj
      split at hj
      · exact hj
      · cases hj
    · rcases Nat.lt_or_ge g w.heap.size with h | h
      · exact h
      · rw [Array.getElem?_eq_none h] at hh; cases hh
variable {α : Type} {e : Elt α}
/-- These cells are a, wherever they lie, as long as its own blocks stand. -/
def VE (e : Elt α) (w : World) (a : α) (vs : List Value) (bs : List Nat) : Prop :=
  vs.length = e.s ∧ (∀ b ∈ bs, b < w.heap.size) ∧ ∀ (w' : World) (b off : Nat), (∀ j v, vs[j]? = some v → w'.cell? ⟨b, off + j, none⟩ = some v) → (∀ x ∈ bs, w'.heap[x]? = w.heap[x]?) → e.E w' a bs b off
def VL (e : Elt α) (w : World) : List α → List Value → List Nat → Prop
  | [], xs, bs => xs = [] ∧ bs = []
  | a :: l, xs, bs => ∃ vs ys b1 b2, xs = vs ++ ys ∧ bs = b1 ++ b2 ∧ VE e w a vs b1 ∧ VL e w l ys b2
theorem VE.keep {w w' : World} {a : α} {vs : List Value} {bs : List Nat} (h : VE e w a vs bs) (hz : w.heap.size ≤ w'.heap.size) (hk : ∀ x ∈ bs, w'.heap[x]? = w.heap[x]?) : VE e w' a vs bs :=
  ⟨h.1, fun b hb => Nat.lt_of_lt_of_le (h.2.1 b hb) hz, fun w2 b off hc hw => h.2.2 w2 b off hc (fun x hx => (hw x hx).trans (hk x hx))⟩
theorem VL.keep {w w' : World} (hz : w.heap.size ≤ w'.heap.size) : ∀ {l : List α} {xs : List Value} {bs : List Nat}, VL e w l xs bs → (∀ x ∈ bs, w'.heap[x]? = w.heap[x]?) → VL e w' l xs bs
  | [], _, _, h, _ => h
  | a :: l, _, _, ⟨vs, ys, b1, b2, h1, h2, h3, h4⟩, hk => by
    subst h1 h2
    exact ⟨vs, ys, b1, b2, rfl, rfl, h3.keep hz (fun x hx => hk x (List.mem_append_left _ hx)), VL.keep hz h4 (fun x hx => hk x (List.mem_append_right _ hx))⟩
theorem VL.snoc {w : World} {a : α} {vs : List Value} {b : List Nat} (hv : VE e w a vs b) : ∀ {l : List α} {xs : List Value} {bs : List Nat}, VL e w l xs bs → VL e w (l ++ [a]) (xs ++ vs) (bs ++ b)
  | [], _, _, ⟨h1, h2⟩ => by subst h1 h2; exact ⟨vs, [], b, [], by simp, by simp, hv, rfl, rfl⟩
  | x :: l, _, _, ⟨ws, ys, b1, b2, h1, h2, h3, h4⟩ => by
    subst h1 h2
    exact ⟨ws, ys ++ vs, b1, b2 ++ b, by simp, by simp, h3, VL.snoc hv h4⟩
theorem VL.lt {w : World} : ∀ {l : List α} {xs : List Value} {bs : List Nat}, VL e w l xs bs → ∀ b ∈ bs, b < w.heap.size
  | [], _, _, ⟨_, h2⟩, b, hb => by subst h2; cases hb
  | a :: l, _, _, ⟨vs, ys, b1, b2, h1, h2, h3, h4⟩, b, hb => by
    subst h2
    rcases List.mem_append.1 hb with hb | hb
    · exact h3.2.1 b hb
    · exact VL.lt h4 b hb
theorem VL.row {w : World} {g : Nat} : ∀ {l : List α} {xs : List Value} {bs : List Nat} (off : Nat), VL e w l xs bs → (∀ j v, xs[j]? = some v → w.cell? ⟨g, off + j, none⟩ = some v) → GR e w l bs g off
  | [], _, _, off, ⟨_, h2⟩, _ => by rw [GR]; exact h2
  | a :: l, _, _, off, ⟨vs, ys, b1, b2, h1, h2, h3, h4⟩, hc => by
    subst h1 h2
    rw [GR]
    refine ⟨b1, b2, rfl, h3.2.2 w g off (fun j v hj => hc j v (by rw [List.getElem?_append_left (List.getElem?_eq_some_iff.1 hj).1]; exact hj)) (fun _ _ => rfl), VL.row (off + e.s) h4 (fun j v hj => ?_)⟩
    have := hc (e.s + j) v (by rw [List.getElem?_append_right (by rw [h3.1]; omega), h3.1, show e.s + j - e.s = j by omega]; exact hj)
    rw [show off + e.s + j = off + (e.s + j) by omega]; exact this
/-- A row of one's own of such things. -/
theorem VL.gl {w : World} {base : Nat} {T : TypeId} {u : Value} {l : List α} {xs : List Value} {bs : List Nat} (h : VL e w l xs bs) (ho : w.ownsRow base T e.s u l.length xs) :
    ∃ ao c, u = .slice ao l.length c ∧ l.length ≤ c ∧ c ≤ maxLen ∧ ∃ bs', GL e w l bs' ao ∧ (∀ b ∈ bs', b ∈ bs ∨ u.ownBlock = some b) ∧ (bs.Nodup → (∀ b ∈ bs, u.ownBlock ≠ some b) → bs'.Nodup) := by
  cases l with
  | nil =>
    obtain ⟨h1, h2⟩ := h
    subst h1 h2
    obtain ⟨_, ⟨h1, _⟩ | ⟨g, c, cur, rfl, hg, hh, hn', hc, hsz, htk⟩⟩ := ho
    · exact ⟨none, 0, h1, Nat.le_refl _, Nat.zero_le _, [], .inl ⟨rfl, rfl⟩, (fun b hb => by cases hb), fun _ _ => List.nodup_nil⟩
    · exact ⟨_, c, rfl, hn', hc, [], .inl ⟨rfl, rfl⟩, (fun b hb => by cases hb), fun _ _ => List.nodup_nil⟩
  | cons a l =>
    obtain ⟨g, c, rfl, h1, h2, h3, h4, h5, h6⟩ := owns_cells ho (by simp)
    refine ⟨_, c, rfl, h2, h3, g :: bs, .inr ⟨by simp, g, 0, bs, rfl, rfl, h5, h.row 0 (fun j v hj => by rw [Nat.zero_add]; exact h4 j v hj)⟩, fun b hb => ?_, fun hn hd => List.nodup_cons.2 ⟨fun hm => hd g hm rfl, hn⟩⟩
    rcases List.mem_cons.1 hb with rfl | hb
    · exact .inr rfl
    · exact .inl hb
theorem osV_lt {w : World} {bs : List Nat} {t : Tm} {v : Value} (h : OsV w bs t v) : ∀ b ∈ bs, b < w.heap.size := by
  obtain ⟨k, m, s, l⟩ := t
  obtain ⟨ao, cp, _, _, _, _, h4⟩ := h
  exact OsL.lt _ _ _ h4
theorem osV_keep {w w' : World} {bs : List Nat} {t : Tm} {v : Value} (h : OsV w bs t v) (hk : ∀ b ∈ bs, b < w.heap.size → w'.heap[b]? = w.heap[b]?) : OsV w' bs t v := by
  obtain ⟨k, m, s, l⟩ := t
  obtain ⟨ao, cp, h1, h2, h3, h4, h5⟩ := h
  exact ⟨ao, cp, h1, h2, h3, h4, OsL.keep _ _ _ hk h5⟩
end Go.Proofs.Ytabgfaafpgholaa
namespace Go.Proofs.Ytabgfaafpgholaa
open Go.RowKit
set_option linter.unusedVariables false

def eltT : Elt Tm where
  s := 4
  E := fun w t bs b off => OsT w t bs b off
  pos := by omega
  keep := fun hk hc h => OsT.keep _ _ _ _ hk hc h
  lt := fun h => OsT.lt _ _ _ _ h
  head := fun h => OsT.head h
theorem gr_osR {w : World} {g : Nat} : ∀ (l : List Tm) (bs : List Nat) (off : Nat), GR eltT w l bs g off → OsR w l bs g off
  | [], bs, off, h => by rw [GR] at h; rw [OsR]; exact h
  | t :: r, bs, off, h => by
    rw [GR] at h
    obtain ⟨b1, b2, e, h1, h2⟩ := h
    rw [OsR]
    exact ⟨b1, b2, e, h1, gr_osR r b2 (off + 4) h2⟩
theorem gl_osL {w : World} {l : List Tm} {bs : List Nat} {ao : Option Addr} (h : GL eltT w l bs ao) : OsL w l bs ao := by
  rcases h with ⟨rfl, rfl⟩ | ⟨hl, g, o, b, e1, e2, hf, hr⟩
  · rw [OsL]
  · exact (OsL.iff hl).2 ⟨g, o, b, e1, e2, hf, gr_osR _ _ _ hr⟩
theorem ve_term {w : World} {t : Tm} {bs : List Nat} {va vb : Int} {vc : ByteArray} {vd : Option Addr} {ve vf : Nat} (hv : OsV w bs t (.agg #[.int .i64 va, .int .i64 vb, .string vc, .slice vd ve vf])) : VE eltT w t [.int .i64 va, .int .i64 vb, .string vc, .slice vd ve vf] bs := by
  refine ⟨rfl, osV_lt hv, fun w' b off hc hk => ?_⟩
  obtain ⟨k, n, s, l⟩ := t
  obtain ⟨ao, cap, e, h1, h2, h3, h4⟩ := hv
  simp only [Value.agg.injEq, Array.mk.injEq, List.cons.injEq, Value.int.injEq, Value.string.injEq, true_and, and_true] at e
  obtain ⟨rfl, rfl, rfl, e⟩ := e
  rw [e] at hc
  show OsT w' (.mk _ _ _ l) bs b off
  rw [OsT]
  exact ⟨hc 0 _ rfl, hc 1 _ rfl, hc 2 _ rfl, h1, ao, cap, hc 3 _ rfl, h2, h3, OsL.keep _ _ _ (fun x hx _ => hk x hx) h4⟩

/-- A list that is gathered in the variable tb, while the terms in it are drawn. -/
structure Gao (cb : Nat) (ao : Option Addr) (len cap : Nat) (zs : List Int) (w wr : World) (tb : Nat) (K N : Int) (s : ByteArray) (l : List Tm) (u : Value) (xs : List Value) (bs : List Nat) : Prop where
  drawn : Drawn cb ao len cap zs w wr
  old : cb < w.heap.size
  up : w.heap.size < tb
  lt : tb < wr.heap.size
  t0 : wr.cell? ⟨tb, 0, none⟩ = some (.int .i64 K)
  t1 : wr.cell? ⟨tb, 1, none⟩ = some (.int .i64 N)
  t2 : wr.cell? ⟨tb, 2, none⟩ = some (.string s)
  t3 : wr.cell? ⟨tb, 3, none⟩ = some u
  tf : ∀ o, wr.frozen? ⟨tb, o, none⟩ = false
  r : ∀ j, j < 4 → ∃ v, wr.cell? ⟨w.heap.size, j, none⟩ = some v
  rf : ∀ o, wr.frozen? ⟨w.heap.size, o, none⟩ = false
  own : wr.ownsRow (tb + 1) 39 4 u l.length xs
  row : VL eltT wr l xs bs
  nd : bs.Nodup
  lo : ∀ b ∈ bs, tb + 1 ≤ b ∧ u.ownBlock ≠ some b
  wf : ∀ t, t ∈ l → WfT t

theorem Gao.turn {cb : Nat} {ao : Option Addr} {len cap : Nat} {zs : List Int} {w wr w1 : World} {tb : Nat} {K N : Int} {s : ByteArray} {l : List Tm} {u : Value} {xs : List Value} {bs : List Nat}
    (h : Gao cb ao len cap zs w wr tb K N s l u xs bs) (hd : Drawn cb ao len cap zs wr w1) : Gao cb ao len cap zs w w1 tb K N s l u xs bs := by
  have hne : tb ≠ cb := by have := h.old; have := h.up; omega
  have hnr : w.heap.size ≠ cb := by have := h.old; omega
  have t := hd.2
  refine ⟨⟨hd.1, h.drawn.2.trans t⟩, h.old, h.up, Nat.lt_of_lt_of_le h.lt t.size, t.cell hne h.t0, t.cell hne h.t1, t.cell hne h.t2, t.cell hne h.t3, fun o => ?_, fun j hj => ?_, fun o => ?_, ?_, ?_, h.nd, h.lo, h.wf⟩
  · rw [t.frozen hne h.lt]; exact h.tf o
  · obtain ⟨v, hv⟩ := h.r j hj
    exact ⟨v, t.cell hnr hv⟩
  · rw [t.frozen hnr (Nat.lt_trans h.up h.lt)]; exact h.rf o
  · refine h.own.kept t.grown (Or.inr (fun e => ?_))
    have := (h.own.lt cb e).1
    have := h.old; have := h.up; omega
  · exact h.row.keep t.size (fun x hx => t.block x (VL.lt h.row x hx) (fun e => by have := (h.lo x hx).1; have := h.old; have := h.up; omega))
theorem Gao.grown {cb : Nat} {ao : Option Addr} {len cap : Nat} {zs : List Int} {w w1 w2 : World} {tb : Nat} {K N : Int} {s : ByteArray} {l : List Tm} {u : Value} {xs : List Value} {bs : List Nat}
    (h : Gao cb ao len cap zs w w1 tb K N s l u xs bs) {o : Obj} (hgrow : (w1.alloc o).grownBy w2 u.ownBlock) : w2.cell? ⟨tb, 3, none⟩ = some u ∧ w2.frozen? ⟨tb, 3, none⟩ = false := by
  have hs1 : (w1.alloc o).heap.size = w1.heap.size + 1 := World.size_alloc _ _
  have hl := h.lt
  have hne : some tb ≠ u.ownBlock := fun e => by have := (h.own.lt tb e.symm).1; omega
  rw [hgrow.cell_far ⟨tb, 3, none⟩ (by rw [hs1]; exact Nat.lt_succ_of_lt hl) hne, hgrow.frozen_far ⟨tb, 3, none⟩ (by rw [hs1]; exact Nat.lt_succ_of_lt hl) hne, World.cell?_alloc_lt (h := hl), World.frozen?_alloc_old (h := by show tb ≠ _; omega)]
  exact ⟨h.t3, h.tf 3⟩
theorem Gao.form {cb : Nat} {ao : Option Addr} {len cap : Nat} {zs : List Int} {w wr : World} {tb : Nat} {K N : Int} {s : ByteArray} {l : List Tm} {u : Value} {xs : List Value} {bs : List Nat}
    (h : Gao cb ao len cap zs w wr tb K N s l u xs bs) : ∃ ua uc, u = .slice ua l.length uc := by
  rcases h.own.2 with ⟨rfl, h0⟩ | ⟨g, cap, cur, rfl, _⟩
  · exact ⟨none, 0, by rw [h0]⟩
  · exact ⟨_, _, rfl⟩
theorem Gao.start {cb : Nat} {ao : Option Addr} {len cap : Nat} {zs : List Int} {w w3 : World} {c : Array Value} (h : Drawn cb ao len cap zs w w3) (hcb : cb < w.heap.size) (hz3 : w.heap.size + 1 ≤ w3.heap.size) (hc : c.size = 4)
    (q3 : ∀ o, w3.cell? ⟨w.heap.size, o, none⟩ = c[o]?) (f3 : ∀ o, w3.frozen? ⟨w.heap.size, o, none⟩ = false) (K N : Int) (s : ByteArray) :
    Gao cb ao len cap zs w (w3.alloc (.cells #[.int .i64 K, .int .i64 N, .string s, .slice none 0 0] 39)) w3.heap.size K N s [] (.slice none 0 0) [] [] := by
  obtain ⟨g1, g2, g3, g4, g5, g6, g7, g8, g9, g10, g11, g12, g13, g14⟩ := Gath.start h hcb hz3 hc q3 f3 K N s
  exact ⟨g1, g2, g3, g4, g5, g6, g7, g8, g9, g10, g11, g12, ⟨rfl, rfl⟩, List.nodup_nil, fun b hb => by simp at hb, g14⟩

/-- One more is drawn, laid down in a block, appended, and the variable turned. -/
theorem Gao.more {cb : Nat} {ao : Option Addr} {len cap : Nat} {zs : List Int} {w wr w1 w2 : World} {tb : Nat} {K N : Int} {s : ByteArray} {l : List Tm} {u : Value} {xs : List Value} {bs bt : List Nat}
    (h : Gao cb ao len cap zs w wr tb K N s l u xs bs) (hd : Drawn cb ao len cap zs wr w1) {t : Tm} {a b : Int} {c : ByteArray} {d : Option Addr} {e f : Nat} (hv : OsV w1 bt t (.agg #[.int .i64 a, .int .i64 b, .string c, .slice d e f])) (hbn : bt.Nodup) (hbl : ∀ x ∈ bt, wr.heap.size ≤ x) (hw : WfT t) {o : Obj}
    {g cap' : Nat} (hown : w2.ownsRow (tb + 1) 39 4 (.slice (some ⟨g, 0, none⟩) (l.length + 1) cap') (l.length + 1) (xs ++ [.int .i64 a, .int .i64 b, .string c, .slice d e f])) (hgrow : (w1.alloc o).grownBy w2 u.ownBlock) (hat : u.ownBlock = some g ∨ g = w1.heap.size + 1) (hlt : g < w2.heap.size) :
    Gao cb ao len cap zs w (w2.setCell ⟨tb, 3, none⟩ (.slice (some ⟨g, 0, none⟩) (l.length + 1) cap')) tb K N s (l ++ [t]) (.slice (some ⟨g, 0, none⟩) (l.length + 1) cap') (xs ++ [.int .i64 a, .int .i64 b, .string c, .slice d e f]) (bs ++ bt) := by
  have h1 := h.turn hd
  have hs1 : (w1.alloc o).heap.size = w1.heap.size + 1 := World.size_alloc _ _
  have hun : ∀ k, k < tb + 1 → some k ≠ u.ownBlock := fun k hk e => by have := (h.own.lt k e.symm).1; omega
  have hcell : ∀ p o' v, some p ≠ u.ownBlock → w1.cell? ⟨p, o', none⟩ = some v → w2.cell? ⟨p, o', none⟩ = some v := fun p o' v hp hc => by
    have hpl := World.block_lt_of_cell? w1 _ hc
    rw [hgrow.cell_far ⟨p, o', none⟩ (by rw [hs1]; exact Nat.lt_succ_of_lt hpl) hp, World.cell?_alloc_lt (h := hpl)]; exact hc
  have hfroz : ∀ p o', p < w1.heap.size → some p ≠ u.ownBlock → w2.frozen? ⟨p, o', none⟩ = w1.frozen? ⟨p, o', none⟩ := fun p o' hpl hp => by
    rw [hgrow.frozen_far ⟨p, o', none⟩ (by rw [hs1]; exact Nat.lt_succ_of_lt hpl) hp, World.frozen?_alloc_old (h := by show p ≠ _; omega)]
  have hset : ∀ p o' v, (p ≠ tb ∨ o' ≠ 3) → w2.cell? ⟨p, o', none⟩ = some v → (w2.setCell ⟨tb, 3, none⟩ (.slice (some ⟨g, 0, none⟩) (l.length + 1) cap')).cell? ⟨p, o', none⟩ = some v := fun p o' v hp hc => by
    rw [World.cell?_setCell_other (h := fun e => by simp at e; omega)]; exact hc
  have hgb : tb + 1 ≤ g := (hown.lt g rfl).1
  have hll : (l ++ [t]).length = l.length + 1 := by simp
  have hul : tb < w1.heap.size := h1.lt
  have hup := h.up
  have hold := h.old
  have hrl := h.lt
  have hwl : w.heap.size < w1.heap.size := Nat.lt_trans h.up hul
  have hz1 := hd.2.size
  have hk : ∀ k, k < w1.heap.size → some k ≠ u.ownBlock → k ≠ tb → (w2.setCell ⟨tb, 3, none⟩ (.slice (some ⟨g, 0, none⟩) (l.length + 1) cap')).heap[k]? = w1.heap[k]? := fun k hkl hku hkt => by
    rw [Below.heap_setCell w2 ⟨tb, 3, none⟩ _ k hkt, hgrow.block k (by rw [hs1]; omega) hku]
    show (w1.heap.push _)[k]? = _
    rw [Array.getElem?_push, if_neg (by omega)]
  have hsz : (w2.setCell ⟨tb, 3, none⟩ (.slice (some ⟨g, 0, none⟩) (l.length + 1) cap')).heap.size = w2.heap.size := World.size_setCell ..
  have hsz2 : w1.heap.size + 1 ≤ w2.heap.size := by rw [← hs1]; exact hgrow.size
  have htb : some tb ≠ u.ownBlock := hun tb (by omega)
  have hrb : some w.heap.size ≠ u.ownBlock := hun _ (by omega)
  have hvl := osV_lt hv
  have hbs : ∀ x ∈ bs, x < wr.heap.size := VL.lt h.row
  have hkb : ∀ x ∈ bs ++ bt, (w2.setCell ⟨tb, 3, none⟩ (.slice (some ⟨g, 0, none⟩) (l.length + 1) cap')).heap[x]? = w1.heap[x]? := fun x hx => by
    rcases List.mem_append.1 hx with hx | hx
    · exact hk x (by have := hbs x hx; omega) (fun e => (h.lo x hx).2 e.symm) (by have := (h.lo x hx).1; omega)
    · exact hk x (hvl x hx) (fun e => by have := (h.own.lt x e.symm).2; have := hbl x hx; omega) (by have := hbl x hx; omega)
  refine ⟨⟨hd.1.same (fun b hb => hk b (by omega) (hun b (by omega)) (by omega)), ?_⟩, hold, hup, by rw [hsz]; omega, hset _ _ _ (Or.inr (by omega)) (hcell _ _ _ htb h1.t0), hset _ _ _ (Or.inr (by omega)) (hcell _ _ _ htb h1.t1), hset _ _ _ (Or.inr (by omega)) (hcell _ _ _ htb h1.t2), World.cell?_setCell_same w2 _ _ (hcell _ _ _ htb h1.t3), fun o' => ?_, fun j hj => ?_, fun o' => ?_, ?_, ?_, ?_, ?_, ?_⟩
  · have t := h1.drawn.2
    exact ⟨hgrow.os.trans t.os, hgrow.tape.trans t.tape, hgrow.output.trans t.output, by rw [hsz]; omega, fun k hkl hkn => (hk k (by omega) (hun k (by omega)) (by omega)).trans (t.block k hkl hkn)⟩
  · rw [World.frozen?_setCell, hfroz tb o' hul htb]; exact h1.tf o'
  · obtain ⟨v, hv'⟩ := h1.r j hj
    exact ⟨v, hset _ _ _ (Or.inl (by omega)) (hcell _ _ _ hrb hv')⟩
  · rw [World.frozen?_setCell, hfroz _ o' hwl hrb]; exact h1.rf o'
  · rw [hll]; exact ownsRow_setCell_below hown (by show tb < tb + 1; omega) _
  · exact (VL.snoc (ve_term hv) h1.row).keep (by rw [hsz]; omega) hkb
  · rw [List.nodup_append]
    exact ⟨h.nd, hbn, fun x hx y hy e => by have := hbs x hx; have := hbl y hy; omega⟩
  · intro x hx
    refine ⟨?_, fun e => ?_⟩
    · rcases List.mem_append.1 hx with hx | hx
      · exact (h.lo x hx).1
      · have := hbl x hx; omega
    · simp only [Value.ownBlock, Option.some.injEq] at e
      subst e
      rcases List.mem_append.1 hx with hx | hx
      · rcases hat with hat | hat
        · exact (h.lo _ hx).2 hat
        · have := hbs _ hx; omega
      · rcases hat with hat | hat
        · have := (h.own.lt _ hat).2; have := hbl _ hx; omega
        · have := hvl _ hx; omega
  · intro x hx
    rcases List.mem_append.1 hx with hx | hx
    · exact h.wf x hx
    · have : x = t := by simpa using hx
      subst this; exact hw
/-- What is gathered is a term. -/
theorem Gao.done {cb : Nat} {ao : Option Addr} {len cap : Nat} {zs : List Int} {w wr : World} {tb : Nat} {K N : Int} {s : ByteArray} {l : List Tm} {u : Value} {xs : List Value} {bs : List Nat}
    (h : Gao cb ao len cap zs w wr tb K N s l u xs bs) (hs : s.size ≤ 1048576) (v0 v1 v2 v3 : Value) :
    (∃ bt, OsV ((((wr.setCell ⟨w.heap.size, 0, none⟩ v0).setCell ⟨w.heap.size, 1, none⟩ v1).setCell ⟨w.heap.size, 2, none⟩ v2).setCell ⟨w.heap.size, 3, none⟩ v3) bt (.mk K N s l) (.agg #[.int .i64 K, .int .i64 N, .string s, u]) ∧ bt.Nodup ∧ ∀ b ∈ bt, w.heap.size ≤ b) ∧
      Drawn cb ao len cap zs w ((((wr.setCell ⟨w.heap.size, 0, none⟩ v0).setCell ⟨w.heap.size, 1, none⟩ v1).setCell ⟨w.heap.size, 2, none⟩ v2).setCell ⟨w.heap.size, 3, none⟩ v3) := by
  obtain ⟨ao', cap', rfl, hl, hc, bt, hg, hb, hn⟩ := h.row.gl h.own
  have hup := h.up
  have hge : ∀ b ∈ bt, tb + 1 ≤ b := fun b hbm => by
    rcases hb b hbm with h9 | h9
    · exact (h.lo b h9).1
    · exact (h.own.lt b h9).1
  refine ⟨⟨bt, ⟨ao', cap', rfl, hs, hl, hc, ?_⟩, hn h.nd (fun b hbm => (h.lo b hbm).2), fun b hbm => by have := hge b hbm; omega⟩, h.drawn.set4 h.old (Nat.le_refl _) _ _ _ _⟩
  refine OsL.keep _ _ _ (fun x hx _ => ?_) (gl_osL hg)
  have hne : x ≠ w.heap.size := by have := hge x hx; omega
  rw [Below.heap_setCell _ ⟨w.heap.size, 3, none⟩ _ x hne, Below.heap_setCell _ ⟨w.heap.size, 2, none⟩ _ x hne, Below.heap_setCell _ ⟨w.heap.size, 1, none⟩ _ x hne, Below.heap_setCell _ ⟨w.heap.size, 0, none⟩ _ x hne]
end Go.Proofs.Ytabgfaafpgholaa
