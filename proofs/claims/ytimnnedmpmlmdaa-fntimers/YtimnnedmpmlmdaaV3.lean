/-
  The specification's copy of timers: each in blocks of its own.
  (Ahead of it, in this text: Terms that are drawn, each list in a block of its own: how they lie in memory while more are drawn. A term that is drawn stands in blocks of its own, told as a list. A copy of a term: what l1Copy answers stands in blocks of its own.)
-/
import Derived.Test.YtimnnedmpmlmdaaRwC
import Derived.Test.YtimnnedmpmlmdaaDrC
import Derived.Deep.RegionLaw
import Derived.Test.YtimnnedmpmlmdaaTmK
import Derived.Test.YtimnnedmpmlmdaaTmD
import Derived.Test.YtimnnedmpmlmdaaTrK
namespace Go.Proofs.Ytimnnedmpmlmdaa
open Go.RowKit
set_option linter.unusedVariables false

def eltT : Elt Tm where
  s := 4
  E := fun w t bs b off => OsT w t bs b off
  pos := by omega
  keep := fun hk hc h => OsT.keep _ _ _ _ hk hc h
  lt := fun h => OsT.lt _ _ _ _ h
  head := fun h => OsT.head h
theorem gr_osR {w : World} {g : Nat} : ∀ (l : List Tm) (bs : List Nat) (off : Nat), GR eltT w l bs g off → OsR w l bs g off
  | [], bs, off, h => by rw [GR] at h; rw [OsR]; exact h
  | t :: r, bs, off, h => by
    rw [GR] at h
    obtain ⟨b1, b2, e, h1, h2⟩ := h
    rw [OsR]
    exact ⟨b1, b2, e, h1, gr_osR r b2 (off + 4) h2⟩
theorem gl_osL {w : World} {l : List Tm} {bs : List Nat} {ao : Option Addr} (h : GL eltT w l bs ao) : OsL w l bs ao := by
  rcases h with ⟨rfl, rfl⟩ | ⟨hl, g, o, b, e1, e2, hf, hr⟩
  · rw [OsL]
  · exact (OsL.iff hl).2 ⟨g, o, b, e1, e2, hf, gr_osR _ _ _ hr⟩
theorem ve_term {w : World} {t : Tm} {bs : List Nat} {va vb : Int} {vc : ByteArray} {vd : Option Addr} {ve vf : Nat} (hv : OsV w bs t (.agg #[.int .i64 va, .int .i64 vb, .string vc, .slice vd ve vf])) : VE eltT w t [.int .i64 va, .int .i64 vb, .string vc, .slice vd ve vf] bs := by
  refine ⟨rfl, osV_lt hv, fun w' b off hc hk => ?_⟩
  obtain ⟨k, n, s, l⟩ := t
  obtain ⟨ao, cap, e, h1, h2, h3, h4⟩ := hv
  simp only [Value.agg.injEq, Array.mk.injEq, List.cons.injEq, Value.int.injEq, Value.string.injEq, true_and, and_true] at e
  obtain ⟨rfl, rfl, rfl, e⟩ := e
  rw [e] at hc
  show OsT w' (.mk _ _ _ l) bs b off
  rw [OsT]
  exact ⟨hc 0 _ rfl, hc 1 _ rfl, hc 2 _ rfl, h1, ao, cap, hc 3 _ rfl, h2, h3, OsL.keep _ _ _ (fun x hx _ => hk x hx) h4⟩

/-- A list that is gathered in the variable tb, while the terms in it are drawn. -/
structure Gao (cb : Nat) (ao : Option Addr) (len cap : Nat) (zs : List Int) (w wr : World) (tb : Nat) (K N : Int) (s : ByteArray) (l : List Tm) (u : Value) (xs : List Value) (bs : List Nat) : Prop where
  drawn : Drawn cb ao len cap zs w wr
  old : cb < w.heap.size
  up : w.heap.size < tb
  lt : tb < wr.heap.size
  t0 : wr.cell? ⟨tb, 0, none⟩ = some (.int .i64 K)
  t1 : wr.cell? ⟨tb, 1, none⟩ = some (.int .i64 N)
  t2 : wr.cell? ⟨tb, 2, none⟩ = some (.string s)
  t3 : wr.cell? ⟨tb, 3, none⟩ = some u
  tf : ∀ o, wr.frozen? ⟨tb, o, none⟩ = false
  r : ∀ j, j < 4 → ∃ v, wr.cell? ⟨w.heap.size, j, none⟩ = some v
  rf : ∀ o, wr.frozen? ⟨w.heap.size, o, none⟩ = false
  own : wr.ownsRow (tb + 1) 30 4 u l.length xs
  row : VL eltT wr l xs bs
  nd : bs.Nodup
  lo : ∀ b ∈ bs, tb + 1 ≤ b ∧ u.ownBlock ≠ some b
  wf : ∀ t, t ∈ l → WfT t

theorem Gao.turn {cb : Nat} {ao : Option Addr} {len cap : Nat} {zs : List Int} {w wr w1 : World} {tb : Nat} {K N : Int} {s : ByteArray} {l : List Tm} {u : Value} {xs : List Value} {bs : List Nat}
    (h : Gao cb ao len cap zs w wr tb K N s l u xs bs) (hd : Drawn cb ao len cap zs wr w1) : Gao cb ao len cap zs w w1 tb K N s l u xs bs := by
  have hne : tb ≠ cb := by have := h.old; have := h.up; omega
  have hnr : w.heap.size ≠ cb := by have := h.old; omega
  have t := hd.2
  refine ⟨⟨hd.1, h.drawn.2.trans t⟩, h.old, h.up, Nat.lt_of_lt_of_le h.lt t.size, t.cell hne h.t0, t.cell hne h.t1, t.cell hne h.t2, t.cell hne h.t3, fun o => ?_, fun j hj => ?_, fun o => ?_, ?_, ?_, h.nd, h.lo, h.wf⟩
  · rw [t.frozen hne h.lt]; exact h.tf o
  · obtain ⟨v, hv⟩ := h.r j hj
    exact ⟨v, t.cell hnr hv⟩
  · rw [t.frozen hnr (Nat.lt_trans h.up h.lt)]; exact h.rf o
  · refine h.own.kept t.grown (Or.inr (fun e => ?_))
    have := (h.own.lt cb e).1
    have := h.old; have := h.up; omega
  · exact h.row.keep t.size (fun x hx => t.block x (VL.lt h.row x hx) (fun e => by have := (h.lo x hx).1; have := h.old; have := h.up; omega))
theorem Gao.grown {cb : Nat} {ao : Option Addr} {len cap : Nat} {zs : List Int} {w w1 w2 : World} {tb : Nat} {K N : Int} {s : ByteArray} {l : List Tm} {u : Value} {xs : List Value} {bs : List Nat}
    (h : Gao cb ao len cap zs w w1 tb K N s l u xs bs) {o : Obj} (hgrow : (w1.alloc o).grownBy w2 u.ownBlock) : w2.cell? ⟨tb, 3, none⟩ = some u ∧ w2.frozen? ⟨tb, 3, none⟩ = false := by
  have hs1 : (w1.alloc o).heap.size = w1.heap.size + 1 := World.size_alloc _ _
  have hl := h.lt
  have hne : some tb ≠ u.ownBlock := fun e => by have := (h.own.lt tb e.symm).1; omega
  rw [hgrow.cell_far ⟨tb, 3, none⟩ (by rw [hs1]; exact Nat.lt_succ_of_lt hl) hne, hgrow.frozen_far ⟨tb, 3, none⟩ (by rw [hs1]; exact Nat.lt_succ_of_lt hl) hne, World.cell?_alloc_lt (h := hl), World.frozen?_alloc_old (h := by show tb ≠ _; omega)]
  exact ⟨h.t3, h.tf 3⟩
theorem Gao.form {cb : Nat} {ao : Option Addr} {len cap : Nat} {zs : List Int} {w wr : World} {tb : Nat} {K N : Int} {s : ByteArray} {l : List Tm} {u : Value} {xs : List Value} {bs : List Nat}
    (h : Gao cb ao len cap zs w wr tb K N s l u xs bs) : ∃ ua uc, u = .slice ua l.length uc := by
  rcases h.own.2 with ⟨rfl, h0⟩ | ⟨g, cap, cur, rfl, _⟩
  · exact ⟨none, 0, by rw [h0]⟩
  · exact ⟨_, _, rfl⟩
theorem Gao.start {cb : Nat} {ao : Option Addr} {len cap : Nat} {zs : List Int} {w w3 : World} {c : Array Value} (h : Drawn cb ao len cap zs w w3) (hcb : cb < w.heap.size) (hz3 : w.heap.size + 1 ≤ w3.heap.size) (hc : c.size = 4)
    (q3 : ∀ o, w3.cell? ⟨w.heap.size, o, none⟩ = c[o]?) (f3 : ∀ o, w3.frozen? ⟨w.heap.size, o, none⟩ = false) (K N : Int) (s : ByteArray) :
    Gao cb ao len cap zs w (w3.alloc (.cells #[.int .i64 K, .int .i64 N, .string s, .slice none 0 0] 30)) w3.heap.size K N s [] (.slice none 0 0) [] [] := by
  obtain ⟨g1, g2, g3, g4, g5, g6, g7, g8, g9, g10, g11, g12, g13, g14⟩ := Gath.start h hcb hz3 hc q3 f3 K N s
  exact ⟨g1, g2, g3, g4, g5, g6, g7, g8, g9, g10, g11, g12, ⟨rfl, rfl⟩, List.nodup_nil, fun b hb => by simp at hb, g14⟩

/-- One more is drawn, laid down in a block, appended, and the variable turned. -/
theorem Gao.more {cb : Nat} {ao : Option Addr} {len cap : Nat} {zs : List Int} {w wr w1 w2 : World} {tb : Nat} {K N : Int} {s : ByteArray} {l : List Tm} {u : Value} {xs : List Value} {bs bt : List Nat}
    (h : Gao cb ao len cap zs w wr tb K N s l u xs bs) (hd : Drawn cb ao len cap zs wr w1) {t : Tm} {a b : Int} {c : ByteArray} {d : Option Addr} {e f : Nat} (hv : OsV w1 bt t (.agg #[.int .i64 a, .int .i64 b, .string c, .slice d e f])) (hbn : bt.Nodup) (hbl : ∀ x ∈ bt, wr.heap.size ≤ x) (hw : WfT t) {o : Obj}
    {g cap' : Nat} (hown : w2.ownsRow (tb + 1) 30 4 (.slice (some ⟨g, 0, none⟩) (l.length + 1) cap') (l.length + 1) (xs ++ [.int .i64 a, .int .i64 b, .string c, .slice d e f])) (hgrow : (w1.alloc o).grownBy w2 u.ownBlock) (hat : u.ownBlock = some g ∨ g = w1.heap.size + 1) (hlt : g < w2.heap.size) :
    Gao cb ao len cap zs w (w2.setCell ⟨tb, 3, none⟩ (.slice (some ⟨g, 0, none⟩) (l.length + 1) cap')) tb K N s (l ++ [t]) (.slice (some ⟨g, 0, none⟩) (l.length + 1) cap') (xs ++ [.int .i64 a, .int .i64 b, .string c, .slice d e f]) (bs ++ bt) := by
  have h1 := h.turn hd
  have hs1 : (w1.alloc o).heap.size = w1.heap.size + 1 := World.size_alloc _ _
  have hun : ∀ k, k < tb + 1 → some k ≠ u.ownBlock := fun k hk e => by have := (h.own.lt k e.symm).1; omega
  have hcell : ∀ p o' v, some p ≠ u.ownBlock → w1.cell? ⟨p, o', none⟩ = some v → w2.cell? ⟨p, o', none⟩ = some v := fun p o' v hp hc => by
    have hpl := World.block_lt_of_cell? w1 _ hc
    rw [hgrow.cell_far ⟨p, o', none⟩ (by rw [hs1]; exact Nat.lt_succ_of_lt hpl) hp, World.cell?_alloc_lt (h := hpl)]; exact hc
  have hfroz : ∀ p o', p < w1.heap.size → some p ≠ u.ownBlock → w2.frozen? ⟨p, o', none⟩ = w1.frozen? ⟨p, o', none⟩ := fun p o' hpl hp => by
    rw [hgrow.frozen_far ⟨p, o', none⟩ (by rw [hs1]; exact Nat.lt_succ_of_lt hpl) hp, World.frozen?_alloc_old (h := by show p ≠ _; omega)]
  have hset : ∀ p o' v, (p ≠ tb ∨ o' ≠ 3) → w2.cell? ⟨p, o', none⟩ = some v → (w2.setCell ⟨tb, 3, none⟩ (.slice (some ⟨g, 0, none⟩) (l.length + 1) cap')).cell? ⟨p, o', none⟩ = some v := fun p o' v hp hc => by
    rw [World.cell?_setCell_other (h := fun e => by simp at e; omega)]; exact hc
  have hgb : tb + 1 ≤ g := (hown.lt g rfl).1
  have hll : (l ++ [t]).length = l.length + 1 := by simp
  have hul : tb < w1.heap.size := h1.lt
  have hup := h.up
  have hold := h.old
  have hrl := h.lt
  have hwl : w.heap.size < w1.heap.size := Nat.lt_trans h.up hul
  have hz1 := hd.2.size
  have hk : ∀ k, k < w1.heap.size → some k ≠ u.ownBlock → k ≠ tb → (w2.setCell ⟨tb, 3, none⟩ (.slice (some ⟨g, 0, none⟩) (l.length + 1) cap')).heap[k]? = w1.heap[k]? := fun k hkl hku hkt => by
    rw [Below.heap_setCell w2 ⟨tb, 3, none⟩ _ k hkt, hgrow.block k (by rw [hs1]; omega) hku]
    show (w1.heap.push _)[k]? = _
    rw [Array.getElem?_push, if_neg (by omega)]
  have hsz : (w2.setCell ⟨tb, 3, none⟩ (.slice (some ⟨g, 0, none⟩) (l.length + 1) cap')).heap.size = w2.heap.size := World.size_setCell ..
  have hsz2 : w1.heap.size + 1 ≤ w2.heap.size := by rw [← hs1]; exact hgrow.size
  have htb : some tb ≠ u.ownBlock := hun tb (by omega)
  have hrb : some w.heap.size ≠ u.ownBlock := hun _ (by omega)
  have hvl := osV_lt hv
  have hbs : ∀ x ∈ bs, x < wr.heap.size := VL.lt h.row
  have hkb : ∀ x ∈ bs ++ bt, (w2.setCell ⟨tb, 3, none⟩ (.slice (some ⟨g, 0, none⟩) (l.length + 1) cap')).heap[x]? = w1.heap[x]? := fun x hx => by
    rcases List.mem_append.1 hx with hx | hx
    · exact hk x (by have := hbs x hx; omega) (fun e => (h.lo x hx).2 e.symm) (by have := (h.lo x hx).1; omega)
    · exact hk x (hvl x hx) (fun e => by have := (h.own.lt x e.symm).2; have := hbl x hx; omega) (by have := hbl x hx; omega)
  refine ⟨⟨hd.1.same (fun b hb => hk b (by omega) (hun b (by omega)) (by omega)), ?_⟩, hold, hup, by rw [hsz]; omega, hset _ _ _ (Or.inr (by omega)) (hcell _ _ _ htb h1.t0), hset _ _ _ (Or.inr (by omega)) (hcell _ _ _ htb h1.t1), hset _ _ _ (Or.inr (by omega)) (hcell _ _ _ htb h1.t2), World.cell?_setCell_same w2 _ _ (hcell _ _ _ htb h1.t3), fun o' => ?_, fun j hj => ?_, fun o' => ?_, ?_, ?_, ?_, ?_, ?_⟩
  · have t := h1.drawn.2
    exact ⟨hgrow.os.trans t.os, hgrow.tape.trans t.tape, hgrow.output.trans t.output, by rw [hsz]; omega, fun k hkl hkn => (hk k (by omega) (hun k (by omega)) (by omega)).trans (t.block k hkl hkn)⟩
  · rw [World.frozen?_setCell, hfroz tb o' hul htb]; exact h1.tf o'
  · obtain ⟨v, hv'⟩ := h1.r j hj
    exact ⟨v, hset _ _ _ (Or.inl (by omega)) (hcell _ _ _ hrb hv')⟩
  · rw [World.frozen?_setCell, hfroz _ o' hwl hrb]; exact h1.rf o'
  · rw [hll]; exact ownsRow_setCell_below hown (by show tb < tb + 1; omega) _
  · exact (VL.snoc (ve_term hv) h1.row).keep (by rw [hsz]; omega) hkb
  · rw [List.nodup_append]
    exact ⟨h.nd, hbn, fun x hx y hy e => by have := hbs x hx; have := hbl y hy; omega⟩
  · intro x hx
    refine ⟨?_, fun e => ?_⟩
    · rcases List.mem_append.1 hx with hx | hx
      · exact (h.lo x hx).1
      · have := hbl x hx; omega
    · simp only [Value.ownBlock, Option.some.injEq] at e
      subst e
      rcases List.mem_append.1 hx with hx | hx
      · rcases hat with hat | hat
        · exact (h.lo _ hx).2 hat
        · have := hbs _ hx; omega
      · rcases hat with hat | hat
        · have := (h.own.lt _ hat).2; have := hbl _ hx; omega
        · have := hvl _ hx; omega
  · intro x hx
    rcases List.mem_append.1 hx with hx | hx
    · exact h.wf x hx
    · have : x = t := by simpa using hx
      subst this; exact hw
/-- What is gathered is a term. -/
theorem Gao.done {cb : Nat} {ao : Option Addr} {len cap : Nat} {zs : List Int} {w wr : World} {tb : Nat} {K N : Int} {s : ByteArray} {l : List Tm} {u : Value} {xs : List Value} {bs : List Nat}
    (h : Gao cb ao len cap zs w wr tb K N s l u xs bs) (hs : s.size ≤ 1048576) (v0 v1 v2 v3 : Value) :
    (∃ bt, OsV ((((wr.setCell ⟨w.heap.size, 0, none⟩ v0).setCell ⟨w.heap.size, 1, none⟩ v1).setCell ⟨w.heap.size, 2, none⟩ v2).setCell ⟨w.heap.size, 3, none⟩ v3) bt (.mk K N s l) (.agg #[.int .i64 K, .int .i64 N, .string s, u]) ∧ bt.Nodup ∧ ∀ b ∈ bt, w.heap.size ≤ b) ∧
      Drawn cb ao len cap zs w ((((wr.setCell ⟨w.heap.size, 0, none⟩ v0).setCell ⟨w.heap.size, 1, none⟩ v1).setCell ⟨w.heap.size, 2, none⟩ v2).setCell ⟨w.heap.size, 3, none⟩ v3) := by
  obtain ⟨ao', cap', rfl, hl, hc, bt, hg, hb, hn⟩ := h.row.gl h.own
  have hup := h.up
  have hge : ∀ b ∈ bt, tb + 1 ≤ b := fun b hbm => by
    rcases hb b hbm with h9 | h9
    · exact (h.lo b h9).1
    · exact (h.own.lt b h9).1
  refine ⟨⟨bt, ⟨ao', cap', rfl, hs, hl, hc, ?_⟩, hn h.nd (fun b hbm => (h.lo b hbm).2), fun b hbm => by have := hge b hbm; omega⟩, h.drawn.set4 h.old (Nat.le_refl _) _ _ _ _⟩
  refine OsL.keep _ _ _ (fun x hx _ => ?_) (gl_osL hg)
  have hne : x ≠ w.heap.size := by have := hge x hx; omega
  rw [Below.heap_setCell _ ⟨w.heap.size, 3, none⟩ _ x hne, Below.heap_setCell _ ⟨w.heap.size, 2, none⟩ _ x hne, Below.heap_setCell _ ⟨w.heap.size, 1, none⟩ _ x hne, Below.heap_setCell _ ⟨w.heap.size, 0, none⟩ _ x hne]
end Go.Proofs.Ytimnnedmpmlmdaa
namespace Go.Proofs.Ytimnnedmpmlmdaa
open Go.RowKit
set_option linter.unusedVariables false

/-- The term stands in blocks of its own, none of which stood there. -/
def OwV (w : World) (lo : Nat) (t : Tm) (v : Value) : Prop := ∃ bs, OsV w bs t v ∧ bs.Nodup ∧ ∀ b ∈ bs, lo ≤ b
def DrO (cb : Nat) (ao : Option Addr) (len cap : Nat) (zs : List Int) (d : Nat) : Prop := ∀ w, Cur cb ao len cap zs w →
  Calls Try.prog 52 #[.pointer (some ⟨cb, 0, none⟩), .int .i64 d] w fun e w' => ∃ t v, e = .returned v ∧ OwV w' w.heap.size t v ∧ RtT d t ∧ Drawn cb ao len cap zs w w'
theorem ow_leaf {w : World} (lo : Nat) (k n : Int) (s : ByteArray) (hs : s.size ≤ 1048576) : OwV w lo (.mk k n s []) (.agg #[.int .i64 k, .int .i64 n, .string s, .slice none 0 0]) :=
  ⟨[], ⟨none, 0, rfl, hs, Nat.le_refl _, Nat.zero_le _, by rw [OsL]⟩, List.nodup_nil, fun b hb => by cases hb⟩

set_option maxRecDepth 100000 in
set_option maxHeartbeats 2000000 in
theorem drO_of (cb : Nat) (ao : Option Addr) (len cap : Nat) (zs : List Int) (d : Nat) (hd0 : d ≤ 6) (ih : ∀ d', d = d' + 1 → DrO cb ao len cap zs d') : DrO cb ao len cap zs d := by
  intro w hc
  have HC : Hid (Cur cb ao len cap zs w) := hc
  have IH : Hid (∀ d', d = d' + 1 → DrO cb ao len cap zs d') := ih
  have hcb := hc.lt
  clear hc ih
  obtain ⟨D, hD⟩ : ∃ D : Int, D = d := ⟨_, rfl⟩
  rw [← hD]
  have HDD : Hid (D = d) := hD
  have hD0 : 0 ≤ D := by omega
  have hD6 : D ≤ 6 := by omega
  clear hD
  go_enter Try.func52, Try.ntmps52
  go_wp2_with fail
  refine (below_any cb ao len cap zs _ (HC.out.alloc _) 9 (by decide) (by decide)).mono ?_
  rintro e w1 ⟨x, rfl, hx0, hx1, hd1⟩
  obtain ⟨hz1, q1, f1⟩ := turn_new hcb hd1.2
  have HD1 : Hid (Drawn cb ao len cap zs w w1) := ((Drawn.refl HC.out).alloc _).trans hd1
  clear hd1
  have hx : (x = 0 ∨ x = 1 ∨ x = 2) ∨ (x = 3 ∨ x = 4) ∨ x = 5 ∨ x = 6 ∨ (x = 7 ∨ x = 8) := by omega
  rcases hx with hx | hx | hx | hx | hx
  · have h0 : x = 0 ∨ x = 1 ∨ x = 2 := hx
    rcases h0 with rfl | rfl | rfl
    all_goals
      clear hx hx0 hx1
      go_wp2_with fail
      refine (below_any cb ao len cap zs _ HD1.out.1 100 (by decide) (by decide)).mono ?_
      rintro e w2 ⟨y, rfl, hy0, hy1, hd2⟩
      have HD2 : Hid (Drawn cb ao len cap zs w w2) := HD1.out.trans hd2
      have HT2 : Hid (Turn cb w1 w2) := hd2.2
      clear hd2
      go_wp2_with fail
      refine (int_any cb ao len cap zs _ (HD2.out.1.alloc _) w2.heap.size [0, 1, -1, 7, 1000000, -1000000, y] (by have := HD2.out.1.lt; omega) (by simp) (by simp) ?_).mono ?_
      · intro j hj
        rw [World.cell?_alloc_new]
        have : j = 0 ∨ j = 1 ∨ j = 2 ∨ j = 3 ∨ j = 4 ∨ j = 5 ∨ j = 6 := by simp at hj; omega
        rcases this with rfl | rfl | rfl | rfl | rfl | rfl | rfl <;> rfl
      rintro e w3 ⟨z, rfl, hzm, hd3⟩
      have HZB : Hid (-1000000 ≤ z ∧ z ≤ 1000000) := by
        show _ ∧ _
        simp only [List.mem_cons, List.not_mem_nil, or_false] at hzm
        omega
      clear hzm
      have HD3 : Hid (Drawn cb ao len cap zs w w3) := (HD2.out.alloc _).trans hd3
      obtain ⟨q3, f3⟩ := ((HT2.out.alloc _).trans hd3.2).kept (by omega) (by omega) q1 f1
      clear hd3 q1 f1
      go_wp2_with fail
      refine bodyPost_ret (v := .agg #[.int .i64 1, .int .i64 z, .string ⟨#[]⟩, .slice none 0 0]) (by simp [results, Try.results52, go_sem, q3]) rfl ⟨.mk 1 z ByteArray.empty [], _, rfl, ow_leaf _ _ _ _ (Nat.zero_le _), wf_int d z HZB.out.1 HZB.out.2, ?_⟩
      exact HD3.out.set4 hcb (Nat.le_refl _) _ _ _ _
  · rcases hx with rfl | rfl
    all_goals
      clear hx0 hx1
      go_wp2_with fail
      refine (str_any cb ao len cap zs _ (HD1.out.1.alloc _) w1.heap.size [⟨#[111, 107]⟩, ⟨#[97]⟩, ⟨#[115, 116, 111, 112]⟩, ⟨#[104, 105, 50]⟩] (by have := HD1.out.1.lt; omega) (by simp) (by simp) ?_).mono ?_
      · intro j hj
        rw [World.cell?_alloc_new]
        have : j = 0 ∨ j = 1 ∨ j = 2 ∨ j = 3 := by simp at hj; omega
        rcases this with rfl | rfl | rfl | rfl <;> rfl
      rintro e w3 ⟨z, rfl, hz, hd3⟩
      have hzs : z.size ≤ 1048576 := by
        simp only [List.mem_cons, List.not_mem_nil, or_false] at hz
        rcases hz with rfl | rfl | rfl | rfl <;> decide
      have HZ : Hid (z.size ≤ 1048576) := hzs
      have HZA : Hid (z ∈ drawnAtoms) := hz
      have HD3 : Hid (Drawn cb ao len cap zs w w3) := (HD1.out.alloc _).trans hd3
      obtain ⟨q3, f3⟩ := (((Turn.refl _ _).alloc _).trans hd3.2).kept (by omega) (by omega) q1 f1
      clear hd3 q1 f1 hz hzs
      go_wp2_with fail
      refine bodyPost_ret (v := .agg #[.int .i64 2, .int .i64 0, .string z, .slice none 0 0]) (by simp [results, Try.results52, go_sem, q3]) rfl ⟨.mk 2 0 z [], _, rfl, ow_leaf _ _ _ _ HZ.out, wf_atom d z HZA.out, ?_⟩
      exact HD3.out.set4 hcb (Nat.le_refl _) _ _ _ _
  · subst hx
    clear hx0 hx1
    go_wp2_with fail
    refine (below_any cb ao len cap zs _ HD1.out.1 4 (by decide) (by decide)).mono ?_
    rintro e w2 ⟨z, rfl, hy0, hy1, hd2⟩
    have HD3 : Hid (Drawn cb ao len cap zs w w2) := HD1.out.trans hd2
    have HZB : Hid (0 ≤ z ∧ z ≤ 3) := by show _ ∧ _; omega
    obtain ⟨q3, f3⟩ := hd2.2.kept (by omega) (by omega) q1 f1
    clear hd2 q1 f1
    go_wp2_with fail
    refine bodyPost_ret (v := .agg #[.int .i64 3, .int .i64 z, .string ⟨#[]⟩, .slice none 0 0]) (by simp [results, Try.results52, go_sem, q3]) rfl ⟨.mk 3 z ByteArray.empty [], _, rfl, ow_leaf _ _ _ _ (Nat.zero_le _), wf_pid d z HZB.out.1 HZB.out.2, ?_⟩
    exact HD3.out.set4 hcb (Nat.le_refl _) _ _ _ _
  · rcases hx with rfl
    all_goals
      clear hx0 hx1
      go_wp2_with fail
      refine (str_any cb ao len cap zs _ (HD1.out.1.alloc _) w1.heap.size [⟨#[]⟩, ⟨#[120]⟩, ⟨#[0, 255]⟩, ⟨#[104, 101, 108, 108, 111]⟩] (by have := HD1.out.1.lt; omega) (by simp) (by simp) ?_).mono ?_
      · intro j hj
        rw [World.cell?_alloc_new]
        have : j = 0 ∨ j = 1 ∨ j = 2 ∨ j = 3 := by simp at hj; omega
        rcases this with rfl | rfl | rfl | rfl <;> rfl
      rintro e w3 ⟨z, rfl, hz, hd3⟩
      have hzs : z.size ≤ 1048576 := by
        simp only [List.mem_cons, List.not_mem_nil, or_false] at hz
        rcases hz with rfl | rfl | rfl | rfl <;> decide
      have HZ : Hid (z.size ≤ 1048576) := hzs
      have HZA : Hid (z.size ≤ 5) := by
        show _ ≤ _
        simp only [List.mem_cons, List.not_mem_nil, or_false] at hz
        rcases hz with rfl | rfl | rfl | rfl <;> decide
      have HD3 : Hid (Drawn cb ao len cap zs w w3) := (HD1.out.alloc _).trans hd3
      obtain ⟨q3, f3⟩ := (((Turn.refl _ _).alloc _).trans hd3.2).kept (by omega) (by omega) q1 f1
      clear hd3 q1 f1 hz hzs
      go_wp2_with fail
      refine bodyPost_ret (v := .agg #[.int .i64 6, .int .i64 0, .string z, .slice none 0 0]) (by simp [results, Try.results52, go_sem, q3]) rfl ⟨.mk 6 0 z [], _, rfl, ow_leaf _ _ _ _ HZ.out, wf_bin d z HZA.out, ?_⟩
      exact HD3.out.set4 hcb (Nat.le_refl _) _ _ _ _
  · rcases hx with rfl | rfl
    all_goals
      clear hx0 hx1
      go_wp2_with fail
      refine (int_any cb ao len cap zs _ (HD1.out.1.alloc _) w1.heap.size [4, 5] (by have := HD1.out.1.lt; omega) (by simp) (by simp) ?_).mono ?_
      · intro j hj
        rw [World.cell?_alloc_new]
        have : j = 0 ∨ j = 1 := by simp at hj; omega
        rcases this with rfl | rfl <;> rfl
      rintro e w3 ⟨K, rfl, hK, hd3⟩
      have HK : Hid (K = 4 ∨ K = 5) := by show _ ∨ _; simpa using hK
      have HD3 : Hid (Drawn cb ao len cap zs w w3) := (HD1.out.alloc _).trans hd3
      obtain ⟨q3, f3⟩ := (((Turn.refl _ _).alloc _).trans hd3.2).kept (by omega) (by omega) q1 f1
      have hz3 : w.heap.size + 1 ≤ w3.heap.size := by have := (((Turn.refl _ _).alloc _).trans hd3.2).size; omega
      clear hd3 q1 f1 hK
      go_wp2_with fail
      refine (below_any cb ao len cap zs _ (HD3.out.1.alloc _) 4 (by decide) (by decide)).mono ?_
      rintro e w4 ⟨m, rfl, hm0, hm1, hd4⟩
      have HG0 : Hid (Gao cb ao len cap zs w w4 w3.heap.size K 0 ⟨#[]⟩ [] (.slice none 0 0) [] []) := (Gao.start HD3.out hcb hz3 rfl q3 f3 K 0 ⟨#[]⟩).turn hd4
      clear hd4 q3 f3
      obtain ⟨tb, htb⟩ : ∃ tb, tb = w3.heap.size := ⟨_, rfl⟩
      rw [← htb] at HG0
      rw [← htb]
      have htb0 : w.heap.size < tb := by omega
      clear htb HD3 HD1 hz3 hz1
      obtain ⟨i0, hi, hzz⟩ := Option.map_eq_some_iff.1 info26
      simp only [Prod.mk.injEq] at hzz
      obtain ⟨hzz0, hzz1, hzz2⟩ := hzz
      obtain ⟨m, rfl⟩ : ∃ k : Nat, m = k := ⟨m.toNat, by omega⟩
      have hm : m < 4 := by omega
      clear hm0 hm1
      go_wp2_with fail
      go_loopw [6] (fun i w' => ∃ (k : Nat) (l : List Tm) (u : Value) (xs : List Value) (bs : List Nat), i = .int .i64 k ∧ l.length + k ≤ 3 ∧ Gao cb ao len cap zs w w' tb K 0 ⟨#[]⟩ l u xs bs ∧ DpL d l) (fun i _ => (intOf i).toNat)
      case atStart => exact ⟨m, [], _, _, _, rfl, by simp; omega, HG0.out, .inl rfl⟩
      case round =>
        obtain ⟨k, l, u, xs, bs, rfl, hlk, hg, hdp⟩ := hrel
        have HDP : Hid (DpL d l) := hdp
        clear hdp
        obtain ⟨ua, uc, rfl⟩ := hg.form
        have HG : Hid (Gao cb ao len cap zs w wr tb K 0 ⟨#[]⟩ l (.slice ua l.length uc) xs bs) := hg
        have t0 := hg.t0
        have t1 := hg.t1
        have t2 := hg.t2
        have t3 := hg.t3
        have tf := hg.tf
        have htl := hg.lt
        obtain ⟨r0, hr0⟩ := hg.r 0 (by decide)
        obtain ⟨r1, hr1⟩ := hg.r 1 (by decide)
        obtain ⟨r2, hr2⟩ := hg.r 2 (by decide)
        obtain ⟨r3, hr3⟩ := hg.r 3 (by decide)
        have hrf := hg.rf
        clear hg
        by_cases hk : 0 < k
        · by_cases hDp : 0 < D
          case neg =>
            go_wp2_with fail
            obtain ⟨⟨bt, hv, hn, hlo⟩, hdd⟩ := HG.out.done (Nat.zero_le _) (.int .i64 K) (.int .i64 0) (.string ⟨#[]⟩) (.slice ua l.length uc)
            refine bodyPost_ret (v := .agg #[.int .i64 K, .int .i64 0, .string ⟨#[]⟩, .slice ua l.length uc]) (by simp [results, Try.results52, go_sem, hr0, hr1, hr2, hr3]) rfl ⟨_, _, rfl, ⟨bt, hv, hn, hlo⟩, wf_list d K HK.out l (by omega) HG.out.wf HDP.out, hdd⟩
          case pos =>
            obtain ⟨d', hd'⟩ : ∃ d' : Nat, d = d' + 1 := ⟨d - 1, by have := HDD.out; omega⟩
            have HT : Hid (DrO cb ao len cap zs d') := IH.out d' hd'
            have HQ : Hid (D - 1 = d') := by show _ = _; have := HDD.out; omega
            have HW : Hid (IntKind.i64.wrap (D - 1) = d') := by show _ = _; have := HDD.out; rw [IntKind.wrap_i64]; omega
            have HDE : Hid (d = d' + 1) := hd'
            clear hd'
            go_wp2_with fail
            go_region_law (first
              | (refine step_append_lies _ rfl (.tmp 52) (.tmp 57) 28 rfl (tb + 1) 30 i0 (.agg #[.int .i64 0, .int .i64 0, .string ⟨#[]⟩, .slice none 0 0]) 4 56 underlying24 hi hzz0 hzz1 hzz2 rfl (by decide) (.slice ua l.length uc) l.length xs (by simp [Act.eval]) (HG1.out.own.alloc _) ⟨w5.heap.size, 0, none⟩ 1 1 [.int .i64 va, .int .i64 vb, .string vc, .slice vd ve vf] (by simp [Act.eval]) rfl four_news (by intro u' hu'; simp at hu'; rcases hu' with rfl | rfl | rfl | rfl <;> rfl) (by decide) (by unfold maxLen; omega) (by omega) (by simp; omega) _ rfl ?_; intro g cap5 w6 hown6 hgrow6 hat6 hlt6; obtain ⟨t36, tf6⟩ := HG1.out.grown hgrow6)
              | (go_simp; go_wp2_with (go_at_call 52; (first | rw [HW.out] | rw [HQ.out]); refine (HT.out _ ?_).mono ?_; exact HG.out.drawn.1.drew; rintro e w5 ⟨tt, vv, rfl, ⟨bt, hv5, hn5, hl5⟩, hw5, hd5⟩; obtain ⟨va, vb, vc, vd, ve, vf, rfl⟩ := hv5.form; have HG1 : Hid (Gao cb ao len cap zs w w5 tb K 0 ⟨#[]⟩ l (.slice ua l.length uc) xs bs) := HG.out.turn hd5.drew; have htl5 := HG1.out.lt; have t35 := HG1.out.t3; have tf5 := HG1.out.tf)))
            all_goals
              have HDP2 : Hid (DpL d (l ++ [tt])) := HDP.out.snoc HDE.out hw5.2
              have HG2 := HG.out.more hd5.drew hv5 hn5 hl5 hw5.1 hown6 hgrow6 (by rw [World.size_alloc] at hat6; exact hat6) hlt6
              clear t36 tf6 hown6 hgrow6 hat6 hlt6 hv5 hn5 hl5 hw5 hd5 HG1 htl5 t35 tf5
              have HG3 : Hid (Gao cb ao len cap zs w _ tb K 0 ⟨#[]⟩ _ _ _ _) := HG2
              go_wp2_with fail
              go_roundw
              case rel =>
                refine ⟨k - 1, l ++ [tt], _, _, _, ?_, ?_, HG3.out, HDP2.out⟩
                · have e : ((k - 1 : Nat) : Int) = (k : Int) - 1 := by omega
                  rw [e]
                · rw [List.length_append]; simp only [List.length_cons, List.length_nil]; omega
              case measure => simp [intOf]; omega
        · go_wp2_with fail
          obtain ⟨⟨bt, hv, hn, hlo⟩, hdd⟩ := HG.out.done (Nat.zero_le _) (.int .i64 K) (.int .i64 0) (.string ⟨#[]⟩) (.slice ua l.length uc)
          refine bodyPost_ret (v := .agg #[.int .i64 K, .int .i64 0, .string ⟨#[]⟩, .slice ua l.length uc]) (by simp [results, Try.results52, go_sem, hr0, hr1, hr2, hr3]) rfl ⟨_, _, rfl, ⟨bt, hv, hn, hlo⟩, wf_list d K HK.out l (by omega) HG.out.wf HDP.out, hdd⟩

theorem drO_all (cb : Nat) (ao : Option Addr) (len cap : Nat) (zs : List Int) : ∀ d : Nat, d ≤ 6 → DrO cb ao len cap zs d
  | 0, h => drO_of cb ao len cap zs 0 h (fun d' e => by omega)
  | d + 1, h => drO_of cb ao len cap zs (d + 1) h (fun d' e => by
      have : d' = d := by omega
      subst this
      exact drO_all cb ao len cap zs d' (by omega))
end Go.Proofs.Ytimnnedmpmlmdaa
namespace Go.Proofs.Ytimnnedmpmlmdaa
open Go.RowKit
set_option linter.unusedVariables false

theorem OwV.low {w : World} {lo lo' : Nat} {t : Tm} {v : Value} (h : OwV w lo t v) (hl : lo' ≤ lo) : OwV w lo' t v := by
  obtain ⟨bs, h1, h2, h3⟩ := h
  exact ⟨bs, h1, h2, fun b hb => Nat.le_trans hl (h3 b hb)⟩
theorem OwV.form {w : World} {lo : Nat} {t : Tm} {v : Value} (h : OwV w lo t v) : ∃ a b c d e f, v = .agg #[.int .i64 a, .int .i64 b, .string c, .slice d e f] := by
  obtain ⟨bs, h1, _⟩ := h
  exact h1.form
theorem OwV.below {w w' : World} {lo : Nat} {t : Tm} {v : Value} (h : OwV w lo t v) (hb : Below w.heap.size w w') : OwV w' lo t v := by
  obtain ⟨bs, h1, h2, h3⟩ := h
  exact ⟨bs, h1.below hb, h2, h3⟩
structure Gzo (w wr : World) (tb : Nat) (K N : Int) (s : ByteArray) (l : List Tm) (u : Value) (xs : List Value) (bs : List Nat) : Prop where
  be : Below w.heap.size w wr
  up : w.heap.size < tb
  lt : tb < wr.heap.size
  t0 : wr.cell? ⟨tb, 0, none⟩ = some (.int .i64 K)
  t1 : wr.cell? ⟨tb, 1, none⟩ = some (.int .i64 N)
  t2 : wr.cell? ⟨tb, 2, none⟩ = some (.string s)
  t3 : wr.cell? ⟨tb, 3, none⟩ = some u
  tf : ∀ o, wr.frozen? ⟨tb, o, none⟩ = false
  r : ∀ j, j < 4 → ∃ v, wr.cell? ⟨w.heap.size, j, none⟩ = some v
  rf : ∀ o, wr.frozen? ⟨w.heap.size, o, none⟩ = false
  own : wr.ownsRow (tb + 1) 30 4 u l.length xs
  row : VL eltT wr l xs bs
  nd : bs.Nodup
  lo : ∀ b ∈ bs, tb + 1 ≤ b ∧ u.ownBlock ≠ some b
theorem Gzo.call {w wr w1 : World} {tb : Nat} {K N : Int} {s : ByteArray} {l : List Tm} {u : Value} {xs : List Value} {bs : List Nat} (h : Gzo w wr tb K N s l u xs bs) (hd : Below wr.heap.size wr w1) : Gzo w w1 tb K N s l u xs bs := by
  have hg : wr.grownBy w1 none := ⟨hd.os, hd.tape, hd.output, hd.size, fun k hk _ => hd.block k hk⟩
  have hup := h.up
  have hlt := h.lt
  have cc : ∀ b o v, wr.cell? ⟨b, o, none⟩ = some v → w1.cell? ⟨b, o, none⟩ = some v := fun b o v hv => by rw [hd.cell (p := ⟨b, o, none⟩) (World.block_lt_of_cell? wr _ hv)]; exact hv
  exact ⟨h.be.trans (hd.mono h.be.size), h.up, Nat.lt_of_lt_of_le h.lt hd.size, cc _ _ _ h.t0, cc _ _ _ h.t1, cc _ _ _ h.t2, cc _ _ _ h.t3, fun o => by rw [hd.frozen (p := ⟨tb, o, none⟩) h.lt]; exact h.tf o, fun j hj => by obtain ⟨v, hv⟩ := h.r j hj; exact ⟨v, cc _ _ _ hv⟩, fun o => by rw [hd.frozen (p := ⟨w.heap.size, o, none⟩) (by show w.heap.size < _; omega)]; exact h.rf o, h.own.kept hg (by by_cases e : u.ownBlock = none; exact Or.inl e; exact Or.inr e), h.row.keep hd.size (fun x hx => hd.block x (VL.lt h.row x hx)), h.nd, h.lo⟩
theorem Gzo.form {w wr : World} {tb : Nat} {K N : Int} {s : ByteArray} {l : List Tm} {u : Value} {xs : List Value} {bs : List Nat}
    (h : Gzo w wr tb K N s l u xs bs) : ∃ ua uc, u = .slice ua l.length uc := by
  rcases h.own.2 with ⟨rfl, h0⟩ | ⟨g, cap, cur, rfl, _⟩
  · exact ⟨none, 0, by rw [h0]⟩
  · exact ⟨_, _, rfl⟩
theorem Gzo.grown {w w1 w2 : World} {tb : Nat} {K N : Int} {s : ByteArray} {l : List Tm} {u : Value} {xs : List Value} {bs : List Nat}
    (h : Gzo w w1 tb K N s l u xs bs) {o : Obj} (hgrow : (w1.alloc o).grownBy w2 u.ownBlock) : w2.cell? ⟨tb, 3, none⟩ = some u ∧ w2.frozen? ⟨tb, 3, none⟩ = false := by
  have hs1 : (w1.alloc o).heap.size = w1.heap.size + 1 := World.size_alloc _ _
  have hl := h.lt
  have hne : some tb ≠ u.ownBlock := fun e => by have := (h.own.lt tb e.symm).1; omega
  rw [hgrow.cell_far ⟨tb, 3, none⟩ (by rw [hs1]; exact Nat.lt_succ_of_lt hl) hne, hgrow.frozen_far ⟨tb, 3, none⟩ (by rw [hs1]; exact Nat.lt_succ_of_lt hl) hne, World.cell?_alloc_lt (h := hl), World.frozen?_alloc_old (h := by show tb ≠ _; omega)]
  exact ⟨h.t3, h.tf 3⟩
/-- One more is drawn, laid down in a block, appended, and the variable turned. -/
theorem Gzo.more {w wr w1 w2 : World} {tb : Nat} {K N : Int} {s : ByteArray} {l : List Tm} {u : Value} {xs : List Value} {bs bt : List Nat}
    (h : Gzo w wr tb K N s l u xs bs) (hd : Below wr.heap.size wr w1) {t : Tm} {a b : Int} {c : ByteArray} {d : Option Addr} {e f : Nat} (hv : OsV w1 bt t (.agg #[.int .i64 a, .int .i64 b, .string c, .slice d e f])) (hbn : bt.Nodup) (hbl : ∀ x ∈ bt, wr.heap.size ≤ x) {o : Obj}
    {g cap' : Nat} (hown : w2.ownsRow (tb + 1) 30 4 (.slice (some ⟨g, 0, none⟩) (l.length + 1) cap') (l.length + 1) (xs ++ [.int .i64 a, .int .i64 b, .string c, .slice d e f])) (hgrow : (w1.alloc o).grownBy w2 u.ownBlock) (hat : u.ownBlock = some g ∨ g = w1.heap.size + 1) (hlt : g < w2.heap.size) :
    Gzo w (w2.setCell ⟨tb, 3, none⟩ (.slice (some ⟨g, 0, none⟩) (l.length + 1) cap')) tb K N s (l ++ [t]) (.slice (some ⟨g, 0, none⟩) (l.length + 1) cap') (xs ++ [.int .i64 a, .int .i64 b, .string c, .slice d e f]) (bs ++ bt) := by
  have h1 := h.call hd
  have hs1 : (w1.alloc o).heap.size = w1.heap.size + 1 := World.size_alloc _ _
  have hun : ∀ k, k < tb + 1 → some k ≠ u.ownBlock := fun k hk e => by have := (h.own.lt k e.symm).1; omega
  have hcell : ∀ p o' v, some p ≠ u.ownBlock → w1.cell? ⟨p, o', none⟩ = some v → w2.cell? ⟨p, o', none⟩ = some v := fun p o' v hp hc => by
    have hpl := World.block_lt_of_cell? w1 _ hc
    rw [hgrow.cell_far ⟨p, o', none⟩ (by rw [hs1]; exact Nat.lt_succ_of_lt hpl) hp, World.cell?_alloc_lt (h := hpl)]; exact hc
  have hfroz : ∀ p o', p < w1.heap.size → some p ≠ u.ownBlock → w2.frozen? ⟨p, o', none⟩ = w1.frozen? ⟨p, o', none⟩ := fun p o' hpl hp => by
    rw [hgrow.frozen_far ⟨p, o', none⟩ (by rw [hs1]; exact Nat.lt_succ_of_lt hpl) hp, World.frozen?_alloc_old (h := by show p ≠ _; omega)]
  have hset : ∀ p o' v, (p ≠ tb ∨ o' ≠ 3) → w2.cell? ⟨p, o', none⟩ = some v → (w2.setCell ⟨tb, 3, none⟩ (.slice (some ⟨g, 0, none⟩) (l.length + 1) cap')).cell? ⟨p, o', none⟩ = some v := fun p o' v hp hc => by
    rw [World.cell?_setCell_other (h := fun e => by simp at e; omega)]; exact hc
  have hgb : tb + 1 ≤ g := (hown.lt g rfl).1
  have hll : (l ++ [t]).length = l.length + 1 := by simp
  have hul : tb < w1.heap.size := h1.lt
  have hup := h.up
  have hrl := h.lt
  have hwl : w.heap.size < w1.heap.size := Nat.lt_trans h.up hul
  have hz1 := hd.size
  have hk : ∀ k, k < w1.heap.size → some k ≠ u.ownBlock → k ≠ tb → (w2.setCell ⟨tb, 3, none⟩ (.slice (some ⟨g, 0, none⟩) (l.length + 1) cap')).heap[k]? = w1.heap[k]? := fun k hkl hku hkt => by
    rw [Below.heap_setCell w2 ⟨tb, 3, none⟩ _ k hkt, hgrow.block k (by rw [hs1]; omega) hku]
    show (w1.heap.push _)[k]? = _
    rw [Array.getElem?_push, if_neg (by omega)]
  have hsz : (w2.setCell ⟨tb, 3, none⟩ (.slice (some ⟨g, 0, none⟩) (l.length + 1) cap')).heap.size = w2.heap.size := World.size_setCell ..
  have hsz2 : w1.heap.size + 1 ≤ w2.heap.size := by rw [← hs1]; exact hgrow.size
  have htb : some tb ≠ u.ownBlock := hun tb (by omega)
  have hrb : some w.heap.size ≠ u.ownBlock := hun _ (by omega)
  have hvl := osV_lt hv
  have hbs : ∀ x ∈ bs, x < wr.heap.size := VL.lt h.row
  have hkb : ∀ x ∈ bs ++ bt, (w2.setCell ⟨tb, 3, none⟩ (.slice (some ⟨g, 0, none⟩) (l.length + 1) cap')).heap[x]? = w1.heap[x]? := fun x hx => by
    rcases List.mem_append.1 hx with hx | hx
    · exact hk x (by have := hbs x hx; omega) (fun e => (h.lo x hx).2 e.symm) (by have := (h.lo x hx).1; omega)
    · exact hk x (hvl x hx) (fun e => by have := (h.own.lt x e.symm).2; have := hbl x hx; omega) (by have := hbl x hx; omega)
  refine ⟨?_, hup, by rw [hsz]; omega, hset _ _ _ (Or.inr (by omega)) (hcell _ _ _ htb h1.t0), hset _ _ _ (Or.inr (by omega)) (hcell _ _ _ htb h1.t1), hset _ _ _ (Or.inr (by omega)) (hcell _ _ _ htb h1.t2), World.cell?_setCell_same w2 _ _ (hcell _ _ _ htb h1.t3), fun o' => ?_, fun j hj => ?_, fun o' => ?_, ?_, ?_, ?_, ?_⟩
  · have t := h1.be
    exact ⟨hgrow.os.trans t.os, hgrow.tape.trans t.tape, hgrow.output.trans t.output, by rw [hsz]; omega, fun k hkl => (hk k (by omega) (hun k (by omega)) (by omega)).trans (t.block k hkl)⟩
  · rw [World.frozen?_setCell, hfroz tb o' hul htb]; exact h1.tf o'
  · obtain ⟨v, hv'⟩ := h1.r j hj
    exact ⟨v, hset _ _ _ (Or.inl (by omega)) (hcell _ _ _ hrb hv')⟩
  · rw [World.frozen?_setCell, hfroz _ o' hwl hrb]; exact h1.rf o'
  · rw [hll]; exact ownsRow_setCell_below hown (by show tb < tb + 1; omega) _
  · exact (VL.snoc (ve_term hv) h1.row).keep (by rw [hsz]; omega) hkb
  · rw [List.nodup_append]
    exact ⟨h.nd, hbn, fun x hx y hy e => by have := hbs x hx; have := hbl y hy; omega⟩
  · intro x hx
    refine ⟨?_, fun e => ?_⟩
    · rcases List.mem_append.1 hx with hx | hx
      · exact (h.lo x hx).1
      · have := hbl x hx; omega
    · simp only [Value.ownBlock, Option.some.injEq] at e
      subst e
      rcases List.mem_append.1 hx with hx | hx
      · rcases hat with hat | hat
        · exact (h.lo _ hx).2 hat
        · have := hbs _ hx; omega
      · rcases hat with hat | hat
        · have := (h.own.lt _ hat).2; have := hbl _ hx; omega
        · have := hvl _ hx; omega
theorem Gzo.done {w wr : World} {tb : Nat} {K N : Int} {s : ByteArray} {l : List Tm} {u : Value} {xs : List Value} {bs : List Nat}
    (h : Gzo w wr tb K N s l u xs bs) (hs : s.size ≤ 1048576) (v0 v1 v2 v3 : Value) :
    OwV ((((wr.setCell ⟨w.heap.size, 0, none⟩ v0).setCell ⟨w.heap.size, 1, none⟩ v1).setCell ⟨w.heap.size, 2, none⟩ v2).setCell ⟨w.heap.size, 3, none⟩ v3) w.heap.size (.mk K N s l) (.agg #[.int .i64 K, .int .i64 N, .string s, u]) ∧
      Below w.heap.size w ((((wr.setCell ⟨w.heap.size, 0, none⟩ v0).setCell ⟨w.heap.size, 1, none⟩ v1).setCell ⟨w.heap.size, 2, none⟩ v2).setCell ⟨w.heap.size, 3, none⟩ v3) := by
  obtain ⟨ao', cap', rfl, hl, hc, bt, hg, hb, hn⟩ := h.row.gl h.own
  have hup := h.up
  have hge : ∀ b ∈ bt, tb + 1 ≤ b := fun b hbm => by
    rcases hb b hbm with h9 | h9
    · exact (h.lo b h9).1
    · exact (h.own.lt b h9).1
  refine ⟨⟨bt, ⟨ao', cap', rfl, hs, hl, hc, ?_⟩, hn h.nd (fun b hbm => (h.lo b hbm).2), fun b hbm => by have := hge b hbm; omega⟩, (((h.be.setCell (Nat.le_refl _) _).setCell (Nat.le_refl _) _).setCell (Nat.le_refl _) _).setCell (Nat.le_refl _) _⟩
  refine OsL.keep _ _ _ (fun x hx _ => ?_) (gl_osL hg)
  have hne : x ≠ w.heap.size := by have := hge x hx; omega
  rw [Below.heap_setCell _ ⟨w.heap.size, 3, none⟩ _ x hne, Below.heap_setCell _ ⟨w.heap.size, 2, none⟩ _ x hne, Below.heap_setCell _ ⟨w.heap.size, 1, none⟩ _ x hne, Below.heap_setCell _ ⟨w.heap.size, 0, none⟩ _ x hne]
theorem bundrewO {W w3 : World} (hb : Below W.drew.heap.size W.drew w3) : Below W.heap.size W w3 := ⟨hb.os, hb.tape, hb.output, hb.size, hb.block⟩
theorem own_lenO {w : World} {B e z : Nat} {v : Value} {n k : Nat} {xs : List Value} (h : w.ownsRow B e z v n xs) (hn : n = k) : w.ownsRow B e z v k xs := by subst hn; exact h
theorem Gzo.begin (w : World) (c : Array Value) (hc : c.size = 4) (K N : Int) (s : ByteArray) :
    Gzo w (((w.alloc (.cells c 30)).alloc (.cells #[.int .i64 K, .int .i64 N, .string s, .slice (some ⟨w.heap.size + 1 + 1, 0, none⟩) 0 0] 30)).alloc (.cells #[] 30)) (w.heap.size + 1) K N s [] (.slice (some ⟨w.heap.size + 1 + 1, 0, none⟩) 0 0) [] [] := by
  have hb := three_new (w := w) (c1 := c) (c2 := #[.int .i64 K, .int .i64 N, .string s, .slice (some ⟨w.heap.size + 1 + 1, 0, none⟩) 0 0]) (c3 := #[]) (t1 := 30) (t2 := 30) (t3 := 30) (Below.refl _ _)
  obtain ⟨hz, q2, q3, f2, f3⟩ := hb
  have e1 : (((w.alloc (.cells c 30)).alloc (.cells #[.int .i64 K, .int .i64 N, .string s, .slice (some ⟨w.heap.size + 1 + 1, 0, none⟩) 0 0] 30)).alloc (.cells #[] 30)).heap[w.heap.size]? = some (.cells c 30 (0, 0)) := by
    show (((w.heap.push _).push _).push _)[w.heap.size]? = _
    rw [Array.getElem?_push, if_neg (by simp; omega), Array.getElem?_push, if_neg (by simp), Array.getElem?_push, if_pos (by simp)]
  have e3 : (((w.alloc (.cells c 30)).alloc (.cells #[.int .i64 K, .int .i64 N, .string s, .slice (some ⟨w.heap.size + 1 + 1, 0, none⟩) 0 0] 30)).alloc (.cells #[] 30)).heap[w.heap.size + 1 + 1]? = some (.cells #[] 30 (0, 0)) := by
    show (((w.heap.push _).push _).push _)[w.heap.size + 1 + 1]? = _
    rw [Array.getElem?_push, if_pos (by simp)]
  refine ⟨(((Below.refl _ _).alloc (Nat.le_refl _) _).alloc (by simp) _).alloc (by simp; omega) _, by omega, by omega, q2 0, q2 1, q2 2, q2 3, f2, fun j hj => ?_, fun o => frozen_of e1, ⟨rfl, Or.inr ⟨w.heap.size + 1 + 1, 0, #[], rfl, Nat.le_refl _, e3, Nat.le_refl _, Nat.zero_le _, rfl, rfl⟩⟩, ⟨rfl, rfl⟩, List.nodup_nil, fun b hb => by simp at hb⟩
  rw [cell_of e1]
  exact ⟨c[j], Array.getElem?_eq_getElem (by omega)⟩

def CzO (t : Tm) : Prop := ∀ (w : World) (v : Value), RepV 0 w t v → StS t →
  Calls Try.prog 30 #[v] w fun e w' => ∃ v', e = .returned v' ∧ OwV w' w.heap.size t v' ∧ Below w.heap.size w w'

set_option maxRecDepth 100000 in
set_option maxHeartbeats 4000000 in
theorem czO_of (K N : Int) (s : ByteArray) (m : List Tm) (ih : ∀ t, t ∈ m → CzO t) : CzO (.mk K N s m) := by
  intro w v hv hw
  obtain ⟨so, scap, rfl, hss, hl, hcap, hr⟩ := hv
  rw [StS] at hw
  have IH : Hid (∀ t, t ∈ m → CzO t) := ih
  have HR : Hid (RepL 0 w m so) := hr
  have HW : Hid (∀ t, t ∈ m → StS t) := hw.2.2
  have hm : m.length ≤ 1048576 := hw.2.1
  have HM : Hid (s.size ≤ 1048576) := hw.1
  clear ih hr hw hss
  unfold maxLen at hcap
  go_enter Try.func30, Try.ntmps30
  go_wp2_with fail
  obtain ⟨W0, hW⟩ : ∃ W0, W0 = w.alloc (.cells #[.int .i64 K, .int .i64 N, .string s, .slice so m.length scap] 30) := ⟨_, rfl⟩
  have hs0 : W0.heap.size = w.heap.size + 1 := by rw [hW, World.size_alloc]
  have hg0 := Gzo.begin W0 #[.int .i64 0, .int .i64 0, .string ⟨#[]⟩, .slice none 0 0] rfl K N s
  rw [hs0] at hg0
  have HDW : Hid (Below w.heap.size w W0) := by rw [hW]; exact (Below.refl _ _).alloc (Nat.le_refl _) _
  have HQ0 : Hid (W0.cell? ⟨w.heap.size, 3, none⟩ = some (.slice so m.length scap)) := by show _ = _; rw [hW, World.cell?_alloc_new]; rfl
  rw [← hW]
  have HG0 : Hid (Gzo W0 _ (w.heap.size + 1 + 1) K N s [] _ [] []) := hg0
  have HS0 : Hid (W0.heap.size = w.heap.size + 1) := hs0
  clear hg0 hs0 hW
  obtain ⟨i0, hi, hzz⟩ := Option.map_eq_some_iff.1 info26
  simp only [Prod.mk.injEq] at hzz
  obtain ⟨hzz0, hzz1, hzz2⟩ := hzz
  go_loopw [4] (fun i w' => ∃ (k : Nat) (u : Value) (xs : List Value) (bs : List Nat), i = .int .i64 k ∧ k ≤ m.length ∧ Gzo W0 w' (w.heap.size + 1 + 1) K N s (m.take k) u xs bs) (fun i _ => m.length - (intOf i).toNat)
  case atStart => exact ⟨0, _, _, _, rfl, Nat.zero_le _, HG0.out⟩
  case round =>
    obtain ⟨k, u, xs, bs, rfl, hk, hg⟩ := hrel
    obtain ⟨ua, uc, rfl⟩ := hg.form
    have hlen : (m.take k).length = k := by rw [List.length_take]; omega
    rw [hlen] at hg
    have HG : Hid (Gzo W0 wr (w.heap.size + 1 + 1) K N s (m.take k) (.slice ua k uc) xs bs) := hg
    have t0 := hg.t0
    have t1 := hg.t1
    have t2 := hg.t2
    have t3 := hg.t3
    have tf := hg.tf
    have htl := hg.lt
    have hqr : wr.cell? ⟨w.heap.size, 3, none⟩ = some (.slice so m.length scap) := by
      have hz := HS0.out
      rw [hg.be.cell (p := ⟨w.heap.size, 3, none⟩) (by show w.heap.size < _; omega)]; exact HQ0.out
    have hrr := hg.r
    have hrf := hg.rf
    rw [HS0.out] at hrr hrf
    obtain ⟨r0, hr0⟩ := hrr 0 (by decide)
    obtain ⟨r1, hr1⟩ := hrr 1 (by decide)
    obtain ⟨r2, hr2⟩ := hrr 2 (by decide)
    obtain ⟨r3, hr3⟩ := hrr 3 (by decide)
    have HDR : Hid (Below w.heap.size w wr) := by
      have hz := HS0.out
      exact HDW.out.trans (hg.be.mono (by omega))
    clear hg hrr
    by_cases hlt : k < m.length
    · have HRr : Hid (RepL 0 wr m so) := (Keeps.below HDR.out 0).repL _ _ HR.out
      obtain ⟨b, off, rfl, _, ht⟩ := RepL.at m so HRr.out k hlt
      obtain ⟨tk, tn, ts, tao, tlen, tcap, c0, c1, c2, c3, hv⟩ := ht.cells
      have HV : Hid (RepV 0 wr m[k] (.agg #[.int .i64 tk, .int .i64 tn, .string ts, .slice tao tlen tcap])) := hv
      have HT : Hid (CzO m[k]) := IH.out _ (List.getElem_mem hlt)
      clear hv ht
      go_wp2_with fail
      go_region_law (first
        | (refine step_append_lies _ rfl (.tmp 16) (.tmp 23) 28 rfl (w.heap.size + 1 + 1 + 1) 30 i0 (.agg #[.int .i64 0, .int .i64 0, .string ⟨#[]⟩, .slice none 0 0]) 4 56 underlying24 hi hzz0 hzz1 hzz2 rfl (by decide) (.slice ua k uc) k xs (by simp [Act.eval]) (HO1.out.alloc _) ⟨w5.heap.size, 0, none⟩ 1 1 [.int .i64 va, .int .i64 vb, .string vc, .slice vd ve vf] (by simp [Act.eval]) rfl four_news (by intro u' hu'; simp at hu'; rcases hu' with rfl | rfl | rfl | rfl <;> rfl) (by decide) (by unfold maxLen; omega) (by omega) (by simp; omega) _ rfl ?_; intro g cap5 w6 hown6 hgrow6 hat6 hlt6; obtain ⟨t36, tf6⟩ := HG1.out.grown hgrow6)
        | (go_simp; go_wp2_with (go_at_call 30; refine (HT.out _ _ ?_ ?_).mono ?_; exact HV.out.drew; exact HW.out _ (List.getElem_mem hlt); rintro e w5 ⟨vv, rfl, ⟨bt, hv5, hn5, hl5⟩, hd5⟩; obtain ⟨va, vb, vc, vd, ve, vf, rfl⟩ := hv5.form; have hd5' : Below wr.heap.size wr w5 := bundrewO hd5; have HG1 : Hid (Gzo W0 w5 (w.heap.size + 1 + 1) K N s (m.take k) (.slice ua k uc) xs bs) := HG.out.call hd5'; have HO1 : Hid (w5.ownsRow (w.heap.size + 1 + 1 + 1) 30 4 (.slice ua k uc) k xs) := own_lenO HG1.out.own hlen; have htl5 := HG1.out.lt; have t35 := HG1.out.t3; have tf5 := HG1.out.tf)))
      all_goals
        have HG2 := HG.out.more (g := g) (cap' := cap5) hd5' hv5 hn5 hl5 (by rw [hlen]; exact hown6) hgrow6 (by rw [World.size_alloc] at hat6; exact hat6) hlt6
        rw [hlen, ← List.take_succ_eq_append_getElem hlt] at HG2
        clear t36 tf6 hown6 hgrow6 hat6 hlt6 hv5 hn5 hl5 hd5 hd5' HG1 HO1 htl5 t35 tf5 c0 c1 c2 c3 hlen
        have HG3 : Hid (Gzo W0 _ (w.heap.size + 1 + 1) K N s _ _ _ _) := HG2
        go_wp2_with fail
        go_roundw
        case rel =>
          refine ⟨k + 1, _, _, _, ?_, by omega, HG3.out⟩
          go_num
        case measure => simp [intOf]; omega
    · go_wp2_with fail
      have hkm : m.take k = m := List.take_of_length_le (by omega)
      have hd := HG.out.done HM.out (.int .i64 K) (.int .i64 N) (.string s) (.slice ua k uc)
      rw [HS0.out, hkm] at hd
      refine bodyPost_ret (v := .agg #[.int .i64 K, .int .i64 N, .string s, .slice ua k uc]) (by simp [results, Try.results30, go_sem, hr0, hr1, hr2, hr3]) rfl ⟨_, rfl, hd.1.low (by omega), HDW.out.trans (hd.2.mono (by omega))⟩
theorem czO_all : ∀ t, CzO t := Tm.ind fun k n s l ih => czO_of k n s l ih
end Go.Proofs.Ytimnnedmpmlmdaa
namespace Go.Proofs.Ytimnnedmpmlmdaa.Tv
open Go.RowKit Atom
open Go.Proofs.Ytimnnedmpmlmdaa.Tr
set_option linter.unusedVariables false

theorem own_keep {w w' : World} {base : Nat} {T : TypeId} {size n : Nat} {v : Value} {xs : List Value} (h : w.ownsRow base T size v n xs) (hk : ∀ g, v.ownBlock = some g → w'.heap[g]? = w.heap[g]?) : w'.ownsRow base T size v n xs := by
  obtain ⟨h1, h2⟩ := h
  refine ⟨h1, ?_⟩
  rcases h2 with h2 | ⟨g', cap', cur, hv, hg, hh, r⟩
  · exact Or.inl h2
  · refine Or.inr ⟨g', cap', cur, hv, hg, ?_, r⟩
    rw [hk g' (by rw [hv]; rfl)]; exact hh
theorem Two.keep {e : Elt Sd} {B : Nat} {D : List Nat} {wr w5 : World} {u1 u2 : Value} {l1 l2 : List Sd} {x1 x2 : List Value} {b1 b2 : List Nat} (h : Two e B D wr u1 u2 l1 l2 x1 x2 b1 b2) (hz : wr.heap.size ≤ w5.heap.size) (hk : ∀ b, b < wr.heap.size → (b ∈ D ∨ u1.ownBlock = some b ∨ u2.ownBlock = some b) → w5.heap[b]? = wr.heap[b]?) : Two e B D w5 u1 u2 l1 l2 x1 x2 b1 b2 :=
  ⟨own_keep h.r1 (fun g hg => hk g (own_base h.r1 hg).2 (.inr (.inl hg))), own_keep h.r2 (fun g hg => hk g (own_base h.r2 hg).2 (.inr (.inr hg))), VL.keep hz h.v1 (fun x hx => hk x (h.dl x (h.i1 x hx)) (.inl (h.i1 x hx))), VL.keep hz h.v2 (fun x hx => hk x (h.dl x (h.i2 x hx)) (.inl (h.i2 x hx))), fun b hb => Nat.lt_of_lt_of_le (h.dl b hb) hz, h.i1, h.i2, h.n1, h.n2, h.nd, h.ne⟩
theorem Two.wide {e : Elt Sd} {B : Nat} {D D' : List Nat} {wr : World} {u1 u2 : Value} {l1 l2 : List Sd} {x1 x2 : List Value} {b1 b2 : List Nat} (h : Two e B D wr u1 u2 l1 l2 x1 x2 b1 b2) (h1 : ∀ b ∈ D', b < wr.heap.size) (h2 : ∀ b ∈ D', u1.ownBlock ≠ some b ∧ u2.ownBlock ≠ some b) : Two e B (D ++ D') wr u1 u2 l1 l2 x1 x2 b1 b2 :=
  ⟨h.r1, h.r2, h.v1, h.v2, fun b hb => by
      rcases List.mem_append.1 hb with hb | hb
      · exact h.dl b hb
      · exact h1 b hb, fun b hb => List.mem_append_left _ (h.i1 b hb), fun b hb => List.mem_append_left _ (h.i2 b hb), fun g hg hm => by
      rcases List.mem_append.1 hm with hm | hm
      · exact h.n1 g hg hm
      · exact (h2 g hm).1 hg, fun g hg hm => by
      rcases List.mem_append.1 hm with hm | hm
      · exact h.n2 g hg hm
      · exact (h2 g hm).2 hg, h.nd, h.ne⟩
/-- One row that begins empty, in a block that was made for it. -/
theorem Two.one {e : Elt Sd} {B : Nat} (w : World) (hB : B ≤ w.heap.size) : Two e B [] (w.alloc (.cells #[] 32)) (.slice (some ⟨w.heap.size, 0, none⟩) 0 0) (.slice none 0 0) [] [] [] [] [] [] :=
  ⟨World.ownsRow_made w #[] 0 hB (Nat.zero_le _) (by simp), World.ownsRow_nil _ _ _ _, ⟨rfl, rfl⟩, ⟨rfl, rfl⟩, (fun b hb => by cases hb), (fun b hb => by cases hb), (fun b hb => by cases hb), (fun g hg hm => by cases hm), (fun g hg => by cases hg), List.nodup_nil, fun g hg q => by cases q⟩

set_option maxHeartbeats 4000000 in
set_option maxRecDepth 100000 in
theorem l14Copy_any (l : List Sd) (ao : Option Addr) (cap : Nat) (w : World) (hr : RowS w ao l) (hl : l.length ≤ 1048576) (hs : ∀ x ∈ l, StS x.t) :
    Calls Try.prog 29 #[.slice ao l.length cap] w fun e w' => ∃ u xs bs D, e = .returned u ∧ Two eltS w.heap.size D w' u (.slice none 0 0) l [] xs [] bs [] ∧ (∀ b ∈ D, w.heap.size ≤ b) ∧ Below w.heap.size w w' := by
  have HR : Hid (RowS w ao l) := hr
  have HS : Hid (∀ x ∈ l, StS x.t) := hs
  obtain ⟨i0, hi, hzz⟩ := Option.map_eq_some_iff.1 infoTimer
  simp only [Prod.mk.injEq] at hzz
  have HI : Hid (Try.prog.info? 32 = some i0 ∧ i0.zero = some (.agg #[.int .i64 0, .int .i64 0, .int .i64 0, .int .i64 0, .string ⟨#[]⟩, .slice none 0 0]) ∧ i0.size = 6 ∧ i0.bytes = 72) := ⟨hi, hzz⟩
  clear hr hs hi hzz
  have HT0 : Hid (Two eltS w.heap.size [] (w.alloc (.cells #[] 32)) (.slice (some ⟨w.heap.size, 0, none⟩) 0 0) (.slice none 0 0) [] [] [] [] [] []) := Two.one w (Nat.le_refl _)
  have HB0 : Hid (Below w.heap.size w (w.alloc (.cells #[] 32))) := (Below.refl _ _).alloc (Nat.le_refl _) _
  go_enter Try.func29, Try.ntmps29
  go_wp2_with fail
  go_loopw [3, 4] (fun u i wr => ∃ (k : Nat) (xs : List Value) (bs D : List Nat), k ≤ l.length ∧ i = .int .i64 k ∧ Two eltS w.heap.size D wr u (.slice none 0 0) (l.take k) [] xs [] bs [] ∧ (∀ b ∈ D, w.heap.size ≤ b) ∧ Below w.heap.size w wr) (fun _ i _ => l.length - (intOf i).toNat)
  case atStart => exact ⟨0, [], [], [], Nat.zero_le _, rfl, HT0.out, (fun b hb => by cases hb), HB0.out⟩
  case round =>
    obtain ⟨k, xs, bs, D, hk, rfl, htw, hD, hbe⟩ := hrel
    obtain ⟨ua, uc, rfl⟩ := htw.form1
    have hlen : (l.take k).length = k := by rw [List.length_take]; omega
    rw [hlen] at htw ⊢
    have HTW : Hid (Two eltS w.heap.size D wr (.slice ua k uc) (.slice none 0 0) (l.take k) [] xs [] bs []) := htw
    have HBE : Hid (Below w.heap.size w wr) := hbe
    have HDD : Hid (∀ b ∈ D, w.heap.size ≤ b) := hD
    have HLEN : Hid ((l.take k).length = k) := hlen
    clear htw hbe hD hlen
    by_cases hlt : k < l.length
    · rcases HR.out.below HBE.out with h0 | ⟨b, o, rfl, hrow⟩
      · rw [h0] at hlt; simp at hlt
      have hbx := hrow k hlt
      have HST : Hid (StS l[k].t) := HS.out _ (List.getElem_mem hlt)
      have HTK : Hid (l.take (k + 1) = l.take k ++ [l[k]]) := List.take_succ_eq_append_getElem hlt
      generalize hx : l[k] = x at hbx HST HTK
      clear hx hrow
      obtain ⟨ta, tp, t⟩ := x
      obtain ⟨tk, tn, ts, tao, tlen, tcap, d2, d3, d4, d5, hv⟩ := hbx.t.cells
      have d0 := hbx.c0
      have d1 := hbx.c1
      dsimp only at d0 d1
      obtain ⟨wa, hwa⟩ : ∃ wa, wa = wr.alloc (.cells #[.int .i64 ta, .int .i64 tp, .int .i64 tk, .int .i64 tn, .string ts, .slice tao tlen tcap] 32) := ⟨_, rfl⟩
      have hba : Below wr.heap.size wr wa := by rw [hwa]; exact (Below.refl _ _).alloc (Nat.le_refl _) _
      have hza : wa.heap.size = wr.heap.size + 1 := by rw [hwa]; simp
      have HBA : Hid (Below wr.heap.size wr wa ∧ Below w.heap.size w wa ∧ wa.heap.size = wr.heap.size + 1) := ⟨hba, HBE.out.trans (hba.mono HBE.out.size), hza⟩
      have qa : ∀ x, wa.cell? ⟨wr.heap.size, x, none⟩ = (#[.int .i64 ta, .int .i64 tp, .int .i64 tk, .int .i64 tn, .string ts, .slice tao tlen tcap] : Array Value)[x]? := fun x => by rw [hwa, World.cell?_alloc_new]
      have fa : ∀ x, wa.frozen? ⟨wr.heap.size, x, none⟩ = false := fun x => by rw [hwa, World.frozen?_alloc_new]
      have HQ : Hid (∀ wc, Below wa.heap.size wa wc → (wc.cell? ⟨wr.heap.size, 0, none⟩ = some (.int .i64 ta) ∧ wc.cell? ⟨wr.heap.size, 1, none⟩ = some (.int .i64 tp) ∧ wc.cell? ⟨wr.heap.size, 2, none⟩ = some (.int .i64 tk) ∧ wc.cell? ⟨wr.heap.size, 3, none⟩ = some (.int .i64 tn) ∧ wc.cell? ⟨wr.heap.size, 4, none⟩ = some (.string ts) ∧ wc.cell? ⟨wr.heap.size, 5, none⟩ = some (.slice tao tlen tcap)) ∧ ∀ x, wc.frozen? ⟨wr.heap.size, x, none⟩ = false) := fun wc hb =>
        ⟨⟨keepOt hb (qa 0), keepOt hb (qa 1), keepOt hb (qa 2), keepOt hb (qa 3), keepOt hb (qa 4), keepOt hb (qa 5)⟩, fun x => by rw [hb.frozen (p := ⟨wr.heap.size, x, none⟩) (by show wr.heap.size < _; omega)]; exact fa x⟩
      have HC : Hid (Calls Try.prog 30 #[.agg #[.int .i64 tk, .int .i64 tn, .string ts, .slice tao tlen tcap]] wa fun e w' => ∃ va vb vc vd ve vf, e = .returned (.agg #[.int .i64 va, .int .i64 vb, .string vc, .slice vd ve vf]) ∧ OwV w' wa.heap.size t (.agg #[.int .i64 va, .int .i64 vb, .string vc, .slice vd ve vf]) ∧ Below wa.heap.size wa w') :=
        (czO_all t wa _ (Below.repV hba hv) HST.out).mono fun e w' ⟨v', h1, h2, h3⟩ => by
          obtain ⟨va, vb, vc, vd, ve, vf, rfl⟩ := h2.form
          exact ⟨va, vb, vc, vd, ve, vf, h1, h2, h3⟩
      clear hba hza qa fa hv hbx
      go_wp2_with (go_at_call 30; fail)
      rw [← hwa]
      clear hwa
      refine HC.out.mono ?_
      rintro e w5 ⟨va, vb, vc, vd, ve, vf, rfl, ⟨bt, hr5, hbn, hbl⟩, hb5⟩
      have HBT : Hid ((∀ b ∈ bt, wa.heap.size ≤ b ∧ b < w5.heap.size) ∧ bt.Nodup) := ⟨fun b hb => ⟨hbl b hb, osV_lt hr5 b hb⟩, hbn⟩
      obtain ⟨⟨c0, c1, c2, c3, c4, c5⟩, cf⟩ := HQ.out w5 hb5
      have HB5 : Hid (Below wa.heap.size wa w5 ∧ Below w.heap.size w w5 ∧ Below wr.heap.size wr w5) := ⟨hb5, HBA.out.2.1.trans (hb5.mono HBA.out.2.1.size), HBA.out.1.trans (hb5.mono HBA.out.1.size)⟩
      have HVE5 : Hid (VE eltS w5 ⟨ta, tp, t⟩ [.int .i64 ta, .int .i64 tp, .int .i64 va, .int .i64 vb, .string vc, .slice vd ve vf] (bt)) := ve_timer (x := ⟨ta, tp, t⟩) hr5
      obtain ⟨w6, hw6⟩ : ∃ w6, w6 = (((w5.setCell ⟨wr.heap.size, 2, none⟩ (.int .i64 va)).setCell ⟨wr.heap.size, 3, none⟩ (.int .i64 vb)).setCell ⟨wr.heap.size, 4, none⟩ (.string vc)).setCell ⟨wr.heap.size, 5, none⟩ (.slice vd ve vf) := ⟨_, rfl⟩
      have ho6 : OutB [wr.heap.size] w5 w6 := by rw [hw6]; exact ((((OutB.refl [wr.heap.size] w5).set (by simp) 2 _).set (by simp) 3 _).set (by simp) 4 _).set (by simp) 5 _
      have HW6 : Hid (w6 = (((w5.setCell ⟨wr.heap.size, 2, none⟩ (.int .i64 va)).setCell ⟨wr.heap.size, 3, none⟩ (.int .i64 vb)).setCell ⟨wr.heap.size, 4, none⟩ (.string vc)).setCell ⟨wr.heap.size, 5, none⟩ (.slice vd ve vf)) := hw6
      have H6 : Hid (Below w.heap.size w w6 ∧ w5.heap.size ≤ w6.heap.size ∧ VE eltS w6 ⟨ta, tp, t⟩ [.int .i64 ta, .int .i64 tp, .int .i64 va, .int .i64 vb, .string vc, .slice vd ve vf] (bt) ∧ Two eltS w.heap.size (D ++ bt) w6 (.slice ua k uc) (.slice none 0 0) (l.take k) [] xs [] bs []) := by
        have hz1 := HBA.out.2.2
        have hz2 := HBE.out.size
        have hz3 := HB5.out.1.size
        refine ⟨⟨ho6.os.trans HB5.out.2.1.os, ho6.tape.trans HB5.out.2.1.tape, ho6.output.trans HB5.out.2.1.output, Nat.le_trans HB5.out.2.1.size ho6.size, fun x hx => by rw [ho6.block x (Nat.lt_of_lt_of_le hx HB5.out.2.1.size) (by simp; omega)]; exact HB5.out.2.1.block x hx⟩, ho6.size, HVE5.out.keep ho6.size (fun x hx => ho6.block x (HBT.out.1 _ hx).2 (by have := (HBT.out.1 _ hx).1; simp; omega)), ?_⟩
        refine Two.keep (wr := w5) (Two.wide (HTW.out.call HB5.out.2.2) (fun b hb => (HBT.out.1 _ hb).2) (fun b hb => ⟨fun q => ?_, fun q => by cases q⟩)) ho6.size (fun b hb hm => ho6.block b hb ?_)
        · have := (own_base HTW.out.r1 q).2
          have := (HBT.out.1 _ hb).1
          omega
        · rcases hm with hm | hm | hm
          · rcases List.mem_append.1 hm with hm | hm
            · have := HTW.out.dl b hm; simp; omega
            · have := (HBT.out.1 _ hm).1; simp; omega
          · have := (own_base HTW.out.r1 hm).2; simp; omega
          · cases hm
      have HFIN : Hid (∀ v' w8, w8.ownsRow w.heap.size 32 6 v' (k + 1) (xs ++ [.int .i64 ta, .int .i64 tp, .int .i64 va, .int .i64 vb, .string vc, .slice vd ve vf]) → (w6.alloc (.cells #[.int .i64 ta, .int .i64 tp, .int .i64 va, .int .i64 vb, .string vc, .slice vd ve vf] 32)).grownBy w8 (Value.slice ua k uc).ownBlock → (v'.ownBlock = (Value.slice ua k uc).ownBlock ∨ v'.ownBlock = some (w6.alloc (.cells #[.int .i64 ta, .int .i64 tp, .int .i64 va, .int .i64 vb, .string vc, .slice vd ve vf] 32)).heap.size) → Two eltS w.heap.size (D ++ bt) w8 v' (.slice none 0 0) (l.take (k + 1)) [] (xs ++ [.int .i64 ta, .int .i64 tp, .int .i64 va, .int .i64 vb, .string vc, .slice vd ve vf]) [] (bs ++ bt) [] ∧ Below w.heap.size w w8) := fun v' w8 h1 h2 h3 => by
        have hal : Below w6.heap.size w6 (w6.alloc (.cells #[.int .i64 ta, .int .i64 tp, .int .i64 va, .int .i64 vb, .string vc, .slice vd ve vf] 32)) := (Below.refl _ _).alloc (Nat.le_refl _) _
        have hB7 := H6.out.1.trans (hal.mono H6.out.1.size)
        have hT7 := H6.out.2.2.2.call hal
        rw [HTK.out]
        refine ⟨hT7.more (H6.out.2.2.1.keep hal.size (fun x hx => hal.block x (Nat.lt_of_lt_of_le (HBT.out.1 _ hx).2 H6.out.2.1))) (fun b hb => List.mem_append_right _ hb) ?_ (by rw [HLEN.out]; exact h1) h2 h3, ?_⟩
        · rw [List.append_nil]
          refine List.nodup_append.2 ⟨HBT.out.2, by have := HTW.out.nd; rw [List.append_nil] at this; exact this, fun x hx y hy q => ?_⟩
          have h9 := HTW.out.dl y (HTW.out.i1 y hy)
          have h8 := (HBT.out.1 _ hx).1
          have h7 := HBA.out.2.2
          omega
        · exact ⟨h2.os.trans hB7.os, h2.tape.trans hB7.tape, h2.output.trans hB7.output, Nat.le_trans hB7.size h2.size, fun b hb => (h2.block b (Nat.lt_of_lt_of_le hb hB7.size) (fun q => by have := (own_base hT7.r1 q.symm).1; omega)).trans (hB7.block b hb)⟩
      have HO7 : Hid ((w6.alloc (.cells #[.int .i64 ta, .int .i64 tp, .int .i64 va, .int .i64 vb, .string vc, .slice vd ve vf] 32)).ownsRow w.heap.size 32 6 (.slice ua k uc) k xs ∧ w.heap.size ≤ (w6.alloc (.cells #[.int .i64 ta, .int .i64 tp, .int .i64 va, .int .i64 vb, .string vc, .slice vd ve vf] 32)).heap.size) := by
        refine ⟨?_, by have := H6.out.1.size; rw [World.size_alloc]; omega⟩
        have h := H6.out.2.2.2.r1
        rw [HLEN.out] at h
        exact h.alloc _
      have HDN : Hid (∀ b ∈ D ++ bt, w.heap.size ≤ b) := fun b hb => by
        rcases List.mem_append.1 hb with hb | hb
        · exact HDD.out b hb
        · have := (HBT.out.1 _ hb).1
          have := HBA.out.2.1.size
          omega
      have HNW : Hid (∀ j u, ([.int .i64 ta, .int .i64 tp, .int .i64 va, .int .i64 vb, .string vc, .slice vd ve vf] : List Value)[j]? = some u → (w6.alloc (.cells #[.int .i64 ta, .int .i64 tp, .int .i64 va, .int .i64 vb, .string vc, .slice vd ve vf] 32)).cell? ((⟨w5.heap.size, 0, none⟩ : Addr).add j) = some u) := by
        have hz6 : w6.heap.size = w5.heap.size := by rw [hw6]; simp only [World.size_setCell]
        rw [← hz6]; exact sixCells
      clear HW6 H6
      subst hw6
      clear hb5 hr5 hbn hbl ho6 d0 d1 d2 d3 d4 d5
      have C3 : Hid (k + 1 ≤ maxLen) := by show _ ≤ _; unfold maxLen; omega
      have C4 : Hid ((k + 1) * 72 ≤ 140737488355328) := by show _ ≤ _; omega
      go_wp2_with (at_builtin; refine wpList_append_own_at _ rfl _ _ 24 rfl w.heap.size 32 i0 (.agg #[.int .i64 0, .int .i64 0, .int .i64 0, .int .i64 0, .string ⟨#[]⟩, .slice none 0 0]) 6 72 undTimerS HI.out.1 HI.out.2.1 HI.out.2.2.1 HI.out.2.2.2 rfl (by decide) (.slice ua k uc) k xs rfl HO7.out.1 ⟨w5.heap.size, 0, none⟩ 1 1 [.int .i64 ta, .int .i64 tp, .int .i64 va, .int .i64 vb, .string vc, .slice vd ve vf] rfl rfl HNW.out sixOne C3.out C4.out HO7.out.2 ?_; intro v8 w8 hown8 hgr8 hnn8 hat8; have HG8 := hid (HFIN.out v8 w8 hown8 hgr8 hat8); clear hown8 hgr8 hnn8 hat8)
      go_roundw
      case rel => exact ⟨k + 1, _, _, _, by omega, by go_num, HG8.out.1, HDN.out, HG8.out.2⟩
      case measure => simp [intOf]; omega
    · have hkl : l.take k = l := List.take_of_length_le (by omega)
      have htw := HTW.out
      rw [hkl] at htw
      have HF : Hid (Two eltS w.heap.size D wr (.slice ua k uc) (.slice none 0 0) l [] xs [] bs []) := htw
      clear htw hkl
      go_wp2_with fail
      go_ret
      exact ⟨_, xs, bs, D, rfl, HF.out, HDD.out, HBE.out⟩
end Go.Proofs.Ytimnnedmpmlmdaa.Tv
