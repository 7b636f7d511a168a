/-
  A term that is drawn and perhaps bent: what l1Bend and l1Any answer stands in blocks of its own.
  (Ahead of it, in this text: A copy of a term: what l1Copy answers stands in blocks of its own. The specification's copy of a term once more: its own list is a row that may be appended to.)
-/
import Derived.Test.YtabgfaafpgholaaW31
import Derived.Test.YtabgfaafpgholaaW8
import Derived.Deep.RegionLaw
import Derived.Test.YtabgfaafpgholaaW15
namespace Go.Proofs.Ytabgfaafpgholaa
open Go.RowKit
set_option linter.unusedVariables false

theorem OwV.low {w : World} {lo lo' : Nat} {t : Tm} {v : Value} (h : OwV w lo t v) (hl : lo' ≤ lo) : OwV w lo' t v := by
  obtain ⟨bs, h1, h2, h3⟩ := h
  exact ⟨bs, h1, h2, fun b hb => Nat.le_trans hl (h3 b hb)⟩
theorem OwV.form {w : World} {lo : Nat} {t : Tm} {v : Value} (h : OwV w lo t v) : ∃ a b c d e f, v = .agg #[.int .i64 a, .int .i64 b, .string c, .slice d e f] := by
  obtain ⟨bs, h1, _⟩ := h
  exact h1.form
theorem OwV.below {w w' : World} {lo : Nat} {t : Tm} {v : Value} (h : OwV w lo t v) (hb : Below w.heap.size w w') : OwV w' lo t v := by
  obtain ⟨bs, h1, h2, h3⟩ := h
  exact ⟨bs, h1.below hb, h2, h3⟩
structure Gzo (w wr : World) (tb : Nat) (K N : Int) (s : ByteArray) (l : List Tm) (u : Value) (xs : List Value) (bs : List Nat) : Prop where
  be : Below w.heap.size w wr
  up : w.heap.size < tb
  lt : tb < wr.heap.size
  t0 : wr.cell? ⟨tb, 0, none⟩ = some (.int .i64 K)
  t1 : wr.cell? ⟨tb, 1, none⟩ = some (.int .i64 N)
  t2 : wr.cell? ⟨tb, 2, none⟩ = some (.string s)
  t3 : wr.cell? ⟨tb, 3, none⟩ = some u
  tf : ∀ o, wr.frozen? ⟨tb, o, none⟩ = false
  r : ∀ j, j < 4 → ∃ v, wr.cell? ⟨w.heap.size, j, none⟩ = some v
  rf : ∀ o, wr.frozen? ⟨w.heap.size, o, none⟩ = false
  own : wr.ownsRow (tb + 1) 39 4 u l.length xs
  row : VL eltT wr l xs bs
  nd : bs.Nodup
  lo : ∀ b ∈ bs, tb + 1 ≤ b ∧ u.ownBlock ≠ some b
theorem Gzo.call {w wr w1 : World} {tb : Nat} {K N : Int} {s : ByteArray} {l : List Tm} {u : Value} {xs : List Value} {bs : List Nat} (h : Gzo w wr tb K N s l u xs bs) (hd : Below wr.heap.size wr w1) : Gzo w w1 tb K N s l u xs bs := by
  have hg : wr.grownBy w1 none := ⟨hd.os, hd.tape, hd.output, hd.size, fun k hk _ => hd.block k hk⟩
  have hup := h.up
  have hlt := h.lt
  have cc : ∀ b o v, wr.cell? ⟨b, o, none⟩ = some v → w1.cell? ⟨b, o, none⟩ = some v := fun b o v hv => by rw [hd.cell (p := ⟨b, o, none⟩) (World.block_lt_of_cell? wr _ hv)]; exact hv
  exact ⟨h.be.trans (hd.mono h.be.size), h.up, Nat.lt_of_lt_of_le h.lt hd.size, cc _ _ _ h.t0, cc _ _ _ h.t1, cc _ _ _ h.t2, cc _ _ _ h.t3, fun o => by rw [hd.frozen (p := ⟨tb, o, none⟩) h.lt]; exact h.tf o, fun j hj => by obtain ⟨v, hv⟩ := h.r j hj; exact ⟨v, cc _ _ _ hv⟩, fun o => by rw [hd.frozen (p := ⟨w.heap.size, o, none⟩) (by show w.heap.size < _; omega)]; exact h.rf o, h.own.kept hg (by by_cases e : u.ownBlock = none; exact Or.inl e; exact Or.inr e), h.row.keep hd.size (fun x hx => hd.block x (VL.lt h.row x hx)), h.nd, h.lo⟩
theorem Gzo.form {w wr : World} {tb : Nat} {K N : Int} {s : ByteArray} {l : List Tm} {u : Value} {xs : List Value} {bs : List Nat}
    (h : Gzo w wr tb K N s l u xs bs) : ∃ ua uc, u = .slice ua l.length uc := by
  rcases h.own.2 with ⟨rfl, h0⟩ | ⟨g, cap, cur, rfl, _⟩
  · exact ⟨none, 0, by rw [h0]⟩
  · exact ⟨_, _, rfl⟩
theorem Gzo.grown {w w1 w2 : World} {tb : Nat} {K N : Int} {s : ByteArray} {l : List Tm} {u : Value} {xs : List Value} {bs : List Nat}
    (h : Gzo w w1 tb K N s l u xs bs) {o : Obj} (hgrow : (w1.alloc o).grownBy w2 u.ownBlock) : w2.cell? ⟨tb, 3, none⟩ = some u ∧ w2.frozen? ⟨tb, 3, none⟩ = false := by
  have hs1 : (w1.alloc o).heap.size = w1.heap.size + 1 := World.size_alloc _ _
  have hl := h.lt
  have hne : some tb ≠ u.ownBlock := fun e => by have := (h.own.lt tb e.symm).1; omega
  rw [hgrow.cell_far ⟨tb, 3, none⟩ (by rw [hs1]; exact Nat.lt_succ_of_lt hl) hne, hgrow.frozen_far ⟨tb, 3, none⟩ (by rw [hs1]; exact Nat.lt_succ_of_lt hl) hne, World.cell?_alloc_lt (h := hl), World.frozen?_alloc_old (h := by show tb ≠ _; omega)]
  exact ⟨h.t3, h.tf 3⟩
/-- One more is drawn, laid down in a block, appended, and the variable turned. -/
theorem Gzo.more {w wr w1 w2 : World} {tb : Nat} {K N : Int} {s : ByteArray} {l : List Tm} {u : Value} {xs : List Value} {bs bt : List Nat}
    (h : Gzo w wr tb K N s l u xs bs) (hd : Below wr.heap.size wr w1) {t : Tm} {a b : Int} {c : ByteArray} {d : Option Addr} {e f : Nat} (hv : OsV w1 bt t (.agg #[.int .i64 a, .int .i64 b, .string c, .slice d e f])) (hbn : bt.Nodup) (hbl : ∀ x ∈ bt, wr.heap.size ≤ x) {o : Obj}
    {g cap' : Nat} (hown : w2.ownsRow (tb + 1) 39 4 (.slice (some ⟨g, 0, none⟩) (l.length + 1) cap') (l.length + 1) (xs ++ [.int .i64 a, .int .i64 b, .string c, .slice d e f])) (hgrow : (w1.alloc o).grownBy w2 u.ownBlock) (hat : u.ownBlock = some g ∨ g = w1.heap.size + 1) (hlt : g < w2.heap.size) :
    Gzo w (w2.setCell ⟨tb, 3, none⟩ (.slice (some ⟨g, 0, none⟩) (l.length + 1) cap')) tb K N s (l ++ [t]) (.slice (some ⟨g, 0, none⟩) (l.length + 1) cap') (xs ++ [.int .i64 a, .int .i64 b, .string c, .slice d e f]) (bs ++ bt) := by
  have h1 := h.call hd
  have hs1 : (w1.alloc o).heap.size = w1.heap.size + 1 := World.size_alloc _ _
  have hun : ∀ k, k < tb + 1 → some k ≠ u.ownBlock := fun k hk e => by have := (h.own.lt k e.symm).1; omega
  have hcell : ∀ p o' v, some p ≠ u.ownBlock → w1.cell? ⟨p, o', none⟩ = some v → w2.cell? ⟨p, o', none⟩ = some v := fun p o' v hp hc => by
    have hpl := World.block_lt_of_cell? w1 _ hc
    rw [hgrow.cell_far ⟨p, o', none⟩ (by rw [hs1]; exact Nat.lt_succ_of_lt hpl) hp, World.cell?_alloc_lt (h := hpl)]; exact hc
  have hfroz : ∀ p o', p < w1.heap.size → some p ≠ u.ownBlock → w2.frozen? ⟨p, o', none⟩ = w1.frozen? ⟨p, o', none⟩ := fun p o' hpl hp => by
    rw [hgrow.frozen_far ⟨p, o', none⟩ (by rw [hs1]; exact Nat.lt_succ_of_lt hpl) hp, World.frozen?_alloc_old (h := by show p ≠ _; omega)]
  have hset : ∀ p o' v, (p ≠ tb ∨ o' ≠ 3) → w2.cell? ⟨p, o', none⟩ = some v → (w2.setCell ⟨tb, 3, none⟩ (.slice (some ⟨g, 0, none⟩) (l.length + 1) cap')).cell? ⟨p, o', none⟩ = some v := fun p o' v hp hc => by
    rw [World.cell?_setCell_other (h := fun e => by simp at e; omega)]; exact hc
  have hgb : tb + 1 ≤ g := (hown.lt g rfl).1
  have hll : (l ++ [t]).length = l.length + 1 := by simp
  have hul : tb < w1.heap.size := h1.lt
  have hup := h.up
  have hrl := h.lt
  have hwl : w.heap.size < w1.heap.size := Nat.lt_trans h.up hul
  have hz1 := hd.size
  have hk : ∀ k, k < w1.heap.size → some k ≠ u.ownBlock → k ≠ tb → (w2.setCell ⟨tb, 3, none⟩ (.slice (some ⟨g, 0, none⟩) (l.length + 1) cap')).heap[k]? = w1.heap[k]? := fun k hkl hku hkt => by
    rw [Below.heap_setCell w2 ⟨tb, 3, none⟩ _ k hkt, hgrow.block k (by rw [hs1]; omega) hku]
    show (w1.heap.push _)[k]? = _
    rw [Array.getElem?_push, if_neg (by omega)]
  have hsz : (w2.setCell ⟨tb, 3, none⟩ (.slice (some ⟨g, 0, none⟩) (l.length + 1) cap')).heap.size = w2.heap.size := World.size_setCell ..
  have hsz2 : w1.heap.size + 1 ≤ w2.heap.size := by rw [← hs1]; exact hgrow.size
  have htb : some tb ≠ u.ownBlock := hun tb (by omega)
  have hrb : some w.heap.size ≠ u.ownBlock := hun _ (by omega)
  have hvl := osV_lt hv
  have hbs : ∀ x ∈ bs, x < wr.heap.size := VL.lt h.row
  have hkb : ∀ x ∈ bs ++ bt, (w2.setCell ⟨tb, 3, none⟩ (.slice (some ⟨g, 0, none⟩) (l.length + 1) cap')).heap[x]? = w1.heap[x]? := fun x hx => by
    rcases List.mem_append.1 hx with hx | hx
    · exact hk x (by have := hbs x hx; omega) (fun e => (h.lo x hx).2 e.symm) (by have := (h.lo x hx).1; omega)
    · exact hk x (hvl x hx) (fun e => by have := (h.own.lt x e.symm).2; have := hbl x hx; omega) (by have := hbl x hx; omega)
  refine ⟨?_, hup, by rw [hsz]; omega, hset _ _ _ (Or.inr (by omega)) (hcell _ _ _ htb h1.t0), hset _ _ _ (Or.inr (by omega)) (hcell _ _ _ htb h1.t1), hset _ _ _ (Or.inr (by omega)) (hcell _ _ _ htb h1.t2), World.cell?_setCell_same w2 _ _ (hcell _ _ _ htb h1.t3), fun o' => ?_, fun j hj => ?_, fun o' => ?_, ?_, ?_, ?_, ?_⟩
  · have t := h1.be
    exact ⟨hgrow.os.trans t.os, hgrow.tape.trans t.tape, hgrow.output.trans t.output, by rw [hsz]; omega, fun k hkl => (hk k (by omega) (hun k (by omega)) (by omega)).trans (t.block k hkl)⟩
  · rw [World.frozen?_setCell, hfroz tb o' hul htb]; exact h1.tf o'
  · obtain ⟨v, hv'⟩ := h1.r j hj
    exact ⟨v, hset _ _ _ (Or.inl (by omega)) (hcell _ _ _ hrb hv')⟩
  · rw [World.frozen?_setCell, hfroz _ o' hwl hrb]; exact h1.rf o'
  · rw [hll]; exact ownsRow_setCell_below hown (by show tb < tb + 1; omega) _
  · exact (VL.snoc (ve_term hv) h1.row).keep (by rw [hsz]; omega) hkb
  · rw [List.nodup_append]
    exact ⟨h.nd, hbn, fun x hx y hy e => by have := hbs x hx; have := hbl y hy; omega⟩
  · intro x hx
    refine ⟨?_, fun e => ?_⟩
    · rcases List.mem_append.1 hx with hx | hx
      · exact (h.lo x hx).1
      · have := hbl x hx; omega
    · simp only [Value.ownBlock, Option.some.injEq] at e
      subst e
      rcases List.mem_append.1 hx with hx | hx
      · rcases hat with hat | hat
        · exact (h.lo _ hx).2 hat
        · have := hbs _ hx; omega
      · rcases hat with hat | hat
        · have := (h.own.lt _ hat).2; have := hbl _ hx; omega
        · have := hvl _ hx; omega
theorem Gzo.done {w wr : World} {tb : Nat} {K N : Int} {s : ByteArray} {l : List Tm} {u : Value} {xs : List Value} {bs : List Nat}
    (h : Gzo w wr tb K N s l u xs bs) (hs : s.size ≤ 1048576) (v0 v1 v2 v3 : Value) :
    OwV ((((wr.setCell ⟨w.heap.size, 0, none⟩ v0).setCell ⟨w.heap.size, 1, none⟩ v1).setCell ⟨w.heap.size, 2, none⟩ v2).setCell ⟨w.heap.size, 3, none⟩ v3) w.heap.size (.mk K N s l) (.agg #[.int .i64 K, .int .i64 N, .string s, u]) ∧
      Below w.heap.size w ((((wr.setCell ⟨w.heap.size, 0, none⟩ v0).setCell ⟨w.heap.size, 1, none⟩ v1).setCell ⟨w.heap.size, 2, none⟩ v2).setCell ⟨w.heap.size, 3, none⟩ v3) := by
  obtain ⟨ao', cap', rfl, hl, hc, bt, hg, hb, hn⟩ := h.row.gl h.own
  have hup := h.up
  have hge : ∀ b ∈ bt, tb + 1 ≤ b := fun b hbm => by
    rcases hb b hbm with h9 | h9
    · exact (h.lo b h9).1
    · exact (h.own.lt b h9).1
  refine ⟨⟨bt, ⟨ao', cap', rfl, hs, hl, hc, ?_⟩, hn h.nd (fun b hbm => (h.lo b hbm).2), fun b hbm => by have := hge b hbm; omega⟩, (((h.be.setCell (Nat.le_refl _) _).setCell (Nat.le_refl _) _).setCell (Nat.le_refl _) _).setCell (Nat.le_refl _) _⟩
  refine OsL.keep _ _ _ (fun x hx _ => ?_) (gl_osL hg)
  have hne : x ≠ w.heap.size := by have := hge x hx; omega
  rw [Below.heap_setCell _ ⟨w.heap.size, 3, none⟩ _ x hne, Below.heap_setCell _ ⟨w.heap.size, 2, none⟩ _ x hne, Below.heap_setCell _ ⟨w.heap.size, 1, none⟩ _ x hne, Below.heap_setCell _ ⟨w.heap.size, 0, none⟩ _ x hne]
theorem bundrewO {W w3 : World} (hb : Below W.drew.heap.size W.drew w3) : Below W.heap.size W w3 := ⟨hb.os, hb.tape, hb.output, hb.size, hb.block⟩
theorem own_lenO {w : World} {B e z : Nat} {v : Value} {n k : Nat} {xs : List Value} (h : w.ownsRow B e z v n xs) (hn : n = k) : w.ownsRow B e z v k xs := by subst hn; exact h
theorem Gzo.begin (w : World) (c : Array Value) (hc : c.size = 4) (K N : Int) (s : ByteArray) :
    Gzo w (((w.alloc (.cells c 39)).alloc (.cells #[.int .i64 K, .int .i64 N, .string s, .slice (some ⟨w.heap.size + 1 + 1, 0, none⟩) 0 0] 39)).alloc (.cells #[] 39)) (w.heap.size + 1) K N s [] (.slice (some ⟨w.heap.size + 1 + 1, 0, none⟩) 0 0) [] [] := by
  have hb := three_new (w := w) (c1 := c) (c2 := #[.int .i64 K, .int .i64 N, .string s, .slice (some ⟨w.heap.size + 1 + 1, 0, none⟩) 0 0]) (c3 := #[]) (t1 := 39) (t2 := 39) (t3 := 39) (Below.refl _ _)
  obtain ⟨hz, q2, q3, f2, f3⟩ := hb
  have e1 : (((w.alloc (.cells c 39)).alloc (.cells #[.int .i64 K, .int .i64 N, .string s, .slice (some ⟨w.heap.size + 1 + 1, 0, none⟩) 0 0] 39)).alloc (.cells #[] 39)).heap[w.heap.size]? = some (.cells c 39 (0, 0)) := by
    show (((w.heap.push _).push _).push _)[w.heap.size]? = _
    rw [Array.getElem?_push, if_neg (by simp; omega), Array.getElem?_push, if_neg (by simp), Array.getElem?_push, if_pos (by simp)]
  have e3 : (((w.alloc (.cells c 39)).alloc (.cells #[.int .i64 K, .int .i64 N, .string s, .slice (some ⟨w.heap.size + 1 + 1, 0, none⟩) 0 0] 39)).alloc (.cells #[] 39)).heap[w.heap.size + 1 + 1]? = some (.cells #[] 39 (0, 0)) := by
    show (((w.heap.push _).push _).push _)[w.heap.size + 1 + 1]? = _
    rw [Array.getElem?_push, if_pos (by simp)]
  refine ⟨(((Below.refl _ _).alloc (Nat.le_refl _) _).alloc (by simp) _).alloc (by simp; omega) _, by omega, by omega, q2 0, q2 1, q2 2, q2 3, f2, fun j hj => ?_, fun o => frozen_of e1, ⟨rfl, Or.inr ⟨w.heap.size + 1 + 1, 0, #[], rfl, Nat.le_refl _, e3, Nat.le_refl _, Nat.zero_le _, rfl, rfl⟩⟩, ⟨rfl, rfl⟩, List.nodup_nil, fun b hb => by simp at hb⟩
  rw [cell_of e1]
  exact ⟨c[j], Array.getElem?_eq_getElem (by omega)⟩

def CzO (t : Tm) : Prop := ∀ (w : World) (v : Value), RepV 0 w t v → StS t →
  Calls Try.prog 104 #[v] w fun e w' => ∃ v', e = .returned v' ∧ OwV w' w.heap.size t v' ∧ Below w.heap.size w w'

set_option maxRecDepth 100000 in
set_option maxHeartbeats 4000000 in
theorem czO_of (K N : Int) (s : ByteArray) (m : List Tm) (ih : ∀ t, t ∈ m → CzO t) : CzO (.mk K N s m) := by
  intro w v hv hw
  obtain ⟨so, scap, rfl, hss, hl, hcap, hr⟩ := hv
  rw [StS] at hw
  have IH : Hid (∀ t, t ∈ m → CzO t) := ih
  have HR : Hid (RepL 0 w m so) := hr
  have HW : Hid (∀ t, t ∈ m → StS t) := hw.2.2
  have hm : m.length ≤ 1048576 := hw.2.1
  have HM : Hid (s.size ≤ 1048576) := hw.1
  clear ih hr hw hss
  unfold maxLen at hcap
  go_enter Try.func104, Try.ntmps104
  go_wp2_with fail
  obtain ⟨W0, hW⟩ : ∃ W0, W0 = w.alloc (.cells #[.int .i64 K, .int .i64 N, .string s, .slice so m.length scap] 39) := ⟨_, rfl⟩
  have hs0 : W0.heap.size = w.heap.size + 1 := by rw [hW, World.size_alloc]
  have hg0 := Gzo.begin W0 #[.int .i64 0, .int .i64 0, .string ⟨#[]⟩, .slice none 0 0] rfl K N s
  rw [hs0] at hg0
  have HDW : Hid (Below w.heap.size w W0) := by rw [hW]; exact (Below.refl _ _).alloc (Nat.le_refl _) _
  have HQ0 : Hid (W0.cell? ⟨w.heap.size, 3, none⟩ = some (.slice so m.length scap)) := by show _ = _; rw [hW, World.cell?_alloc_new]; rfl
  rw [← hW]
  have HG0 : Hid (Gzo W0 _ (w.heap.size + 1 + 1) K N s [] _ [] []) := hg0
  have HS0 : Hid (W0.heap.size = w.heap.size + 1) := hs0
  clear hg0 hs0 hW
  obtain ⟨i0, hi, hzz⟩ := Option.map_eq_some_iff.1 info26
  simp only [Prod.mk.injEq] at hzz
  obtain ⟨hzz0, hzz1, hzz2⟩ := hzz
  go_loopw [4] (fun i w' => ∃ (k : Nat) (u : Value) (xs : List Value) (bs : List Nat), i = .int .i64 k ∧ k ≤ m.length ∧ Gzo W0 w' (w.heap.size + 1 + 1) K N s (m.take k) u xs bs) (fun i _ => m.length - (intOf i).toNat)
  case atStart => exact ⟨0, _, _, _, rfl, Nat.zero_le _, HG0.out⟩
  case round =>
    obtain ⟨k, u, xs, bs, rfl, hk, hg⟩ := hrel
    obtain ⟨ua, uc, rfl⟩ := hg.form
    have hlen : (m.take k).length = k := by rw [List.length_take]; omega
    rw [hlen] at hg
    have HG : Hid (Gzo W0 wr (w.heap.size + 1 + 1) K N s (m.take k) (.slice ua k uc) xs bs) := hg
    have t0 := hg.t0
    have t1 := hg.t1
    have t2 := hg.t2
    have t3 := hg.t3
    have tf := hg.tf
    have htl := hg.lt
    have hqr : wr.cell? ⟨w.heap.size, 3, none⟩ = some (.slice so m.length scap) := by
      have hz := HS0.out
      rw [hg.be.cell (p := ⟨w.heap.size, 3, none⟩) (by show w.heap.size < _; omega)]; exact HQ0.out
    have hrr := hg.r
    have hrf := hg.rf
    rw [HS0.out] at hrr hrf
    obtain ⟨r0, hr0⟩ := hrr 0 (by decide)
    obtain ⟨r1, hr1⟩ := hrr 1 (by decide)
    obtain ⟨r2, hr2⟩ := hrr 2 (by decide)
    obtain ⟨r3, hr3⟩ := hrr 3 (by decide)
    have HDR : Hid (Below w.heap.size w wr) := by
      have hz := HS0.out
      exact HDW.out.trans (hg.be.mono (by omega))
    clear hg hrr
    by_cases hlt : k < m.length
    · have HRr : Hid (RepL 0 wr m so) := (Keeps.below HDR.out 0).repL _ _ HR.out
      obtain ⟨b, off, rfl, _, ht⟩ := RepL.at m so HRr.out k hlt
      obtain ⟨tk, tn, ts, tao, tlen, tcap, c0, c1, c2, c3, hv⟩ := ht.cells
      have HV : Hid (RepV 0 wr m[k] (.agg #[.int .i64 tk, .int .i64 tn, .string ts, .slice tao tlen tcap])) := hv
      have HT : Hid (CzO m[k]) := IH.out _ (List.getElem_mem hlt)
      clear hv ht
      go_wp2_with fail
      go_region_law (first
        | (refine step_append_lies _ rfl (.tmp 16) (.tmp 23) 37 rfl (w.heap.size + 1 + 1 + 1) 39 i0 (.agg #[.int .i64 0, .int .i64 0, .string ⟨#[]⟩, .slice none 0 0]) 4 56 underlying24 hi hzz0 hzz1 hzz2 rfl (by decide) (.slice ua k uc) k xs (by simp [Act.eval]) (HO1.out.alloc _) ⟨w5.heap.size, 0, none⟩ 1 1 [.int .i64 va, .int .i64 vb, .string vc, .slice vd ve vf] (by simp [Act.eval]) rfl four_news (by intro u' hu'; simp at hu'; rcases hu' with rfl | rfl | rfl | rfl <;> rfl) (by decide) (by unfold maxLen; omega) (by omega) (by simp; omega) _ rfl ?_; intro g cap5 w6 hown6 hgrow6 hat6 hlt6; obtain ⟨t36, tf6⟩ := HG1.out.grown hgrow6)
        | (go_simp; go_wp2_with (go_at_call 104; refine (HT.out _ _ ?_ ?_).mono ?_; exact HV.out.drew; exact HW.out _ (List.getElem_mem hlt); rintro e w5 ⟨vv, rfl, ⟨bt, hv5, hn5, hl5⟩, hd5⟩; obtain ⟨va, vb, vc, vd, ve, vf, rfl⟩ := hv5.form; have hd5' : Below wr.heap.size wr w5 := bundrewO hd5; have HG1 : Hid (Gzo W0 w5 (w.heap.size + 1 + 1) K N s (m.take k) (.slice ua k uc) xs bs) := HG.out.call hd5'; have HO1 : Hid (w5.ownsRow (w.heap.size + 1 + 1 + 1) 39 4 (.slice ua k uc) k xs) := own_lenO HG1.out.own hlen; have htl5 := HG1.out.lt; have t35 := HG1.out.t3; have tf5 := HG1.out.tf)))
      all_goals
        have HG2 := HG.out.more (g := g) (cap' := cap5) hd5' hv5 hn5 hl5 (by rw [hlen]; exact hown6) hgrow6 (by rw [World.size_alloc] at hat6; exact hat6) hlt6
        rw [hlen, ← List.take_succ_eq_append_getElem hlt] at HG2
        clear t36 tf6 hown6 hgrow6 hat6 hlt6 hv5 hn5 hl5 hd5 hd5' HG1 HO1 htl5 t35 tf5 c0 c1 c2 c3 hlen
        have HG3 : Hid (Gzo W0 _ (w.heap.size + 1 + 1) K N s _ _ _ _) := HG2
        go_wp2_with fail
        go_roundw
        case rel =>
          refine ⟨k + 1, _, _, _, ?_, by omega, HG3.out⟩
          go_num
        case measure => simp [intOf]; omega
    · go_wp2_with fail
      have hkm : m.take k = m := List.take_of_length_le (by omega)
      have hd := HG.out.done HM.out (.int .i64 K) (.int .i64 N) (.string s) (.slice ua k uc)
      rw [HS0.out, hkm] at hd
      refine bodyPost_ret (v := .agg #[.int .i64 K, .int .i64 N, .string s, .slice ua k uc]) (by simp [results, Try.results104, go_sem, hr0, hr1, hr2, hr3]) rfl ⟨_, rfl, hd.1.low (by omega), HDW.out.trans (hd.2.mono (by omega))⟩
theorem czO_all : ∀ t, CzO t := Tm.ind fun k n s l ih => czO_of k n s l ih
end Go.Proofs.Ytabgfaafpgholaa
namespace Go.Proofs.Ytabgfaafpgholaa
open Go.RowKit
set_option linter.unusedVariables false

/-- The terms l stand in a row of one's own that begins at or behind lo, what they lead to in blocks of its own. -/
def TopO (w : World) (lo : Nat) (l : List Tm) (u : Value) : Prop := ∃ xs bs, w.ownsRow lo 39 4 u l.length xs ∧ VL eltT w l xs bs ∧ bs.Nodup ∧ ∀ b ∈ bs, lo ≤ b ∧ u.ownBlock ≠ some b
theorem TopO.low {w : World} {lo lo' : Nat} {l : List Tm} {u : Value} (h : TopO w lo l u) (hl : lo' ≤ lo) : TopO w lo' l u := by
  obtain ⟨xs, bs, h1, h2, h3, h4⟩ := h
  refine ⟨xs, bs, ⟨h1.1, ?_⟩, h2, h3, fun b hb => ⟨Nat.le_trans hl (h4 b hb).1, (h4 b hb).2⟩⟩
  rcases h1.2 with h | ⟨g, c, cur, a1, a2, a3⟩
  · exact .inl h
  · exact .inr ⟨g, c, cur, a1, Nat.le_trans hl a2, a3⟩
theorem TopO.keep {w w' : World} {lo : Nat} {l : List Tm} {u : Value} (h : TopO w lo l u) (hz : w.heap.size ≤ w'.heap.size) (hk : ∀ b, lo ≤ b → b < w.heap.size → w'.heap[b]? = w.heap[b]?) : TopO w' lo l u := by
  obtain ⟨xs, bs, h1, h2, h3, h4⟩ := h
  refine ⟨xs, bs, ⟨h1.1, ?_⟩, h2.keep hz (fun b hb => hk b (h4 b hb).1 (VL.lt h2 b hb)), h3, h4⟩
  rcases h1.2 with h | ⟨g, c, cur, a1, a2, a3, a4⟩
  · exact .inl h
  · exact .inr ⟨g, c, cur, a1, a2, (hk g a2 (Array.getElem?_eq_some_iff.1 a3).1).trans a3, a4⟩
theorem TopO.form {w : World} {lo : Nat} {l : List Tm} {u : Value} (h : TopO w lo l u) : ∃ ua uc, u = .slice ua l.length uc := by
  obtain ⟨xs, bs, h1, _⟩ := h
  rcases h1.2 with ⟨rfl, h0⟩ | ⟨g, cap, cur, rfl, _⟩
  · exact ⟨none, 0, by rw [h0]⟩
  · exact ⟨_, _, rfl⟩
/-- So it is a term in blocks of its own. -/
theorem TopO.own {w : World} {lo : Nat} {l : List Tm} {u : Value} {k n : Int} {s : ByteArray} (h : TopO w lo l u) (hs : s.size ≤ 1048576) : OwV w lo (.mk k n s l) (.agg #[.int .i64 k, .int .i64 n, .string s, u]) := by
  obtain ⟨xs, bs, h1, h2, h3, h4⟩ := h
  obtain ⟨ao', cap', rfl, hl, hc, bt, hg, hb, hn⟩ := h2.gl h1
  refine ⟨bt, ⟨ao', cap', rfl, hs, hl, hc, gl_osL hg⟩, hn h3 (fun b hbm => (h4 b hbm).2), fun b hbm => ?_⟩
  rcases hb b hbm with h9 | h9
  · exact (h4 b h9).1
  · exact (h1.lt b h9).1
theorem Gzo.top {w wr : World} {tb : Nat} {K N : Int} {s : ByteArray} {l : List Tm} {u : Value} {xs : List Value} {bs : List Nat}
    (h : Gzo w wr tb K N s l u xs bs) (v0 v1 v2 v3 : Value) :
    TopO ((((wr.setCell ⟨w.heap.size, 0, none⟩ v0).setCell ⟨w.heap.size, 1, none⟩ v1).setCell ⟨w.heap.size, 2, none⟩ v2).setCell ⟨w.heap.size, 3, none⟩ v3) (tb + 1) l u := by
  have hup := h.up
  have h0 : TopO wr (tb + 1) l u := ⟨xs, bs, h.own, h.row, h.nd, h.lo⟩
  refine h0.keep (by simp only [World.size_setCell]; exact Nat.le_refl _) (fun b hb _ => ?_)
  have hne : b ≠ w.heap.size := by omega
  rw [Below.heap_setCell _ ⟨w.heap.size, 3, none⟩ _ b hne, Below.heap_setCell _ ⟨w.heap.size, 2, none⟩ _ b hne, Below.heap_setCell _ ⟨w.heap.size, 1, none⟩ _ b hne, Below.heap_setCell _ ⟨w.heap.size, 0, none⟩ _ b hne]
theorem ret_len {k m : Nat} {K N : Int} {s : ByteArray} {ua : Option Addr} {uc : Nat} (h : k = m) : Ending.returned (Value.agg #[.int .i64 K, .int .i64 N, .string s, .slice ua k uc]) = .returned (.agg #[.int .i64 K, .int .i64 N, .string s, .slice ua m uc]) := by rw [h]
def CzP (t : Tm) : Prop := ∀ (w : World) (v : Value), RepV 0 w t v → StS t → ∀ K N s m, t = .mk K N s m →
  Calls Try.prog 104 #[v] w fun e w' => ∃ ua uc, e = .returned (.agg #[.int .i64 K, .int .i64 N, .string s, .slice ua m.length uc]) ∧ TopO w' w.heap.size m (.slice ua m.length uc) ∧ Below w.heap.size w w'

set_option maxRecDepth 100000 in
set_option maxHeartbeats 4000000 in
theorem czP_of (K N : Int) (s : ByteArray) (m : List Tm) (ih : ∀ t, t ∈ m → CzO t) : CzP (.mk K N s m) := by
  intro w v hv hw K0 N0 s0 m0 hE0
  cases hE0
  obtain ⟨so, scap, rfl, hss, hl, hcap, hr⟩ := hv
  rw [StS] at hw
  have IH : Hid (∀ t, t ∈ m → CzO t) := ih
  have HR : Hid (RepL 0 w m so) := hr
  have HW : Hid (∀ t, t ∈ m → StS t) := hw.2.2
  have hm : m.length ≤ 1048576 := hw.2.1
  have HM : Hid (s.size ≤ 1048576) := hw.1
  clear ih hr hw hss
  unfold maxLen at hcap
  go_enter Try.func104, Try.ntmps104
  go_wp2_with fail
  obtain ⟨W0, hW⟩ : ∃ W0, W0 = w.alloc (.cells #[.int .i64 K, .int .i64 N, .string s, .slice so m.length scap] 39) := ⟨_, rfl⟩
  have hs0 : W0.heap.size = w.heap.size + 1 := by rw [hW, World.size_alloc]
  have hg0 := Gzo.begin W0 #[.int .i64 0, .int .i64 0, .string ⟨#[]⟩, .slice none 0 0] rfl K N s
  rw [hs0] at hg0
  have HDW : Hid (Below w.heap.size w W0) := by rw [hW]; exact (Below.refl _ _).alloc (Nat.le_refl _) _
  have HQ0 : Hid (W0.cell? ⟨w.heap.size, 3, none⟩ = some (.slice so m.length scap)) := by show _ = _; rw [hW, World.cell?_alloc_new]; rfl
  rw [← hW]
  have HG0 : Hid (Gzo W0 _ (w.heap.size + 1 + 1) K N s [] _ [] []) := hg0
  have HS0 : Hid (W0.heap.size = w.heap.size + 1) := hs0
  clear hg0 hs0 hW
  obtain ⟨i0, hi, hzz⟩ := Option.map_eq_some_iff.1 info26
  simp only [Prod.mk.injEq] at hzz
  obtain ⟨hzz0, hzz1, hzz2⟩ := hzz
  go_loopw [4] (fun i w' => ∃ (k : Nat) (u : Value) (xs : List Value) (bs : List Nat), i = .int .i64 k ∧ k ≤ m.length ∧ Gzo W0 w' (w.heap.size + 1 + 1) K N s (m.take k) u xs bs) (fun i _ => m.length - (intOf i).toNat)
  case atStart => exact ⟨0, _, _, _, rfl, Nat.zero_le _, HG0.out⟩
  case round =>
    obtain ⟨k, u, xs, bs, rfl, hk, hg⟩ := hrel
    obtain ⟨ua, uc, rfl⟩ := hg.form
    have hlen : (m.take k).length = k := by rw [List.length_take]; omega
    rw [hlen] at hg
    have HG : Hid (Gzo W0 wr (w.heap.size + 1 + 1) K N s (m.take k) (.slice ua k uc) xs bs) := hg
    have t0 := hg.t0
    have t1 := hg.t1
    have t2 := hg.t2
    have t3 := hg.t3
    have tf := hg.tf
    have htl := hg.lt
    have hqr : wr.cell? ⟨w.heap.size, 3, none⟩ = some (.slice so m.length scap) := by
      have hz := HS0.out
      rw [hg.be.cell (p := ⟨w.heap.size, 3, none⟩) (by show w.heap.size < _; omega)]; exact HQ0.out
    have hrr := hg.r
    have hrf := hg.rf
    rw [HS0.out] at hrr hrf
    obtain ⟨r0, hr0⟩ := hrr 0 (by decide)
    obtain ⟨r1, hr1⟩ := hrr 1 (by decide)
    obtain ⟨r2, hr2⟩ := hrr 2 (by decide)
    obtain ⟨r3, hr3⟩ := hrr 3 (by decide)
    have HDR : Hid (Below w.heap.size w wr) := by
      have hz := HS0.out
      exact HDW.out.trans (hg.be.mono (by omega))
    clear hg hrr
    by_cases hlt : k < m.length
    · have HRr : Hid (RepL 0 wr m so) := (Keeps.below HDR.out 0).repL _ _ HR.out
      obtain ⟨b, off, rfl, _, ht⟩ := RepL.at m so HRr.out k hlt
      obtain ⟨tk, tn, ts, tao, tlen, tcap, c0, c1, c2, c3, hv⟩ := ht.cells
      have HV : Hid (RepV 0 wr m[k] (.agg #[.int .i64 tk, .int .i64 tn, .string ts, .slice tao tlen tcap])) := hv
      have HT : Hid (CzO m[k]) := IH.out _ (List.getElem_mem hlt)
      clear hv ht
      go_wp2_with fail
      go_region_law (first
        | (refine step_append_lies _ rfl (.tmp 16) (.tmp 23) 37 rfl (w.heap.size + 1 + 1 + 1) 39 i0 (.agg #[.int .i64 0, .int .i64 0, .string ⟨#[]⟩, .slice none 0 0]) 4 56 underlying24 hi hzz0 hzz1 hzz2 rfl (by decide) (.slice ua k uc) k xs (by simp [Act.eval]) (HO1.out.alloc _) ⟨w5.heap.size, 0, none⟩ 1 1 [.int .i64 va, .int .i64 vb, .string vc, .slice vd ve vf] (by simp [Act.eval]) rfl four_news (by intro u' hu'; simp at hu'; rcases hu' with rfl | rfl | rfl | rfl <;> rfl) (by decide) (by unfold maxLen; omega) (by omega) (by simp; omega) _ rfl ?_; intro g cap5 w6 hown6 hgrow6 hat6 hlt6; obtain ⟨t36, tf6⟩ := HG1.out.grown hgrow6)
        | (go_simp; go_wp2_with (go_at_call 104; refine (HT.out _ _ ?_ ?_).mono ?_; exact HV.out.drew; exact HW.out _ (List.getElem_mem hlt); rintro e w5 ⟨vv, rfl, ⟨bt, hv5, hn5, hl5⟩, hd5⟩; obtain ⟨va, vb, vc, vd, ve, vf, rfl⟩ := hv5.form; have hd5' : Below wr.heap.size wr w5 := bundrewO hd5; have HG1 : Hid (Gzo W0 w5 (w.heap.size + 1 + 1) K N s (m.take k) (.slice ua k uc) xs bs) := HG.out.call hd5'; have HO1 : Hid (w5.ownsRow (w.heap.size + 1 + 1 + 1) 39 4 (.slice ua k uc) k xs) := own_lenO HG1.out.own hlen; have htl5 := HG1.out.lt; have t35 := HG1.out.t3; have tf5 := HG1.out.tf)))
      all_goals
        have HG2 := HG.out.more (g := g) (cap' := cap5) hd5' hv5 hn5 hl5 (by rw [hlen]; exact hown6) hgrow6 (by rw [World.size_alloc] at hat6; exact hat6) hlt6
        rw [hlen, ← List.take_succ_eq_append_getElem hlt] at HG2
        clear t36 tf6 hown6 hgrow6 hat6 hlt6 hv5 hn5 hl5 hd5 hd5' HG1 HO1 htl5 t35 tf5 c0 c1 c2 c3 hlen
        have HG3 : Hid (Gzo W0 _ (w.heap.size + 1 + 1) K N s _ _ _ _) := HG2
        go_wp2_with fail
        go_roundw
        case rel =>
          refine ⟨k + 1, _, _, _, ?_, by omega, HG3.out⟩
          go_num
        case measure => simp [intOf]; omega
    · go_wp2_with fail
      have hkm : m.take k = m := List.take_of_length_le (by omega)
      have hd := HG.out.done HM.out (.int .i64 K) (.int .i64 N) (.string s) (.slice ua k uc)
      rw [HS0.out, hkm] at hd
      have hp := HG.out.top (.int .i64 K) (.int .i64 N) (.string s) (.slice ua k uc)
      rw [HS0.out, hkm] at hp
      have hkl : k = m.length := by omega
      have hu : (Value.slice ua m.length uc) = .slice ua k uc := by rw [hkl]
      refine bodyPost_ret (v := .agg #[.int .i64 K, .int .i64 N, .string s, .slice ua k uc]) (by simp [results, Try.results104, go_sem, hr0, hr1, hr2, hr3]) rfl ⟨ua, uc, ret_len hkl, ?_, HDW.out.trans (hd.2.mono (by omega))⟩
      rw [hu]
      refine hp.low ?_
      omega
end Go.Proofs.Ytabgfaafpgholaa
namespace Go.Proofs.Ytabgfaafpgholaa
open Go.RowKit
set_option linter.unusedVariables false

theorem hidB {p : Prop} (h : p) : Hid p := h
theorem TopO.set {w : World} {lo b o : Nat} {l : List Tm} {u v : Value} (h : TopO w lo l u) (hb : b < lo) : TopO (w.setCell ⟨b, o, none⟩ v) lo l u :=
  h.keep (by rw [World.size_setCell]; exact Nat.le_refl _) (fun x hx _ => Below.heap_setCell w ⟨b, o, none⟩ v x (by show x ≠ b; omega))
theorem TopO.nil {w : World} {lo : Nat} : TopO w lo [] (.slice none 0 0) := ⟨[], [], ⟨rfl, .inl ⟨rfl, rfl⟩⟩, ⟨rfl, rfl⟩, List.nodup_nil, fun b hb => by cases hb⟩
theorem ve_leaf {w : World} (k n : Int) (s : ByteArray) (hs : s.size ≤ 1048576) : VE eltT w (.mk k n s []) [.int .i64 k, .int .i64 n, .string s, .slice none 0 0] [] :=
  ve_term ⟨none, 0, rfl, hs, Nat.le_refl _, Nat.zero_le _, by rw [OsL]⟩
theorem TopO.more {w1 w2 : World} {lo : Nat} {m : List Tm} {u v' : Value} {xs : List Value} {bs : List Nat} {o : Obj} {k n : Int} {s : ByteArray} (hs : s.size ≤ 1048576)
    (h1 : w1.ownsRow lo 39 4 u m.length xs) (h2 : VL eltT w1 m xs bs) (h3 : bs.Nodup) (h4 : ∀ b ∈ bs, lo ≤ b ∧ u.ownBlock ≠ some b)
    (hown : w2.ownsRow lo 39 4 v' (m.length + 1) (xs ++ [.int .i64 k, .int .i64 n, .string s, .slice none 0 0])) (hgr : (w1.alloc o).grownBy w2 u.ownBlock) (hat : v'.ownBlock = u.ownBlock ∨ v'.ownBlock = some (w1.alloc o).heap.size) : TopO w2 lo (m ++ [.mk k n s []]) v' := by
  have hs1 : (w1.alloc o).heap.size = w1.heap.size + 1 := World.size_alloc _ _
  have hk : ∀ b, b < w1.heap.size → u.ownBlock ≠ some b → w2.heap[b]? = w1.heap[b]? := fun b hb hu => by
    rw [hgr.block b (by rw [hs1]; omega) (fun q => hu q.symm)]
    show (w1.heap.push o)[b]? = _
    rw [Array.getElem?_push, if_neg (by omega)]
  refine ⟨_, bs ++ [], by rw [List.length_append]; exact hown, (VL.snoc (ve_leaf k n s hs) h2).keep (by have := hgr.size; omega) (fun b hb => ?_), by rw [List.append_nil]; exact h3, fun b hb => ?_⟩
  · rw [List.append_nil] at hb
    exact hk b (VL.lt h2 b hb) (h4 b hb).2
  · rw [List.append_nil] at hb
    refine ⟨(h4 b hb).1, fun q => ?_⟩
    rcases hat with ha | ha
    · exact (h4 b hb).2 (by rw [← ha]; exact q)
    · rw [ha] at q
      injection q with q
      have := VL.lt h2 b hb
      omega
/-- A term in blocks of its own is the one element of a new row. -/
theorem TopO.one {w : World} {lo : Nat} {t : Tm} {a b : Int} {c : ByteArray} {d : Option Addr} {e f : Nat} (h : OwV w lo t (.agg #[.int .i64 a, .int .i64 b, .string c, .slice d e f])) (hlo : lo ≤ w.heap.size) :
    TopO (w.alloc (.cells #[.int .i64 a, .int .i64 b, .string c, .slice d e f] 39)) lo [t] (.slice (some ⟨w.heap.size, 0, none⟩) 1 1) := by
  obtain ⟨bs, h1, h2, h3⟩ := h
  have hb : Below w.heap.size w (w.alloc (.cells #[.int .i64 a, .int .i64 b, .string c, .slice d e f] 39)) := (Below.refl _ _).alloc (Nat.le_refl _) _
  refine ⟨[.int .i64 a, .int .i64 b, .string c, .slice d e f], bs, ⟨rfl, .inr ⟨w.heap.size, 1, #[.int .i64 a, .int .i64 b, .string c, .slice d e f], rfl, hlo, ?_, Nat.le_refl _, (by unfold maxLen; omega), rfl, rfl⟩⟩, ?_, h2, fun x hx => ⟨h3 x hx, fun q => ?_⟩⟩
  · show (w.heap.push _)[w.heap.size]? = _
    simp
  · refine ⟨_, [], bs, [], by simp, by simp, ve_term (h1.below hb), rfl, rfl⟩
  · have q1 : some w.heap.size = some x := q
    injection q1 with q1
    have := osV_lt h1 x hx
    omega

/-- The term's own box stands behind w, and the result's; what was drawn besides. -/
structure B0 (cb : Nat) (ao : Option Addr) (len cap : Nat) (zs : List Int) (w wr : World) : Prop where
  drawn : Drawn cb ao len cap zs w wr
  old : cb < w.heap.size
  sz : w.heap.size + 2 ≤ wr.heap.size
  a : ∀ j, j < 4 → ∃ v, wr.cell? ⟨w.heap.size, j, none⟩ = some v
  af : ∀ o, wr.frozen? ⟨w.heap.size, o, none⟩ = false
  r : ∀ j, j < 4 → ∃ v, wr.cell? ⟨w.heap.size + 1, j, none⟩ = some v
  rf : ∀ o, wr.frozen? ⟨w.heap.size + 1, o, none⟩ = false
theorem B0.turn {cb : Nat} {ao : Option Addr} {len cap : Nat} {zs : List Int} {w wr w1 : World} (h : B0 cb ao len cap zs w wr) (hd : Drawn cb ao len cap zs wr w1) : B0 cb ao len cap zs w w1 := by
  have ho := h.old
  have hz := h.sz
  refine ⟨h.drawn.trans hd, ho, Nat.le_trans hz hd.2.size, fun j hj => ?_, fun o => ?_, fun j hj => ?_, fun o => ?_⟩
  · obtain ⟨v, hv⟩ := h.a j hj
    exact ⟨v, hd.2.cell (by omega) hv⟩
  · rw [hd.2.frozen (by omega) (by omega)]; exact h.af o
  · obtain ⟨v, hv⟩ := h.r j hj
    exact ⟨v, hd.2.cell (by omega) hv⟩
  · rw [hd.2.frozen (by omega) (by omega)]; exact h.rf o
theorem B0.set {cb : Nat} {ao : Option Addr} {len cap : Nat} {zs : List Int} {w wr : World} (h : B0 cb ao len cap zs w wr) (j : Nat) (v : Value) : B0 cb ao len cap zs w (wr.setCell ⟨w.heap.size, j, none⟩ v) := by
  refine ⟨h.drawn.set h.old (Nat.le_refl _) j v, h.old, by rw [World.size_setCell]; exact h.sz, fun i hi => ?_, fun o => by rw [World.frozen?_setCell]; exact h.af o, fun i hi => ?_, fun o => by rw [World.frozen?_setCell]; exact h.rf o⟩
  · obtain ⟨x, hx⟩ := h.a i hi
    by_cases e : i = j
    · subst e; exact ⟨v, World.cell?_setCell_same wr _ _ hx⟩
    · exact ⟨x, by rw [World.cell?_setCell_other (h := fun q => by simp only [Addr.mk.injEq] at q; omega)]; exact hx⟩
  · obtain ⟨x, hx⟩ := h.r i hi
    exact ⟨x, by rw [World.cell?_setCell_other (h := fun q => by simp only [Addr.mk.injEq] at q; omega)]; exact hx⟩
theorem B0.grow {cb : Nat} {ao : Option Addr} {len cap : Nat} {zs : List Int} {w wr w2 : World} {o : Obj} {r : Option Nat} (h : B0 cb ao len cap zs w wr) (hg : (wr.alloc o).grownBy w2 r) (hr : ∀ g, r = some g → w.heap.size + 2 ≤ g) : B0 cb ao len cap zs w w2 := by
  have hs1 : (wr.alloc o).heap.size = wr.heap.size + 1 := World.size_alloc _ _
  have hz := h.sz
  have ho := h.old
  have hk : ∀ k, k < w.heap.size + 2 → w2.heap[k]? = wr.heap[k]? := fun k hk => by
    rw [hg.block k (by rw [hs1]; omega) (fun q => by have := hr k q.symm; omega)]
    show (wr.heap.push o)[k]? = _
    rw [Array.getElem?_push, if_neg (by omega)]
  refine ⟨⟨h.drawn.1.same (fun b hb => hk b (by omega)), hg.os.trans h.drawn.2.os, hg.tape.trans h.drawn.2.tape, hg.output.trans h.drawn.2.output, by have := hg.size; have := h.drawn.2.size; omega, fun k hkl hkn => (hk k (by omega)).trans (h.drawn.2.block k hkl hkn)⟩, ho, by have := hg.size; omega, fun j hj => ?_, fun o => ?_, fun j hj => ?_, fun o => ?_⟩
  · obtain ⟨v, hv⟩ := h.a j hj
    exact ⟨v, by rw [World.cell?_of_block (w := wr) (hk w.heap.size (by omega))]; exact hv⟩
  · rw [World.frozen?_of_block (w := wr) (hk w.heap.size (by omega))]; exact h.af o
  · obtain ⟨v, hv⟩ := h.r j hj
    exact ⟨v, by rw [World.cell?_of_block (w := wr) (hk (w.heap.size + 1) (by omega))]; exact hv⟩
  · rw [World.frozen?_of_block (w := wr) (hk (w.heap.size + 1) (by omega))]; exact h.rf o
theorem B0.alloc {cb : Nat} {ao : Option Addr} {len cap : Nat} {zs : List Int} {w wr : World} (h : B0 cb ao len cap zs w wr) (o : Obj) : B0 cb ao len cap zs w (wr.alloc o) :=
  h.turn ((Drawn.refl h.drawn.1).alloc o)
/-- So the term that is held in that box. -/
structure Bs (cb : Nat) (ao : Option Addr) (len cap : Nat) (zs : List Int) (w wr : World) (k n : Int) (s : ByteArray) (m : List Tm) (u : Value) : Prop where
  b : B0 cb ao len cap zs w wr
  a0 : wr.cell? ⟨w.heap.size, 0, none⟩ = some (.int .i64 k)
  a1 : wr.cell? ⟨w.heap.size, 1, none⟩ = some (.int .i64 n)
  a2 : wr.cell? ⟨w.heap.size, 2, none⟩ = some (.string s)
  a3 : wr.cell? ⟨w.heap.size, 3, none⟩ = some u
  top : TopO wr (w.heap.size + 2) m u
theorem Bs.turn {cb : Nat} {ao : Option Addr} {len cap : Nat} {zs : List Int} {w wr w1 : World} {k n : Int} {s : ByteArray} {m : List Tm} {u : Value} (h : Bs cb ao len cap zs w wr k n s m u) (hd : Drawn cb ao len cap zs wr w1) : Bs cb ao len cap zs w w1 k n s m u := by
  have ho := h.b.old
  exact ⟨h.b.turn hd, hd.2.cell (by omega) h.a0, hd.2.cell (by omega) h.a1, hd.2.cell (by omega) h.a2, hd.2.cell (by omega) h.a3, h.top.keep hd.2.size (fun b hb hl => hd.2.block b hl (by omega))⟩
theorem B0.put {cb : Nat} {ao : Option Addr} {len cap : Nat} {zs : List Int} {w wr : World} (h : B0 cb ao len cap zs w wr) {k n : Int} {s : ByteArray} {m : List Tm} {u : Value} (ht : TopO wr (w.heap.size + 2) m u) :
    Bs cb ao len cap zs w ((((wr.setCell ⟨w.heap.size, 0, none⟩ (.int .i64 k)).setCell ⟨w.heap.size, 1, none⟩ (.int .i64 n)).setCell ⟨w.heap.size, 2, none⟩ (.string s)).setCell ⟨w.heap.size, 3, none⟩ u) k n s m u := by
  obtain ⟨v0, h0⟩ := h.a 0 (by omega)
  obtain ⟨v1, h1⟩ := (h.set 0 (.int .i64 k)).a 1 (by omega)
  obtain ⟨v2, h2⟩ := ((h.set 0 (.int .i64 k)).set 1 (.int .i64 n)).a 2 (by omega)
  obtain ⟨v3, h3⟩ := (((h.set 0 (.int .i64 k)).set 1 (.int .i64 n)).set 2 (.string s)).a 3 (by omega)
  have o1 : ∀ (W : World) (i j : Nat) (x v : Value), i ≠ j → W.cell? ⟨w.heap.size, i, none⟩ = some x → (W.setCell ⟨w.heap.size, j, none⟩ v).cell? ⟨w.heap.size, i, none⟩ = some x := fun W i j x v hij hx => by
    rw [World.cell?_setCell_other (h := fun q => by simp only [Addr.mk.injEq] at q; omega)]; exact hx
  have ho := h.old
  refine ⟨(((h.set 0 _).set 1 _).set 2 _).set 3 _, o1 _ _ _ _ _ (by omega) (o1 _ _ _ _ _ (by omega) (o1 _ _ _ _ _ (by omega) (World.cell?_setCell_same _ _ _ h0))), o1 _ _ _ _ _ (by omega) (o1 _ _ _ _ _ (by omega) (World.cell?_setCell_same _ _ _ h1)), o1 _ _ _ _ _ (by omega) (World.cell?_setCell_same _ _ _ h2), World.cell?_setCell_same _ _ _ h3, ?_⟩
  exact (((ht.set (by omega)).set (by omega)).set (by omega)).set (by omega)
theorem Bs.set0 {cb : Nat} {ao : Option Addr} {len cap : Nat} {zs : List Int} {w wr : World} {k n : Int} {s : ByteArray} {m : List Tm} {u : Value} (h : Bs cb ao len cap zs w wr k n s m u) (k' : Int) : Bs cb ao len cap zs w (wr.setCell ⟨w.heap.size, 0, none⟩ (.int .i64 k')) k' n s m u := by
  have o1 : ∀ (i : Nat) (x : Value), i ≠ 0 → wr.cell? ⟨w.heap.size, i, none⟩ = some x → (wr.setCell ⟨w.heap.size, 0, none⟩ (.int .i64 k')).cell? ⟨w.heap.size, i, none⟩ = some x := fun i x hij hx => by
    rw [World.cell?_setCell_other (h := fun q => by simp only [Addr.mk.injEq] at q; omega)]; exact hx
  exact ⟨h.b.set 0 _, World.cell?_setCell_same _ _ _ h.a0, o1 1 _ (by omega) h.a1, o1 2 _ (by omega) h.a2, o1 3 _ (by omega) h.a3, h.top.set (by omega)⟩
theorem Bs.set1 {cb : Nat} {ao : Option Addr} {len cap : Nat} {zs : List Int} {w wr : World} {k n : Int} {s : ByteArray} {m : List Tm} {u : Value} (h : Bs cb ao len cap zs w wr k n s m u) (n' : Int) : Bs cb ao len cap zs w (wr.setCell ⟨w.heap.size, 1, none⟩ (.int .i64 n')) k n' s m u := by
  have o1 : ∀ (i : Nat) (x : Value), i ≠ 1 → wr.cell? ⟨w.heap.size, i, none⟩ = some x → (wr.setCell ⟨w.heap.size, 1, none⟩ (.int .i64 n')).cell? ⟨w.heap.size, i, none⟩ = some x := fun i x hij hx => by
    rw [World.cell?_setCell_other (h := fun q => by simp only [Addr.mk.injEq] at q; omega)]; exact hx
  exact ⟨h.b.set 1 _, o1 0 _ (by omega) h.a0, World.cell?_setCell_same _ _ _ h.a1, o1 2 _ (by omega) h.a2, o1 3 _ (by omega) h.a3, h.top.set (by omega)⟩
theorem Bs.set2 {cb : Nat} {ao : Option Addr} {len cap : Nat} {zs : List Int} {w wr : World} {k n : Int} {s : ByteArray} {m : List Tm} {u : Value} (h : Bs cb ao len cap zs w wr k n s m u) (s' : ByteArray) : Bs cb ao len cap zs w (wr.setCell ⟨w.heap.size, 2, none⟩ (.string s')) k n s' m u := by
  have o1 : ∀ (i : Nat) (x : Value), i ≠ 2 → wr.cell? ⟨w.heap.size, i, none⟩ = some x → (wr.setCell ⟨w.heap.size, 2, none⟩ (.string s')).cell? ⟨w.heap.size, i, none⟩ = some x := fun i x hij hx => by
    rw [World.cell?_setCell_other (h := fun q => by simp only [Addr.mk.injEq] at q; omega)]; exact hx
  exact ⟨h.b.set 2 _, o1 0 _ (by omega) h.a0, o1 1 _ (by omega) h.a1, World.cell?_setCell_same _ _ _ h.a2, o1 3 _ (by omega) h.a3, h.top.set (by omega)⟩
theorem Bs.set3 {cb : Nat} {ao : Option Addr} {len cap : Nat} {zs : List Int} {w wr w2 : World} {k n : Int} {s : ByteArray} {m m' : List Tm} {u u' : Value} {o : Obj} {r : Option Nat} (h : Bs cb ao len cap zs w wr k n s m u) (hg : (wr.alloc o).grownBy w2 r) (hr : ∀ g, r = some g → w.heap.size + 2 ≤ g) (ht : TopO w2 (w.heap.size + 2) m' u') : Bs cb ao len cap zs w (w2.setCell ⟨w.heap.size, 3, none⟩ u') k n s m' u' := by
  have hs1 : (wr.alloc o).heap.size = wr.heap.size + 1 := World.size_alloc _ _
  have hz := h.b.sz
  have hk : w2.heap[w.heap.size]? = wr.heap[w.heap.size]? := by
    rw [hg.block _ (by rw [hs1]; omega) (fun q => by have := hr _ q.symm; omega)]
    show (wr.heap.push o)[w.heap.size]? = _
    rw [Array.getElem?_push, if_neg (by omega)]
  have o1 : ∀ (i : Nat) (x : Value), i ≠ 3 → wr.cell? ⟨w.heap.size, i, none⟩ = some x → (w2.setCell ⟨w.heap.size, 3, none⟩ u').cell? ⟨w.heap.size, i, none⟩ = some x := fun i x hij hx => by
    rw [World.cell?_setCell_other (h := fun q => by simp only [Addr.mk.injEq] at q; omega), World.cell?_of_block (w := wr) hk]; exact hx
  exact ⟨(h.b.grow hg hr).set 3 _, o1 0 _ (by omega) h.a0, o1 1 _ (by omega) h.a1, o1 2 _ (by omega) h.a2, World.cell?_setCell_same _ _ _ (by rw [World.cell?_of_block (w := wr) hk]; exact h.a3), ht.set (by omega)⟩
theorem bs_more {cb : Nat} {ao : Option Addr} {len cap : Nat} {zs : List Int} {w wr w2 : World} {k n : Int} {s : ByteArray} {m : List Tm} {u v' : Value} {xs : List Value} {bs : List Nat} {o : Obj} (h : Bs cb ao len cap zs w wr k n s m u)
    (h1 : wr.ownsRow (w.heap.size + 2) 39 4 u m.length xs) (h2 : VL eltT wr m xs bs) (h3 : bs.Nodup) (h4 : ∀ b ∈ bs, w.heap.size + 2 ≤ b ∧ u.ownBlock ≠ some b)
    (hown : w2.ownsRow (w.heap.size + 2) 39 4 v' (m.length + 1) (xs ++ [.int .i64 1, .int .i64 4, .string ⟨#[]⟩, .slice none 0 0])) (hgr : (wr.alloc o).grownBy w2 u.ownBlock) (hat : v'.ownBlock = u.ownBlock ∨ v'.ownBlock = some (wr.alloc o).heap.size) :
    ∃ va vc, v' = .slice va (m.length + 1) vc ∧ (w2.cell? ⟨w.heap.size, 0, none⟩ = some (.int .i64 k) ∧ w2.cell? ⟨w.heap.size, 1, none⟩ = some (.int .i64 n) ∧ w2.cell? ⟨w.heap.size, 2, none⟩ = some (.string s) ∧ w2.cell? ⟨w.heap.size, 3, none⟩ = some u) ∧ (∀ o, w2.frozen? ⟨w.heap.size, o, none⟩ = false) ∧ B0 cb ao len cap zs w w2 ∧ Bs cb ao len cap zs w (w2.setCell ⟨w.heap.size, 3, none⟩ v') k n s (m ++ [.mk 1 4 ⟨#[]⟩ []]) v' := by
  have hto : TopO w2 (w.heap.size + 2) (m ++ [.mk 1 4 ⟨#[]⟩ []]) v' := TopO.more (Nat.zero_le _) h1 h2 h3 h4 hown hgr hat
  obtain ⟨va, vc, hv⟩ := hto.form
  have hz := h.b.sz
  have hne : some w.heap.size ≠ u.ownBlock := fun e => by have := (h1.lt _ e.symm).1; omega
  have hs1 : (wr.alloc o).heap.size = wr.heap.size + 1 := World.size_alloc _ _
  have kc : ∀ j x, wr.cell? ⟨w.heap.size, j, none⟩ = some x → w2.cell? ⟨w.heap.size, j, none⟩ = some x := fun j x hx => by
    rw [hgr.cell_far ⟨w.heap.size, j, none⟩ (by rw [hs1]; show w.heap.size < _; omega) hne, World.cell?_alloc_lt (h := by show w.heap.size < _; omega)]; exact hx
  refine ⟨va, vc, by rw [hv]; simp, ⟨kc 0 _ h.a0, kc 1 _ h.a1, kc 2 _ h.a2, kc 3 _ h.a3⟩, fun y => ?_, h.b.grow hgr (fun g hg => (h1.lt g hg).1), h.set3 hgr (fun g hg => (h1.lt g hg).1) hto⟩
  rw [hgr.frozen_far ⟨w.heap.size, y, none⟩ (by rw [hs1]; show w.heap.size < _; omega) hne, World.frozen?_alloc_old (h := by show w.heap.size ≠ _; omega)]; exact h.b.af y
/-- The end: the term is laid into the result's box. -/
theorem Bs.fin {cb : Nat} {ao : Option Addr} {len cap : Nat} {zs : List Int} {w wr : World} {k n : Int} {s : ByteArray} {m : List Tm} {u : Value} (h : Bs cb ao len cap zs w wr k n s m u) (hs : s.size ≤ 1048576) (v0 v1 v2 v3 : Value) :
    OwV ((((wr.setCell ⟨w.heap.size + 1, 0, none⟩ v0).setCell ⟨w.heap.size + 1, 1, none⟩ v1).setCell ⟨w.heap.size + 1, 2, none⟩ v2).setCell ⟨w.heap.size + 1, 3, none⟩ v3) w.heap.size (.mk k n s m) (.agg #[.int .i64 k, .int .i64 n, .string s, u]) ∧
      Drawn cb ao len cap zs w ((((wr.setCell ⟨w.heap.size + 1, 0, none⟩ v0).setCell ⟨w.heap.size + 1, 1, none⟩ v1).setCell ⟨w.heap.size + 1, 2, none⟩ v2).setCell ⟨w.heap.size + 1, 3, none⟩ v3) :=
  ⟨((((((h.top.set (by omega)).set (by omega)).set (by omega)).set (by omega)).low (Nat.le_add_right _ 2)).own hs), h.b.drawn.set4 h.b.old (Nat.le_succ _) _ _ _ _⟩
theorem Bs.owv {cb : Nat} {ao : Option Addr} {len cap : Nat} {zs : List Int} {w wr : World} {k n : Int} {s : ByteArray} {m : List Tm} {u : Value} (h : Bs cb ao len cap zs w wr k n s m u) (hs : s.size ≤ 1048576) : OwV wr (w.heap.size + 2) (.mk k n s m) (.agg #[.int .i64 k, .int .i64 n, .string s, u]) := h.top.own hs

def bendInts : List Int := [-1, 1000001, 100000, 3]
def bendStrs : List ByteArray := [⟨#[]⟩, ⟨#[65]⟩, ⟨#[120]⟩, ⟨#[116, 104, 105, 114, 116, 101, 101, 110, 98, 121, 116, 101, 115]⟩]
theorem ntL_one (k n : Int) (s : ByteArray) (m : List Tm) : ntL [.mk k n s m] = 1 + ntL m := by rw [ntL, ntL]; omega
theorem ntL_snoc : ∀ (m : List Tm) (t : Tm), ntL (m ++ [t]) = ntL m + ntL [t]
  | [], t => by rw [List.nil_append, ntL]; omega
  | .mk k n s l :: r, t => by rw [List.cons_append, ntL, ntL, ntL_snoc r t]; omega
theorem fourOneB {a b : Int} {s : ByteArray} {ao : Option Addr} {len cap : Nat} : ∀ v ∈ ([.int .i64 a, .int .i64 b, .string s, .slice ao len cap] : List Value), v.oneCell' = true := fun v hv => by
  simp at hv
  rcases hv with rfl | rfl | rfl | rfl <;> rfl
/-- What is asked of a bent term: its texts and lists are within limits, and it has no more than so many terms in it. -/
def BnT (M : Nat) (t : Tm) : Prop := StS t ∧ ntL [t] ≤ M
end Go.Proofs.Ytabgfaafpgholaa
