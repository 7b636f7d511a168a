/-
  A copy of a term: what l1Copy answers, at every term.
-/
import Derived.Test.YtnpbmfcilcnilaaDrB
import Derived.Test.YtnpbmfcilcnilaaTmK
import Derived.Test.YtnpbmfcilcnilaaTmD
import Derived.Deep.RegionLaw
namespace Go.Proofs.Ytnpbmfcilcnilaa
open Go.RowKit
set_option linter.unusedVariables false

theorem four_news {w : World} {a b c d : Value} {t : TypeId} : ∀ j u, [a, b, c, d][j]? = some u → (w.alloc (.cells #[a, b, c, d] t)).cell? ((⟨w.heap.size, 0, none⟩ : Addr).add j) = some u := fun j u hu =>
  World.news_of_block (w := w.alloc (.cells #[a, b, c, d] t)) (B := w.heap.size) (cs := #[a, b, c, d]) (t := t) (fr := (0, 0)) (by show (w.heap.push _)[w.heap.size]? = _; simp) j u hu
structure Gz (w wr : World) (tb : Nat) (K N : Int) (s : ByteArray) (l : List Tm) (u : Value) (xs : List Value) : Prop where
  be : Below w.heap.size w wr
  up : w.heap.size < tb
  lt : tb < wr.heap.size
  t0 : wr.cell? ⟨tb, 0, none⟩ = some (.int .i64 K)
  t1 : wr.cell? ⟨tb, 1, none⟩ = some (.int .i64 N)
  t2 : wr.cell? ⟨tb, 2, none⟩ = some (.string s)
  t3 : wr.cell? ⟨tb, 3, none⟩ = some u
  tf : ∀ o, wr.frozen? ⟨tb, o, none⟩ = false
  r : ∀ j, j < 4 → ∃ v, wr.cell? ⟨w.heap.size, j, none⟩ = some v
  rf : ∀ o, wr.frozen? ⟨w.heap.size, o, none⟩ = false
  own : wr.ownsRow (tb + 1) 36 4 u l.length xs
  row : Row (fun b => tb + 1 ≤ b ∧ u.ownBlock ≠ some b) wr l xs
theorem Gz.call {w wr w1 : World} {tb : Nat} {K N : Int} {s : ByteArray} {l : List Tm} {u : Value} {xs : List Value} (h : Gz w wr tb K N s l u xs) (hd : Below wr.heap.size wr w1) : Gz w w1 tb K N s l u xs := by
  have hg : wr.grownBy w1 none := ⟨hd.os, hd.tape, hd.output, hd.size, fun k hk _ => hd.block k hk⟩
  have hup := h.up
  have hlt := h.lt
  have cc : ∀ b o v, wr.cell? ⟨b, o, none⟩ = some v → w1.cell? ⟨b, o, none⟩ = some v := fun b o v hv => by rw [hd.cell (p := ⟨b, o, none⟩) (World.block_lt_of_cell? wr _ hv)]; exact hv
  exact ⟨h.be.trans (hd.mono h.be.size), h.up, Nat.lt_of_lt_of_le h.lt hd.size, cc _ _ _ h.t0, cc _ _ _ h.t1, cc _ _ _ h.t2, cc _ _ _ h.t3, fun o => by rw [hd.frozen (p := ⟨tb, o, none⟩) h.lt]; exact h.tf o, fun j hj => by obtain ⟨v, hv⟩ := h.r j hj; exact ⟨v, cc _ _ _ hv⟩, fun o => by rw [hd.frozen (p := ⟨w.heap.size, o, none⟩) (by show w.heap.size < _; omega)]; exact h.rf o, h.own.kept hg (by by_cases e : u.ownBlock = none; exact Or.inl e; exact Or.inr e), ⟨h.row.1, fun i hi => (h.row.2 i hi).move (Moves.below hd)⟩⟩
theorem Gz.form {w wr : World} {tb : Nat} {K N : Int} {s : ByteArray} {l : List Tm} {u : Value} {xs : List Value} (h : Gz w wr tb K N s l u xs) : ∃ a c, u = .slice a l.length c := by
  obtain ⟨_, hh | ⟨g, c, cur, e1, _⟩⟩ := h.own
  · exact ⟨none, 0, by rw [hh.1, hh.2]⟩
  · exact ⟨_, c, e1⟩
/-- One more is drawn, laid down in a block, appended, and the variable turned. -/
theorem Gz.more {w wr w1 w2 : World} {tb : Nat} {K N : Int} {s : ByteArray} {l : List Tm} {u : Value} {xs : List Value}
    (h : Gz w wr tb K N s l u xs) (hd : Below wr.heap.size wr w1) {t : Tm} {a b c d : Value} (hv : RpV (fun b => wr.heap.size ≤ b) w1 t (.agg #[a, b, c, d])) {o : Obj}
    {g cap' : Nat} (hown : w2.ownsRow (tb + 1) 36 4 (.slice (some ⟨g, 0, none⟩) (l.length + 1) cap') (l.length + 1) (xs ++ [a, b, c, d])) (hgrow : (w1.alloc o).grownBy w2 u.ownBlock) (hat : u.ownBlock = some g ∨ g = w1.heap.size + 1) (hlt : g < w2.heap.size) :
    Gz w (w2.setCell ⟨tb, 3, none⟩ (.slice (some ⟨g, 0, none⟩) (l.length + 1) cap')) tb K N s (l ++ [t]) (.slice (some ⟨g, 0, none⟩) (l.length + 1) cap') (xs ++ [a, b, c, d]) := by
  have h1 := h.call hd
  have hs1 : (w1.alloc o).heap.size = w1.heap.size + 1 := World.size_alloc _ _
  have hun : ∀ k, k < tb + 1 → some k ≠ u.ownBlock := fun k hk e => by have := (h.own.lt k e.symm).1; omega
  have hcell : ∀ p o' v, some p ≠ u.ownBlock → w1.cell? ⟨p, o', none⟩ = some v → w2.cell? ⟨p, o', none⟩ = some v := fun p o' v hp hc => by
    have hpl := World.block_lt_of_cell? w1 _ hc
    rw [hgrow.cell_far ⟨p, o', none⟩ (by rw [hs1]; exact Nat.lt_succ_of_lt hpl) hp, World.cell?_alloc_lt (h := hpl)]; exact hc
  have hfroz : ∀ p o', p < w1.heap.size → some p ≠ u.ownBlock → w2.frozen? ⟨p, o', none⟩ = w1.frozen? ⟨p, o', none⟩ := fun p o' hpl hp => by
    rw [hgrow.frozen_far ⟨p, o', none⟩ (by rw [hs1]; exact Nat.lt_succ_of_lt hpl) hp, World.frozen?_alloc_old (h := by show p ≠ _; omega)]
  have hset : ∀ p o' v, (p ≠ tb ∨ o' ≠ 3) → w2.cell? ⟨p, o', none⟩ = some v → (w2.setCell ⟨tb, 3, none⟩ (.slice (some ⟨g, 0, none⟩) (l.length + 1) cap')).cell? ⟨p, o', none⟩ = some v := fun p o' v hp hc => by
    rw [World.cell?_setCell_other (h := fun e => by simp at e; omega)]; exact hc
  have hgb : tb + 1 ≤ g := (hown.lt g rfl).1
  have hself : ∀ p, p < tb + 1 → some p ≠ u.ownBlock := hun
  have hll : (l ++ [t]).length = l.length + 1 := by simp
  have hul : tb < w1.heap.size := h1.lt
  have hwl : w.heap.size < w1.heap.size := Nat.lt_trans h.up hul
  have hk : ∀ k, k < tb → (w2.setCell ⟨tb, 3, none⟩ (.slice (some ⟨g, 0, none⟩) (l.length + 1) cap')).heap[k]? = w1.heap[k]? := fun k hkt => by
    rw [Below.heap_setCell w2 ⟨tb, 3, none⟩ _ k (by show k ≠ tb; omega), hgrow.block k (by rw [hs1]; omega) (hun k (by omega))]
    show (w1.heap.push _)[k]? = _
    rw [Array.getElem?_push, if_neg (by omega)]
  have hsz : (w2.setCell ⟨tb, 3, none⟩ (.slice (some ⟨g, 0, none⟩) (l.length + 1) cap')).heap.size = w2.heap.size := World.size_setCell ..
  have hsz2 : w1.heap.size + 1 ≤ w2.heap.size := by rw [← hs1]; exact hgrow.size
  have htb : some tb ≠ u.ownBlock := hun tb (by omega)
  have hrb : some w.heap.size ≠ u.ownBlock := hun _ (by have := h.up; omega)
  have hup := h.up
  have hmv : Moves (fun b => tb + 1 ≤ b ∧ u.ownBlock ≠ some b) (fun b => tb + 1 ≤ b ∧ (Value.slice (some ⟨g, 0, none⟩) (l.length + 1) cap').ownBlock ≠ some b) w1 (w2.setCell ⟨tb, 3, none⟩ (.slice (some ⟨g, 0, none⟩) (l.length + 1) cap')) := fun p o' v hp hc => by
    have hpl := World.block_lt_of_cell? w1 _ hc
    refine ⟨⟨hp.1, fun e => ?_⟩, hset p o' v (Or.inl (by have := hp.1; omega)) (hcell p o' v (fun e => hp.2 e.symm) hc)⟩
    simp only [Value.ownBlock, Option.some.injEq] at e
    subst e
    rcases hat with hat | hat
    · exact hp.2 hat
    · have : g < w1.heap.size := hpl
      omega
  have hmn : Moves (fun b => wr.heap.size ≤ b) (fun b => tb + 1 ≤ b ∧ (Value.slice (some ⟨g, 0, none⟩) (l.length + 1) cap').ownBlock ≠ some b) w1 (w2.setCell ⟨tb, 3, none⟩ (.slice (some ⟨g, 0, none⟩) (l.length + 1) cap')) := fun p o' v hp hc => by
    have hpl : p < w1.heap.size := World.block_lt_of_cell? w1 _ hc
    have hpo : some p ≠ u.ownBlock := fun e => by have := (h.own.lt p e.symm).2; omega
    refine ⟨⟨by have := h.lt; omega, fun e => ?_⟩, hset p o' v (Or.inl (by have := h.lt; omega)) (hcell p o' v hpo hc)⟩
    simp only [Value.ownBlock, Option.some.injEq] at e
    subst e
    rcases hat with hat | hat
    · exact hpo hat.symm
    · omega
  refine ⟨?_, hup, by rw [hsz]; omega, hset _ _ _ (Or.inr (by omega)) (hcell _ _ _ htb h1.t0), hset _ _ _ (Or.inr (by omega)) (hcell _ _ _ htb h1.t1), hset _ _ _ (Or.inr (by omega)) (hcell _ _ _ htb h1.t2), World.cell?_setCell_same w2 _ _ (hcell _ _ _ htb h1.t3), fun o' => ?_, fun j hj => ?_, fun o' => ?_, ?_, ?_⟩
  · have t := h1.be
    exact ⟨hgrow.os.trans t.os, hgrow.tape.trans t.tape, hgrow.output.trans t.output, by rw [hsz]; omega, fun k hkl => (hk k (by omega)).trans (t.block k hkl)⟩
  · rw [World.frozen?_setCell, hfroz tb o' hul htb]; exact h1.tf o'
  · obtain ⟨v, hv'⟩ := h1.r j hj
    exact ⟨v, hset _ _ _ (Or.inl (by omega)) (hcell _ _ _ hrb hv')⟩
  · rw [World.frozen?_setCell, hfroz _ o' hwl hrb]; exact h1.rf o'
  · rw [hll]; exact ownsRow_setCell_below hown (by show tb < tb + 1; omega) _
  · exact Row.snoc hmv h1.row (hmn.repV hv)
theorem Gz.grown {w w1 w2 : World} {tb : Nat} {K N : Int} {s : ByteArray} {l : List Tm} {u : Value} {xs : List Value}
    (h : Gz w w1 tb K N s l u xs) {o : Obj} (hgrow : (w1.alloc o).grownBy w2 u.ownBlock) : w2.cell? ⟨tb, 3, none⟩ = some u ∧ w2.frozen? ⟨tb, 3, none⟩ = false := by
  have hs1 : (w1.alloc o).heap.size = w1.heap.size + 1 := World.size_alloc _ _
  have hl := h.lt
  have hne : some tb ≠ u.ownBlock := fun e => by have := (h.own.lt tb e.symm).1; omega
  rw [hgrow.cell_far ⟨tb, 3, none⟩ (by rw [hs1]; exact Nat.lt_succ_of_lt hl) hne, hgrow.frozen_far ⟨tb, 3, none⟩ (by rw [hs1]; exact Nat.lt_succ_of_lt hl) hne, World.cell?_alloc_lt (h := hl), World.frozen?_alloc_old (h := by show tb ≠ _; omega)]
  exact ⟨h.t3, h.tf 3⟩
theorem Gath.form {w wr : World} {tb : Nat} {K N : Int} {s : ByteArray} {l : List Tm} {u : Value} {xs : List Value}
    (h : Gz w wr tb K N s l u xs) : ∃ ua uc, u = .slice ua l.length uc := by
  rcases h.own.2 with ⟨rfl, h0⟩ | ⟨g, cap, cur, rfl, _⟩
  · exact ⟨none, 0, by rw [h0]⟩
  · exact ⟨_, _, rfl⟩

theorem Gz.done {w wr : World} {tb : Nat} {K N : Int} {s : ByteArray} {l : List Tm} {u : Value} {xs : List Value} (h : Gz w wr tb K N s l u xs) (hs : s.size ≤ maxLen) (v0 v1 v2 v3 : Value) :
    RpV (fun b => w.heap.size ≤ b) ((((wr.setCell ⟨w.heap.size, 0, none⟩ v0).setCell ⟨w.heap.size, 1, none⟩ v1).setCell ⟨w.heap.size, 2, none⟩ v2).setCell ⟨w.heap.size, 3, none⟩ v3) (.mk K N s l) (.agg #[.int .i64 K, .int .i64 N, .string s, u]) ∧
      Below w.heap.size w ((((wr.setCell ⟨w.heap.size, 0, none⟩ v0).setCell ⟨w.heap.size, 1, none⟩ v1).setCell ⟨w.heap.size, 2, none⟩ v2).setCell ⟨w.heap.size, 3, none⟩ v3) := by
  obtain ⟨ao', cap', rfl, hl, hc, hr⟩ := h.row.repL (S' := fun b => tb + 1 ≤ b) (fun b hb => hb.1) h.own (fun g hg => (h.own.lt g hg).1)
  refine ⟨⟨ao', cap', rfl, hs, hl, hc, ?_⟩, (((h.be.setCell (Nat.le_refl _) _).setCell (Nat.le_refl _) _).setCell (Nat.le_refl _) _).setCell (Nat.le_refl _) _⟩
  refine Moves.repL (S := fun b => tb + 1 ≤ b) (fun b o v hb hv => ⟨by have := h.up; omega, ?_⟩) _ _ hr
  have hup := h.up
  have hne : ∀ j, (⟨w.heap.size, j, none⟩ : Addr) ≠ ⟨b, o, none⟩ := fun j e => by
    simp only [Addr.mk.injEq] at e
    have : tb + 1 ≤ b := hb
    omega
  rw [World.cell?_setCell_other (h := hne 3), World.cell?_setCell_other (h := hne 2), World.cell?_setCell_other (h := hne 1), World.cell?_setCell_other (h := hne 0)]
  exact hv
theorem bundrewZ {W w3 : World} (hb : Below W.drew.heap.size W.drew w3) : Below W.heap.size W w3 := ⟨hb.os, hb.tape, hb.output, hb.size, hb.block⟩
theorem own_lenZ {w : World} {B e z : Nat} {v : Value} {n k : Nat} {xs : List Value} (h : w.ownsRow B e z v n xs) (hn : n = k) : w.ownsRow B e z v k xs := by subst hn; exact h
theorem Gz.begin (w : World) (c : Array Value) (hc : c.size = 4) (K N : Int) (s : ByteArray) :
    Gz w (((w.alloc (.cells c 36)).alloc (.cells #[.int .i64 K, .int .i64 N, .string s, .slice (some ⟨w.heap.size + 1 + 1, 0, none⟩) 0 0] 36)).alloc (.cells #[] 36)) (w.heap.size + 1) K N s [] (.slice (some ⟨w.heap.size + 1 + 1, 0, none⟩) 0 0) [] := by
  have hb := three_new (w := w) (c1 := c) (c2 := #[.int .i64 K, .int .i64 N, .string s, .slice (some ⟨w.heap.size + 1 + 1, 0, none⟩) 0 0]) (c3 := #[]) (t1 := 36) (t2 := 36) (t3 := 36) (Below.refl _ _)
  obtain ⟨hz, q2, q3, f2, f3⟩ := hb
  have e1 : (((w.alloc (.cells c 36)).alloc (.cells #[.int .i64 K, .int .i64 N, .string s, .slice (some ⟨w.heap.size + 1 + 1, 0, none⟩) 0 0] 36)).alloc (.cells #[] 36)).heap[w.heap.size]? = some (.cells c 36 (0, 0)) := by
    show (((w.heap.push _).push _).push _)[w.heap.size]? = _
    rw [Array.getElem?_push, if_neg (by simp; omega), Array.getElem?_push, if_neg (by simp), Array.getElem?_push, if_pos (by simp)]
  have e3 : (((w.alloc (.cells c 36)).alloc (.cells #[.int .i64 K, .int .i64 N, .string s, .slice (some ⟨w.heap.size + 1 + 1, 0, none⟩) 0 0] 36)).alloc (.cells #[] 36)).heap[w.heap.size + 1 + 1]? = some (.cells #[] 36 (0, 0)) := by
    show (((w.heap.push _).push _).push _)[w.heap.size + 1 + 1]? = _
    rw [Array.getElem?_push, if_pos (by simp)]
  refine ⟨(((Below.refl _ _).alloc (Nat.le_refl _) _).alloc (by simp) _).alloc (by simp; omega) _, by omega, by omega, q2 0, q2 1, q2 2, q2 3, f2, fun j hj => ?_, fun o => frozen_of e1, ⟨rfl, Or.inr ⟨w.heap.size + 1 + 1, 0, #[], rfl, Nat.le_refl _, e3, Nat.le_refl _, Nat.zero_le _, rfl, rfl⟩⟩, Row.nil _ _⟩
  rw [cell_of e1]
  exact ⟨c[j], Array.getElem?_eq_getElem (by omega)⟩

def CzT (t : Tm) : Prop := ∀ (w : World) (v : Value), RepV 0 w t v → StS t →
  Calls Try.prog 19 #[v] w fun e w' => ∃ v', e = .returned v' ∧ RpV (fun b => w.heap.size ≤ b) w' t v' ∧ Below w.heap.size w w'

set_option maxRecDepth 100000 in
set_option maxHeartbeats 4000000 in
theorem czT_of (K N : Int) (s : ByteArray) (m : List Tm) (ih : ∀ t, t ∈ m → CzT t) : CzT (.mk K N s m) := by
  intro w v hv hw
  obtain ⟨so, scap, rfl, hss, hl, hcap, hr⟩ := hv
  rw [StS] at hw
  have IH : Hid (∀ t, t ∈ m → CzT t) := ih
  have HR : Hid (RepL 0 w m so) := hr
  have HW : Hid (∀ t, t ∈ m → StS t) := hw.2.2
  have hm : m.length ≤ 1048576 := hw.2.1
  have HM : Hid (s.size ≤ maxLen) := hss
  clear ih hr hw hss
  unfold maxLen at hcap
  go_enter Try.func19, Try.ntmps19
  go_wp2_with fail
  obtain ⟨W0, hW⟩ : ∃ W0, W0 = w.alloc (.cells #[.int .i64 K, .int .i64 N, .string s, .slice so m.length scap] 36) := ⟨_, rfl⟩
  have hs0 : W0.heap.size = w.heap.size + 1 := by rw [hW, World.size_alloc]
  have hg0 := Gz.begin W0 #[.int .i64 0, .int .i64 0, .string ⟨#[]⟩, .slice none 0 0] rfl K N s
  rw [hs0] at hg0
  have HDW : Hid (Below w.heap.size w W0) := by rw [hW]; exact (Below.refl _ _).alloc (Nat.le_refl _) _
  have HQ0 : Hid (W0.cell? ⟨w.heap.size, 3, none⟩ = some (.slice so m.length scap)) := by show _ = _; rw [hW, World.cell?_alloc_new]; rfl
  rw [← hW]
  have HG0 : Hid (Gz W0 _ (w.heap.size + 1 + 1) K N s [] _ []) := hg0
  have HS0 : Hid (W0.heap.size = w.heap.size + 1) := hs0
  clear hg0 hs0 hW
  obtain ⟨i0, hi, hzz⟩ := Option.map_eq_some_iff.1 info26
  simp only [Prod.mk.injEq] at hzz
  obtain ⟨hzz0, hzz1, hzz2⟩ := hzz
  go_loopw [4] (fun i w' => ∃ (k : Nat) (u : Value) (xs : List Value), i = .int .i64 k ∧ k ≤ m.length ∧ Gz W0 w' (w.heap.size + 1 + 1) K N s (m.take k) u xs) (fun i _ => m.length - (intOf i).toNat)
  case atStart => exact ⟨0, _, _, rfl, Nat.zero_le _, HG0.out⟩
  case round =>
    obtain ⟨k, u, xs, rfl, hk, hg⟩ := hrel
    obtain ⟨ua, uc, rfl⟩ := hg.form
    have hlen : (m.take k).length = k := by rw [List.length_take]; omega
    rw [hlen] at hg
    have HG : Hid (Gz W0 wr (w.heap.size + 1 + 1) K N s (m.take k) (.slice ua k uc) xs) := hg
    have t0 := hg.t0
    have t1 := hg.t1
    have t2 := hg.t2
    have t3 := hg.t3
    have tf := hg.tf
    have htl := hg.lt
    have hqr : wr.cell? ⟨w.heap.size, 3, none⟩ = some (.slice so m.length scap) := by
      have hz := HS0.out
      rw [hg.be.cell (p := ⟨w.heap.size, 3, none⟩) (by show w.heap.size < _; omega)]; exact HQ0.out
    have hrr := hg.r
    have hrf := hg.rf
    rw [HS0.out] at hrr hrf
    obtain ⟨r0, hr0⟩ := hrr 0 (by decide)
    obtain ⟨r1, hr1⟩ := hrr 1 (by decide)
    obtain ⟨r2, hr2⟩ := hrr 2 (by decide)
    obtain ⟨r3, hr3⟩ := hrr 3 (by decide)
    have HDR : Hid (Below w.heap.size w wr) := by
      have hz := HS0.out
      exact HDW.out.trans (hg.be.mono (by omega))
    clear hg hrr
    by_cases hlt : k < m.length
    · have HRr : Hid (RepL 0 wr m so) := (Keeps.below HDR.out 0).repL _ _ HR.out
      obtain ⟨b, off, rfl, _, ht⟩ := RepL.at m so HRr.out k hlt
      obtain ⟨tk, tn, ts, tao, tlen, tcap, c0, c1, c2, c3, hv⟩ := ht.cells
      have HV : Hid (RepV 0 wr m[k] (.agg #[.int .i64 tk, .int .i64 tn, .string ts, .slice tao tlen tcap])) := hv
      have HT : Hid (CzT m[k]) := IH.out _ (List.getElem_mem hlt)
      clear hv ht
      go_wp2_with fail
      go_region_law (first
        | (refine step_append_lies _ rfl (.tmp 16) (.tmp 23) 34 rfl (w.heap.size + 1 + 1 + 1) 36 i0 (.agg #[.int .i64 0, .int .i64 0, .string ⟨#[]⟩, .slice none 0 0]) 4 56 underlying24 hi hzz0 hzz1 hzz2 rfl (by decide) (.slice ua k uc) k xs (by simp [Act.eval]) (HO1.out.alloc _) ⟨w5.heap.size, 0, none⟩ 1 1 [.int .i64 va, .int .i64 vb, .string vc, .slice vd ve vf] (by simp [Act.eval]) rfl four_news (by intro u' hu'; simp at hu'; rcases hu' with rfl | rfl | rfl | rfl <;> rfl) (by decide) (by unfold maxLen; omega) (by omega) (by simp; omega) _ rfl ?_; intro g cap5 w6 hown6 hgrow6 hat6 hlt6; obtain ⟨t36, tf6⟩ := HG1.out.grown hgrow6)
        | (go_simp; go_wp2_with (go_at_call 19; refine (HT.out _ _ ?_ ?_).mono ?_; exact HV.out.drew; exact HW.out _ (List.getElem_mem hlt); rintro e w5 ⟨vv, rfl, hv5, hd5⟩; obtain ⟨va, vb, vc, vd, ve, vf, rfl⟩ := hv5.form; have hd5' : Below wr.heap.size wr w5 := bundrewZ hd5; have HG1 : Hid (Gz W0 w5 (w.heap.size + 1 + 1) K N s (m.take k) (.slice ua k uc) xs) := HG.out.call hd5'; have HO1 : Hid (w5.ownsRow (w.heap.size + 1 + 1 + 1) 36 4 (.slice ua k uc) k xs) := own_lenZ HG1.out.own hlen; have htl5 := HG1.out.lt; have t35 := HG1.out.t3; have tf5 := HG1.out.tf)))
      all_goals
        have HG2 := HG.out.more (g := g) (cap' := cap5) hd5' hv5 (by rw [hlen]; exact hown6) hgrow6 (by rw [World.size_alloc] at hat6; exact hat6) hlt6
        rw [hlen, ← List.take_succ_eq_append_getElem hlt] at HG2
        clear t36 tf6 hown6 hgrow6 hat6 hlt6 hv5 hd5 hd5' HG1 HO1 htl5 t35 tf5 c0 c1 c2 c3 hlen
        have HG3 : Hid (Gz W0 _ (w.heap.size + 1 + 1) K N s _ _ _) := HG2
        go_wp2_with fail
        go_roundw
        case rel =>
          refine ⟨k + 1, _, _, ?_, by omega, HG3.out⟩
          go_num
        case measure => simp [intOf]; omega
    · go_wp2_with fail
      have hkm : m.take k = m := List.take_of_length_le (by omega)
      have hd := HG.out.done HM.out (.int .i64 K) (.int .i64 N) (.string s) (.slice ua k uc)
      rw [HS0.out, hkm] at hd
      refine bodyPost_ret (v := .agg #[.int .i64 K, .int .i64 N, .string s, .slice ua k uc]) (by simp [results, Try.results19, go_sem, hr0, hr1, hr2, hr3]) rfl ⟨_, rfl, (Moves.sub (fun b hb => by omega)).repV hd.1, HDW.out.trans (hd.2.mono (by omega))⟩
theorem czT_all : ∀ t, CzT t := Tm.ind fun k n s l ih => czT_of k n s l ih
end Go.Proofs.Ytnpbmfcilcnilaa
