/-
  A term that is drawn: what l1Draw answers.
  (Ahead of it, in this text: A drawn text: what l1Str answers.)
-/
import Derived.Test.YtabgfaafpgholaaW4
import Derived.Test.YtabgfaafpgholaaW6
import Derived.Deep.RegionLaw
namespace Go.Proofs.Ytabgfaafpgholaa
open Go.RowKit
set_option linter.unusedVariables false

set_option maxHeartbeats 1000000 in
theorem str_any (cb : Nat) (ao : Option Addr) (len cap : Nat) (zs : List Int) (w : World) (hc : Cur cb ao len cap zs w) (g : Nat) (l : List ByteArray) (hg : g ≠ cb) (hl0 : 1 ≤ l.length) (hl1 : l.length ≤ 256) (hcell : ∀ j, j < l.length → w.cell? ⟨g, j, none⟩ = some (.string (l.getD j ByteArray.empty))) :
    Calls Try.prog 103 #[.pointer (some ⟨cb, 0, none⟩), .slice (some ⟨g, 0, none⟩) l.length l.length] w fun e w' => ∃ x, e = .returned (.string x) ∧ x ∈ l ∧ Drawn cb ao len cap zs w w' := by
  have HC : Hid (Cur cb ao len cap zs w) := hc
  have HL : Hid (∀ j, j < l.length → w.cell? ⟨g, j, none⟩ = some (.string (l.getD j ByteArray.empty))) := hcell
  clear hc hcell
  go_enter Try.func103, Try.ntmps103
  go_wp2_with fail
  refine (below_any cb ao len cap zs _ HC.out l.length (by omega) (by omega)).mono ?_
  rintro e w1 ⟨x, rfl, hx0, hx1, hd⟩
  have HD : Hid (Drawn cb ao len cap zs w w1) := hd
  clear hd
  obtain ⟨j, rfl⟩ : ∃ j : Nat, x = j := ⟨x.toNat, by omega⟩
  have hj : j < l.length := by omega
  have q := HD.out.2.cell hg (HL.out j hj)
  have HM : Hid (l.getD j ByteArray.empty ∈ l) := by
    show l.getD j ByteArray.empty ∈ l
    rw [List.getD_eq_getElem?_getD, List.getElem?_eq_getElem hj]; exact List.getElem_mem hj
  generalize l.getD j ByteArray.empty = y at *
  go_wp2_with fail
  go_ret
  exact ⟨_, rfl, HM.out, HD.out⟩

end Go.Proofs.Ytabgfaafpgholaa
namespace Go.Proofs.Ytabgfaafpgholaa
open Go.RowKit
set_option linter.unusedVariables false

def DrT (cb : Nat) (ao : Option Addr) (len cap : Nat) (zs : List Int) (d : Nat) : Prop := ∀ w, Cur cb ao len cap zs w →
  Calls Try.prog 73 #[.pointer (some ⟨cb, 0, none⟩), .int .i64 d] w fun e w' => ∃ t v, e = .returned v ∧ RpV (fun b => w.heap.size ≤ b) w' t v ∧ RtT d t ∧ Drawn cb ao len cap zs w w'

/-- The same, and nothing of it is frozen. -/
def DrU (cb : Nat) (ao : Option Addr) (len cap : Nat) (zs : List Int) (d : Nat) : Prop := ∀ w, Cur cb ao len cap zs w →
  Calls Try.prog 73 #[.pointer (some ⟨cb, 0, none⟩), .int .i64 d] w fun e w' => ∃ t v, e = .returned v ∧ RpV (fun b => w.heap.size ≤ b ∧ Nf w' b) w' t v ∧ RtT d t ∧ Drawn cb ao len cap zs w w'
theorem DrU.drT {cb : Nat} {ao : Option Addr} {len cap : Nat} {zs : List Int} {d : Nat} (h : DrU cb ao len cap zs d) : DrT cb ao len cap zs d := fun w hc =>
  (h w hc).mono fun e w' hh => by
    obtain ⟨t, v, h1, h2, h3, h4⟩ := hh
    exact ⟨t, v, h1, (Moves.sub fun b hb => hb.1).repV h2, h3, h4⟩

/-- What stands in a new block behind a turn of the cursor alone. -/
theorem turn_new {cb : Nat} {w w1 : World} {c : Array Value} {t : TypeId} (hcb : cb < w.heap.size) (ht : Turn cb (w.alloc (.cells c t)) w1) :
    w.heap.size + 1 ≤ w1.heap.size ∧ (∀ o, w1.cell? ⟨w.heap.size, o, none⟩ = c[o]?) ∧ (∀ o, w1.frozen? ⟨w.heap.size, o, none⟩ = false) := by
  have hs : (w.alloc (.cells c t)).heap.size = w.heap.size + 1 := World.size_alloc _ _
  have hb := ht.block w.heap.size (by omega) (by omega)
  refine ⟨by have := ht.size; omega, fun o => ?_, fun o => ?_⟩
  · rw [World.cell?_of_block (w := w.alloc (.cells c t)) hb, World.cell?_alloc_new]
  · rw [World.frozen?_of_block (w := w.alloc (.cells c t)) hb, World.frozen?_alloc_new]
theorem Drawn.alloc {cb : Nat} {ao : Option Addr} {len cap : Nat} {zs : List Int} {w w1 : World} (h : Drawn cb ao len cap zs w w1) (o : Obj) : Drawn cb ao len cap zs w (w1.alloc o) := ⟨h.1.alloc o, h.2.alloc o⟩
theorem Drawn.trans {cb : Nat} {ao : Option Addr} {len cap : Nat} {zs : List Int} {w w1 w2 : World} (h : Drawn cb ao len cap zs w w1) (k : Drawn cb ao len cap zs w1 w2) : Drawn cb ao len cap zs w w2 := ⟨k.1, h.2.trans k.2⟩
theorem Drawn.refl {cb : Nat} {ao : Option Addr} {len cap : Nat} {zs : List Int} {w : World} (h : Cur cb ao len cap zs w) : Drawn cb ao len cap zs w w := ⟨h, Turn.refl _ _⟩
/-- A cell of a block that was not there turns. -/
theorem Drawn.set {cb : Nat} {ao : Option Addr} {len cap : Nat} {zs : List Int} {w w1 : World} (h : Drawn cb ao len cap zs w w1) (hcb : cb < w.heap.size) {b : Nat} (hb : w.heap.size ≤ b) (o : Nat) (v : Value) : Drawn cb ao len cap zs w (w1.setCell ⟨b, o, none⟩ v) :=
  ⟨h.1.same (fun k hk => Below.heap_setCell w1 ⟨b, o, none⟩ v k (by show k ≠ b; omega)), ⟨h.2.os, h.2.tape, h.2.output, by rw [World.size_setCell]; exact h.2.size, fun k hk hn => (Below.heap_setCell w1 ⟨b, o, none⟩ v k (by show k ≠ b; omega)).trans (h.2.block k hk hn)⟩⟩
theorem Drawn.set4 {cb : Nat} {ao : Option Addr} {len cap : Nat} {zs : List Int} {w w1 : World} (h : Drawn cb ao len cap zs w w1) (hcb : cb < w.heap.size) {b : Nat} (hb : w.heap.size ≤ b) (v0 v1 v2 v3 : Value) :
    Drawn cb ao len cap zs w ((((w1.setCell ⟨b, 0, none⟩ v0).setCell ⟨b, 1, none⟩ v1).setCell ⟨b, 2, none⟩ v2).setCell ⟨b, 3, none⟩ v3) :=
  (((h.set hcb hb 0 v0).set hcb hb 1 v1).set hcb hb 2 v2).set hcb hb 3 v3
theorem Cur.lt {cb : Nat} {ao : Option Addr} {len cap : Nat} {zs : List Int} {w : World} (h : Cur cb ao len cap zs w) : cb < w.heap.size := World.block_lt_of_cell? w _ h.c0

theorem dp_leaf (d : Nat) (k n : Int) (s : ByteArray) : DpT d (.mk k n s []) := by
  cases d with
  | zero => rw [DpT]
  | succ d => rw [DpT]; intro t ht; cases ht
theorem wf_int (d : Nat) (n : Int) (h0 : -1000000 ≤ n) (h1 : n ≤ 1000000) : RtT d (.mk 1 n ByteArray.empty []) := ⟨by rw [WfT]; exact ⟨.inl ⟨rfl, rfl, rfl, h0, h1⟩, by simp, by simp⟩, dp_leaf _ _ _ _⟩
theorem wf_atom (d : Nat) (s : ByteArray) (h : s ∈ drawnAtoms) : RtT d (.mk 2 0 s []) := ⟨by rw [WfT]; exact ⟨.inr (.inl ⟨rfl, rfl, rfl, h⟩), by simp, by simp⟩, dp_leaf _ _ _ _⟩
theorem wf_pid (d : Nat) (n : Int) (h0 : 0 ≤ n) (h1 : n ≤ 3) : RtT d (.mk 3 n ByteArray.empty []) := ⟨by rw [WfT]; exact ⟨.inr (.inr (.inl ⟨rfl, rfl, rfl, h0, h1⟩)), by simp, by simp⟩, dp_leaf _ _ _ _⟩
theorem wf_bin (d : Nat) (s : ByteArray) (h : s.size ≤ 5) : RtT d (.mk 6 0 s []) := ⟨by rw [WfT]; exact ⟨.inr (.inr (.inr (.inr ⟨rfl, rfl, rfl, h⟩))), by simp, by simp⟩, dp_leaf _ _ _ _⟩
theorem drp_leaf {S : Nat → Prop} {w : World} (k n : Int) (s : ByteArray) (hs : s.size ≤ maxLen) : RpV S w (.mk k n s []) (.agg #[.int .i64 k, .int .i64 n, .string s, .slice none 0 0]) :=
  ⟨none, 0, rfl, hs, Nat.le_refl _, Nat.zero_le _, by rw [RpL]; trivial⟩

theorem Turn.kept {cb W : Nat} {w1 w2 : World} {c : Array Value} (t : Turn cb w1 w2) (hn : W ≠ cb) (hlt : W < w1.heap.size) (hq : ∀ o, w1.cell? ⟨W, o, none⟩ = c[o]?) (hf : ∀ o, w1.frozen? ⟨W, o, none⟩ = false) :
    (∀ o, w2.cell? ⟨W, o, none⟩ = c[o]?) ∧ (∀ o, w2.frozen? ⟨W, o, none⟩ = false) :=
  ⟨fun o => by rw [World.cell?_of_block (w := w1) (t.block W hlt hn)]; exact hq o, fun o => by rw [World.frozen?_of_block (w := w1) (t.block W hlt hn)]; exact hf o⟩

theorem Gath.start {cb : Nat} {ao : Option Addr} {len cap : Nat} {zs : List Int} {w w3 : World} {c : Array Value} (h : Drawn cb ao len cap zs w w3) (hcb : cb < w.heap.size) (hz3 : w.heap.size + 1 ≤ w3.heap.size) (hc : c.size = 4)
    (q3 : ∀ o, w3.cell? ⟨w.heap.size, o, none⟩ = c[o]?) (f3 : ∀ o, w3.frozen? ⟨w.heap.size, o, none⟩ = false) (K N : Int) (s : ByteArray) :
    Gath cb ao len cap zs w (w3.alloc (.cells #[.int .i64 K, .int .i64 N, .string s, .slice none 0 0] 39)) w3.heap.size K N s [] (.slice none 0 0) [] := by
  refine ⟨h.alloc _, hcb, hz3, by rw [World.size_alloc]; omega, by rw [World.cell?_alloc_new]; rfl, by rw [World.cell?_alloc_new]; rfl, by rw [World.cell?_alloc_new]; rfl, by rw [World.cell?_alloc_new]; rfl, fun o => World.frozen?_alloc_new w3 _ _ o, fun j hj => ?_, fun o => ?_, ⟨rfl, Or.inl ⟨rfl, rfl⟩⟩, Row.nil _ _, by simp⟩
  · rw [World.cell?_alloc_lt (h := by show w.heap.size < _; omega), q3]
    exact ⟨c[j], by rw [Array.getElem?_eq_getElem (by omega)]⟩
  · rw [World.frozen?_alloc_old (h := by show w.heap.size ≠ _; omega)]; exact f3 o

def DpL (d : Nat) (l : List Tm) : Prop := l = [] ∨ ∃ d', d = d' + 1 ∧ ∀ t, t ∈ l → DpT d' t
theorem wf_list (d : Nat) (K : Int) (hK : K = 4 ∨ K = 5) (l : List Tm) (hl : l.length ≤ 3) (h : ∀ t, t ∈ l → WfT t) (hd : DpL d l) : RtT d (.mk K 0 ByteArray.empty l) := by
  refine ⟨?_, ?_⟩
  · rw [WfT]; exact ⟨by rcases hK with rfl | rfl <;> simp, hl, h⟩
  · rcases hd with rfl | ⟨d', rfl, hd⟩
    · exact dp_leaf _ _ _ _
    · rw [DpT]; exact hd
theorem DpL.snoc {d d' : Nat} {l : List Tm} {t : Tm} (h : DpL d l) (e : d = d' + 1) (ht : DpT d' t) : DpL d (l ++ [t]) := by
  subst e
  refine .inr ⟨d', rfl, fun x hx => ?_⟩
  rcases List.mem_append.1 hx with hx | hx
  · rcases h with rfl | ⟨d'', e, h⟩
    · cases hx
    · have : d' = d'' := by omega
      subst this; exact h x hx
  · have : x = t := by simpa using hx
    subst this; exact ht

/-- What is gathered is a term. -/
theorem Gath.done {cb : Nat} {ao : Option Addr} {len cap : Nat} {zs : List Int} {w wr : World} {tb : Nat} {K N : Int} {s : ByteArray} {l : List Tm} {u : Value} {xs : List Value}
    (h : Gath cb ao len cap zs w wr tb K N s l u xs) (hs : s.size ≤ maxLen) (v0 v1 v2 v3 : Value) :
    RpV (fun b => w.heap.size ≤ b ∧ Nf ((((wr.setCell ⟨w.heap.size, 0, none⟩ v0).setCell ⟨w.heap.size, 1, none⟩ v1).setCell ⟨w.heap.size, 2, none⟩ v2).setCell ⟨w.heap.size, 3, none⟩ v3) b) ((((wr.setCell ⟨w.heap.size, 0, none⟩ v0).setCell ⟨w.heap.size, 1, none⟩ v1).setCell ⟨w.heap.size, 2, none⟩ v2).setCell ⟨w.heap.size, 3, none⟩ v3) (.mk K N s l) (.agg #[.int .i64 K, .int .i64 N, .string s, u]) ∧
      Drawn cb ao len cap zs w ((((wr.setCell ⟨w.heap.size, 0, none⟩ v0).setCell ⟨w.heap.size, 1, none⟩ v1).setCell ⟨w.heap.size, 2, none⟩ v2).setCell ⟨w.heap.size, 3, none⟩ v3) := by
  obtain ⟨ao', cap', rfl, hl, hc, hr⟩ := h.row.repL (S' := fun b => tb + 1 ≤ b ∧ Nf wr b) (fun b hb => ⟨hb.1.1, hb.2⟩) h.own (fun g hg => ⟨(h.own.lt g hg).1, nf_own h.own hg⟩)
  refine ⟨⟨ao', cap', rfl, hs, hl, hc, ?_⟩, h.drawn.set4 h.old (Nat.le_refl _) _ _ _ _⟩
  refine Moves.repL (Moves.nf (S := fun b => tb + 1 ≤ b) (fun b o v hb hv => ⟨by have := h.up; omega, ?_⟩) (fun b o v hb hv hq => (((hq.setCell _ _).setCell _ _).setCell _ _).setCell _ _)) _ _ hr
  have hup := h.up
  have hne : ∀ j, (⟨w.heap.size, j, none⟩ : Addr) ≠ ⟨b, o, none⟩ := fun j e => by
    simp only [Addr.mk.injEq] at e
    have : tb + 1 ≤ b := hb
    omega
  rw [World.cell?_setCell_other (h := hne 3), World.cell?_setCell_other (h := hne 2), World.cell?_setCell_other (h := hne 1), World.cell?_setCell_other (h := hne 0)]
  exact hv
theorem Gath.grown {cb : Nat} {ao : Option Addr} {len cap : Nat} {zs : List Int} {w w1 w2 : World} {tb : Nat} {K N : Int} {s : ByteArray} {l : List Tm} {u : Value} {xs : List Value}
    (h : Gath cb ao len cap zs w w1 tb K N s l u xs) {o : Obj} (hgrow : (w1.alloc o).grownBy w2 u.ownBlock) : w2.cell? ⟨tb, 3, none⟩ = some u ∧ w2.frozen? ⟨tb, 3, none⟩ = false := by
  have hs1 : (w1.alloc o).heap.size = w1.heap.size + 1 := World.size_alloc _ _
  have hl := h.lt
  have hne : some tb ≠ u.ownBlock := fun e => by have := (h.own.lt tb e.symm).1; omega
  rw [hgrow.cell_far ⟨tb, 3, none⟩ (by rw [hs1]; exact Nat.lt_succ_of_lt hl) hne, hgrow.frozen_far ⟨tb, 3, none⟩ (by rw [hs1]; exact Nat.lt_succ_of_lt hl) hne, World.cell?_alloc_lt (h := hl), World.frozen?_alloc_old (h := by show tb ≠ _; omega)]
  exact ⟨h.t3, h.tf 3⟩
theorem Gath.form {cb : Nat} {ao : Option Addr} {len cap : Nat} {zs : List Int} {w wr : World} {tb : Nat} {K N : Int} {s : ByteArray} {l : List Tm} {u : Value} {xs : List Value}
    (h : Gath cb ao len cap zs w wr tb K N s l u xs) : ∃ ua uc, u = .slice ua l.length uc := by
  rcases h.own.2 with ⟨rfl, h0⟩ | ⟨g, cap, cur, rfl, _⟩
  · exact ⟨none, 0, by rw [h0]⟩
  · exact ⟨_, _, rfl⟩

theorem four_news {w : World} {a b c d : Value} {t : TypeId} : ∀ j u, [a, b, c, d][j]? = some u → (w.alloc (.cells #[a, b, c, d] t)).cell? ((⟨w.heap.size, 0, none⟩ : Addr).add j) = some u := fun j u hu =>
  World.news_of_block (w := w.alloc (.cells #[a, b, c, d] t)) (B := w.heap.size) (cs := #[a, b, c, d]) (t := t) (fr := (0, 0)) (by show (w.heap.push _)[w.heap.size]? = _; simp) j u hu

set_option maxRecDepth 100000 in
set_option maxHeartbeats 2000000 in
theorem drU_of (cb : Nat) (ao : Option Addr) (len cap : Nat) (zs : List Int) (d : Nat) (hd0 : d ≤ 6) (ih : ∀ d', d = d' + 1 → DrU cb ao len cap zs d') : DrU cb ao len cap zs d := by
  intro w hc
  have HC : Hid (Cur cb ao len cap zs w) := hc
  have IH : Hid (∀ d', d = d' + 1 → DrU cb ao len cap zs d') := ih
  have hcb := hc.lt
  clear hc ih
  obtain ⟨D, hD⟩ : ∃ D : Int, D = d := ⟨_, rfl⟩
  rw [← hD]
  have HDD : Hid (D = d) := hD
  have hD0 : 0 ≤ D := by omega
  have hD6 : D ≤ 6 := by omega
  clear hD
  go_enter Try.func73, Try.ntmps73
  go_wp2_with fail
  refine (below_any cb ao len cap zs _ (HC.out.alloc _) 9 (by decide) (by decide)).mono ?_
  rintro e w1 ⟨x, rfl, hx0, hx1, hd1⟩
  obtain ⟨hz1, q1, f1⟩ := turn_new hcb hd1.2
  have HD1 : Hid (Drawn cb ao len cap zs w w1) := ((Drawn.refl HC.out).alloc _).trans hd1
  clear hd1
  have hx : (x = 0 ∨ x = 1 ∨ x = 2) ∨ (x = 3 ∨ x = 4) ∨ x = 5 ∨ x = 6 ∨ (x = 7 ∨ x = 8) := by omega
  rcases hx with hx | hx | hx | hx | hx
  · have h0 : x = 0 ∨ x = 1 ∨ x = 2 := hx
    rcases h0 with rfl | rfl | rfl
    all_goals
      clear hx hx0 hx1
      go_wp2_with fail
      refine (below_any cb ao len cap zs _ HD1.out.1 100 (by decide) (by decide)).mono ?_
      rintro e w2 ⟨y, rfl, hy0, hy1, hd2⟩
      have HD2 : Hid (Drawn cb ao len cap zs w w2) := HD1.out.trans hd2
      have HT2 : Hid (Turn cb w1 w2) := hd2.2
      clear hd2
      go_wp2_with fail
      refine (int_any cb ao len cap zs _ (HD2.out.1.alloc _) w2.heap.size [0, 1, -1, 7, 1000000, -1000000, y] (by have := HD2.out.1.lt; omega) (by simp) (by simp) ?_).mono ?_
      · intro j hj
        rw [World.cell?_alloc_new]
        have : j = 0 ∨ j = 1 ∨ j = 2 ∨ j = 3 ∨ j = 4 ∨ j = 5 ∨ j = 6 := by simp at hj; omega
        rcases this with rfl | rfl | rfl | rfl | rfl | rfl | rfl <;> rfl
      rintro e w3 ⟨z, rfl, hzm, hd3⟩
      have HZB : Hid (-1000000 ≤ z ∧ z ≤ 1000000) := by
        show _ ∧ _
        simp only [List.mem_cons, List.not_mem_nil, or_false] at hzm
        omega
      clear hzm
      have HD3 : Hid (Drawn cb ao len cap zs w w3) := (HD2.out.alloc _).trans hd3
      obtain ⟨q3, f3⟩ := ((HT2.out.alloc _).trans hd3.2).kept (by omega) (by omega) q1 f1
      clear hd3 q1 f1
      go_wp2_with fail
      refine bodyPost_ret (v := .agg #[.int .i64 1, .int .i64 z, .string ⟨#[]⟩, .slice none 0 0]) (by simp [results, Try.results73, go_sem, q3]) rfl ⟨.mk 1 z ByteArray.empty [], _, rfl, drp_leaf _ _ _ (Nat.zero_le _), wf_int d z HZB.out.1 HZB.out.2, ?_⟩
      exact HD3.out.set4 hcb (Nat.le_refl _) _ _ _ _
  · rcases hx with rfl | rfl
    all_goals
      clear hx0 hx1
      go_wp2_with fail
      refine (str_any cb ao len cap zs _ (HD1.out.1.alloc _) w1.heap.size [⟨#[111, 107]⟩, ⟨#[97]⟩, ⟨#[115, 116, 111, 112]⟩, ⟨#[104, 105, 50]⟩] (by have := HD1.out.1.lt; omega) (by simp) (by simp) ?_).mono ?_
      · intro j hj
        rw [World.cell?_alloc_new]
        have : j = 0 ∨ j = 1 ∨ j = 2 ∨ j = 3 := by simp at hj; omega
        rcases this with rfl | rfl | rfl | rfl <;> rfl
      rintro e w3 ⟨z, rfl, hz, hd3⟩
      have hzs : z.size ≤ maxLen := by
        simp only [List.mem_cons, List.not_mem_nil, or_false] at hz
        rcases hz with rfl | rfl | rfl | rfl <;> decide
      have HZ : Hid (z.size ≤ maxLen) := hzs
      have HZA : Hid (z ∈ drawnAtoms) := hz
      have HD3 : Hid (Drawn cb ao len cap zs w w3) := (HD1.out.alloc _).trans hd3
      obtain ⟨q3, f3⟩ := (((Turn.refl _ _).alloc _).trans hd3.2).kept (by omega) (by omega) q1 f1
      clear hd3 q1 f1 hz hzs
      go_wp2_with fail
      refine bodyPost_ret (v := .agg #[.int .i64 2, .int .i64 0, .string z, .slice none 0 0]) (by simp [results, Try.results73, go_sem, q3]) rfl ⟨.mk 2 0 z [], _, rfl, drp_leaf _ _ _ HZ.out, wf_atom d z HZA.out, ?_⟩
      exact HD3.out.set4 hcb (Nat.le_refl _) _ _ _ _
  · subst hx
    clear hx0 hx1
    go_wp2_with fail
    refine (below_any cb ao len cap zs _ HD1.out.1 4 (by decide) (by decide)).mono ?_
    rintro e w2 ⟨z, rfl, hy0, hy1, hd2⟩
    have HD3 : Hid (Drawn cb ao len cap zs w w2) := HD1.out.trans hd2
    have HZB : Hid (0 ≤ z ∧ z ≤ 3) := by show _ ∧ _; omega
    obtain ⟨q3, f3⟩ := hd2.2.kept (by omega) (by omega) q1 f1
    clear hd2 q1 f1
    go_wp2_with fail
    refine bodyPost_ret (v := .agg #[.int .i64 3, .int .i64 z, .string ⟨#[]⟩, .slice none 0 0]) (by simp [results, Try.results73, go_sem, q3]) rfl ⟨.mk 3 z ByteArray.empty [], _, rfl, drp_leaf _ _ _ (Nat.zero_le _), wf_pid d z HZB.out.1 HZB.out.2, ?_⟩
    exact HD3.out.set4 hcb (Nat.le_refl _) _ _ _ _
  · rcases hx with rfl
    all_goals
      clear hx0 hx1
      go_wp2_with fail
      refine (str_any cb ao len cap zs _ (HD1.out.1.alloc _) w1.heap.size [⟨#[]⟩, ⟨#[120]⟩, ⟨#[0, 255]⟩, ⟨#[104, 101, 108, 108, 111]⟩] (by have := HD1.out.1.lt; omega) (by simp) (by simp) ?_).mono ?_
      · intro j hj
        rw [World.cell?_alloc_new]
        have : j = 0 ∨ j = 1 ∨ j = 2 ∨ j = 3 := by simp at hj; omega
        rcases this with rfl | rfl | rfl | rfl <;> rfl
      rintro e w3 ⟨z, rfl, hz, hd3⟩
      have hzs : z.size ≤ maxLen := by
        simp only [List.mem_cons, List.not_mem_nil, or_false] at hz
        rcases hz with rfl | rfl | rfl | rfl <;> decide
      have HZ : Hid (z.size ≤ maxLen) := hzs
      have HZA : Hid (z.size ≤ 5) := by
        show _ ≤ _
        simp only [List.mem_cons, List.not_mem_nil, or_false] at hz
        rcases hz with rfl | rfl | rfl | rfl <;> decide
      have HD3 : Hid (Drawn cb ao len cap zs w w3) := (HD1.out.alloc _).trans hd3
      obtain ⟨q3, f3⟩ := (((Turn.refl _ _).alloc _).trans hd3.2).kept (by omega) (by omega) q1 f1
      clear hd3 q1 f1 hz hzs
      go_wp2_with fail
      refine bodyPost_ret (v := .agg #[.int .i64 6, .int .i64 0, .string z, .slice none 0 0]) (by simp [results, Try.results73, go_sem, q3]) rfl ⟨.mk 6 0 z [], _, rfl, drp_leaf _ _ _ HZ.out, wf_bin d z HZA.out, ?_⟩
      exact HD3.out.set4 hcb (Nat.le_refl _) _ _ _ _
  · rcases hx with rfl | rfl
    all_goals
      clear hx0 hx1
      go_wp2_with fail
      refine (int_any cb ao len cap zs _ (HD1.out.1.alloc _) w1.heap.size [4, 5] (by have := HD1.out.1.lt; omega) (by simp) (by simp) ?_).mono ?_
      · intro j hj
        rw [World.cell?_alloc_new]
        have : j = 0 ∨ j = 1 := by simp at hj; omega
        rcases this with rfl | rfl <;> rfl
      rintro e w3 ⟨K, rfl, hK, hd3⟩
      have HK : Hid (K = 4 ∨ K = 5) := by show _ ∨ _; simpa using hK
      have HD3 : Hid (Drawn cb ao len cap zs w w3) := (HD1.out.alloc _).trans hd3
      obtain ⟨q3, f3⟩ := (((Turn.refl _ _).alloc _).trans hd3.2).kept (by omega) (by omega) q1 f1
      have hz3 : w.heap.size + 1 ≤ w3.heap.size := by have := (((Turn.refl _ _).alloc _).trans hd3.2).size; omega
      clear hd3 q1 f1 hK
      go_wp2_with fail
      refine (below_any cb ao len cap zs _ (HD3.out.1.alloc _) 4 (by decide) (by decide)).mono ?_
      rintro e w4 ⟨m, rfl, hm0, hm1, hd4⟩
      have HG0 : Hid (Gath cb ao len cap zs w w4 w3.heap.size K 0 ⟨#[]⟩ [] (.slice none 0 0) []) := (Gath.start HD3.out hcb hz3 rfl q3 f3 K 0 ⟨#[]⟩).turn hd4
      clear hd4 q3 f3
      obtain ⟨tb, htb⟩ : ∃ tb, tb = w3.heap.size := ⟨_, rfl⟩
      rw [← htb] at HG0
      rw [← htb]
      have htb0 : w.heap.size < tb := by omega
      clear htb HD3 HD1 hz3 hz1
      obtain ⟨i0, hi, hzz⟩ := Option.map_eq_some_iff.1 info26
      simp only [Prod.mk.injEq] at hzz
      obtain ⟨hzz0, hzz1, hzz2⟩ := hzz
      obtain ⟨m, rfl⟩ : ∃ k : Nat, m = k := ⟨m.toNat, by omega⟩
      have hm : m < 4 := by omega
      clear hm0 hm1
      go_wp2_with fail
      go_loopw [6] (fun i w' => ∃ (k : Nat) (l : List Tm) (u : Value) (xs : List Value), i = .int .i64 k ∧ l.length + k ≤ 3 ∧ Gath cb ao len cap zs w w' tb K 0 ⟨#[]⟩ l u xs ∧ DpL d l) (fun i _ => (intOf i).toNat)
      case atStart => exact ⟨m, [], _, _, rfl, by simp; omega, HG0.out, .inl rfl⟩
      case round =>
        obtain ⟨k, l, u, xs, rfl, hlk, hg, hdp⟩ := hrel
        have HDP : Hid (DpL d l) := hdp
        clear hdp
        obtain ⟨ua, uc, rfl⟩ := hg.form
        have HG : Hid (Gath cb ao len cap zs w wr tb K 0 ⟨#[]⟩ l (.slice ua l.length uc) xs) := hg
        have t0 := hg.t0
        have t1 := hg.t1
        have t2 := hg.t2
        have t3 := hg.t3
        have tf := hg.tf
        have htl := hg.lt
        obtain ⟨r0, hr0⟩ := hg.r 0 (by decide)
        obtain ⟨r1, hr1⟩ := hg.r 1 (by decide)
        obtain ⟨r2, hr2⟩ := hg.r 2 (by decide)
        obtain ⟨r3, hr3⟩ := hg.r 3 (by decide)
        have hrf := hg.rf
        clear hg
        by_cases hk : 0 < k
        · by_cases hDp : 0 < D
          case neg =>
            go_wp2_with fail
            obtain ⟨hv, hdd⟩ := HG.out.done (Nat.zero_le _) (.int .i64 K) (.int .i64 0) (.string ⟨#[]⟩) (.slice ua l.length uc)
            refine bodyPost_ret (v := .agg #[.int .i64 K, .int .i64 0, .string ⟨#[]⟩, .slice ua l.length uc]) (by simp [results, Try.results73, go_sem, hr0, hr1, hr2, hr3]) rfl ⟨_, _, rfl, hv, wf_list d K HK.out l (by omega) HG.out.wf HDP.out, hdd⟩
          case pos =>
            obtain ⟨d', hd'⟩ : ∃ d' : Nat, d = d' + 1 := ⟨d - 1, by have := HDD.out; omega⟩
            have HT : Hid (DrU cb ao len cap zs d') := IH.out d' hd'
            have HQ : Hid (D - 1 = d') := by show _ = _; have := HDD.out; omega
            have HW : Hid (IntKind.i64.wrap (D - 1) = d') := by show _ = _; have := HDD.out; rw [IntKind.wrap_i64]; omega
            have HDE : Hid (d = d' + 1) := hd'
            clear hd'
            go_wp2_with fail
            go_region_law (first
              | (refine step_append_lies _ rfl (.tmp 52) (.tmp 57) 37 rfl (tb + 1) 39 i0 (.agg #[.int .i64 0, .int .i64 0, .string ⟨#[]⟩, .slice none 0 0]) 4 56 underlying24 hi hzz0 hzz1 hzz2 rfl (by decide) (.slice ua l.length uc) l.length xs (by simp [Act.eval]) (HG1.out.own.alloc _) ⟨w5.heap.size, 0, none⟩ 1 1 [.int .i64 va, .int .i64 vb, .string vc, .slice vd ve vf] (by simp [Act.eval]) rfl four_news (by intro u' hu'; simp at hu'; rcases hu' with rfl | rfl | rfl | rfl <;> rfl) (by decide) (by unfold maxLen; omega) (by omega) (by simp; omega) _ rfl ?_; intro g cap5 w6 hown6 hgrow6 hat6 hlt6; obtain ⟨t36, tf6⟩ := HG1.out.grown hgrow6)
              | (go_simp; go_wp2_with (go_at_call 73; (first | rw [HW.out] | rw [HQ.out]); refine (HT.out _ ?_).mono ?_; exact HG.out.drawn.1.drew; rintro e w5 ⟨tt, vv, rfl, hv5, hw5, hd5⟩; obtain ⟨va, vb, vc, vd, ve, vf, rfl⟩ := hv5.form; have HG1 : Hid (Gath cb ao len cap zs w w5 tb K 0 ⟨#[]⟩ l (.slice ua l.length uc) xs) := HG.out.turn hd5.drew; have htl5 := HG1.out.lt; have t35 := HG1.out.t3; have tf5 := HG1.out.tf)))
            all_goals
              have HDP2 : Hid (DpL d (l ++ [tt])) := HDP.out.snoc HDE.out hw5.2
              have HG2 := HG.out.more hd5.drew hv5 hw5.1 hown6 hgrow6 (by rw [World.size_alloc] at hat6; exact hat6) hlt6
              clear t36 tf6 hown6 hgrow6 hat6 hlt6 hv5 hw5 hd5 HG1 htl5 t35 tf5
              have HG3 : Hid (Gath cb ao len cap zs w _ tb K 0 ⟨#[]⟩ _ _ _) := HG2
              go_wp2_with fail
              go_roundw
              case rel =>
                refine ⟨k - 1, l ++ [tt], _, _, ?_, ?_, HG3.out, HDP2.out⟩
                · have e : ((k - 1 : Nat) : Int) = (k : Int) - 1 := by omega
                  rw [e]
                · rw [List.length_append]; simp only [List.length_cons, List.length_nil]; omega
              case measure => simp [intOf]; omega
        · go_wp2_with fail
          obtain ⟨hv, hdd⟩ := HG.out.done (Nat.zero_le _) (.int .i64 K) (.int .i64 0) (.string ⟨#[]⟩) (.slice ua l.length uc)
          refine bodyPost_ret (v := .agg #[.int .i64 K, .int .i64 0, .string ⟨#[]⟩, .slice ua l.length uc]) (by simp [results, Try.results73, go_sem, hr0, hr1, hr2, hr3]) rfl ⟨_, _, rfl, hv, wf_list d K HK.out l (by omega) HG.out.wf HDP.out, hdd⟩

theorem drU_all (cb : Nat) (ao : Option Addr) (len cap : Nat) (zs : List Int) : ∀ d : Nat, d ≤ 6 → DrU cb ao len cap zs d
  | 0, h => drU_of cb ao len cap zs 0 h (fun d' e => by omega)
  | d + 1, h => drU_of cb ao len cap zs (d + 1) h (fun d' e => by
      have : d' = d := by omega
      subst this
      exact drU_all cb ao len cap zs d' (by omega))
theorem drT_all (cb : Nat) (ao : Option Addr) (len cap : Nat) (zs : List Int) (d : Nat) (h : d ≤ 6) : DrT cb ao len cap zs d := (drU_all cb ao len cap zs d h).drT
end Go.Proofs.Ytabgfaafpgholaa
