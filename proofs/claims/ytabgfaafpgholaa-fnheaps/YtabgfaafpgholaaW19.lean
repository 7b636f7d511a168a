/-
  What l5Draw has in hand.
  spec.l5Draw.
-/
import Derived.Test.YtabgfaafpgholaaW13
import Derived.Test.YtabgfaafpgholaaW4
import Derived.Test.YtabgfaafpgholaaW14
import Derived.Test.YtabgfaafpgholaaW15
import Derived.Test.YtabgfaafpgholaaW16
import Derived.Test.YtabgfaafpgholaaW18
import Derived.Deep.CutRange
namespace Go.Proofs.Ytabgfaafpgholaa
open Go.RowKit
set_option linter.unusedVariables false

theorem own_low' {w : World} {base base' : Nat} {e : TypeId} {v : Value} {n : Nat} {xs : List Value} (h : w.ownsRow base e 1 v n xs) (hb : base' ≤ base) : w.ownsRow base' e 1 v n xs := by
  refine ⟨h.1, ?_⟩
  rcases h.2 with h0 | ⟨g, cap, cur, h1, h2, h3⟩
  · exact .inl h0
  · exact .inr ⟨g, cap, cur, h1, by omega, h3⟩
/-- Words that stand in a row of the call's own, or none at all. -/
def OwnW (w : World) (B : Nat) (v : Value) (xs : List Int) : Prop :=
  (v = .slice none 0 0 ∧ xs = []) ∨ ∃ g c, v = .slice (some ⟨g, 0, none⟩) xs.length c ∧ w.ownsRow B 3 1 (.slice (some ⟨g, 0, none⟩) xs.length c) xs.length (xs.map (Value.int .i64))
theorem OwnW.wv {w : World} {B : Nat} {v : Value} {xs : List Int} (h : OwnW w B v xs) : WV w w.heap.size v xs := by
  rcases h with h | ⟨g, c, e, ho⟩
  · exact .inl h
  · refine .inr ⟨g, c, e, (ho.lt g rfl).2, fun j hj => ?_⟩
    rw [ho.cellAt j (by omega)]
    simp [hj]
theorem OwnW.kept {w w' : World} {B : Nat} {v : Value} {xs : List Int} (h : OwnW w B v xs) {row : Option Nat} (hg : w.grownBy w' row) (hn : ∀ g, row = some g → v.ownBlock ≠ some g) : OwnW w' B v xs := by
  rcases h with h | ⟨g, c, e, ho⟩
  · exact .inl h
  · refine .inr ⟨g, c, e, ho.kept hg (Or.inr (fun e2 => ?_))⟩
    have := hn g (by rw [← e2]; rfl)
    rw [e] at this
    exact this rfl
theorem OwnW.block {w : World} {B : Nat} {v : Value} {xs : List Int} (h : OwnW w B v xs) {g : Nat} (hg : v.ownBlock = some g) : B ≤ g ∧ g < w.heap.size := by
  rcases h with ⟨rfl, _⟩ | ⟨g', c, rfl, ho⟩
  · cases hg
  · exact ho.lt g hg
structure Hd (cb : Nat) (ao : Option Addr) (len cap : Nat) (zs : List Int) (w wr : World) (hv : Value) (ga ca gr cr : Nat) (xs : List Int) (A : List ByteArray) (ws : List Int) : Prop where
  cl : cb < w.heap.size
  dr : Drawn cb ao len cap zs w wr
  rc : wr.cell? ⟨w.heap.size, 0, none⟩ = some (.slice none 0 0)
  rf : wr.frozen? ⟨w.heap.size, 0, none⟩ = false
  hc : wr.cell? ⟨w.heap.size + 1, 0, none⟩ = some hv
  hf : wr.frozen? ⟨w.heap.size + 1, 0, none⟩ = false
  wo : OwnW wr (w.heap.size + 1 + 1) hv xs
  ar : wr.ownsRow (w.heap.size + 1 + 1) 9 1 (.slice (some ⟨ga, 0, none⟩) A.length ca) A.length (A.map Value.string)
  rr : wr.ownsRow (w.heap.size + 1 + 1) 3 1 (.slice (some ⟨gr, 0, none⟩) ws.length cr) ws.length (ws.map (Value.int .i64))
  n1 : hv.ownBlock ≠ some gr
  n2 : ga ≠ gr
  xl : xs.length ≤ 2000
/-- Behind a draw, or whatever else turns the cursor alone. -/
theorem Hd.turn {cb : Nat} {ao : Option Addr} {len cap : Nat} {zs : List Int} {w wr w5 : World} {hv : Value} {ga ca gr cr : Nat} {xs : List Int} {A : List ByteArray} {ws : List Int} (h : Hd cb ao len cap zs w wr hv ga ca gr cr xs A ws) (d : Drawn cb ao len cap zs wr w5) : Hd cb ao len cap zs w w5 hv ga ca gr cr xs A ws := by
  have cl := h.cl
  have l1 := World.block_lt_of_cell? wr _ h.rc
  have l2 := World.block_lt_of_cell? wr _ h.hc
  have b1 := d.2.block w.heap.size l1 (by omega)
  have b2 := d.2.block (w.heap.size + 1) l2 (by omega)
  have ha := h.ar.lt ga rfl
  have hr := h.rr.lt gr rfl
  refine ⟨h.cl, ⟨d.1, h.dr.2.trans d.2⟩, ?_, ?_, ?_, ?_, h.wo.kept d.2.grown (fun g e e2 => ?_), h.ar.kept d.2.grown (Or.inr (by simp [Value.ownBlock]; omega)), h.rr.kept d.2.grown (Or.inr (by simp [Value.ownBlock]; omega)), h.n1, h.n2, h.xl⟩
  · rw [World.cell?_of_block (w := wr) b1]; exact h.rc
  · rw [World.frozen?_of_block (w := wr) b1]; exact h.rf
  · rw [World.cell?_of_block (w := wr) b2]; exact h.hc
  · rw [World.frozen?_of_block (w := wr) b2]; exact h.hf
  · have := h.wo.block e2
    injection e with e
    omega
theorem Hd.below {cb : Nat} {ao : Option Addr} {len cap : Nat} {zs : List Int} {w wr w5 : World} {hv : Value} {ga ca gr cr : Nat} {xs : List Int} {A : List ByteArray} {ws : List Int} (h : Hd cb ao len cap zs w wr hv ga ca gr cr xs A ws) (hb : Below wr.heap.size wr w5) : Hd cb ao len cap zs w w5 hv ga ca gr cr xs A ws :=
  h.turn ⟨h.dr.1.below hb, Turn.of_below hb⟩
/-- Behind a term that was put: h is another heap, and the atoms are others. -/
theorem Hd.put {cb : Nat} {ao : Option Addr} {len cap : Nat} {zs : List Int} {w wr w6 : World} {hv : Value} {ga ca gr cr g c ga' ca' : Nat} {xs xs' : List Int} {A A' : List ByteArray} {ws : List Int} (h : Hd cb ao len cap zs w wr hv ga ca gr cr xs A ws) (p : PtA wr w6 g c ga' ca' xs' A') (hx : xs'.length ≤ 2000) (o : Obj) :
    Hd cb ao len cap zs w ((w6.alloc o).setCell ⟨w.heap.size + 1, 0, none⟩ (.slice (some ⟨g, 0, none⟩) xs'.length c)) (.slice (some ⟨g, 0, none⟩) xs'.length c) ga' ca' gr cr xs' A' ws := by
  have h6 := h.below p.be
  have h7 := h6.below ((Below.refl _ _).alloc (Nat.le_refl _) o)
  have cl := h.cl
  have l1 := World.block_lt_of_cell? wr _ h.rc
  have l2 := World.block_lt_of_cell? wr _ h.hc
  have hr := h.rr.lt gr rfl
  have hg := p.wr.lt g rfl
  have hga := p.ar.lt ga' rfl
  refine ⟨h.cl, ⟨h7.dr.1.same (fun b hb => Below.heap_setCell _ _ _ _ (by show b ≠ w.heap.size + 1; omega)), ⟨h7.dr.2.os, h7.dr.2.tape, h7.dr.2.output, by rw [World.size_setCell]; exact h7.dr.2.size, fun b hb hn => (Below.heap_setCell _ _ _ _ (by show b ≠ w.heap.size + 1; omega)).trans (h7.dr.2.block b hb hn)⟩⟩, ?_, ?_, World.cell?_setCell_same _ _ _ h7.hc, by rw [World.frozen?_setCell]; exact h7.hf, .inr ⟨g, c, rfl, own_other ((own_low' p.wr (by omega)).alloc o) (by omega) _⟩, own_other ((own_low' p.ar (by omega)).alloc o) (by omega) _, own_other h7.rr (by omega) _, by simp [Value.ownBlock]; omega, by omega, hx⟩
  · rw [World.cell?_setCell_other (h := fun e => by simp only [Addr.mk.injEq] at e; omega)]; exact h7.rc
  · rw [World.frozen?_setCell]; exact h7.rf
end Go.Proofs.Ytabgfaafpgholaa

namespace Go.Proofs.Ytabgfaafpgholaa
open Go.RowKit
set_option linter.unusedVariables false

/-- What l5Draw answers. -/
structure D5 (cb : Nat) (ao : Option Addr) (len cap : Nat) (zs : List Int) (w w' : World) (hv : Value) (ga ca gr cr : Nat) (xs : List Int) (A : List ByteArray) (ws : List Int) : Prop where
  dr : Drawn cb ao len cap zs w w'
  wo : OwnW w' w.heap.size hv xs
  ar : w'.ownsRow w.heap.size 9 1 (.slice (some ⟨ga, 0, none⟩) A.length ca) A.length (A.map Value.string)
  rr : w'.ownsRow w.heap.size 3 1 (.slice (some ⟨gr, 0, none⟩) ws.length cr) ws.length (ws.map (Value.int .i64))
  n1 : hv.ownBlock ≠ some gr
  n2 : ga ≠ gr
  xl : xs.length ≤ 2000
  al : A.length ≤ 500
  wl : ws.length ≤ 5
  wn : ws ≠ []
  bw : BWR xs A ws
theorem hv_form {w : World} {B : Nat} {v : Value} {xs : List Int} (h : OwnW w B v xs) : ∃ p q r, v = .slice p q r := by
  rcases h with ⟨rfl, _⟩ | ⟨g, c, rfl, _⟩
  · exact ⟨_, _, _, rfl⟩
  · exact ⟨_, _, _, rfl⟩
theorem rp_lt {S : Nat → Prop} {w : World} {t : Tm} {v : Value} (h : RpV S w t v) : RpV (fun b => b < w.heap.size) w t v := by
  have hm : Moves S (fun b => b < w.heap.size) w w := fun b o v _ hc => ⟨World.block_lt_of_cell? w _ hc, hc⟩
  exact hm.repV h
/-- Behind a root that was added. -/
theorem Hd.root {cb : Nat} {ao : Option Addr} {len cap : Nat} {zs : List Int} {w wr w6 : World} {hv : Value} {ga ca gr cr g' c' : Nat} {xs : List Int} {A : List ByteArray} {ws : List Int} (x : Int) (o : Obj) (h : Hd cb ao len cap zs w wr hv ga ca gr cr xs A ws)
    (ho : w6.ownsRow (w.heap.size + 1 + 1) 3 1 (.slice (some ⟨g', 0, none⟩) (ws.length + 1) c') (ws.length + 1) ((ws.map (Value.int .i64)) ++ [.int .i64 x])) (hg : (wr.alloc o).grownBy w6 (some gr)) (ha : some gr = some g' ∨ g' = (wr.alloc o).heap.size) :
    Hd cb ao len cap zs w w6 hv ga ca g' c' xs A (ws ++ [x]) := by
  have h7 := h.below ((Below.refl _ _).alloc (Nat.le_refl _) o)
  have cl := h.cl
  have l1 := World.block_lt_of_cell? _ _ h7.rc
  have l2 := World.block_lt_of_cell? _ _ h7.hc
  have hr := h7.rr.lt gr rfl
  have hga := h7.ar.lt ga rfl
  have b := fun (k : Nat) (hk : k < w.heap.size + 1 + 1) => hg.block k (by omega) (fun e => by injection e with e; omega)
  have n2 := h.n2
  refine ⟨h.cl, ⟨h7.dr.1.same (fun k hk => b k (by omega)), ⟨hg.os.trans h7.dr.2.os, hg.tape.trans h7.dr.2.tape, hg.output.trans h7.dr.2.output, Nat.le_trans h7.dr.2.size hg.size, fun k hk hn => (b k (by omega)).trans (h7.dr.2.block k hk hn)⟩⟩, ?_, ?_, ?_, ?_, h7.wo.kept hg (fun g e => by injection e with e; rw [← e]; exact h.n1), h7.ar.kept hg (Or.inr (by simp [Value.ownBlock]; exact n2)), ?_, ?_, ?_, h.xl⟩
  · rw [World.cell?_of_block (b w.heap.size (by omega))]; exact h7.rc
  · rw [World.frozen?_of_block (b w.heap.size (by omega))]; exact h7.rf
  · rw [World.cell?_of_block (b (w.heap.size + 1) (by omega))]; exact h7.hc
  · rw [World.frozen?_of_block (b (w.heap.size + 1) (by omega))]; exact h7.hf
  · rw [List.map_append, List.length_append]; exact ho
  · rcases ha with e | e
    · injection e with e; rw [← e]; exact h.n1
    · intro e2
      have := h7.wo.block e2
      omega
  · rcases ha with e | e
    · injection e with e; rw [← e]; exact n2
    · omega
/-- A cell of a block that was not there turns. -/
theorem Hd.setX {cb : Nat} {ao : Option Addr} {len cap : Nat} {zs : List Int} {w wr w6 : World} {hv : Value} {ga ca gr cr : Nat} {xs : List Int} {A : List ByteArray} {ws : List Int} (h : Hd cb ao len cap zs w wr hv ga ca gr cr xs A ws) (k : Hd cb ao len cap zs w w6 hv ga ca gr cr xs A ws) {X : Nat} (hX : wr.heap.size ≤ X) (u : Value) :
    Hd cb ao len cap zs w (w6.setCell ⟨X, 0, none⟩ u) hv ga ca gr cr xs A ws := by
  have cl := h.cl
  have l1 := World.block_lt_of_cell? wr _ h.rc
  have l2 := World.block_lt_of_cell? wr _ h.hc
  have hr := h.rr.lt gr rfl
  have ha := h.ar.lt ga rfl
  refine ⟨h.cl, ⟨k.dr.1.same (fun b hb => Below.heap_setCell _ _ _ _ (by show b ≠ X; omega)), ⟨k.dr.2.os, k.dr.2.tape, k.dr.2.output, by rw [World.size_setCell]; exact k.dr.2.size, fun b hb hn => (Below.heap_setCell _ _ _ _ (by show b ≠ X; omega)).trans (k.dr.2.block b hb hn)⟩⟩, ?_, ?_, ?_, ?_, ?_, own_other k.ar (by omega) _, own_other k.rr (by omega) _, h.n1, h.n2, h.xl⟩
  · rw [World.cell?_setCell_other (h := fun e => by simp only [Addr.mk.injEq] at e; omega)]; exact k.rc
  · rw [World.frozen?_setCell]; exact k.rf
  · rw [World.cell?_setCell_other (h := fun e => by simp only [Addr.mk.injEq] at e; omega)]; exact k.hc
  · rw [World.frozen?_setCell]; exact k.hf
  · rcases k.wo with k1 | ⟨g, c, e, ho⟩
    · exact .inl k1
    · refine .inr ⟨g, c, e, own_other ho ?_ _⟩
      have := (h.wo.block (g := g) (by rw [e]; rfl)).2
      omega
/-- Behind a term that is put: x's cell, and what it holds. -/
structure Md (cb : Nat) (ao : Option Addr) (len cap : Nat) (zs : List Int) (w wx : World) (hv : Value) (ga ca gr cr : Nat) (xs : List Int) (A : List ByteArray) (ws : List Int) (X g c ga' ca' : Nat) (xs' : List Int) (A' : List ByteArray) : Prop where
  hd : Hd cb ao len cap zs w wx hv ga ca gr cr xs A ws
  xc : wx.cell? ⟨X, 0, none⟩ = some (.slice (some ⟨g, 0, none⟩) xs'.length c)
  wr : wx.ownsRow (w.heap.size + 1 + 1) 3 1 (.slice (some ⟨g, 0, none⟩) xs'.length c) xs'.length (xs'.map (Value.int .i64))
  ar : wx.ownsRow (w.heap.size + 1 + 1) 9 1 (.slice (some ⟨ga', 0, none⟩) A'.length ca') A'.length (A'.map Value.string)
  n1 : g ≠ gr
  n2 : ga' ≠ gr
theorem md_set {cb : Nat} {ao : Option Addr} {len cap : Nat} {zs : List Int} {w wr w5 w6 : World} {hv : Value} {ga ca gr cr g c ga' ca' : Nat} {xs xs' : List Int} {A A' : List ByteArray} {ws : List Int} (h : Hd cb ao len cap zs w wr hv ga ca gr cr xs A ws) (h5 : Hd cb ao len cap zs w w5 hv ga ca gr cr xs A ws) (hs : wr.heap.size ≤ w5.heap.size) (p : PtA w5 w6 g c ga' ca' xs' A') {X : Nat} (hX : wr.heap.size ≤ X) (hX5 : X < w5.heap.size) {v : Value} (x6 : w6.cell? ⟨X, 0, none⟩ = some v) :
    Md cb ao len cap zs w (w6.setCell ⟨X, 0, none⟩ (.slice (some ⟨g, 0, none⟩) xs'.length c)) hv ga ca gr cr xs A ws X g c ga' ca' xs' A' := by
  have h6 := h5.below p.be
  have cl := h.cl
  have l2 := World.block_lt_of_cell? wr _ h.hc
  have hr := h.rr.lt gr rfl
  have hg := p.wr.lt g rfl
  have hga := p.ar.lt ga' rfl
  exact ⟨h.setX h6 hX _, World.cell?_setCell_same _ _ _ x6, own_other (own_low' p.wr (by omega)) (by omega) _, own_other (own_low' p.ar (by omega)) (by omega) _, by omega, by omega⟩
theorem md_new {cb : Nat} {ao : Option Addr} {len cap : Nat} {zs : List Int} {w wr w5 w6 : World} {hv : Value} {ga ca gr cr g c ga' ca' : Nat} {xs xs' : List Int} {A A' : List ByteArray} {ws : List Int} {t : TypeId} (h : Hd cb ao len cap zs w wr hv ga ca gr cr xs A ws) (h5 : Hd cb ao len cap zs w w5 hv ga ca gr cr xs A ws) (hs : wr.heap.size ≤ w5.heap.size) (p : PtA w5 w6 g c ga' ca' xs' A') :
    Md cb ao len cap zs w (w6.alloc (.cells #[.slice (some ⟨g, 0, none⟩) xs'.length c] t)) hv ga ca gr cr xs A ws w6.heap.size g c ga' ca' xs' A' := by
  have h6 := h5.below p.be
  have cl := h.cl
  have l2 := World.block_lt_of_cell? wr _ h.hc
  have hr := h.rr.lt gr rfl
  have hg := p.wr.lt g rfl
  have hga := p.ar.lt ga' rfl
  exact ⟨h6.below ((Below.refl _ _).alloc (Nat.le_refl _) _), World.cell?_alloc_new w6 _ _ 0, (own_low' p.wr (by omega)).alloc _, (own_low' p.ar (by omega)).alloc _, by omega, by omega⟩
/-- h is another heap, and the atoms are others. -/
theorem Md.put {cb : Nat} {ao : Option Addr} {len cap : Nat} {zs : List Int} {w wx : World} {hv : Value} {ga ca gr cr X g c ga' ca' : Nat} {xs xs' : List Int} {A A' : List ByteArray} {ws : List Int} (m : Md cb ao len cap zs w wx hv ga ca gr cr xs A ws X g c ga' ca' xs' A') (hx : xs'.length ≤ 2000) :
    Hd cb ao len cap zs w (wx.setCell ⟨w.heap.size + 1, 0, none⟩ (.slice (some ⟨g, 0, none⟩) xs'.length c)) (.slice (some ⟨g, 0, none⟩) xs'.length c) ga' ca' gr cr xs' A' ws := by
  have h := m.hd
  have cl := h.cl
  have hr := h.rr.lt gr rfl
  have hg := m.wr.lt g rfl
  have hga := m.ar.lt ga' rfl
  refine ⟨h.cl, ⟨h.dr.1.same (fun b hb => Below.heap_setCell _ _ _ _ (by show b ≠ w.heap.size + 1; omega)), ⟨h.dr.2.os, h.dr.2.tape, h.dr.2.output, by rw [World.size_setCell]; exact h.dr.2.size, fun b hb hn => (Below.heap_setCell _ _ _ _ (by show b ≠ w.heap.size + 1; omega)).trans (h.dr.2.block b hb hn)⟩⟩, ?_, ?_, World.cell?_setCell_same _ _ _ h.hc, by rw [World.frozen?_setCell]; exact h.hf, .inr ⟨g, c, rfl, own_other m.wr (by omega) _⟩, own_other m.ar (by omega) _, own_other h.rr (by omega) _, by simp [Value.ownBlock]; exact m.n1, m.n2, hx⟩
  · rw [World.cell?_setCell_other (h := fun e => by simp only [Addr.mk.injEq] at e; omega)]; exact h.rc
  · rw [World.frozen?_setCell]; exact h.rf
theorem keepB5 {w7 w8 : World} {X : Nat} {v : Value} (hb : Below w7.heap.size w7 w8) (h : w7.cell? ⟨X, 0, none⟩ = some v ∧ w7.frozen? ⟨X, 0, none⟩ = false) : w8.cell? ⟨X, 0, none⟩ = some v ∧ w8.frozen? ⟨X, 0, none⟩ = false := by
  have hl := World.block_lt_of_cell? w7 _ h.1
  exact ⟨(hb.cell (p := ⟨X, 0, none⟩) hl).trans h.1, (hb.frozen (p := ⟨X, 0, none⟩) hl).trans h.2⟩
theorem keepN5 {w7 w8 : World} {v : Value} {t : TypeId} (hb : Below (w7.alloc (.cells #[v] t)).heap.size (w7.alloc (.cells #[v] t)) w8) : w8.cell? ⟨w7.heap.size, 0, none⟩ = some v ∧ w8.frozen? ⟨w7.heap.size, 0, none⟩ = false :=
  keepB5 hb ⟨World.cell?_alloc_new w7 _ _ 0, World.frozen?_alloc_new w7 _ _ 0⟩
theorem keepT5 {cb : Nat} {w7 w8 : World} {v : Value} {t : TypeId} (hcb : cb < w7.heap.size) (hb : Turn cb (w7.alloc (.cells #[v] t)).drew w8) : w8.cell? ⟨w7.heap.size, 0, none⟩ = some v ∧ w8.frozen? ⟨w7.heap.size, 0, none⟩ = false := by
  have hs : (w7.alloc (.cells #[v] t)).heap.size = w7.heap.size + 1 := World.size_alloc _ _
  have hbk := hb.block w7.heap.size (by show _ < (w7.alloc (.cells #[v] t)).heap.size; omega) (by omega)
  refine ⟨?_, ?_⟩
  · rw [World.cell?_of_block (w := w7.alloc (.cells #[v] t)) hbk, World.cell?_alloc_new]; rfl
  · rw [World.frozen?_of_block (w := w7.alloc (.cells #[v] t)) hbk, World.frozen?_alloc_new]
/-- What PutTerm tells of the two cases. -/
theorem pt_cases {t : Tm} {xs xs' : List Int} {A A' : List ByteArray} {x : Int} {ok : Bool} (ht : RtT 2 t) (h : (ok = false ∧ xs' = xs ∧ A' = A ∧ x = 0 ∧ PtR t xs A = none) ∨ (ok = true ∧ (∃ ns, xs' = xs ++ ns ∧ PtR t xs A = some (ns, A', x)) ∧ xs'.length ≤ 2000 ∧ A'.length ≤ A.length + 100)) :
    (ok = true → (xs'.length ≤ 2000 ∧ A'.length ≤ A.length + 100) ∧ ∀ ws, BWR xs A ws → BWR xs' A' (ws ++ [x])) ∧ (ok = false → ¬ (xs = [] ∧ A = [])) := by
  rcases h with ⟨rfl, _, _, _, hn⟩ | ⟨rfl, ⟨ns, rfl, hp⟩, h⟩
  · refine ⟨fun e => (by cases e), fun _ => ?_⟩
    rintro ⟨rfl, rfl⟩
    exact put_first ht hn
  · exact ⟨fun _ => ⟨h, fun ws hb => hb.put hp⟩, fun e => (by cases e)⟩
theorem infoInt5 : (Try.prog.info? 3).map (fun i => (i.zero, i.size, i.bytes)) = some (some (.int .i64 0), 1, 8) := by kernel_rfl
theorem undInts5 : Try.prog.underlying 22 = some (.slice 3) := by kernel_rfl
/-- Behind the last root. -/
theorem Hd.fin {cb : Nat} {ao : Option Addr} {len cap : Nat} {zs : List Int} {w wr : World} {hv : Value} {ga ca gr cr : Nat} {xs : List Int} {A : List ByteArray} {ws : List Int} (h : Hd cb ao len cap zs w wr hv ga ca gr cr xs A ws) (ha : A.length ≤ 500) (hw : ws.length ≤ 5) (hn : ws ≠ []) (hb : BWR xs A ws) :
    D5 cb ao len cap zs w (wr.setCell ⟨w.heap.size, 0, none⟩ hv) hv ga ca gr cr xs A ws := by
  have cl := h.cl
  have hga := h.ar.lt ga rfl
  have hgr := h.rr.lt gr rfl
  refine ⟨⟨h.dr.1.same (fun b hb => Below.heap_setCell _ _ _ _ (by show b ≠ w.heap.size; omega)), ⟨h.dr.2.os, h.dr.2.tape, h.dr.2.output, by rw [World.size_setCell]; exact h.dr.2.size, fun b hb hn => (Below.heap_setCell _ _ _ _ (by show b ≠ w.heap.size; omega)).trans (h.dr.2.block b hb hn)⟩⟩, ?_, own_other (own_low' h.ar (by omega)) (by omega) _, own_other (own_low' h.rr (by omega)) (by omega) _, h.n1, h.n2, h.xl, ha, hw, hn, hb⟩
  rcases h.wo with k1 | ⟨g, c, e, ho⟩
  · exact .inl k1
  · refine .inr ⟨g, c, e, own_other (own_low' ho (by omega)) ?_ _⟩
    have := (ho.lt g rfl).1
    omega
theorem HidOf {p : Prop} (h : p) : Hid p := h
theorem cell_alloc5 {w5 : World} {b : Nat} {v : Value} {T : TypeId} (h : w5.cell? ⟨b, 0, none⟩ = some v) : (w5.alloc (.cells #[.slice none 0 0] T)).cell? ⟨b, 0, none⟩ = some v := by
  rw [World.cell?_alloc_lt (h := World.block_lt_of_cell? _ _ h)]; exact h
theorem rp_alloc5 {w5 : World} {t : Tm} {v : Value} {o : Obj} (h : RpV (fun b => b < w5.heap.size) w5 t v) : RpV (fun b => b < (w5.alloc o).heap.size) (w5.alloc o) t v := by
  have hm : Moves (fun b => b < w5.heap.size) (fun b => b < (w5.alloc o).heap.size) w5 (w5.alloc o) := fun b o' v hb hc => ⟨by rw [World.size_alloc]; omega, by rw [World.cell?_alloc_lt (h := hb)]; exact hc⟩
  exact hm.repV h
set_option maxHeartbeats 8000000 in
set_option maxRecDepth 100000 in
theorem draw5_any (cb : Nat) (ao : Option Addr) (len cap : Nat) (zs : List Int) (w : World) (hc : Cur cb ao len cap zs w) (hcb : cb < w.heap.size) :
    Calls Try.prog 53 #[.pointer (some ⟨cb, 0, none⟩)] w fun e w' => ∃ hv ga ca gr cr xs A ws, e = .returned (.tuple #[.agg #[hv], .slice (some ⟨ga, 0, none⟩) A.length ca, .slice (some ⟨gr, 0, none⟩) ws.length cr]) ∧ D5 cb ao len cap zs w w' hv ga ca gr cr xs A ws := by
  have HC : Hid (Cur cb ao len cap zs w) := hc
  have HCB : Hid (cb < w.heap.size) := hcb
  have H0 : Hid (∀ o1 o2 : Obj, o1 = .cells #[.slice none 0 0] 32 → o2 = .cells #[.slice none 0 0] 32 → Hd cb ao len cap zs w ((((w.alloc o1).alloc o2).alloc (.cells #[] 9)).alloc (.cells #[] 3)) (.slice none 0 0) (w.heap.size + 1 + 1) 0 (w.heap.size + 1 + 1 + 1) 0 [] [] []) := by
    rintro o1 o2 rfl rfl
    have b1 : Below w.heap.size w ((((w.alloc (.cells #[.slice none 0 0] 32)).alloc (.cells #[.slice none 0 0] 32)).alloc (.cells #[] 9)).alloc (.cells #[] 3)) := (((((Below.refl _ _).alloc (Nat.le_refl _) _).alloc (by simp only [World.size_alloc]; omega) _).alloc (by simp only [World.size_alloc]; omega) _).alloc (by simp only [World.size_alloc]; omega) _)
    refine ⟨hcb, ⟨hc.below b1, Turn.of_below b1⟩, ?_, ?_, ?_, ?_, .inl ⟨rfl, rfl⟩, ?_, ?_, by simp [Value.ownBlock], by omega, by simp⟩
    · rw [World.cell?_alloc_past _ _ _ (by simp only [World.size_alloc]; omega), World.cell?_alloc_past _ _ _ (by simp only [World.size_alloc]; omega), World.cell?_alloc_past _ _ _ (by simp only [World.size_alloc]; omega), World.cell?_alloc_at _ _ _ _ rfl]; rfl
    · rw [World.frozen?_alloc_past _ _ _ (by simp only [World.size_alloc]; omega), World.frozen?_alloc_past _ _ _ (by simp only [World.size_alloc]; omega), World.frozen?_alloc_past _ _ _ (by simp only [World.size_alloc]; omega), World.frozen?_alloc_at _ _ _ _ rfl]
    · rw [World.cell?_alloc_past _ _ _ (by simp only [World.size_alloc]; omega), World.cell?_alloc_past _ _ _ (by simp only [World.size_alloc]; omega), World.cell?_alloc_at _ _ _ _ (by simp only [World.size_alloc])]; rfl
    · rw [World.frozen?_alloc_past _ _ _ (by simp only [World.size_alloc]; omega), World.frozen?_alloc_past _ _ _ (by simp only [World.size_alloc]; omega), World.frozen?_alloc_at _ _ _ _ (by simp only [World.size_alloc])]
    · have h := World.ownsRow_made (e := 9) (size := 1) ((w.alloc (.cells #[.slice none 0 0] 32)).alloc (.cells #[.slice none 0 0] 32)) #[] 0 (Nat.le_refl _) (Nat.zero_le _) rfl
      simp only [World.size_alloc] at h
      exact h.alloc _
    · have h := World.ownsRow_made (e := 3) (size := 1) (((w.alloc (.cells #[.slice none 0 0] 32)).alloc (.cells #[.slice none 0 0] 32)).alloc (.cells #[] 9)) #[] 0 (Nat.le_refl _) (Nat.zero_le _) rfl
      simp only [World.size_alloc] at h
      exact own_low' h (by omega)
  have HD : Hid (∀ w, Cur cb ao len cap zs w → Calls Try.prog 73 #[.pointer (some ⟨cb, 0, none⟩), .int .i64 2] w fun e w' => ∃ t v, e = .returned v ∧ RpV (fun b => w.heap.size ≤ b) w' t v ∧ RtT 2 t ∧ Drawn cb ao len cap zs w w') := fun w hc => drT_all cb ao len cap zs 2 (by decide) w hc
  clear hc hcb
  go_enter Try.func53, Try.ntmps53
  go_wp2_with (go_at_call 55; refine (below_any cb ao len cap zs _ (H0.out _ _ rfl rfl).dr.1 5 (by decide) (by decide)).mono ?_; rintro e w1 ⟨x1, rfl, hx0, hx5, hd1⟩; have H1 : Hid (Hd cb ao len cap zs w w1 (.slice none 0 0) (w.heap.size + 1 + 1) 0 (w.heap.size + 1 + 1 + 1) 0 [] [] []) := (H0.out _ _ rfl rfl).turn hd1; clear hd1)
  obtain ⟨j1, hj1⟩ : ∃ j : Nat, 1 + x1 = (j : Int) := ⟨(1 + x1).toNat, by omega⟩
  have hj5 : j1 ≤ 5 := by omega
  have HJ1 : Hid (1 + x1 = (j1 : Int)) := hj1
  have HJ0 : Hid (0 < j1) := by show _ < _; omega
  clear hj1
  go_loopw [6, 7, 8] (fun va vr vi wr => ∃ (j : Nat) (hv : Value) (ga ca gr cr : Nat) (xs : List Int) (A : List ByteArray) (ws : List Int), j ≤ 5 ∧ vi = .int .i64 j ∧ va = .slice (some ⟨ga, 0, none⟩) A.length ca ∧ vr = .slice (some ⟨gr, 0, none⟩) ws.length cr ∧ Hd cb ao len cap zs w wr hv ga ca gr cr xs A ws ∧ A.length + 100 * j ≤ 500 ∧ ws.length + j ≤ 5 ∧ (ws = [] → xs = [] ∧ A = [] ∧ 0 < j) ∧ BWR xs A ws) (fun _ _ vi _ => (intOf vi).toNat)
  case atStart => exact ⟨j1, _, _, _, _, _, [], [], [], hj5, by rw [HJ1.out], rfl, rfl, H1.out, by simp; omega, by simp; omega, fun _ => ⟨rfl, rfl, HJ0.out⟩, BWR.nil⟩
  case round =>
    obtain ⟨j, hv, ga, ca, gr, cr, xs, A, ws, hj, rfl, rfl, rfl, hH, hA, hw, he, hbw⟩ := hrel
    have HBW : Hid (BWR xs A ws) := hbw
    obtain ⟨p, q, r, rfl⟩ := hv_form hH.wo
    have HH : Hid (Hd cb ao len cap zs w wr (.slice p q r) ga ca gr cr xs A ws) := hH
    have HAL : Hid (A.length + 100 * j ≤ 500 ∧ ws.length + j ≤ 5) := ⟨hA, hw⟩
    have HE : Hid (ws = [] → xs = [] ∧ A = [] ∧ 0 < j) := he
    have h1 := hH.hc
    have h1f := hH.hf
    have h2 := hH.rc
    have h2f := hH.rf
    clear hA hw he hbw
    by_cases hj0 : 0 < j
    · have hji : 0 < (j : Int) := by omega
      have l2 : w.heap.size + 1 < wr.heap.size := World.block_lt_of_cell? wr _ hH.hc
      have HB0 : Hid (Below wr.heap.size wr (wr.alloc (.cells #[.slice none 0 0] 32)).drew) := ((Below.refl _ _).alloc (Nat.le_refl _) _).drew
      have KW : Hid (Cur cb ao len cap zs wr.drew ∧ Cur cb ao len cap zs (wr.alloc (.cells #[.slice none 0 0] 32)).drew) := ⟨hH.dr.1.drew, (hH.below HB0.out).dr.1⟩
      have K5 : Hid (∀ w5, Drawn cb ao len cap zs wr.drew w5 → Hd cb ao len cap zs w w5 (.slice p q r) ga ca gr cr xs A ws ∧ wr.heap.size ≤ w5.heap.size) := fun w5 hd => ⟨hH.turn hd.drew, hd.drew.2.size⟩
      have K5a : Hid (∀ w5, Drawn cb ao len cap zs (wr.alloc (.cells #[.slice none 0 0] 32)).drew w5 → (Hd cb ao len cap zs w w5 (.slice p q r) ga ca gr cr xs A ws ∧ wr.heap.size ≤ w5.heap.size) ∧ w5.cell? ⟨wr.heap.size, 0, none⟩ = some (.slice none 0 0) ∧ w5.frozen? ⟨wr.heap.size, 0, none⟩ = false) := fun w5 hd => ⟨⟨(hH.below HB0.out).turn hd, by have := hd.2.size; have := HB0.out.size; omega⟩, keepT5 (by have := hH.cl; omega) hd.2⟩
      have h1a : (wr.alloc (.cells #[.slice none 0 0] 32)).cell? ⟨w.heap.size + 1, 0, none⟩ = some (.slice p q r) := by rw [World.cell?_alloc_lt (h := l2)]; exact h1
      have na : ¬ w.heap.size + 1 = wr.heap.size := by omega
      have HPT : Hid (∀ (w5 : World) (t5 : Tm) (v5 : Value), Hd cb ao len cap zs w w5 (.slice p q r) ga ca gr cr xs A ws → RpV (fun b => b < w5.heap.size) w5 t5 v5 → Calls Try.prog 9 #[.agg #[.slice p q r], .slice (some ⟨ga, 0, none⟩) A.length ca, v5] w5 (Pt w5 t5 xs A)) := fun w5 t5 v5 h5 hv5 => putTerm_any w5 _ xs ga 0 ca A t5 v5 h5.wo.wv (own_txt h5.ar).1 (own_txt h5.ar).2.2.1 hv5 h5.xl (by have := HAL.out.1; omega)
      have KA5 : Hid (∀ (w5 : World) (t5 : Tm) (v5 : Value), RpV (fun b => w5.heap.size ≤ b) w5 t5 v5 → True) := fun _ _ _ _ => trivial
      clear hH
      go_wp2_with fail
      go_cut [9, 10, 11, 12] from 19 to 39 (fun v9 v10 v11 v12 wx => ∃ (X g c ga' ca' : Nat) (xs' : List Int) (A' : List ByteArray) (x : Int) (ok : Bool), v9 = .pointer (some ⟨X, 0, none⟩) ∧ v10 = .slice (some ⟨ga', 0, none⟩) A'.length ca' ∧ v11 = .int .i64 x ∧ v12 = .bool ok ∧ Md cb ao len cap zs w wx (.slice p q r) ga ca gr cr xs A ws X g c ga' ca' xs' A' ∧ (ok = true → (xs'.length ≤ 2000 ∧ A'.length ≤ A.length + 100) ∧ ∀ ws, BWR xs A ws → BWR xs' A' (ws ++ [x])) ∧ (ok = false → ¬ (xs = [] ∧ A = [])))
      case first =>
        go_region_law (go_simp; go_wp2_with (first
          | (go_at_call 73; first
              | ((conv in (World.alloc wr (.cells #[.slice none 0 0] 32)) => skip); refine (HD.out _ KW.out.2).mono ?_; rintro e w5 ⟨t5, v5, rfl, hv5, hrt5, hd5⟩; obtain ⟨va, vb, vc, vd, ve, vf, rfl⟩ := hv5.form; have H5 : Hid (Hd cb ao len cap zs w w5 (.slice p q r) ga ca gr cr xs A ws ∧ wr.heap.size ≤ w5.heap.size) := (K5a.out w5 hd5).1; have HX5 : Hid (w5.cell? ⟨wr.heap.size, 0, none⟩ = some (.slice none 0 0) ∧ w5.frozen? ⟨wr.heap.size, 0, none⟩ = false) := (K5a.out w5 hd5).2; have HV5 : Hid (RpV (fun b => b < w5.heap.size) w5 t5 (.agg #[.int .i64 va, .int .i64 vb, .string vc, .slice vd ve vf]) ∧ RtT 2 t5) := ⟨rp_lt hv5, hrt5⟩; have h15 := H5.out.1.hc; have h15a := cell_alloc5 (T := 32) h15; clear hv5 hrt5 hd5)
              | (refine (HD.out _ KW.out.1).mono ?_; rintro e w5 ⟨t5, v5, rfl, hv5, hrt5, hd5⟩; obtain ⟨va, vb, vc, vd, ve, vf, rfl⟩ := hv5.form; have H5 : Hid (Hd cb ao len cap zs w w5 (.slice p q r) ga ca gr cr xs A ws ∧ wr.heap.size ≤ w5.heap.size) := K5.out w5 hd5; have HX5 : Hid (w5.cell? ⟨w.heap.size + 1, 0, none⟩ = some (.slice p q r) ∧ w5.frozen? ⟨w.heap.size + 1, 0, none⟩ = false) := ⟨H5.out.1.hc, H5.out.1.hf⟩; have HV5 : Hid (RpV (fun b => b < w5.heap.size) w5 t5 (.agg #[.int .i64 va, .int .i64 vb, .string vc, .slice vd ve vf]) ∧ RtT 2 t5) := ⟨rp_lt hv5, hrt5⟩; have h15 := H5.out.1.hc; have h15a := cell_alloc5 (T := 32) h15; clear hv5 hrt5 hd5))
          | (go_at_call 9; first
              | ((conv in (World.alloc w5 (.cells #[.slice none 0 0] 32)) => skip); refine (HPT.out _ t5 _ (H5.out.1.below ((Below.refl _ _).alloc (Nat.le_refl _) _)) (rp_alloc5 HV5.out.1)).mono ?_; rintro e w6 ⟨g6, c6, ga6, ca6, xs6, A6, x6, ok6, rfl, hp6, hr6⟩; have HP6 : Hid (PtA (w5.alloc (.cells #[.slice none 0 0] 32)) w6 g6 c6 ga6 ca6 xs6 A6) := hp6; have HR6 := HidOf (pt_cases HV5.out.2 hr6); obtain ⟨c6x, f6x⟩ := keepN5 hp6.be; clear hp6 hr6)
              | (refine (HPT.out _ t5 _ H5.out.1 HV5.out.1).mono ?_; rintro e w6 ⟨g6, c6, ga6, ca6, xs6, A6, x6, ok6, rfl, hp6, hr6⟩; have HP6 : Hid (PtA w5 w6 g6 c6 ga6 ca6 xs6 A6) := hp6; have HR6 := HidOf (pt_cases HV5.out.2 hr6); obtain ⟨c6x, f6x⟩ := keepB5 hp6.be HX5.out; clear hp6 hr6))))
        all_goals
          go_wp2_with fail
          go_meet
          case rel =>
            refine ⟨_, g6, c6, ga6, ca6, xs6, A6, x6, ok6, rfl, rfl, rfl, rfl, ?_, HR6.out.1, HR6.out.2⟩
            first
              | exact md_new HH.out H5.out.1 H5.out.2 HP6.out
              | exact md_set HH.out H5.out.1 H5.out.2 HP6.out (Nat.le_refl _) (World.block_lt_of_cell? _ _ HX5.out.1) c6x
              | exact md_set HH.out (H5.out.1.below ((Below.refl _ _).alloc (Nat.le_refl _) _)) (by rw [World.size_alloc]; have := H5.out.2; omega) HP6.out H5.out.2 (by rw [World.size_alloc]; omega) c6x
      case rest =>
        obtain ⟨X, g, c, ga', ca', xs', A', x, ok, rfl, rfl, rfl, rfl, hM, hok1, hok2⟩ := hcut
        have HM : Hid (Md cb ao len cap zs w wc (.slice p q r) ga ca gr cr xs A ws X g c ga' ca' xs' A') := hM
        have HO : Hid ((ok = true → (xs'.length ≤ 2000 ∧ A'.length ≤ A.length + 100) ∧ ∀ ws, BWR xs A ws → BWR xs' A' (ws ++ [x])) ∧ (ok = false → ¬ (xs = [] ∧ A = []))) := ⟨hok1, hok2⟩
        have k1 := hM.xc
        have k2 := hM.hd.hc
        have k2f := hM.hd.hf
        clear hM hok1 hok2 HD H1 h1a na h1 h1f h2 h2f l2 KW K5 K5a HPT KA5 HB0
        generalize hwc : wc = w7 at *
        clear hwc
        cases ok with
        | false =>
          go_wp2_with fail
          go_roundw
          case rel => exact ⟨j - 1, _, _, _, _, _, xs, A, ws, by omega, by congr 1; omega, rfl, rfl, HM.out.hd, by have := HAL.out.1; omega, by have := HAL.out.2; omega, fun e => absurd ⟨(HE.out e).1, (HE.out e).2.1⟩ (HO.out.2 rfl), HBW.out⟩
          case measure => simp [intOf]; omega
        | true =>
          obtain ⟨⟨o1, o2⟩, o3⟩ := HO.out.1 rfl
          have HBW2 : Hid (BWR xs' A' (ws ++ [x])) := o3 ws HBW.out
          have hP := HM.out.put o1
          have HP : Hid (Hd cb ao len cap zs w (w7.setCell ⟨w.heap.size + 1, 0, none⟩ (.slice (some ⟨g, 0, none⟩) xs'.length c)) (.slice (some ⟨g, 0, none⟩) xs'.length c) ga' ca' gr cr xs' A' ws) := hP
          have HA2 : Hid (A'.length ≤ A.length + 100) := o2
          clear hP o1 o2 o3
          generalize hw8 : w7.setCell ⟨w.heap.size + 1, 0, none⟩ (.slice (some ⟨g, 0, none⟩) xs'.length c) = w8 at HP
          have hwl : ws.length ≤ 5 := by have := HAL.out.2; omega
          have C1 : Hid (ws.length + 1 ≤ maxLen) := by show _ ≤ _; unfold maxLen; omega
          have C2 : Hid ((ws.length + 1) * 8 ≤ 140737488355328) := by show _ ≤ _; omega
          have HRO : Hid (∀ o, (w8.alloc o).ownsRow (w.heap.size + 1 + 1) 3 1 (.slice (some ⟨gr, 0, none⟩) ws.length cr) ws.length (ws.map (Value.int .i64))) := fun o => HP.out.rr.alloc o
          have HSZ : Hid (∀ o, w.heap.size + 1 + 1 ≤ (w8.alloc o).heap.size) := fun o => by
            have : w.heap.size + 1 < w8.heap.size := World.block_lt_of_cell? _ _ HP.out.hc
            rw [World.size_alloc]; omega
          obtain ⟨i0, hi, hz0, hz1, hz2⟩ := info_parts infoInt5
          have HI : Hid (Try.prog.info? 3 = some i0 ∧ i0.zero = some (.int .i64 0) ∧ i0.size = 1 ∧ i0.bytes = 8) := ⟨hi, hz0, hz1, hz2⟩
          clear hi hz0 hz1 hz2
          go_wp2_with (at_builtin; refine wpList_append_own_at _ rfl _ _ 22 rfl (w.heap.size + 1 + 1) 3 i0 (.int .i64 0) 1 8 undInts5 HI.out.1 HI.out.2.1 HI.out.2.2.1 HI.out.2.2.2 rfl Nat.zero_lt_one (.slice (some ⟨gr, 0, none⟩) ws.length cr) ws.length (ws.map (Value.int .i64)) rfl (HRO.out _) ⟨w8.heap.size, 0, none⟩ 1 1 [.int .i64 x] rfl rfl (cell_one_new _ _ _) (by intro u hu; simp at hu; rw [hu]; rfl) C1.out C2.out (HSZ.out _) ?_; intro v9 w9 hown9 hgr9 hnn9 hat9; obtain ⟨g9, c9, rfl⟩ := ownForm hown9 (fun e => by have := (hnn9.1 e).1; cases this); have H9 : Hid (Hd cb ao len cap zs w w9 (.slice (some ⟨g, 0, none⟩) xs'.length c) ga' ca' g9 c9 xs' A' (ws ++ [x])) := Hd.root x (.cells #[.int .i64 x] 3) HP.out hown9 hgr9 (by simpa [Value.ownBlock, eq_comm] using hat9); clear hown9 hgr9 hnn9 hat9)
          go_roundw
          case rel => exact ⟨j - 1, _, _, _, _, _, xs', A', ws ++ [x], by omega, by congr 1; omega, rfl, by rw [List.length_append]; rfl, H9.out, by have := HAL.out.1; have := HA2.out; omega, by have := HAL.out.2; rw [List.length_append]; show ws.length + 1 + _ ≤ _; omega, fun e => absurd e (by simp), HBW2.out⟩
          case measure => simp [intOf]; omega
    · have hj1' : j = 0 := by omega
      have HWN : Hid (ws ≠ []) := fun e => by have := (HE.out e).2.2; omega
      have hF := HH.out.fin (by have := HAL.out.1; omega) (by have := HAL.out.2; omega) HWN.out HBW.out
      have HFF : Hid (D5 cb ao len cap zs w (wr.setCell ⟨w.heap.size, 0, none⟩ (.slice p q r)) (.slice p q r) ga ca gr cr xs A ws) := hF
      clear hF
      go_wp2_with fail
      exact bodyPost_ret (v := .tuple #[.agg #[.slice p q r], .slice (some ⟨ga, 0, none⟩) A.length ca, .slice (some ⟨gr, 0, none⟩) ws.length cr]) (by simp [results, Try.results53, go_sem, World.cell?_setCell_same _ _ _ h2]) rfl ⟨_, ga, ca, gr, cr, xs, A, ws, rfl, HFF.out⟩
end Go.Proofs.Ytabgfaafpgholaa
