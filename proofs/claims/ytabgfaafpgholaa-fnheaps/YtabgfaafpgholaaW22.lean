/-
  What l5Any has in hand, and what it answers.
  spec.l5Any.
-/
import Derived.Test.YtabgfaafpgholaaW19
import Derived.Test.YtabgfaafpgholaaW21
namespace Go.Proofs.Ytabgfaafpgholaa
open Go.RowKit
set_option linter.unusedVariables false

/-- A drawn heap, as it is read: words, atoms, roots. -/
structure E5 (cb : Nat) (ao : Option Addr) (len cap : Nat) (zs : List Int) (w wr : World) (p : Option Addr) (b r : Nat) (xs : List Int) (ga : Nat) (A : List ByteArray) (gr : Nat) (ws : List Int) : Prop where
  dr : Drawn cb ao len cap zs w wr
  lst : Gn.Lst p b 0 xs.length r
  lb : w.heap.size < b
  wc : ∀ j (h : j < xs.length), wr.cell? ⟨b, j, none⟩ = some (.int .i64 xs[j])
  la : w.heap.size < ga
  tx : Txt wr ga 0 A
  lr : w.heap.size < gr
  rt : ∀ j (h : j < ws.length), wr.cell? ⟨gr, j, none⟩ = some (.int .i64 ws[j])
  xl : xs.length ≤ 2000
  al : A.length ≤ 501
  wl : ws.length ≤ 6
  wn : ws ≠ []
  bw : BW xs A ws
/-- A cell of another block turns. -/
theorem E5.set {cb : Nat} {ao : Option Addr} {len cap : Nat} {zs : List Int} {w wr : World} {p : Option Addr} {b r : Nat} {xs : List Int} {ga : Nat} {A : List ByteArray} {gr : Nat} {ws : List Int} (h : E5 cb ao len cap zs w wr p b r xs ga A gr ws) (hcb : cb < w.heap.size) {X : Nat} (hX : w.heap.size ≤ X) (hb : b ≠ X) (ha : ga ≠ X) (hr : gr ≠ X) (u : Value) :
    E5 cb ao len cap zs w (wr.setCell ⟨X, 0, none⟩ u) p b r xs ga A gr ws := by
  have e : ∀ k o v, k ≠ X → wr.cell? ⟨k, o, none⟩ = some v → (wr.setCell ⟨X, 0, none⟩ u).cell? ⟨k, o, none⟩ = some v := fun k o v hk hc => by
    rw [World.cell?_setCell_other (h := fun e => by simp only [Addr.mk.injEq] at e; omega)]; exact hc
  exact ⟨h.dr.set hcb hX 0 u, h.lst, h.lb, fun j hj => e _ _ _ hb (h.wc j hj), h.la, fun j hj => e _ _ _ ha (h.tx j hj), h.lr, fun j hj => e _ _ _ hr (h.rt j hj), h.xl, h.al, h.wl, h.wn, h.bw⟩
structure An (cb : Nat) (ao : Option Addr) (len cap : Nat) (zs : List Int) (w wr : World) (X : Nat) (hv : Value) (ga ca gr cr : Nat) (xs : List Int) (A : List ByteArray) (ws : List Int) : Prop where
  cl : cb < w.heap.size
  dr : Drawn cb ao len cap zs w wr
  rc : wr.cell? ⟨w.heap.size, 0, none⟩ = some (.slice none 0 0)
  rf : wr.frozen? ⟨w.heap.size, 0, none⟩ = false
  xx : w.heap.size < X
  hc : wr.cell? ⟨X, 0, none⟩ = some hv
  hf : wr.frozen? ⟨X, 0, none⟩ = false
  wo : OwnW wr (w.heap.size + 1) hv xs
  ar : wr.ownsRow (w.heap.size + 1) 9 1 (.slice (some ⟨ga, 0, none⟩) A.length ca) A.length (A.map Value.string)
  rr : wr.ownsRow (w.heap.size + 1) 3 1 (.slice (some ⟨gr, 0, none⟩) ws.length cr) ws.length (ws.map (Value.int .i64))
  n1 : hv.ownBlock ≠ some gr
  n2 : ga ≠ gr
  x1 : hv.ownBlock ≠ some X
  x2 : ga ≠ X
  x3 : gr ≠ X
  xl : xs.length ≤ 2000
  al : A.length ≤ 500
  wl : ws.length ≤ 5
  wn : ws ≠ []
  bw : BW xs A ws
theorem an_of {cb : Nat} {ao : Option Addr} {len cap : Nat} {zs : List Int} {w w1 : World} {hv : Value} {ga ca gr cr : Nat} {xs : List Int} {A : List ByteArray} {ws : List Int} {t t2 : TypeId} (hcb : cb < w.heap.size) (d : D5 cb ao len cap zs (w.alloc (.cells #[.slice none 0 0] t)) w1 hv ga ca gr cr xs A ws) :
    An cb ao len cap zs w (w1.alloc (.cells #[hv] t2)) w1.heap.size hv ga ca gr cr xs A ws := by
  have hs : (w.alloc (.cells #[.slice none 0 0] t)).heap.size = w.heap.size + 1 := World.size_alloc _ _
  have sz := d.dr.2.size
  have hga := d.ar.lt ga rfl
  have hgr := d.rr.lt gr rfl
  have b0 := d.dr.2.block w.heap.size (by omega) (by omega)
  have k0 : w1.cell? ⟨w.heap.size, 0, none⟩ = some (.slice none 0 0) := by
    rw [World.cell?_of_block (w := w.alloc (.cells #[.slice none 0 0] t)) b0, World.cell?_alloc_new]; rfl
  have f0 : w1.frozen? ⟨w.heap.size, 0, none⟩ = false := by
    rw [World.frozen?_of_block (w := w.alloc (.cells #[.slice none 0 0] t)) b0, World.frozen?_alloc_new]
  have hd : Drawn cb ao len cap zs w w1 := ⟨d.dr.1, ((Turn.refl _ _).alloc _).trans d.dr.2⟩
  rw [hs] at hga hgr
  refine ⟨hcb, hd.alloc _, by rw [World.cell?_alloc_lt (h := by show w.heap.size < _; omega)]; exact k0, by rw [World.frozen?_alloc_old (h := by show w.heap.size ≠ _; omega)]; exact f0, by omega, World.cell?_alloc_new w1 _ _ 0, World.frozen?_alloc_new w1 _ _ 0, ?_, (own_low' d.ar (by omega)).alloc _, (own_low' d.rr (by omega)).alloc _, d.n1, d.n2, ?_, by omega, by omega, d.xl, d.al, d.wl, d.wn, d.bw.1⟩
  · rcases d.wo with k | ⟨g, c, e, ho⟩
    · exact .inl k
    · exact .inr ⟨g, c, e, (own_low' ho (by omega)).alloc _⟩
  · intro e
    have := d.wo.block e
    omega
theorem An.turn {cb : Nat} {ao : Option Addr} {len cap : Nat} {zs : List Int} {w wr w5 : World} {X : Nat} {hv : Value} {ga ca gr cr : Nat} {xs : List Int} {A : List ByteArray} {ws : List Int} (h : An cb ao len cap zs w wr X hv ga ca gr cr xs A ws) (d : Drawn cb ao len cap zs wr w5) : An cb ao len cap zs w w5 X hv ga ca gr cr xs A ws := by
  have cl := h.cl
  have xx := h.xx
  have l1 : w.heap.size < wr.heap.size := World.block_lt_of_cell? wr _ h.rc
  have l2 : X < wr.heap.size := World.block_lt_of_cell? wr _ h.hc
  have b1 := d.2.block w.heap.size l1 (by omega)
  have b2 := d.2.block X l2 (by omega)
  have ha := h.ar.lt ga rfl
  have hr := h.rr.lt gr rfl
  refine ⟨h.cl, ⟨d.1, h.dr.2.trans d.2⟩, ?_, ?_, h.xx, ?_, ?_, h.wo.kept d.2.grown (fun g e e2 => ?_), h.ar.kept d.2.grown (Or.inr (by simp [Value.ownBlock]; omega)), h.rr.kept d.2.grown (Or.inr (by simp [Value.ownBlock]; omega)), h.n1, h.n2, h.x1, h.x2, h.x3, h.xl, h.al, h.wl, h.wn, h.bw⟩
  · rw [World.cell?_of_block (w := wr) b1]; exact h.rc
  · rw [World.frozen?_of_block (w := wr) b1]; exact h.rf
  · rw [World.cell?_of_block (w := wr) b2]; exact h.hc
  · rw [World.frozen?_of_block (w := wr) b2]; exact h.hf
  · have := h.wo.block e2
    injection e with e
    omega
theorem An.below {cb : Nat} {ao : Option Addr} {len cap : Nat} {zs : List Int} {w wr w5 : World} {X : Nat} {hv : Value} {ga ca gr cr : Nat} {xs : List Int} {A : List ByteArray} {ws : List Int} (h : An cb ao len cap zs w wr X hv ga ca gr cr xs A ws) (hb : Below wr.heap.size wr w5) : An cb ao len cap zs w w5 X hv ga ca gr cr xs A ws :=
  h.turn ⟨h.dr.1.below hb, Turn.of_below hb⟩
theorem own_ints {w : World} {base g c : Nat} {xs : List Int} (h : w.ownsRow base 3 1 (.slice (some ⟨g, 0, none⟩) xs.length c) xs.length (xs.map (Value.int .i64))) : ∀ j (h : j < xs.length), w.cell? ⟨g, j, none⟩ = some (.int .i64 xs[j]) := fun j hj => by
  rw [h.cellAt j (by omega)]
  simp [hj]
theorem own_cap {w : World} {base g n c : Nat} {e : TypeId} {xs : List Value} (h : w.ownsRow base e 1 (.slice (some ⟨g, 0, none⟩) n c) n xs) : n ≤ c := by
  rcases h.2 with ⟨h0, _⟩ | ⟨g', cap, cur, h1, _, _, h4, _⟩
  · cases h0
  · injection h1 with _ h1 h2
    omega
/-- Where the words stand. -/
def blk (B : Nat) (v : Value) : Nat := v.ownBlock.getD B
theorem ownW_lst {w : World} {B : Nat} {p : Option Addr} {q r : Nat} {xs : List Int} (h : OwnW w B (.slice p q r) xs) : q = xs.length ∧ Gn.Lst p (blk B (.slice p q r)) 0 xs.length r ∧ B ≤ blk B (.slice p q r) ∧ ∀ j (h : j < xs.length), w.cell? ⟨blk B (.slice p q r), j, none⟩ = some (.int .i64 xs[j]) := by
  rcases h with ⟨e, rfl⟩ | ⟨g, c, e, ho⟩
  · injection e with e1 e2 e3
    subst e1 e2 e3
    exact ⟨rfl, .inr ⟨rfl, rfl, rfl⟩, Nat.le_refl _, fun j hj => absurd hj (Nat.not_lt_zero _)⟩
  · injection e with e1 e2 e3
    subst e1 e2 e3
    exact ⟨rfl, .inl ⟨rfl, own_cap ho⟩, (ho.lt g rfl).1, own_ints ho⟩
theorem An.e5 {cb : Nat} {ao : Option Addr} {len cap : Nat} {zs : List Int} {w wr : World} {X : Nat} {p : Option Addr} {q r : Nat} {ga ca gr cr : Nat} {xs : List Int} {A : List ByteArray} {ws : List Int} (h : An cb ao len cap zs w wr X (.slice p q r) ga ca gr cr xs A ws) :
    E5 cb ao len cap zs w wr p (blk (w.heap.size + 1) (.slice p q r)) r xs ga A gr ws := by
  obtain ⟨_, k1, k2, k3⟩ := ownW_lst h.wo
  have ha := h.ar.lt ga rfl
  have hr := h.rr.lt gr rfl
  exact ⟨h.dr, k1, by omega, k3, by omega, (own_txt h.ar).1, by omega, own_ints h.rr, h.xl, by have := h.al; omega, by have := h.wl; omega, h.wn, h.bw⟩
theorem E5.res {cb : Nat} {ao : Option Addr} {len cap : Nat} {zs : List Int} {w wr : World} {p : Option Addr} {b r : Nat} {xs : List Int} {ga : Nat} {A : List ByteArray} {gr : Nat} {ws : List Int} (h : E5 cb ao len cap zs w wr p b r xs ga A gr ws) (hcb : cb < w.heap.size) (u : Value) :
    E5 cb ao len cap zs w (wr.setCell ⟨w.heap.size, 0, none⟩ u) p b r xs ga A gr ws :=
  h.set hcb (Nat.le_refl _) (by have := h.lb; omega) (by have := h.la; omega) (by have := h.lr; omega) u
/-- One word turns. -/
theorem An.turn1 {cb : Nat} {ao : Option Addr} {len cap : Nat} {zs : List Int} {w wr : World} {X : Nat} {g q r : Nat} {ga ca gr cr : Nat} {xs : List Int} {A : List ByteArray} {ws : List Int} (h : An cb ao len cap zs w wr X (.slice (some ⟨g, 0, none⟩) q r) ga ca gr cr xs A ws) (k : Nat) (hk : k < xs.length) (y : Int) (hy : y ≤ 32000006) (hga : g ≠ ga) :
    E5 cb ao len cap zs w (wr.setCell ⟨g, k, none⟩ (.int .i64 y)) (some ⟨g, 0, none⟩) g r (xs.set k y) ga A gr ws := by
  obtain ⟨hq, k1, k2, k3⟩ := ownW_lst h.wo
  have eb : blk (w.heap.size + 1) (.slice (some ⟨g, 0, none⟩) q r) = g := rfl
  rw [eb] at k1 k2 k3
  have ha := h.ar.lt ga rfl
  have hr := h.rr.lt gr rfl
  have hgr : g ≠ gr := fun e => h.n1 (by rw [e]; rfl)
  have e : ∀ b o v, b ≠ g → wr.cell? ⟨b, o, none⟩ = some v → (wr.setCell ⟨g, k, none⟩ (.int .i64 y)).cell? ⟨b, o, none⟩ = some v := fun b o v hb hc => by
    rw [World.cell?_setCell_other (h := fun e => by simp only [Addr.mk.injEq] at e; omega)]; exact hc
  refine ⟨h.dr.set h.cl (by omega) k _, by rw [List.length_set]; exact k1, by omega, fun j hj => ?_, by omega, fun j hj => e _ _ _ (by omega) ((own_txt h.ar).1 j hj), by omega, fun j hj => e _ _ _ (by omega) (own_ints h.rr j hj), by rw [List.length_set]; exact h.xl, by have := h.al; omega, by have := h.wl; omega, h.wn, ⟨fun x hx => ?_, h.bw.2⟩⟩
  · rw [List.length_set] at hj
    by_cases hjk : k = j
    · subst hjk
      rw [World.cell?_setCell_same _ _ _ (k3 k hk)]
      simp
    · rw [World.cell?_setCell_other (h := fun e => by simp only [Addr.mk.injEq] at e; omega), k3 j hj, List.getElem_set_ne hjk]
  · rcases List.mem_or_eq_of_mem_set hx with hx | rfl
    · exact h.bw.1 x hx
    · exact hy
/-- The words are cut. -/
theorem An.cut {cb : Nat} {ao : Option Addr} {len cap : Nat} {zs : List Int} {w wr : World} {X : Nat} {p : Option Addr} {q r : Nat} {ga ca gr cr : Nat} {xs : List Int} {A : List ByteArray} {ws : List Int} (h : An cb ao len cap zs w wr X (.slice p q r) ga ca gr cr xs A ws) (k : Nat) (hk : k ≤ xs.length) (u : Value) :
    E5 cb ao len cap zs w (wr.setCell ⟨X, 0, none⟩ u) p (blk (w.heap.size + 1) (.slice p q r)) r (xs.take k) ga A gr ws ∨ p = none := by
  obtain ⟨hq, k1, k2, k3⟩ := ownW_lst h.wo
  rcases k1 with ⟨e1, e2⟩ | ⟨rfl, _⟩
  · refine .inl ?_
    have hl : (xs.take k).length = k := by rw [List.length_take]; omega
    have h5 : E5 cb ao len cap zs w wr p (blk (w.heap.size + 1) (.slice p q r)) r (xs.take k) ga A gr ws := by
      have h0 := h.e5
      refine ⟨h0.dr, .inl ⟨e1, by rw [hl]; omega⟩, h0.lb, fun j hj => ?_, h0.la, h0.tx, h0.lr, h0.rt, by rw [hl]; have := h.xl; omega, h0.al, h0.wl, h0.wn, ⟨fun x hx => h.bw.1 x (List.mem_of_mem_take hx), h.bw.2⟩⟩
      rw [List.getElem_take]
      exact k3 j (by omega)
    refine h5.set h.cl (Nat.le_of_lt h.xx) ?_ h.x2 h.x3 u
    intro e
    refine h.x1 ?_
    rw [e1]
    rw [e1] at e
    rw [← e]
    rfl
  · exact .inr rfl
end Go.Proofs.Ytabgfaafpgholaa

namespace Go.Proofs.Ytabgfaafpgholaa
open Go.RowKit
set_option linter.unusedVariables false

theorem own_unlike {w : World} {b1 b2 g h n m c d : Nat} {e f : TypeId} {xs ys : List Value} (k1 : w.ownsRow b1 e 1 (.slice (some ⟨g, 0, none⟩) n c) n xs) (k2 : w.ownsRow b2 f 1 (.slice (some ⟨h, 0, none⟩) m d) m ys) (hn : e ≠ f) : g ≠ h := by
  rintro rfl
  rcases k1.2 with ⟨h0, _⟩ | ⟨g', cap, cur, e1, _, e3, _⟩
  · cases h0
  rcases k2.2 with ⟨h0, _⟩ | ⟨g2, cap2, cur2, f1, _, f3, _⟩
  · cases h0
  injection e1 with e1
  injection e1 with e1
  injection f1 with f1
  injection f1 with f1
  injection e1 with e1
  injection f1 with f1
  subst e1 f1
  rw [e3] at f3
  simp at f3
  exact hn f3.2
def Any5 (cb : Nat) (ao : Option Addr) (len cap : Nat) (zs : List Int) (w : World) (e : Ending) (w' : World) : Prop :=
  ∃ p b r xs ga ca A gr cr ws, e = .returned (.tuple #[.agg #[.slice p xs.length r], .slice (some ⟨ga, 0, none⟩) A.length ca, .slice (some ⟨gr, 0, none⟩) ws.length cr]) ∧ E5 cb ao len cap zs w w' p b r xs ga A gr ws
theorem ints5 (w6 : World) (T : TypeId) : ∀ j, j < [(-1 : Int), 0, 5, 13, 8000000].length → (w6.alloc (.cells #[.int .i64 (-1), .int .i64 0, .int .i64 5, .int .i64 13, .int .i64 8000000] T)).cell? ⟨w6.heap.size, j, none⟩ = some (.int .i64 ([(-1 : Int), 0, 5, 13, 8000000].getD j 0)) := news_ints w6 [-1, 0, 5, 13, 8000000] T
/-- Behind atoms, or roots, with one more. -/
theorem An.atom {cb : Nat} {ao : Option Addr} {len cap : Nat} {zs : List Int} {w wr w6 : World} {X : Nat} {p : Option Addr} {q r : Nat} {ga ca gr cr g' c' : Nat} {xs : List Int} {A : List ByteArray} {ws : List Int} (x : ByteArray) (h : An cb ao len cap zs w wr X (.slice p q r) ga ca gr cr xs A ws) (hx : x.size ≤ 12)
    (ho : w6.ownsRow (w.heap.size + 1) 9 1 (.slice (some ⟨g', 0, none⟩) (A.length + 1) c') (A.length + 1) ((A.map Value.string) ++ [.string x])) (hg : wr.grownBy w6 (some ga)) :
    E5 cb ao len cap zs w w6 p (blk (w.heap.size + 1) (.slice p q r)) r xs g' (A ++ [x]) gr ws ∧ w6.cell? ⟨w.heap.size, 0, none⟩ = some (.slice none 0 0) ∧ w6.frozen? ⟨w.heap.size, 0, none⟩ = false ∧ w6.cell? ⟨X, 0, none⟩ = some (.slice p q r) := by
  have cl := h.cl
  have xx := h.xx
  have l1 : w.heap.size < wr.heap.size := World.block_lt_of_cell? wr _ h.rc
  have l2 : X < wr.heap.size := World.block_lt_of_cell? wr _ h.hc
  have ha := h.ar.lt ga rfl
  have hr := h.rr.lt gr rfl
  have n2 := h.n2
  have na : w.heap.size ≠ ga := by omega
  have nr : w.heap.size ≠ gr := by omega
  have bk := fun (k : Nat) (hk : k < wr.heap.size) (hn : k ≠ ga) => hg.block k hk (fun e => by injection e with e; exact hn e)
  have e : ∀ b o v, b ≠ ga → wr.cell? ⟨b, o, none⟩ = some v → w6.cell? ⟨b, o, none⟩ = some v := fun b o v hb hc => by
    have hl := World.block_lt_of_cell? wr _ hc
    rw [World.cell?_of_block (w := wr) (bk b hl hb)]; exact hc
  have e5 := h.e5
  have hA : w6.ownsRow (w.heap.size + 1) 9 1 (.slice (some ⟨g', 0, none⟩) (A ++ [x]).length c') (A ++ [x]).length ((A ++ [x]).map Value.string) := by
    rw [List.map_append, List.length_append]; exact ho
  refine ⟨⟨⟨h.dr.1.same (fun k hk => bk k (by omega) (by omega)), ⟨hg.os.trans h.dr.2.os, hg.tape.trans h.dr.2.tape, hg.output.trans h.dr.2.output, Nat.le_trans h.dr.2.size hg.size, fun k hk hn => (bk k (by omega) (by omega)).trans (h.dr.2.block k hk hn)⟩⟩, e5.lst, e5.lb, fun j hj => e _ _ _ ?_ (e5.wc j hj), by have := (ho.lt g' rfl).1; omega, (own_txt hA).1, e5.lr, fun j hj => e _ _ _ (fun q => n2 q.symm) (e5.rt j hj), e5.xl, by have := h.al; rw [List.length_append]; show A.length + 1 ≤ _; omega, e5.wl, e5.wn, ⟨h.bw.1, fun s hs => ?_, h.bw.2.2⟩⟩, ?_, ?_, ?_⟩
  · rcases h.wo with ⟨e1, e2⟩ | ⟨g, c, e1, ho2⟩
    · rw [e2] at hj; exact absurd hj (Nat.not_lt_zero _)
    · injection e1 with e1 e2 e3
      subst e1 e2 e3
      exact own_unlike ho2 h.ar (by decide)
  · rcases List.mem_append.1 hs with hs | hs
    · exact h.bw.2.1 s hs
    · have : s = x := by simpa using hs
      subst this; exact hx
  · exact e _ _ _ na h.rc
  · rw [World.frozen?_of_block (w := wr) (bk w.heap.size l1 na)]; exact h.rf
  · exact e _ _ _ (fun q => h.x2 q.symm) h.hc
theorem An.more {cb : Nat} {ao : Option Addr} {len cap : Nat} {zs : List Int} {w wr w6 : World} {X : Nat} {p : Option Addr} {q r : Nat} {ga ca gr cr g' c' : Nat} {xs : List Int} {A : List ByteArray} {ws : List Int} (x : Int) (h : An cb ao len cap zs w wr X (.slice p q r) ga ca gr cr xs A ws) (hx : x ≤ 32000006)
    (ho : w6.ownsRow (w.heap.size + 1) 3 1 (.slice (some ⟨g', 0, none⟩) (ws.length + 1) c') (ws.length + 1) ((ws.map (Value.int .i64)) ++ [.int .i64 x])) (hg : wr.grownBy w6 (some gr)) :
    E5 cb ao len cap zs w w6 p (blk (w.heap.size + 1) (.slice p q r)) r xs ga A g' (ws ++ [x]) ∧ w6.cell? ⟨w.heap.size, 0, none⟩ = some (.slice none 0 0) ∧ w6.frozen? ⟨w.heap.size, 0, none⟩ = false ∧ w6.cell? ⟨X, 0, none⟩ = some (.slice p q r) := by
  have cl := h.cl
  have xx := h.xx
  have l1 : w.heap.size < wr.heap.size := World.block_lt_of_cell? wr _ h.rc
  have l2 : X < wr.heap.size := World.block_lt_of_cell? wr _ h.hc
  have ha := h.ar.lt ga rfl
  have hr := h.rr.lt gr rfl
  have n2 := h.n2
  have na : w.heap.size ≠ ga := by omega
  have nr : w.heap.size ≠ gr := by omega
  have bk := fun (k : Nat) (hk : k < wr.heap.size) (hn : k ≠ gr) => hg.block k hk (fun e => by injection e with e; exact hn e)
  have e : ∀ b o v, b ≠ gr → wr.cell? ⟨b, o, none⟩ = some v → w6.cell? ⟨b, o, none⟩ = some v := fun b o v hb hc => by
    have hl := World.block_lt_of_cell? wr _ hc
    rw [World.cell?_of_block (w := wr) (bk b hl hb)]; exact hc
  have e5 := h.e5
  have hA : w6.ownsRow (w.heap.size + 1) 3 1 (.slice (some ⟨g', 0, none⟩) (ws ++ [x]).length c') (ws ++ [x]).length ((ws ++ [x]).map (Value.int .i64)) := by
    rw [List.map_append, List.length_append]; exact ho
  refine ⟨⟨⟨h.dr.1.same (fun k hk => bk k (by omega) (by omega)), ⟨hg.os.trans h.dr.2.os, hg.tape.trans h.dr.2.tape, hg.output.trans h.dr.2.output, Nat.le_trans h.dr.2.size hg.size, fun k hk hn => (bk k (by omega) (by omega)).trans (h.dr.2.block k hk hn)⟩⟩, e5.lst, e5.lb, fun j hj => e _ _ _ ?_ (e5.wc j hj), e5.la, fun j hj => e _ _ _ n2 (e5.tx j hj), by have := (ho.lt g' rfl).1; omega, own_ints hA, e5.xl, e5.al, by have := h.wl; rw [List.length_append]; show ws.length + 1 ≤ _; omega, by simp, ⟨h.bw.1, h.bw.2.1, fun s hs => ?_⟩⟩, ?_, ?_, ?_⟩
  · rcases h.wo with ⟨e1, e2⟩ | ⟨g, c, e1, ho2⟩
    · rw [e2] at hj; exact absurd hj (Nat.not_lt_zero _)
    · injection e1 with e1 e2 e3
      subst e1 e2 e3
      exact fun q => h.n1 (by rw [← q]; rfl)
  · rcases List.mem_append.1 hs with hs | hs
    · exact h.bw.2.2 s hs
    · have : s = x := by simpa using hs
      subst this; exact hx
  · exact e _ _ _ nr h.rc
  · rw [World.frozen?_of_block (w := wr) (bk w.heap.size l1 nr)]; exact h.rf
  · exact e _ _ _ (fun q => h.x3 q.symm) h.hc
theorem infoStr5 : (Try.prog.info? 9).map (fun i => (i.zero, i.size, i.bytes)) = some (some (.string ByteArray.empty), 1, 16) := by kernel_rfl
theorem undStrs5 : Try.prog.underlying 25 = some (.slice 9) := by kernel_rfl
theorem An.one {cb : Nat} {ao : Option Addr} {len cap : Nat} {zs : List Int} {w wr : World} {X : Nat} {g q r : Nat} {ga ca gr cr : Nat} {xs : List Int} {A : List ByteArray} {ws : List Int} (h : An cb ao len cap zs w wr X (.slice (some ⟨g, 0, none⟩) q r) ga ca gr cr xs A ws) (k : Nat) (hk : (k : Int) < (xs.length : Int)) (y : Int) (hy : y ≤ 32000006) :
    E5 cb ao len cap zs w (wr.setCell ⟨g, k, none⟩ (.int .i64 y)) (some ⟨g, 0, none⟩) g r (xs.set k y) ga A gr ws ∧ (wr.setCell ⟨g, k, none⟩ (.int .i64 y)).cell? ⟨w.heap.size, 0, none⟩ = some (.slice none 0 0) ∧ (wr.setCell ⟨g, k, none⟩ (.int .i64 y)).frozen? ⟨w.heap.size, 0, none⟩ = false ∧ (wr.setCell ⟨g, k, none⟩ (.int .i64 y)).cell? ⟨X, 0, none⟩ = some (.slice (some ⟨g, 0, none⟩) q r) := by
  have hgl : w.heap.size + 1 ≤ g := (h.wo.block rfl).1
  have hX : g ≠ X := fun e => h.x1 (by rw [← e]; rfl)
  refine ⟨h.turn1 k (by omega) y hy ?_, ?_, ?_, ?_⟩
  · rcases h.wo with ⟨e1, e2⟩ | ⟨g', c, e1, ho⟩
    · cases e1
    · injection e1 with e1 e2 e3
      injection e1 with e1
      injection e1 with e1
      subst e1 e2 e3
      exact own_unlike ho h.ar (by decide)
  · rw [World.cell?_setCell_other (h := fun e => by simp only [Addr.mk.injEq] at e; omega)]; exact h.rc
  · rw [World.frozen?_setCell]; exact h.rf
  · rw [World.cell?_setCell_other (h := fun e => by simp only [Addr.mk.injEq] at e; omega)]; exact h.hc
theorem An.cut2 {cb : Nat} {ao : Option Addr} {len cap : Nat} {zs : List Int} {w wr : World} {X : Nat} {g : Nat} {q r : Nat} {ga ca gr cr : Nat} {xs : List Int} {A : List ByteArray} {ws : List Int} (h : An cb ao len cap zs w wr X (.slice (some ⟨g, 0, none⟩) q r) ga ca gr cr xs A ws) (k : Nat) (hk : k ≤ xs.length) (u : Value) :
    E5 cb ao len cap zs w (wr.setCell ⟨X, 0, none⟩ u) (some ⟨g, 0, none⟩) g r (xs.take k) ga A gr ws ∧ (wr.setCell ⟨X, 0, none⟩ u).cell? ⟨w.heap.size, 0, none⟩ = some (.slice none 0 0) ∧ (wr.setCell ⟨X, 0, none⟩ u).frozen? ⟨w.heap.size, 0, none⟩ = false ∧ (wr.setCell ⟨X, 0, none⟩ u).cell? ⟨X, 0, none⟩ = some u := by
  have hxx := h.xx
  refine ⟨?_, ?_, ?_, World.cell?_setCell_same _ _ _ h.hc⟩
  · rcases h.cut k hk u with h5 | h5
    · exact h5
    · cases h5
  · rw [World.cell?_setCell_other (h := fun e => by simp only [Addr.mk.injEq] at e; omega)]; exact h.rc
  · rw [World.frozen?_setCell]; exact h.rf
theorem An.nil2 {cb : Nat} {ao : Option Addr} {len cap : Nat} {zs : List Int} {w wr : World} {X : Nat} {ga ca gr cr : Nat} {A : List ByteArray} {ws : List Int} (h : An cb ao len cap zs w wr X (.slice none 0 0) ga ca gr cr [] A ws) (u : Value) :
    E5 cb ao len cap zs w (wr.setCell ⟨X, 0, none⟩ u) none (X + 1) 0 [] ga A gr ws ∧ (wr.setCell ⟨X, 0, none⟩ u).cell? ⟨w.heap.size, 0, none⟩ = some (.slice none 0 0) ∧ (wr.setCell ⟨X, 0, none⟩ u).frozen? ⟨w.heap.size, 0, none⟩ = false ∧ (wr.setCell ⟨X, 0, none⟩ u).cell? ⟨X, 0, none⟩ = some u := by
  have hxx := h.xx
  have h0 := h.e5
  have h5 : E5 cb ao len cap zs w wr none (X + 1) 0 [] ga A gr ws := ⟨h0.dr, .inr ⟨rfl, rfl, rfl⟩, by omega, fun j hj => absurd hj (Nat.not_lt_zero _), h0.la, h0.tx, h0.lr, h0.rt, h0.xl, h0.al, h0.wl, h0.wn, h0.bw⟩
  refine ⟨h5.set h.cl (Nat.le_of_lt hxx) (by omega) h.x2 h.x3 u, ?_, ?_, World.cell?_setCell_same _ _ _ h.hc⟩
  · rw [World.cell?_setCell_other (h := fun e => by simp only [Addr.mk.injEq] at e; omega)]; exact h.rc
  · rw [World.frozen?_setCell]; exact h.rf
theorem two_small {x : ByteArray} (h : x ∈ [(⟨#[111, 107]⟩ : ByteArray), ⟨#[65]⟩]) : x.size ≤ 12 := by
  simp only [List.mem_cons, List.not_mem_nil, or_false] at h
  rcases h with rfl | rfl <;> decide
theorem six_small {x : Int} (h : x ∈ [(-1 : Int), 7, 3, 11, 12, 16000008]) : x ≤ 32000006 := by
  simp only [List.mem_cons, List.not_mem_nil, or_false] at h
  omega
theorem five_small {x : Int} (h : x ∈ [(-1 : Int), 0, 5, 13, 8000000]) : x ≤ 32000006 := by
  simp only [List.mem_cons, List.not_mem_nil, or_false] at h
  omega
theorem zero_of {x : Int} (h : 0 ≤ x) (h1 : x < 1) : x = 0 := by omega
theorem nat_of {x : Int} (h : 0 ≤ x) : ∃ k : Nat, x = k := ⟨x.toNat, by omega⟩
theorem cut_le {k n : Nat} {N1 : Int} (h : (n : Int) + 1 = N1) (hk : (k : Int) < N1) : k ≤ n := by omega
theorem cut_cap {k n c : Nat} (h : k ≤ n) (hk : n ≤ c) : k ≤ c := Nat.le_trans h hk
theorem cell_alloc6 {w5 : World} {b : Nat} {v : Value} {o : Obj} (h : w5.cell? ⟨b, 0, none⟩ = some v) : (w5.alloc o).cell? ⟨b, 0, none⟩ = some v := by
  rw [World.cell?_alloc_lt (h := World.block_lt_of_cell? _ _ h)]; exact h
theorem an_size {cb : Nat} {ao : Option Addr} {len cap : Nat} {zs : List Int} {w wr : World} {X : Nat} {hv : Value} {ga ca gr cr : Nat} {xs : List Int} {A : List ByteArray} {ws : List Int} (h : An cb ao len cap zs w wr X hv ga ca gr cr xs A ws) : w.heap.size + 1 ≤ wr.heap.size := World.block_lt_of_cell? wr _ h.rc
theorem an_word {cb : Nat} {ao : Option Addr} {len cap : Nat} {zs : List Int} {w wr : World} {X g q r : Nat} {ga ca gr cr : Nat} {xs : List Int} {A : List ByteArray} {ws : List Int} (h : An cb ao len cap zs w wr X (.slice (some ⟨g, 0, none⟩) q r) ga ca gr cr xs A ws) {k : Nat} (hk : (k : Int) < (xs.length : Int)) : ∃ z, wr.cell? ⟨g, k, none⟩ = some (.int .i64 z) ∧ wr.frozen? ⟨g, k, none⟩ = false := by
  rcases h.wo with ⟨e1, e2⟩ | ⟨g', c, e1, ho⟩
  · cases e1
  · injection e1 with e1 e2 e3
    injection e1 with e1
    injection e1 with e1
    subst e1 e2 e3
    exact ⟨_, own_ints ho k (by omega), ho.frozenAt k⟩
theorem an_lst {cb : Nat} {ao : Option Addr} {len cap : Nat} {zs : List Int} {w wr : World} {X : Nat} {p : Option Addr} {q r : Nat} {ga ca gr cr : Nat} {xs : List Int} {A : List ByteArray} {ws : List Int} (h : An cb ao len cap zs w wr X (.slice p q r) ga ca gr cr xs A ws) : (∃ g, p = some ⟨g, 0, none⟩ ∧ xs.length ≤ r) ∨ (p = none ∧ xs = [] ∧ r = 0) := by
  rcases h.wo with ⟨e1, e2⟩ | ⟨g', c, e1, ho⟩
  · injection e1 with e1 _ e3
    exact .inr ⟨e1, e2, e3⟩
  · injection e1 with e1 e2 e3
    subst e1 e2 e3
    exact .inl ⟨_, rfl, own_cap ho⟩
end Go.Proofs.Ytabgfaafpgholaa
