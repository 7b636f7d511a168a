/-
  What l5Any has in hand, and what it answers.
  spec.l5Any.
-/
import Derived.Test.YthdoamdjhpkimaaPuL
import Derived.Test.YthdoamdjhpkimaaRgG
namespace Go.Proofs.Ythdoamdjhpkimaa
open Go.RowKit
set_option linter.unusedVariables false

/-- A drawn heap, as it is read: words, atoms, roots. -/
structure E5 (cb : Nat) (ao : Option Addr) (len cap : Nat) (zs : List Int) (w wr : World) (p : Option Addr) (b r : Nat) (xs : List Int) (ga : Nat) (A : List ByteArray) (gr : Nat) (ws : List Int) : Prop where
  dr : Drawn cb ao len cap zs w wr
  lst : Gn.Lst p b 0 xs.length r
  lb : w.heap.size < b
  wc : ∀ j (h : j < xs.length), wr.cell? ⟨b, j, none⟩ = some (.int .i64 xs[j])
  la : w.heap.size < ga
  tx : Txt wr ga 0 A
  lr : w.heap.size < gr
  rt : ∀ j (h : j < ws.length), wr.cell? ⟨gr, j, none⟩ = some (.int .i64 ws[j])
  xl : xs.length ≤ 2000
  al : A.length ≤ 501
  wl : ws.length ≤ 6
  wn : ws ≠ []
  bw : BW xs A ws
/-- A cell of another block turns. -/
theorem E5.set {cb : Nat} {ao : Option Addr} {len cap : Nat} {zs : List Int} {w wr : World} {p : Option Addr} {b r : Nat} {xs : List Int} {ga : Nat} {A : List ByteArray} {gr : Nat} {ws : List Int} (h : E5 cb ao len cap zs w wr p b r xs ga A gr ws) (hcb : cb < w.heap.size) {X : Nat} (hX : w.heap.size ≤ X) (hb : b ≠ X) (ha : ga ≠ X) (hr : gr ≠ X) (u : Value) :
    E5 cb ao len cap zs w (wr.setCell ⟨X, 0, none⟩ u) p b r xs ga A gr ws := by
  have e : ∀ k o v, k ≠ X → wr.cell? ⟨k, o, none⟩ = some v → (wr.setCell ⟨X, 0, none⟩ u).cell? ⟨k, o, none⟩ = some v := fun k o v hk hc => by
    rw [World.cell?_setCell_other (h := fun e => by simp only [Addr.mk.injEq] at e; omega)]; exact hc
  exact ⟨h.dr.set hcb hX 0 u, h.lst, h.lb, fun j hj => e _ _ _ hb (h.wc j hj), h.la, fun j hj => e _ _ _ ha (h.tx j hj), h.lr, fun j hj => e _ _ _ hr (h.rt j hj), h.xl, h.al, h.wl, h.wn, h.bw⟩
structure An (cb : Nat) (ao : Option Addr) (len cap : Nat) (zs : List Int) (w wr : World) (X : Nat) (hv : Value) (ga ca gr cr : Nat) (xs : List Int) (A : List ByteArray) (ws : List Int) : Prop where
  cl : cb < w.heap.size
  dr : Drawn cb ao len cap zs w wr
  rc : wr.cell? ⟨w.heap.size, 0, none⟩ = some (.slice none 0 0)
  rf : wr.frozen? ⟨w.heap.size, 0, none⟩ = false
  xx : w.heap.size < X
  hc : wr.cell? ⟨X, 0, none⟩ = some hv
  hf : wr.frozen? ⟨X, 0, none⟩ = false
  wo : OwnW wr (w.heap.size + 1) hv xs
  ar : wr.ownsRow (w.heap.size + 1) 9 1 (.slice (some ⟨ga, 0, none⟩) A.length ca) A.length (A.map Value.string)
  rr : wr.ownsRow (w.heap.size + 1) 3 1 (.slice (some ⟨gr, 0, none⟩) ws.length cr) ws.length (ws.map (Value.int .i64))
  n1 : hv.ownBlock ≠ some gr
  n2 : ga ≠ gr
  x1 : hv.ownBlock ≠ some X
  x2 : ga ≠ X
  x3 : gr ≠ X
  xl : xs.length ≤ 2000
  al : A.length ≤ 500
  wl : ws.length ≤ 5
  wn : ws ≠ []
  bw : BW xs A ws
theorem an_of {cb : Nat} {ao : Option Addr} {len cap : Nat} {zs : List Int} {w w1 : World} {hv : Value} {ga ca gr cr : Nat} {xs : List Int} {A : List ByteArray} {ws : List Int} {t t2 : TypeId} (hcb : cb < w.heap.size) (d : D5 cb ao len cap zs (w.alloc (.cells #[.slice none 0 0] t)) w1 hv ga ca gr cr xs A ws) :
    An cb ao len cap zs w (w1.alloc (.cells #[hv] t2)) w1.heap.size hv ga ca gr cr xs A ws := by
  have hs : (w.alloc (.cells #[.slice none 0 0] t)).heap.size = w.heap.size + 1 := World.size_alloc _ _
  have sz := d.dr.2.size
  have hga := d.ar.lt ga rfl
  have hgr := d.rr.lt gr rfl
  have b0 := d.dr.2.block w.heap.size (by omega) (by omega)
  have k0 : w1.cell? ⟨w.heap.size, 0, none⟩ = some (.slice none 0 0) := by
    rw [World.cell?_of_block (w := w.alloc (.cells #[.slice none 0 0] t)) b0, World.cell?_alloc_new]; rfl
  have f0 : w1.frozen? ⟨w.heap.size, 0, none⟩ = false := by
    rw [World.frozen?_of_block (w := w.alloc (.cells #[.slice none 0 0] t)) b0, World.frozen?_alloc_new]
  have hd : Drawn cb ao len cap zs w w1 := ⟨d.dr.1, ((Turn.refl _ _).alloc _).trans d.dr.2⟩
  rw [hs] at hga hgr
  refine ⟨hcb, hd.alloc _, by rw [World.cell?_alloc_lt (h := by show w.heap.size < _; omega)]; exact k0, by rw [World.frozen?_alloc_old (h := by show w.heap.size ≠ _; omega)]; exact f0, by omega, World.cell?_alloc_new w1 _ _ 0, World.frozen?_alloc_new w1 _ _ 0, ?_, (own_low' d.ar (by omega)).alloc _, (own_low' d.rr (by omega)).alloc _, d.n1, d.n2, ?_, by omega, by omega, d.xl, d.al, d.wl, d.wn, d.bw⟩
  · rcases d.wo with k | ⟨g, c, e, ho⟩
    · exact .inl k
    · exact .inr ⟨g, c, e, (own_low' ho (by omega)).alloc _⟩
  · intro e
    have := d.wo.block e
    omega
theorem An.turn {cb : Nat} {ao : Option Addr} {len cap : Nat} {zs : List Int} {w wr w5 : World} {X : Nat} {hv : Value} {ga ca gr cr : Nat} {xs : List Int} {A : List ByteArray} {ws : List Int} (h : An cb ao len cap zs w wr X hv ga ca gr cr xs A ws) (d : Drawn cb ao len cap zs wr w5) : An cb ao len cap zs w w5 X hv ga ca gr cr xs A ws := by
  have cl := h.cl
  have xx := h.xx
  have l1 : w.heap.size < wr.heap.size := World.block_lt_of_cell? wr _ h.rc
  have l2 : X < wr.heap.size := World.block_lt_of_cell? wr _ h.hc
  have b1 := d.2.block w.heap.size l1 (by omega)
  have b2 := d.2.block X l2 (by omega)
  have ha := h.ar.lt ga rfl
  have hr := h.rr.lt gr rfl
  refine ⟨h.cl, ⟨d.1, h.dr.2.trans d.2⟩, ?_, ?_, h.xx, ?_, ?_, h.wo.kept d.2.grown (fun g e e2 => ?_), h.ar.kept d.2.grown (Or.inr (by simp [Value.ownBlock]; omega)), h.rr.kept d.2.grown (Or.inr (by simp [Value.ownBlock]; omega)), h.n1, h.n2, h.x1, h.x2, h.x3, h.xl, h.al, h.wl, h.wn, h.bw⟩
  · rw [World.cell?_of_block (w := wr) b1]; exact h.rc
  · rw [World.frozen?_of_block (w := wr) b1]; exact h.rf
  · rw [World.cell?_of_block (w := wr) b2]; exact h.hc
  · rw [World.frozen?_of_block (w := wr) b2]; exact h.hf
  · have := h.wo.block e2
    injection e with e
    omega
theorem An.below {cb : Nat} {ao : Option Addr} {len cap : Nat} {zs : List Int} {w wr w5 : World} {X : Nat} {hv : Value} {ga ca gr cr : Nat} {xs : List Int} {A : List ByteArray} {ws : List Int} (h : An cb ao len cap zs w wr X hv ga ca gr cr xs A ws) (hb : Below wr.heap.size wr w5) : An cb ao len cap zs w w5 X hv ga ca gr cr xs A ws :=
  h.turn ⟨h.dr.1.below hb, Turn.of_below hb⟩
theorem own_ints {w : World} {base g c : Nat} {xs : List Int} (h : w.ownsRow base 3 1 (.slice (some ⟨g, 0, none⟩) xs.length c) xs.length (xs.map (Value.int .i64))) : ∀ j (h : j < xs.length), w.cell? ⟨g, j, none⟩ = some (.int .i64 xs[j]) := fun j hj => by
  rw [h.cellAt j (by omega)]
  simp [hj]
theorem own_cap {w : World} {base g n c : Nat} {e : TypeId} {xs : List Value} (h : w.ownsRow base e 1 (.slice (some ⟨g, 0, none⟩) n c) n xs) : n ≤ c := by
  rcases h.2 with ⟨h0, _⟩ | ⟨g', cap, cur, h1, _, _, h4, _⟩
  · cases h0
  · injection h1 with _ h1 h2
    omega
/-- Where the words stand. -/
def blk (B : Nat) (v : Value) : Nat := v.ownBlock.getD B
theorem ownW_lst {w : World} {B : Nat} {p : Option Addr} {q r : Nat} {xs : List Int} (h : OwnW w B (.slice p q r) xs) : q = xs.length ∧ Gn.Lst p (blk B (.slice p q r)) 0 xs.length r ∧ B ≤ blk B (.slice p q r) ∧ ∀ j (h : j < xs.length), w.cell? ⟨blk B (.slice p q r), j, none⟩ = some (.int .i64 xs[j]) := by
  rcases h with ⟨e, rfl⟩ | ⟨g, c, e, ho⟩
  · injection e with e1 e2 e3
    subst e1 e2 e3
    exact ⟨rfl, .inr ⟨rfl, rfl, rfl⟩, Nat.le_refl _, fun j hj => absurd hj (Nat.not_lt_zero _)⟩
  · injection e with e1 e2 e3
    subst e1 e2 e3
    exact ⟨rfl, .inl ⟨rfl, own_cap ho⟩, (ho.lt g rfl).1, own_ints ho⟩
theorem An.e5 {cb : Nat} {ao : Option Addr} {len cap : Nat} {zs : List Int} {w wr : World} {X : Nat} {p : Option Addr} {q r : Nat} {ga ca gr cr : Nat} {xs : List Int} {A : List ByteArray} {ws : List Int} (h : An cb ao len cap zs w wr X (.slice p q r) ga ca gr cr xs A ws) :
    E5 cb ao len cap zs w wr p (blk (w.heap.size + 1) (.slice p q r)) r xs ga A gr ws := by
  obtain ⟨_, k1, k2, k3⟩ := ownW_lst h.wo
  have ha := h.ar.lt ga rfl
  have hr := h.rr.lt gr rfl
  exact ⟨h.dr, k1, by omega, k3, by omega, (own_txt h.ar).1, by omega, own_ints h.rr, h.xl, by have := h.al; omega, by have := h.wl; omega, h.wn, h.bw⟩
theorem E5.res {cb : Nat} {ao : Option Addr} {len cap : Nat} {zs : List Int} {w wr : World} {p : Option Addr} {b r : Nat} {xs : List Int} {ga : Nat} {A : List ByteArray} {gr : Nat} {ws : List Int} (h : E5 cb ao len cap zs w wr p b r xs ga A gr ws) (hcb : cb < w.heap.size) (u : Value) :
    E5 cb ao len cap zs w (wr.setCell ⟨w.heap.size, 0, none⟩ u) p b r xs ga A gr ws :=
  h.set hcb (Nat.le_refl _) (by have := h.lb; omega) (by have := h.la; omega) (by have := h.lr; omega) u
/-- One word turns. -/
theorem An.turn1 {cb : Nat} {ao : Option Addr} {len cap : Nat} {zs : List Int} {w wr : World} {X : Nat} {g q r : Nat} {ga ca gr cr : Nat} {xs : List Int} {A : List ByteArray} {ws : List Int} (h : An cb ao len cap zs w wr X (.slice (some ⟨g, 0, none⟩) q r) ga ca gr cr xs A ws) (k : Nat) (hk : k < xs.length) (y : Int) (hy : y ≤ 32000006) (hga : g ≠ ga) :
    E5 cb ao len cap zs w (wr.setCell ⟨g, k, none⟩ (.int .i64 y)) (some ⟨g, 0, none⟩) g r (xs.set k y) ga A gr ws := by
  obtain ⟨hq, k1, k2, k3⟩ := ownW_lst h.wo
  have eb : blk (w.heap.size + 1) (.slice (some ⟨g, 0, none⟩) q r) = g := rfl
  rw [eb] at k1 k2 k3
  have ha := h.ar.lt ga rfl
  have hr := h.rr.lt gr rfl
  have hgr : g ≠ gr := fun e => h.n1 (by rw [e]; rfl)
  have e : ∀ b o v, b ≠ g → wr.cell? ⟨b, o, none⟩ = some v → (wr.setCell ⟨g, k, none⟩ (.int .i64 y)).cell? ⟨b, o, none⟩ = some v := fun b o v hb hc => by
    rw [World.cell?_setCell_other (h := fun e => by simp only [Addr.mk.injEq] at e; omega)]; exact hc
  refine ⟨h.dr.set h.cl (by omega) k _, by rw [List.length_set]; exact k1, by omega, fun j hj => ?_, by omega, fun j hj => e _ _ _ (by omega) ((own_txt h.ar).1 j hj), by omega, fun j hj => e _ _ _ (by omega) (own_ints h.rr j hj), by rw [List.length_set]; exact h.xl, by have := h.al; omega, by have := h.wl; omega, h.wn, ⟨fun x hx => ?_, h.bw.2⟩⟩
  · rw [List.length_set] at hj
    by_cases hjk : k = j
    · subst hjk
      rw [World.cell?_setCell_same _ _ _ (k3 k hk)]
      simp
    · rw [World.cell?_setCell_other (h := fun e => by simp only [Addr.mk.injEq] at e; omega), k3 j hj, List.getElem_set_ne hjk]
  · rcases List.mem_or_eq_of_mem_set hx with hx | rfl
    · exact h.bw.1 x hx
    · exact hy
/-- The words are cut. -/
theorem An.cut {cb : Nat} {ao : Option Addr} {len cap : Nat} {zs : List Int} {w wr : World} {X : Nat} {p : Option Addr} {q r : Nat} {ga ca gr cr : Nat} {xs : List Int} {A : List ByteArray} {ws : List Int} (h : An cb ao len cap zs w wr X (.slice p q r) ga ca gr cr xs A ws) (k : Nat) (hk : k ≤ xs.length) (u : Value) :
    E5 cb ao len cap zs w (wr.setCell ⟨X, 0, none⟩ u) p (blk (w.heap.size + 1) (.slice p q r)) r (xs.take k) ga A gr ws ∨ p = none := by
  obtain ⟨hq, k1, k2, k3⟩ := ownW_lst h.wo
  rcases k1 with ⟨e1, e2⟩ | ⟨rfl, _⟩
  · refine .inl ?_
    have hl : (xs.take k).length = k := by rw [List.length_take]; omega
    have h5 : E5 cb ao len cap zs w wr p (blk (w.heap.size + 1) (.slice p q r)) r (xs.take k) ga A gr ws := by
      have h0 := h.e5
      refine ⟨h0.dr, .inl ⟨e1, by rw [hl]; omega⟩, h0.lb, fun j hj => ?_, h0.la, h0.tx, h0.lr, h0.rt, by rw [hl]; have := h.xl; omega, h0.al, h0.wl, h0.wn, ⟨fun x hx => h.bw.1 x (List.mem_of_mem_take hx), h.bw.2⟩⟩
      rw [List.getElem_take]
      exact k3 j (by omega)
    refine h5.set h.cl (Nat.le_of_lt h.xx) ?_ h.x2 h.x3 u
    intro e
    refine h.x1 ?_
    rw [e1]
    rw [e1] at e
    rw [← e]
    rfl
  · exact .inr rfl
end Go.Proofs.Ythdoamdjhpkimaa

namespace Go.Proofs.Ythdoamdjhpkimaa
open Go.RowKit
set_option linter.unusedVariables false

theorem own_unlike {w : World} {b1 b2 g h n m c d : Nat} {e f : TypeId} {xs ys : List Value} (k1 : w.ownsRow b1 e 1 (.slice (some ⟨g, 0, none⟩) n c) n xs) (k2 : w.ownsRow b2 f 1 (.slice (some ⟨h, 0, none⟩) m d) m ys) (hn : e ≠ f) : g ≠ h := by
  rintro rfl
  rcases k1.2 with ⟨h0, _⟩ | ⟨g', cap, cur, e1, _, e3, _⟩
  · cases h0
  rcases k2.2 with ⟨h0, _⟩ | ⟨g2, cap2, cur2, f1, _, f3, _⟩
  · cases h0
  injection e1 with e1
  injection e1 with e1
  injection f1 with f1
  injection f1 with f1
  injection e1 with e1
  injection f1 with f1
  subst e1 f1
  rw [e3] at f3
  simp at f3
  exact hn f3.2
def Any5 (cb : Nat) (ao : Option Addr) (len cap : Nat) (zs : List Int) (w : World) (e : Ending) (w' : World) : Prop :=
  ∃ p b r xs ga ca A gr cr ws, e = .returned (.tuple #[.agg #[.slice p xs.length r], .slice (some ⟨ga, 0, none⟩) A.length ca, .slice (some ⟨gr, 0, none⟩) ws.length cr]) ∧ E5 cb ao len cap zs w w' p b r xs ga A gr ws
theorem ints5 (w6 : World) (T : TypeId) : ∀ j, j < [(-1 : Int), 0, 5, 13, 8000000].length → (w6.alloc (.cells #[.int .i64 (-1), .int .i64 0, .int .i64 5, .int .i64 13, .int .i64 8000000] T)).cell? ⟨w6.heap.size, j, none⟩ = some (.int .i64 ([(-1 : Int), 0, 5, 13, 8000000].getD j 0)) := news_ints w6 [-1, 0, 5, 13, 8000000] T
/-- Behind atoms, or roots, with one more. -/
theorem An.atom {cb : Nat} {ao : Option Addr} {len cap : Nat} {zs : List Int} {w wr w6 : World} {X : Nat} {p : Option Addr} {q r : Nat} {ga ca gr cr g' c' : Nat} {xs : List Int} {A : List ByteArray} {ws : List Int} (x : ByteArray) (h : An cb ao len cap zs w wr X (.slice p q r) ga ca gr cr xs A ws) (hx : x.size ≤ 12)
    (ho : w6.ownsRow (w.heap.size + 1) 9 1 (.slice (some ⟨g', 0, none⟩) (A.length + 1) c') (A.length + 1) ((A.map Value.string) ++ [.string x])) (hg : wr.grownBy w6 (some ga)) :
    E5 cb ao len cap zs w w6 p (blk (w.heap.size + 1) (.slice p q r)) r xs g' (A ++ [x]) gr ws ∧ w6.cell? ⟨w.heap.size, 0, none⟩ = some (.slice none 0 0) ∧ w6.frozen? ⟨w.heap.size, 0, none⟩ = false ∧ w6.cell? ⟨X, 0, none⟩ = some (.slice p q r) := by
  have cl := h.cl
  have xx := h.xx
  have l1 : w.heap.size < wr.heap.size := World.block_lt_of_cell? wr _ h.rc
  have l2 : X < wr.heap.size := World.block_lt_of_cell? wr _ h.hc
  have ha := h.ar.lt ga rfl
  have hr := h.rr.lt gr rfl
  have n2 := h.n2
  have na : w.heap.size ≠ ga := by omega
  have nr : w.heap.size ≠ gr := by omega
  have bk := fun (k : Nat) (hk : k < wr.heap.size) (hn : k ≠ ga) => hg.block k hk (fun e => by injection e with e; exact hn e)
  have e : ∀ b o v, b ≠ ga → wr.cell? ⟨b, o, none⟩ = some v → w6.cell? ⟨b, o, none⟩ = some v := fun b o v hb hc => by
    have hl := World.block_lt_of_cell? wr _ hc
    rw [World.cell?_of_block (w := wr) (bk b hl hb)]; exact hc
  have e5 := h.e5
  have hA : w6.ownsRow (w.heap.size + 1) 9 1 (.slice (some ⟨g', 0, none⟩) (A ++ [x]).length c') (A ++ [x]).length ((A ++ [x]).map Value.string) := by
    rw [List.map_append, List.length_append]; exact ho
  refine ⟨⟨⟨h.dr.1.same (fun k hk => bk k (by omega) (by omega)), ⟨hg.os.trans h.dr.2.os, hg.tape.trans h.dr.2.tape, hg.output.trans h.dr.2.output, Nat.le_trans h.dr.2.size hg.size, fun k hk hn => (bk k (by omega) (by omega)).trans (h.dr.2.block k hk hn)⟩⟩, e5.lst, e5.lb, fun j hj => e _ _ _ ?_ (e5.wc j hj), by have := (ho.lt g' rfl).1; omega, (own_txt hA).1, e5.lr, fun j hj => e _ _ _ (fun q => n2 q.symm) (e5.rt j hj), e5.xl, by have := h.al; rw [List.length_append]; show A.length + 1 ≤ _; omega, e5.wl, e5.wn, ⟨h.bw.1, fun s hs => ?_, h.bw.2.2⟩⟩, ?_, ?_, ?_⟩
  · rcases h.wo with ⟨e1, e2⟩ | ⟨g, c, e1, ho2⟩
    · rw [e2] at hj; exact absurd hj (Nat.not_lt_zero _)
    · injection e1 with e1 e2 e3
      subst e1 e2 e3
      exact own_unlike ho2 h.ar (by decide)
  · rcases List.mem_append.1 hs with hs | hs
    · exact h.bw.2.1 s hs
    · have : s = x := by simpa using hs
      subst this; exact hx
  · exact e _ _ _ na h.rc
  · rw [World.frozen?_of_block (w := wr) (bk w.heap.size l1 na)]; exact h.rf
  · exact e _ _ _ (fun q => h.x2 q.symm) h.hc
theorem An.more {cb : Nat} {ao : Option Addr} {len cap : Nat} {zs : List Int} {w wr w6 : World} {X : Nat} {p : Option Addr} {q r : Nat} {ga ca gr cr g' c' : Nat} {xs : List Int} {A : List ByteArray} {ws : List Int} (x : Int) (h : An cb ao len cap zs w wr X (.slice p q r) ga ca gr cr xs A ws) (hx : x ≤ 32000006)
    (ho : w6.ownsRow (w.heap.size + 1) 3 1 (.slice (some ⟨g', 0, none⟩) (ws.length + 1) c') (ws.length + 1) ((ws.map (Value.int .i64)) ++ [.int .i64 x])) (hg : wr.grownBy w6 (some gr)) :
    E5 cb ao len cap zs w w6 p (blk (w.heap.size + 1) (.slice p q r)) r xs ga A g' (ws ++ [x]) ∧ w6.cell? ⟨w.heap.size, 0, none⟩ = some (.slice none 0 0) ∧ w6.frozen? ⟨w.heap.size, 0, none⟩ = false ∧ w6.cell? ⟨X, 0, none⟩ = some (.slice p q r) := by
  have cl := h.cl
  have xx := h.xx
  have l1 : w.heap.size < wr.heap.size := World.block_lt_of_cell? wr _ h.rc
  have l2 : X < wr.heap.size := World.block_lt_of_cell? wr _ h.hc
  have ha := h.ar.lt ga rfl
  have hr := h.rr.lt gr rfl
  have n2 := h.n2
  have na : w.heap.size ≠ ga := by omega
  have nr : w.heap.size ≠ gr := by omega
  have bk := fun (k : Nat) (hk : k < wr.heap.size) (hn : k ≠ gr) => hg.block k hk (fun e => by injection e with e; exact hn e)
  have e : ∀ b o v, b ≠ gr → wr.cell? ⟨b, o, none⟩ = some v → w6.cell? ⟨b, o, none⟩ = some v := fun b o v hb hc => by
    have hl := World.block_lt_of_cell? wr _ hc
    rw [World.cell?_of_block (w := wr) (bk b hl hb)]; exact hc
  have e5 := h.e5
  have hA : w6.ownsRow (w.heap.size + 1) 3 1 (.slice (some ⟨g', 0, none⟩) (ws ++ [x]).length c') (ws ++ [x]).length ((ws ++ [x]).map (Value.int .i64)) := by
    rw [List.map_append, List.length_append]; exact ho
  refine ⟨⟨⟨h.dr.1.same (fun k hk => bk k (by omega) (by omega)), ⟨hg.os.trans h.dr.2.os, hg.tape.trans h.dr.2.tape, hg.output.trans h.dr.2.output, Nat.le_trans h.dr.2.size hg.size, fun k hk hn => (bk k (by omega) (by omega)).trans (h.dr.2.block k hk hn)⟩⟩, e5.lst, e5.lb, fun j hj => e _ _ _ ?_ (e5.wc j hj), e5.la, fun j hj => e _ _ _ n2 (e5.tx j hj), by have := (ho.lt g' rfl).1; omega, own_ints hA, e5.xl, e5.al, by have := h.wl; rw [List.length_append]; show ws.length + 1 ≤ _; omega, by simp, ⟨h.bw.1, h.bw.2.1, fun s hs => ?_⟩⟩, ?_, ?_, ?_⟩
  · rcases h.wo with ⟨e1, e2⟩ | ⟨g, c, e1, ho2⟩
    · rw [e2] at hj; exact absurd hj (Nat.not_lt_zero _)
    · injection e1 with e1 e2 e3
      subst e1 e2 e3
      exact fun q => h.n1 (by rw [← q]; rfl)
  · rcases List.mem_append.1 hs with hs | hs
    · exact h.bw.2.2 s hs
    · have : s = x := by simpa using hs
      subst this; exact hx
  · exact e _ _ _ nr h.rc
  · rw [World.frozen?_of_block (w := wr) (bk w.heap.size l1 nr)]; exact h.rf
  · exact e _ _ _ (fun q => h.x3 q.symm) h.hc
theorem infoStr5 : (Try.prog.info? 9).map (fun i => (i.zero, i.size, i.bytes)) = some (some (.string ByteArray.empty), 1, 16) := by kernel_rfl
theorem undStrs5 : Try.prog.underlying 27 = some (.slice 9) := by kernel_rfl
theorem An.one {cb : Nat} {ao : Option Addr} {len cap : Nat} {zs : List Int} {w wr : World} {X : Nat} {g q r : Nat} {ga ca gr cr : Nat} {xs : List Int} {A : List ByteArray} {ws : List Int} (h : An cb ao len cap zs w wr X (.slice (some ⟨g, 0, none⟩) q r) ga ca gr cr xs A ws) (k : Nat) (hk : (k : Int) < (xs.length : Int)) (y : Int) (hy : y ≤ 32000006) :
    E5 cb ao len cap zs w (wr.setCell ⟨g, k, none⟩ (.int .i64 y)) (some ⟨g, 0, none⟩) g r (xs.set k y) ga A gr ws ∧ (wr.setCell ⟨g, k, none⟩ (.int .i64 y)).cell? ⟨w.heap.size, 0, none⟩ = some (.slice none 0 0) ∧ (wr.setCell ⟨g, k, none⟩ (.int .i64 y)).frozen? ⟨w.heap.size, 0, none⟩ = false ∧ (wr.setCell ⟨g, k, none⟩ (.int .i64 y)).cell? ⟨X, 0, none⟩ = some (.slice (some ⟨g, 0, none⟩) q r) := by
  have hgl : w.heap.size + 1 ≤ g := (h.wo.block rfl).1
  have hX : g ≠ X := fun e => h.x1 (by rw [← e]; rfl)
  refine ⟨h.turn1 k (by omega) y hy ?_, ?_, ?_, ?_⟩
  · rcases h.wo with ⟨e1, e2⟩ | ⟨g', c, e1, ho⟩
    · cases e1
    · injection e1 with e1 e2 e3
      injection e1 with e1
      injection e1 with e1
      subst e1 e2 e3
      exact own_unlike ho h.ar (by decide)
  · rw [World.cell?_setCell_other (h := fun e => by simp only [Addr.mk.injEq] at e; omega)]; exact h.rc
  · rw [World.frozen?_setCell]; exact h.rf
  · rw [World.cell?_setCell_other (h := fun e => by simp only [Addr.mk.injEq] at e; omega)]; exact h.hc
theorem An.cut2 {cb : Nat} {ao : Option Addr} {len cap : Nat} {zs : List Int} {w wr : World} {X : Nat} {g : Nat} {q r : Nat} {ga ca gr cr : Nat} {xs : List Int} {A : List ByteArray} {ws : List Int} (h : An cb ao len cap zs w wr X (.slice (some ⟨g, 0, none⟩) q r) ga ca gr cr xs A ws) (k : Nat) (hk : k ≤ xs.length) (u : Value) :
    E5 cb ao len cap zs w (wr.setCell ⟨X, 0, none⟩ u) (some ⟨g, 0, none⟩) g r (xs.take k) ga A gr ws ∧ (wr.setCell ⟨X, 0, none⟩ u).cell? ⟨w.heap.size, 0, none⟩ = some (.slice none 0 0) ∧ (wr.setCell ⟨X, 0, none⟩ u).frozen? ⟨w.heap.size, 0, none⟩ = false ∧ (wr.setCell ⟨X, 0, none⟩ u).cell? ⟨X, 0, none⟩ = some u := by
  have hxx := h.xx
  refine ⟨?_, ?_, ?_, World.cell?_setCell_same _ _ _ h.hc⟩
  · rcases h.cut k hk u with h5 | h5
    · exact h5
    · cases h5
  · rw [World.cell?_setCell_other (h := fun e => by simp only [Addr.mk.injEq] at e; omega)]; exact h.rc
  · rw [World.frozen?_setCell]; exact h.rf
theorem An.nil2 {cb : Nat} {ao : Option Addr} {len cap : Nat} {zs : List Int} {w wr : World} {X : Nat} {ga ca gr cr : Nat} {A : List ByteArray} {ws : List Int} (h : An cb ao len cap zs w wr X (.slice none 0 0) ga ca gr cr [] A ws) (u : Value) :
    E5 cb ao len cap zs w (wr.setCell ⟨X, 0, none⟩ u) none (X + 1) 0 [] ga A gr ws ∧ (wr.setCell ⟨X, 0, none⟩ u).cell? ⟨w.heap.size, 0, none⟩ = some (.slice none 0 0) ∧ (wr.setCell ⟨X, 0, none⟩ u).frozen? ⟨w.heap.size, 0, none⟩ = false ∧ (wr.setCell ⟨X, 0, none⟩ u).cell? ⟨X, 0, none⟩ = some u := by
  have hxx := h.xx
  have h0 := h.e5
  have h5 : E5 cb ao len cap zs w wr none (X + 1) 0 [] ga A gr ws := ⟨h0.dr, .inr ⟨rfl, rfl, rfl⟩, by omega, fun j hj => absurd hj (Nat.not_lt_zero _), h0.la, h0.tx, h0.lr, h0.rt, h0.xl, h0.al, h0.wl, h0.wn, h0.bw⟩
  refine ⟨h5.set h.cl (Nat.le_of_lt hxx) (by omega) h.x2 h.x3 u, ?_, ?_, World.cell?_setCell_same _ _ _ h.hc⟩
  · rw [World.cell?_setCell_other (h := fun e => by simp only [Addr.mk.injEq] at e; omega)]; exact h.rc
  · rw [World.frozen?_setCell]; exact h.rf
theorem two_small {x : ByteArray} (h : x ∈ [(⟨#[111, 107]⟩ : ByteArray), ⟨#[65]⟩]) : x.size ≤ 12 := by
  simp only [List.mem_cons, List.not_mem_nil, or_false] at h
  rcases h with rfl | rfl <;> decide
theorem six_small {x : Int} (h : x ∈ [(-1 : Int), 7, 3, 11, 12, 16000008]) : x ≤ 32000006 := by
  simp only [List.mem_cons, List.not_mem_nil, or_false] at h
  omega
theorem five_small {x : Int} (h : x ∈ [(-1 : Int), 0, 5, 13, 8000000]) : x ≤ 32000006 := by
  simp only [List.mem_cons, List.not_mem_nil, or_false] at h
  omega
theorem zero_of {x : Int} (h : 0 ≤ x) (h1 : x < 1) : x = 0 := by omega
theorem nat_of {x : Int} (h : 0 ≤ x) : ∃ k : Nat, x = k := ⟨x.toNat, by omega⟩
theorem cut_le {k n : Nat} {N1 : Int} (h : (n : Int) + 1 = N1) (hk : (k : Int) < N1) : k ≤ n := by omega
theorem cut_cap {k n c : Nat} (h : k ≤ n) (hk : n ≤ c) : k ≤ c := Nat.le_trans h hk
theorem cell_alloc6 {w5 : World} {b : Nat} {v : Value} {o : Obj} (h : w5.cell? ⟨b, 0, none⟩ = some v) : (w5.alloc o).cell? ⟨b, 0, none⟩ = some v := by
  rw [World.cell?_alloc_lt (h := World.block_lt_of_cell? _ _ h)]; exact h
theorem an_size {cb : Nat} {ao : Option Addr} {len cap : Nat} {zs : List Int} {w wr : World} {X : Nat} {hv : Value} {ga ca gr cr : Nat} {xs : List Int} {A : List ByteArray} {ws : List Int} (h : An cb ao len cap zs w wr X hv ga ca gr cr xs A ws) : w.heap.size + 1 ≤ wr.heap.size := World.block_lt_of_cell? wr _ h.rc
theorem an_word {cb : Nat} {ao : Option Addr} {len cap : Nat} {zs : List Int} {w wr : World} {X g q r : Nat} {ga ca gr cr : Nat} {xs : List Int} {A : List ByteArray} {ws : List Int} (h : An cb ao len cap zs w wr X (.slice (some ⟨g, 0, none⟩) q r) ga ca gr cr xs A ws) {k : Nat} (hk : (k : Int) < (xs.length : Int)) : ∃ z, wr.cell? ⟨g, k, none⟩ = some (.int .i64 z) ∧ wr.frozen? ⟨g, k, none⟩ = false := by
  rcases h.wo with ⟨e1, e2⟩ | ⟨g', c, e1, ho⟩
  · cases e1
  · injection e1 with e1 e2 e3
    injection e1 with e1
    injection e1 with e1
    subst e1 e2 e3
    exact ⟨_, own_ints ho k (by omega), ho.frozenAt k⟩
theorem an_lst {cb : Nat} {ao : Option Addr} {len cap : Nat} {zs : List Int} {w wr : World} {X : Nat} {p : Option Addr} {q r : Nat} {ga ca gr cr : Nat} {xs : List Int} {A : List ByteArray} {ws : List Int} (h : An cb ao len cap zs w wr X (.slice p q r) ga ca gr cr xs A ws) : (∃ g, p = some ⟨g, 0, none⟩ ∧ xs.length ≤ r) ∨ (p = none ∧ xs = [] ∧ r = 0) := by
  rcases h.wo with ⟨e1, e2⟩ | ⟨g', c, e1, ho⟩
  · injection e1 with e1 _ e3
    exact .inr ⟨e1, e2, e3⟩
  · injection e1 with e1 e2 e3
    subst e1 e2 e3
    exact .inl ⟨_, rfl, own_cap ho⟩
set_option maxHeartbeats 8000000 in
set_option maxRecDepth 100000 in
theorem any5_any (cb : Nat) (ao : Option Addr) (len cap : Nat) (zs : List Int) (w : World) (hc : Cur cb ao len cap zs w) (hcb : cb < w.heap.size) :
    Calls Try.prog 40 #[.pointer (some ⟨cb, 0, none⟩)] w (Any5 cb ao len cap zs w) := by
  have HC : Hid (Cur cb ao len cap zs w) := hc
  have HCB : Hid (cb < w.heap.size) := hcb
  clear hc hcb
  go_enter Try.func40, Try.ntmps40
  go_wp2_with (go_at_call 63; refine (draw5_any cb ao len cap zs _ (HC.out.alloc _) (by rw [World.size_alloc]; have := HCB.out; omega)).mono ?_; rintro e w1 ⟨hv, ga, ca, gr, cr, xs, A, ws, rfl, hd1⟩; have HD1 : Hid (∀ t2, An cb ao len cap zs w (w1.alloc (.cells #[hv] t2)) w1.heap.size hv ga ca gr cr xs A ws) := fun t2 => an_of HCB.out hd1; obtain ⟨p, q, r, rfl⟩ := hv_form hd1.wo; clear hd1)
  generalize hW2 : w1.alloc (.cells #[.slice p q r] 26) = w2
  have h2 := HD1.out 26
  rw [hW2] at h2
  generalize w1.heap.size = X at *
  have H2 : Hid (An cb ao len cap zs w w2 X (.slice p q r) ga ca gr cr xs A ws) := h2
  clear hW2 h2 HD1
  refine (below_any cb ao len cap zs _ H2.out.dr.1 10 (by decide) (by decide)).mono ?_
  rintro e w3 ⟨x3, rfl, hx0, hx1, hd3⟩
  have h3 := H2.out.turn hd3
  have H3 : Hid (An cb ao len cap zs w w3 X (.slice p q r) ga ca gr cr xs A ws) := h3
  have hq : q = xs.length := (ownW_lst h3.wo).1
  subst hq
  have c1 := h3.hc
  have f1 := h3.hf
  have c2 := h3.rc
  have f2 := h3.rf
  have hxx := h3.xx
  clear h3 hd3
  have hx : x3 = 0 ∨ x3 = 1 ∨ x3 = 2 ∨ x3 = 3 ∨ 3 < x3 := by omega
  rcases hx with rfl | rfl | rfl | rfl | hx
  · by_cases hN : xs.length = 0
    · have HF : Hid (E5 cb ao len cap zs w (w3.setCell ⟨w.heap.size, 0, none⟩ (.slice p xs.length r)) p (blk (w.heap.size + 1) (.slice p xs.length r)) r xs ga A gr ws) := H3.out.e5.res HCB.out _
      have hN1 : ¬ (0 : Int) < (xs.length : Int) := by omega
      have HNN : Hid (xs.length = 0) := hN
      clear hN
      go_wp2_with fail
      exact bodyPost_ret (v := .tuple #[.agg #[.slice p xs.length r], .slice (some ⟨ga, 0, none⟩) A.length ca, .slice (some ⟨gr, 0, none⟩) ws.length cr]) (by simp [results, Try.results40, go_sem, World.cell?_setCell_same _ _ _ c2]) rfl ⟨p, _, r, xs, ga, ca, A, gr, cr, ws, rfl, HF.out⟩
    · obtain ⟨g, rfl⟩ : ∃ g, p = some ⟨g, 0, none⟩ := by
        rcases H3.out.wo with ⟨e1, e2⟩ | ⟨g, c, e1, _⟩
        · rw [e2] at hN; exact absurd rfl hN
        · injection e1 with e1
          exact ⟨g, e1⟩
      have hN1 : (0 : Int) < (xs.length : Int) := by omega
      have hxl := H3.out.xl
      have HNB : Hid ((1 : Int) ≤ (xs.length : Int) ∧ (xs.length : Int) ≤ 1000000) := ⟨by omega, by omega⟩
      have hX : X < w3.heap.size := World.block_lt_of_cell? _ _ c1
      have KA : Hid (Cur cb ao len cap zs (w3.alloc (.cells #[.int .i64 (-1), .int .i64 0, .int .i64 5, .int .i64 13, .int .i64 8000000] 3)).drew ∧ Cur cb ao len cap zs w3.drew) := ⟨(H3.out.dr.1.alloc _).drew, H3.out.dr.1.drew⟩
      have K4 : Hid (∀ w4, Drawn cb ao len cap zs w3.drew w4 → An cb ao len cap zs w w4 X (.slice (some ⟨g, 0, none⟩) xs.length r) ga ca gr cr xs A ws ∧ cb < w4.heap.size) := fun w4 hd => ⟨H3.out.turn hd.drew, hd.1.lt⟩
      have K4a : Hid (∀ w4, Drawn cb ao len cap zs (w3.alloc (.cells #[.int .i64 (-1), .int .i64 0, .int .i64 5, .int .i64 13, .int .i64 8000000] 3)).drew w4 → An cb ao len cap zs w w4 X (.slice (some ⟨g, 0, none⟩) xs.length r) ga ca gr cr xs A ws ∧ ∀ j, j < [(-1 : Int), 0, 5, 13, 8000000].length → w4.cell? ⟨w3.heap.size, j, none⟩ = some (.int .i64 ([(-1 : Int), 0, 5, 13, 8000000].getD j 0))) := fun w4 hd => ⟨(H3.out.below ((Below.refl _ _).alloc (Nat.le_refl _) _)).turn hd.drew, fun j hj => hd.drew.2.cell (by have := H3.out.dr.1.lt; omega) (ints5 w3 _ j hj)⟩
      have c1a : (w3.alloc (.cells #[.int .i64 (-1), .int .i64 0, .int .i64 5, .int .i64 13, .int .i64 8000000] 3)).cell? ⟨X, 0, none⟩ = some (.slice (some ⟨g, 0, none⟩) xs.length r) := by rw [World.cell?_alloc_lt (h := hX)]; exact c1
      have nx : ¬ X = w3.heap.size := by omega
      have HNE : Hid (w3.heap.size ≠ cb ∧ 1 ≤ [(-1 : Int), 0, 5, 13, 8000000].length ∧ [(-1 : Int), 0, 5, 13, 8000000].length ≤ 256) := ⟨by have := H3.out.dr.1.lt; omega, by simp, by simp⟩
      clear hX hN hxl
      go_wp2_with fail
      go_region_law (go_simp; go_wp2_with (first
        | (go_at_call 41; first
            | ((conv in (World.alloc w3 (.cells #[.int .i64 (-1), .int .i64 0, .int .i64 5, .int .i64 13, .int .i64 8000000] 3)) => skip); refine (below_all cb ao len cap zs _ KA.out.1 _ HNB.out.1 HNB.out.2).mono ?_; rintro e w4 ⟨x4, rfl, hx40, hx41, hd4⟩; have H4 : Hid (An cb ao len cap zs w w4 X (.slice (some ⟨g, 0, none⟩) xs.length r) ga ca gr cr xs A ws) := (K4a.out w4 hd4).1; have HC4 : Hid (∀ j, j < [(-1 : Int), 0, 5, 13, 8000000].length → w4.cell? ⟨w3.heap.size, j, none⟩ = some (.int .i64 ([(-1 : Int), 0, 5, 13, 8000000].getD j 0))) := (K4a.out w4 hd4).2; obtain ⟨k4, rfl⟩ := nat_of hx40; have c14 := H4.out.hc; have c14a := cell_alloc6 (o := .cells #[.int .i64 (-1), .int .i64 0, .int .i64 5, .int .i64 13, .int .i64 8000000] 3) c14; clear hd4 hx40)
            | (refine (below_all cb ao len cap zs _ KA.out.2 _ HNB.out.1 HNB.out.2).mono ?_; rintro e w4 ⟨x4, rfl, hx40, hx41, hd4⟩; have H4 : Hid (An cb ao len cap zs w w4 X (.slice (some ⟨g, 0, none⟩) xs.length r) ga ca gr cr xs A ws) := (K4.out w4 hd4).1; have HC4 : Hid (cb < w4.heap.size) := (K4.out w4 hd4).2; obtain ⟨k4, rfl⟩ := nat_of hx40; have c14 := H4.out.hc; have c14a := cell_alloc6 (o := .cells #[.int .i64 (-1), .int .i64 0, .int .i64 5, .int .i64 13, .int .i64 8000000] 3) c14; clear hd4 hx40))
        | (go_at_call 64; first
            | ((conv in (World.alloc w4 (.cells #[.int .i64 (-1), .int .i64 0, .int .i64 5, .int .i64 13, .int .i64 8000000] 3)) => skip); refine (int_any cb ao len cap zs _ (H4.out.dr.1.alloc _) w4.heap.size [-1, 0, 5, 13, 8000000] (Nat.ne_of_gt HC4.out) HNE.out.2.1 HNE.out.2.2 (ints5 w4 _)).mono ?_; rintro e w5 ⟨y5, rfl, hy5, hd5⟩; have H5 : Hid (An cb ao len cap zs w w5 X (.slice (some ⟨g, 0, none⟩) xs.length r) ga ca gr cr xs A ws) := (H4.out.below ((Below.refl _ _).alloc (Nat.le_refl _) _)).turn hd5; have HY5 : Hid (y5 ≤ 32000006) := five_small hy5; obtain ⟨z5, c5, f5⟩ := an_word H5.out hx41; have c15 := H5.out.hc; clear hy5 hd5)
            | (refine (int_any cb ao len cap zs _ H4.out.dr.1 w3.heap.size [-1, 0, 5, 13, 8000000] HNE.out.1 HNE.out.2.1 HNE.out.2.2 HC4.out).mono ?_; rintro e w5 ⟨y5, rfl, hy5, hd5⟩; have H5 : Hid (An cb ao len cap zs w w5 X (.slice (some ⟨g, 0, none⟩) xs.length r) ga ca gr cr xs A ws) := H4.out.turn hd5; have HY5 : Hid (y5 ≤ 32000006) := five_small hy5; obtain ⟨z5, c5, f5⟩ := an_word H5.out hx41; have c15 := H5.out.hc; clear hy5 hd5))))
      all_goals
        obtain ⟨k5, k6, k7, k8⟩ := H5.out.one k4 hx41 y5 HY5.out
        have HF : Hid (∀ u, E5 cb ao len cap zs w ((w5.setCell ⟨g, k4, none⟩ (.int .i64 y5)).setCell ⟨w.heap.size, 0, none⟩ u) (some ⟨g, 0, none⟩) g r (xs.set k4 y5) ga A gr ws) := fun u => k5.res HCB.out u
        clear k5 c5 f5 c15 c14 c14a
        generalize w5.setCell ⟨g, k4, none⟩ (.int .i64 y5) = w6 at *
        go_wp2_with fail
        exact bodyPost_ret (v := .tuple #[.agg #[.slice (some ⟨g, 0, none⟩) xs.length r], .slice (some ⟨ga, 0, none⟩) A.length ca, .slice (some ⟨gr, 0, none⟩) ws.length cr]) (by simp [results, Try.results40, go_sem, World.cell?_setCell_same _ _ _ k6]) rfl ⟨some ⟨g, 0, none⟩, g, r, xs.set k4 y5, ga, ca, A, gr, cr, ws, by rw [List.length_set], HF.out _⟩
  · obtain ⟨N1, hN1⟩ : ∃ N1 : Int, (xs.length : Int) + 1 = N1 := ⟨_, rfl⟩
    have hxl := H3.out.xl
    have hW1 : IntKind.i64.wrap ((xs.length : Int) + 1) = N1 := by rw [IntKind.wrap_i64]; omega
    have HNB : Hid ((1 : Int) ≤ N1 ∧ N1 ≤ 1000000) := ⟨by omega, by omega⟩
    have HN1 : Hid ((xs.length : Int) + 1 = N1) := hN1
    have K4 : Hid (∀ w4, Drawn cb ao len cap zs w3.drew w4 → An cb ao len cap zs w w4 X (.slice p xs.length r) ga ca gr cr xs A ws) := fun w4 hd => H3.out.turn hd.drew
    have KA : Hid (Cur cb ao len cap zs w3.drew) := H3.out.dr.1.drew
    clear hxl hN1
    rcases an_lst H3.out with ⟨g, rfl, hcap⟩ | ⟨rfl, hxs, rfl⟩
    · go_wp2_with fail
      go_region_law (go_simp; go_wp2_with (
        (go_at_call 41; refine (below_all cb ao len cap zs _ KA.out _ HNB.out.1 HNB.out.2).mono ?_; rintro e w4 ⟨x4, rfl, hx40, hx41, hd4⟩; have H4 : Hid (An cb ao len cap zs w w4 X (.slice (some ⟨g, 0, none⟩) xs.length r) ga ca gr cr xs A ws) := K4.out w4 hd4; obtain ⟨k4, rfl⟩ := nat_of hx40; have hk4 := cut_le HN1.out hx41; have hk4r := cut_cap hk4 hcap; have c14 := H4.out.hc; have f14 := H4.out.hf; clear hd4 hx40 hx41)))
      all_goals
        obtain ⟨k5, k6, k7, k8⟩ := H4.out.cut2 k4 hk4 (.slice (some ⟨g, 0, none⟩) k4 r)
        have HF : Hid (∀ u, E5 cb ao len cap zs w ((w4.setCell ⟨X, 0, none⟩ (.slice (some ⟨g, 0, none⟩) k4 r)).setCell ⟨w.heap.size, 0, none⟩ u) (some ⟨g, 0, none⟩) g r (xs.take k4) ga A gr ws) := fun u => k5.res HCB.out u
        have HTL : Hid ((xs.take k4).length = k4) := by show _ = _; rw [List.length_take]; omega
        clear k5 c14 f14
        generalize w4.setCell ⟨X, 0, none⟩ (.slice (some ⟨g, 0, none⟩) k4 r) = w6 at *
        go_wp2_with fail
        exact bodyPost_ret (v := .tuple #[.agg #[.slice (some ⟨g, 0, none⟩) k4 r], .slice (some ⟨ga, 0, none⟩) A.length ca, .slice (some ⟨gr, 0, none⟩) ws.length cr]) (by simp [results, Try.results40, go_sem, World.cell?_setCell_same _ _ _ k6]) rfl ⟨some ⟨g, 0, none⟩, g, r, xs.take k4, ga, ca, A, gr, cr, ws, by rw [HTL.out], HF.out _⟩
    · subst hxs
      have HNB2 : Hid ((1 : Int) ≤ 1 ∧ (1 : Int) ≤ 256) := ⟨by decide, by decide⟩
      have c1' : w3.cell? ⟨X, 0, none⟩ = some (.slice none 0 0) := c1
      clear c1 hW1
      go_wp2_with fail
      go_region_law (go_simp; go_wp2_with (
        (go_at_call 41; refine (below_any cb ao len cap zs _ KA.out 1 HNB2.out.1 HNB2.out.2).mono ?_; rintro e w4 ⟨x4, rfl, hx40, hx41, hd4⟩; have H4 : Hid (An cb ao len cap zs w w4 X (.slice none 0 0) ga ca gr cr [] A ws) := K4.out w4 hd4; obtain rfl : x4 = 0 := zero_of hx40 hx41; have c14 := H4.out.hc; have f14 := H4.out.hf; clear hd4 hx40 hx41)))
      all_goals
        obtain ⟨k5, k6, k7, k8⟩ := H4.out.nil2 (.slice none 0 0)
        have HF : Hid (∀ u, E5 cb ao len cap zs w ((w4.setCell ⟨X, 0, none⟩ (.slice none 0 0)).setCell ⟨w.heap.size, 0, none⟩ u) none (X + 1) 0 [] ga A gr ws) := fun u => k5.res HCB.out u
        clear k5 c14 f14
        generalize w4.setCell ⟨X, 0, none⟩ (.slice none 0 0) = w6 at *
        go_wp2_with fail
        exact bodyPost_ret (v := .tuple #[.agg #[.slice none 0 0], .slice (some ⟨ga, 0, none⟩) A.length ca, .slice (some ⟨gr, 0, none⟩) ws.length cr]) (by simp [results, Try.results40, go_sem, World.cell?_setCell_same _ _ _ k6]) rfl ⟨none, X + 1, 0, [], ga, ca, A, gr, cr, ws, rfl, HF.out _⟩
  · have SW : Hid (∀ w3' : World, An cb ao len cap zs w w3' X (.slice p xs.length r) ga ca gr cr xs A ws → True) := fun _ _ => trivial
    have KS : Hid (Cur cb ao len cap zs (w3.alloc (.cells #[.string ⟨#[111, 107]⟩, .string ⟨#[65]⟩] 9)) ∧ w3.heap.size ≠ cb ∧ ∀ j, j < [(⟨#[111, 107]⟩ : ByteArray), ⟨#[65]⟩].length → (w3.alloc (.cells #[.string ⟨#[111, 107]⟩, .string ⟨#[65]⟩] 9)).cell? ⟨w3.heap.size, j, none⟩ = some (.string ([(⟨#[111, 107]⟩ : ByteArray), ⟨#[65]⟩].getD j ByteArray.empty))) := ⟨H3.out.dr.1.alloc _, by have := H3.out.dr.1.lt; omega, fun j hj => by
      rw [World.cell?_alloc_new]
      have : j = 0 ∨ j = 1 := by simp at hj; omega
      rcases this with rfl | rfl <;> rfl⟩
    have hal := H3.out.al
    have C1 : Hid (A.length + 1 ≤ maxLen) := by show _ ≤ _; unfold maxLen; omega
    have C2 : Hid ((A.length + 1) * 16 ≤ 140737488355328) := by show _ ≤ _; omega
    obtain ⟨i0, hi, hz0, hz1, hz2⟩ := info_parts infoStr5
    have HI : Hid (Try.prog.info? 9 = some i0 ∧ i0.zero = some (.string ByteArray.empty) ∧ i0.size = 1 ∧ i0.bytes = 16) := ⟨hi, hz0, hz1, hz2⟩
    clear hi hz0 hz1 hz2 hal
    go_wp2_with (first
      | (go_at_call 65; refine (str_any cb ao len cap zs _ KS.out.1 w3.heap.size [⟨#[111, 107]⟩, ⟨#[65]⟩] KS.out.2.1 (by simp) (by simp) KS.out.2.2).mono ?_; rintro e w4 ⟨x4, rfl, hx4, hd4⟩; have H4 : Hid (∀ o, An cb ao len cap zs w (w4.alloc o) X (.slice p xs.length r) ga ca gr cr xs A ws) := fun o => ((H3.out.below ((Below.refl _ _).alloc (Nat.le_refl _) _)).turn hd4).below ((Below.refl _ _).alloc (Nat.le_refl _) o); have HX4 : Hid (x4.size ≤ 12) := two_small hx4; clear hx4 hd4)
      | (at_builtin; refine wpList_append_own_at _ rfl _ _ 27 rfl (w.heap.size + 1) 9 i0 (.string ByteArray.empty) 1 16 undStrs5 HI.out.1 HI.out.2.1 HI.out.2.2.1 HI.out.2.2.2 rfl Nat.zero_lt_one (.slice (some ⟨ga, 0, none⟩) A.length ca) A.length (A.map Value.string) rfl (H4.out _).ar ⟨w4.heap.size, 0, none⟩ 1 1 [.string x4] rfl rfl (cell_one_new _ _ _) (by intro u hu; simp at hu; rw [hu]; rfl) C1.out C2.out (an_size (H4.out _)) ?_; intro v9 w9 hown9 hgr9 hnn9 hat9; obtain ⟨g9, c9, rfl⟩ := ownForm hown9 (fun e => by have := (hnn9.1 e).1; cases this); obtain ⟨k5, k6, k7, k8⟩ := (H4.out _).atom x4 HX4.out hown9 hgr9; have HF : Hid (E5 cb ao len cap zs w (w9.setCell ⟨w.heap.size, 0, none⟩ (.slice p xs.length r)) p (blk (w.heap.size + 1) (.slice p xs.length r)) r xs g9 (A ++ [x4]) gr ws) := k5.res HCB.out _; clear hown9 hgr9 hnn9 hat9 k5))
    exact bodyPost_ret (v := .tuple #[.agg #[.slice p xs.length r], .slice (some ⟨g9, 0, none⟩) (A.length + 1) c9, .slice (some ⟨gr, 0, none⟩) ws.length cr]) (by simp [results, Try.results40, go_sem, World.cell?_setCell_same _ _ _ k6]) rfl ⟨p, _, r, xs, g9, c9, A ++ [x4], gr, cr, ws, by rw [List.length_append]; rfl, HF.out⟩
  · have KS : Hid (Cur cb ao len cap zs (w3.alloc (.cells #[.int .i64 (-1), .int .i64 7, .int .i64 3, .int .i64 11, .int .i64 12, .int .i64 16000008] 3)) ∧ w3.heap.size ≠ cb ∧ ∀ j, j < [(-1 : Int), 7, 3, 11, 12, 16000008].length → (w3.alloc (.cells #[.int .i64 (-1), .int .i64 7, .int .i64 3, .int .i64 11, .int .i64 12, .int .i64 16000008] 3)).cell? ⟨w3.heap.size, j, none⟩ = some (.int .i64 ([(-1 : Int), 7, 3, 11, 12, 16000008].getD j 0))) := ⟨H3.out.dr.1.alloc _, by have := H3.out.dr.1.lt; omega, news_ints w3 [-1, 7, 3, 11, 12, 16000008] _⟩
    have hwl := H3.out.wl
    have C1 : Hid (ws.length + 1 ≤ maxLen) := by show _ ≤ _; unfold maxLen; omega
    have C2 : Hid ((ws.length + 1) * 8 ≤ 140737488355328) := by show _ ≤ _; omega
    obtain ⟨i0, hi, hz0, hz1, hz2⟩ := info_parts infoInt5
    have HI : Hid (Try.prog.info? 3 = some i0 ∧ i0.zero = some (.int .i64 0) ∧ i0.size = 1 ∧ i0.bytes = 8) := ⟨hi, hz0, hz1, hz2⟩
    clear hi hz0 hz1 hz2 hwl
    go_wp2_with (first
      | (go_at_call 64; refine (int_any cb ao len cap zs _ KS.out.1 w3.heap.size [-1, 7, 3, 11, 12, 16000008] KS.out.2.1 (by simp) (by simp) KS.out.2.2).mono ?_; rintro e w4 ⟨x4, rfl, hx4, hd4⟩; have H4 : Hid (∀ o, An cb ao len cap zs w (w4.alloc o) X (.slice p xs.length r) ga ca gr cr xs A ws) := fun o => ((H3.out.below ((Below.refl _ _).alloc (Nat.le_refl _) _)).turn hd4).below ((Below.refl _ _).alloc (Nat.le_refl _) o); have HX4 : Hid (x4 ≤ 32000006) := six_small hx4; clear hx4 hd4)
      | (at_builtin; refine wpList_append_own_at _ rfl _ _ 24 rfl (w.heap.size + 1) 3 i0 (.int .i64 0) 1 8 undInts5 HI.out.1 HI.out.2.1 HI.out.2.2.1 HI.out.2.2.2 rfl Nat.zero_lt_one (.slice (some ⟨gr, 0, none⟩) ws.length cr) ws.length (ws.map (Value.int .i64)) rfl (H4.out _).rr ⟨w4.heap.size, 0, none⟩ 1 1 [.int .i64 x4] rfl rfl (cell_one_new _ _ _) (by intro u hu; simp at hu; rw [hu]; rfl) C1.out C2.out (an_size (H4.out _)) ?_; intro v9 w9 hown9 hgr9 hnn9 hat9; obtain ⟨g9, c9, rfl⟩ := ownForm hown9 (fun e => by have := (hnn9.1 e).1; cases this); obtain ⟨k5, k6, k7, k8⟩ := (H4.out _).more x4 HX4.out hown9 hgr9; have HF : Hid (E5 cb ao len cap zs w (w9.setCell ⟨w.heap.size, 0, none⟩ (.slice p xs.length r)) p (blk (w.heap.size + 1) (.slice p xs.length r)) r xs ga A g9 (ws ++ [x4])) := k5.res HCB.out _; clear hown9 hgr9 hnn9 hat9 k5))
    exact bodyPost_ret (v := .tuple #[.agg #[.slice p xs.length r], .slice (some ⟨ga, 0, none⟩) A.length ca, .slice (some ⟨g9, 0, none⟩) (ws.length + 1) c9]) (by simp [results, Try.results40, go_sem, World.cell?_setCell_same _ _ _ k6]) rfl ⟨p, _, r, xs, ga, ca, A, g9, c9, ws ++ [x4], by rw [List.length_append]; rfl, HF.out⟩
  · have k0 : (x3 == 0) = false := by simp; omega
    have k1 : (x3 == 1) = false := by simp; omega
    have k2 : (x3 == 2) = false := by simp; omega
    have k3 : (x3 == 3) = false := by simp; omega
    have HF : Hid (E5 cb ao len cap zs w (w3.setCell ⟨w.heap.size, 0, none⟩ (.slice p xs.length r)) p (blk (w.heap.size + 1) (.slice p xs.length r)) r xs ga A gr ws) := H3.out.e5.res HCB.out _
    go_wp2_with fail
    exact bodyPost_ret (v := .tuple #[.agg #[.slice p xs.length r], .slice (some ⟨ga, 0, none⟩) A.length ca, .slice (some ⟨gr, 0, none⟩) ws.length cr]) (by simp [results, Try.results40, go_sem, World.cell?_setCell_same _ _ _ c2]) rfl ⟨p, _, r, xs, ga, ca, A, gr, cr, ws, rfl, HF.out⟩
end Go.Proofs.Ythdoamdjhpkimaa
