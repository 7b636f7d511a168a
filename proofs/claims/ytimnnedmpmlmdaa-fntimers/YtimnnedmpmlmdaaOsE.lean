/-
  What the copying of terms has in hand, step by step.
-/
import Derived.Test.YtimnnedmpmlmdaaOsD
namespace Go.Proofs.Ytimnnedmpmlmdaa
open Go.RowKit
set_option linter.unusedVariables false

theorem Cp.turn {w0 w w' : World} {C mb k : Nat} {ov : Value} {st : List Ps} {nn : Nat} {S : Nat → Nat → Prop} (h : Cp w0 w C mb ov st nn S) (ht : Turn k w w') (h0 : w0.heap.size ≤ k) (h1 : k ≠ C) (h2 : k ≠ mb) (h3 : ov.ownBlock ≠ some k) : Cp w0 w' C mb ov st nn S := by
  have hC : C < w.heap.size := World.block_lt_of_cell? w _ h.c0
  have hm := h.mp.lt
  have hCb := ht.block C hC (fun e => h1 e.symm)
  refine ⟨⟨ht.os.trans h.be.os, ht.tape.trans h.be.tape, ht.output.trans h.be.output, Nat.le_trans h.be.size ht.size, fun b hb => (ht.block b (Nat.lt_of_lt_of_le hb h.be.size) (by omega)).trans (h.be.block b hb)⟩, (World.cell?_of_block (w := w) hCb).trans h.c0, (World.cell?_of_block (w := w) hCb).trans h.c1, (World.cell?_of_block (w := w) hCb).trans h.c2, fun o => (World.frozen?_of_block (w := w) hCb).trans (h.fz o), ?_, ?_, h.old, h.hC, h.hm, h.ne1, h.ne2⟩
  · exact h.own.kept ⟨ht.os, ht.tape, ht.output, ht.size, fun b hb hn => ht.block b hb (fun e => hn (by rw [e]))⟩ (Or.inr h3)
  · refine h.mp.keep (ht.block mb hm (fun e => h2 e.symm)) (fun b o hs hp => hp.turn ht ?_)
    have := h.old b o hs
    omega
theorem Ps.ok.keep {w w' : World} {y : Ps} (h : y.ok w) (hg : w'.heap[y.g]? = w.heap[y.g]?) (hb : ∀ b ∈ y.ob, b < w.heap.size → w'.heap[b]? = w.heap[b]?) : y.ok w' :=
  ⟨OsR.keep y.m y.ob y.g 0 hb (fun o v _ _ hv => (World.cell?_of_block (w := w) hg).trans hv) h.row, fun o => (World.frozen?_of_block (w := w) hg).trans (h.free o), h.le, h.max, h.siz.keep hg⟩

structure Wk (w0 w : World) (C mb : Nat) (ov : Value) (F : List Nat) (st : List Ps) (nn T : Nat) (S : Nat → Nat → Prop) (extra : Nat) (rem : List Nat) : Prop where
  cp : Cp w0 w C mb ov st nn S
  ps : ∀ y ∈ st, y.ok w
  nd : (F ++ st.map Ps.g).Nodup
  lo : ∀ b ∈ F ++ st.map Ps.g, w0.heap.size ≤ b ∧ b < w.heap.size ∧ b ≠ C ∧ b ≠ mb ∧ ov.ownBlock ≠ some b
  olds : ∀ y ∈ st, ∀ b ∈ y.ob, b < w0.heap.size
  cnt : nn + extra + (st.map (fun y => inL y.m)).sum = T
  dup : T ≤ 10000 ∨ ((st.flatMap Ps.ob ++ rem).Nodup ∧ ∀ b o, S b o → b ∉ st.flatMap Ps.ob ++ rem)
  len : st.length ≤ nn
theorem Wk.mem {w0 w : World} {C mb : Nat} {ov : Value} {F : List Nat} {st : List Ps} {nn T : Nat} {S : Nat → Nat → Prop} {extra : Nat} {rem : List Nat} (h : Wk w0 w C mb ov F st nn T S extra rem) {y : Ps} (hy : y ∈ st) : w0.heap.size ≤ y.g ∧ y.g < w.heap.size ∧ y.g ≠ C ∧ y.g ≠ mb ∧ ov.ownBlock ≠ some y.g :=
  h.lo y.g (List.mem_append_right _ (List.mem_map_of_mem hy))
theorem Wk.call {w0 w w' : World} {C mb : Nat} {ov : Value} {F : List Nat} {st : List Ps} {nn T : Nat} {S : Nat → Nat → Prop} {extra : Nat} {rem : List Nat} (h : Wk w0 w C mb ov F st nn T S extra rem) (hb : Below w.heap.size w w') : Wk w0 w' C mb ov F st nn T S extra rem :=
  ⟨h.cp.call hb, fun y hy => (h.ps y hy).keep (hb.block _ (h.mem hy).2.1) (fun b _ hl => hb.block b hl), h.nd, fun b hx => by obtain ⟨a1, a2, a3⟩ := h.lo b hx; exact ⟨a1, Nat.lt_of_lt_of_le a2 hb.size, a3⟩, h.olds, h.cnt, h.dup, h.len⟩
/-- A block that is none of the pending ones' is written. -/
theorem Wk.turn {w0 w w' : World} {C mb k : Nat} {ov : Value} {F : List Nat} {st : List Ps} {nn T : Nat} {S : Nat → Nat → Prop} {extra : Nat} {rem : List Nat} (h : Wk w0 w C mb ov F st nn T S extra rem) (ht : Turn k w w') (hk : k ∈ F) : Wk w0 w' C mb ov F st nn T S extra rem := by
  obtain ⟨k0, k1, k2, k3, k4⟩ := h.lo k (List.mem_append_left _ hk)
  refine ⟨h.cp.turn ht k0 k2 k3 k4, fun y hy => (h.ps y hy).keep (ht.block _ (h.mem hy).2.1 ?_) (fun b hb hl => ht.block b hl (by have := h.olds y hy b hb; omega)), h.nd, fun b hx => by obtain ⟨a1, a2, a3⟩ := h.lo b hx; exact ⟨a1, Nat.lt_of_lt_of_le a2 ht.size, a3⟩, h.olds, h.cnt, h.dup, h.len⟩
  intro e
  have hn := (List.nodup_append.1 h.nd).2.2 k hk y.g (List.mem_map_of_mem hy)
  exact hn e.symm

/-- Two cells, one behind the other, are written. -/
structure Put2 (g o : Nat) (x y : Value) (w w' : World) : Prop where
  turn : Turn g w w'
  c0 : w'.cell? ⟨g, o, none⟩ = some x
  c1 : w'.cell? ⟨g, o + 1, none⟩ = some y
  far : ∀ z, z ≠ o → z ≠ o + 1 → w'.cell? ⟨g, z, none⟩ = w.cell? ⟨g, z, none⟩
  fr : ∀ z, w'.frozen? ⟨g, z, none⟩ = w.frozen? ⟨g, z, none⟩
  siz : ∀ c, Szd w g c → Szd w' g c
theorem put2_ab {g o : Nat} {x y x0 y0 : Value} {w : World} (h0 : w.cell? ⟨g, o, none⟩ = some x0) (h1 : w.cell? ⟨g, o + 1, none⟩ = some y0) : Put2 g o x y w ((w.setCell ⟨g, o, none⟩ x).setCell ⟨g, o + 1, none⟩ y) := by
  refine ⟨((Turn.refl g w).set o _).set (o + 1) _, ?_, ?_, fun z z0 z1 => ?_, fun z => by rw [World.frozen?_setCell, World.frozen?_setCell], fun c h => (h.set _ _).set _ _⟩
  · rw [World.cell?_setCell_other (h := fun e => by simp only [Addr.mk.injEq] at e; omega)]
    exact World.cell?_setCell_same _ _ _ h0
  · refine World.cell?_setCell_same _ _ _ (u := y0) ?_
    rw [World.cell?_setCell_other (h := fun e => by simp only [Addr.mk.injEq] at e; omega)]; exact h1
  · rw [World.cell?_setCell_other (h := fun e => by simp only [Addr.mk.injEq] at e; omega), World.cell?_setCell_other (h := fun e => by simp only [Addr.mk.injEq] at e; omega)]
theorem put2_ba {g o : Nat} {x y x0 y0 : Value} {w : World} (h0 : w.cell? ⟨g, o, none⟩ = some x0) (h1 : w.cell? ⟨g, o + 1, none⟩ = some y0) : Put2 g o x y w ((w.setCell ⟨g, o + 1, none⟩ y).setCell ⟨g, o, none⟩ x) := by
  refine ⟨((Turn.refl g w).set (o + 1) _).set o _, ?_, ?_, fun z z0 z1 => ?_, fun z => by rw [World.frozen?_setCell, World.frozen?_setCell], fun c h => (h.set _ _).set _ _⟩
  · refine World.cell?_setCell_same _ _ _ (u := x0) ?_
    rw [World.cell?_setCell_other (h := fun e => by simp only [Addr.mk.injEq] at e; omega)]; exact h0
  · rw [World.cell?_setCell_other (h := fun e => by simp only [Addr.mk.injEq] at e; omega)]
    exact World.cell?_setCell_same _ _ _ h1
  · rw [World.cell?_setCell_other (h := fun e => by simp only [Addr.mk.injEq] at e; omega), World.cell?_setCell_other (h := fun e => by simp only [Addr.mk.injEq] at e; omega)]

/-- The list x is gone through: i of its terms are done, cs are their lists. -/
structure In (w0 wS w : World) (C mb : Nat) (ov : Value) (F : List Nat) (st0 cs : List Ps) (x : Ps) (i nn nS T : Nat) (S : Nat → Nat → Prop) (rem : List Nat) : Prop where
  wk : Wk w0 w C mb ov (x.g :: F) (st0 ++ cs) nn T S (inL (x.m.drop i)) rem
  half : Half w x.g (x.m.take i) 0 cs
  row : OsR w (x.m.drop i) rem x.g (4 * i)
  fr : ∀ o, w.frozen? ⟨x.g, o, none⟩ = false
  kF : ∀ b ∈ F, w.heap[b]? = wS.heap[b]?
  few : nS + cs.length ≤ nn
  remo : ∀ b ∈ rem, b < w0.heap.size
  sz : Szd w x.g x.c
theorem In.call {w0 wS w w' : World} {C mb : Nat} {ov : Value} {F : List Nat} {st0 cs : List Ps} {x : Ps} {i nn nS T : Nat} {S : Nat → Nat → Prop} {rem : List Nat} (h : In w0 wS w C mb ov F st0 cs x i nn nS T S rem) (hb : Below w.heap.size w w') : In w0 wS w' C mb ov F st0 cs x i nn nS T S rem := by
  have hx := h.wk.lo x.g (by simp)
  have hg := hb.block x.g hx.2.1
  refine ⟨h.wk.call hb, h.half.keep (fun o v _ _ hv => (World.cell?_of_block (w := w) hg).trans hv), OsR.keep _ _ _ _ (fun b _ hl => hb.block b hl) (fun o v _ _ hv => (World.cell?_of_block (w := w) hg).trans hv) h.row, fun o => (World.frozen?_of_block (w := w) hg).trans (h.fr o), fun b hF => ?_, h.few, h.remo, h.sz.keep hg⟩
  exact (hb.block b (h.wk.lo b (by simp [hF])).2.1).trans (h.kF b hF)
/-- What stands between the copy of one's list and its being written. -/
structure Md (w0 wS w : World) (C mb : Nat) (ov : Value) (F : List Nat) (st0 cs c : List Ps) (x : Ps) (i nn nS T : Nat) (S : Nat → Nat → Prop) (rem : List Nat) (k n : Int) (s : ByteArray) (l : List Tm) (vL : Value) : Prop where
  wk : Wk w0 w C mb ov (x.g :: F) (st0 ++ (cs ++ c)) nn T S (inL (x.m.drop (i + 1))) rem
  half : Half w x.g (x.m.take i) 0 cs
  il : i < x.m.length
  at_ : x.m[i] = .mk k n s l
  k0 : w.cell? ⟨x.g, 4 * i, none⟩ = some (.int .i64 k)
  k1 : w.cell? ⟨x.g, 4 * i + 1, none⟩ = some (.int .i64 n)
  k2 : w.cell? ⟨x.g, 4 * i + 2, none⟩ = some (.string s)
  k3 : ∃ v, w.cell? ⟨x.g, 4 * i + 3, none⟩ = some v
  hs : s.size ≤ 1048576
  row : OsR w (x.m.drop (i + 1)) rem x.g (4 * i + 4)
  fr : ∀ o, w.frozen? ⟨x.g, o, none⟩ = false
  kF : ∀ b ∈ F, w.heap[b]? = wS.heap[b]?
  few : nS + (cs ++ c).length ≤ nn
  remo : ∀ b ∈ rem, b < w0.heap.size
  new : (l = [] ∧ c = [] ∧ vL = .slice none 0 0) ∨ (l ≠ [] ∧ ∃ y : Ps, c = [y] ∧ y.m = l ∧ vL = .slice (some ⟨y.g, 0, none⟩) l.length y.c ∧ l.length ≤ y.c ∧ y.c ≤ maxLen)
  sz : Szd w x.g x.c
theorem Md.put {w0 wS w w' : World} {C mb : Nat} {ov : Value} {F : List Nat} {st0 cs c : List Ps} {x : Ps} {i nn nS T : Nat} {S : Nat → Nat → Prop} {rem : List Nat} {k n : Int} {s : ByteArray} {l : List Tm} {vL : Value} (h : Md w0 wS w C mb ov F st0 cs c x i nn nS T S rem k n s l vL) (hp : Put2 x.g (4 * i + 2) (.string s) vL w w') : In w0 wS w' C mb ov F st0 (cs ++ c) x (i + 1) nn nS T S rem := by
  have hnd := (List.nodup_cons.1 h.wk.nd).1
  have hil := h.il
  have hlen : (x.m.take i).length = i := by simp; omega
  refine ⟨h.wk.turn hp.turn (by simp), ?_, ?_, fun o => (hp.fr o).trans (h.fr o), fun b hF => ?_, h.few, h.remo, hp.siz _ h.sz⟩
  · rw [List.take_succ_eq_append_getElem h.il, h.at_]
    refine Half.snoc (h.half.keep (fun o v _ ho hv => ?_)) ?_
    · rw [hlen] at ho
      rw [hp.far o (by omega) (by omega)]; exact hv
    · rw [hlen, Nat.zero_add, Half]
      refine ⟨by rw [hp.far _ (by omega) (by omega)]; exact h.k0, by rw [hp.far _ (by omega) (by omega)]; exact h.k1, hp.c0, h.hs, ?_⟩
      rcases h.new with ⟨e1, e2, e3⟩ | ⟨e1, y, e2, e3, e4, e5, e6⟩
      · exact .inl ⟨e1, by rw [← e3]; exact hp.c1, by rw [Half]; exact e2⟩
      · exact .inr ⟨e1, y, [], e2, e3, by rw [← e4]; exact hp.c1, e5, e6, by rw [Half]⟩
  · have hx0 := (h.wk.lo x.g (by simp)).1
    rw [show 4 * (i + 1) = 4 * i + 4 by omega]
    exact OsR.keep _ _ _ _ (fun b hb hl => hp.turn.block b hl (by have := h.remo b hb; omega)) (fun o v ho _ hv => by rw [hp.far o (by omega) (by omega)]; exact hv) h.row
  · have hbl := (h.wk.lo b (by simp [hF])).2.1
    exact (hp.turn.block b hbl (fun e => hnd (by rw [← e]; exact List.mem_append_left _ hF))).trans (h.kF b hF)
theorem drop_row {w : World} {m : List Tm} {rem : List Nat} {g i : Nat} (hi : i < m.length) (h : OsR w (m.drop i) rem g (4 * i)) : ∃ k n s l b1 b2 ao cap, m[i] = .mk k n s l ∧ rem = b1 ++ b2 ∧ w.cell? ⟨g, 4 * i, none⟩ = some (.int .i64 k) ∧ w.cell? ⟨g, 4 * i + 1, none⟩ = some (.int .i64 n) ∧ w.cell? ⟨g, 4 * i + 2, none⟩ = some (.string s) ∧ s.size ≤ 1048576 ∧ w.cell? ⟨g, 4 * i + 3, none⟩ = some (.slice ao l.length cap) ∧ l.length ≤ cap ∧ cap ≤ maxLen ∧ OsL w l b1 ao ∧ OsR w (m.drop (i + 1)) b2 g (4 * i + 4) ∧ inL (m.drop i) = ntL l + inL (m.drop (i + 1)) := by
  rw [List.drop_eq_getElem_cons hi] at h ⊢
  generalize m[i] = t at *
  obtain ⟨k, n, s, l⟩ := t
  rw [OsR] at h
  obtain ⟨b1, b2, e, h1, h2⟩ := h
  rw [OsT] at h1
  obtain ⟨c0, c1, c2, hs, ao, cap, c3, hl, hc, ho⟩ := h1
  exact ⟨k, n, s, l, b1, b2, ao, cap, rfl, e, c0, c1, c2, hs, c3, hl, hc, ho, h2, by rw [inL]⟩
/-- Nothing stands in it. -/
theorem In.void {w0 wS w : World} {C mb : Nat} {ov : Value} {F : List Nat} {st0 cs : List Ps} {x : Ps} {i nn nS T : Nat} {S : Nat → Nat → Prop} {rem : List Nat} (h : In w0 wS w C mb ov F st0 cs x i nn nS T S rem) (hi : i < x.m.length) {k n : Int} {s : ByteArray} (hat : x.m[i] = .mk k n s []) : Md w0 wS w C mb ov F st0 cs [] x i nn nS T S rem k n s [] (.slice none 0 0) := by
  obtain ⟨k', n', s', l', b1, b2, ao, cap, e, er, c0, c1, c2, hs, c3, hl, hc, ho, h2, hin⟩ := drop_row hi h.row
  rw [hat] at e
  simp only [Tm.mk.injEq] at e
  obtain ⟨rfl, rfl, rfl, rfl⟩ := e
  rw [OsL] at ho
  subst ho
  rw [List.nil_append] at er
  subst er
  refine ⟨?_, h.half, hi, hat, c0, c1, c2, ⟨_, c3⟩, hs, h2, h.fr, h.kF, by simpa using h.few, h.remo, .inl ⟨rfl, rfl, rfl⟩, h.sz⟩
  rw [List.append_nil]
  have hw := h.wk
  rw [hin, ntL, Nat.zero_add] at hw
  exact hw

/-- What listOf asks. -/
theorem In.asks {w0 wS w : World} {C mb : Nat} {ov : Value} {F : List Nat} {st0 cs : List Ps} {x : Ps} {i nn nS T : Nat} {S : Nat → Nat → Prop} {rem : List Nat} (h : In w0 wS w C mb ov F st0 cs x i nn nS T S rem) (hi : i < x.m.length) {k n : Int} {s : ByteArray} {l : List Tm} (hat : x.m[i] = .mk k n s l) (hl : l ≠ []) :
    ∃ b o cap bs rem', rem = b :: bs ++ rem' ∧ w.cell? ⟨x.g, 4 * i + 3, none⟩ = some (.slice (some ⟨b, o, none⟩) l.length cap) ∧ OsL w l (b :: bs) (some ⟨b, o, none⟩) ∧ b < w0.heap.size ∧ (∀ z ∈ bs, z < w0.heap.size) ∧ (S b o → nn ≤ 10000) ∧ nn ≤ T ∧ l.length ≤ T ∧ OsR w (x.m.drop (i + 1)) rem' x.g (4 * i + 4) := by
  obtain ⟨k', n', s', l', b1, b2, ao, cap, e, er, c0, c1, c2, hs, c3, hle, hc, ho, h2, hin⟩ := drop_row hi h.row
  rw [hat] at e
  simp only [Tm.mk.injEq] at e
  obtain ⟨rfl, rfl, rfl, rfl⟩ := e
  obtain ⟨b, o, bs, e1, e2, _, _⟩ := (OsL.iff hl).1 ho
  subst e1 e2
  have hcnt := h.wk.cnt
  have hnt := ntL_eq l
  rw [hin] at hcnt
  refine ⟨b, o, cap, bs, b2, er, c3, ho, h.remo b (by rw [er]; simp), fun z hz => h.remo z (by rw [er]; simp [hz]), fun hS => ?_, by omega, by omega, h2⟩
  rcases h.wk.dup with hd | ⟨_, hd⟩
  · omega
  · exact absurd (by rw [er]; simp) (hd b o hS)
theorem In.full {w0 wS w w2 : World} {C mb : Nat} {ov ov' : Value} {F : List Nat} {st0 cs : List Ps} {x : Ps} {i nn nS T : Nat} {S : Nat → Nat → Prop} {rem rem' : List Nat} (h : In w0 wS w C mb ov F st0 cs x i nn nS T S rem) (hi : i < x.m.length) {k n : Int} {s : ByteArray} {l : List Tm} (hat : x.m[i] = .mk k n s l) (hl : l ≠ []) {b o : Nat} {bs : List Nat} (hrem : rem = b :: bs ++ rem') (hrow : OsR w (x.m.drop (i + 1)) rem' x.g (4 * i + 4)) {g c : Nat}
    (hok : Ps.ok w2 ⟨g, c, l, bs⟩) (hg : w.heap.size ≤ g) (hcp : Cp w0 w2 C mb ov' (st0 ++ cs ++ [⟨g, c, l, bs⟩]) (nn + l.length) (fun x y => S x y ∨ (x = b ∧ y = o))) (hlf : Lf C mb ov w w2) (hov : ov'.ownBlock = ov.ownBlock ∨ ∃ k, ov'.ownBlock = some k ∧ w.heap.size ≤ k ∧ k ≠ g) :
    Md w0 wS w2 C mb ov' F st0 cs [⟨g, c, l, bs⟩] x i (nn + l.length) nS T (fun x y => S x y ∨ (x = b ∧ y = o)) rem' k n s l (.slice (some ⟨g, 0, none⟩) l.length c) := by
  obtain ⟨k', n', s', l', b1, b2, ao, cap, e, er, c0, c1, c2, hs, c3, hle, hc, ho, h2, hin⟩ := drop_row hi h.row
  rw [hat] at e
  simp only [Tm.mk.injEq] at e
  obtain ⟨rfl, rfl, rfl, rfl⟩ := e
  clear er ho h2 c3 b1 b2 hle hc
  have hcp0 := h.wk.cp
  have hC0 := hcp0.hC
  have hm0 := hcp0.hm
  have hw0 := hcp0.be.size
  have hCl : C < w.heap.size := World.block_lt_of_cell? w _ hcp0.c0
  have hml := hcp0.mp.lt
  have old : ∀ z, z < w0.heap.size → w2.heap[z]? = w.heap[z]? := fun z hz => hlf.block z (by omega) (by omega) (by omega) (fun e => by have := (own_base hcp0.own e).1; omega)
  have kept : ∀ z ∈ x.g :: F ++ (st0 ++ cs).map Ps.g, w2.heap[z]? = w.heap[z]? := fun z hz => by
    obtain ⟨a1, a2, a3, a4, a5⟩ := h.wk.lo z hz
    exact hlf.block z a2 a3 a4 a5
  have hgx := kept x.g (by simp)
  have cx : ∀ q v, w.cell? ⟨x.g, q, none⟩ = some v → w2.cell? ⟨x.g, q, none⟩ = some v := fun q v hv => (World.cell?_of_block (w := w) hgx).trans hv
  have hg2 : g < w2.heap.size := by
    have hr := hok.row
    cases l with
    | nil => exact absurd rfl hl
    | cons t r =>
      rw [OsR] at hr
      obtain ⟨_, _, _, ht, _⟩ := hr
      obtain ⟨v, hv⟩ := ht.head
      exact World.block_lt_of_cell? w2 _ hv
  have hov2 : ∀ z, z < w.heap.size → ov.ownBlock ≠ some z → ov'.ownBlock ≠ some z := fun z hz hn e => by
    rcases hov with h1 | ⟨q, h1, h2, _⟩
    · exact hn (h1.symm.trans e)
    · rw [h1] at e; injection e with e; omega
  have hovg : ov'.ownBlock ≠ some g := fun e => by
    rcases hov with h1 | ⟨q, h1, h2, h3⟩
    · rw [h1] at e; have := (own_base hcp0.own e).2; omega
    · rw [h1] at e; injection e with e; exact h3 e
  have c3' : ∃ v, w.cell? ⟨x.g, 4 * i + 3, none⟩ = some v := by
    obtain ⟨_, _, _, _, _, _, _, _, _, _, _, _, _, _, q3, _⟩ := drop_row hi h.row
    exact ⟨_, q3⟩
  have hmap : (st0 ++ (cs ++ [(⟨g, c, l, bs⟩ : Ps)])).map Ps.g = (st0 ++ cs).map Ps.g ++ [g] := by simp
  have hflat : (st0 ++ (cs ++ [(⟨g, c, l, bs⟩ : Ps)])).flatMap Ps.ob = (st0 ++ cs).flatMap Ps.ob ++ bs := by simp
  have hp0 : 0 < l.length := by
    rcases Nat.eq_zero_or_pos l.length with h | h
    · exact absurd (List.eq_nil_of_length_eq_zero h) hl
    · exact h
  refine ⟨⟨?_, fun z hz => ?_, ?_, fun z hz => ?_, fun z hz => ?_, ?_, ?_, by have := h.wk.len; simp at this ⊢; omega⟩, h.half.keep (fun q v _ _ hv => cx q v hv), hi, hat, cx _ _ c0, cx _ _ c1, cx _ _ c2, by obtain ⟨v, hv⟩ := c3'; exact ⟨v, cx _ _ hv⟩, hs, ?_, fun q => (World.frozen?_of_block (w := w) hgx).trans (h.fr q), fun z hz => ?_, ?_, fun z hz => h.remo z (by rw [hrem]; simp [hz]), .inr ⟨hl, ⟨g, c, l, bs⟩, rfl, rfl, rfl, hok.le, hok.max⟩, h.sz.keep hgx⟩
  · rw [← List.append_assoc]; exact hcp
  · rw [← List.append_assoc] at hz
    rcases List.mem_append.1 hz with hz | hz
    · exact (h.wk.ps z hz).keep (kept z.g (List.mem_append_right _ (List.mem_map_of_mem hz))) (fun q hq _ => old q (h.wk.olds z hz q hq))
    · simp at hz; subst hz; exact hok
  · rw [hmap, ← List.append_assoc]
    refine List.nodup_append.2 ⟨h.wk.nd, by simp, fun a ha q hq => ?_⟩
    simp at hq
    have := (h.wk.lo a ha).2.1
    omega
  · rw [hmap, ← List.append_assoc] at hz
    rcases List.mem_append.1 hz with hz | hz
    · obtain ⟨a1, a2, a3, a4, a5⟩ := h.wk.lo z hz
      exact ⟨a1, Nat.lt_of_lt_of_le a2 hlf.size, a3, a4, hov2 z a2 a5⟩
    · simp at hz
      subst hz
      exact ⟨by omega, hg2, by omega, by omega, hovg⟩
  · rw [← List.append_assoc] at hz
    rcases List.mem_append.1 hz with hz | hz
    · exact h.wk.olds z hz
    · simp at hz; subst hz
      exact fun q hq => h.remo q (by rw [hrem]; simp [hq])
  · have hcnt := h.wk.cnt
    have hnt := ntL_eq l
    rw [hin] at hcnt
    have hsum : ((st0 ++ (cs ++ [(⟨g, c, l, bs⟩ : Ps)])).map (fun y => inL y.m)).sum = ((st0 ++ cs).map (fun y => inL y.m)).sum + inL l := by
      rw [← List.append_assoc, List.map_append, List.sum_append]; simp
    rw [hsum]
    omega
  · rcases h.wk.dup with hd | ⟨hd1, hd2⟩
    · exact .inl hd
    · refine .inr ⟨?_, fun b' o' hS => ?_⟩
      · rw [hflat]
        rw [hrem] at hd1
        refine (List.Perm.nodup_iff ?_).1 (List.nodup_cons.1 ((List.Perm.nodup_iff (l₂ := b :: ((st0 ++ cs).flatMap Ps.ob ++ (bs ++ rem'))) (by rw [List.cons_append]; exact List.perm_middle)).1 hd1)).2
        rw [List.append_assoc]
      · rw [hflat]
        rw [hrem] at hd1 hd2
        rcases hS with hS | ⟨rfl, _⟩
        · have := hd2 b' o' hS
          simp only [List.mem_append, List.mem_cons, not_or] at this ⊢
          exact ⟨⟨this.1, this.2.1.2⟩, this.2.2⟩
        · have hn := (List.nodup_cons.1 ((List.Perm.nodup_iff (l₂ := b' :: ((st0 ++ cs).flatMap Ps.ob ++ (bs ++ rem'))) (by rw [List.cons_append]; exact List.perm_middle)).1 hd1)).1
          simp only [List.mem_append, not_or] at hn ⊢
          exact ⟨⟨hn.1, hn.2.1⟩, hn.2.2⟩
  · exact OsR.keep _ _ _ _ (fun q hq _ => old q (h.remo q (by rw [hrem]; simp [hq]))) (fun q v _ _ hv => cx q v hv) hrow
  · exact (kept z (by simp [hz])).trans (h.kF z hz)
  · have := h.few
    simp; omega
end Go.Proofs.Ytimnnedmpmlmdaa
