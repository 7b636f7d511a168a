/-
  A term in memory of its own; a new actor, the program's.
  (Ahead of it, in this text: What the copying of terms has in hand, step by step. The open lists of a copying: the last is taken, and is done; all are done. ownTerms: a copy of terms in memory of its own. slices.Repeat of the list of one TInt 0, eight times.)
-/
import Derived.Test.YtjibnlpjpbileaaGreatDoorU4
import Derived.Deep.RegionWith
import Derived.Carry
import Derived.Test.YtjibnlpjpbileaaGreatDoorShelg
import Derived.Laws.CopyRow
import Derived.Deep.RegionLaw
import Derived.RegionTactic
import Derived.Test.YtjibnlpjpbileaaGreatDoorAcD
import Derived.Test.YtjibnlpjpbileaaGreatDoorTmI
namespace Go.Proofs.YtjibnlpjpbileaaGreatDoor
open Go.RowKit
set_option linter.unusedVariables false

theorem Cp.turn {w0 w w' : World} {C mb k : Nat} {ov : Value} {st : List Ps} {nn : Nat} {S : Nat → Nat → Prop} (h : Cp w0 w C mb ov st nn S) (ht : Turn k w w') (h0 : w0.heap.size ≤ k) (h1 : k ≠ C) (h2 : k ≠ mb) (h3 : ov.ownBlock ≠ some k) : Cp w0 w' C mb ov st nn S := by
  have hC : C < w.heap.size := World.block_lt_of_cell? w _ h.c0
  have hm := h.mp.lt
  have hCb := ht.block C hC (fun e => h1 e.symm)
  refine ⟨⟨ht.os.trans h.be.os, ht.tape.trans h.be.tape, ht.output.trans h.be.output, Nat.le_trans h.be.size ht.size, fun b hb => (ht.block b (Nat.lt_of_lt_of_le hb h.be.size) (by omega)).trans (h.be.block b hb)⟩, (World.cell?_of_block (w := w) hCb).trans h.c0, (World.cell?_of_block (w := w) hCb).trans h.c1, (World.cell?_of_block (w := w) hCb).trans h.c2, fun o => (World.frozen?_of_block (w := w) hCb).trans (h.fz o), ?_, ?_, h.old, h.hC, h.hm, h.ne1, h.ne2⟩
  · exact h.own.kept ⟨ht.os, ht.tape, ht.output, ht.size, fun b hb hn => ht.block b hb (fun e => hn (by rw [e]))⟩ (Or.inr h3)
  · refine h.mp.keep (ht.block mb hm (fun e => h2 e.symm)) (fun b o hs hp => hp.turn ht ?_)
    have := h.old b o hs
    omega
theorem Ps.ok.keep {w w' : World} {y : Ps} (h : y.ok w) (hg : w'.heap[y.g]? = w.heap[y.g]?) (hb : ∀ b ∈ y.ob, b < w.heap.size → w'.heap[b]? = w.heap[b]?) : y.ok w' :=
  ⟨OsR.keep y.m y.ob y.g 0 hb (fun o v _ _ hv => (World.cell?_of_block (w := w) hg).trans hv) h.row, fun o => (World.frozen?_of_block (w := w) hg).trans (h.free o), h.le, h.max⟩

structure Wk (w0 w : World) (C mb : Nat) (ov : Value) (F : List Nat) (st : List Ps) (nn T : Nat) (S : Nat → Nat → Prop) (extra : Nat) (rem : List Nat) : Prop where
  cp : Cp w0 w C mb ov st nn S
  ps : ∀ y ∈ st, y.ok w
  nd : (F ++ st.map Ps.g).Nodup
  lo : ∀ b ∈ F ++ st.map Ps.g, w0.heap.size ≤ b ∧ b < w.heap.size ∧ b ≠ C ∧ b ≠ mb ∧ ov.ownBlock ≠ some b
  olds : ∀ y ∈ st, ∀ b ∈ y.ob, b < w0.heap.size
  cnt : nn + extra + (st.map (fun y => inL y.m)).sum = T
  dup : T ≤ 10000 ∨ ((st.flatMap Ps.ob ++ rem).Nodup ∧ ∀ b o, S b o → b ∉ st.flatMap Ps.ob ++ rem)
  len : st.length ≤ nn
theorem Wk.mem {w0 w : World} {C mb : Nat} {ov : Value} {F : List Nat} {st : List Ps} {nn T : Nat} {S : Nat → Nat → Prop} {extra : Nat} {rem : List Nat} (h : Wk w0 w C mb ov F st nn T S extra rem) {y : Ps} (hy : y ∈ st) : w0.heap.size ≤ y.g ∧ y.g < w.heap.size ∧ y.g ≠ C ∧ y.g ≠ mb ∧ ov.ownBlock ≠ some y.g :=
  h.lo y.g (List.mem_append_right _ (List.mem_map_of_mem hy))
theorem Wk.call {w0 w w' : World} {C mb : Nat} {ov : Value} {F : List Nat} {st : List Ps} {nn T : Nat} {S : Nat → Nat → Prop} {extra : Nat} {rem : List Nat} (h : Wk w0 w C mb ov F st nn T S extra rem) (hb : Below w.heap.size w w') : Wk w0 w' C mb ov F st nn T S extra rem :=
  ⟨h.cp.call hb, fun y hy => (h.ps y hy).keep (hb.block _ (h.mem hy).2.1) (fun b _ hl => hb.block b hl), h.nd, fun b hx => by obtain ⟨a1, a2, a3⟩ := h.lo b hx; exact ⟨a1, Nat.lt_of_lt_of_le a2 hb.size, a3⟩, h.olds, h.cnt, h.dup, h.len⟩
/-- A block that is none of the pending ones' is written. -/
theorem Wk.turn {w0 w w' : World} {C mb k : Nat} {ov : Value} {F : List Nat} {st : List Ps} {nn T : Nat} {S : Nat → Nat → Prop} {extra : Nat} {rem : List Nat} (h : Wk w0 w C mb ov F st nn T S extra rem) (ht : Turn k w w') (hk : k ∈ F) : Wk w0 w' C mb ov F st nn T S extra rem := by
  obtain ⟨k0, k1, k2, k3, k4⟩ := h.lo k (List.mem_append_left _ hk)
  refine ⟨h.cp.turn ht k0 k2 k3 k4, fun y hy => (h.ps y hy).keep (ht.block _ (h.mem hy).2.1 ?_) (fun b hb hl => ht.block b hl (by have := h.olds y hy b hb; omega)), h.nd, fun b hx => by obtain ⟨a1, a2, a3⟩ := h.lo b hx; exact ⟨a1, Nat.lt_of_lt_of_le a2 ht.size, a3⟩, h.olds, h.cnt, h.dup, h.len⟩
  intro e
  have hn := (List.nodup_append.1 h.nd).2.2 k hk y.g (List.mem_map_of_mem hy)
  exact hn e.symm

/-- Two cells, one behind the other, are written. -/
structure Put2 (g o : Nat) (x y : Value) (w w' : World) : Prop where
  turn : Turn g w w'
  c0 : w'.cell? ⟨g, o, none⟩ = some x
  c1 : w'.cell? ⟨g, o + 1, none⟩ = some y
  far : ∀ z, z ≠ o → z ≠ o + 1 → w'.cell? ⟨g, z, none⟩ = w.cell? ⟨g, z, none⟩
  fr : ∀ z, w'.frozen? ⟨g, z, none⟩ = w.frozen? ⟨g, z, none⟩
theorem put2_ab {g o : Nat} {x y x0 y0 : Value} {w : World} (h0 : w.cell? ⟨g, o, none⟩ = some x0) (h1 : w.cell? ⟨g, o + 1, none⟩ = some y0) : Put2 g o x y w ((w.setCell ⟨g, o, none⟩ x).setCell ⟨g, o + 1, none⟩ y) := by
  refine ⟨((Turn.refl g w).set o _).set (o + 1) _, ?_, ?_, fun z z0 z1 => ?_, fun z => by rw [World.frozen?_setCell, World.frozen?_setCell]⟩
  · rw [World.cell?_setCell_other (h := fun e => by simp only [Addr.mk.injEq] at e; omega)]
    exact World.cell?_setCell_same _ _ _ h0
  · refine World.cell?_setCell_same _ _ _ (u := y0) ?_
    rw [World.cell?_setCell_other (h := fun e => by simp only [Addr.mk.injEq] at e; omega)]; exact h1
  · rw [World.cell?_setCell_other (h := fun e => by simp only [Addr.mk.injEq] at e; omega), World.cell?_setCell_other (h := fun e => by simp only [Addr.mk.injEq] at e; omega)]
theorem put2_ba {g o : Nat} {x y x0 y0 : Value} {w : World} (h0 : w.cell? ⟨g, o, none⟩ = some x0) (h1 : w.cell? ⟨g, o + 1, none⟩ = some y0) : Put2 g o x y w ((w.setCell ⟨g, o + 1, none⟩ y).setCell ⟨g, o, none⟩ x) := by
  refine ⟨((Turn.refl g w).set (o + 1) _).set o _, ?_, ?_, fun z z0 z1 => ?_, fun z => by rw [World.frozen?_setCell, World.frozen?_setCell]⟩
  · refine World.cell?_setCell_same _ _ _ (u := x0) ?_
    rw [World.cell?_setCell_other (h := fun e => by simp only [Addr.mk.injEq] at e; omega)]; exact h0
  · rw [World.cell?_setCell_other (h := fun e => by simp only [Addr.mk.injEq] at e; omega)]
    exact World.cell?_setCell_same _ _ _ h1
  · rw [World.cell?_setCell_other (h := fun e => by simp only [Addr.mk.injEq] at e; omega), World.cell?_setCell_other (h := fun e => by simp only [Addr.mk.injEq] at e; omega)]

/-- The list x is gone through: i of its terms are done, cs are their lists. -/
structure In (w0 wS w : World) (C mb : Nat) (ov : Value) (F : List Nat) (st0 cs : List Ps) (x : Ps) (i nn nS T : Nat) (S : Nat → Nat → Prop) (rem : List Nat) : Prop where
  wk : Wk w0 w C mb ov (x.g :: F) (st0 ++ cs) nn T S (inL (x.m.drop i)) rem
  half : Half w x.g (x.m.take i) 0 cs
  row : OsR w (x.m.drop i) rem x.g (4 * i)
  fr : ∀ o, w.frozen? ⟨x.g, o, none⟩ = false
  kF : ∀ b ∈ F, w.heap[b]? = wS.heap[b]?
  few : nS + cs.length ≤ nn
  remo : ∀ b ∈ rem, b < w0.heap.size
theorem In.call {w0 wS w w' : World} {C mb : Nat} {ov : Value} {F : List Nat} {st0 cs : List Ps} {x : Ps} {i nn nS T : Nat} {S : Nat → Nat → Prop} {rem : List Nat} (h : In w0 wS w C mb ov F st0 cs x i nn nS T S rem) (hb : Below w.heap.size w w') : In w0 wS w' C mb ov F st0 cs x i nn nS T S rem := by
  have hx := h.wk.lo x.g (by simp)
  have hg := hb.block x.g hx.2.1
  refine ⟨h.wk.call hb, h.half.keep (fun o v _ _ hv => (World.cell?_of_block (w := w) hg).trans hv), OsR.keep _ _ _ _ (fun b _ hl => hb.block b hl) (fun o v _ _ hv => (World.cell?_of_block (w := w) hg).trans hv) h.row, fun o => (World.frozen?_of_block (w := w) hg).trans (h.fr o), fun b hF => ?_, h.few, h.remo⟩
  exact (hb.block b (h.wk.lo b (by simp [hF])).2.1).trans (h.kF b hF)
/-- What stands between the copy of one's list and its being written. -/
structure Md (w0 wS w : World) (C mb : Nat) (ov : Value) (F : List Nat) (st0 cs c : List Ps) (x : Ps) (i nn nS T : Nat) (S : Nat → Nat → Prop) (rem : List Nat) (k n : Int) (s : ByteArray) (l : List Tm) (vL : Value) : Prop where
  wk : Wk w0 w C mb ov (x.g :: F) (st0 ++ (cs ++ c)) nn T S (inL (x.m.drop (i + 1))) rem
  half : Half w x.g (x.m.take i) 0 cs
  il : i < x.m.length
  at_ : x.m[i] = .mk k n s l
  k0 : w.cell? ⟨x.g, 4 * i, none⟩ = some (.int .i64 k)
  k1 : w.cell? ⟨x.g, 4 * i + 1, none⟩ = some (.int .i64 n)
  k2 : w.cell? ⟨x.g, 4 * i + 2, none⟩ = some (.string s)
  k3 : ∃ v, w.cell? ⟨x.g, 4 * i + 3, none⟩ = some v
  hs : s.size ≤ 1048576
  row : OsR w (x.m.drop (i + 1)) rem x.g (4 * i + 4)
  fr : ∀ o, w.frozen? ⟨x.g, o, none⟩ = false
  kF : ∀ b ∈ F, w.heap[b]? = wS.heap[b]?
  few : nS + (cs ++ c).length ≤ nn
  remo : ∀ b ∈ rem, b < w0.heap.size
  new : (l = [] ∧ c = [] ∧ vL = .slice none 0 0) ∨ (l ≠ [] ∧ ∃ y : Ps, c = [y] ∧ y.m = l ∧ vL = .slice (some ⟨y.g, 0, none⟩) l.length y.c ∧ l.length ≤ y.c ∧ y.c ≤ maxLen)
theorem Md.put {w0 wS w w' : World} {C mb : Nat} {ov : Value} {F : List Nat} {st0 cs c : List Ps} {x : Ps} {i nn nS T : Nat} {S : Nat → Nat → Prop} {rem : List Nat} {k n : Int} {s : ByteArray} {l : List Tm} {vL : Value} (h : Md w0 wS w C mb ov F st0 cs c x i nn nS T S rem k n s l vL) (hp : Put2 x.g (4 * i + 2) (.string s) vL w w') : In w0 wS w' C mb ov F st0 (cs ++ c) x (i + 1) nn nS T S rem := by
  have hnd := (List.nodup_cons.1 h.wk.nd).1
  have hil := h.il
  have hlen : (x.m.take i).length = i := by simp; omega
  refine ⟨h.wk.turn hp.turn (by simp), ?_, ?_, fun o => (hp.fr o).trans (h.fr o), fun b hF => ?_, h.few, h.remo⟩
  · rw [List.take_succ_eq_append_getElem h.il, h.at_]
    refine Half.snoc (h.half.keep (fun o v _ ho hv => ?_)) ?_
    · rw [hlen] at ho
      rw [hp.far o (by omega) (by omega)]; exact hv
    · rw [hlen, Nat.zero_add, Half]
      refine ⟨by rw [hp.far _ (by omega) (by omega)]; exact h.k0, by rw [hp.far _ (by omega) (by omega)]; exact h.k1, hp.c0, h.hs, ?_⟩
      rcases h.new with ⟨e1, e2, e3⟩ | ⟨e1, y, e2, e3, e4, e5, e6⟩
      · exact .inl ⟨e1, by rw [← e3]; exact hp.c1, by rw [Half]; exact e2⟩
      · exact .inr ⟨e1, y, [], e2, e3, by rw [← e4]; exact hp.c1, e5, e6, by rw [Half]⟩
  · have hx0 := (h.wk.lo x.g (by simp)).1
    rw [show 4 * (i + 1) = 4 * i + 4 by omega]
    exact OsR.keep _ _ _ _ (fun b hb hl => hp.turn.block b hl (by have := h.remo b hb; omega)) (fun o v ho _ hv => by rw [hp.far o (by omega) (by omega)]; exact hv) h.row
  · have hbl := (h.wk.lo b (by simp [hF])).2.1
    exact (hp.turn.block b hbl (fun e => hnd (by rw [← e]; exact List.mem_append_left _ hF))).trans (h.kF b hF)
theorem drop_row {w : World} {m : List Tm} {rem : List Nat} {g i : Nat} (hi : i < m.length) (h : OsR w (m.drop i) rem g (4 * i)) : ∃ k n s l b1 b2 ao cap, m[i] = .mk k n s l ∧ rem = b1 ++ b2 ∧ w.cell? ⟨g, 4 * i, none⟩ = some (.int .i64 k) ∧ w.cell? ⟨g, 4 * i + 1, none⟩ = some (.int .i64 n) ∧ w.cell? ⟨g, 4 * i + 2, none⟩ = some (.string s) ∧ s.size ≤ 1048576 ∧ w.cell? ⟨g, 4 * i + 3, none⟩ = some (.slice ao l.length cap) ∧ l.length ≤ cap ∧ cap ≤ maxLen ∧ OsL w l b1 ao ∧ OsR w (m.drop (i + 1)) b2 g (4 * i + 4) ∧ inL (m.drop i) = ntL l + inL (m.drop (i + 1)) := by
  rw [List.drop_eq_getElem_cons hi] at h ⊢
  generalize m[i] = t at *
  obtain ⟨k, n, s, l⟩ := t
  rw [OsR] at h
  obtain ⟨b1, b2, e, h1, h2⟩ := h
  rw [OsT] at h1
  obtain ⟨c0, c1, c2, hs, ao, cap, c3, hl, hc, ho⟩ := h1
  exact ⟨k, n, s, l, b1, b2, ao, cap, rfl, e, c0, c1, c2, hs, c3, hl, hc, ho, h2, by rw [inL]⟩
/-- Nothing stands in it. -/
theorem In.void {w0 wS w : World} {C mb : Nat} {ov : Value} {F : List Nat} {st0 cs : List Ps} {x : Ps} {i nn nS T : Nat} {S : Nat → Nat → Prop} {rem : List Nat} (h : In w0 wS w C mb ov F st0 cs x i nn nS T S rem) (hi : i < x.m.length) {k n : Int} {s : ByteArray} (hat : x.m[i] = .mk k n s []) : Md w0 wS w C mb ov F st0 cs [] x i nn nS T S rem k n s [] (.slice none 0 0) := by
  obtain ⟨k', n', s', l', b1, b2, ao, cap, e, er, c0, c1, c2, hs, c3, hl, hc, ho, h2, hin⟩ := drop_row hi h.row
  rw [hat] at e
  simp only [Tm.mk.injEq] at e
  obtain ⟨rfl, rfl, rfl, rfl⟩ := e
  rw [OsL] at ho
  subst ho
  rw [List.nil_append] at er
  subst er
  refine ⟨?_, h.half, hi, hat, c0, c1, c2, ⟨_, c3⟩, hs, h2, h.fr, h.kF, by simpa using h.few, h.remo, .inl ⟨rfl, rfl, rfl⟩⟩
  rw [List.append_nil]
  have hw := h.wk
  rw [hin, ntL, Nat.zero_add] at hw
  exact hw

/-- What listOf asks. -/
theorem In.asks {w0 wS w : World} {C mb : Nat} {ov : Value} {F : List Nat} {st0 cs : List Ps} {x : Ps} {i nn nS T : Nat} {S : Nat → Nat → Prop} {rem : List Nat} (h : In w0 wS w C mb ov F st0 cs x i nn nS T S rem) (hi : i < x.m.length) {k n : Int} {s : ByteArray} {l : List Tm} (hat : x.m[i] = .mk k n s l) (hl : l ≠ []) :
    ∃ b o cap bs rem', rem = b :: bs ++ rem' ∧ w.cell? ⟨x.g, 4 * i + 3, none⟩ = some (.slice (some ⟨b, o, none⟩) l.length cap) ∧ OsL w l (b :: bs) (some ⟨b, o, none⟩) ∧ b < w0.heap.size ∧ (∀ z ∈ bs, z < w0.heap.size) ∧ (S b o → nn ≤ 10000) ∧ nn ≤ T ∧ l.length ≤ T ∧ OsR w (x.m.drop (i + 1)) rem' x.g (4 * i + 4) := by
  obtain ⟨k', n', s', l', b1, b2, ao, cap, e, er, c0, c1, c2, hs, c3, hle, hc, ho, h2, hin⟩ := drop_row hi h.row
  rw [hat] at e
  simp only [Tm.mk.injEq] at e
  obtain ⟨rfl, rfl, rfl, rfl⟩ := e
  obtain ⟨b, o, bs, e1, e2, _, _⟩ := (OsL.iff hl).1 ho
  subst e1 e2
  have hcnt := h.wk.cnt
  have hnt := ntL_eq l
  rw [hin] at hcnt
  refine ⟨b, o, cap, bs, b2, er, c3, ho, h.remo b (by rw [er]; simp), fun z hz => h.remo z (by rw [er]; simp [hz]), fun hS => ?_, by omega, by omega, h2⟩
  rcases h.wk.dup with hd | ⟨_, hd⟩
  · omega
  · exact absurd (by rw [er]; simp) (hd b o hS)
theorem In.full {w0 wS w w2 : World} {C mb : Nat} {ov ov' : Value} {F : List Nat} {st0 cs : List Ps} {x : Ps} {i nn nS T : Nat} {S : Nat → Nat → Prop} {rem rem' : List Nat} (h : In w0 wS w C mb ov F st0 cs x i nn nS T S rem) (hi : i < x.m.length) {k n : Int} {s : ByteArray} {l : List Tm} (hat : x.m[i] = .mk k n s l) (hl : l ≠ []) {b o : Nat} {bs : List Nat} (hrem : rem = b :: bs ++ rem') (hrow : OsR w (x.m.drop (i + 1)) rem' x.g (4 * i + 4)) {g c : Nat}
    (hok : Ps.ok w2 ⟨g, c, l, bs⟩) (hg : w.heap.size ≤ g) (hcp : Cp w0 w2 C mb ov' (st0 ++ cs ++ [⟨g, c, l, bs⟩]) (nn + l.length) (fun x y => S x y ∨ (x = b ∧ y = o))) (hlf : Lf C mb ov w w2) (hov : ov'.ownBlock = ov.ownBlock ∨ ∃ k, ov'.ownBlock = some k ∧ w.heap.size ≤ k ∧ k ≠ g) :
    Md w0 wS w2 C mb ov' F st0 cs [⟨g, c, l, bs⟩] x i (nn + l.length) nS T (fun x y => S x y ∨ (x = b ∧ y = o)) rem' k n s l (.slice (some ⟨g, 0, none⟩) l.length c) := by
  obtain ⟨k', n', s', l', b1, b2, ao, cap, e, er, c0, c1, c2, hs, c3, hle, hc, ho, h2, hin⟩ := drop_row hi h.row
  rw [hat] at e
  simp only [Tm.mk.injEq] at e
  obtain ⟨rfl, rfl, rfl, rfl⟩ := e
  clear er ho h2 c3 b1 b2 hle hc
  have hcp0 := h.wk.cp
  have hC0 := hcp0.hC
  have hm0 := hcp0.hm
  have hw0 := hcp0.be.size
  have hCl : C < w.heap.size := World.block_lt_of_cell? w _ hcp0.c0
  have hml := hcp0.mp.lt
  have old : ∀ z, z < w0.heap.size → w2.heap[z]? = w.heap[z]? := fun z hz => hlf.block z (by omega) (by omega) (by omega) (fun e => by have := (own_base hcp0.own e).1; omega)
  have kept : ∀ z ∈ x.g :: F ++ (st0 ++ cs).map Ps.g, w2.heap[z]? = w.heap[z]? := fun z hz => by
    obtain ⟨a1, a2, a3, a4, a5⟩ := h.wk.lo z hz
    exact hlf.block z a2 a3 a4 a5
  have hgx := kept x.g (by simp)
  have cx : ∀ q v, w.cell? ⟨x.g, q, none⟩ = some v → w2.cell? ⟨x.g, q, none⟩ = some v := fun q v hv => (World.cell?_of_block (w := w) hgx).trans hv
  have hg2 : g < w2.heap.size := by
    have hr := hok.row
    cases l with
    | nil => exact absurd rfl hl
    | cons t r =>
      rw [OsR] at hr
      obtain ⟨_, _, _, ht, _⟩ := hr
      obtain ⟨v, hv⟩ := ht.head
      exact World.block_lt_of_cell? w2 _ hv
  have hov2 : ∀ z, z < w.heap.size → ov.ownBlock ≠ some z → ov'.ownBlock ≠ some z := fun z hz hn e => by
    rcases hov with h1 | ⟨q, h1, h2, _⟩
    · exact hn (h1.symm.trans e)
    · rw [h1] at e; injection e with e; omega
  have hovg : ov'.ownBlock ≠ some g := fun e => by
    rcases hov with h1 | ⟨q, h1, h2, h3⟩
    · rw [h1] at e; have := (own_base hcp0.own e).2; omega
    · rw [h1] at e; injection e with e; exact h3 e
  have c3' : ∃ v, w.cell? ⟨x.g, 4 * i + 3, none⟩ = some v := by
    obtain ⟨_, _, _, _, _, _, _, _, _, _, _, _, _, _, q3, _⟩ := drop_row hi h.row
    exact ⟨_, q3⟩
  have hmap : (st0 ++ (cs ++ [(⟨g, c, l, bs⟩ : Ps)])).map Ps.g = (st0 ++ cs).map Ps.g ++ [g] := by simp
  have hflat : (st0 ++ (cs ++ [(⟨g, c, l, bs⟩ : Ps)])).flatMap Ps.ob = (st0 ++ cs).flatMap Ps.ob ++ bs := by simp
  have hp0 : 0 < l.length := by
    rcases Nat.eq_zero_or_pos l.length with h | h
    · exact absurd (List.eq_nil_of_length_eq_zero h) hl
    · exact h
  refine ⟨⟨?_, fun z hz => ?_, ?_, fun z hz => ?_, fun z hz => ?_, ?_, ?_, by have := h.wk.len; simp at this ⊢; omega⟩, h.half.keep (fun q v _ _ hv => cx q v hv), hi, hat, cx _ _ c0, cx _ _ c1, cx _ _ c2, by obtain ⟨v, hv⟩ := c3'; exact ⟨v, cx _ _ hv⟩, hs, ?_, fun q => (World.frozen?_of_block (w := w) hgx).trans (h.fr q), fun z hz => ?_, ?_, fun z hz => h.remo z (by rw [hrem]; simp [hz]), .inr ⟨hl, ⟨g, c, l, bs⟩, rfl, rfl, rfl, hok.le, hok.max⟩⟩
  · rw [← List.append_assoc]; exact hcp
  · rw [← List.append_assoc] at hz
    rcases List.mem_append.1 hz with hz | hz
    · exact (h.wk.ps z hz).keep (kept z.g (List.mem_append_right _ (List.mem_map_of_mem hz))) (fun q hq _ => old q (h.wk.olds z hz q hq))
    · simp at hz; subst hz; exact hok
  · rw [hmap, ← List.append_assoc]
    refine List.nodup_append.2 ⟨h.wk.nd, by simp, fun a ha q hq => ?_⟩
    simp at hq
    have := (h.wk.lo a ha).2.1
    omega
  · rw [hmap, ← List.append_assoc] at hz
    rcases List.mem_append.1 hz with hz | hz
    · obtain ⟨a1, a2, a3, a4, a5⟩ := h.wk.lo z hz
      exact ⟨a1, Nat.lt_of_lt_of_le a2 hlf.size, a3, a4, hov2 z a2 a5⟩
    · simp at hz
      subst hz
      exact ⟨by omega, hg2, by omega, by omega, hovg⟩
  · rw [← List.append_assoc] at hz
    rcases List.mem_append.1 hz with hz | hz
    · exact h.wk.olds z hz
    · simp at hz; subst hz
      exact fun q hq => h.remo q (by rw [hrem]; simp [hq])
  · have hcnt := h.wk.cnt
    have hnt := ntL_eq l
    rw [hin] at hcnt
    have hsum : ((st0 ++ (cs ++ [(⟨g, c, l, bs⟩ : Ps)])).map (fun y => inL y.m)).sum = ((st0 ++ cs).map (fun y => inL y.m)).sum + inL l := by
      rw [← List.append_assoc, List.map_append, List.sum_append]; simp
    rw [hsum]
    omega
  · rcases h.wk.dup with hd | ⟨hd1, hd2⟩
    · exact .inl hd
    · refine .inr ⟨?_, fun b' o' hS => ?_⟩
      · rw [hflat]
        rw [hrem] at hd1
        refine (List.Perm.nodup_iff ?_).1 (List.nodup_cons.1 ((List.Perm.nodup_iff (l₂ := b :: ((st0 ++ cs).flatMap Ps.ob ++ (bs ++ rem'))) (by rw [List.cons_append]; exact List.perm_middle)).1 hd1)).2
        rw [List.append_assoc]
      · rw [hflat]
        rw [hrem] at hd1 hd2
        rcases hS with hS | ⟨rfl, _⟩
        · have := hd2 b' o' hS
          simp only [List.mem_append, List.mem_cons, not_or] at this ⊢
          exact ⟨⟨this.1, this.2.1.2⟩, this.2.2⟩
        · have hn := (List.nodup_cons.1 ((List.Perm.nodup_iff (l₂ := b' :: ((st0 ++ cs).flatMap Ps.ob ++ (bs ++ rem'))) (by rw [List.cons_append]; exact List.perm_middle)).1 hd1)).1
          simp only [List.mem_append, not_or] at hn ⊢
          exact ⟨⟨hn.1, hn.2.1⟩, hn.2.2⟩
  · exact OsR.keep _ _ _ _ (fun q hq _ => old q (h.remo q (by rw [hrem]; simp [hq]))) (fun q v _ _ hv => cx q v hv) hrow
  · exact (kept z (by simp [hz])).trans (h.kF z hz)
  · have := h.few
    simp; omega
end Go.Proofs.YtjibnlpjpbileaaGreatDoor
namespace Go.Proofs.YtjibnlpjpbileaaGreatDoor
open Go.RowKit
set_option linter.unusedVariables false

theorem own_pop {w : World} {base : Nat} {e : TypeId} {oa : Option Addr} {n oc : Nat} {xs : List Value} {v : Value} (h : w.ownsRow base e 1 (.slice oa (n + 1) oc) (n + 1) (xs ++ [v])) : w.ownsRow base e 1 (.slice oa n oc) n xs ∧ ∃ ob, oa = some ⟨ob, 0, none⟩ ∧ w.cell? ⟨ob, n, none⟩ = some v ∧ n + 1 ≤ oc ∧ oc ≤ maxLen := by
  obtain ⟨hl, hh | ⟨g, c, cur, e1, e2, e3, e4, e5, e6, e7⟩⟩ := h
  · exact absurd hh.2 (by omega)
  · simp only [Value.slice.injEq] at e1
    obtain ⟨rfl, _, rfl⟩ := e1
    have hx : xs.length = n := by simp at hl; omega
    have hcell : w.cell? ⟨g, n, none⟩ = cur[n]? := by simp [World.cell?, e3]
    refine ⟨⟨by rw [hx]; omega, Or.inr ⟨g, oc, cur, rfl, e2, e3, by omega, e5, e6, ?_⟩⟩, g, rfl, ?_, e4, e5⟩
    · have := congrArg (List.take n) e7
      rw [List.take_take, List.take_append_of_le_length (by omega), List.take_of_length_le (by omega : xs.length ≤ n)] at this
      rw [Nat.mul_one] at this ⊢
      rw [← this]; congr 1; omega
    · rw [hcell, ← Array.getElem?_toList]
      have : (cur.toList.take ((n + 1) * 1))[n]? = some v := by rw [e7, List.getElem?_append_right (by omega)]; simp [hx]
      rw [List.getElem?_take, if_pos (by omega)] at this
      exact this
theorem Wk.last {w0 w : World} {C mb : Nat} {oa : Option Addr} {oc : Nat} {F : List Nat} {st0 : List Ps} {x : Ps} {nn T : Nat} {S : Nat → Nat → Prop} {extra : Nat} {rem : List Nat} (h : Wk w0 w C mb (.slice oa (st0.length + 1) oc) F (st0 ++ [x]) nn T S extra rem) : ∃ ob, oa = some ⟨ob, 0, none⟩ ∧ w.cell? ⟨ob, st0.length, none⟩ = some (psV x) ∧ st0.length + 1 ≤ oc ∧ oc ≤ maxLen := by
  have ho := h.cp.own
  rw [List.length_append, List.map_append] at ho
  exact (own_pop ho).2
theorem Wk.pop {w0 w : World} {C mb : Nat} {oa : Option Addr} {oc : Nat} {F : List Nat} {st0 : List Ps} {x : Ps} {nn T : Nat} {S : Nat → Nat → Prop} (h : Wk w0 w C mb (.slice oa (st0.length + 1) oc) F (st0 ++ [x]) nn T S 0 []) : In w0 w (w.setCell ⟨C, 0, none⟩ (.slice oa st0.length oc)) C mb (.slice oa st0.length oc) F st0 [] x 0 nn nn T S x.ob := by
  have hx := h.mem (y := x) (by simp)
  have hxo := h.ps x (by simp)
  have hb : ∀ k, k ≠ C → (w.setCell ⟨C, 0, none⟩ (.slice oa st0.length oc)).heap[k]? = w.heap[k]? := fun k hk => Below.heap_setCell _ ⟨C, 0, none⟩ _ k hk
  have hblk : ∀ n, (Value.slice oa n oc).ownBlock = (Value.slice oa (st0.length + 1) oc).ownBlock := fun n => by cases oa <;> rfl
  have ho := h.cp.own
  rw [List.length_append, List.map_append] at ho
  have ho2 := (own_pop ho).1
  have hC0 := h.cp.hC
  have hovC : (Value.slice oa st0.length oc).ownBlock ≠ some C := fun e => (h.cp.ne2 C ((hblk _).symm.trans e)).1 rfl
  have hnd : (x.g :: F ++ st0.map Ps.g).Nodup := by
    refine (List.Perm.nodup_iff ?_).1 h.nd
    rw [List.map_append, ← List.append_assoc]
    exact List.perm_append_comm
  refine ⟨⟨⟨?_, World.cell?_setCell_same _ _ _ h.cp.c0, ?_, ?_, fun o => by rw [World.frozen?_setCell]; exact h.cp.fz o, ?_, ?_, h.cp.old, h.cp.hC, h.cp.hm, h.cp.ne1, fun g hg => h.cp.ne2 g ((hblk _).symm.trans hg)⟩, fun y hy => ?_, ?_, fun b hx2 => ?_, fun y hy => h.olds y (by simp at hy ⊢; exact .inl hy), ?_, ?_, by have := h.len; simp at this ⊢; omega⟩, by simp [Half], ?_, fun o => by rw [World.frozen?_setCell]; exact hxo.free o, fun b hF => hb b (h.lo b (by simp [hF])).2.2.1, by simp, fun b hb2 => h.olds x (by simp) b hb2⟩
  · exact h.cp.be.setCell hC0 _
  · rw [World.cell?_setCell_other (h := fun e => by simp only [Addr.mk.injEq] at e; omega)]; exact h.cp.c1
  · rw [World.cell?_setCell_other (h := fun e => by simp only [Addr.mk.injEq] at e; omega)]; exact h.cp.c2
  · rw [List.append_nil]; exact ownsRow_set9 ho2 hovC _
  · refine h.cp.mp.keep (hb mb (fun e => h.cp.ne1 e.symm)) (fun b o hs hp => ?_)
    have hbl := h.cp.old b o hs
    have hbb := hb b (by omega)
    obtain ⟨⟨c, t, f, hh⟩, hf⟩ := hp
    exact ⟨⟨c, t, f, hbb.trans hh⟩, fun y => by rw [World.frozen?_of_block (w := w) hbb]; exact hf y⟩
  · have hy' : y ∈ st0 ++ [x] := by simp at hy ⊢; exact .inl hy
    exact (h.ps y hy').keep (hb y.g (h.mem hy').2.2.1) (fun b hb2 _ => hb b (by have := h.olds y hy' b hb2; omega))
  · rw [List.append_nil]; exact hnd
  · have hm : b ∈ F ++ (st0 ++ [x]).map Ps.g := by
      simp at hx2 ⊢
      rcases hx2 with h | h | h
      · exact .inr (.inr h)
      · exact .inl h
      · exact .inr (.inl h)
    obtain ⟨a1, a2, a3, a4, a5⟩ := h.lo b hm
    exact ⟨a1, by rw [World.size_setCell]; exact a2, a3, a4, fun e => a5 ((hblk _).symm.trans e)⟩
  · have := h.cnt
    rw [List.append_nil]
    rw [List.map_append, List.sum_append] at this
    simp at this ⊢
    omega
  · rcases h.dup with hd | ⟨h1, h2⟩
    · exact .inl hd
    · refine .inr ⟨by simpa using h1, fun b o hS => by simpa using h2 b o hS⟩
  · rw [List.drop_zero]
    exact OsR.keep _ _ _ _ (fun b hb2 _ => hb b (by have := h.olds x (by simp) b hb2; omega)) (fun o v _ _ hv => (World.cell?_of_block (w := w) (hb x.g hx.2.2.1)).trans hv) hxo.row
/-- A list is done. -/
theorem In.fin {w0 wS w : World} {C mb : Nat} {ov : Value} {F : List Nat} {st0 cs : List Ps} {x : Ps} {i nn nS T : Nat} {S : Nat → Nat → Prop} {rem : List Nat} {l : List Tm} {g0 : Nat} (h : In w0 wS w C mb ov F st0 cs x i nn nS T S rem) (hi : x.m.length ≤ i) (hk : Kont l g0 F wS (st0 ++ [x])) : Wk w0 w C mb ov (x.g :: F) (st0 ++ cs) nn T S 0 [] ∧ Kont l g0 (x.g :: F) w (st0 ++ cs) := by
  have hr := h.row
  have hw := h.wk
  have hh := h.half
  rw [List.drop_of_length_le hi] at hr hw
  rw [List.take_of_length_le hi] at hh
  rw [OsR] at hr
  subst hr
  rw [inL] at hw
  exact ⟨hw, hk.step h.kF hh h.fr⟩
/-- All is done. -/
theorem Wk.fin {w0 w : World} {C mb : Nat} {ov : Value} {F : List Nat} {nn T : Nat} {S : Nat → Nat → Prop} {extra : Nat} {rem : List Nat} {l : List Tm} {g0 : Nat} (h : Wk w0 w C mb ov F [] nn T S extra rem) (hk : Kont l g0 F w []) : ∃ bs, OsL w l bs (some ⟨g0, 0, none⟩) ∧ bs.Nodup ∧ ∀ b ∈ bs, w0.heap.size ≤ b := by
  obtain ⟨bs, hp, ho⟩ := hk.fin
  have hn := h.nd
  rw [List.map_nil, List.append_nil] at hn
  exact ⟨bs, ho, (List.Perm.nodup_iff hp).2 hn, fun b hb => (h.lo b (List.mem_append_left _ (hp.mem_iff.1 hb))).1⟩
/-- The first list. -/
theorem Wk.start {w0 w : World} {C mb : Nat} {ov : Value} {l : List Tm} {g c b o : Nat} {bs : List Nat} {S : Nat → Nat → Prop} (hl : l ≠ []) (hcp : Cp w0 w C mb ov [⟨g, c, l, bs⟩] l.length S) (hok : Ps.ok w ⟨g, c, l, bs⟩) (hg : w0.heap.size ≤ g) (hgl : g < w.heap.size) (hC : g ≠ C) (hm : g ≠ mb) (hov : ov.ownBlock ≠ some g) (hbs : ∀ z ∈ bs, z < w0.heap.size) (hS : ∀ x y, S x y → x = b) (hd : ntL l ≤ 10000 ∨ (b :: bs).Nodup) : Wk w0 w C mb ov [] [⟨g, c, l, bs⟩] l.length (ntL l) S 0 [] := by
  refine ⟨hcp, fun y hy => by simp at hy; subst hy; exact hok, by simp, fun z hz => by simp at hz; subst hz; exact ⟨hg, hgl, hC, hm, hov⟩, fun y hy => by simp at hy; subst hy; exact hbs, by rw [ntL_eq l]; simp, ?_, ?_⟩
  rotate_left
  · rcases Nat.eq_zero_or_pos l.length with h | h
    · exact absurd (List.eq_nil_of_length_eq_zero h) hl
    · exact h
  rcases hd with h | h
  · exact .inl h
  · obtain ⟨h1, h2⟩ := List.nodup_cons.1 h
    refine .inr ⟨by simpa using h2, fun x y hs => ?_⟩
    rw [hS x y hs]
    simpa using h1
end Go.Proofs.YtjibnlpjpbileaaGreatDoor
namespace Go.Proofs.YtjibnlpjpbileaaGreatDoor
open Go.RowKit
set_option linter.unusedVariables false

def nnOf (w : World) (C : Nat) : Nat := match w.cell? ⟨C, 2, none⟩ with | some (.int _ n) => n.toNat | _ => 0
def openOf (w : World) (C : Nat) : Nat := match w.cell? ⟨C, 0, none⟩ with | some (.slice _ n _) => n | _ => 0
theorem nnOf_is {w : World} {C n : Nat} (h : w.cell? ⟨C, 2, none⟩ = some (.int .i64 n)) : nnOf w C = n := by
  unfold nnOf; rw [h]; simp
theorem openOf_is {w : World} {C n c : Nat} {a : Option Addr} (h : w.cell? ⟨C, 0, none⟩ = some (.slice a n c)) : openOf w C = n := by
  unfold openOf; rw [h]

/-- What ownTerms answers. -/
def OwnP (w : World) (l : List Tm) (e : Ending) (w' : World) : Prop := ∃ ao' cap' bs', e = .returned (.slice ao' l.length cap') ∧ l.length ≤ cap' ∧ cap' ≤ maxLen ∧ OsL w' l bs' ao' ∧ bs'.Nodup ∧ (∀ b ∈ bs', w.heap.size ≤ b) ∧ Below w.heap.size w w'
/-- What it has in hand at each round. -/
def OwnI (w : World) (l : List Tm) (C mb g0 : Nat) (wr : World) : Prop := ∃ (st : List Ps) (F : List Nat) (oa : Option Addr) (oc nn : Nat) (S : Nat → Nat → Prop), Wk w wr C mb (.slice oa st.length oc) F st nn (ntL l) S 0 [] ∧ Kont l g0 F wr st

theorem cp_start (w : World) : Cp w ((w.alloc (.map #[] 0)).alloc (.cells #[.slice none 0 0, .map (some w.heap.size), .int .i64 0] 170)) (w.heap.size + 1) w.heap.size (.slice none 0 0) [] 0 (fun _ _ => False) := by
  have e1 : (w.alloc (.map #[] 0)).heap.size = w.heap.size + 1 := by simp
  have q : ∀ j, ((w.alloc (.map #[] 0)).alloc (.cells #[.slice none 0 0, .map (some w.heap.size), .int .i64 0] 170)).cell? ⟨w.heap.size + 1, j, none⟩ = (#[.slice none 0 0, .map (some w.heap.size), .int .i64 0] : Array Value)[j]? := fun j => by
    rw [← e1, World.cell?_alloc_new]
  refine ⟨((Below.refl _ _).alloc (Nat.le_refl _) _).alloc (by simp) _, q 0, q 1, q 2, fun o => ?_, ⟨rfl, .inl ⟨rfl, rfl⟩⟩, ⟨#[], 0, ?_, fun e he => by simp at he⟩, fun b o h => h.elim, by omega, Nat.le_refl _, by omega, fun g hg => by simp [Value.ownBlock] at hg⟩
  · rw [← e1]; simp
  · show ((w.heap.push _).push _)[w.heap.size]? = _
    rw [Array.getElem?_push, if_neg (by simp), Array.getElem?_push, if_pos rfl]

theorem str_box (w : World) (k n : Int) (s : ByteArray) (v : Value) (hs : s.size ≤ 1048576) :
    Calls Tryz.prog 69 #[.string s] (w.alloc (.cells #[.int .i64 k, .int .i64 n, .string s, v] 38)).drew fun e w2 => e = .returned (.string s) ∧ Below w.heap.size w w2 ∧ ∀ z, w2.cell? ⟨w.heap.size, z, none⟩ = (#[.int .i64 k, .int .i64 n, .string s, v] : Array Value)[z]? := by
  refine (strClone_any s _ hs).mono ?_
  rintro e w2 ⟨h1, h2⟩
  have hb : Below w.heap.size w (w.alloc (.cells #[.int .i64 k, .int .i64 n, .string s, v] 38)).drew := ((Below.refl _ _).alloc (Nat.le_refl _) _).drew
  refine ⟨h1, hb.trans (h2.mono hb.size), fun z => ?_⟩
  rw [h2.cell (p := ⟨w.heap.size, z, none⟩) (by show w.heap.size < _; simp)]
  exact World.cell?_alloc_new w _ _ z

set_option maxHeartbeats 2000000 in
set_option maxRecDepth 100000 in
theorem ownTerms_any (l : List Tm) (bs : List Nat) (ao : Option Addr) (cap : Nat) (w : World) (h : OsL w l bs ao) (hd : ntL l ≤ 10000 ∨ bs.Nodup) (hn : ntL l ≤ 4194304) :
    Calls Tryz.prog 119 #[.slice ao l.length cap] w (OwnP w l) := by
  have hlen : l.length ≤ ntL l := by rw [ntL_eq l]; omega
  have HB0 : Hid (Below w.heap.size w ((w.alloc (.map #[] 0)).alloc (.cells #[.slice none 0 0, .map (some w.heap.size), .int .i64 0] 170))) := ((Below.refl _ _).alloc (Nat.le_refl _) _).alloc (by simp) _
  by_cases hl : l = []
  · subst hl
    have k0 : ((w.alloc (.map #[] 0)).alloc (.cells #[.slice none 0 0, .map (some w.heap.size), .int .i64 0] 170)).cell? ⟨w.heap.size + 1, 0, none⟩ = some (.slice none 0 0) := (cp_start w).c0
    have hmm := @run_makeMap Tryz.prog
    go_enter Tryz.func119, Tryz.ntmps119
    go_wp2_with (go_at_call 140; fail)
    clear hmm
    refine (listOf_none _ _ _ _).mono ?_
    rintro e w1 ⟨rfl, hw1⟩
    obtain rfl := hw1.symm
    obtain ⟨W, hW⟩ : ∃ W, W = (w.alloc (.map #[] 0)).alloc (.cells #[.slice none 0 0, .map (some w.heap.size), .int .i64 0] 170) := ⟨_, rfl⟩
    rw [← hW] at k0 HB0 ⊢
    clear hW
    go_wp2_with fail
    go_loopw [] (fun wr => wr = W) (fun _ => 0)
    case atStart => rfl
    case round =>
      subst hrel
      go_wp2_with fail
      go_ret
      exact ⟨none, 0, [], rfl, Nat.le_refl _, Nat.zero_le _, by rw [OsL], by simp, (fun b hb => by cases hb), HB0.out⟩
  · obtain ⟨b, o, bs0, e1, e2, hfz, hrow⟩ := (OsL.iff hl).1 h
    subst e1 e2
    have hlt := OsL.lt l _ _ h
    have HL0 : Hid (Calls Tryz.prog 140 #[.pointer (some ⟨w.heap.size + 1, 0, none⟩), .slice (some ⟨b, o, none⟩) l.length cap] ((w.alloc (.map #[] 0)).alloc (.cells #[.slice none 0 0, .map (some w.heap.size), .int .i64 0] 170)) fun e w' => ∃ g c, e = .returned (.slice (some ⟨g, 0, none⟩) l.length c) ∧ l.length ≤ c ∧ c ≤ maxLen ∧ OwnI w l (w.heap.size + 1) w.heap.size g w') := by
      refine (listOf_any w _ (w.heap.size + 1) w.heap.size (.slice none 0 0) [] 0 _ (cp_start w) l hl b o cap bs0 (OsL.below HB0.out h) (hlt b (by simp)) (by omega) (by omega) (by simp) (fun x hx => hlt x (by simp [hx])) (fun hS => hS.elim)).mono ?_
      rintro e w1 ⟨g, c, ov', rfl, hok, hg, hcp, hlf, hov⟩
      refine ⟨g, c, rfl, hok.le, hok.max, ?_⟩
      have hcp2 := hcp
      rw [Nat.zero_add, List.nil_append] at hcp2
      obtain ⟨oa, oc, rfl⟩ := hcp2.slice
      have hz0 := HB0.out.size
      have hzz : ((w.alloc (.map #[] 0)).alloc (.cells #[.slice none 0 0, .map (some w.heap.size), .int .i64 0] 170)).heap.size = w.heap.size + 2 := by simp
      rw [hzz] at hg
      have hgl : g < w1.heap.size := by
        have hr := hok.row
        cases hlc : l with
        | nil => exact absurd hlc hl
        | cons t r =>
          rw [hlc, OsR] at hr
          obtain ⟨_, _, _, ht, _⟩ := hr
          obtain ⟨v, hv⟩ := ht.head
          exact World.block_lt_of_cell? w1 _ hv
      have hovg : (Value.slice oa [(⟨g, c, l, bs0⟩ : Ps)].length oc).ownBlock ≠ some g := fun e => by
        rcases hov with h1 | ⟨q, h1, h2, h3⟩
        · rw [h1] at e; simp [Value.ownBlock] at e
        · rw [h1] at e; injection e with e; exact h3 e
      exact ⟨[⟨g, c, l, bs0⟩], [], oa, oc, l.length, _, Wk.start (o := o) hl hcp2 hok (by omega) hgl (by omega) (by omega) hovg (fun z hz => hlt z (by simp [hz])) (fun x y hS => by rcases hS with hS | ⟨h1, _⟩; exact hS.elim; exact h1) hd, Kont.start hl w1 g c bs0⟩
    have HNT : Hid (ntL l ≤ 4194304) := hn
    clear h hfz hrow hlt hd hlen hn
    have hmm := @run_makeMap Tryz.prog
    go_enter Tryz.func119, Tryz.ntmps119
    go_wp2_with (go_at_call 140; fail)
    clear hmm
    refine HL0.out.mono ?_
    rintro e w1 ⟨g0, c0, rfl, hc1, hc2, hI⟩
    have HI0 : Hid (OwnI w l (w.heap.size + 1) w.heap.size g0 w1) := hI
    have HCAP : Hid (l.length ≤ c0 ∧ c0 ≤ maxLen) := ⟨hc1, hc2⟩
    clear hI hc1 hc2
    generalize hC : w.heap.size + 1 = C at *
    have HC : Hid (w.heap.size + 1 = C) := hC
    clear hC
    go_wp2_with fail
    go_loopw [] (fun wr => OwnI w l C w.heap.size g0 wr) (fun wr => 2 * (ntL l - nnOf wr C) + openOf wr C)
    case atStart => exact HI0.out
    case round =>
      revert hrel
      generalize wr = wq
      intro hrel
      obtain ⟨st, F, oa, oc, nn, S, hw, hk⟩ := hrel
      have HW : Hid (Wk w wq C w.heap.size (.slice oa st.length oc) F st nn (ntL l) S 0 []) := hw
      have HK : Hid (Kont l g0 F wq st) := hk
      have k0 := hw.cp.c0
      clear hw hk
      rcases List.eq_nil_or_concat st with rfl | ⟨st0, x, hst⟩
      · go_wp2_with fail
        go_ret
        obtain ⟨bs', ho, hnd, hlo⟩ := HW.out.fin HK.out
        exact ⟨_, _, bs', rfl, HCAP.out.1, HCAP.out.2, ho, hnd, hlo, HW.out.cp.be⟩
      · rw [List.concat_eq_append] at hst
        subst hst
        rw [List.length_append, List.length_singleton] at k0 HW
        obtain ⟨ob, rfl, hlast, hoc1, hoc2⟩ := HW.out.last
        have HIN : Hid (In w wq (wq.setCell ⟨C, 0, none⟩ (.slice (some ⟨ob, 0, none⟩) st0.length oc)) C w.heap.size (.slice (some ⟨ob, 0, none⟩) st0.length oc) F st0 [] x 0 nn nn (ntL l) S x.ob) := HW.out.pop
        obtain ⟨xg, xc, xm, xob⟩ := x
        have fz := HW.out.cp.fz
        unfold maxLen at hoc2
        have V1 : IntKind.i64.wrap (((st0.length + 1 : Nat) : Int) - 1) = (st0.length : Int) := by rw [IntKind.wrap_i64]; omega
        simp only [psV] at hlast
        have hmn : (xm.length : Int) ≤ 9223372036854775807 := by
          have h1 := (HW.out.ps ⟨xg, xc, xm, xob⟩ (by simp)).le
          have h2 := (HW.out.ps ⟨xg, xc, xm, xob⟩ (by simp)).max
          unfold maxLen at h2
          simp only at h1 h2
          omega
        go_wp2_with fail
        obtain ⟨WS, hWS⟩ : ∃ WS, WS = wq.setCell ⟨C, 0, none⟩ (.slice (some ⟨ob, 0, none⟩) st0.length oc) := ⟨_, rfl⟩
        rw [← hWS] at HIN ⊢
        clear hWS
        go_loopw [34] (fun vi wx => ∃ (i : Nat) (ov : Value) (cs : List Ps) (n2 : Nat) (S2 : Nat → Nat → Prop) (rem : List Nat), i ≤ xm.length ∧ vi = .int .i64 i ∧ In w wq wx C w.heap.size ov F st0 cs ⟨xg, xc, xm, xob⟩ i n2 nn (ntL l) S2 rem) (fun vi _ => xm.length - (intOf vi).toNat)
        case atStart => exact ⟨0, _, [], nn, S, xob, Nat.zero_le _, rfl, HIN.out⟩
        case round =>
          obtain ⟨i, ov, cs, n2, S2, rem, hi, rfl, hin⟩ := hrel
          have HN : Hid (In w wq wr C w.heap.size ov F st0 cs ⟨xg, xc, xm, xob⟩ i n2 nn (ntL l) S2 rem) := hin
          by_cases hlt : i < xm.length
          · obtain ⟨k, n, s, li, b1, b2, ao, cap, hat, er, q0, q1, q2, hs, q3, hle, hcp, hol, h2, hinl⟩ := drop_row hlt hin.row
            rw [Nat.mul_comm 4 i] at q0 q1 q2 q3
            have HAT : Hid (xm[i] = .mk k n s li) := hat
            have HS : Hid (s.size ≤ 1048576) := hs
            have hfr := hin.fr
            clear hat er hol h2 hinl hin hle hcp
            by_cases hli : li = []
            · subst hli
              have HMD : Hid (∀ w2, Below wr.heap.size wr w2 → Md w wq w2 C w.heap.size ov F st0 cs [] ⟨xg, xc, xm, xob⟩ i n2 nn (ntL l) S2 rem k n s [] (.slice none 0 0)) := fun w2 hb => (HN.out.call hb).void hlt HAT.out
              have HSTO : Hid (∀ w2, Below wr.heap.size wr w2 → w2.cell? ⟨xg, i * 4 + 2, none⟩ = some (.string s) ∧ w2.cell? ⟨xg, i * 4 + 3, none⟩ = some (.slice ao 0 cap) ∧ ∀ z, w2.frozen? ⟨xg, z, none⟩ = false) := fun w2 hb => by
                have hxl : xg < wr.heap.size := World.block_lt_of_cell? wr _ q0
                exact ⟨by rw [hb.cell (p := ⟨xg, i * 4 + 2, none⟩) hxl]; exact q2, by rw [hb.cell (p := ⟨xg, i * 4 + 3, none⟩) hxl]; exact q3, fun z => by rw [hb.frozen (p := ⟨xg, z, none⟩) hxl]; exact hfr z⟩
              obtain ⟨W, hW⟩ : ∃ W, W = wr.alloc (.cells #[.int .i64 k, .int .i64 n, .string s, .slice ao 0 cap] 38) := ⟨_, rfl⟩
              have qW : ∀ z, W.cell? ⟨wr.heap.size, z, none⟩ = (#[.int .i64 k, .int .i64 n, .string s, .slice ao 0 cap] : Array Value)[z]? := fun z => by rw [hW, World.cell?_alloc_new]
              have KSTR : Hid (Calls Tryz.prog 69 #[.string s] W.drew fun e w2 => e = .returned (.string s) ∧ Below wr.heap.size wr w2 ∧ ∀ z, w2.cell? ⟨wr.heap.size, z, none⟩ = (#[.int .i64 k, .int .i64 n, .string s, .slice ao 0 cap] : Array Value)[z]?) := by
                rw [hW]; exact str_box wr k n s (.slice ao 0 cap) HS.out
              go_wp2_with fail
              rw [← hW]
              clear hW
              go_region_with (first
                | (go_at_call 69; refine KSTR.out.mono ?_; rintro e w2 ⟨rfl, hb2, qb2⟩; obtain ⟨r2, r3, rf⟩ := HSTO.out w2 hb2; have HB2 : Hid (Below wr.heap.size wr w2) := hb2; clear hb2)
                | (go_at_call 140; refine (listOf_none _ _ _ _).mono ?_; rintro e w' ⟨rfl, hw'⟩; obtain rfl := hw'.symm))
              all_goals
                go_wp2_with fail
                go_roundw
                case rel =>
                  refine ⟨i + 1, ov, cs ++ [], n2, S2, rem, by omega, by go_num, (HMD.out w2 HB2.out).put ?_⟩
                  show Put2 xg (4 * i + 2) _ _ _ _
                  rw [Nat.mul_comm 4 i]
                  first
                    | exact put2_ab r2 r3
                    | exact put2_ba r2 r3
                case measure => simp [intOf]; omega
            · obtain ⟨b2, o2, cap2, bs2, rem2, er, q3', hol, hb0, hbs, hnew, hnT, hlT, hrow2⟩ := HN.out.asks hlt HAT.out hli
              rw [Nat.mul_comm 4 i] at q3'
              have eq3 := q3.symm.trans q3'
              simp only [Option.some.injEq, Value.slice.injEq, true_and] at eq3
              obtain ⟨rfl, rfl⟩ := eq3
              have KL : Hid (∀ w2, Below wr.heap.size wr w2 → Calls Tryz.prog 140 #[.pointer (some ⟨C, 0, none⟩), .slice (some ⟨b2, o2, none⟩) li.length cap] w2 fun e w3 => ∃ g3 c3, e = .returned (.slice (some ⟨g3, 0, none⟩) li.length c3) ∧ (∃ ov' S', Md w wq w3 C w.heap.size ov' F st0 cs [⟨g3, c3, li, bs2⟩] ⟨xg, xc, xm, xob⟩ i (n2 + li.length) nn (ntL l) S' rem2 k n s li (.slice (some ⟨g3, 0, none⟩) li.length c3)) ∧ w3.cell? ⟨xg, i * 4 + 2, none⟩ = some (.string s) ∧ (∃ v, w3.cell? ⟨xg, i * 4 + 3, none⟩ = some v) ∧ ∀ z, w3.frozen? ⟨xg, z, none⟩ = false) := fun w2 hb => by
                have hin2 := HN.out.call hb
                have hNT := HNT.out
                have hlen2 := hin2.wk.len
                refine (listOf_any w w2 C w.heap.size ov (st0 ++ cs) n2 S2 hin2.wk.cp li hli b2 o2 cap bs2 (OsL.below hb hol) hb0 (by omega) (by omega) (by omega) hbs hnew).mono ?_
                rintro e w3 ⟨g3, c3, ov', rfl, hok, hg, hcp3, hlf, hov⟩
                have hmd := hin2.full hlt HAT.out hli er (OsR.keep _ _ _ _ (fun x _ hl => hb.block x hl) (fun z v _ _ hv => by rw [hb.cell (p := ⟨xg, z, none⟩) (World.block_lt_of_cell? wr _ hv)]; exact hv) hrow2) hok hg hcp3 hlf hov
                have e2 := hmd.k2
                have e3 := hmd.k3
                rw [Nat.mul_comm 4 i] at e2 e3
                exact ⟨g3, c3, rfl, ⟨ov', _, hmd⟩, e2, e3, hmd.fr⟩
              clear hol hb0 hbs hnew hnT hlT hrow2 er q3'
              have HSTO : Hid (∀ w2, Below wr.heap.size wr w2 → w2.cell? ⟨xg, i * 4 + 2, none⟩ = some (.string s) ∧ w2.cell? ⟨xg, i * 4 + 3, none⟩ = some (.slice (some ⟨b2, o2, none⟩) li.length cap) ∧ ∀ z, w2.frozen? ⟨xg, z, none⟩ = false) := fun w2 hb => by
                have hxl : xg < wr.heap.size := World.block_lt_of_cell? wr _ q0
                exact ⟨by rw [hb.cell (p := ⟨xg, i * 4 + 2, none⟩) hxl]; exact q2, by rw [hb.cell (p := ⟨xg, i * 4 + 3, none⟩) hxl]; exact q3, fun z => by rw [hb.frozen (p := ⟨xg, z, none⟩) hxl]; exact hfr z⟩
              obtain ⟨W, hW⟩ : ∃ W, W = wr.alloc (.cells #[.int .i64 k, .int .i64 n, .string s, .slice (some ⟨b2, o2, none⟩) li.length cap] 38) := ⟨_, rfl⟩
              have qW : ∀ z, W.cell? ⟨wr.heap.size, z, none⟩ = (#[.int .i64 k, .int .i64 n, .string s, .slice (some ⟨b2, o2, none⟩) li.length cap] : Array Value)[z]? := fun z => by rw [hW, World.cell?_alloc_new]
              have KSTR : Hid (Calls Tryz.prog 69 #[.string s] W.drew fun e w2 => e = .returned (.string s) ∧ Below wr.heap.size wr w2 ∧ ∀ z, w2.cell? ⟨wr.heap.size, z, none⟩ = (#[.int .i64 k, .int .i64 n, .string s, .slice (some ⟨b2, o2, none⟩) li.length cap] : Array Value)[z]?) := by
                rw [hW]; exact str_box wr k n s (.slice (some ⟨b2, o2, none⟩) li.length cap) HS.out
              go_wp2_with fail
              rw [← hW]
              clear hW
              go_region_with (first
                | (go_at_call 69; refine KSTR.out.mono ?_; rintro e w2 ⟨rfl, hb2, qb2⟩; have HB2 : Hid (Below wr.heap.size wr w2) := hb2; clear hb2)
                | (go_at_call 140; refine (KL.out w2 HB2.out).mono ?_; rintro e w3 ⟨g3, c3, rfl, hmd3, r2, ⟨v3, r3⟩, rf⟩; have HMD3 : Hid (∃ ov' S', Md w wq w3 C w.heap.size ov' F st0 cs [⟨g3, c3, li, bs2⟩] ⟨xg, xc, xm, xob⟩ i (n2 + li.length) nn (ntL l) S' rem2 k n s li (.slice (some ⟨g3, 0, none⟩) li.length c3)) := hmd3; clear hmd3))
              all_goals
                go_wp2_with fail
                go_roundw
                case rel =>
                  obtain ⟨ov', S', hmd⟩ := HMD3.out
                  refine ⟨i + 1, ov', cs ++ [⟨g3, c3, li, bs2⟩], n2 + li.length, S', rem2, by omega, by go_num, hmd.put ?_⟩
                  show Put2 xg (4 * i + 2) _ _ _ _
                  rw [Nat.mul_comm 4 i]
                  first
                    | exact put2_ab r2 r3
                    | exact put2_ba r2 r3
                case measure => simp [intOf]; omega
          · have hfin : Wk w wr C w.heap.size ov (xg :: F) (st0 ++ cs) n2 (ntL l) S2 0 [] ∧ Kont l g0 (xg :: F) wr (st0 ++ cs) := HN.out.fin (by show xm.length ≤ i; omega) HK.out
            have HF : Hid (Wk w wr C w.heap.size ov (xg :: F) (st0 ++ cs) n2 (ntL l) S2 0 [] ∧ Kont l g0 (xg :: F) wr (st0 ++ cs)) := hfin
            have HFEW : Hid (nn + cs.length ≤ n2) := HN.out.few
            clear hfin hin
            go_wp2_with fail
            go_roundw
            case rel =>
              obtain ⟨hw, hk⟩ := HF.out
              obtain ⟨oa, oc2, rfl⟩ := hw.cp.slice
              exact ⟨st0 ++ cs, xg :: F, oa, oc2, n2, S2, hw, hk⟩
            case measure =>
              obtain ⟨hw, hk⟩ := HF.out
              obtain ⟨oa, oc2, rfl⟩ := hw.cp.slice
              have a1 := nnOf_is hw.cp.c2
              have a2 := openOf_is hw.cp.c0
              have a3 := nnOf_is HW.out.cp.c2
              have a4 := openOf_is HW.out.cp.c0
              have a5 := hw.cnt
              have a6 := HFEW.out
              rw [a1, a2, a3, a4, List.length_append]
              omega
end Go.Proofs.YtjibnlpjpbileaaGreatDoor
namespace Go.Proofs.YtjibnlpjpbileaaGreatDoor
open Go.RowKit
set_option linter.unusedVariables false

theorem run_copy4 (w : World) (ty : TypeId) (g o dLen dCap : Nat) (a : Addr) (sLen sCap : Nat) (cur : Array Value) (t : TypeId) (n : Nat) (cs : List Value) (hn : Nat.min sLen dLen = n) (hcs : cs.length = n * 4)
    (hg : w.heap[g]? = some (.cells cur t (0, 0))) (hsrc : ∀ j v, cs[j]? = some v → w.cell? (a.add j) = some v) (hfit : o + cs.length ≤ cur.size) (h1 : ∀ v ∈ cs, v.oneCell' = true) :
    (Builtin.copy_ #[36, 36] ty #[.slice (some ⟨g, o, none⟩) dLen dCap, .slice (some a) sLen sCap]).run Tryz.prog w =
      .ok (goInt n) (w.setRow g (cur.toList.take o ++ cs ++ cur.toList.drop (o + cs.length)).toArray) := by
  have hl := run_loadCells_list (P := Tryz.prog) w a cs hsrc
  have hst := run_storeCells_at Tryz.prog g o t cs 0 cur w hg (by simpa using hfit) h1
  obtain ⟨i, hi, hz, hs, hb⟩ := infoParts9 info26
  rw [hcs] at hl
  have hn' : min sLen dLen = n := hn
  simp [Builtin.copy_, run_underlying underlying24, Builtin.lenOf, Builtin.firstCells, sizeOf, typeInfo, hi, hs, hn', hl, hst]
theorem step_copy4 {ops : Array Oper} {o : Oper} {a : Act} {w : World} {K : Act → World → Prop} {Q : Exit → Act → World → Prop} {E : Prop} (hgd : o.guard = none) (d s : Operand)
    (ho : o.op = .call { callee := .builtin .copy, args := #[d, s], argTypes := #[36, 36] }) (g off dLen dCap : Nat) (ad : Addr) (sLen sCap : Nat) (hd : a.eval d = .slice (some ⟨g, off, none⟩) dLen dCap) (hs : a.eval s = .slice (some ad) sLen sCap)
    (cur : Array Value) (t : TypeId) (n : Nat) (cs : List Value) (hn : Nat.min sLen dLen = n) (hcs : cs.length = n * 4)
    (hg : w.heap[g]? = some (.cells cur t (0, 0))) (hsrc : ∀ j v, cs[j]? = some v → w.cell? (ad.add j) = some v) (hfit : off + cs.length ≤ cur.size) (h1 : ∀ v ∈ cs, v.oneCell' = true)
    (newrow : List Value) (hnew : cur.toList.take off ++ cs ++ cur.toList.drop (off + cs.length) = newrow) (B : Nat) (w0 : World) (hb : Below B w0 w) (hBg : B ≤ g) (dst : Option Nat) (hdst : o.dst = dst) (ni : Int) (hni : (n : Int) = ni)
    (h : ∀ w', Hid (w'.heap[g]? = some (.cells newrow.toArray t (0, 0))) → Hid (Below B w0 w') → K (a.put dst (.int .i64 ni)) w') :
    if Region.wanted o (yielded ops a.tmps) = true then Oper.wp Tryz.prog o a w K Q else E := by
  have hw : Region.wanted o (yielded ops a.tmps) = true := by simp [Region.wanted, hgd]
  rw [if_pos hw]
  have hrun := run_copy4 w o.type g off dLen dCap ad sLen sCap cur t n cs hn hcs hg hsrc hfit h1
  unfold Oper.wp
  simp only [execOp, ho, resolve, invoke, builtin, Sem.run_bind, Sem.run_pure, Result.andThen_ok, List.map_toArray, List.map_cons, List.map_nil, hd, hs, hrun]
  have hgi : goInt n = .int .i64 ni := by rw [← hni]; rfl
  rw [hgi]
  show K (a.put o.dst _) _
  rw [hdst]
  refine h _ ?_ ?_
  · rw [hnew]; exact setRow_heap w g cur _ t (0, 0) hg
  · exact hb.trans ⟨rfl, rfl, rfl, by simp [World.setRow], fun k hk => setRow_other w g k _ (by omega)⟩

abbrev eV : List Value := [.int .i64 1, .int .i64 0, .string ⟨#[]⟩, .slice none 0 0]
abbrev zV : List Value := [.int .i64 0, .int .i64 0, .string ⟨#[]⟩, .slice none 0 0]
def rowA (n : Nat) : List Value := (List.replicate n eV).flatten ++ (List.replicate (8 - n) zV).flatten
theorem zeros8 : zeros 8 = (rowA 0).toArray := by kernel_rfl
theorem one8 {n : Nat} : ∀ u ∈ (List.replicate n eV).flatten, u.oneCell' = true := fun u hu => by
  obtain ⟨l, h1, h2⟩ := List.mem_flatten.1 hu
  obtain rfl := List.eq_of_mem_replicate h1
  simp at h2
  rcases h2 with rfl | rfl | rfl | rfl <;> rfl
theorem rowA_at {n j : Nat} {v : Value} (h : (List.replicate n eV).flatten[j]? = some v) : (rowA n)[j]? = some v := by
  unfold rowA
  rw [List.getElem?_append_left (List.getElem?_eq_some_iff.1 h).1]; exact h
theorem setRow_below {w : World} {g : Nat} {B : Nat} {w0 : World} (hb : Below B w0 w) (hg : B ≤ g) (c : Array Value) : Below B w0 (w.setRow g c) := hb.trans ⟨rfl, rfl, rfl, by simp [World.setRow], fun k hk => setRow_other w g k c (by omega)⟩
theorem src_row {w : World} {g n : Nat} (hg : w.heap[g]? = some (.cells (rowA n).toArray 38 (0, 0))) : ∀ j v, (List.replicate n eV).flatten[j]? = some v → w.cell? ((⟨g, 0, none⟩ : Addr).add j) = some v := fun j v hv => by
  rw [Addr.add_lit, Nat.zero_add]
  simp [World.cell?, hg, rowA_at hv]
theorem fill2 {n : Nat} (h : n = 1 ∨ n = 2 ∨ n = 4) : ((rowA n).toArray.toList.take (n * 4) ++ (List.replicate n eV).flatten ++ (rowA n).toArray.toList.drop (n * 4 + (List.replicate n eV).flatten.length)) = rowA (2 * n) := by
  rcases h with rfl | rfl | rfl <;> rfl

theorem run_fill4 {w W : World} {n : Nat} (h : n = 1 ∨ n = 2 ∨ n = 4) (hg : W.heap[w.heap.size]? = some (.cells (rowA n).toArray 38 (0, 0))) (hb : Below w.heap.size w W) :
    ∃ w2, (Builtin.copy_ #[36, 36] 3 #[.slice (some ⟨w.heap.size, n * 4, none⟩) (8 - n) (8 - n), .slice (some ⟨w.heap.size, 0, none⟩) n 8]).run Tryz.prog W = .ok (.int .i64 n) w2 ∧ w2.heap[w.heap.size]? = some (.cells (rowA (2 * n)).toArray 38 (0, 0)) ∧ Below w.heap.size w w2 := by
  have hl : (List.replicate n eV).flatten.length = n * 4 := by rcases h with rfl | rfl | rfl <;> rfl
  have hmin : Nat.min n (8 - n) = n := by rcases h with rfl | rfl | rfl <;> rfl
  have hfit : n * 4 + (List.replicate n eV).flatten.length ≤ (rowA n).toArray.size := by rcases h with rfl | rfl | rfl <;> decide
  have := run_copy4 W 3 w.heap.size (n * 4) (8 - n) (8 - n) ⟨w.heap.size, 0, none⟩ n 8 (rowA n).toArray 38 n (List.replicate n eV).flatten hmin hl hg (src_row hg) hfit one8
  rw [fill2 h] at this
  exact ⟨_, this, setRow_heap W w.heap.size _ _ _ (0, 0) hg, setRow_below hb (Nat.le_refl _) _⟩
theorem mul18 (w : World) : Calls Tryz.prog 127 #[.int .u64 1, .int .u64 8] w fun e w' => e = .returned (.tuple #[.int .u64 0, .int .u64 8]) ∧ w' = w := by
  refine (Tryz.bits_Mul 1 8 (by omega) (by omega) w).mono ?_
  intro e w' h
  simpa using h

set_option maxHeartbeats 1000000 in
set_option maxRecDepth 100000 in
theorem repeat8_any (b : Nat) (w : World) (hx : ∀ j, w.cell? ⟨b, j, none⟩ = eV.toArray[j]?) :
    Calls Tryz.prog 104 #[.slice (some ⟨b, 0, none⟩) 1 1, .int .i64 8] w fun e w' => ∃ g, e = .returned (.slice (some ⟨g, 0, none⟩) 8 8) ∧ w.heap.size ≤ g ∧ w'.heap[g]? = some (.cells (rowA 8).toArray 38 (0, 0)) ∧ Below w.heap.size w w' := by
  have hbl : b < w.heap.size := by
    have : w.cell? ⟨b, 0, none⟩ = some (.int .i64 1) := hx 0
    exact World.block_lt_of_cell? w _ this
  have hmk : ∀ w : World, (Instr.makeSlice 36 (.int .i64 8) (.int .i64 8)).run Tryz.prog w = .ok (.slice (some ⟨w.heap.size, 0, none⟩) 8 8) (w.alloc (.cells (zeros 8) 38)) := run_zeros 8 (by omega)
  have hg0 : (w.alloc (.cells (zeros 8) 38)).heap[w.heap.size]? = some (.cells (rowA 0).toArray 38 (0, 0)) := by
    rw [zeros8]; show (w.heap.push _)[w.heap.size]? = _; simp
  have hcp : (Builtin.copy_ #[36, 36] 3 #[.slice (some ⟨w.heap.size, 0, none⟩) 8 8, .slice (some ⟨b, 0, none⟩) 1 1]).run Tryz.prog (w.alloc (.cells (zeros 8) 38)) = .ok (.int .i64 1) ((w.alloc (.cells (zeros 8) 38)).setRow w.heap.size (rowA 1).toArray) := by
    have := run_copy4 (w.alloc (.cells (zeros 8) 38)) 3 w.heap.size 0 8 8 ⟨b, 0, none⟩ 1 1 (rowA 0).toArray 38 1 eV rfl rfl hg0 (fun j v hv => by
      rw [Addr.add_lit, Nat.zero_add, World.cell?_alloc_lt (h := hbl), hx j]; simpa using hv) (by decide) (by intro u hu; simp at hu; rcases hu with rfl | rfl | rfl | rfl <;> rfl)
    exact this
  obtain ⟨W1, hW1⟩ : ∃ W1, W1 = (w.alloc (.cells (zeros 8) 38)).setRow w.heap.size (rowA 1).toArray := ⟨_, rfl⟩
  have HG1 : Hid (W1.heap[w.heap.size]? = some (.cells (rowA 1).toArray 38 (0, 0))) := by rw [hW1]; exact setRow_heap _ _ _ _ _ _ hg0
  have HB1 : Hid (Below w.heap.size w W1) := by rw [hW1]; exact setRow_below ((Below.refl _ _).alloc (Nat.le_refl _) _) (Nat.le_refl _) _
  rw [← hW1] at hcp
  clear hW1 hg0 hx hbl
  go_enter Tryz.func104, Tryz.ntmps104
  go_wp2_with (go_at_call 127; refine (mul18 _).mono ?_; rintro e w' ⟨rfl, hw'⟩; obtain rfl := hw'.symm)
  clear hcp hmk
  go_loopw [8] (fun v wr => ∃ n : Nat, (n = 1 ∨ n = 2 ∨ n = 4 ∨ n = 8) ∧ v = .int .i64 n ∧ wr.heap[w.heap.size]? = some (.cells (rowA n).toArray 38 (0, 0)) ∧ Below w.heap.size w wr) (fun v _ => 8 - (intOf v).toNat)
  case atStart => exact ⟨1, .inl rfl, rfl, HG1.out, HB1.out⟩
  case round =>
    obtain ⟨n, hn, rfl, hg, hb⟩ := hrel
    have HG : Hid (wr.heap[w.heap.size]? = some (.cells (rowA n).toArray 38 (0, 0))) := hg
    have HB : Hid (Below w.heap.size w wr) := hb
    clear hg hb
    have e2 : IntKind.i64.wrap 2 = 2 := by decide
    have e4 : IntKind.i64.wrap 4 = 4 := by decide
    have e8 : IntKind.i64.wrap 8 = 8 := by decide
    rcases hn with rfl | rfl | rfl | rfl
    · obtain ⟨w2, hcp2, hg2, hb2⟩ := run_fill4 (n := 1) (W := wr.drew) (by omega) HG.out HB.out.drew
      have HG2 : Hid (w2.heap[w.heap.size]? = some (.cells (rowA 2).toArray 38 (0, 0))) := hg2
      have HB2 : Hid (Below w.heap.size w w2) := hb2
      clear hg2 hb2
      have hcp3 : (Builtin.copy_ #[36, 36] 3 #[.slice (some ⟨w.heap.size, 4, none⟩) 7 7, .slice (some ⟨w.heap.size, 0, none⟩) 1 8]).run Tryz.prog wr.drew = .ok (.int .i64 1) w2 := hcp2
      clear hcp2
      go_wp2_with fail
      go_region
      all_goals
        clear hcp3
        go_wp2_with fail
        go_roundw
        case rel => exact ⟨2, by omega, by rfl, HG2.out, HB2.out⟩
        case measure => simp [intOf]
    · obtain ⟨w2, hcp2, hg2, hb2⟩ := run_fill4 (n := 2) (W := wr.drew) (by omega) HG.out HB.out.drew
      have HG2 : Hid (w2.heap[w.heap.size]? = some (.cells (rowA 4).toArray 38 (0, 0))) := hg2
      have HB2 : Hid (Below w.heap.size w w2) := hb2
      clear hg2 hb2
      have hcp3 : (Builtin.copy_ #[36, 36] 3 #[.slice (some ⟨w.heap.size, 8, none⟩) 6 6, .slice (some ⟨w.heap.size, 0, none⟩) 2 8]).run Tryz.prog wr.drew = .ok (.int .i64 2) w2 := hcp2
      clear hcp2
      go_wp2_with fail
      go_region
      all_goals
        clear hcp3
        go_wp2_with fail
        go_roundw
        case rel => exact ⟨4, by omega, by rfl, HG2.out, HB2.out⟩
        case measure => simp [intOf]
    · obtain ⟨w2, hcp2, hg2, hb2⟩ := run_fill4 (n := 4) (W := wr.drew) (by omega) HG.out HB.out.drew
      have HG2 : Hid (w2.heap[w.heap.size]? = some (.cells (rowA 8).toArray 38 (0, 0))) := hg2
      have HB2 : Hid (Below w.heap.size w w2) := hb2
      clear hg2 hb2
      have hcp3 : (Builtin.copy_ #[36, 36] 3 #[.slice (some ⟨w.heap.size, 16, none⟩) 4 4, .slice (some ⟨w.heap.size, 0, none⟩) 4 8]).run Tryz.prog wr.drew = .ok (.int .i64 4) w2 := hcp2
      clear hcp2
      go_wp2_with fail
      go_region
      all_goals
        clear hcp3
        go_wp2_with fail
        go_roundw
        case rel => exact ⟨8, by omega, by rfl, HG2.out, HB2.out⟩
        case measure => simp [intOf]
    · go_wp2_with fail
      go_ret
      exact ⟨w.heap.size, rfl, Nat.le_refl _, HG.out, HB.out⟩
end Go.Proofs.YtjibnlpjpbileaaGreatDoor
namespace Go.Proofs.YtjibnlpjpbileaaGreatDoor
open Go.RowKit Atom
set_option linter.unusedVariables false

theorem OsV.top {w : World} {bs : List Nat} {k n : Int} {s : ByteArray} {l : List Tm} {ao : Option Addr} {cap : Nat} (h : OsV w bs (.mk k n s l) (.agg #[.int .i64 k, .int .i64 n, .string s, .slice ao l.length cap])) : s.size ≤ 1048576 ∧ l.length ≤ cap ∧ cap ≤ maxLen ∧ OsL w l bs ao := by
  obtain ⟨ao', cap', e, h1, h2, h3, h4⟩ := h
  simp only [Value.agg.injEq, Array.mk.injEq, List.cons.injEq, and_true, Value.slice.injEq, true_and] at e
  obtain ⟨rfl, rfl⟩ := e
  exact ⟨h1, h2, h3, h4⟩

set_option maxHeartbeats 1000000 in
set_option maxRecDepth 100000 in
theorem ownTerm_any (t : Tm) (bs : List Nat) (v : Value) (w : World) (h : OsV w bs t v) (hnd : bs.Nodup) (hn : ntL [t] ≤ 4194304) :
    Calls Tryz.prog 91 #[v] w fun e w' => ∃ v' bs', e = .returned v' ∧ OsV w' bs' t v' ∧ bs'.Nodup ∧ (∀ b ∈ bs', w.heap.size ≤ b) ∧ Below w.heap.size w w' := by
  obtain ⟨k, n, s, l⟩ := t
  obtain ⟨ao, cap, rfl, hs, hl, hc, ho⟩ := h
  have hlt := OsL.lt l bs ao ho
  obtain ⟨W, hW⟩ : ∃ W, W = ((w.alloc (.cells #[.int .i64 k, .int .i64 n, .string s, .slice ao l.length cap] 38)).alloc (.cells #[.int .i64 0, .int .i64 0, .string ⟨#[]⟩, .slice none 0 0] 38)).alloc (.cells #[.int .i64 k, .int .i64 n, .string s, .slice ao l.length cap] 38) := ⟨_, rfl⟩
  have hbW : Below w.heap.size w W := by rw [hW]; exact (((Below.refl _ _).alloc (Nat.le_refl _) _).alloc (by simp) _).alloc (by simp; omega) _
  have h3 := three_new (w := w) (w1 := W) (c1 := #[.int .i64 k, .int .i64 n, .string s, .slice ao l.length cap]) (c2 := #[.int .i64 0, .int .i64 0, .string ⟨#[]⟩, .slice none 0 0]) (c3 := #[.int .i64 k, .int .i64 n, .string s, .slice ao l.length cap]) (t1 := 38) (t2 := 38) (t3 := 38) (by rw [hW]; exact Below.refl _ _)
  obtain ⟨hz, q2, q3, f2, f3⟩ := h3
  have hzW : W.heap.size = w.heap.size + 3 := by rw [hW]; simp
  have hos : OsL W [.mk k n s l] ((w.heap.size + 1 + 1) :: (bs ++ [])) (some ⟨w.heap.size + 1 + 1, 0, none⟩) := by
    rw [OsL]
    refine ⟨w.heap.size + 1 + 1, 0, bs, [], rfl, rfl, f3, ?_, by rw [OsR]⟩
    rw [OsT]
    exact ⟨q3 0, q3 1, q3 2, hs, ao, cap, q3 3, hl, hc, OsL.below hbW ho⟩
  have hnd2 : ((w.heap.size + 1 + 1) :: (bs ++ [])).Nodup := by
    rw [List.append_nil, List.nodup_cons]
    exact ⟨fun hm => by have := hlt _ hm; omega, hnd⟩
  have HOWN : Hid (Calls Tryz.prog 119 #[.slice (some ⟨w.heap.size + 1 + 1, 0, none⟩) 1 1] W (OwnP W [.mk k n s l])) := ownTerms_any [.mk k n s l] _ _ 1 W hos (.inr hnd2) hn
  have HBW : Hid (Below w.heap.size w W) := hbW
  have HQ : Hid (∀ w1, Below W.heap.size W w1 → w1.cell? ⟨w.heap.size + 1, 0, none⟩ = some (.int .i64 0) ∧ w1.cell? ⟨w.heap.size + 1, 1, none⟩ = some (.int .i64 0) ∧ w1.cell? ⟨w.heap.size + 1, 2, none⟩ = some (.string ⟨#[]⟩) ∧ w1.cell? ⟨w.heap.size + 1, 3, none⟩ = some (.slice none 0 0) ∧ (∀ z, w1.frozen? ⟨w.heap.size + 1, z, none⟩ = false)) := fun w1 hb =>
    ⟨keepA hb (q2 0), keepA hb (q2 1), keepA hb (q2 2), keepA hb (q2 3), fun z => by rw [hb.frozen (p := ⟨w.heap.size + 1, z, none⟩) (by show w.heap.size + 1 < _; omega)]; exact f2 z⟩
  clear hos hnd2 hbW hlt ho hs hl hc hnd hn q2 q3 f2 f3 hz
  go_enter Tryz.func91, Tryz.ntmps91
  go_wp2_with (go_at_call 119; fail)
  rw [← hW]
  clear hW
  refine HOWN.out.mono ?_
  rintro e w1 ⟨ao', cap', bs', rfl, hl1, hl2, ho1, hnd1, hlo1, hb1⟩
  rw [OsL] at ho1
  obtain ⟨g, o, c1, c2, eb, ea, hfz, hT, hR⟩ := ho1
  rw [OsR] at hR
  subst hR eb ea
  rw [List.append_nil] at hnd1 hlo1
  rw [OsT] at hT
  obtain ⟨d0, d1, d2, hs2, ao2, cap2, d3, hle2, hcp2, hol2⟩ := hT
  have hgo := hlo1 g (by simp)
  have HR1 : Hid (OsL w1 l c1 ao2 ∧ c1.Nodup ∧ (∀ b ∈ c1, W.heap.size ≤ b) ∧ s.size ≤ 1048576 ∧ l.length ≤ cap2 ∧ cap2 ≤ maxLen) := ⟨hol2, (List.nodup_cons.1 hnd1).2, fun b hb => hlo1 b (by simp [hb]), hs2, hle2, hcp2⟩
  have HB1 : Hid (Below w.heap.size w w1) := HBW.out.trans (hb1.mono HBW.out.size)
  obtain ⟨r0, r1, r2, r3, rf⟩ := HQ.out w1 hb1
  have HZW : Hid (W.heap.size = w.heap.size + 3) := hzW
  clear hol2 hnd1 hlo1 hs2 hle2 hcp2 hb1 hl1 hl2 hgo hzW
  go_wp2_with fail
  refine bodyPost_ret (v := .agg #[.int .i64 k, .int .i64 n, .string s, .slice ao2 l.length cap2]) (by simp [results, Tryz.results91, go_sem, r0, r1, r2, r3]) rfl ⟨_, c1, rfl, ⟨ao2, cap2, rfl, HR1.out.2.2.2.1, HR1.out.2.2.2.2.1, HR1.out.2.2.2.2.2, OsL.keep _ _ _ (fun x hx _ => ?_) HR1.out.1⟩, HR1.out.2.1, fun b hb => ?_, ?_⟩
  · have h1 := HR1.out.2.2.1 x hx
    have h2 := HZW.out
    rw [Below.heap_setCell _ ⟨w.heap.size + 1, 3, none⟩ _ x (by show x ≠ w.heap.size + 1; omega), Below.heap_setCell _ ⟨w.heap.size + 1, 2, none⟩ _ x (by show x ≠ w.heap.size + 1; omega), Below.heap_setCell _ ⟨w.heap.size + 1, 1, none⟩ _ x (by show x ≠ w.heap.size + 1; omega), Below.heap_setCell _ ⟨w.heap.size + 1, 0, none⟩ _ x (by show x ≠ w.heap.size + 1; omega)]
  · have h1 := HR1.out.2.2.1 b hb
    have h2 := HZW.out
    omega
  · exact (((HB1.out.setCell (by show w.heap.size ≤ w.heap.size + 1; omega) _).setCell (by show w.heap.size ≤ w.heap.size + 1; omega) _).setCell (by show w.heap.size ≤ w.heap.size + 1; omega) _).setCell (by show w.heap.size ≤ w.heap.size + 1; omega) _
end Go.Proofs.YtjibnlpjpbileaaGreatDoor
