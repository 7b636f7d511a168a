/-
  A cell: its numbers and its three lists of words; how the law measures it, copies it, compares it and marks it.
-/
import Derived.Test.YtjjmikfbongccaaInA
import Derived.RegionTactic
namespace Go.Proofs.Ytjjmikfbongccaa
open Go.RowKit
set_option linter.unusedVariables false

structure Ce where
  pid : Int
  pc : Int
  R : Nat
  r : Nat → Int
  B : Nat
  b : Nat → Int
  N : Nat
  f : Nat → Int
  h : Int
structure Cw where
  ra : Option Addr
  rc : Nat
  ba : Option Addr
  bc : Nat
  la : Option Addr
  lc : Nat
abbrev ceV (c : Ce) (h : Cw) : Value := .agg #[.int .i64 c.pid, .int .i64 c.pc, .slice h.ra c.R h.rc, .slice h.ba c.B h.bc, .slice h.la c.N h.lc, .int .i64 c.h]
structure CeR (w : World) (c : Ce) (h : Cw) : Prop where
  r0 : RdI w h.ra c.R c.r
  b0 : RdI w h.ba c.B c.b
  l0 : RdI w h.la c.N c.f
theorem CeR.below {w w' : World} {c : Ce} {h : Cw} (x : CeR w c h) (hb : Below w.heap.size w w') : CeR w' c h := ⟨x.r0.below hb, x.b0.below hb, x.l0.below hb⟩
/-- No more than a million words in all. -/
def CeS (c : Ce) : Prop := c.R + c.B + c.N ≤ 1048576
theorem keepC {w w' : World} (h : Below w.heap.size w w') {b o : Nat} {v : Value} (hc : w.cell? ⟨b, o, none⟩ = some v) : w'.cell? ⟨b, o, none⟩ = some v := by
  rw [h.cell (p := ⟨b, o, none⟩) (World.block_lt_of_cell? w _ hc)]; exact hc

set_option maxHeartbeats 1000000 in
set_option maxRecDepth 100000 in
theorem szCell_any (c : Ce) (h : Cw) (left : Int) (w : World) (hR : c.R ≤ maxLen) (hB : c.B ≤ maxLen) (hL : c.N ≤ maxLen) (h0 : 0 ≤ left) (h1 : left ≤ 1048576) :
    Calls Try.prog 5 #[ceV c h, .int .i64 left] w fun e w' => (∃ r : Int, e = .returned (.int .i64 r) ∧ -1 ≤ r ∧ r ≤ left ∧ (0 ≤ r → CeS c)) ∧ Below w.heap.size w w' := by
  obtain ⟨pid, pc, R, r, B, b, N, f, ha⟩ := c
  obtain ⟨ra, rc, ba, bc, la, lc⟩ := h
  have HR : Hid (R ≤ maxLen) := hR
  have HB : Hid (B ≤ maxLen) := hB
  have HN : Hid (N ≤ maxLen) := hL
  clear hR hB hL
  obtain ⟨w0, hw0⟩ : ∃ w0, w0 = w.alloc (.cells #[.int .i64 pid, .int .i64 pc, .slice ra R rc, .slice ba B bc, .slice la N lc, .int .i64 ha] 24) := ⟨_, rfl⟩
  have HB0 : Hid (Below w.heap.size w w0) := by rw [hw0]; exact (Below.refl _ _).alloc (Nat.le_refl _) _
  have hq : ∀ j (v : Value), (#[.int .i64 pid, .int .i64 pc, .slice ra R rc, .slice ba B bc, .slice la N lc, .int .i64 ha] : Array Value)[j]? = some v → w0.cell? ⟨w.heap.size, j, none⟩ = some v := fun j v hv => by
    rw [hw0, World.cell?_alloc_new]; exact hv
  have d3 := hq 3 _ rfl
  have d4 := hq 4 _ rfl
  clear hq
  go_enter Try.func5, Try.ntmps5
  go_wp2_with fail
  rw [← hw0]
  clear hw0
  refine (szIntS_any ra R rc left HR.out ⟨h0, h1⟩ w0).mono ?_
  rintro e w1 ⟨rfl, hw1⟩
  obtain rfl := hw1.symm
  have z1 : -1 ≤ szI R left ∧ (szI R left ≤ left) ∧ (0 ≤ szI R left → szI R left = left - R) := by unfold szI; split <;> omega
  generalize szI R left = x1 at *
  by_cases hx1 : x1 < 0
  · go_wp2_with fail
    go_ret
    exact ⟨⟨-1, rfl, by omega, by omega, fun h => absurd h (by decide)⟩, HB0.out⟩
  · go_wp2_with fail
    refine (szIntS_any ba B bc x1 HB.out (by omega) w0).mono ?_
    rintro e w2 ⟨rfl, hw2⟩
    obtain rfl := hw2.symm
    have z2 : -1 ≤ szI B x1 ∧ (szI B x1 ≤ x1) ∧ (0 ≤ szI B x1 → szI B x1 = x1 - B) := by unfold szI; split <;> omega
    generalize szI B x1 = x2 at *
    by_cases hx2 : x2 < 0
    · go_wp2_with fail
      go_ret
      exact ⟨⟨-1, rfl, by omega, by omega, fun h => absurd h (by decide)⟩, HB0.out⟩
    · go_wp2_with fail
      refine (szIntS_any la N lc x2 HN.out (by omega) w0).mono ?_
      rintro e w3 ⟨rfl, hw3⟩
      obtain rfl := hw3.symm
      have z3 : -1 ≤ szI N x2 ∧ (szI N x2 ≤ x2) ∧ (0 ≤ szI N x2 → szI N x2 = x2 - N) := by unfold szI; split <;> omega
      generalize szI N x2 = x3 at *
      by_cases hx3 : x3 < 0
      · go_wp2_with fail
        go_ret
        exact ⟨⟨-1, rfl, by omega, by omega, fun h => absurd h (by decide)⟩, HB0.out⟩
      · have HALL : Hid (R + B + N ≤ 1048576) := by show _ ≤ _; omega
        go_wp2_with fail
        go_ret
        exact ⟨⟨x3, rfl, by omega, by omega, fun _ => HALL.out⟩, HB0.out⟩

set_option maxHeartbeats 1000000 in
set_option maxRecDepth 100000 in
theorem eqCell_same (c : Ce) (g h : Cw) (w : World) (hg : CeR w c g) (hh : CeR w c h) (hS : CeS c) :
    Calls Try.prog 10 #[ceV c g, ceV c h] w fun e w' => e = .returned (.bool true) ∧ Below w.heap.size w w' := by
  obtain ⟨pid, pc, R, r, B, b, N, f, ha⟩ := c
  obtain ⟨ra, rc, ba, bc, la, lc⟩ := g
  obtain ⟨ra', rc', ba', bc', la', lc'⟩ := h
  have HG : Hid (CeR w ⟨pid, pc, R, r, B, b, N, f, ha⟩ ⟨ra, rc, ba, bc, la, lc⟩) := hg
  have HH : Hid (CeR w ⟨pid, pc, R, r, B, b, N, f, ha⟩ ⟨ra', rc', ba', bc', la', lc'⟩) := hh
  have HS : Hid (R ≤ 1048576 ∧ B ≤ 1048576 ∧ N ≤ 1048576) := by unfold CeS at hS; exact ⟨by dsimp only at hS; omega, by dsimp only at hS; omega, by dsimp only at hS; omega⟩
  clear hg hh hS
  obtain ⟨w0, hw0⟩ : ∃ w0, w0 = (w.alloc (.cells #[.int .i64 pid, .int .i64 pc, .slice ra R rc, .slice ba B bc, .slice la N lc, .int .i64 ha] 27)).alloc (.cells #[.int .i64 pid, .int .i64 pc, .slice ra' R rc', .slice ba' B bc', .slice la' N lc', .int .i64 ha] 27) := ⟨_, rfl⟩
  have HB0 : Hid (Below w.heap.size w w0) := by rw [hw0]; exact ((Below.refl _ _).alloc (Nat.le_refl _) _).alloc (by simp) _
  have hq : ∀ j (v : Value), (#[.int .i64 pid, .int .i64 pc, .slice ra R rc, .slice ba B bc, .slice la N lc, .int .i64 ha] : Array Value)[j]? = some v → w0.cell? ⟨w.heap.size, j, none⟩ = some v := fun j v hv => by
    rw [hw0]
    refine keepC ((Below.refl _ _).alloc (Nat.le_refl _) _) ?_
    rw [World.cell?_alloc_new]; exact hv
  have hq' : ∀ j (v : Value), (#[.int .i64 pid, .int .i64 pc, .slice ra' R rc', .slice ba' B bc', .slice la' N lc', .int .i64 ha] : Array Value)[j]? = some v → w0.cell? ⟨w.heap.size + 1, j, none⟩ = some v := fun j v hv => by
    rw [hw0]
    have e : (w.alloc (.cells #[.int .i64 pid, .int .i64 pc, .slice ra R rc, .slice ba B bc, .slice la N lc, .int .i64 ha] 27)).heap.size = w.heap.size + 1 := by simp
    rw [← e, World.cell?_alloc_new]; exact hv
  have HC : Hid (∀ w1, Below w0.heap.size w0 w1 → (w1.cell? ⟨w.heap.size, 3, none⟩ = some (.slice ba B bc) ∧ w1.cell? ⟨w.heap.size, 4, none⟩ = some (.slice la N lc) ∧ w1.cell? ⟨w.heap.size, 5, none⟩ = some (.int .i64 ha)) ∧ (w1.cell? ⟨w.heap.size + 1, 3, none⟩ = some (.slice ba' B bc') ∧ w1.cell? ⟨w.heap.size + 1, 4, none⟩ = some (.slice la' N lc') ∧ w1.cell? ⟨w.heap.size + 1, 5, none⟩ = some (.int .i64 ha))) := fun w1 hb =>
    ⟨⟨keepC hb (hq 3 _ rfl), keepC hb (hq 4 _ rfl), keepC hb (hq 5 _ rfl)⟩, keepC hb (hq' 3 _ rfl), keepC hb (hq' 4 _ rfl), keepC hb (hq' 5 _ rfl)⟩
  clear hq hq'
  go_enter Try.func10, Try.ntmps10
  go_wp2_with fail
  rw [← hw0]
  clear hw0
  refine (eqIntS_same ra ra' R rc rc' r r w0 (HG.out.below HB0.out).r0 (HH.out.below HB0.out).r0 (fun _ _ => rfl) HS.out.1).mono ?_
  rintro e w1 ⟨rfl, hb1⟩
  have HB1 : Hid (Below w0.heap.size w0 w1) := hb1
  have HX1 : Hid (Below w.heap.size w w1) := HB0.out.trans (hb1.mono HB0.out.size)
  obtain ⟨⟨d3, _, _⟩, d3', _, _⟩ := HC.out w1 hb1
  clear hb1
  go_wp2_with fail
  refine (eqIntS_same ba ba' B bc bc' b b w1 (HG.out.below HX1.out).b0 (HH.out.below HX1.out).b0 (fun _ _ => rfl) HS.out.2.1).mono ?_
  rintro e w2 ⟨rfl, hb2⟩
  have HB2 : Hid (Below w0.heap.size w0 w2) := HB1.out.trans (hb2.mono HB1.out.size)
  have HX2 : Hid (Below w.heap.size w w2) := HX1.out.trans (hb2.mono HX1.out.size)
  obtain ⟨⟨_, d4, _⟩, _, d4', _⟩ := HC.out w2 HB2.out
  clear hb2 d3 d3'
  go_wp2_with fail
  refine (eqIntS_same la la' N lc lc' f f w2 (HG.out.below HX2.out).l0 (HH.out.below HX2.out).l0 (fun _ _ => rfl) HS.out.2.2).mono ?_
  rintro e w3 ⟨rfl, hb3⟩
  have HX3 : Hid (Below w.heap.size w w3) := HX2.out.trans (hb3.mono HX2.out.size)
  obtain ⟨⟨_, _, d5⟩, _, _, d5'⟩ := HC.out w3 (HB2.out.trans (hb3.mono HB2.out.size))
  clear hb3 d4 d4'
  go_wp2_with fail
  go_ret
  exact ⟨rfl, HX3.out⟩

/-! ### A copy -/
theorem cells_setC {w : World} {g j : Nat} {c c' : Array Value} {v x : Value} (hc : ∀ o, w.cell? ⟨g, o, none⟩ = c[o]?) (hj : c[j]? = some x) (h1 : c'[j]? = some v) (h2 : ∀ o, o ≠ j → c'[o]? = c[o]?) : ∀ o, (w.setCell ⟨g, j, none⟩ v).cell? ⟨g, o, none⟩ = c'[o]? := fun o => by
  by_cases e : o = j
  · subst e
    rw [World.cell?_setCell_same w ⟨g, o, none⟩ v ((hc o).trans hj)]; exact h1.symm
  · rw [World.cell?_setCell_other (h := fun q => e (by simp only [Addr.mk.injEq] at q; omega)), hc o]; exact (h2 o e).symm
theorem sixC {a b c d e f a' b' c' d' e' f' : Value} (j : Nat) (h : (0 ≠ j → a' = a) ∧ (1 ≠ j → b' = b) ∧ (2 ≠ j → c' = c) ∧ (3 ≠ j → d' = d) ∧ (4 ≠ j → e' = e) ∧ (5 ≠ j → f' = f)) : ∀ o, o ≠ j → (#[a', b', c', d', e', f'] : Array Value)[o]? = (#[a, b, c, d, e, f] : Array Value)[o]? := fun o ho => by
  obtain ⟨h0, h1, h2, h3, h4, h5⟩ := h
  match o, ho with
  | 0, ho => rw [h0 ho]; rfl
  | 1, ho => rw [h1 ho]; rfl
  | 2, ho => rw [h2 ho]; rfl
  | 3, ho => rw [h3 ho]; rfl
  | 4, ho => rw [h4 ho]; rfl
  | 5, ho => rw [h5 ho]; rfl
  | n + 6, _ => rw [Array.getElem?_eq_none (by simp), Array.getElem?_eq_none (by simp)]
/-- What a copy has in hand: its argument's box, the result's and its own. -/
structure Tc3 (w w1 : World) (c1 c2 c3 : Array Value) : Prop where
  be : Below w.heap.size w w1
  sz : w.heap.size + 3 ≤ w1.heap.size
  q1 : ∀ o, w1.cell? ⟨w.heap.size, o, none⟩ = c1[o]?
  q2 : ∀ o, w1.cell? ⟨w.heap.size + 1, o, none⟩ = c2[o]?
  q3 : ∀ o, w1.cell? ⟨w.heap.size + 1 + 1, o, none⟩ = c3[o]?
  f2 : ∀ o, w1.frozen? ⟨w.heap.size + 1, o, none⟩ = false
  f3 : ∀ o, w1.frozen? ⟨w.heap.size + 1 + 1, o, none⟩ = false
theorem Tc3.call {w w1 w2 : World} {c1 c2 c3 : Array Value} (h : Tc3 w w1 c1 c2 c3) (hb : Below w1.heap.size w1 w2) : Tc3 w w2 c1 c2 c3 := by
  have hz := h.sz
  exact ⟨h.be.trans (hb.mono h.be.size), Nat.le_trans h.sz hb.size, fun o => by rw [hb.cell (p := ⟨w.heap.size, o, none⟩) (by show w.heap.size < _; omega)]; exact h.q1 o,
    fun o => by rw [hb.cell (p := ⟨w.heap.size + 1, o, none⟩) (by show w.heap.size + 1 < _; omega)]; exact h.q2 o, fun o => by rw [hb.cell (p := ⟨w.heap.size + 1 + 1, o, none⟩) (by show w.heap.size + 1 + 1 < _; omega)]; exact h.q3 o,
    fun o => by rw [hb.frozen (p := ⟨w.heap.size + 1, o, none⟩) (by show w.heap.size + 1 < _; omega)]; exact h.f2 o, fun o => by rw [hb.frozen (p := ⟨w.heap.size + 1 + 1, o, none⟩) (by show w.heap.size + 1 + 1 < _; omega)]; exact h.f3 o⟩
theorem Tc3.set {w w1 : World} {c1 c2 c3 c3' : Array Value} (h : Tc3 w w1 c1 c2 c3) (j : Nat) {x v : Value} (hj : c3[j]? = some x) (h1 : c3'[j]? = some v) (h2 : ∀ o, o ≠ j → c3'[o]? = c3[o]?) : Tc3 w (w1.setCell ⟨w.heap.size + 1 + 1, j, none⟩ v) c1 c2 c3' := by
  refine ⟨h.be.setCell (by show w.heap.size ≤ w.heap.size + 1 + 1; omega) _, by rw [World.size_setCell]; exact h.sz, fun o => ?_, fun o => ?_, cells_setC h.q3 hj h1 h2, fun o => by rw [World.frozen?_setCell]; exact h.f2 o, fun o => by rw [World.frozen?_setCell]; exact h.f3 o⟩
  · rw [World.cell?_setCell_other (h := fun q => by simp only [Addr.mk.injEq] at q; omega)]; exact h.q1 o
  · rw [World.cell?_setCell_other (h := fun q => by simp only [Addr.mk.injEq] at q; omega)]; exact h.q2 o
theorem Tc3.new (w : World) (c1 c2 c3 : Array Value) (t1 t2 t3 : TypeId) : Tc3 w (((w.alloc (.cells c1 t1)).alloc (.cells c2 t2)).alloc (.cells c3 t3)) c1 c2 c3 := by
  have cl : ∀ {W : World} {b o : Nat} {c : Array Value} {t : TypeId} {f : Nat × Nat}, W.heap[b]? = some (.cells c t f) → W.cell? ⟨b, o, none⟩ = c[o]? := fun h => by simp [World.cell?, h]
  have fz : ∀ {W : World} {b o : Nat} {c : Array Value} {t : TypeId}, W.heap[b]? = some (.cells c t (0, 0)) → W.frozen? ⟨b, o, none⟩ = false := fun h => by simp [World.frozen?, h]
  have e1 : (((w.alloc (.cells c1 t1)).alloc (.cells c2 t2)).alloc (.cells c3 t3)).heap[w.heap.size]? = some (.cells c1 t1 (0, 0)) := by
    show (((w.heap.push _).push _).push _)[w.heap.size]? = _
    rw [Array.getElem?_push, if_neg (by simp; omega), Array.getElem?_push, if_neg (by simp), Array.getElem?_push, if_pos (by simp)]
  have e2 : (((w.alloc (.cells c1 t1)).alloc (.cells c2 t2)).alloc (.cells c3 t3)).heap[w.heap.size + 1]? = some (.cells c2 t2 (0, 0)) := by
    show (((w.heap.push _).push _).push _)[w.heap.size + 1]? = _
    rw [Array.getElem?_push, if_neg (by simp), Array.getElem?_push, if_pos (by simp)]
  have e3 : (((w.alloc (.cells c1 t1)).alloc (.cells c2 t2)).alloc (.cells c3 t3)).heap[w.heap.size + 1 + 1]? = some (.cells c3 t3 (0, 0)) := by
    show (((w.heap.push _).push _).push _)[w.heap.size + 1 + 1]? = _
    rw [Array.getElem?_push, if_pos (by simp)]
  exact ⟨(((Below.refl _ _).alloc (Nat.le_refl _) _).alloc (by simp) _).alloc (by simp; omega) _, by simp only [World.size_alloc]; omega, fun o => cl e1, fun o => cl e2, fun o => cl e3, fun o => fz e2, fun o => fz e3⟩

/-- The three lists, each in a block of its own, none of it below B. -/
structure CI (w : World) (c : Ce) (x y z : Nat) : Prop where
  r : Ints w x 0 c.R c.r
  b : Ints w y 0 c.B c.b
  l : Ints w z 0 c.N c.f
  xy : x < y
  yz : y < z
theorem CI.below {w w' : World} {c : Ce} {x y z : Nat} (h : CI w c x y z) (hz : z < w.heap.size) (hb : Below w.heap.size w w') : CI w' c x y z :=
  ⟨h.r.below hb (by have := h.xy; have := h.yz; omega), h.b.below hb (by have := h.yz; omega), h.l.below hb hz, h.xy, h.yz⟩
theorem CI.rd {w : World} {c : Ce} {x y z : Nat} (h : CI w c x y z) (p q s : Nat) : CeR w c ⟨some ⟨x, 0, none⟩, p, some ⟨y, 0, none⟩, q, some ⟨z, 0, none⟩, s⟩ := ⟨h.r.rdI, h.b.rdI, h.l.rdI⟩
abbrev cwN (c : Ce) (x y z : Nat) : Cw := ⟨some ⟨x, 0, none⟩, c.R, some ⟨y, 0, none⟩, c.B, some ⟨z, 0, none⟩, c.N⟩

set_option maxHeartbeats 1000000 in
set_option maxRecDepth 100000 in
theorem toCell_any (c : Ce) (h : Cw) (w : World) (hr : CeR w c h) (hs : CeS c) :
    Calls Try.prog 7 #[ceV c h] w fun e w' => ∃ x y z, e = .returned (ceV c (cwN c x y z)) ∧ w.heap.size ≤ x ∧ z < w'.heap.size ∧ CI w' c x y z ∧ Below w.heap.size w w' := by
  obtain ⟨pid, pc, R, r, B, b, N, f, ha⟩ := c
  obtain ⟨ra, rc, ba, bc, la, lc⟩ := h
  have HR : Hid (CeR w ⟨pid, pc, R, r, B, b, N, f, ha⟩ ⟨ra, rc, ba, bc, la, lc⟩) := hr
  have HS : Hid (R ≤ 1048576 ∧ B ≤ 1048576 ∧ N ≤ 1048576) := by unfold CeS at hs; exact ⟨by dsimp only at hs; omega, by dsimp only at hs; omega, by dsimp only at hs; omega⟩
  clear hr hs
  go_enter Try.func7, Try.ntmps7
  go_wp2_with fail
  have H0 : Tc3 w _ #[.int .i64 pid, .int .i64 pc, .slice ra R rc, .slice ba B bc, .slice la N lc, .int .i64 ha] #[.int .i64 0, .int .i64 0, .slice none 0 0, .slice none 0 0, .slice none 0 0, .int .i64 0] #[.int .i64 pid, .int .i64 pc, .slice none 0 0, .slice none 0 0, .slice none 0 0, .int .i64 0] := Tc3.new w _ _ _ 24 27 27
  obtain ⟨W0, hW0⟩ : ∃ W0, W0 = ((w.alloc (.cells #[.int .i64 pid, .int .i64 pc, .slice ra R rc, .slice ba B bc, .slice la N lc, .int .i64 ha] 24)).alloc (.cells #[.int .i64 0, .int .i64 0, .slice none 0 0, .slice none 0 0, .slice none 0 0, .int .i64 0] 27)).alloc (.cells #[.int .i64 pid, .int .i64 pc, .slice none 0 0, .slice none 0 0, .slice none 0 0, .int .i64 0] 27) := ⟨_, rfl⟩
  rw [← hW0] at H0 ⊢
  clear hW0
  have HT0 : Hid (Tc3 w W0 #[.int .i64 pid, .int .i64 pc, .slice ra R rc, .slice ba B bc, .slice la N lc, .int .i64 ha] #[.int .i64 0, .int .i64 0, .slice none 0 0, .slice none 0 0, .slice none 0 0, .int .i64 0] #[.int .i64 pid, .int .i64 pc, .slice none 0 0, .slice none 0 0, .slice none 0 0, .int .i64 0]) := H0
  clear H0
  refine (toIntS_any ra R rc r W0 ((HR.out.below HT0.out.be).r0) HS.out.1).mono ?_
  rintro e w1 ⟨rfl, hi1, hl1, hb1⟩
  have H1 := HT0.out.call hb1
  obtain ⟨x, hx⟩ : ∃ x, x = W0.heap.size := ⟨_, rfl⟩
  rw [← hx] at hi1 hl1 ⊢
  have HX : Hid (w.heap.size + 3 ≤ x) := by have := HT0.out.sz; show _ ≤ _; omega
  have H1s : Hid (Tc3 w (w1.setCell ⟨w.heap.size + 1 + 1, 2, none⟩ (.slice (some ⟨x, 0, none⟩) R R)) #[.int .i64 pid, .int .i64 pc, .slice ra R rc, .slice ba B bc, .slice la N lc, .int .i64 ha] #[.int .i64 0, .int .i64 0, .slice none 0 0, .slice none 0 0, .slice none 0 0, .int .i64 0] #[.int .i64 pid, .int .i64 pc, .slice (some ⟨x, 0, none⟩) R R, .slice none 0 0, .slice none 0 0, .int .i64 0]) := H1.set 2 rfl rfl (sixC 2 ⟨fun _ => rfl, fun _ => rfl, fun h => absurd rfl h, fun _ => rfl, fun _ => rfl, fun _ => rfl⟩)
  have hx0 := HX.out
  have HI1 : Hid (Ints (w1.setCell ⟨w.heap.size + 1 + 1, 2, none⟩ (.slice (some ⟨x, 0, none⟩) R R)) x 0 R r ∧ x < (w1.setCell ⟨w.heap.size + 1 + 1, 2, none⟩ (.slice (some ⟨x, 0, none⟩) R R)).heap.size) := ⟨hi1.turn ((Turn.refl (w.heap.size + 1 + 1) _).set 2 _) (by omega) hl1, by rw [World.size_setCell]; exact hl1⟩
  have q1 := H1.q1
  have q3 := H1.q3
  have f3 := H1.f3
  clear hi1 hl1 hb1 H1 hx hx0
  go_wp2_with fail
  obtain ⟨W1, hW1⟩ : ∃ W1, W1 = w1.setCell ⟨w.heap.size + 1 + 1, 2, none⟩ (.slice (some ⟨x, 0, none⟩) R R) := ⟨_, rfl⟩
  rw [← hW1] at H1s HI1 ⊢
  clear hW1 q1 q3 f3
  refine (toIntS_any ba B bc b W1 ((HR.out.below H1s.out.be).b0) HS.out.2.1).mono ?_
  rintro e w2 ⟨rfl, hi2, hl2, hb2⟩
  have H2 := H1s.out.call hb2
  obtain ⟨y, hy⟩ : ∃ y, y = W1.heap.size := ⟨_, rfl⟩
  rw [← hy] at hi2 hl2 ⊢
  have HY : Hid (x < y) := by have := HI1.out.2; show _ < _; omega
  have hx0 := HX.out
  have hy0 := HY.out
  have H2s : Hid (Tc3 w (w2.setCell ⟨w.heap.size + 1 + 1, 3, none⟩ (.slice (some ⟨y, 0, none⟩) B B)) #[.int .i64 pid, .int .i64 pc, .slice ra R rc, .slice ba B bc, .slice la N lc, .int .i64 ha] #[.int .i64 0, .int .i64 0, .slice none 0 0, .slice none 0 0, .slice none 0 0, .int .i64 0] #[.int .i64 pid, .int .i64 pc, .slice (some ⟨x, 0, none⟩) R R, .slice (some ⟨y, 0, none⟩) B B, .slice none 0 0, .int .i64 0]) := H2.set 3 rfl rfl (sixC 3 ⟨fun _ => rfl, fun _ => rfl, fun _ => rfl, fun h => absurd rfl h, fun _ => rfl, fun _ => rfl⟩)
  have HI2 : Hid (Ints (w2.setCell ⟨w.heap.size + 1 + 1, 3, none⟩ (.slice (some ⟨y, 0, none⟩) B B)) x 0 R r ∧ Ints (w2.setCell ⟨w.heap.size + 1 + 1, 3, none⟩ (.slice (some ⟨y, 0, none⟩) B B)) y 0 B b ∧ y < (w2.setCell ⟨w.heap.size + 1 + 1, 3, none⟩ (.slice (some ⟨y, 0, none⟩) B B)).heap.size) := ⟨(HI1.out.1.below hb2 HI1.out.2).turn ((Turn.refl (w.heap.size + 1 + 1) _).set 3 _) (by omega) (by omega), hi2.turn ((Turn.refl (w.heap.size + 1 + 1) _).set 3 _) (by omega) hl2, by rw [World.size_setCell]; exact hl2⟩
  have q1 := H2.q1
  have q3 := H2.q3
  have f3 := H2.f3
  clear hi2 hl2 hb2 H2 hy hx0 hy0
  go_wp2_with fail
  obtain ⟨W2, hW2⟩ : ∃ W2, W2 = w2.setCell ⟨w.heap.size + 1 + 1, 3, none⟩ (.slice (some ⟨y, 0, none⟩) B B) := ⟨_, rfl⟩
  rw [← hW2] at H2s HI2 ⊢
  clear hW2 q1 q3 f3
  refine (toIntS_any la N lc f W2 ((HR.out.below H2s.out.be).l0) HS.out.2.2).mono ?_
  rintro e w3 ⟨rfl, hi3, hl3, hb3⟩
  have H3 := H2s.out.call hb3
  obtain ⟨z, hz⟩ : ∃ z, z = W2.heap.size := ⟨_, rfl⟩
  rw [← hz] at hi3 hl3 ⊢
  have HZ : Hid (y < z) := by have := HI2.out.2.2; show _ < _; omega
  have hx0 := HX.out
  have hy0 := HY.out
  have hz0 := HZ.out
  have HI3 : Hid (CI w3 ⟨pid, pc, R, r, B, b, N, f, ha⟩ x y z ∧ z < w3.heap.size) := ⟨⟨HI2.out.1.below hb3 (by omega), HI2.out.2.1.below hb3 (by omega), hi3, hy0, hz0⟩, hl3⟩
  have HB3 : Hid (Below w.heap.size w w3) := H3.be
  have q1 := H3.q1
  have q2 := H3.q2
  have q3 := H3.q3
  have f2 := H3.f2
  have f3 := H3.f3
  clear hi3 hl3 hb3 H3 hz hx0 hy0 hz0
  go_wp2_with fail
  have tn : ∀ (W : World) (k o : Nat) (v : Value), k < w.heap.size + 3 → z < W.heap.size → CI W ⟨pid, pc, R, r, B, b, N, f, ha⟩ x y z → CI (W.setCell ⟨k, o, none⟩ v) ⟨pid, pc, R, r, B, b, N, f, ha⟩ x y z := fun W k o v hk hl h => by
    have := HX.out; have := HY.out; have := HZ.out
    exact ⟨h.r.turn ((Turn.refl k _).set o _) (by omega) (by omega), h.b.turn ((Turn.refl k _).set o _) (by omega) (by omega), h.l.turn ((Turn.refl k _).set o _) (by omega) hl, h.xy, h.yz⟩
  have hfin := HI3.out.1
  have hzl := HI3.out.2
  have b1 : w.heap.size ≤ w.heap.size + 1 := by omega
  have b2 : w.heap.size ≤ w.heap.size + 1 + 1 := by omega
  refine bodyPost_ret (v := .agg #[.int .i64 pid, .int .i64 pc, .slice (some ⟨x, 0, none⟩) R R, .slice (some ⟨y, 0, none⟩) B B, .slice (some ⟨z, 0, none⟩) N N, .int .i64 ha]) (by simp [results, Try.results7, go_sem, q2]) rfl ⟨x, y, z, rfl, by have := HX.out; omega, by simp only [World.size_setCell]; exact hzl, ?_, ?_⟩
  · iterate 7 (refine tn _ _ _ _ (by omega) (by simp only [World.size_setCell]; exact hzl) ?_)
    exact tn _ _ _ _ (by omega) hzl hfin
  · iterate 6 (refine Below.setCell ?_ b1 _)
    iterate 2 (refine Below.setCell ?_ b2 _)
    exact HB3.out
/-! ### Marks -/
set_option maxHeartbeats 1000000 in
theorem markIntS_C (b o N cap : Nat) (f : Nat → Int) (w : World) (hI : Ints w b o N f) (k : Int) (hk : 0 ≤ k ∧ k ≤ 1048577) (hN : N ≤ 1048576) :
    Calls Try.prog 12 #[.slice (some ⟨b, o, none⟩) N cap, .int .i64 k] w fun e w' => e = .returned (.int .i64 (k + N)) ∧ Turn b w w' ∧ Ints w' b o N (fun j => k + j) := by
  have HI : Hid (Ints w b o N f) := hI
  clear hI
  go_enter Try.func12, Try.ntmps12
  go_wp2_with fail
  go_loopw [1, 5] (fun a i w' => ∃ m : Nat, m ≤ N ∧ i = .int .i64 m ∧ a = .int .i64 (k + m) ∧ Turn b w w' ∧ Ints w' b o N (fun j => if j < m then k + j else f j)) (fun _ i _ => N - (intOf i).toNat)
  case atStart => exact ⟨0, Nat.zero_le _, by simp, by simp, Turn.refl _ _, HI.out.congr (fun j _ => by rw [if_neg (by omega)])⟩
  case round =>
    obtain ⟨m, hm, rfl, rfl, ht, hi⟩ := hrel
    have HT : Hid (Turn b w wr) := ht
    have HI2 : Hid (Ints wr b o N (fun j => if j < m then k + j else f j)) := hi
    by_cases hlt : m < N
    · have cm := hi.cell m hlt
      rw [if_neg (by omega)] at cm
      have fr : ∀ x, wr.frozen? ⟨b, x, none⟩ = false := hi.free
      clear ht hi
      go_wp2_with fail
      go_roundw
      case rel =>
        refine ⟨m + 1, by omega, by go_num, by go_num, HT.out.set _ _, (HI2.out.set m hlt _).congr fun j _ => ?_⟩
        unfold upd
        by_cases e : j = m
        · subst e
          rw [if_pos rfl, if_pos (by omega)]
        · rw [if_neg e]
          dsimp only
          by_cases e2 : j < m
          · rw [if_pos e2, if_pos (by omega)]
          · rw [if_neg e2, if_neg (by omega)]
      case measure => simp [intOf]; omega
    · have hme : m = N := by omega
      subst hme
      clear ht hi
      go_wp2_with fail
      go_ret
      exact ⟨rfl, HT.out, HI2.out.congr (fun j hj => by rw [if_pos hj])⟩


def mkd (k : Int) : Nat → Int := fun j => k + j
/-- The three lists are marked, one behind the other; no other block turned. -/
structure MkC (w w' : World) (c : Ce) (x y z : Nat) (k : Int) : Prop where
  ci : CI w' { c with r := mkd k, b := mkd (k + c.R), f := mkd (k + c.R + c.B) } x y z
  os : w'.os = w.os
  tape : w'.tape = w.tape
  output : w'.output = w.output
  size : w.heap.size ≤ w'.heap.size
  block : ∀ b, b < w.heap.size → b ≠ x → b ≠ y → b ≠ z → w'.heap[b]? = w.heap[b]?
set_option maxHeartbeats 1000000 in
set_option maxRecDepth 100000 in
theorem markCell_any (c : Ce) (x y z : Nat) (cr cb cl : Nat) (w : World) (hI : CI w c x y z) (hS : CeS c) (hlt : z < w.heap.size) :
    Calls Try.prog 11 #[ceV c ⟨some ⟨x, 0, none⟩, cr, some ⟨y, 0, none⟩, cb, some ⟨z, 0, none⟩, cl⟩, .int .i64 1] w fun e w' => e = .returned (.int .i64 (1 + c.R + c.B + c.N)) ∧ MkC w w' c x y z 1 := by
  obtain ⟨pid, pc, R, r, B, b, N, f, ha⟩ := c
  have HI : Hid (CI w ⟨pid, pc, R, r, B, b, N, f, ha⟩ x y z) := hI
  have hxy := hI.xy
  have hyz := hI.yz
  have hs : R + B + N ≤ 1048576 := hS
  have HS : Hid (R + B + N ≤ 1048576) := hs
  clear hI hS
  have hR : (R : Int) ≤ 1048576 := by omega
  have hRB : (1 : Int) + R + B ≤ 1048577 := by omega
  clear hs
  go_enter Try.func11, Try.ntmps11
  go_wp2_with fail
  generalize hA : w.alloc (.cells #[.int .i64 pid, .int .i64 pc, .slice (some ⟨x, 0, none⟩) R cr, .slice (some ⟨y, 0, none⟩) B cb, .slice (some ⟨z, 0, none⟩) N cl, .int .i64 ha] 27) = wa
  have hba : Below w.heap.size w wa := by rw [← hA]; exact (Below.refl _ _).alloc (Nat.le_refl _) _
  have hza : wa.heap.size = w.heap.size + 1 := by rw [← hA, World.size_alloc]
  have qa : ∀ o, wa.cell? ⟨w.heap.size, o, none⟩ = (#[.int .i64 pid, .int .i64 pc, .slice (some ⟨x, 0, none⟩) R cr, .slice (some ⟨y, 0, none⟩) B cb, .slice (some ⟨z, 0, none⟩) N cl, .int .i64 ha] : Array Value)[o]? := fun o => by rw [← hA]; exact World.cell?_alloc_new w _ _ o
  have hia := HI.out.below hlt hba
  have HBA : Hid (Below w.heap.size w wa) := hba
  have HIA : Hid (CI wa ⟨pid, pc, R, r, B, b, N, f, ha⟩ x y z) := hia
  clear hA hba
  refine (markIntS_C x 0 R cr r wa hia.r 1 (by decide) (by have := HS.out; omega)).mono ?_
  rintro e w1 ⟨rfl, ht1, hi1⟩
  have qa1 : ∀ o, w1.cell? ⟨w.heap.size, o, none⟩ = (#[.int .i64 pid, .int .i64 pc, .slice (some ⟨x, 0, none⟩) R cr, .slice (some ⟨y, 0, none⟩) B cb, .slice (some ⟨z, 0, none⟩) N cl, .int .i64 ha] : Array Value)[o]? := fun o => by
    rw [World.cell?_of_block (w := wa) (ht1.block w.heap.size (by omega) (by omega))]; exact qa o
  have HT1 : Hid (Turn x wa w1) := ht1
  have HI1 : Hid (Ints w1 x 0 R (mkd 1)) := hi1
  have HB1 : Hid (Ints w1 y 0 B b) := hia.b.turn ht1 (by omega) (by omega)
  have HL1 : Hid (Ints w1 z 0 N f) := hia.l.turn ht1 (by omega) (by omega)
  have HZA : Hid (wa.heap.size = w.heap.size + 1) := hza
  have HZ1 : Hid (wa.heap.size ≤ w1.heap.size) := ht1.size
  clear qa ht1 hi1 hia hza
  go_wp2_with fail
  have hK : (0 : Int) ≤ 1 + R ∧ (1 : Int) + R ≤ 1048577 := by omega
  refine (markIntS_C y 0 B cb b w1 HB1.out (1 + R) hK (by have := HS.out; omega)).mono ?_
  rintro e w2 ⟨rfl, ht2, hi2⟩
  have z0 := HZA.out
  have z1 := HZ1.out
  have qa2 : ∀ o, w2.cell? ⟨w.heap.size, o, none⟩ = (#[.int .i64 pid, .int .i64 pc, .slice (some ⟨x, 0, none⟩) R cr, .slice (some ⟨y, 0, none⟩) B cb, .slice (some ⟨z, 0, none⟩) N cl, .int .i64 ha] : Array Value)[o]? := fun o => by
    rw [World.cell?_of_block (w := w1) (ht2.block w.heap.size (by omega) (by omega))]; exact qa1 o
  have HT2 : Hid (Turn y w1 w2) := ht2
  have HI2 : Hid (Ints w2 x 0 R (mkd 1) ∧ Ints w2 y 0 B (mkd (1 + R))) := ⟨HI1.out.turn ht2 (by omega) (by omega), hi2⟩
  have HL2 : Hid (Ints w2 z 0 N f) := HL1.out.turn ht2 (by omega) (by omega)
  have HZ2 : Hid (w1.heap.size ≤ w2.heap.size) := ht2.size
  clear ht2 hi2 qa1 z0 z1
  go_wp2_with fail
  have hK2 : (0 : Int) ≤ 1 + R + B ∧ (1 : Int) + R + B ≤ 1048577 := by omega
  refine (markIntS_C z 0 N cl f w2 HL2.out (1 + R + B) hK2 (by have := HS.out; omega)).mono ?_
  rintro e w3 ⟨rfl, ht3, hi3⟩
  have HT3 : Hid (Turn z w2 w3) := ht3
  have HI3 : Hid (Ints w3 z 0 N (mkd (1 + R + B))) := hi3
  clear ht3 hi3 qa2
  go_wp2_with fail
  go_ret
  have z0 := HZA.out
  have z1 := HZ1.out
  have z2 := HZ2.out
  refine ⟨rfl, ⟨HI2.out.1.turn HT3.out (by omega) (by omega), HI2.out.2.turn HT3.out (by omega) (by omega), HI3.out, hxy, hyz⟩, HT3.out.os.trans (HT2.out.os.trans (HT1.out.os.trans HBA.out.os)), HT3.out.tape.trans (HT2.out.tape.trans (HT1.out.tape.trans HBA.out.tape)), HT3.out.output.trans (HT2.out.output.trans (HT1.out.output.trans HBA.out.output)), by have := HT3.out.size; omega, fun b h1 h2 h3 h4 => ?_⟩
  rw [HT3.out.block b (by omega) h4, HT2.out.block b (by omega) h3, HT1.out.block b (by omega) h2, HBA.out.block b h1]
end Go.Proofs.Ytjjmikfbongccaa
