/-
  A copy of an actor.
-/
import Derived.Test.YtgbopbpiciopdaaGreatDoorAcD
namespace Go.Proofs.YtgbopbpiciopdaaGreatDoor
open Go.RowKit Atom
set_option linter.unusedVariables false

/-- Blocks below B but these three are as they were. -/
theorem keep3 {w w' : World} (hb : Below w.heap.size w w') {b : Nat} (hb1 : b < w.heap.size) {c : Array Value} (hc : ∀ o, w.cell? ⟨b, o, none⟩ = c[o]?) (hf : ∀ o, w.frozen? ⟨b, o, none⟩ = false) :
    (∀ o, w'.cell? ⟨b, o, none⟩ = c[o]?) ∧ ∀ o, w'.frozen? ⟨b, o, none⟩ = false :=
  ⟨fun o => by rw [hb.cell (p := ⟨b, o, none⟩) hb1]; exact hc o, fun o => by rw [hb.frozen (p := ⟨b, o, none⟩) hb1]; exact hf o⟩
theorem keepSetB {B : Nat} {w : World} {a : Addr} {v : Value} (ha : a.block < B) : Keeps B w (w.setCell a v) := Keeps.set w ha v
theorem RdI.keeps {w w' : World} {B b N : Nat} {f : Nat → Int} (h : RdI w (some ⟨b, 0, none⟩) N f) (hB : B ≤ b) (hk : Keeps B w w') : RdI w' (some ⟨b, 0, none⟩) N f := fun hn => by
  obtain ⟨b', o, e, hc⟩ := h hn
  simp only [Option.some.injEq, Addr.mk.injEq, and_true] at e
  obtain ⟨rfl, rfl⟩ := e
  exact ⟨b, 0, rfl, fun j hj => hk _ _ _ hB (hc j hj)⟩

theorem cells_set {w : World} {g j : Nat} {c c' : Array Value} {v x : Value} (hc : ∀ o, w.cell? ⟨g, o, none⟩ = c[o]?) (hj : c[j]? = some x) (h1 : c'[j]? = some v) (h2 : ∀ o, o ≠ j → c'[o]? = c[o]?) : ∀ o, (w.setCell ⟨g, j, none⟩ v).cell? ⟨g, o, none⟩ = c'[o]? := fun o => by
  by_cases e : o = j
  · subst e
    rw [World.cell?_setCell_same w ⟨g, o, none⟩ v ((hc o).trans hj)]; exact h1.symm
  · rw [World.cell?_setCell_other (h := fun q => e (by simp only [Addr.mk.injEq] at q; omega)), hc o]; exact (h2 o e).symm
theorem five {a b c d e a' b' c' d' e' : Value} (j : Nat) (h : ∀ o, o < 5 → o ≠ j → (#[a', b', c', d', e'] : Array Value)[o]? = (#[a, b, c, d, e] : Array Value)[o]?) : ∀ o, o ≠ j → (#[a', b', c', d', e'] : Array Value)[o]? = (#[a, b, c, d, e] : Array Value)[o]? := fun o ho => by
  by_cases h5 : o < 5
  · exact h o h5 ho
  · rw [Array.getElem?_eq_none (by simp; omega), Array.getElem?_eq_none (by simp; omega)]
theorem five2 {a b c d e v : Value} : ∀ o, o ≠ 2 → (#[a, b, v, d, e] : Array Value)[o]? = (#[a, b, c, d, e] : Array Value)[o]? := five 2 fun o h5 ho => by
  match o, ho, h5 with
  | 0, _, _ => rfl
  | 1, _, _ => rfl
  | 2, h, _ => exact absurd rfl h
  | 3, _, _ => rfl
  | 4, _, _ => rfl
  | n + 5, _, h => omega
theorem five3 {a b c d e v : Value} : ∀ o, o ≠ 3 → (#[a, b, c, v, e] : Array Value)[o]? = (#[a, b, c, d, e] : Array Value)[o]? := five 3 fun o h5 ho => by
  match o, ho, h5 with
  | 0, _, _ => rfl
  | 1, _, _ => rfl
  | 2, _, _ => rfl
  | 3, h, _ => exact absurd rfl h
  | 4, _, _ => rfl
  | n + 5, _, h => omega
theorem five4 {a b c d e v : Value} : ∀ o, o ≠ 4 → (#[a, b, c, d, v] : Array Value)[o]? = (#[a, b, c, d, e] : Array Value)[o]? := five 4 fun o h5 ho => by
  match o, ho, h5 with
  | 0, _, _ => rfl
  | 1, _, _ => rfl
  | 2, _, _ => rfl
  | 3, _, _ => rfl
  | 4, h, _ => exact absurd rfl h
  | n + 5, _, h => omega
theorem three_first9 {w w1 : World} {c1 c2 c3 : Array Value} {t1 t2 t3 : TypeId}
    (hb : Below (((w.alloc (.cells c1 t1)).alloc (.cells c2 t2)).alloc (.cells c3 t3)).heap.size (((w.alloc (.cells c1 t1)).alloc (.cells c2 t2)).alloc (.cells c3 t3)) w1) : ∀ o, w1.cell? ⟨w.heap.size, o, none⟩ = c1[o]? := fun o => by
  have e2 : (((w.alloc (.cells c1 t1)).alloc (.cells c2 t2)).alloc (.cells c3 t3)).heap[w.heap.size]? = some (.cells c1 t1 (0, 0)) := by
    show (((w.heap.push _).push _).push _)[w.heap.size]? = _
    rw [Array.getElem?_push, if_neg (by simp; omega), Array.getElem?_push, if_neg (by simp), Array.getElem?_push, if_pos (by simp)]
  rw [hb.cell (p := ⟨w.heap.size, o, none⟩) (by show w.heap.size < _; simp; omega)]; exact cell_of e2
/-- What toActor has in hand: its argument's box, the result's and its own. -/
structure To3 (w w1 : World) (c1 c2 c3 : Array Value) : Prop where
  be : Below w.heap.size w w1
  sz : w.heap.size + 3 ≤ w1.heap.size
  q1 : ∀ o, w1.cell? ⟨w.heap.size, o, none⟩ = c1[o]?
  q2 : ∀ o, w1.cell? ⟨w.heap.size + 1, o, none⟩ = c2[o]?
  q3 : ∀ o, w1.cell? ⟨w.heap.size + 1 + 1, o, none⟩ = c3[o]?
  f2 : ∀ o, w1.frozen? ⟨w.heap.size + 1, o, none⟩ = false
  f3 : ∀ o, w1.frozen? ⟨w.heap.size + 1 + 1, o, none⟩ = false
theorem To3.call {w w1 w2 : World} {c1 c2 c3 : Array Value} (h : To3 w w1 c1 c2 c3) (hb : Below w1.heap.size w1 w2) : To3 w w2 c1 c2 c3 := by
  have hz := h.sz
  exact ⟨h.be.trans (hb.mono h.be.size), Nat.le_trans h.sz hb.size, fun o => by rw [hb.cell (p := ⟨w.heap.size, o, none⟩) (by show w.heap.size < _; omega)]; exact h.q1 o,
    fun o => by rw [hb.cell (p := ⟨w.heap.size + 1, o, none⟩) (by show w.heap.size + 1 < _; omega)]; exact h.q2 o, fun o => by rw [hb.cell (p := ⟨w.heap.size + 1 + 1, o, none⟩) (by show w.heap.size + 1 + 1 < _; omega)]; exact h.q3 o,
    fun o => by rw [hb.frozen (p := ⟨w.heap.size + 1, o, none⟩) (by show w.heap.size + 1 < _; omega)]; exact h.f2 o, fun o => by rw [hb.frozen (p := ⟨w.heap.size + 1 + 1, o, none⟩) (by show w.heap.size + 1 + 1 < _; omega)]; exact h.f3 o⟩
theorem To3.set {w w1 : World} {c1 c2 c3 c3' : Array Value} (h : To3 w w1 c1 c2 c3) (j : Nat) {x v : Value} (hj : c3[j]? = some x) (h1 : c3'[j]? = some v) (h2 : ∀ o, o ≠ j → c3'[o]? = c3[o]?) : To3 w (w1.setCell ⟨w.heap.size + 1 + 1, j, none⟩ v) c1 c2 c3' := by
  refine ⟨h.be.setCell (by show w.heap.size ≤ w.heap.size + 1 + 1; omega) _, by rw [World.size_setCell]; exact h.sz, fun o => ?_, fun o => ?_, cells_set h.q3 hj h1 h2, fun o => by rw [World.frozen?_setCell]; exact h.f2 o, fun o => by rw [World.frozen?_setCell]; exact h.f3 o⟩
  · rw [World.cell?_setCell_other (h := fun q => by simp only [Addr.mk.injEq] at q; omega)]; exact h.q1 o
  · rw [World.cell?_setCell_other (h := fun q => by simp only [Addr.mk.injEq] at q; omega)]; exact h.q2 o

set_option maxHeartbeats 1000000 in
set_option maxRecDepth 100000 in
theorem toActor_any (a : Ac) (h : Wh) (w : World) (hr : AcR w a h) (hs : AcS a) :
    Calls Tryz.prog 75 #[acV a h] w fun e w' => ∃ g : Wh, e = .returned (acV a g) ∧ AcR w' a g ∧ Below w.heap.size w w' := by
  obtain ⟨pid, pc, regs, box, N, f⟩ := a
  obtain ⟨ra, rc, ba, bc, la, lc⟩ := h
  have HR : Hid (AcR w ⟨pid, pc, regs, box, N, f⟩ ⟨ra, rc, ba, bc, la, lc⟩) := hr
  have HS : Hid (SmL regs ∧ SmL box ∧ N ≤ 1048576) := hs
  have HBIG : Hid (regs.length ≤ maxLen ∧ box.length ≤ maxLen ∧ N ≤ maxLen) := ⟨Nat.le_trans hr.r1 hr.r2, Nat.le_trans hr.b1 hr.b2, Nat.le_trans hr.l1 hr.l2⟩
  clear hr hs
  obtain ⟨s, hs⟩ : ∃ s, s = w.heap.size := ⟨_, rfl⟩
  go_enter Tryz.func75, Tryz.ntmps75
  go_wp2_with fail
  refine (toL_any regs ra rc _ ((HR.out.below ?_).regs) HR.out.r1 HR.out.r2 HS.out.1).mono ?_
  · exact (((Below.refl _ _).alloc (Nat.le_refl _) _).alloc (by simp) _).alloc (by simp; omega) _
  rintro e w1 ⟨ra', rfl, hb1, hr1⟩
  obtain ⟨hz, q2, q3, f2, f3⟩ := three_new hb1
  have q1 := three_first9 hb1
  have H1 : To3 w w1 #[.int .i64 pid, .int .i64 pc, .slice ra regs.length rc, .slice ba box.length bc, .slice la N lc] #[.int .i64 0, .int .i64 0, .slice none 0 0, .slice none 0 0, .slice none 0 0] #[.int .i64 pid, .int .i64 pc, .slice none 0 0, .slice none 0 0, .slice none 0 0] :=
    ⟨((((Below.refl _ _).alloc (Nat.le_refl _) _).alloc (by simp) _).alloc (by simp; omega) _).trans (hb1.mono (by simp; omega)), hz, q1, q2, q3, f2, f3⟩
  have HR1 : Hid (RepL (w.heap.size + 3) w1 regs ra') := RepL.mono (by simp) regs ra' hr1
  have H1s : Hid (To3 w (w1.setCell ⟨w.heap.size + 1 + 1, 2, none⟩ (.slice ra' regs.length regs.length)) #[.int .i64 pid, .int .i64 pc, .slice ra regs.length rc, .slice ba box.length bc, .slice la N lc] #[.int .i64 0, .int .i64 0, .slice none 0 0, .slice none 0 0, .slice none 0 0] #[.int .i64 pid, .int .i64 pc, .slice ra' regs.length regs.length, .slice none 0 0, .slice none 0 0]) :=
    H1.set 2 rfl rfl five2
  clear hb1 hr1 H1
  go_wp2_with fail
  obtain ⟨W1, hW1⟩ : ∃ W1, W1 = w1.setCell ⟨w.heap.size + 1 + 1, 2, none⟩ (.slice ra' regs.length regs.length) := ⟨_, rfl⟩
  rw [← hW1] at H1s ⊢
  have KP1 : Hid (Keeps (w.heap.size + 3) w1 W1) := by rw [hW1]; exact Keeps.set w1 (a := ⟨w.heap.size + 1 + 1, 2, none⟩) (by show w.heap.size + 1 + 1 < _; omega) _
  clear hW1 q1 q2 q3 f2 f3 hz
  refine (toL_any box ba bc W1 ((HR.out.below H1s.out.be).box) HR.out.b1 HR.out.b2 HS.out.2.1).mono ?_
  rintro e w2 ⟨ba', rfl, hb2, hr2⟩
  have H2 := H1s.out.call hb2
  have HZ1 := H1s.out.sz
  have HR2 : Hid (RepL (w.heap.size + 3) w2 regs ra' ∧ RepL (w.heap.size + 3) w2 box ba') := ⟨(Keeps.below hb2 _).repL _ _ (KP1.out.repL _ _ HR1.out), RepL.mono HZ1 box ba' hr2⟩
  have H2s : Hid (To3 w (w2.setCell ⟨w.heap.size + 1 + 1, 3, none⟩ (.slice ba' box.length box.length)) #[.int .i64 pid, .int .i64 pc, .slice ra regs.length rc, .slice ba box.length bc, .slice la N lc] #[.int .i64 0, .int .i64 0, .slice none 0 0, .slice none 0 0, .slice none 0 0] #[.int .i64 pid, .int .i64 pc, .slice ra' regs.length regs.length, .slice ba' box.length box.length, .slice none 0 0]) :=
    H2.set 3 rfl rfl five3
  have q1 := H2.q1
  have q3 := H2.q3
  have f3 := H2.f3
  clear hb2 hr2 H2 HZ1
  go_wp2_with fail
  obtain ⟨W2, hW2⟩ : ∃ W2, W2 = w2.setCell ⟨w.heap.size + 1 + 1, 3, none⟩ (.slice ba' box.length box.length) := ⟨_, rfl⟩
  rw [← hW2] at H2s ⊢
  have KP2 : Hid (Keeps (w.heap.size + 3) w2 W2) := by rw [hW2]; exact Keeps.set w2 (a := ⟨w.heap.size + 1 + 1, 3, none⟩) (by show w.heap.size + 1 + 1 < _; omega) _
  clear hW2 q1 q3 f3
  refine (toIntS_any la N lc f W2 ((HR.out.below H2s.out.be).links) HS.out.2.2).mono ?_
  rintro e w3 ⟨rfl, hi3, hl3, hb3⟩
  have H3 := H2s.out.call hb3
  have HZ2 : Hid (w.heap.size + 3 ≤ W2.heap.size) := H2s.out.sz
  have HR3 : Hid (RepL (w.heap.size + 3) w3 regs ra' ∧ RepL (w.heap.size + 3) w3 box ba' ∧ RdI w3 (some ⟨W2.heap.size, 0, none⟩) N f) := ⟨(Keeps.below hb3 _).repL _ _ (KP2.out.repL _ _ HR2.out.1), (Keeps.below hb3 _).repL _ _ (KP2.out.repL _ _ HR2.out.2), hi3.rdI⟩
  have HB3 : Hid (Below w.heap.size w w3) := H3.be
  have q2 := H3.q2
  have q3 := H3.q3
  have f2 := H3.f2
  have f3 := H3.f3
  clear hb3 hi3 hl3 H3
  generalize W2.heap.size = gl at *
  go_wp2_with fail
  have hk : Keeps (w.heap.size + 3) w3 _ := (((((Keeps.set w3 (a := ⟨w.heap.size + 1 + 1, 4, none⟩) (by show w.heap.size + 1 + 1 < _; omega) (Value.slice (some ⟨gl, 0, none⟩) N N)).trans
    (Keeps.set _ (a := ⟨w.heap.size + 1, 0, none⟩) (by show w.heap.size + 1 < _; omega) (.int .i64 pid))).trans (Keeps.set _ (a := ⟨w.heap.size + 1, 1, none⟩) (by show w.heap.size + 1 < _; omega) (.int .i64 pc))).trans
    (Keeps.set _ (a := ⟨w.heap.size + 1, 2, none⟩) (by show w.heap.size + 1 < _; omega) (.slice ra' regs.length regs.length))).trans (Keeps.set _ (a := ⟨w.heap.size + 1, 3, none⟩) (by show w.heap.size + 1 < _; omega) (.slice ba' box.length box.length))).trans
    (Keeps.set _ (a := ⟨w.heap.size + 1, 4, none⟩) (by show w.heap.size + 1 < _; omega) (.slice (some ⟨gl, 0, none⟩) N N))
  refine bodyPost_ret (v := .agg #[.int .i64 pid, .int .i64 pc, .slice ra' regs.length regs.length, .slice ba' box.length box.length, .slice (some ⟨gl, 0, none⟩) N N]) (by simp [results, Tryz.results75, go_sem, q2]) rfl ⟨⟨ra', regs.length, ba', box.length, some ⟨gl, 0, none⟩, N⟩, rfl, ?_, ?_⟩
  · exact ⟨RepL.mono (Nat.zero_le _) _ _ (hk.repL _ _ HR3.out.1), RepL.mono (Nat.zero_le _) _ _ (hk.repL _ _ HR3.out.2.1), HR3.out.2.2.keeps HZ2.out hk, Nat.le_refl _, HBIG.out.1, Nat.le_refl _, HBIG.out.2.1, Nat.le_refl _, HBIG.out.2.2⟩
  · exact (((((HB3.out.setCell (by show w.heap.size ≤ w.heap.size + 1 + 1; omega) _).setCell (by show w.heap.size ≤ w.heap.size + 1; omega) _).setCell (by show w.heap.size ≤ w.heap.size + 1; omega) _).setCell (by show w.heap.size ≤ w.heap.size + 1; omega) _).setCell (by show w.heap.size ≤ w.heap.size + 1; omega) _).setCell (by show w.heap.size ≤ w.heap.size + 1; omega) _
end Go.Proofs.YtgbopbpiciopdaaGreatDoor
