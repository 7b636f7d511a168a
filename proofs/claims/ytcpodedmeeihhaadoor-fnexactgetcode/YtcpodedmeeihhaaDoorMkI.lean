/-
  The law's own marks on a row of instructions, however many: markInsS and heldInsS.
-/
import Derived.Test.YtcpodedmeeihhaaDoorCkC
import Derived.Test.YtcpodedmeeihhaaDoorSgB
namespace Go.Proofs.YtcpodedmeeihhaaDoor.Code
open Go.RowKit
open Go.Proofs.YtcpodedmeeihhaaDoor.Atom
set_option linter.unusedVariables false

/-- The marks of the j-th instruction, from q on. -/
def mk6 (q j : Nat) : I := ⟨((q + 6 * j : Nat) : Int), ((q + 6 * j + 1 : Nat) : Int), ((q + 6 * j + 2 : Nat) : Int), ((q + 6 * j + 3 : Nat) : Int), ((q + 6 * j + 4 : Nat) : Int), mkT (q + 6 * j + 5)⟩
/-- n instructions stand in the block g: f tells which. -/
structure RowF (w : World) (g n : Nat) (f : Nat → I) : Prop where
  hlt : g < w.heap.size
  free : ∀ i, w.frozen? ⟨g, i, none⟩ = false
  rows : ∀ j, j < n → Bx6 w g (j * 6) (f j)
theorem Bx6.same2 {w w' : World} {B o : Nat} {x : I} (h : Bx6 w B o x) (hb : w'.heap[B]? = w.heap[B]?) : Bx6 w' B o x := by
  have k : ∀ i v, w.cell? ⟨B, i, none⟩ = some v → w'.cell? ⟨B, i, none⟩ = some v := fun i v hv => (World.cell?_of_block (w := w) hb).trans hv
  exact ⟨k _ _ h.c0, k _ _ h.c1, k _ _ h.c2, k _ _ h.c3, k _ _ h.c4, k _ _ h.c5⟩
theorem RowF.same {w w' : World} {g n : Nat} {f : Nat → I} (h : RowF w g n f) (hs : w.heap.size ≤ w'.heap.size) (hb : w'.heap[g]? = w.heap[g]?) : RowF w' g n f :=
  ⟨Nat.lt_of_lt_of_le h.hlt hs, fun i => (World.frozen?_of_block (w := w) hb).trans (h.free i), fun j hj => (h.rows j hj).same2 hb⟩
theorem RowF.below {w w' : World} {g n : Nat} {f : Nat → I} (h : RowF w g n f) (hb : Below w.heap.size w w') : RowF w' g n f := h.same hb.size (hb.block g h.hlt)
def upF (f : Nat → I) (k : Nat) (x : I) : Nat → I := fun j => if j = k then x else f j
theorem RowF.set {w : World} {g n : Nat} {f : Nat → I} (h : RowF w g n f) (k i : Nat) (hk : k < n) (hi : i < 6) (v : Value) (x : I) (hv : insV x = (insV (f k)).setIfInBounds i v) : RowF (w.setCell ⟨g, k * 6 + i, none⟩ v) g n (upF f k x) := by
  refine ⟨by simp [World.setCell]; exact h.hlt, fun i => by rw [World.frozen?_setCell]; exact h.free i, fun j hj => ?_⟩
  have hc := h.rows j hj
  by_cases hjk : j = k
  · subst hjk
    rw [show upF f j x j = x by unfold upF; rw [if_pos rfl]]
    have cells : ∀ m, m < 6 → w.cell? ⟨g, j * 6 + m, none⟩ = (insV (f j))[m]? := fun m hm => by
      rcases (show m = 0 ∨ m = 1 ∨ m = 2 ∨ m = 3 ∨ m = 4 ∨ m = 5 by omega) with rfl | rfl | rfl | rfl | rfl | rfl
      · exact hc.c0
      · exact hc.c1
      · exact hc.c2
      · exact hc.c3
      · exact hc.c4
      · exact hc.c5
    have hsz : (insV (f j)).size = 6 := rfl
    have cells' : ∀ m, m < 6 → (w.setCell ⟨g, j * 6 + i, none⟩ v).cell? ⟨g, j * 6 + m, none⟩ = (insV x)[m]? := fun m hm => by
      rw [hv, Array.getElem?_setIfInBounds]
      by_cases hmi : i = m
      · subst hmi
        rw [if_pos rfl, if_pos (by omega)]
        exact World.cell?_setCell_same w _ _ (u := ((insV (f j))[i]'(by omega))) (by rw [cells i hm]; exact Array.getElem?_eq_getElem _)
      · rw [if_neg hmi, World.cell?_setCell_other (h := by simp <;> omega), cells m hm]
    exact ⟨cells' 0 (by omega), cells' 1 (by omega), cells' 2 (by omega), cells' 3 (by omega), cells' 4 (by omega), cells' 5 (by omega)⟩
  · rw [show upF f k x j = f j by unfold upF; rw [if_neg hjk]]
    have k' : ∀ m u, m < 6 → w.cell? ⟨g, j * 6 + m, none⟩ = some u → (w.setCell ⟨g, k * 6 + i, none⟩ v).cell? ⟨g, j * 6 + m, none⟩ = some u := fun m u hm hu => by
      rw [World.cell?_setCell_other (h := by simp <;> omega)]; exact hu
    exact ⟨k' 0 _ (by omega) hc.c0, k' 1 _ (by omega) hc.c1, k' 2 _ (by omega) hc.c2, k' 3 _ (by omega) hc.c3, k' 4 _ (by omega) hc.c4, k' 5 _ (by omega) hc.c5⟩

set_option maxHeartbeats 4000000 in
theorem held_any (g n cap q : Nat) (hn : n ≤ 1048577) (hq1 : 1 ≤ q) (hq : q ≤ 10) (w : World) (h : RowF w g n (mk6 q)) :
    Calls Tryd.prog 17 #[.slice (some ⟨g, 0, none⟩) n cap, .int .i64 (q : Int)] w fun e w' => e = .returned (.int .i64 ((q + 6 * n : Nat) : Int)) ∧ Below w.heap.size w w' := by
  have HR : Hid (RowF w g n (mk6 q)) := h
  clear h
  go_enter Tryd.func17, Tryd.ntmps17
  go_wp2_with fail
  go_loopw [1, 5] (fun kv iv wr => ∃ j : Nat, j ≤ n ∧ iv = .int .i64 j ∧ kv = .int .i64 ((q + 6 * j : Nat) : Int) ∧ Below w.heap.size w wr) (fun kv iv wr => n - (intOf iv).toNat)
  case atStart => exact ⟨0, Nat.zero_le _, rfl, by simp, Below.refl _ _⟩
  case round =>
    obtain ⟨j, hj, rfl, rfl, hbr⟩ := hrel
    have HBR : Hid (Below w.heap.size w wr) := hbr
    clear hbr
    by_cases hlt : j < n
    · have hrow := (HR.out.below HBR.out).rows j hlt
      obtain ⟨p, hp⟩ : ∃ p : Nat, p = q + 6 * j := ⟨_, rfl⟩
      have hrow2 : Bx6 wr g (j * 6) ⟨(p : Int), (p : Int) + 1, (p : Int) + 2, (p : Int) + 3, (p : Int) + 4, mkT (p + 5)⟩ := by rw [hp]; exact hrow
      have c0 := hrow2.c0
      have c1 := hrow2.c1
      have c2 := hrow2.c2
      have c3 := hrow2.c3
      have c4 := hrow2.c4
      have c5 := hrow2.c5
      have hpb : p ≤ 6291480 := by omega
      have HP : Hid (p = q + 6 * j) := hp
      rw [← hp]
      clear hrow hrow2 hp
      have hji : (j : Int) < (n : Int) := by omega
      have e1 : IntKind.i64.wrap ((p : Int) + 1) = (p : Int) + 1 := by rw [IntKind.wrap_i64]; omega
      have e2 : IntKind.i64.wrap ((p : Int) + 1 + 1) = (p : Int) + 2 := by rw [IntKind.wrap_i64]; omega
      have e3 : IntKind.i64.wrap ((p : Int) + 2 + 1) = (p : Int) + 3 := by rw [IntKind.wrap_i64]; omega
      have e4 : IntKind.i64.wrap ((p : Int) + 3 + 1) = (p : Int) + 4 := by rw [IntKind.wrap_i64]; omega
      have e5 : IntKind.i64.wrap ((p : Int) + 4 + 1) = (p : Int) + 5 := by rw [IntKind.wrap_i64]; omega
      have e6 : IntKind.i64.wrap ((p : Int) + 5 + 1) = (p : Int) + 6 := by rw [IntKind.wrap_i64]; omega
      have HK5 : Hid (((p : Int) + 5) = ((p + 5 : Nat) : Int)) := by show _ = _; omega
      obtain ⟨x, hx⟩ : ∃ x, mkT (p + 5) = x := ⟨_, rfl⟩
      have HX : Hid (mkT (p + 5) = x) := hx
      have c5' : wr.cell? ⟨g, j * 6 + 5, none⟩ = some (.string x) := by rw [← hx]; exact c5
      have KC : Hid (∀ w1, Below wr.drew.heap.size wr.drew w1 → w1.cell? ⟨g, j * 6 + 5, none⟩ = some (.string x) ∧ Below wr.heap.size wr w1) := fun w1 h => by
        have h1 : Below wr.heap.size wr w1 := below_undrew h
        exact ⟨(h1.cell (World.block_lt_of_cell? wr _ c5')).trans c5', h1⟩
      clear hx c5
      go_wp2_with fail
      go_region_with (go_at_call 25; rw [HK5.out]; refine (markText_any (p + 5) (by omega) (by omega) _).mono ?_; rintro e w1 ⟨rfl, hb1⟩; rw [HX.out]; obtain ⟨c7, hbw⟩ := KC.out w1 hb1; have HBW : Hid (Below w.heap.size w w1) := HBR.out.trans (hbw.mono HBR.out.size); clear hb1 hbw)
      all_goals
        go_wp2_with fail
        go_roundw
        case rel => exact ⟨j + 1, by omega, by go_num, congrArg (Value.int .i64) (by have := HP.out; omega), by first | exact HBW.out | exact HBW.out.drew⟩
        case measure => simp [intOf]; omega
    · have hjn : j = n := by omega
      subst hjn
      go_wp2_with fail
      go_ret
      exact ⟨rfl, HBR.out⟩

theorem upF_at (f : Nat → I) (k : Nat) (x : I) : upF f k x k = x := if_pos rfl
theorem upF_ne (f : Nat → I) (k : Nat) (x : I) (m : Nat) (h : m ≠ k) : upF f k x m = f m := if_neg h
theorem RowF.put5 {w : World} {g n : Nat} {f : Nat → I} (h : RowF w g n f) (k : Nat) (hk : k < n) (v0 v1 v2 v3 v4 : Int) :
    ∃ f2, RowF (((((w.setCell ⟨g, k * 6, none⟩ (.int .i64 v0)).setCell ⟨g, k * 6 + 1, none⟩ (.int .i64 v1)).setCell ⟨g, k * 6 + 2, none⟩ (.int .i64 v2)).setCell ⟨g, k * 6 + 3, none⟩ (.int .i64 v3)).setCell ⟨g, k * 6 + 4, none⟩ (.int .i64 v4)) g n f2 ∧ f2 k = ⟨v0, v1, v2, v3, v4, (f k).s⟩ ∧ ∀ m, m ≠ k → f2 m = f m := by
  have h0 := h.set k 0 hk (by decide) (.int .i64 v0) ⟨v0, (f k).a, (f k).b, (f k).c, (f k).n, (f k).s⟩ rfl
  have h1 := h0.set k 1 hk (by decide) (.int .i64 v1) ⟨v0, v1, (f k).b, (f k).c, (f k).n, (f k).s⟩ (by rw [upF_at]; rfl)
  have h2 := h1.set k 2 hk (by decide) (.int .i64 v2) ⟨v0, v1, v2, (f k).c, (f k).n, (f k).s⟩ (by rw [upF_at]; rfl)
  have h3 := h2.set k 3 hk (by decide) (.int .i64 v3) ⟨v0, v1, v2, v3, (f k).n, (f k).s⟩ (by rw [upF_at]; rfl)
  have h4 := h3.set k 4 hk (by decide) (.int .i64 v4) ⟨v0, v1, v2, v3, v4, (f k).s⟩ (by rw [upF_at]; rfl)
  exact ⟨_, h4, upF_at _ _ _, fun m hm => by rw [upF_ne _ _ _ _ hm, upF_ne _ _ _ _ hm, upF_ne _ _ _ _ hm, upF_ne _ _ _ _ hm, upF_ne _ _ _ _ hm]⟩

set_option maxHeartbeats 4000000 in
theorem mark_any (g n cap q : Nat) (f : Nat → I) (hn : n ≤ 1048577) (hq1 : 1 ≤ q) (hq : q ≤ 10) (w : World) (h : RowF w g n f) :
    Calls Tryd.prog 11 #[.slice (some ⟨g, 0, none⟩) n cap, .int .i64 (q : Int)] w fun e w' => e = .returned (.int .i64 ((q + 6 * n : Nat) : Int)) ∧ RowF w' g n (mk6 q) ∧ Turn g w w' := by
  have HR : Hid (RowF w g n f) := h
  clear h
  go_enter Tryd.func11, Tryd.ntmps11
  go_wp2_with fail
  go_loopw [1, 5] (fun kv iv wr => ∃ (j : Nat) (f2 : Nat → I), j ≤ n ∧ iv = .int .i64 j ∧ kv = .int .i64 ((q + 6 * j : Nat) : Int) ∧ RowF wr g n f2 ∧ (∀ m, m < j → f2 m = mk6 q m) ∧ Turn g w wr) (fun kv iv wr => n - (intOf iv).toNat)
  case atStart => exact ⟨0, f, Nat.zero_le _, rfl, by simp, HR.out, fun m hm => absurd hm (by omega), Turn.refl _ _⟩
  case round =>
    obtain ⟨j, f2, hj, rfl, rfl, hrf, hmk, htr⟩ := hrel
    have HRF : Hid (RowF wr g n f2) := hrf
    have HMK : Hid (∀ m, m < j → f2 m = mk6 q m) := hmk
    have HTR : Hid (Turn g w wr) := htr
    clear hrf hmk htr HR
    by_cases hlt : j < n
    · have hrow := HRF.out.rows j hlt
      have c0 := hrow.c0
      have c1 := hrow.c1
      have c2 := hrow.c2
      have c3 := hrow.c3
      have c4 := hrow.c4
      have fz := HRF.out.free
      obtain ⟨p, hp⟩ : ∃ p : Nat, p = q + 6 * j := ⟨_, rfl⟩
      have hpb : p ≤ 6291480 := by omega
      have HP : Hid (p = q + 6 * j) := hp
      rw [← hp]
      clear hrow hp
      have hji : (j : Int) < (n : Int) := by omega
      have e1 : IntKind.i64.wrap ((p : Int) + 1) = (p : Int) + 1 := by rw [IntKind.wrap_i64]; omega
      have e2 : IntKind.i64.wrap ((p : Int) + 1 + 1) = (p : Int) + 2 := by rw [IntKind.wrap_i64]; omega
      have e3 : IntKind.i64.wrap ((p : Int) + 2 + 1) = (p : Int) + 3 := by rw [IntKind.wrap_i64]; omega
      have e4 : IntKind.i64.wrap ((p : Int) + 3 + 1) = (p : Int) + 4 := by rw [IntKind.wrap_i64]; omega
      have e5 : IntKind.i64.wrap ((p : Int) + 4 + 1) = (p : Int) + 5 := by rw [IntKind.wrap_i64]; omega
      have e6 : IntKind.i64.wrap ((p : Int) + 5 + 1) = (p : Int) + 6 := by rw [IntKind.wrap_i64]; omega
      have HK5 : Hid (((p : Int) + 5) = ((p + 5 : Nat) : Int)) := by show _ = _; omega
      obtain ⟨f3, h31, h32, h33⟩ := HRF.out.put5 j hlt (p : Int) ((p : Int) + 1) ((p : Int) + 2) ((p : Int) + 3) ((p : Int) + 4)
      have HF3 : Hid (RowF (((((wr.setCell ⟨g, j * 6, none⟩ (.int .i64 (p : Int))).setCell ⟨g, j * 6 + 1, none⟩ (.int .i64 ((p : Int) + 1))).setCell ⟨g, j * 6 + 2, none⟩ (.int .i64 ((p : Int) + 2))).setCell ⟨g, j * 6 + 3, none⟩ (.int .i64 ((p : Int) + 3))).setCell ⟨g, j * 6 + 4, none⟩ (.int .i64 ((p : Int) + 4))) g n f3 ∧ f3 j = ⟨(p : Int), (p : Int) + 1, (p : Int) + 2, (p : Int) + 3, (p : Int) + 4, (f2 j).s⟩ ∧ (∀ m, m ≠ j → f3 m = f2 m) ∧ Turn g w (((((wr.setCell ⟨g, j * 6, none⟩ (.int .i64 (p : Int))).setCell ⟨g, j * 6 + 1, none⟩ (.int .i64 ((p : Int) + 1))).setCell ⟨g, j * 6 + 2, none⟩ (.int .i64 ((p : Int) + 2))).setCell ⟨g, j * 6 + 3, none⟩ (.int .i64 ((p : Int) + 3))).setCell ⟨g, j * 6 + 4, none⟩ (.int .i64 ((p : Int) + 4)))) :=
        ⟨h31, h32, h33, ((((HTR.out.set _ _).set _ _).set _ _).set _ _).set _ _⟩
      clear h31 h32 h33
      go_wp2_with (go_at_call 25; fail)
      generalize (((((wr.setCell ⟨g, j * 6, none⟩ (.int .i64 (p : Int))).setCell ⟨g, j * 6 + 1, none⟩ (.int .i64 ((p : Int) + 1))).setCell ⟨g, j * 6 + 2, none⟩ (.int .i64 ((p : Int) + 2))).setCell ⟨g, j * 6 + 3, none⟩ (.int .i64 ((p : Int) + 3))).setCell ⟨g, j * 6 + 4, none⟩ (.int .i64 ((p : Int) + 4))) = w5 at HF3 ⊢
      rw [HK5.out]
      refine (markText_any (p + 5) (by omega) (by omega) _).mono ?_
      rintro e w6 ⟨rfl, hb6⟩
      have HF6 : Hid (RowF w6 g n f3 ∧ Turn g w w6) := ⟨HF3.out.1.below hb6, HF3.out.2.2.2.trans (Turn.of_below hb6)⟩
      obtain ⟨x, hx⟩ : ∃ x, mkT (p + 5) = x := ⟨_, rfl⟩
      have HX : Hid (mkT (p + 5) = x) := hx
      rw [hx]
      have HF7 : Hid (RowF (w6.setCell ⟨g, j * 6 + 5, none⟩ (.string x)) g n (upF f3 j ⟨(p : Int), (p : Int) + 1, (p : Int) + 2, (p : Int) + 3, (p : Int) + 4, x⟩) ∧ Turn g w (w6.setCell ⟨g, j * 6 + 5, none⟩ (.string x))) :=
        ⟨HF6.out.1.set j 5 hlt (by decide) _ _ (by rw [HF3.out.2.1]; rfl), HF6.out.2.set _ _⟩
      have HMN : Hid (∀ m, m < j + 1 → upF f3 j ⟨(p : Int), (p : Int) + 1, (p : Int) + 2, (p : Int) + 3, (p : Int) + 4, x⟩ m = mk6 q m) := fun m hm => by
        by_cases e : m = j
        · subst e
          rw [upF_at, ← HX.out, HP.out]; rfl
        · rw [upF_ne _ _ _ _ e, HF3.out.2.2.1 m e, HMK.out m (by omega)]
      have d5 := (HF6.out.1.rows j hlt).c5
      have fz6 := HF6.out.1.free
      clear hb6 hx c0 c1 c2 c3 c4 fz
      rw [← HK5.out]
      go_wp2_with fail
      go_roundw
      case rel => exact ⟨j + 1, _, by omega, by go_num, congrArg (Value.int .i64) (by have := HP.out; omega), HF7.out.1, HMN.out, HF7.out.2⟩
      case measure => simp [intOf]; omega
    · have hjn : j = n := by omega
      subst hjn
      have HFN : Hid (RowF wr g j (mk6 q)) := ⟨HRF.out.hlt, HRF.out.free, fun m hm => by rw [← HMK.out m hm]; exact HRF.out.rows m hm⟩
      go_wp2_with fail
      go_ret
      exact ⟨rfl, HFN.out, HTR.out⟩
end Go.Proofs.YtcpodedmeeihhaaDoor.Code
