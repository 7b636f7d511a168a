/-
  The law of two blocks given: its walk.
-/
import Derived.Test.YtikedjdjfncgkaaAiD
import Derived.Test.YtikedjdjfncgkaaApM
import Derived.Test.YtikedjdjfncgkaaDaA
import Derived.Test.YtikedjdjfncgkaaBrA
import Derived.Test.YtikedjdjfncgkaaUaC
import Derived.Deep.RegionLaw
import Derived.Deep.CutRange
namespace Go.Proofs.Ytikedjdjfncgkaa
open Go.RowKit
set_option linter.unusedVariables false

/-- An arena in the box X. -/
structure Bx1 (w wx : World) (X g M : Nat) (G : Nat → Int) : Prop where
  below : Below w.heap.size w wx
  box : wx.cell? ⟨X, 0, none⟩ = some (.slice (some ⟨g, 0, none⟩) M M)
  rd : Rd wx (some ⟨g, 0, none⟩) M G
theorem Bx1.call {w wx wy : World} {X g M : Nat} {G : Nat → Int} (h : Bx1 w wx X g M G) (hb : Below wx.heap.size wx wy) : Bx1 w wy X g M G :=
  ⟨below_join h.below hb, (hb.cell (p := ⟨X, 0, none⟩) (World.block_lt_of_cell? _ _ h.box)).trans h.box, h.rd.below hb⟩
theorem Bx1.base {w wx wy : World} {X g M : Nat} {G : Nat → Int} (h : Bx1 wx wy X g M G) (hb : Below w.heap.size w wx) : Bx1 w wy X g M G := ⟨below_join hb h.below, h.box, h.rd⟩
theorem bx_set {w w4 : World} {X g M cc : Nat} {G : Nat → Int} (hb : Below w.heap.size w w4) (hX : w.heap.size ≤ X) (hc : ∃ v, w4.cell? ⟨X, 0, none⟩ = some v) (hi : Ints w4 g 0 M G) (hg : X ≠ g) (h0 : 0 < M) :
    Below w.heap.size w (w4.setCell ⟨X, 0, none⟩ (.slice (some ⟨g, 0, none⟩) M cc)) ∧ (w4.setCell ⟨X, 0, none⟩ (.slice (some ⟨g, 0, none⟩) M cc)).cell? ⟨X, 0, none⟩ = some (.slice (some ⟨g, 0, none⟩) M cc) ∧ Rd (w4.setCell ⟨X, 0, none⟩ (.slice (some ⟨g, 0, none⟩) M cc)) (some ⟨g, 0, none⟩) M G := by
  obtain ⟨v, hv⟩ := hc
  exact ⟨hb.setCell hX _, World.cell?_setCell_same w4 _ _ hv, (hi.turn ((Turn.refl X _).set 0 _) (fun e => hg e.symm) (hi.lt h0)).rd⟩
theorem bx_new {w w4 : World} {g M cc : Nat} {t : TypeId} {G : Nat → Int} (hb : Below w.heap.size w w4) (hi : Ints w4 g 0 M G) (h0 : 0 < M) :
    Below w.heap.size w (w4.alloc (.cells #[.slice (some ⟨g, 0, none⟩) M cc] t)) ∧ (w4.alloc (.cells #[.slice (some ⟨g, 0, none⟩) M cc] t)).cell? ⟨w4.heap.size, 0, none⟩ = some (.slice (some ⟨g, 0, none⟩) M cc) ∧ Rd (w4.alloc (.cells #[.slice (some ⟨g, 0, none⟩) M cc] t)) (some ⟨g, 0, none⟩) M G :=
  ⟨hb.alloc hb.size _, World.cell?_alloc_new w4 _ _ 0, (hi.below ((Below.refl _ _).alloc (Nat.le_refl _) _) (hi.lt h0)).rd⟩
theorem keepN1 {w7 w8 : World} {v : Value} {t : TypeId} (hb : Below (w7.alloc (.cells #[v] t)).drew.heap.size (w7.alloc (.cells #[v] t)).drew w8) : w8.cell? ⟨w7.heap.size, 0, none⟩ = some v ∧ w8.frozen? ⟨w7.heap.size, 0, none⟩ = false := by
  have hb2 : Below (w7.alloc (.cells #[v] t)).heap.size (w7.alloc (.cells #[v] t)) w8 := ⟨hb.os, hb.tape, hb.output, hb.size, hb.block⟩
  have h1 := World.cell?_alloc_new w7 #[v] t 0
  have h2 := World.frozen?_alloc_new w7 #[v] t 0
  have hl := World.block_lt_of_cell? _ _ h1
  exact ⟨(hb2.cell (p := ⟨w7.heap.size, 0, none⟩) hl).trans h1, (hb2.frozen (p := ⟨w7.heap.size, 0, none⟩) hl).trans h2⟩

theorem ne_of_alloc {w : World} {v : Array Value} {t : TypeId} {g : Nat} (h : (w.alloc (.cells v t)).drew.heap.size ≤ g) : w.heap.size ≠ g := by
  have : (w.alloc (.cells v t)).drew.heap.size = w.heap.size + 1 := World.size_alloc _ _
  omega

set_option maxHeartbeats 8000000 in
set_option maxRecDepth 100000 in
theorem apart_walk (w : World) (ao : Option Addr) (len cap : Nat) (zs : List Int) (hr : IsRow w ao len cap zs) (hlc : len ≤ cap) (hcm : cap ≤ maxLen) :
    Calls Try.prog 7 #[.slice ao len cap] w fun e w' => e = .returned (.bool true) ∧ Below w.heap.size w w' := by
  have HR : Hid (IsRow w ao len cap zs) := hr
  have HL : Hid (len ≤ maxLen) := Nat.le_trans hlc hcm
  clear hr
  by_cases hbig : 1048576 < len
  · go_enter Try.func7, Try.ntmps7
    go_wp2_with fail
    refine (big_any ao len cap HL.out _).mono ?_
    rintro e w1 ⟨rfl, rfl⟩
    go_wp2_with fail
    go_ret
    exact ⟨rfl, Below.refl _ _⟩
  · go_enter Try.func7, Try.ntmps7
    go_wp2_with fail
    refine (big_any ao len cap HL.out _).mono ?_
    rintro e w1 ⟨rfl, rfl⟩
    go_wp2_with fail
    refine (drawArena_any _ ao len cap zs HR.out (by omega)).mono ?_
    rintro e w2 ⟨g, M, cc, rfl, hM1, hM2, hcc, ⟨F, hF⟩, hg, hb2⟩
    have hbn := (Below.refl w2.heap.size w2).alloc (Nat.le_refl _) (.cells #[.slice (some ⟨g, 0, none⟩) M cc] 26)
    have HB3 : Hid (Below w1.heap.size w1 (w2.alloc (.cells #[.slice (some ⟨g, 0, none⟩) M cc] 26)) ∧ Rd (w2.alloc (.cells #[.slice (some ⟨g, 0, none⟩) M cc] 26)) (some ⟨g, 0, none⟩) M F ∧ Whole F M ∧ (w2.alloc (.cells #[.slice (some ⟨g, 0, none⟩) M cc] 26)).cell? ⟨w2.heap.size, 0, none⟩ = some (.slice (some ⟨g, 0, none⟩) M cc)) := ⟨below_join hb2 hbn, hF.rd.below hbn, hF.whole, World.cell?_alloc_new w2 _ _ 0⟩
    have hsm : len ≤ 1048576 := by omega
    clear hb2 hF hbn hbig hlc hcm HL hg
    go_wp2_with fail
    have hh := HB3.out
    clear HB3
    generalize (w2.alloc (.cells #[.slice (some ⟨g, 0, none⟩) M cc] 26)) = w3 at hh ⊢
    generalize w2.heap.size = X0 at hh ⊢
    obtain ⟨hb3, hr3, hw3, c3⟩ := hh
    have HB3 : Hid (Below w1.heap.size w1 w3 ∧ Rd w3 (some ⟨g, 0, none⟩) M F ∧ Whole F M ∧ w3.cell? ⟨X0, 0, none⟩ = some (.slice (some ⟨g, 0, none⟩) M cc)) := ⟨hb3, hr3, hw3, c3⟩
    have hX0 : X0 < w3.heap.size := World.block_lt_of_cell? _ _ c3
    have hrow : IsRow w3 ao len cap zs := HR.out.below hb3
    have HAT : Hid (∀ (k : Nat), k ≤ 100 → ∀ wy, Below w3.heap.size w3 wy → Calls Try.prog 22 #[.slice ao len cap, .int .i64 k] wy fun e w' => e = .returned (.int .i64 (atV zs len k)) ∧ w' = wy) := fun k hk wy h => at_any wy ao len cap zs (hrow.below h) hsm k hk
    have hrg2 := atV_rng hrow 2
    have hrg3 := atV_rng hrow 3
    obtain ⟨a2, ha2⟩ : ∃ a2, atV zs len 2 = a2 := ⟨_, rfl⟩
    obtain ⟨a3, ha3⟩ : ∃ a3, atV zs len 3 = a3 := ⟨_, rfl⟩
    have HAT2 : Hid (∀ wy, Below w3.heap.size w3 wy → Calls Try.prog 22 #[.slice ao len cap, .int .i64 2] wy fun e w' => e = .returned (.int .i64 a2) ∧ w' = wy) := fun wy h => by
      have := HAT.out 2 (by omega) wy h
      rw [ha2] at this
      exact this
    have HAT3 : Hid (∀ wy, Below w3.heap.size w3 wy → Calls Try.prog 22 #[.slice ao len cap, .int .i64 3] wy fun e w' => e = .returned (.int .i64 a3) ∧ w' = wy) := fun wy h => by
      have := HAT.out 3 (by omega) wy h
      rw [ha3] at this
      exact this
    rw [ha2] at hrg2
    rw [ha3] at hrg3
    have HM : Hid (12 ≤ M ∧ M ≤ 80 ∧ M ≤ cc) := ⟨hM1, hM2, hcc⟩
    have HAL : Hid (∀ wy, Below w3.heap.size w3 wy → Calls Try.prog 11 #[.agg #[.slice (some ⟨g, 0, none⟩) M cc], .int .i64 (IntKind.i64.wrap (1 + a2.tmod 6))] wy fun e w' => ∃ (g1 : Nat) (G : Nat → Int) (p c : Int), e = .returned (.tuple #[.agg #[.slice (some ⟨g1, 0, none⟩) M M], .int .i64 p, .int .i64 c]) ∧ wy.heap.size ≤ g1 ∧ Ints w' g1 0 M G ∧ AllocR F M (IntKind.i64.wrap (1 + a2.tmod 6)) G p c ∧ Below wy.heap.size wy w') := fun wy h => (implAlloc_any (some ⟨g, 0, none⟩) M cc F (IntKind.i64.wrap (1 + a2.tmod 6)) wy (hr3.below h) (by omega) (by omega) hcc).mono fun e w' ⟨g1, G, p, c, k1, k2, _, k4, k5, k6⟩ => ⟨g1, G, p, c, k1, k2, k4, k5, k6⟩
    have KW : Hid (Below w3.heap.size w3 w3.drew ∧ Below w3.heap.size w3 (w3.alloc (.cells #[.slice none 0 0] 26)).drew) := ⟨(Below.refl _ _).drew, ((Below.refl _ _).alloc (Nat.le_refl _) _).drew⟩
    have c3a : (w3.alloc (.cells #[.slice none 0 0] 26)).cell? ⟨X0, 0, none⟩ = some (.slice (some ⟨g, 0, none⟩) M cc) := by rw [World.cell?_alloc_lt (h := hX0)]; exact c3
    have nx0 : ¬ X0 = w3.heap.size := by omega
    clear hb3 hr3 hw3 hrow ha2 ha3
    go_cut [4, 5, 6] from 26 to 40 (fun vb vp vc wx => ∃ (X1 g1 : Nat) (G : Nat → Int) (p c : Int), vb = .pointer (some ⟨X1, 0, none⟩) ∧ vp = .int .i64 p ∧ vc = .int .i64 c ∧ Bx1 w3 wx X1 g1 M G ∧ AllocR F M (IntKind.i64.wrap (1 + a2.tmod 6)) G p c)
    case first =>
      go_region_law (go_simp; go_wp2_with (first
        | (go_at_call 22; first
            | ((conv in (World.alloc w3 (.cells #[.slice none 0 0] 26)) => skip); refine (HAT2.out _ KW.out.2).mono ?_; rintro e w' ⟨rfl, rfl⟩)
            | (refine (HAT2.out _ KW.out.1).mono ?_; rintro e w' ⟨rfl, rfl⟩))
        | (go_at_call 11; first
            | ((conv in (World.alloc w3 (.cells #[.slice none 0 0] 26)) => skip); refine (HAL.out _ KW.out.2).mono ?_; rintro e w4 ⟨g1, G, p, c, rfl, hg4, hi4, hA4, hb4⟩; obtain ⟨x4, xf4⟩ := keepN1 hb4; have H4 : Hid (w3.heap.size ≠ g1 ∧ Ints w4 g1 0 M G ∧ AllocR F M (IntKind.i64.wrap (1 + a2.tmod 6)) G p c ∧ Below w3.heap.size w3 w4) := ⟨ne_of_alloc hg4, hi4, hA4, below_join KW.out.2 hb4⟩; clear hg4 hi4 hA4 hb4)
            | (refine (HAL.out _ KW.out.1).mono ?_; rintro e w4 ⟨g1, G, p, c, rfl, hg4, hi4, hA4, hb4⟩; have H4 : Hid (w3.heap.size ≠ w3.heap.size + 1 ∧ Ints w4 g1 0 M G ∧ AllocR F M (IntKind.i64.wrap (1 + a2.tmod 6)) G p c ∧ Below w3.heap.size w3 w4) := ⟨Nat.ne_of_lt (Nat.lt_succ_self _), hi4, hA4, below_join KW.out.1 hb4⟩; clear hg4 hi4 hA4 hb4))))
      all_goals
        go_wp2_with fail
        go_meet
        case rel =>
          have h4 := H4.out
          have h0 : 0 < M := by have := HM.out; omega
          first
            | (obtain ⟨q1, q2, q3⟩ := bx_set (X := w3.heap.size) (cc := M) h4.2.2.2 (Nat.le_refl _) ⟨_, x4⟩ h4.2.1 h4.1 h0; exact ⟨_, g1, G, p, c, rfl, rfl, rfl, ⟨q1, q2, q3⟩, h4.2.2.1⟩)
            | (obtain ⟨q1, q2, q3⟩ := bx_new (t := 26) (cc := M) h4.2.2.2 h4.2.1 h0; exact ⟨_, g1, G, p, c, rfl, rfl, rfl, ⟨q1, q2, q3⟩, h4.2.2.1⟩)
    case rest =>
      obtain ⟨X1, g1, G, p, c, rfl, rfl, rfl, hB4, hA4⟩ := hcut
      have HB4 : Hid (Bx1 w3 wc X1 g1 M G ∧ AllocR F M (IntKind.i64.wrap (1 + a2.tmod 6)) G p c) := ⟨hB4, hA4⟩
      have c4 := hB4.box
      have hX1 : X1 < wc.heap.size := World.block_lt_of_cell? _ _ c4
      have c4a : (wc.alloc (.cells #[.slice none 0 0] 26)).cell? ⟨X1, 0, none⟩ = some (.slice (some ⟨g1, 0, none⟩) M M) := by rw [World.cell?_alloc_lt (h := hX1)]; exact c4
      have nx1 : ¬ X1 = wc.heap.size := by omega
      have KW2 : Hid (Below wc.heap.size wc wc.drew ∧ Below wc.heap.size wc (wc.alloc (.cells #[.slice none 0 0] 26)).drew) := ⟨(Below.refl _ _).drew, ((Below.refl _ _).alloc (Nat.le_refl _) _).drew⟩
      have HAL2 : Hid (∀ wy, Below wc.heap.size wc wy → Calls Try.prog 11 #[.agg #[.slice (some ⟨g1, 0, none⟩) M M], .int .i64 (IntKind.i64.wrap (1 + a3.tmod 6))] wy fun e w' => ∃ (g2 : Nat) (H : Nat → Int) (q d : Int), e = .returned (.tuple #[.agg #[.slice (some ⟨g2, 0, none⟩) M M], .int .i64 q, .int .i64 d]) ∧ wy.heap.size ≤ g2 ∧ Ints w' g2 0 M H ∧ AllocR G M (IntKind.i64.wrap (1 + a3.tmod 6)) H q d ∧ Below wy.heap.size wy w') := fun wy h => (implAlloc_any (some ⟨g1, 0, none⟩) M M G (IntKind.i64.wrap (1 + a3.tmod 6)) wy (HB4.out.1.rd.below h) (by have := HM.out; omega) (by have := HM.out; omega) (Nat.le_refl _)).mono fun e w' ⟨g1, G, p, c, k1, k2, _, k4, k5, k6⟩ => ⟨g1, G, p, c, k1, k2, k4, k5, k6⟩
      have HAT3c : Hid (∀ wy, Below wc.heap.size wc wy → Calls Try.prog 22 #[.slice ao len cap, .int .i64 3] wy fun e w' => e = .returned (.int .i64 a3) ∧ w' = wy) := fun wy h => HAT3.out wy (below_join HB4.out.1.below h)
      clear hB4 hA4 HAL KW c3a nx0 c3 hX0
      generalize hwc : wc = w5 at *
      clear hwc
      go_wp2_with fail
      go_cut [7, 8, 9] from 40 to 50 (fun vb vp vc wx => ∃ (X2 g2 : Nat) (H : Nat → Int) (q d : Int), vb = .pointer (some ⟨X2, 0, none⟩) ∧ vp = .int .i64 q ∧ vc = .int .i64 d ∧ Bx1 w5 wx X2 g2 M H ∧ AllocR G M (IntKind.i64.wrap (1 + a3.tmod 6)) H q d)
      case first =>
        go_region_law (go_simp; go_wp2_with (first
          | (go_at_call 22; first
              | ((conv in (World.alloc w5 (.cells #[.slice none 0 0] 26)) => skip); refine (HAT3c.out _ KW2.out.2).mono ?_; rintro e w' ⟨rfl, rfl⟩)
              | (refine (HAT3c.out _ KW2.out.1).mono ?_; rintro e w' ⟨rfl, rfl⟩))
          | (go_at_call 11; first
              | ((conv in (World.alloc w5 (.cells #[.slice none 0 0] 26)) => skip); refine (HAL2.out _ KW2.out.2).mono ?_; rintro e w6 ⟨g2, H, q, d, rfl, hg6, hi6, hA6, hb6⟩; obtain ⟨x6, xf6⟩ := keepN1 hb6; have H6 : Hid (w5.heap.size ≠ g2 ∧ Ints w6 g2 0 M H ∧ AllocR G M (IntKind.i64.wrap (1 + a3.tmod 6)) H q d ∧ Below w5.heap.size w5 w6) := ⟨ne_of_alloc hg6, hi6, hA6, below_join KW2.out.2 hb6⟩; clear hg6 hi6 hA6 hb6)
              | (refine (HAL2.out _ KW2.out.1).mono ?_; rintro e w6 ⟨g2, H, q, d, rfl, hg6, hi6, hA6, hb6⟩; have H6 : Hid (w5.heap.size ≠ w5.heap.size + 1 ∧ Ints w6 g2 0 M H ∧ AllocR G M (IntKind.i64.wrap (1 + a3.tmod 6)) H q d ∧ Below w5.heap.size w5 w6) := ⟨Nat.ne_of_lt (Nat.lt_succ_self _), hi6, hA6, below_join KW2.out.1 hb6⟩; clear hg6 hi6 hA6 hb6))))
        all_goals
          go_wp2_with fail
          go_meet
          case rel =>
            have h4 := H6.out
            have h0 : 0 < M := by have := HM.out; omega
            first
              | (obtain ⟨q1, q2, q3⟩ := bx_set (X := w5.heap.size) (cc := M) h4.2.2.2 (Nat.le_refl _) ⟨_, x6⟩ h4.2.1 h4.1 h0; exact ⟨_, g2, H, q, d, rfl, rfl, rfl, ⟨q1, q2, q3⟩, h4.2.2.1⟩)
              | (obtain ⟨q1, q2, q3⟩ := bx_new (t := 26) (cc := M) h4.2.2.2 h4.2.1 h0; exact ⟨_, g2, H, q, d, rfl, rfl, rfl, ⟨q1, q2, q3⟩, h4.2.2.1⟩)
      case rest =>
        obtain ⟨X2, g2, H, q, d, rfl, rfl, rfl, hB6, hA6⟩ := hcut
        have hbw3 := below_join HB4.out.1.below hB6.below
        have HB6 : Hid (Bx1 w3 wc X2 g2 M H ∧ AllocR G M (IntKind.i64.wrap (1 + a3.tmod 6)) H q d ∧ AllocR F M (IntKind.i64.wrap (1 + a2.tmod 6)) G p c) := ⟨hB6.base HB4.out.1.below, hA6, HB4.out.2⟩
        have c6 : wc.cell? ⟨X0, 0, none⟩ = some (.slice (some ⟨g, 0, none⟩) M cc) := (hbw3.cell (p := ⟨X0, 0, none⟩) (World.block_lt_of_cell? _ _ HB3.out.2.2.2)).trans HB3.out.2.2.2
        have hX6 : X0 < wc.heap.size := World.block_lt_of_cell? _ _ c6
        have c6a : (wc.alloc (.cells #[.slice none 0 0] 26)).cell? ⟨X0, 0, none⟩ = some (.slice (some ⟨g, 0, none⟩) M cc) := by rw [World.cell?_alloc_lt (h := hX6)]; exact c6
        have nx6 : ¬ X0 = wc.heap.size := by omega
        have KW3 : Hid (Below wc.heap.size wc wc.drew ∧ Below wc.heap.size wc (wc.alloc (.cells #[.slice none 0 0] 26)).drew) := ⟨(Below.refl _ _).drew, ((Below.refl _ _).alloc (Nat.le_refl _) _).drew⟩
        have HAL3 : Hid (∀ wy, Below wc.heap.size wc wy → Calls Try.prog 12 #[.agg #[.slice (some ⟨g, 0, none⟩) M cc], .int .i64 (IntKind.i64.wrap (1 + a2.tmod 6))] wy fun e w' => ∃ (g3 c3 : Nat) (p3 c3' : Int), e = .returned (.tuple #[.agg #[.slice (some ⟨g3, 0, none⟩) M c3], .int .i64 p3, .int .i64 c3']) ∧ c3' = c ∧ wy.heap.size ≤ g3 ∧ (∃ Z, Ints w' g3 0 M Z) ∧ Below wy.heap.size wy w') := fun wy h => by
          have hrr : Rd wy (some ⟨g, 0, none⟩) M F := (HB3.out.2.1.below hbw3).below h
          have hcl : ∀ j, j < M → wy.cell? ⟨g, 0 + j, none⟩ = some (.int .i64 (F j)) := by
            obtain ⟨b', o', e', hc'⟩ := hrr (by have := HM.out; omega)
            cases e'
            exact hc'
          exact (specAlloc_any g 0 M cc F (IntKind.i64.wrap (1 + a2.tmod 6)) wy hcl (by have := HM.out; omega) (by have := HM.out; omega)).mono fun e w' ⟨g3, c3, p3, code, Z, k1, k2, k3⟩ => ⟨g3, c3, p3, code, k1, k3.code HB6.out.2.2, k2.old, ⟨Z, k2.ints⟩, k2.below⟩
        have HAT2c : Hid (∀ wy, Below wc.heap.size wc wy → Calls Try.prog 22 #[.slice ao len cap, .int .i64 2] wy fun e w' => e = .returned (.int .i64 a2) ∧ w' = wy) := fun wy h => HAT2.out wy (below_join hbw3 h)
        clear hB6 hA6 HAL2 KW2 c4 c4a hX1 nx1 HB4 HAT3c hbw3
        generalize hwc : wc = w7 at *
        clear hwc
        go_wp2_with fail
        go_cut [10, 11, 12] from 50 to 60 (fun vb vp vc wx => ∃ (X3 : Nat) (p3 : Int), vb = .pointer (some ⟨X3, 0, none⟩) ∧ vp = .int .i64 p3 ∧ vc = .int .i64 c ∧ Below w7.heap.size w7 wx)
        case first =>
          go_region_law (go_simp; go_wp2_with (first
            | (go_at_call 22; first
                | ((conv in (World.alloc w7 (.cells #[.slice none 0 0] 26)) => skip); refine (HAT2c.out _ KW3.out.2).mono ?_; rintro e w' ⟨rfl, rfl⟩)
                | (refine (HAT2c.out _ KW3.out.1).mono ?_; rintro e w' ⟨rfl, rfl⟩))
            | (go_at_call 12; first
                | ((conv in (World.alloc w7 (.cells #[.slice none 0 0] 26)) => skip); refine (HAL3.out _ KW3.out.2).mono ?_; rintro e w8 ⟨g3, c3, p3, c3', rfl, hc8, hg8, hZ8, hb8⟩; obtain ⟨x8, xf8⟩ := keepN1 hb8; have H8 : Hid (c3' = c ∧ Below w7.heap.size w7 w8) := ⟨hc8, below_join KW3.out.2 hb8⟩; clear hc8 hg8 hZ8 hb8)
                | (refine (HAL3.out _ KW3.out.1).mono ?_; rintro e w8 ⟨g3, c3, p3, c3', rfl, hc8, hg8, hZ8, hb8⟩; have H8 : Hid (c3' = c ∧ Below w7.heap.size w7 w8) := ⟨hc8, below_join KW3.out.1 hb8⟩; clear hc8 hg8 hZ8 hb8))))
          all_goals
            go_wp2_with fail
            go_meet
            case rel =>
              obtain ⟨rfl, hb8⟩ := H8.out
              first
                | exact ⟨_, p3, rfl, rfl, rfl, hb8.setCell (p := ⟨w7.heap.size, 0, none⟩) (Nat.le_refl _) _⟩
                | exact ⟨_, p3, rfl, rfl, rfl, hb8.alloc hb8.size _⟩
        case rest =>
          obtain ⟨X3, p3, rfl, rfl, rfl, hb9⟩ := hcut
          have HB9 : Hid (Bx1 w3 wc X2 g2 M H) := HB6.out.1.call hb9
          clear hb9 HAL3 KW3 c6 c6a hX6 nx6 HAT2c
          generalize hwc : wc = w9 at *
          clear hwc
          have hcne := HB6.out.2.2
          have hdne := HB6.out.2.1
          by_cases hc0 : c = 0
          · by_cases hd0 : d = 0
            · subst hc0 hd0
              have hN4 : M ≤ 4000 := by have := HM.out; omega
              obtain ⟨hWG, p', n, rfl, hn1, hpb, hpz, hpo⟩ := hcne.given hN4
              obtain ⟨hWH, q', m, rfl, hm1, hqb, hqz, hqo⟩ := hdne.given hN4
              obtain ⟨hpb2, hpq⟩ := hqo _ hpb rfl
              dsimp only at hpq
              have hap := bk_two hpb2 hqb hpq
              obtain ⟨hBp, hfp, _⟩ := bk_blk hpb2
              obtain ⟨hBq, hfq, _⟩ := bk_blk hqb
              obtain ⟨k, hk⟩ : ∃ k, n = k + 1 := ⟨n - 1, by omega⟩
              have HK : Hid (k < n) := by show _ < _; omega
              have en : ((n : Int) - 1) = (k : Int) := by omega
              have HZW : Hid (Whole (upd H (p' + 2 + k) 77) M) := write_whole hWH hpb2 (by omega) (fun j hj => upd_other H 77 hj)
              have hbz : bk (upd H (p' + 2 + k) 77) M 0 = bk H M 0 := write_bk hpb2 (by omega) (fun j hj => upd_other H 77 hj)
              have HZP : Hid (blkO (upd H (p' + 2 + k) 77) M p' = some (n, true) ∧ ∀ b ∈ bk (upd H (p' + 2 + k) 77) M 0, ¬ (b.1 < p' ∧ p' < b.1 + b.2.1 + 3)) := by
                have h : (p', n, true) ∈ bk (upd H (p' + 2 + k) 77) M 0 := by rw [hbz]; exact hpb2
                exact ⟨(bk_blk h).1, bk_apart2 h⟩
              have HZQ : Hid (blkO (upd H (p' + 2 + k) 77) M q' = some (m, true) ∧ ∀ b ∈ bk (upd H (p' + 2 + k) 77) M 0, ¬ (b.1 < q' ∧ q' < b.1 + b.2.1 + 3)) := by
                have h : (q', m, true) ∈ bk (upd H (p' + 2 + k) 77) M 0 := by rw [hbz]; exact hqb
                exact ⟨(bk_blk h).1, bk_apart2 h⟩
              have HZV : Hid ((∀ i, i < m → upd H (p' + 2 + k) 77 (q' + 2 + i) = 0) ∧ upd H (p' + 2 + k) 77 (p' + 2 + k) = 77) := ⟨fun i hi => by rw [upd_other H 77 (by omega)]; exact hqz i hi, upd_same _ _ _⟩
              have HHP : Hid (blkO H M p' = some (n, true) ∧ (∀ b ∈ bk H M 0, ¬ (b.1 < p' ∧ p' < b.1 + b.2.1 + 3)) ∧ blkO H M q' = some (m, true)) := ⟨hBp, bk_apart2 hpb2, hBq⟩
              have HM2 : Hid (M ≤ 1048576) := by show _ ≤ _; omega
              clear hcne hdne hWG hWH hpb hpz hpo hqb hqz hqo hpb2 hbz hBp hBq HB6 hk
              have c9 := HB9.out.box
              go_wp2_with fail
              refine (implAt_any (some ⟨g2, 0, none⟩) M M H p' w9 HB9.out.rd HM2.out (Nat.le_refl _)).mono ?_
              rintro e w10 ⟨rfl, hb10⟩
              rw [HHP.out.1]
              have HB10 : Hid (Bx1 w3 w10 X2 g2 M H) := HB9.out.call hb10
              clear hb10 c9 HB9
              have c10 := HB10.out.box
              simp only [bv]
              go_wp2_with fail
              refine (implAt_any (some ⟨g2, 0, none⟩) M M H q' w10 HB10.out.rd HM2.out (Nat.le_refl _)).mono ?_
              rintro e w11 ⟨rfl, hb11⟩
              rw [HHP.out.2.2]
              have HB11 : Hid (Bx1 w3 w11 X2 g2 M H) := HB10.out.call hb11
              clear hb11 c10 HB10
              have c11 := HB11.out.box
              simp only [bv]
              have T1 : (p' : Int) < q' → ¬ (q' : Int) < (p' : Int) + n + 3 := by omega
              have T2 : (q' : Int) < p' → ¬ (p' : Int) < (q' : Int) + m + 3 := by omega
              have T3 : ¬ (p' : Int) = q' := by omega
              have HWR : Hid (∀ wy, Rd wy (some ⟨g2, 0, none⟩) M H → Calls Try.prog 39 #[.agg #[.slice (some ⟨g2, 0, none⟩) M M], .int .i64 p', .int .i64 k, .int .i64 77] wy fun e w' => ∃ g5, e = .returned (.tuple #[.agg #[.slice (some ⟨g5, 0, none⟩) M M], .bool true]) ∧ Ints w' g5 0 M (upd H (p' + 2 + k) 77) ∧ Below wy.heap.size wy w') := fun wy hrd => (write_yes (some ⟨g2, 0, none⟩) M M H p' n k 77 wy hrd HM2.out (Nat.le_refl _) HHP.out.1 HHP.out.2.1 HK.out).mono fun e w' ⟨g5, k1, _, _, k4, k5⟩ => ⟨g5, k1, k4, k5⟩
              by_cases hlt : (p' : Int) < q'
              · have T4 := T1 hlt
                have T5 : ¬ (q' : Int) < p' := by omega
                clear T1 T2
                go_wp2_with fail
                refine (HWR.out w11 HB11.out.rd).mono ?_
                rintro e w12 ⟨g5, rfl, hi12, hb12⟩
                have hbn := (Below.refl w12.heap.size w12).alloc (Nat.le_refl _) (.cells #[.slice (some ⟨g5, 0, none⟩) M M] 26)
                have HB13 : Hid (Bx1 w1 (w12.alloc (.cells #[.slice (some ⟨g5, 0, none⟩) M M] 26)) w12.heap.size g5 M (upd H (p' + 2 + k) 77)) := ⟨below_join (below_join (below_join HB3.out.1 HB11.out.below) hb12) hbn, World.cell?_alloc_new w12 _ _ 0, hi12.rd.below hbn⟩
                clear hi12 hb12 hbn c11 HB11 HWR
                go_wp2_with fail
                generalize (w12.alloc (.cells #[.slice (some ⟨g5, 0, none⟩) M M] 26)) = w13 at HB13 ⊢
                generalize w12.heap.size = X5 at HB13 ⊢
                go_loopw [21] (fun i wr => ∃ j : Nat, j ≤ m ∧ i = .int .i64 j ∧ Bx1 w1 wr X5 g5 M (upd H (p' + 2 + k) 77)) (fun i _ => m - (intOf i).toNat)
                case atStart => exact ⟨0, Nat.zero_le _, rfl, HB13.out⟩
                case round =>
                  obtain ⟨j, hj, rfl, hB⟩ := hrel
                  have HB : Hid (Bx1 w1 wr X5 g5 M (upd H (p' + 2 + k) 77)) := hB
                  have cb := hB.box
                  have HCL : Hid (∀ i, i < M → wr.cell? ⟨g5, 0 + i, none⟩ = some (.int .i64 (upd H (p' + 2 + k) 77 i))) := by
                    obtain ⟨b', o', e', hc'⟩ := hB.rd (by have := HM.out; omega)
                    cases e'
                    exact hc'
                  clear hB
                  by_cases hjm : j < m
                  · go_wp2_with fail
                    refine (read_yes g5 0 M M (upd H (p' + 2 + k) 77) q' m j wr HCL.out HM2.out (Nat.le_refl _) HZQ.out.1 HZQ.out.2 hjm).mono ?_
                    rintro e w14 ⟨rfl, hb14⟩
                    rw [HZV.out.1 j hjm]
                    have HB14 : Hid (Bx1 w1 w14 X5 g5 M (upd H (p' + 2 + k) 77)) := HB.out.call hb14
                    clear hb14 cb
                    go_wp2_with fail
                    go_roundw
                    case rel => exact ⟨j + 1, by omega, by go_num, HB14.out⟩
                    case measure => simp [intOf]; omega
                  · have T9 : ¬ (j : Int) < m := by omega
                    go_wp2_with fail
                    refine (read_yes g5 0 M M (upd H (p' + 2 + k) 77) p' n k wr HCL.out HM2.out (Nat.le_refl _) HZP.out.1 HZP.out.2 HK.out).mono ?_
                    rintro e w14 ⟨rfl, hb14⟩
                    rw [HZV.out.2]
                    have HB14 : Hid (Bx1 w1 w14 X5 g5 M (upd H (p' + 2 + k) 77)) := HB.out.call hb14
                    clear hb14 cb
                    have c14 := HB14.out.box
                    go_wp2_with fail
                    refine (implAudit_any (some ⟨g5, 0, none⟩) M M (upd H (p' + 2 + k) 77) w14 HB14.out.rd HM2.out (Nat.le_refl _)).mono ?_
                    rintro e w15 ⟨rfl, hb15⟩
                    have hau : aud (upd H (p' + 2 + k) 77) M 0 false = -1 := HZW.out
                    rw [hau]
                    have HB15 : Hid (Below w1.heap.size w1 w15) := below_join HB14.out.below hb15
                    clear hb15 c14 hau
                    go_wp2_with fail
                    go_ret
                    exact ⟨rfl, HB15.out⟩
              · have T5 : (q' : Int) < p' := by omega
                have T4 := T2 T5
                clear T1 T2
                go_wp2_with fail
                refine (HWR.out w11 HB11.out.rd).mono ?_
                rintro e w12 ⟨g5, rfl, hi12, hb12⟩
                have hbn := (Below.refl w12.heap.size w12).alloc (Nat.le_refl _) (.cells #[.slice (some ⟨g5, 0, none⟩) M M] 26)
                have HB13 : Hid (Bx1 w1 (w12.alloc (.cells #[.slice (some ⟨g5, 0, none⟩) M M] 26)) w12.heap.size g5 M (upd H (p' + 2 + k) 77)) := ⟨below_join (below_join (below_join HB3.out.1 HB11.out.below) hb12) hbn, World.cell?_alloc_new w12 _ _ 0, hi12.rd.below hbn⟩
                clear hi12 hb12 hbn c11 HB11 HWR
                go_wp2_with fail
                generalize (w12.alloc (.cells #[.slice (some ⟨g5, 0, none⟩) M M] 26)) = w13 at HB13 ⊢
                generalize w12.heap.size = X5 at HB13 ⊢
                go_loopw [21] (fun i wr => ∃ j : Nat, j ≤ m ∧ i = .int .i64 j ∧ Bx1 w1 wr X5 g5 M (upd H (p' + 2 + k) 77)) (fun i _ => m - (intOf i).toNat)
                case atStart => exact ⟨0, Nat.zero_le _, rfl, HB13.out⟩
                case round =>
                  obtain ⟨j, hj, rfl, hB⟩ := hrel
                  have HB : Hid (Bx1 w1 wr X5 g5 M (upd H (p' + 2 + k) 77)) := hB
                  have cb := hB.box
                  have HCL : Hid (∀ i, i < M → wr.cell? ⟨g5, 0 + i, none⟩ = some (.int .i64 (upd H (p' + 2 + k) 77 i))) := by
                    obtain ⟨b', o', e', hc'⟩ := hB.rd (by have := HM.out; omega)
                    cases e'
                    exact hc'
                  clear hB
                  by_cases hjm : j < m
                  · go_wp2_with fail
                    refine (read_yes g5 0 M M (upd H (p' + 2 + k) 77) q' m j wr HCL.out HM2.out (Nat.le_refl _) HZQ.out.1 HZQ.out.2 hjm).mono ?_
                    rintro e w14 ⟨rfl, hb14⟩
                    rw [HZV.out.1 j hjm]
                    have HB14 : Hid (Bx1 w1 w14 X5 g5 M (upd H (p' + 2 + k) 77)) := HB.out.call hb14
                    clear hb14 cb
                    go_wp2_with fail
                    go_roundw
                    case rel => exact ⟨j + 1, by omega, by go_num, HB14.out⟩
                    case measure => simp [intOf]; omega
                  · have T9 : ¬ (j : Int) < m := by omega
                    go_wp2_with fail
                    refine (read_yes g5 0 M M (upd H (p' + 2 + k) 77) p' n k wr HCL.out HM2.out (Nat.le_refl _) HZP.out.1 HZP.out.2 HK.out).mono ?_
                    rintro e w14 ⟨rfl, hb14⟩
                    rw [HZV.out.2]
                    have HB14 : Hid (Bx1 w1 w14 X5 g5 M (upd H (p' + 2 + k) 77)) := HB.out.call hb14
                    clear hb14 cb
                    have c14 := HB14.out.box
                    go_wp2_with fail
                    refine (implAudit_any (some ⟨g5, 0, none⟩) M M (upd H (p' + 2 + k) 77) w14 HB14.out.rd HM2.out (Nat.le_refl _)).mono ?_
                    rintro e w15 ⟨rfl, hb15⟩
                    have hau : aud (upd H (p' + 2 + k) 77) M 0 false = -1 := HZW.out
                    rw [hau]
                    have HB15 : Hid (Below w1.heap.size w1 w15) := below_join HB14.out.below hb15
                    clear hb15 c14 hau
                    go_wp2_with fail
                    go_ret
                    exact ⟨rfl, HB15.out⟩
            · have hd0' : (d == 0) = false := by simpa using hd0
              have HBW : Hid (Below w1.heap.size w1 w9) := below_join HB3.out.1 HB9.out.below
              go_wp2_with fail
              go_ret
              exact ⟨by first | rfl | exact ret_bool (by simp), HBW.out⟩
          · have hc0' : (c == 0) = false := by simpa using hc0
            have HBW : Hid (Below w1.heap.size w1 w9) := below_join HB3.out.1 HB9.out.below
            go_wp2_with fail
            go_ret
            exact ⟨by first | rfl | exact ret_bool (by simp), HBW.out⟩
end Go.Proofs.Ytikedjdjfncgkaa
