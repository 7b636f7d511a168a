/-
  The law of a block given: its walk.
-/
import Derived.Test.YtikedjdjfncgkaaAiZ
import Derived.Test.YtikedjdjfncgkaaAlZ
import Derived.Test.YtikedjdjfncgkaaAiD
import Derived.Test.YtikedjdjfncgkaaGvM
import Derived.Test.YtikedjdjfncgkaaDlA
import Derived.Test.YtikedjdjfncgkaaDaA
import Derived.Test.YtikedjdjfncgkaaSmA
import Derived.Test.YtikedjdjfncgkaaUkA
import Derived.Test.YtikedjdjfncgkaaUaB
import Derived.Deep.RegionLaw
import Derived.Deep.RegionHeld3
import Derived.Deep.CutRange
namespace Go.Proofs.Ytikedjdjfncgkaa
open Go.RowKit
set_option linter.unusedVariables false

theorem AllocR.same {f F : Nat → Int} {N : Nat} {x p c : Int} (h : AllocR f N x F p c) (hc : c ≠ 0) : F = f := by
  rcases h with ⟨_, _, _, h⟩ | ⟨_, _, _, _, h⟩ | ⟨_, _, _, _, _, h⟩ | ⟨h, _⟩
  · exact h
  · exact h
  · exact h
  · exact absurd h hc
theorem zeroC_ne (x : Int) : zeroC x ≠ 0 := by unfold zeroC; split <;> decide

/-- The arena gg in the box Y, in a world behind w5. -/
structure Ax2 (w5 wy : World) (M Y gg cc : Nat) (FF : Nat → Int) : Prop where
  bel : Below w5.heap.size w5 wy
  box : wy.cell? ⟨Y, 0, none⟩ = some (.slice (some ⟨gg, 0, none⟩) M cc)
  rd : Rd wy (some ⟨gg, 0, none⟩) M FF
  le : M ≤ cc
theorem Ax2.call {w5 wy wz : World} {M Y gg cc : Nat} {FF : Nat → Int} (h : Ax2 w5 wy M Y gg cc FF) (hb : Below wy.heap.size wy wz) : Ax2 w5 wz M Y gg cc FF :=
  ⟨below_join h.bel hb, (hb.cell (p := ⟨Y, 0, none⟩) (World.block_lt_of_cell? _ _ h.box)).trans h.box, h.rd.below hb, h.le⟩
theorem Ax2.cells {w5 wy : World} {M Y gg cc : Nat} {FF : Nat → Int} (h : Ax2 w5 wy M Y gg cc FF) : ∀ j, j < M → wy.cell? ⟨gg, 0 + j, none⟩ = some (.int .i64 (FF j)) := fun j hj => by
  obtain ⟨b', o', e', hc'⟩ := h.rd (by omega)
  cases e'
  exact hc' j hj
def Keep2 (w5 wy wz : World) (M : Nat) : Prop := ∀ Y gg cc FF, Ax2 w5 wy M Y gg cc FF → Ax2 w5 wz M Y gg cc FF
theorem used2 {w5 wy : World} {M Y gg cc : Nat} {FF : Nat → Int} (hM : M ≤ 80) (h : Ax2 w5 wy M Y gg cc FF) :
    Calls Try.prog 17 #[.agg #[.slice (some ⟨gg, 0, none⟩) M cc]] wy fun e w' => ∃ ua uc, e = .returned (.slice ua (usd (bk FF M 0)).length uc) ∧ Rd w' ua (usd (bk FF M 0)).length (fun j => ((usd (bk FF M 0)).getD j 0 : Nat)) ∧ Keep2 w5 wy w' M := by
  refine (implUsed_any (some ⟨gg, 0, none⟩) M cc FF wy h.rd (by omega) h.le).mono ?_
  rintro e w' ⟨v, rfl, hpl, hb⟩
  obtain ⟨ua, uc, rfl, _, _, _, hru⟩ := hpl.slice
  exact ⟨ua, uc, rfl, hru, fun Y gg cc FF h => h.call hb⟩
theorem audit2 {w5 wy : World} {M Y gg cc : Nat} {FF : Nat → Int} (hM : M ≤ 80) (h : Ax2 w5 wy M Y gg cc FF) :
    Calls Try.prog 15 #[.agg #[.slice (some ⟨gg, 0, none⟩) M cc]] wy fun e w' => e = .returned (.int .i64 (aud FF M 0 false)) ∧ Keep2 w5 wy w' M := by
  refine (implAudit_any (some ⟨gg, 0, none⟩) M cc FF wy h.rd (by omega) h.le).mono ?_
  rintro e w' ⟨rfl, hb⟩
  exact ⟨rfl, fun Y gg cc FF h => h.call hb⟩

set_option maxHeartbeats 4000000 in
set_option maxRecDepth 100000 in
theorem given_walk (w : World) (ao : Option Addr) (len cap : Nat) (zs : List Int) (hr : IsRow w ao len cap zs) (hlc : len ≤ cap) (hcm : cap ≤ maxLen) :
    Calls Try.prog 3 #[.slice ao len cap] w fun e w' => e = .returned (.bool true) ∧ Below w.heap.size w w' := by
  have HR : Hid (IsRow w ao len cap zs) := hr
  have HL : Hid (len ≤ maxLen) := Nat.le_trans hlc hcm
  clear hr
  by_cases hbig : 1048576 < len
  · go_enter Try.func3, Try.ntmps3
    go_wp2_with fail
    refine (big_any ao len cap HL.out _).mono ?_
    rintro e w1 ⟨rfl, rfl⟩
    go_wp2_with fail
    go_ret
    exact ⟨rfl, Below.refl _ _⟩
  · go_enter Try.func3, Try.ntmps3
    go_wp2_with fail
    refine (big_any ao len cap HL.out _).mono ?_
    rintro e w1 ⟨rfl, rfl⟩
    go_wp2_with fail
    refine (drawAlloc_any _ ao len cap zs HR.out (by omega)).mono ?_
    rintro e w2 ⟨g, M, cc, x, F, rfl, hM, hcc, hF, hx0, hx1, hb2⟩
    have hbn := (Below.refl w2.heap.size w2).alloc (Nat.le_refl _) (.cells #[.slice (some ⟨g, 0, none⟩) M cc] 26)
    have HA3 : Hid (Ax2 w1 (w2.alloc (.cells #[.slice (some ⟨g, 0, none⟩) M cc] 26)) M w2.heap.size g cc F) := ⟨below_join hb2 hbn, World.cell?_alloc_new w2 _ _ 0, hF.below hbn, hcc⟩
    clear hb2 hF hbn hbig hlc hcm HL HR
    go_wp2_with fail
    generalize (w2.alloc (.cells #[.slice (some ⟨g, 0, none⟩) M cc] 26)) = w3 at HA3 ⊢
    generalize w2.heap.size = B at HA3 ⊢
    by_cases hM0 : M = 0
    · subst hM0
      have HAL : Hid (Calls Try.prog 11 #[.agg #[.slice (some ⟨g, 0, none⟩) 0 cc], .int .i64 x] w3 fun e w' => ∃ g1 : Nat, e = .returned (.tuple #[.agg #[.slice (some ⟨g1, 0, none⟩) 0 0], .int .i64 0, .int .i64 (zeroC x)]) ∧ Below w3.heap.size w3 w') := by
        by_cases hx : 1 ≤ x ∧ x ≤ 4000
        · obtain ⟨y, rfl⟩ : ∃ y : Nat, x = y := ⟨x.toNat, by omega⟩
          have hz : zeroC (y : Int) = 1 := by unfold zeroC; rw [if_pos]; simp [inB]; omega
          have := alloc_zero (some ⟨g, 0, none⟩) 0 cc F y w3 (Rd.nil _ _ _) (by omega) rfl hcc (aud_zero F) (by omega) (by omega)
          rw [hz]
          exact this
        · have hz : zeroC x = 2 := by unfold zeroC; rw [if_neg]; simp [inB]; omega
          rw [hz]
          exact (alloc_form (some ⟨g, 0, none⟩) 0 cc F x w3 (Rd.nil _ _ _) (by omega) hcc (aud_zero F) hx).mono fun e w' ⟨g1, h1, _, _, _, h5⟩ => ⟨g1, h1, h5⟩
      have hzn := zeroC_ne x
      have c3 := HA3.out.box
      refine HAL.out.mono ?_
      rintro e w4 ⟨g1, rfl, hb4⟩
      have hbn := (Below.refl w4.heap.size w4).alloc (Nat.le_refl _) (.cells #[.slice (some ⟨g1, 0, none⟩) 0 0] 26)
      have HA5 : Hid (Ax2 w1 (w4.alloc (.cells #[.slice (some ⟨g1, 0, none⟩) 0 0] 26)) 0 B g cc F ∧ (w4.alloc (.cells #[.slice (some ⟨g1, 0, none⟩) 0 0] 26)).cell? ⟨w4.heap.size, 0, none⟩ = some (.slice (some ⟨g1, 0, none⟩) 0 0)) := ⟨(HA3.out.call hb4).call hbn, World.cell?_alloc_new w4 _ _ 0⟩
      clear hb4 hbn c3 HAL
      have c5 := HA5.out.1.box
      go_wp2_with fail
      clear c5
      generalize (w4.alloc (.cells #[.slice (some ⟨g1, 0, none⟩) 0 0] 26)) = w5 at HA5 ⊢
      generalize w4.heap.size = X at HA5 ⊢
      refine (specAlloc_zero g 0 cc F x w5).mono ?_
      rintro e w6 ⟨g3, rfl, hb6⟩
      have hA6 := HA5.out.1.call hb6
      have x6 := (hb6.cell (p := ⟨X, 0, none⟩) (World.block_lt_of_cell? _ _ HA5.out.2)).trans HA5.out.2
      have hbn := (Below.refl w6.heap.size w6).alloc (Nat.le_refl _) (.cells #[.slice (some ⟨g3, 0, none⟩) 0 0] 26)
      have x7 := (hbn.cell (p := ⟨X, 0, none⟩) (World.block_lt_of_cell? _ _ x6)).trans x6
      have c7 := (hA6.call hbn).box
      have HB7 : Hid (Below w1.heap.size w1 (w6.alloc (.cells #[.slice (some ⟨g3, 0, none⟩) 0 0] 26))) := (hA6.call hbn).bel
      clear hA6 hb6 x6 hbn HA5
      generalize zeroC x = z at *
      have hz' : (z == 0) = false := by simpa using hzn
      go_wp2_with fail
      refine (sameInts_same (some ⟨g1, 0, none⟩) (some ⟨g, 0, none⟩) 0 0 cc F F _ (Rd.nil _ _ _) (Rd.nil _ _ _) (fun _ _ => rfl) (by omega)).mono ?_
      rintro e w8 ⟨rfl, hb8⟩
      have HB8 : Hid (Below w1.heap.size w1 w8) := below_join HB7.out hb8
      clear hb8
      go_wp2_with fail
      go_ret
      exact ⟨by first | rfl | exact ret_bool (by simp), HB8.out⟩
    · have c3 := HA3.out.box
      refine (implAlloc_any (some ⟨g, 0, none⟩) M cc F x w3 HA3.out.rd (by omega) (by omega) hcc).mono ?_
      rintro e w4 ⟨g1, F1, p, c, rfl, _, _, hi4, hR4, hb4⟩
      have hbn := (Below.refl w4.heap.size w4).alloc (Nat.le_refl _) (.cells #[.slice (some ⟨g1, 0, none⟩) M M] 26)
      have HA5 : Hid (Ax2 w1 (w4.alloc (.cells #[.slice (some ⟨g1, 0, none⟩) M M] 26)) M B g cc F ∧ Ax2 w1 (w4.alloc (.cells #[.slice (some ⟨g1, 0, none⟩) M M] 26)) M w4.heap.size g1 M F1) := ⟨(HA3.out.call hb4).call hbn, ⟨((HA3.out.call hb4).call hbn).bel, World.cell?_alloc_new w4 _ _ 0, hi4.rd.below hbn, Nat.le_refl _⟩⟩
      have HR4 : Hid (AllocR F M x F1 p c) := hR4
      clear hb4 hbn c3 HA3 hi4 hR4
      have c5 := HA5.out.1.box
      go_wp2_with fail
      clear c5
      generalize (w4.alloc (.cells #[.slice (some ⟨g1, 0, none⟩) M M] 26)) = w5 at HA5 ⊢
      generalize w4.heap.size = X at HA5 ⊢
      refine (specAlloc_any g 0 M cc F x w5 HA5.out.1.cells (by omega) (by omega)).mono ?_
      rintro e w6 ⟨g3, c3, p3, code, Z, rfl, hR6, hC6⟩
      have hcode : code = c := hC6.code HR4.out
      subst hcode
      have hbn := (Below.refl w6.heap.size w6).alloc (Nat.le_refl _) (.cells #[.slice (some ⟨g3, 0, none⟩) M c3] 26)
      have HA7 : Hid (Ax2 w1 (w6.alloc (.cells #[.slice (some ⟨g3, 0, none⟩) M c3] 26)) M B g cc F ∧ Ax2 w1 (w6.alloc (.cells #[.slice (some ⟨g3, 0, none⟩) M c3] 26)) M X g1 M F1) := ⟨(HA5.out.1.call hR6.below).call hbn, (HA5.out.2.call hR6.below).call hbn⟩
      clear hR6 hC6 hbn HA5
      have c7 := HA7.out.1.box
      have x7 := HA7.out.2.box
      have HM : Hid (M ≤ 80 ∧ M ≠ 0) := ⟨hM, hM0⟩
      by_cases hc0 : code = 0
      · subst hc0
        obtain ⟨q, m, y, rfl, rfl, hm1, hm2, hWF, hqb, hqz, hul, hold⟩ := HR4.out.given2 (by omega)
        obtain ⟨hBq, hfq, _⟩ := bk_blk hqb
        have HBQ : Hid (blkO F1 M q = some (m, true) ∧ (∀ b ∈ bk F1 M 0, ¬ (b.1 < q ∧ q < b.1 + b.2.1 + 3)) ∧ ∀ i, i < m → F1 (q + 2 + i) = 0) := ⟨hBq, bk_apart2 hqb, hqz⟩
        have HWF : Hid (aud F1 M 0 false = -1) := hWF
        have HNO : Hid (∀ j, j < (usd (bk F M 0)).length → (((usd (bk F M 0)).getD j 0 : Nat) : Int) ≠ (q : Int)) := fun j hj e => by
          have hmem : (usd (bk F M 0)).getD j 0 ∈ usd (bk F M 0) := by rw [List.getD_eq_getElem?_getD, List.getElem?_eq_getElem hj]; exact List.getElem_mem hj
          obtain ⟨n, hn⟩ := usd_mem hmem
          exact (hold _ hn rfl).2.1 (by show (usd (bk F M 0)).getD j 0 = q; omega)
        have HOLD : Hid (∀ j, j < (usd (bk F M 0)).length → ∃ p n : Nat, (usd (bk F M 0)).getD j 0 = p ∧ blkO F M p = some (n, true) ∧ (∀ b ∈ bk F M 0, ¬ (b.1 < p ∧ p < b.1 + b.2.1 + 3)) ∧ blkO F1 M p = some (n, true) ∧ (∀ b ∈ bk F1 M 0, ¬ (b.1 < p ∧ p < b.1 + b.2.1 + 3)) ∧ (∀ i, i < n → F1 (p + 2 + i) = F (p + 2 + i)) ∧ p ≤ 80 ∧ n ≤ 80) := fun j hj => by
          have hmem : (usd (bk F M 0)).getD j 0 ∈ usd (bk F M 0) := by rw [List.getD_eq_getElem?_getD, List.getElem?_eq_getElem hj]; exact List.getElem_mem hj
          obtain ⟨n, hn⟩ := usd_mem hmem
          obtain ⟨k1, k2, k3⟩ := hold _ hn rfl
          have hb := (bk_blk hn).2.1
          exact ⟨_, n, rfl, (bk_blk hn).1, bk_apart2 hn, (bk_blk k1).1, bk_apart2 k1, k3, by omega, by omega⟩
        have hU1 := usd_len (bk F M 0)
        have hU2 := bk_len4 F M
        clear hWF hqb hqz hold hBq HR4
        go_wp2_with fail
        generalize (w6.alloc (.cells #[.slice (some ⟨g3, 0, none⟩) M c3] 26)) = w7 at HA7 c7 x7 ⊢
        refine (implAt_any (some ⟨g1, 0, none⟩) M M F1 q w7 HA7.out.2.rd (by omega) (Nat.le_refl _)).mono ?_
        rintro e w8 ⟨rfl, hb8⟩
        rw [HBQ.out.1]
        simp only [bv]
        have hA8 : Ax2 w8 w8 M B g cc F := ⟨Below.refl _ _, (HA7.out.1.call hb8).box, (HA7.out.1.call hb8).rd, hcc⟩
        have hX8 : Ax2 w8 w8 M X g1 M F1 := ⟨Below.refl _ _, (HA7.out.2.call hb8).box, (HA7.out.2.call hb8).rd, Nat.le_refl _⟩
        have HB8 : Hid (Below w1.heap.size w1 w8) := (HA7.out.1.call hb8).bel
        have HU : Hid (∀ wy Y gg c2 FF, Ax2 w8 wy M Y gg c2 FF → Calls Try.prog 17 #[.agg #[.slice (some ⟨gg, 0, none⟩) M c2]] wy fun e w' => ∃ ua uc, e = .returned (.slice ua (usd (bk FF M 0)).length uc) ∧ Rd w' ua (usd (bk FF M 0)).length (fun j => ((usd (bk FF M 0)).getD j 0 : Nat)) ∧ Keep2 w8 wy w' M) := fun wy Y gg c2 FF h => used2 HM.out.1 h
        have HAU : Hid (∀ wy Y gg c2 FF, Ax2 w8 wy M Y gg c2 FF → Calls Try.prog 15 #[.agg #[.slice (some ⟨gg, 0, none⟩) M c2]] wy fun e w' => e = .returned (.int .i64 (aud FF M 0 false)) ∧ Keep2 w8 wy w' M) := fun wy Y gg c2 FF h => audit2 HM.out.1 h
        have hA9 : Ax2 w8 w8.drew M B g cc F := hA8.call ((Below.refl _ _).drew)
        have hX9 : Ax2 w8 w8.drew M X g1 M F1 := hX8.call ((Below.refl _ _).drew)
        have b8 := hA8.box
        have x8 := hX8.box
        have b9 := hA9.box
        have x9 := hX9.box
        clear hb8 HA7 c7 x7 hfq
        have hmy1 : ¬ (m : Int) < y := by omega
        have hmy2 : ¬ (y : Int) + 3 < m := by omega
        have hd1 : decide ((m : Int) < (y : Int)) = false := decide_eq_false hmy1
        have hd2 : decide ((y : Int) + 3 < (m : Int)) = false := decide_eq_false hmy2
        have hd3 : decide (m < y) = false := decide_eq_false (by omega)
        have hd4 : decide (y + 3 < m) = false := decide_eq_false (by omega)
        have hwy : IntKind.i64.wrap ((y : Int) + 3) = (y : Int) + 3 := by rw [IntKind.wrap_i64]; omega
        go_wp2_with fail
        go_cut [109] from 72 to 109 (fun v wx => v = .bool false ∧ Ax2 w8 wx M B g cc F ∧ Ax2 w8 wx M X g1 M F1)
        case first =>
          go_region_held3 (fun w' => w'.cell? ⟨B, 0, none⟩ = some (.slice (some ⟨g, 0, none⟩) M cc) ∧ w'.cell? ⟨X, 0, none⟩ = some (.slice (some ⟨g1, 0, none⟩) M M)) (first | (constructor <;> assumption) | go_keep)
            (first
              | (go_at_call 15; refine (HAU.out _ X g1 M F1 (by assumption)).mono ?_; rintro e wa ⟨rfl, hk⟩; rw [HWF.out]; have hAn := hk _ _ _ _ (by assumption : Ax2 w8 _ M B g cc F); have hXn := hk _ _ _ _ (by assumption : Ax2 w8 _ M X g1 M F1); have ban := hAn.box; have xan := hXn.box; clear hk)
              | (go_at_call 16; refine (has_no ua _ uc _ q _ (by assumption) (by omega) HNO.out).mono ?_; rintro e wh ⟨rfl, rfl⟩)
              | (go_at_call 17; refine (HU.out _ _ _ _ _ (by assumption)).mono ?_; rintro e wb ⟨ua, uc, rfl, hru, hk⟩; have hAn := hk _ _ _ _ (by assumption : Ax2 w8 _ M B g cc F); have hXn := hk _ _ _ _ (by assumption : Ax2 w8 _ M X g1 M F1); have ban := hAn.box; have xan := hXn.box; clear hk))
          all_goals
            go_wp2_with fail
            go_meet
            case rel =>
              have hwu : IntKind.i64.wrap (((usd (bk F M 0)).length : Int) + 1) = ((usd (bk F M 0)).length : Int) + 1 := by rw [IntKind.wrap_i64]; omega
              exact ⟨by simp [hwu], by assumption, by assumption⟩
        case rest =>
          obtain ⟨rfl, hAc, hXc⟩ := hcut
          have HAc : Hid (Ax2 w8 wc M B g cc F ∧ Ax2 w8 wc M X g1 M F1) := ⟨hAc, hXc⟩
          clear hAc hXc hA8 hX8 hA9 hX9 b8 x8 b9 x9 HAU HWF HNO hmy1 hmy2 hd1 hd2 hd3 hd4 hwy
          have HM2 : Hid (M ≤ 1048576) := by show _ ≤ _; omega
          obtain ⟨U, hU⟩ : ∃ U, U = (usd (bk F M 0)).length := ⟨_, rfl⟩
          obtain ⟨us, hus⟩ : ∃ us, us = usd (bk F M 0) := ⟨_, rfl⟩
          have HUL : Hid (∀ wy, Ax2 w8 wy M B g cc F → Calls Try.prog 17 #[.agg #[.slice (some ⟨g, 0, none⟩) M cc]] wy fun e w' => ∃ ua uc, e = .returned (.slice ua U uc) ∧ Rd w' ua U (fun j => (us.getD j 0 : Nat)) ∧ Keep2 w8 wy w' M) := fun wy h => by
            have := HU.out wy B g cc F h
            rw [← hU, ← hus] at this
            exact this
          rw [← hU] at HOLD hU1
          rw [← hus] at HOLD
          have hU3 : U ≤ 80 := by omega
          clear HU hU hus hul hU1 hU2
          go_wp2_with fail
          go_loopw [14] (fun i wr => ∃ j : Nat, j ≤ m ∧ i = .int .i64 j ∧ Ax2 w8 wr M B g cc F ∧ Ax2 w8 wr M X g1 M F1) (fun i _ => m - (intOf i).toNat)
          case atStart => exact ⟨0, Nat.zero_le _, rfl, HAc.out.1, HAc.out.2⟩
          case round =>
            obtain ⟨j, hj, rfl, hA, hX⟩ := hrel
            have HA : Hid (Ax2 w8 wr M B g cc F ∧ Ax2 w8 wr M X g1 M F1) := ⟨hA, hX⟩
            have bA := hA.box
            have bX := hX.box
            clear hA hX
            by_cases hjm : j < m
            · go_wp2_with fail
              refine (read_yes g1 0 M M F1 q m j wr HA.out.2.cells HM2.out (Nat.le_refl _) HBQ.out.1 HBQ.out.2.1 hjm).mono ?_
              rintro e w14 ⟨rfl, hb14⟩
              rw [HBQ.out.2.2 j hjm]
              have HA14 : Hid (Ax2 w8 w14 M B g cc F ∧ Ax2 w8 w14 M X g1 M F1) := ⟨HA.out.1.call hb14, HA.out.2.call hb14⟩
              clear hb14 bA bX
              go_wp2_with fail
              go_roundw
              case rel => exact ⟨j + 1, by omega, by go_num, HA14.out.1, HA14.out.2⟩
              case measure => simp [intOf]; omega
            · have T9 : ¬ (j : Int) < m := by omega
              go_wp2_with fail
              refine (HUL.out wr HA.out.1).mono ?_
              rintro e w10 ⟨ua, uc, rfl, hru, hk⟩
              have HA10 : Hid (Ax2 w8 w10 M B g cc F ∧ Ax2 w8 w10 M X g1 M F1 ∧ Rd w10 ua U (fun j => (us.getD j 0 : Nat))) := ⟨hk _ _ _ _ HA.out.1, hk _ _ _ _ HA.out.2, hru⟩
              clear hru hk bA bX HA HAc hjm T9
              go_wp2_with fail
              go_loopw [18] (fun i wr => ∃ k : Nat, k ≤ U ∧ i = .int .i64 k ∧ Ax2 w8 wr M B g cc F ∧ Ax2 w8 wr M X g1 M F1 ∧ Rd wr ua U (fun j => (us.getD j 0 : Nat))) (fun i _ => U - (intOf i).toNat)
              case atStart => exact ⟨0, Nat.zero_le _, rfl, HA10.out.1, HA10.out.2.1, HA10.out.2.2⟩
              case round =>
                obtain ⟨k, hk, rfl, hA, hX, hru⟩ := hrel
                by_cases hkU : k < U
                · obtain ⟨p, n, hp, hB1, hN1, hB2, hN2, hsm, hp80, hn80⟩ := HOLD.out k hkU
                  obtain ⟨lb, lo, rfl, hcl⟩ := hru (by omega)
                  have cm : wr.cell? ⟨lb, lo + k, none⟩ = some (.int .i64 p) := by have := hcl k hkU; rw [← hp]; exact this
                  have HSr : Hid (Ax2 w8 wr M B g cc F ∧ Ax2 w8 wr M X g1 M F1 ∧ Rd wr (some ⟨lb, lo, none⟩) U (fun j => (us.getD j 0 : Nat))) := ⟨hA, hX, fun _ => ⟨lb, lo, rfl, hcl⟩⟩
                  have b0 := hA.box
                  have HBN : Hid (blkO F M p = some (n, true) ∧ (∀ b ∈ bk F M 0, ¬ (b.1 < p ∧ p < b.1 + b.2.1 + 3)) ∧ blkO F1 M p = some (n, true) ∧ (∀ b ∈ bk F1 M 0, ¬ (b.1 < p ∧ p < b.1 + b.2.1 + 3)) ∧ (∀ i, i < n → F1 (p + 2 + i) = F (p + 2 + i))) := ⟨hB1, hN1, hB2, hN2, hsm⟩
                  have HCE : Hid ((us.getD k 0 : Nat) = p) := hp
                  have HAt : Hid (∀ x : Inn wr, Calls Try.prog 14 #[.agg #[.slice (some ⟨g, 0, none⟩) M cc], .int .i64 p] x.val fun e w' => e = .returned (bv (some (n, true))) ∧ Below x.val.heap.size x.val w') := fun x => by
                    have := implAt_any (some ⟨g, 0, none⟩) M cc F p x.val (HSr.out.1.rd.below x.bel) HM2.out hcc
                    rw [HBN.out.1] at this
                    exact this
                  dsimp only [bv] at HAt
                  have k0 := Inn.keep b0
                  have k1 := Inn.keep cm
                  haveI := inn_ne wr
                  clear hA hX hru hcl hp hB1 hN1 hB2 hN2 hsm
                  go_wp2_with fail
                  refine wp_region_inn ?_ ?_ ?_
                  · kernel_rfl
                  · kernel_rfl
                  repeat (go_big_quiet_step (first
                    | (go_at_call 14; exact calls_inn (HAt.out _))))
                  refine wpQuiet_nil ?_
                  rintro w11 ⟨x11, h11⟩
                  have hb11 : Below wr.heap.size wr w11 := by rw [h11]; exact x11.bel
                  have HS11 : Hid (Ax2 w8 w11 M B g cc F ∧ Ax2 w8 w11 M X g1 M F1 ∧ Rd w11 (some ⟨lb, lo, none⟩) U (fun j => (us.getD j 0 : Nat))) := ⟨HSr.out.1.call hb11, HSr.out.2.1.call hb11, HSr.out.2.2.below hb11⟩
                  clear h11 x11 hb11 k0 k1 HAt cm b0 HSr
                  go_wp2_with fail
                  go_loopw [22] (fun i wr => ∃ l : Nat, l ≤ n ∧ i = .int .i64 l ∧ Ax2 w8 wr M B g cc F ∧ Ax2 w8 wr M X g1 M F1 ∧ Rd wr (some ⟨lb, lo, none⟩) U (fun j => (us.getD j 0 : Nat))) (fun i _ => n - (intOf i).toNat)
                  case atStart => exact ⟨0, Nat.zero_le _, rfl, HS11.out.1, HS11.out.2.1, HS11.out.2.2⟩
                  case round =>
                    obtain ⟨l, hl, rfl, hA, hX, hru⟩ := hrel
                    by_cases hln : l < n
                    · obtain ⟨lb', lo', e', hcl⟩ := hru (by omega)
                      cases e'
                      have cm : wr.cell? ⟨lb, lo + k, none⟩ = some (.int .i64 p) := by have := hcl k hkU; rw [← HCE.out]; exact this
                      have HSr : Hid (Ax2 w8 wr M B g cc F ∧ Ax2 w8 wr M X g1 M F1 ∧ Rd wr (some ⟨lb, lo, none⟩) U (fun j => (us.getD j 0 : Nat))) := ⟨hA, hX, fun _ => ⟨lb, lo, rfl, hcl⟩⟩
                      have b0 := hA.box
                      have HRD : Hid (∀ x : Inn wr, Calls Try.prog 18 #[.agg #[.slice (some ⟨g, 0, none⟩) M cc], .int .i64 p, .int .i64 l] x.val fun e w' => e = .returned (.tuple #[.int .i64 (F (p + 2 + l)), .bool true]) ∧ Below x.val.heap.size x.val w') := fun x => read_yes g 0 M cc F p n l x.val (HSr.out.1.call x.bel).cells HM2.out hcc HBN.out.1 HBN.out.2.1 hln
                      have k0 := Inn.keep b0
                      have k1 := Inn.keep cm
                      haveI := inn_ne wr
                      clear hA hX hru hcl
                      go_wp2_with fail
                      refine wp_region_inn ?_ ?_ ?_
                      · kernel_rfl
                      · kernel_rfl
                      repeat (go_big_quiet_step (first
                        | (go_at_call 18; exact calls_inn (HRD.out _))))
                      refine wpQuiet_nil ?_
                      rintro w12 ⟨x12, h12⟩
                      have hb12 : Below wr.heap.size wr w12 := by rw [h12]; exact x12.bel
                      have c12 := (hb12.cell (p := ⟨lb, lo + k, none⟩) (World.block_lt_of_cell? wr _ cm)).trans cm
                      have HS12 : Hid (Ax2 w8 w12 M B g cc F ∧ Ax2 w8 w12 M X g1 M F1 ∧ Rd w12 (some ⟨lb, lo, none⟩) U (fun j => (us.getD j 0 : Nat))) := ⟨HSr.out.1.call hb12, HSr.out.2.1.call hb12, HSr.out.2.2.below hb12⟩
                      have b12 := HS12.out.2.1.box
                      have HRX : Hid (∀ x : Inn w12, Calls Try.prog 18 #[.agg #[.slice (some ⟨g1, 0, none⟩) M M], .int .i64 p, .int .i64 l] x.val fun e w' => e = .returned (.tuple #[.int .i64 (F (p + 2 + l)), .bool true]) ∧ Below x.val.heap.size x.val w') := fun x => by
                        have := read_yes g1 0 M M F1 p n l x.val (HS12.out.2.1.call x.bel).cells HM2.out (Nat.le_refl _) HBN.out.2.2.1 HBN.out.2.2.2.1 hln
                        rw [HBN.out.2.2.2.2 l hln] at this
                        exact this
                      clear h12 x12 hb12 k0 k1 HRD cm b0 HSr
                      have k2 := Inn.keep b12
                      have k3 := Inn.keep c12
                      haveI := inn_ne w12
                      go_wp2_with fail
                      refine wp_region_inn ?_ ?_ ?_
                      · kernel_rfl
                      · kernel_rfl
                      repeat (go_big_quiet_step (first
                        | (go_at_call 18; exact calls_inn (HRX.out _))))
                      refine wpQuiet_nil ?_
                      rintro w13 ⟨x13, h13⟩
                      have hb13 : Below w12.heap.size w12 w13 := by rw [h13]; exact x13.bel
                      have HS13 : Hid (Ax2 w8 w13 M B g cc F ∧ Ax2 w8 w13 M X g1 M F1 ∧ Rd w13 (some ⟨lb, lo, none⟩) U (fun j => (us.getD j 0 : Nat))) := ⟨HS12.out.1.call hb13, HS12.out.2.1.call hb13, HS12.out.2.2.below hb13⟩
                      clear h13 x13 hb13 k2 k3 HRX c12 b12 HS12
                      generalize F (p + 2 + l) = val
                      go_wp2_with fail
                      go_roundw
                      case rel => exact ⟨l + 1, by omega, by go_num, HS13.out.1, HS13.out.2.1, HS13.out.2.2⟩
                      case measure => simp [intOf]; omega
                    · have hln2 : ¬ (l : Int) < n := by omega
                      have HSr : Hid (Ax2 w8 wr M B g cc F ∧ Ax2 w8 wr M X g1 M F1 ∧ Rd wr (some ⟨lb, lo, none⟩) U (fun j => (us.getD j 0 : Nat))) := ⟨hA, hX, hru⟩
                      clear hA hX hru
                      go_wp2_with fail
                      go_roundw
                      case rel => exact ⟨k + 1, by omega, by go_num, HSr.out.1, HSr.out.2.1, HSr.out.2.2⟩
                      case measure => simp [intOf]; omega
                · have hkU2 : ¬ (k : Int) < U := by omega
                  have HB10 : Hid (Below w1.heap.size w1 wr) := below_join HB8.out hA.bel
                  clear hA hX hru
                  go_wp2_with fail
                  go_ret
                  exact ⟨rfl, HB10.out⟩
      · have hcz : (code == 0) = false := by simpa using hc0
        have e1 := HR4.out.same hc0
        subst e1
        go_wp2_with fail
        generalize (w6.alloc (.cells #[.slice (some ⟨g3, 0, none⟩) M c3] 26)) = w7 at HA7 c7 x7 ⊢
        refine (sameInts_same (some ⟨g1, 0, none⟩) (some ⟨g, 0, none⟩) M M cc F1 F1 w7 HA7.out.2.rd HA7.out.1.rd (fun _ _ => rfl) (by omega)).mono ?_
        rintro e w8 ⟨rfl, hb8⟩
        have HB8 : Hid (Below w1.heap.size w1 w8) := below_join HA7.out.1.bel hb8
        clear hb8
        go_wp2_with fail
        go_ret
        exact ⟨by first | rfl | exact ret_bool (by simp), HB8.out⟩
end Go.Proofs.Ytikedjdjfncgkaa
