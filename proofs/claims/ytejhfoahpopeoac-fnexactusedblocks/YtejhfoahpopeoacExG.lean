/-
  What the law FnExactUsedBlocks does, by the two kinds of UsedBlocks.
-/
import Derived.Test.YtejhfoahpopeoacExE
import Derived.Test.YtejhfoahpopeoacUkA
import Derived.Test.YtejhfoahpopeoacUsA
import Derived.Deep.RegionLaw
import Derived.Deep.CutRange
namespace Go.Proofs.Ytejhfoahpopeoac
open Go.RowKit
set_option linter.unusedVariables false

set_option maxHeartbeats 4000000 in
set_option maxRecDepth 100000 in
theorem used_law (SP : ∀ (ao : Option Addr) (N cap : Nat) (f : Nat → Int) (w : World), Rd w ao N f → N ≤ 1048576 → Calls Try.prog 5 #[.agg #[.slice ao N cap]] w fun e w' => ∃ v, e = .returned v ∧ Places w' w.heap.size v (usd (bk f N 0)) ∧ Below w.heap.size w w')
    (IM : ∀ (ao : Option Addr) (N cap : Nat) (f : Nat → Int) (w : World), Rd w ao N f → N ≤ 1048576 → N ≤ cap → Calls Try.prog 7 #[.agg #[.slice ao N cap]] w fun e w' => ∃ v, e = .returned v ∧ Places w' w.heap.size v (usd (bk f N 0)) ∧ Below w.heap.size w w')
    (LN : ∀ (N : Nat) (f : Nat → Int), (usd (bk f N 0)).length ≤ N)
    (ao : Option Addr) (N cap : Nat) (f : Nat → Int) (w : World) (hr : Rd w ao N f) (hN : N ≤ maxLen) :
    Calls Try.prog 3 #[.agg #[.slice ao N cap]] w fun e w' => e = .returned (.bool true) ∧ Below w.heap.size w w' := by
  have HSP : Hid (∀ (ao : Option Addr) (N cap : Nat) (f : Nat → Int) (w : World), Rd w ao N f → N ≤ 1048576 → Calls Try.prog 5 #[.agg #[.slice ao N cap]] w fun e w' => ∃ v, e = .returned v ∧ Places w' w.heap.size v (usd (bk f N 0)) ∧ Below w.heap.size w w') := SP
  have HIM : Hid (∀ (ao : Option Addr) (N cap : Nat) (f : Nat → Int) (w : World), Rd w ao N f → N ≤ 1048576 → N ≤ cap → Calls Try.prog 7 #[.agg #[.slice ao N cap]] w fun e w' => ∃ v, e = .returned v ∧ Places w' w.heap.size v (usd (bk f N 0)) ∧ Below w.heap.size w w') := IM
  have hLN := LN N f
  have HR : Hid (Rd w ao N f) := hr
  have HN : Hid (N ≤ maxLen) := hN
  clear SP IM LN hr hN
  go_enter Try.func3, Try.ntmps3
  go_wp2_with fail
  have hb0 := (Below.refl w.heap.size w).alloc (Nat.le_refl _) (.cells #[.slice ao N cap] 24)
  have b0 : (w.alloc (.cells #[.slice ao N cap] 24)).cell? ⟨w.heap.size, 0, none⟩ = some (.slice ao N cap) := World.cell?_alloc_new w _ _ 0
  generalize (w.alloc (.cells #[.slice ao N cap] 24)) = w0 at hb0 b0 ⊢
  refine (szArena_any ao N cap 1048576 HN.out (by decide) _).mono ?_
  rintro e w1 ⟨rfl, hb1⟩
  have b1 := (hb1.cell (p := ⟨w.heap.size, 0, none⟩) (World.block_lt_of_cell? w0 _ b0)).trans b0
  have HB1 : Hid (Below w.heap.size w w1) := below_join hb0 hb1
  clear hb0 hb1 b0
  by_cases hbig : N ≤ 1048576
  · have hsz : ¬ szI N 1048576 < 0 := by unfold szI; split <;> omega
    generalize szI N 1048576 = y at *
    have hL6 : (usd (bk f N 0)).length ≤ 1048576 := by omega
    go_wp2_with fail
    refine (toArena_any ao N cap f _ (HR.out.below HB1.out) hbig).mono ?_
    rintro e w2 ⟨g2, rfl, hg2, hi2, hl2, hb2⟩
    have HB2 : Hid (Below w.heap.size w w2) := below_join HB1.out hb2
    have HI2 : Hid (Rd w2 (some ⟨g2, 0, none⟩) N f) := hi2.rd
    have b2 := (hb2.cell (p := ⟨w.heap.size, 0, none⟩) (World.block_lt_of_cell? w1 _ b1)).trans b1
    clear hg2 hi2 hl2 hb2 b1
    go_wp2_with fail
    refine (HSP.out (some ⟨g2, 0, none⟩) N N f _ HI2.out hbig).mono ?_
    rintro e w3 ⟨vs, rfl, hps, hb3⟩
    obtain ⟨sa, sc, rfl, hsp, hspl⟩ : ∃ sa sc, vs = .slice sa (usd (bk f N 0)).length sc ∧ Rd w3 sa (usd (bk f N 0)).length (fun j => ((usd (bk f N 0)).getD j 0 : Nat)) ∧ ((usd (bk f N 0)).length ≠ 0 → ∀ a, sa = some a → a.block < w3.heap.size) := by
      obtain ⟨sa, sc, e, _, _, _, h5⟩ := hps.slice
      refine ⟨sa, sc, e, h5, fun hn a ea => ?_⟩
      obtain ⟨b, o, e2, hc⟩ := h5 hn
      rw [ea] at e2
      cases e2
      exact World.block_lt_of_cell? w3 _ (hc 0 (by omega))
    have HB3 : Hid (Below w.heap.size w w3) := below_join HB2.out hb3
    have b3 := (hb3.cell (p := ⟨w.heap.size, 0, none⟩) (World.block_lt_of_cell? w2 _ b2)).trans b2
    have HS3 : Hid (Rd w3 sa (usd (bk f N 0)).length (fun j => ((usd (bk f N 0)).getD j 0 : Nat)) ∧ ((usd (bk f N 0)).length ≠ 0 → ∀ a, sa = some a → a.block < w3.heap.size)) := ⟨hsp, hspl⟩
    clear hb3 b2 HI2 hps hsp hspl
    obtain ⟨lst, hlst⟩ : ∃ l, l = usd (bk f N 0) := ⟨_, rfl⟩
    have HLS : Hid (usd (bk f N 0) = lst) := hlst.symm
    rw [← hlst] at HS3 hL6 hLN
    rw [← hlst]
    clear hlst
    obtain ⟨L, hL⟩ : ∃ L, L = lst.length := ⟨_, rfl⟩
    rw [← hL] at HS3 hL6 hLN
    rw [← hL]
    have HLL : Hid (L = lst.length) := hL
    clear hL
    go_wp2_with fail
    refine (toArena_any ao N cap f _ (HR.out.below HB3.out) hbig).mono ?_
    rintro e w4 ⟨g4, rfl, hg4, hi4, hl4, hb4⟩
    have hbn := (Below.refl w4.heap.size w4).alloc (Nat.le_refl _) (.cells #[.slice (some ⟨g4, 0, none⟩) N N] 27)
    have HW5 : Hid (Below w.heap.size w (w4.alloc (.cells #[.slice (some ⟨g4, 0, none⟩) N N] 27)) ∧ Ints (w4.alloc (.cells #[.slice (some ⟨g4, 0, none⟩) N N] 27)) g4 0 N f
        ∧ (w4.alloc (.cells #[.slice (some ⟨g4, 0, none⟩) N N] 27)).cell? ⟨w4.heap.size, 0, none⟩ = some (.slice (some ⟨g4, 0, none⟩) N N) ∧ (w4.alloc (.cells #[.slice (some ⟨g4, 0, none⟩) N N] 27)).cell? ⟨w.heap.size, 0, none⟩ = some (.slice ao N cap)
        ∧ Rd (w4.alloc (.cells #[.slice (some ⟨g4, 0, none⟩) N N] 27)) sa L (fun j => (lst.getD j 0 : Nat)) ∧ (w4.alloc (.cells #[.slice (some ⟨g4, 0, none⟩) N N] 27)).heap.size = w4.heap.size + 1 ∧ w3.heap.size ≤ g4 ∧ g4 < w4.heap.size ∧ w.heap.size < w3.heap.size) := by
      have b4 := (hb4.cell (p := ⟨w.heap.size, 0, none⟩) (World.block_lt_of_cell? w3 _ b3)).trans b3
      exact ⟨below_join (below_join HB3.out hb4) hbn, hi4.below hbn hl4, World.cell?_alloc_new w4 _ _ 0, (hbn.cell (p := ⟨w.heap.size, 0, none⟩) (World.block_lt_of_cell? w4 _ b4)).trans b4, (HS3.out.1.below hb4).below hbn, World.size_alloc _ _, hg4, hl4, World.block_lt_of_cell? w3 _ b3⟩
    clear hg4 hi4 hl4 hb4 hbn b3
    go_wp2_with fail
    generalize (w4.alloc (.cells #[.slice (some ⟨g4, 0, none⟩) N N] 27)) = w5 at HW5 ⊢
    generalize w4.heap.size = X at HW5 ⊢
    refine (HIM.out (some ⟨g4, 0, none⟩) N N f w5 HW5.out.2.1.rd hbig (Nat.le_refl _)).mono ?_
    rintro e w6 ⟨v, rfl, hpl, hb6⟩
    have HX6 : Hid (Sx w w6 ao N cap f sa L (fun j => (lst.getD j 0 : Nat)) w3.heap.size g4 X w5.heap.size f v (fun j => (lst.getD j 0 : Nat))) := by
      obtain ⟨k1, k2, k3, k4, k5, k6, k7, k8, k9⟩ := HW5.out
      have hrow := hpl.row
      rw [HLS.out, ← HLL.out] at hrow
      exact ⟨below_join k1 hb6, (hb6.cell (p := ⟨w.heap.size, 0, none⟩) (World.block_lt_of_cell? w5 _ k4)).trans k4, k5.below hb6, HS3.out.2, (hb6.cell (p := ⟨X, 0, none⟩) (World.block_lt_of_cell? w5 _ k3)).trans k3, k2.below hb6 (by omega), hrow, k9, k7, k8, by omega, hb6.size⟩
    clear hpl hb6 HW5 HS3
    generalize w3.heap.size = S1 at HX6 ⊢
    generalize w5.heap.size = S5 at HX6 ⊢
    go_wp2_with fail
    refine (eqRow w6 S5 v sa sc L _ _ HX6.out.im HX6.out.sp (fun _ _ => rfl) hL6).mono ?_
    rintro e w7 ⟨rfl, hb7⟩
    have HX7 : Hid (Sx w w7 ao N cap f sa L (fun j => (lst.getD j 0 : Nat)) S1 g4 X S5 f v (fun j => (lst.getD j 0 : Nat))) := HX6.out.call hb7
    have b7 := HX7.out.box0
    have x7 := HX7.out.xbox
    clear hb7 HX6
    go_wp2_with fail
    go_cut [31] from 27 to 31 (fun v31 wx => v31 = .bool false ∧ Sx w wx ao N cap f sa L (fun j => (lst.getD j 0 : Nat)) S1 g4 X S5 f v (fun j => (lst.getD j 0 : Nat)))
    case first =>
      have K7 : Hid (∀ w8, Below w7.drew.heap.size w7.drew w8 → Sx w w8 ao N cap f sa L (fun j => (lst.getD j 0 : Nat)) S1 g4 X S5 f v (fun j => (lst.getD j 0 : Nat))) := fun w8 h => HX7.out.call (below_undrew h)
      go_region_law (go_simp; go_wp2_with (first
        | (go_at_call 6; refine (toArena_any ao N cap f w7.drew ?_ hbig).mono ?_; exact (HX7.out.rd HR.out).below ((Below.refl _ _).drew); rintro e w8 ⟨g8, rfl, hg8, hi8, hl8, hb8⟩; have HX8 : Hid (Sx w w8 ao N cap f sa L (fun j => (lst.getD j 0 : Nat)) S1 g4 X S5 f v (fun j => (lst.getD j 0 : Nat))) := K7.out w8 hb8; have x8 := HX8.out.xbox; have HI8 : Hid (Rd w8 (some ⟨g8, 0, none⟩) N f ∧ Rd w8 (some ⟨g4, 0, none⟩) N f) := ⟨hi8.rd, HX8.out.xw.rd⟩; clear hg8 hi8 hl8 hb8)
        | (go_at_call 9; refine (eqArena_same (some ⟨g4, 0, none⟩) (some ⟨g8, 0, none⟩) N N N f f w8 HI8.out.2 HI8.out.1 (fun _ _ => rfl) hbig).mono ?_; rintro e w9 ⟨rfl, hb9⟩; have HX9 : Hid (Sx w w9 ao N cap f sa L (fun j => (lst.getD j 0 : Nat)) S1 g4 X S5 f v (fun j => (lst.getD j 0 : Nat))) := HX8.out.call hb9; clear hb9)))
      all_goals
        go_wp2_with fail
        go_meet
        case rel => exact ⟨by simp, HX9.out⟩
    case rest =>
      obtain ⟨rfl, hs⟩ := hcut
      have HXc : Hid (Sx w wc ao N cap f sa L (fun j => (lst.getD j 0 : Nat)) S1 g4 X S5 f v (fun j => (lst.getD j 0 : Nat))) := hs
      have xc := hs.xbox
      clear hs HX7 b7 x7
      go_wp2_with fail
      refine (markArena_any g4 0 N N f wc HXc.out.xw 1 (by decide) hbig (by have := HXc.out.l2; have := HXc.out.l3; have := HXc.out.l4; omega)).mono ?_
      rintro e w10 ⟨rfl, ht10, hi10⟩
      have HX10 : Hid (Sx w w10 ao N cap f sa L (fun j => (lst.getD j 0 : Nat)) S1 g4 X S5 (fun j => 1 + (j : Int)) v (fun j => (lst.getD j 0 : Nat))) := HXc.out.markX ht10 hi10
      clear ht10 hi10 HXc xc
      have hk1 : ¬ (1 + (N : Int)) < 0 := by omega
      have hk2 : ¬ (1 + (L : Int)) < 0 := by omega
      go_wp2_with (first
        | (go_at_call 8; refine (eqRow w10 S5 v sa sc L _ _ HX10.out.im HX10.out.sp (fun _ _ => rfl) hL6).mono ?_; rintro e w11 ⟨rfl, hb11⟩; have HX11 : Hid (Sx w w11 ao N cap f sa L (fun j => (lst.getD j 0 : Nat)) S1 g4 X S5 (fun j => 1 + (j : Int)) v (fun j => (lst.getD j 0 : Nat))) := HX10.out.call hb11; clear hb11 HX10))
      refine (markRow w11 S5 v L _ HX11.out.im 1 (by decide) hL6).mono ?_
      rintro e w12 ⟨rfl, ⟨gb, hgb, ht12⟩, hi12⟩
      have HX12 : Hid (Sx w w12 ao N cap f sa L (fun j => (lst.getD j 0 : Nat)) S1 g4 X S5 (fun j => 1 + (j : Int)) v (fun j => 1 + (j : Int))) := HX11.out.markI hgb ht12 hi12
      clear ht12 hi12 hgb HX11
      have b12 := HX12.out.box0
      go_wp2_with (first
        | (go_at_call 12; refine (heldRow w12 S5 v L 1 HX12.out.im (by decide) hL6).mono ?_; rintro e w12' ⟨rfl, rfl⟩))
      refine (toArena_any ao N cap f _ (HX12.out.rd HR.out) hbig).mono ?_
      rintro e w13 ⟨g13, rfl, hg13, hi13, hl13, hb13⟩
      have HX13 : Hid (Sx w w13 ao N cap f sa L (fun j => (lst.getD j 0 : Nat)) S1 g4 X S5 (fun j => 1 + (j : Int)) v (fun j => 1 + (j : Int))) := HX12.out.call hb13
      have HI13 : Hid (Rd w13 (some ⟨g13, 0, none⟩) N f) := hi13.rd
      clear hg13 hi13 hl13 hb13 HX12 b12
      go_wp2_with fail
      refine (HIM.out (some ⟨g13, 0, none⟩) N N f w13 HI13.out hbig (Nat.le_refl _)).mono ?_
      rintro e w14 ⟨v2, rfl, hpl2, hb14⟩
      have HX14 : Hid (Sx w w14 ao N cap f sa L (fun j => (lst.getD j 0 : Nat)) S1 g4 X S5 (fun j => 1 + (j : Int)) v (fun j => 1 + (j : Int))) := HX13.out.call hb14
      have HR14 : Hid (RowI w14 w13.heap.size v2 L (fun j => (lst.getD j 0 : Nat))) := by
        have hrow := hpl2.row
        rw [HLS.out, ← HLL.out] at hrow
        exact hrow
      clear hpl2 hb14 HX13
      go_wp2_with (first
        | (go_at_call 8; refine (eqRow w14 w13.heap.size v2 sa sc L _ _ HR14.out HX14.out.sp (fun _ _ => rfl) hL6).mono ?_; rintro e w15 ⟨rfl, hb15⟩; have HX15 : Hid (Sx w w15 ao N cap f sa L (fun j => (lst.getD j 0 : Nat)) S1 g4 X S5 (fun j => 1 + (j : Int)) v (fun j => 1 + (j : Int))) := HX14.out.call hb15; clear hb15)
        | (go_at_call 12; refine (heldRow w15 S5 v L 1 HX15.out.im (by decide) hL6).mono ?_; rintro e w16 ⟨rfl, rfl⟩))
      go_ret
      exact ⟨rfl, HX15.out.below⟩
  · have hsz : szI N 1048576 = -1 := by unfold szI; rw [if_pos (by omega)]
    rw [hsz]
    go_wp2_with fail
    go_ret
    exact ⟨rfl, HB1.out⟩
end Go.Proofs.Ytejhfoahpopeoac
