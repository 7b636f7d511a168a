/-
  The law of the totals of a drawn arena.
-/
import Derived.Test.YtejhfoahpopeoabDaA
import Derived.Test.YtejhfoahpopeoabUkA
import Derived.Test.YtejhfoahpopeoabFwA
namespace Go.Proofs.Ytejhfoahpopeoab
open Go.RowKit
set_option linter.unusedVariables false

/-- What a law over a drawn arena has in hand: the arena in its box, the places of all blocks and of the used ones. -/
structure Lt (w1 wx : World) (B g M cc : Nat) (F : Nat → Int) (la : Option Addr) (L : Nat) (h : Nat → Int) (ua : Option Addr) (U : Nat) (hu : Nat → Int) : Prop where
  below : Below w1.heap.size w1 wx
  box : wx.cell? ⟨B, 0, none⟩ = some (.slice (some ⟨g, 0, none⟩) M cc)
  rd : Rd wx (some ⟨g, 0, none⟩) M F
  list : Rd wx la L h
  used : Rd wx ua U hu
theorem Lt.call {w1 wx wy : World} {B g M cc : Nat} {F : Nat → Int} {la : Option Addr} {L : Nat} {h : Nat → Int} {ua : Option Addr} {U : Nat} {hu : Nat → Int} (s : Lt w1 wx B g M cc F la L h ua U hu) (hb : Below wx.heap.size wx wy) : Lt w1 wy B g M cc F la L h ua U hu :=
  ⟨below_join s.below hb, (hb.cell (p := ⟨B, 0, none⟩) (World.block_lt_of_cell? wx _ s.box)).trans s.box, s.rd.below hb, s.list.below hb, s.used.below hb⟩

set_option maxHeartbeats 8000000 in
set_option maxRecDepth 100000 in
theorem totals_walk (w : World) (ao : Option Addr) (len cap : Nat) (zs : List Int) (hr : IsRow w ao len cap zs) (hlc : len ≤ cap) (hcm : cap ≤ maxLen) :
    Calls Try.prog 4 #[.slice ao len cap] w fun e w' => e = .returned (.bool true) ∧ Below w.heap.size w w' := by
  have HR : Hid (IsRow w ao len cap zs) := hr
  have HL : Hid (len ≤ maxLen) := Nat.le_trans hlc hcm
  clear hr
  by_cases hbig : 1048576 < len
  · go_enter Try.func4, Try.ntmps4
    go_wp2_with fail
    refine (big_any ao len cap HL.out _).mono ?_
    rintro e w1 ⟨rfl, rfl⟩
    go_wp2_with fail
    go_ret
    exact ⟨rfl, Below.refl _ _⟩
  · go_enter Try.func4, Try.ntmps4
    go_wp2_with fail
    refine (big_any ao len cap HL.out _).mono ?_
    rintro e w1 ⟨rfl, rfl⟩
    go_wp2_with fail
    refine (drawArena_any _ ao len cap zs HR.out (by omega)).mono ?_
    rintro e w2 ⟨g, M, cc, rfl, hM1, hM, hcc, ⟨F, hF⟩, hg, hb2⟩
    have hbn := (Below.refl w2.heap.size w2).alloc (Nat.le_refl _) (.cells #[.slice (some ⟨g, 0, none⟩) M cc] 26)
    have HB3 : Hid (Below w1.heap.size w1 (w2.alloc (.cells #[.slice (some ⟨g, 0, none⟩) M cc] 26))) := below_join hb2 hbn
    have HR3 : Hid (Rd (w2.alloc (.cells #[.slice (some ⟨g, 0, none⟩) M cc] 26)) (some ⟨g, 0, none⟩) M F) := hF.rd.below hbn
    have HX3 : Hid ((w2.alloc (.cells #[.slice (some ⟨g, 0, none⟩) M cc] 26)).cell? ⟨w2.heap.size, 0, none⟩ = some (.slice (some ⟨g, 0, none⟩) M cc)) := World.cell?_alloc_new w2 _ _ 0
    have HW : Hid (Whole F M) := hF.whole
    clear hb2 hF hbn hbig hlc hcm HR HL
    go_wp2_with fail
    generalize (w2.alloc (.cells #[.slice (some ⟨g, 0, none⟩) M cc] 26)) = w3 at HB3 HR3 HX3 ⊢
    generalize w2.heap.size = B at HX3 ⊢
    have hc2 : M ≤ 1048576 := by omega
    refine (implBlocks_any (some ⟨g, 0, none⟩) M cc F _ HR3.out hc2 hcc).mono ?_
    rintro e w4 ⟨v, rfl, hpl, hb4⟩
    obtain ⟨la, lc, rfl, hl1, hl2, hl3, hrl⟩ := hpl.slice
    have x4 := (hb4.cell (p := ⟨B, 0, none⟩) (World.block_lt_of_cell? w3 _ HX3.out)).trans HX3.out
    have HB4 : Hid (Below w1.heap.size w1 w4 ∧ Rd w4 (some ⟨g, 0, none⟩) M F ∧ Rd w4 la (bls F M 0).length (fun j => ((bls F M 0).getD j 0 : Nat))) := ⟨below_join HB3.out hb4, HR3.out.below hb4, hrl⟩
    clear hpl hb4 hl1 hl2 hl3 hrl HB3 HR3 HX3
    go_wp2_with fail
    refine (implUsed_any (some ⟨g, 0, none⟩) M cc F _ HB4.out.2.1 hc2 hcc).mono ?_
    rintro e w5 ⟨v, rfl, hpl, hb5⟩
    obtain ⟨ua, uc, rfl, hl1, hl2, hl3, hru⟩ := hpl.slice
    have HS5 : Hid (Lt w1 w5 B g M cc F la (bls F M 0).length (fun j => ((bls F M 0).getD j 0 : Nat)) ua (usd (bk F M 0)).length (fun j => ((usd (bk F M 0)).getD j 0 : Nat))) :=
      ⟨below_join HB4.out.1 hb5, (hb5.cell (p := ⟨B, 0, none⟩) (World.block_lt_of_cell? w4 _ x4)).trans x4, HB4.out.2.1.below hb5, HB4.out.2.2.below hb5, hru⟩
    have x5 := HS5.out.box
    clear hpl hb5 hl1 hl2 hl3 hru HB4 x4
    have hL4 := bk_len4 F M
    have hUL := usd_len (bk F M 0)
    have HLL : Hid ((bls F M 0).length = (bk F M 0).length) := bk_len F M
    have HUU : Hid ((usd (bk F M 0)).length = (ub (bk F M 0)).length) := ub_len _
    have hTot := seg_sum (whole_iff.1 HW.out).1
    have HNU : Hid (∀ m, m < (usd (bk F M 0)).length → ∃ p n, (usd (bk F M 0)).getD m 0 = p ∧ (p, n, true) ∈ bk F M 0 ∧ blkO F M p = some (n, true) ∧ fsum ((ub (bk F M 0)).take (m + 1)) = fsum ((ub (bk F M 0)).take m) + n ∧ n ≤ 4000 ∧ p + n + 3 ≤ M) := fun m hm => ub_nth F M m (by rw [← ub_len]; exact hm)
    have HIN : Hid (∀ p n u, (p, n, u) ∈ bk F M 0 → ∃ j, j < (bls F M 0).length ∧ (((bls F M 0).getD j 0 : Nat) : Int) = (p : Int)) := fun p n u hm => by
      obtain ⟨j, hj, e⟩ := List.mem_iff_getElem.1 hm
      refine ⟨j, by rw [bk_len]; exact hj, ?_⟩
      rw [bls_is, List.getD_eq_getElem?_getD, List.getElem?_map, List.getElem?_eq_getElem hj, e]; rfl
    rw [HLL.out] at HS5 HIN ⊢
    obtain ⟨L, hL⟩ : ∃ L, L = (bk F M 0).length := ⟨_, rfl⟩
    obtain ⟨U, hU⟩ : ∃ U, U = (usd (bk F M 0)).length := ⟨_, rfl⟩
    have HUE : Hid (U = (ub (bk F M 0)).length) := hU.trans HUU.out
    rw [← hL] at HS5 HIN hL4 hUL hTot ⊢
    rw [← hU] at HS5 HNU hUL ⊢
    have hFK : (bk F M 0).filter isFree = fk F M := rfl
    rw [hFK] at hTot
    obtain ⟨S, hS⟩ : ∃ S, S = fsum (fk F M) := ⟨_, rfl⟩
    have HSE : Hid (S = fsum (fk F M)) := hS
    rw [← hS] at hTot
    obtain ⟨T, hT⟩ : ∃ T, T = fsum (ub (bk F M 0)) := ⟨_, rfl⟩
    have HTE : Hid (T = fsum (ub (bk F M 0))) := hT
    rw [← hT] at hTot
    clear HLL HUU hL hU hFK hS hT
    go_wp2_with fail
    refine (implFree_any (some ⟨g, 0, none⟩) M cc F _ HS5.out.rd hc2 hcc).mono ?_
    rintro e w6 ⟨rfl, hb6⟩
    rw [← HSE.out]
    have HS6 : Hid (Lt w1 w6 B g M cc F la L (fun j => ((bls F M 0).getD j 0 : Nat)) ua U (fun j => ((usd (bk F M 0)).getD j 0 : Nat))) := HS5.out.call hb6
    clear hb6 HS5 x5
    generalize bls F M 0 = bs at *
    generalize usd (bk F M 0) = us at *
    obtain ⟨UB, hUB⟩ : ∃ UB, UB = ub (bk F M 0) := ⟨_, rfl⟩
    rw [← hUB] at HNU HTE HUE
    clear hUB
    go_wp2_with fail
    go_loopw [6, 7] (fun vs vi wr => ∃ m : Nat, m ≤ U ∧ vi = .int .i64 m ∧ vs = .int .i64 (S + 3 * L + fsum (UB.take m) : Nat) ∧ fsum (UB.take m) ≤ m * 4000 ∧ Lt w1 wr B g M cc F la L (fun j => (bs.getD j 0 : Nat)) ua U (fun j => (us.getD j 0 : Nat))) (fun _ vi _ => U - (intOf vi).toNat)
    case atStart => exact ⟨0, Nat.zero_le _, rfl, by simp [fsum], by simp [fsum], HS6.out⟩
    case round =>
      obtain ⟨m, hm, rfl, rfl, hsm, hs⟩ := hrel
      have HSr : Hid (Lt w1 wr B g M cc F la L (fun j => (bs.getD j 0 : Nat)) ua U (fun j => (us.getD j 0 : Nat))) := hs
      have b0 := hs.box
      by_cases hlt : m < U
      · obtain ⟨p, n, hp, hmem, hB, hfs, hn4, hfit⟩ := HNU.out m hlt
        obtain ⟨lb, lo, rfl, hcl⟩ := hs.used (by omega)
        have cm : wr.cell? ⟨lb, lo + m, none⟩ = some (.int .i64 p) := by have := hcl m hlt; rw [← hp]; exact this
        have HHAS : Hid (∃ j, j < L ∧ ((bs.getD j 0 : Nat) : Int) = (p : Int)) := HIN.out p n true hmem
        have HFS : Hid (fsum (UB.take (m + 1)) = fsum (UB.take m) + n) := hfs
        have HA : Hid (∀ x : Inn wr, Calls Try.prog 14 #[.agg #[.slice (some ⟨g, 0, none⟩) M cc], .int .i64 p] x.val fun e w' => e = .returned (bv (some (n, true))) ∧ Below x.val.heap.size x.val w') := fun x => by
          have := implAt_any (some ⟨g, 0, none⟩) M cc F p x.val (HSr.out.rd.below x.bel) hc2 hcc
          rw [hB] at this
          exact this
        dsimp only [bv] at HA
        have k0 := Inn.keep b0
        have k1 := Inn.keep cm
        haveI := inn_ne wr
        obtain ⟨s, hs'⟩ : ∃ s, s = fsum (UB.take m) := ⟨_, rfl⟩
        have HSS : Hid (s = fsum (UB.take m)) := hs'
        rw [← hs'] at hsm ⊢
        clear hs hcl hp hmem hB hfs hs'
        go_wp2_with fail
        refine wp_region_inn ?_ ?_ ?_
        · kernel_rfl
        · kernel_rfl
        repeat (go_big_quiet_step (first
          | (go_at_call 14; exact calls_inn (HA.out _))))
        refine wpQuiet_nil ?_
        rintro w7 ⟨x7, h7⟩
        have hb7 : Below wr.heap.size wr w7 := by rw [h7]; exact x7.bel
        have HS7 : Hid (Lt w1 w7 B g M cc F la L (fun j => (bs.getD j 0 : Nat)) (some ⟨lb, lo, none⟩) U (fun j => (us.getD j 0 : Nat))) := HSr.out.call hb7
        have c7 := (hb7.cell (p := ⟨lb, lo + m, none⟩) (World.block_lt_of_cell? wr _ cm)).trans cm
        clear h7 x7 hb7 k0 k1 HA cm b0
        have hLb : L ≤ 1048576 := by omega
        go_wp2_with (go_at_call 21; refine (has_yes la L lc (fun j => (bs.getD j 0 : Nat)) p w7 HS7.out.list hLb HHAS.out).mono ?_; rintro e w8 ⟨rfl, rfl⟩)
        go_roundw
        case rel => exact ⟨m + 1, by omega, by go_num, by rw [HFS.out, ← HSS.out]; go_num, by rw [HFS.out, ← HSS.out]; omega, HS7.out⟩
        case measure => simp [intOf]; omega
      · have hme : m = U := by omega
        have hUBm : fsum (UB.take m) = T := by rw [HTE.out, List.take_of_length_le (by have := HUE.out; omega)]
        rw [hUBm] at hsm ⊢
        have HA : Hid (∀ x : Inn wr, Calls Try.prog 20 #[.agg #[.slice (some ⟨g, 0, none⟩) M cc]] x.val fun e w' => e = .returned (.int .i64 (S : Nat)) ∧ Below x.val.heap.size x.val w') := fun x => by
          have := implFree_any (some ⟨g, 0, none⟩) M cc F x.val (HSr.out.rd.below x.bel) hc2 hcc
          rw [← HSE.out] at this
          exact this
        have HA2 : Hid (∀ x : Inn wr, Calls Try.prog 22 #[.agg #[.slice (some ⟨g, 0, none⟩) M cc]] x.val fun e w' => e = .returned (.int .i64 (S : Nat)) ∧ Below x.val.heap.size x.val w') := fun x => by
          have := specFree_any (some ⟨g, 0, none⟩) M cc F x.val (HSr.out.rd.below x.bel) hc2
          rw [← HSE.out] at this
          exact this
        have k0 := Inn.keep b0
        haveI := inn_ne wr
        have htot : S + 3 * L + T = M := by omega
        have hUL' : U ≤ L := by omega
        clear hs hUBm hme hTot
        rw [htot]
        go_wp2_with fail
        refine wp_region_inn ?_ ?_ ?_
        · kernel_rfl
        · kernel_rfl
        repeat (go_big_quiet_step (first
          | (go_at_call 20; exact calls_inn (HA.out _))
          | (go_at_call 22; exact calls_inn (HA2.out _))))
        refine wpQuiet_nil ?_
        rintro w7 ⟨x7, h7⟩
        have hb7 : Below wr.heap.size wr w7 := by rw [h7]; exact x7.bel
        have HB7 : Hid (Below w1.heap.size w1 w7) := below_join HSr.out.below hb7
        clear h7 x7 hb7 k0 HA HA2 b0
        go_wp2_with fail
        go_ret
        exact ⟨by simp, HB7.out⟩
end Go.Proofs.Ytejhfoahpopeoab
