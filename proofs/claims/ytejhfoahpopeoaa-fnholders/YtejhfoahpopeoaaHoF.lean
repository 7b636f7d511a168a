/-
  The law of the holders: its walk.
-/
import Derived.Test.YtejhfoahpopeoaaHoE
import Derived.Test.YtejhfoahpopeoaaSmA
import Derived.Test.YtejhfoahpopeoaaGuB
namespace Go.Proofs.Ytejhfoahpopeoaa
open Go.RowKit
set_option linter.unusedVariables false

/-- What the law has in hand: the arena in the box B, the written one in the box X. -/
structure Hh (w wx : World) (B X g M cc g2 : Nat) (F G : Nat → Int) : Prop where
  below : Below w.heap.size w wx
  ba : wx.cell? ⟨B, 0, none⟩ = some (.slice (some ⟨g, 0, none⟩) M cc)
  bx : wx.cell? ⟨X, 0, none⟩ = some (.slice (some ⟨g2, 0, none⟩) M M)
  ra : Rd wx (some ⟨g, 0, none⟩) M F
  rx : Rd wx (some ⟨g2, 0, none⟩) M G
theorem Hh.call {w wx wy : World} {B X g M cc g2 : Nat} {F G : Nat → Int} (h : Hh w wx B X g M cc g2 F G) (hb : Below wx.heap.size wx wy) : Hh w wy B X g M cc g2 F G :=
  ⟨below_join h.below hb, (hb.cell (p := ⟨B, 0, none⟩) (World.block_lt_of_cell? _ _ h.ba)).trans h.ba, (hb.cell (p := ⟨X, 0, none⟩) (World.block_lt_of_cell? _ _ h.bx)).trans h.bx, h.ra.below hb, h.rx.below hb⟩
theorem Hh.drew {w wx : World} {B X g M cc g2 : Nat} {F G : Nat → Int} (h : Hh w wx B X g M cc g2 F G) : Hh w wx.drew B X g M cc g2 F G := h.call ((Below.refl _ _).drew)

set_option maxHeartbeats 4000000 in
set_option maxRecDepth 100000 in
theorem holders_walk (w : World) (ao : Option Addr) (len cap : Nat) (zs : List Int) (hr : IsRow w ao len cap zs) (hlc : len ≤ cap) (hcm : cap ≤ maxLen) :
    Calls Try.prog 8 #[.slice ao len cap] w fun e w' => e = .returned (.bool true) ∧ Below w.heap.size w w' := by
  have HR : Hid (IsRow w ao len cap zs) := hr
  have HL : Hid (len ≤ maxLen) := Nat.le_trans hlc hcm
  clear hr
  by_cases hbig : 1048576 < len
  · go_enter Try.func8, Try.ntmps8
    go_wp2_with fail
    refine (big_any ao len cap HL.out _).mono ?_
    rintro e w1 ⟨rfl, rfl⟩
    go_wp2_with fail
    go_ret
    exact ⟨rfl, Below.refl _ _⟩
  · go_enter Try.func8, Try.ntmps8
    go_wp2_with fail
    refine (big_any ao len cap HL.out _).mono ?_
    rintro e w1 ⟨rfl, rfl⟩
    go_wp2_with fail
    refine (drawWrite_any _ ao len cap zs HR.out (by omega)).mono ?_
    rintro e w2 ⟨g, M, cc, x, i, v, F, rfl, hM, hcc, hF, hF0, hF1, hpl, hb2⟩
    have hbn := (Below.refl w2.heap.size w2).alloc (Nat.le_refl _) (.cells #[.slice (some ⟨g, 0, none⟩) M cc] 26)
    have HB3 : Hid (Below w1.heap.size w1 (w2.alloc (.cells #[.slice (some ⟨g, 0, none⟩) M cc] 26)) ∧ Rd (w2.alloc (.cells #[.slice (some ⟨g, 0, none⟩) M cc] 26)) (some ⟨g, 0, none⟩) M F ∧ (w2.alloc (.cells #[.slice (some ⟨g, 0, none⟩) M cc] 26)).cell? ⟨w2.heap.size, 0, none⟩ = some (.slice (some ⟨g, 0, none⟩) M cc)) := ⟨below_join hb2 hbn, hF.below hbn, World.cell?_alloc_new w2 _ _ 0⟩
    have HPL : Hid (Plc F M x ∧ 0 ≤ F 1 ∧ F 1 ≤ 1000) := ⟨hpl, hF0, hF1⟩
    clear hb2 hF hbn hbig hlc hcm HR HL hF0 hF1 hpl
    go_wp2_with fail
    generalize (w2.alloc (.cells #[.slice (some ⟨g, 0, none⟩) M cc] 26)) = w3 at HB3 ⊢
    generalize w2.heap.size = B at HB3 ⊢
    refine (implWrite_any (some ⟨g, 0, none⟩) M cc F x i v _ HB3.out.2.1 hM hcc HPL.out.1 HPL.out.2.1 HPL.out.2.2).mono ?_
    rintro e w4 ⟨g2, rfl, hI, hb4⟩
    have hbn := (Below.refl w4.heap.size w4).alloc (Nat.le_refl _) (.cells #[.slice (some ⟨g2, 0, none⟩) M M] 26)
    have hb5 := below_join hb4 hbn
    have HH5 : Hid (Hh w1 (w4.alloc (.cells #[.slice (some ⟨g2, 0, none⟩) M M] 26)) B w4.heap.size g M cc g2 F (wrt F M x i v)) := ⟨below_join HB3.out.1 hb5, (hb5.cell (p := ⟨B, 0, none⟩) (World.block_lt_of_cell? _ _ HB3.out.2.2)).trans HB3.out.2.2, World.cell?_alloc_new w4 _ _ 0, HB3.out.2.1.below hb5, hI.rd.below hbn⟩
    have b5 := HH5.out.ba
    clear hbn hb5 hI hb4 HB3
    go_wp2_with fail
    generalize (w4.alloc (.cells #[.slice (some ⟨g2, 0, none⟩) M M] 26)) = w5 at HH5 b5 ⊢
    generalize w4.heap.size = X at HH5 ⊢
    refine (specWrite_any g 0 M cc F x i v _ HH5.out.ra (by omega)).mono ?_
    rintro e w6 ⟨g3, c3, rfl, hb6⟩
    have HH6 : Hid (Hh w1 (w6.alloc (.cells #[.slice (some ⟨g3, 0, none⟩) M c3] 26)) B X g M cc g2 F (wrt F M x i v)) := (HH5.out.call hb6).call ((Below.refl _ _).alloc (Nat.le_refl _) _)
    clear hb6 b5 HH5
    have ba6 := HH6.out.ba
    have bx6 := HH6.out.bx
    have hc2 : M ≤ 1048576 := by omega
    rcases Bool.eq_false_or_eq_true (hol (blkI F M x) i) with hh | hh
    · obtain ⟨p, n, j, rfl, rfl, hj, hB, hm⟩ := hol_yes HPL.out.1 hM HPL.out.2.1 HPL.out.2.2 hh
      have hG : wrt F M p j v = upd F (p + 2 + j) v := by
        unfold wrt
        rw [if_pos hh]
        have : ((p : Int) + 2 + j).toNat = p + 2 + j := by omega
        rw [this]
      have hfit := (blkO_of hB).fit
      have hbk : bk (upd F (p + 2 + j) v) M 0 = bk F M 0 := write_bk hm hj (fun k hk => upd_other F v hk)
      have hau : aud (upd F (p + 2 + j) v) M 0 false = aud F M 0 false := aud_bk M 0 false (by omega) hbk
      have hm2 : (p, n, true) ∈ bk (upd F (p + 2 + j) v) M 0 := by rw [hbk]; exact hm
      have hB2 : blkO (upd F (p + 2 + j) v) M p = some (n, true) := by
        obtain ⟨q, hs, _⟩ := bk_all (upd F (p + 2 + j) v) M
        exact blkO_some (hs.mem _ hm2).2.2
      have HB2 : Hid (blkO (upd F (p + 2 + j) v) M p = some (n, true) ∧ (p, n, true) ∈ bk (upd F (p + 2 + j) v) M 0 ∧ aud (upd F (p + 2 + j) v) M 0 false = aud F M 0 false) := ⟨hB2, hm2, hau⟩
      rw [hG] at HH6
      rw [hh]
      clear hB hm hbk hau hm2 hB2 hG hh HPL
      have hlt : p + 2 + j < M := by omega
      go_wp2_with fail
      generalize (w6.alloc (.cells #[.slice (some ⟨g3, 0, none⟩) M c3] 26)) = w7 at HH6 ba6 bx6 ⊢
      obtain ⟨b', o', e', hc⟩ := HH6.out.rx (by omega)
      cases e'
      refine (read_yes g2 0 M M (upd F (p + 2 + j) v) p n j w7 hc hc2 (Nat.le_refl _) HB2.out.1 (bk_apart HB2.out.2.1) hj).mono ?_
      rintro e w8 ⟨rfl, hb8⟩
      rw [upd_same]
      have HH8 : Hid (Hh w1 w8 B X g M cc g2 F (upd F (p + 2 + j) v)) := HH6.out.call hb8
      clear hc hb8 HH6 ba6 bx6
      go_wp2_with fail
      go_loopw [13, 14] (fun vn vk wr => ∃ (c m : Nat), m ≤ M ∧ vk = .int .i64 m ∧ vn = .int .i64 c ∧ c ≤ 1 ∧ (m ≤ p + 2 + j → c = 0) ∧ Hh w1 wr B X g M cc g2 F (upd F (p + 2 + j) v)) (fun _ vk _ => M - (intOf vk).toNat)
      case atStart => exact ⟨0, 0, Nat.zero_le _, by simp, by simp, by omega, fun _ => rfl, HH8.out⟩
      case round =>
        obtain ⟨c, m, hm, rfl, rfl, hc1, hc0, hhr⟩ := hrel
        have HHr : Hid (Hh w1 wr B X g M cc g2 F (upd F (p + 2 + j) v)) := hhr
        have HC0 : Hid (m ≤ p + 2 + j → c = 0) := hc0
        have ba := hhr.ba
        have bx := hhr.bx
        clear hc0
        by_cases hmM : m < M
        · obtain ⟨b1, o1, e1, k1⟩ := hhr.ra (by omega)
          cases e1
          obtain ⟨b2, o2, e2, k2⟩ := hhr.rx (by omega)
          cases e2
          have q1 := k1 m hmM
          have q2 := k2 m hmM
          rw [Nat.zero_add] at q1 q2
          clear k1 k2 hhr
          by_cases heq : F m = upd F (p + 2 + j) v m
          · rw [← heq] at q2
            have HE : Hid (F m = upd F (p + 2 + j) v m) := heq
            clear heq
            generalize F m = y at q1 q2
            go_wp2_with fail
            go_quiet (fail)
            go_wp2_with fail
            go_roundw
            case rel => exact ⟨c, m + 1, by omega, by go_num, rfl, hc1, fun h => HC0.out (by omega), HHr.out.call (below_drewN (Below.refl _ _) _)⟩
            case measure => simp [intOf]; omega
          · have hmp : m = p + 2 + j := by
              by_cases h : m = p + 2 + j
              · exact h
              · exact absurd (upd_other F v h).symm heq
            have HMP : Hid (m = p + 2 + j) := hmp
            have hc00 : c = 0 := HC0.out (by omega)
            subst hc00
            generalize upd F (p + 2 + j) v m = y2 at q2 heq
            generalize F m = y at q1 heq
            have hq : (y != y2) = true := by simpa using heq
            clear hmp
            go_wp2_with fail
            go_quiet (fail)
            go_wp2_with fail
            go_roundw
            case rel => exact ⟨1, m + 1, by omega, by go_num, by simp, Nat.le_refl _, fun h => by have := HMP.out; omega, HHr.out.call (below_drewN (Below.refl _ _) _)⟩
            case measure => simp [intOf]; omega
        · have hA : ∀ (b c : Nat), ((b = g2 ∧ c = M) ∨ (b = g ∧ c = cc)) → ∀ x : Inn wr, Calls Try.prog 11 #[.agg #[.slice (some ⟨b, 0, none⟩) M c]] x.val fun e w' => e = .returned (.int .i64 (aud F M 0 false)) ∧ Below x.val.heap.size x.val w' := fun b c h x => by
            rcases h with ⟨rfl, rfl⟩ | ⟨rfl, rfl⟩
            · have := implAudit_any (some ⟨b, 0, none⟩) c c (upd F (p + 2 + j) v) x.val (hhr.rx.below x.bel) hc2 (Nat.le_refl _)
              rw [HB2.out.2.2] at this
              exact this
            · exact implAudit_any (some ⟨b, 0, none⟩) M c F x.val (hhr.ra.below x.bel) hc2 hcc
          have HA : Hid (∀ (b c : Nat), ((b = g2 ∧ c = M) ∨ (b = g ∧ c = cc)) → ∀ x : Inn wr, Calls Try.prog 11 #[.agg #[.slice (some ⟨b, 0, none⟩) M c]] x.val fun e w' => e = .returned (.int .i64 (aud F M 0 false)) ∧ Below x.val.heap.size x.val w') := hA
          have V1 : (c : Int) ≤ 1 := by omega
          have ka := Inn.keep ba
          have kx := Inn.keep bx
          haveI := inn_ne wr
          clear hA hhr
          generalize aud F M 0 false = A at HA
          go_wp2_with fail
          refine wp_region_inn ?_ ?_ ?_
          · kernel_rfl
          · kernel_rfl
          repeat (go_big_quiet_step (first
            | (go_at_call 11; exact calls_inn (HA.out _ _ (by first | exact .inl ⟨rfl, rfl⟩ | exact .inr ⟨rfl, rfl⟩) _))))
          refine wpQuiet_nil ?_
          rintro w5 ⟨x5, h5⟩
          have HB5 : Hid (Below w1.heap.size w1 w5) := below_join HHr.out.below (by rw [h5]; exact x5.bel)
          clear h5 x5
          go_wp2_with fail
          go_ret
          exact ⟨rfl, HB5.out⟩
    · have hG : wrt F M x i v = F := by
        unfold wrt
        rw [if_neg (by rw [hh]; simp)]
      rw [hG] at HH6
      rw [hh]
      clear hG hh HPL
      go_wp2_with (go_at_call 23; refine (sameInts_same (some ⟨g2, 0, none⟩) (some ⟨g, 0, none⟩) M M cc F F _ HH6.out.rx HH6.out.ra (fun _ _ => rfl) hc2).mono ?_; rintro e w8 ⟨rfl, hb8⟩; have HH8 : Hid (Below w1.heap.size w1 w8) := below_join HH6.out.below hb8; clear hb8)
      go_ret
      exact ⟨rfl, HH8.out⟩
end Go.Proofs.Ytejhfoahpopeoaa
