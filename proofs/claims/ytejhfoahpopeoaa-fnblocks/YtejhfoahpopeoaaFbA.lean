/-
  The law of the blocks of a drawn arena.
-/
import Derived.Test.YtejhfoahpopeoaaDwB
import Derived.Test.YtejhfoahpopeoaaGuB
namespace Go.Proofs.Ytejhfoahpopeoaa
open Go.RowKit
set_option linter.unusedVariables false

set_option maxHeartbeats 1000000 in
theorem sameInts_same (ao bo : Option Addr) (N ca cb : Nat) (f g : Nat → Int) (w : World) (ha : Rd w ao N f) (hb : Rd w bo N g) (he : ∀ j, j < N → f j = g j) (hN : N ≤ 1048576) :
    Calls Try.prog 23 #[.slice ao N ca, .slice bo N cb] w fun e w' => e = .returned (.bool true) ∧ Below w.heap.size w w' := by
  have HA : Hid (Rd w ao N f) := ha
  have HB : Hid (Rd w bo N g) := hb
  have HE : Hid (∀ j, j < N → f j = g j) := he
  clear ha hb he
  go_enter Try.func23, Try.ntmps23
  go_wp2_with fail
  go_loopw [5] (fun i w' => ∃ m : Nat, m ≤ N ∧ i = .int .i64 m ∧ Below w.heap.size w w') (fun i _ => N - (intOf i).toNat)
  case atStart => exact ⟨0, Nat.zero_le _, by simp, Below.refl _ _⟩
  case round =>
    obtain ⟨m, hm, rfl, hbl⟩ := hrel
    have HBL : Hid (Below w.heap.size w wr) := hbl
    by_cases hlt : m < N
    · obtain ⟨b1, o1, rfl, c1⟩ := HA.out.below hbl (by omega)
      obtain ⟨b2, o2, rfl, c2⟩ := HB.out.below hbl (by omega)
      have q1 := c1 m hlt
      have q2 := c2 m hlt
      rw [HE.out m hlt] at q1
      clear c1 c2 hbl
      generalize g m = x at *
      go_wp2_with fail
      go_quiet (fail)
      go_wp2_with fail
      go_roundw
      case rel => exact ⟨m + 1, by omega, by go_num, by first | exact HBL.out.drew | exact below_drewN HBL.out _⟩
      case measure => simp [intOf]; omega
    · clear hbl
      go_wp2_with fail
      go_ret
      exact ⟨rfl, HBL.out⟩


set_option maxHeartbeats 1000000 in
set_option maxRecDepth 100000 in
theorem drawBlocks_any (w : World) (ao : Option Addr) (len cap : Nat) (zs : List Int) (hr : IsRow w ao len cap zs) (hsm : len ≤ 1048576) :
    Calls Try.prog 22 #[.slice ao len cap] w fun e w' => ∃ g M cc, e = .returned (.agg #[.slice (some ⟨g, 0, none⟩) M cc]) ∧ M ≤ 80 ∧ M ≤ cc ∧ (∃ F, Rd w' (some ⟨g, 0, none⟩) M F) ∧ Below w.heap.size w w' := by
  have HR : Hid (IsRow w ao len cap zs) := hr
  clear hr
  go_enter Try.func22, Try.ntmps22
  go_wp2_with fail
  have hb0 := (Below.refl w.heap.size w).alloc (Nat.le_refl _) (.cells #[.slice none 0 0] 26)
  refine (new_any _ ao len cap zs (HR.out.below hb0) hsm).mono ?_
  rintro e w1 ⟨rfl, hc1, hb1, hz1⟩
  have hz : (w.alloc (.cells #[.slice none 0 0] 26)).heap.size = w.heap.size + 1 := World.size_alloc _ _
  have q1 : w1.cell? ⟨w.heap.size, 0, none⟩ = some (.slice none 0 0) := (hb1.cell (p := ⟨w.heap.size, 0, none⟩) (by rw [hz]; exact Nat.lt_succ_self _)).trans (World.cell?_alloc_new w _ _ 0)
  have f1 : w1.frozen? ⟨w.heap.size, 0, none⟩ = false := (hb1.frozen (p := ⟨w.heap.size, 0, none⟩) (by rw [hz]; exact Nat.lt_succ_self _)).trans (World.frozen?_alloc_new w _ _ 0)
  have HC1 : Hid (Cur (w.heap.size + 1) ao len cap zs w1) := by rw [hz] at hc1; exact hc1
  have HB1 : Hid (Below w.heap.size w w1 ∧ w1.heap.size = w.heap.size + 2) := ⟨hb0.trans (hb1.mono (by omega)), by omega⟩
  clear hb0 hb1 hc1 hz1 hz
  go_wp2_with fail
  refine (l2Any_any (w.heap.size + 1) ao len cap zs _ HC1.out (by have := HB1.out.2; omega)).mono ?_
  rintro e w2 ⟨g, M, cc, rfl, hM, hcc, hg, ⟨F, hF⟩, hd2⟩
  have hs1 := HB1.out.2
  have q2 := hd2.2.cell (by omega) q1
  have f2 : w2.frozen? ⟨w.heap.size, 0, none⟩ = false := (hd2.2.frozen (b := w.heap.size) (o := 0) (by omega) (by omega)).trans f1
  have HB2 : Hid (Below w.heap.size w w2) := Turn.below HB1.out.1 (by omega) hd2.2 (by omega)
  have HF2 : Hid (Ints w2 g 0 M F) := hF
  have HG2 : Hid (w1.heap.size ≤ g) := hg
  clear hd2 hF hg q1 f1
  go_wp2_with fail
  refine bodyPost_ret (v := .agg #[.slice (some ⟨g, 0, none⟩) M cc]) (by simp [results, Try.results22, go_sem, q2]) rfl ⟨g, M, cc, rfl, hM, hcc, ⟨F, fun _ => ⟨g, 0, rfl, fun j hj => ((Turn.refl w.heap.size _).set 0 _).cell (by have := HG2.out; omega) (HF2.out.cell j hj)⟩⟩, HB2.out.setCell (Nat.le_refl _) _⟩

theorem specBlocksL (ao : Option Addr) (N cap : Nat) (f : Nat → Int) (w : World) (L : Nat) (hL : L = (bls f N 0).length) (hr : Rd w ao N f) (hN : N ≤ 1048576) :
    Calls Try.prog 24 #[.agg #[.slice ao N cap]] w fun e w' => ∃ sa sc, e = .returned (.slice sa L sc) ∧ Rd w' sa L (fun j => ((bls f N 0).getD j 0 : Nat)) ∧ Below w.heap.size w w' := by
  refine (specBlocks_any ao N cap f w hr hN).mono ?_
  rintro e w' ⟨v, rfl, hpl, hb⟩
  obtain ⟨sa, sc, rfl, _, _, _, hrl⟩ := hpl.slice
  rw [← hL] at hrl ⊢
  exact ⟨sa, sc, rfl, hrl, hb⟩
/-- What the law reads, in whatever world behind w4. -/
structure Lw (w4 wx : World) (B g M cc : Nat) (F : Nat → Int) (la : Option Addr) (L : Nat) (h : Nat → Int) : Prop where
  below : Below w4.heap.size w4 wx
  box : wx.cell? ⟨B, 0, none⟩ = some (.slice (some ⟨g, 0, none⟩) M cc)
  rd : Rd wx (some ⟨g, 0, none⟩) M F
  list : Rd wx la L h
theorem Lw.call {w4 wx wy : World} {B g M cc : Nat} {F : Nat → Int} {la : Option Addr} {L : Nat} {h : Nat → Int} (s : Lw w4 wx B g M cc F la L h) (hb : Below wx.heap.size wx wy) : Lw w4 wy B g M cc F la L h :=
  ⟨below_join s.below hb, (hb.cell (p := ⟨B, 0, none⟩) (World.block_lt_of_cell? wx _ s.box)).trans s.box, s.rd.below hb, s.list.below hb⟩
theorem Lw.drew {w4 wx : World} {B g M cc : Nat} {F : Nat → Int} {la : Option Addr} {L : Nat} {h : Nat → Int} (s : Lw w4 wx B g M cc F la L h) : Lw w4 wx.drew B g M cc F la L h := s.call ((Below.refl _ _).drew)

/-- Along the blocks from 0 on: the places that are left, and an audit that finds nothing. -/
structure Walk (f : Nat → Int) (N p i : Nat) : Prop where
  le : p ≤ N
  rest : bls f N p = (bls f N 0).drop i
  aud : aud f N 0 false = -1 → ∃ fr, aud f N p fr = -1
theorem Walk.start (f : Nat → Int) (N : Nat) : Walk f N 0 0 := ⟨Nat.zero_le _, rfl, fun h => ⟨false, h⟩⟩
theorem Walk.here {f : Nat → Int} {N p i : Nat} (h : Walk f N p i) (hi : i < (bls f N 0).length) : ∃ n u, blkO f N p = some (n, u) ∧ (bls f N 0).getD i 0 = p ∧ Walk f N (p + n + 3) (i + 1) := by
  cases hB : blkO f N p with
  | none =>
    have := h.rest
    rw [bls_nil hB] at this
    have := congrArg List.length this
    rw [List.length_drop] at this
    simp at this
    omega
  | some x =>
    obtain ⟨n, u⟩ := x
    have hr := h.rest
    rw [bls_cons hB, List.drop_eq_getElem_cons hi] at hr
    injection hr with e1 e2
    have hf := (blkO_of hB).fit
    refine ⟨n, u, rfl, ?_, by omega, e2, fun ha => ?_⟩
    · rw [List.getD_eq_getElem?_getD, List.getElem?_eq_getElem hi]; exact e1.symm
    · obtain ⟨fr, hfr⟩ := h.aud ha
      have hp : p < N := by omega
      cases hk : (fr && !u) with
      | true =>
        exfalso
        have h1 : fr = true := by cases fr <;> simp_all
        have h2 : u = false := by cases u <;> simp_all
        subst h1 h2
        rw [aud_two hp hB] at hfr
        omega
      | false => exact ⟨!u, by rw [← aud_on hp hB hk]; exact hfr⟩
theorem Walk.fin {f : Nat → Int} {N p i : Nat} (h : Walk f N p i) (hi : ¬ i < (bls f N 0).length) (ha : Go.Proofs.Ytejhfoahpopeoaa.aud f N 0 false = -1) : p = N := by
  have hr := h.rest
  rw [List.drop_eq_nil_of_le (by omega)] at hr
  obtain ⟨fr, hfr⟩ := h.aud ha
  have hl := h.le
  by_cases hp : p < N
  · exfalso
    cases hB : blkO f N p with
    | none => rw [aud_none hp hB] at hfr; omega
    | some x => rw [bls_cons (n := x.1) (u := x.2) hB] at hr; cases hr
  · omega

set_option maxHeartbeats 8000000 in
set_option maxRecDepth 100000 in
theorem blocks_walk (w : World) (ao : Option Addr) (len cap : Nat) (zs : List Int) (hr : IsRow w ao len cap zs) (hlc : len ≤ cap) (hcm : cap ≤ maxLen) :
    Calls Try.prog 5 #[.slice ao len cap] w fun e w' => e = .returned (.bool true) ∧ Below w.heap.size w w' := by
  have HR : Hid (IsRow w ao len cap zs) := hr
  have HL : Hid (len ≤ maxLen) := Nat.le_trans hlc hcm
  clear hr
  by_cases hbig : 1048576 < len
  · go_enter Try.func5, Try.ntmps5
    go_wp2_with fail
    refine (big_any ao len cap HL.out _).mono ?_
    rintro e w1 ⟨rfl, rfl⟩
    go_wp2_with fail
    go_ret
    exact ⟨rfl, Below.refl _ _⟩
  · go_enter Try.func5, Try.ntmps5
    go_wp2_with fail
    refine (big_any ao len cap HL.out _).mono ?_
    rintro e w1 ⟨rfl, rfl⟩
    go_wp2_with fail
    refine (drawBlocks_any _ ao len cap zs HR.out (by omega)).mono ?_
    rintro e w2 ⟨g, M, cc, rfl, hM, hcc, ⟨F, hF⟩, hb2⟩
    have hbn := (Below.refl w2.heap.size w2).alloc (Nat.le_refl _) (.cells #[.slice (some ⟨g, 0, none⟩) M cc] 26)
    have HB3 : Hid (Below w1.heap.size w1 (w2.alloc (.cells #[.slice (some ⟨g, 0, none⟩) M cc] 26))) := below_join hb2 hbn
    have HR3 : Hid (Rd (w2.alloc (.cells #[.slice (some ⟨g, 0, none⟩) M cc] 26)) (some ⟨g, 0, none⟩) M F) := hF.below hbn
    have HX3 : Hid ((w2.alloc (.cells #[.slice (some ⟨g, 0, none⟩) M cc] 26)).cell? ⟨w2.heap.size, 0, none⟩ = some (.slice (some ⟨g, 0, none⟩) M cc)) := World.cell?_alloc_new w2 _ _ 0
    clear hb2 hF hbn hbig hlc hcm HR HL
    go_wp2_with fail
    generalize (w2.alloc (.cells #[.slice (some ⟨g, 0, none⟩) M cc] 26)) = w3 at HB3 HR3 HX3 ⊢
    generalize w2.heap.size = B at HX3 ⊢
    refine (implBlocks_any (some ⟨g, 0, none⟩) M cc F _ HR3.out (by omega) hcc).mono ?_
    rintro e w4 ⟨v, rfl, hpl, hb4⟩
    obtain ⟨la, lc, rfl, hl1, hl2, hl3, hrl⟩ := hpl.slice
    have hlen := bls_len F M
    have x4 := (hb4.cell (p := ⟨B, 0, none⟩) (World.block_lt_of_cell? w3 _ HX3.out)).trans HX3.out
    have HB4 : Hid (Below w1.heap.size w1 w4) := below_join HB3.out hb4
    have HR4 : Hid (Rd w4 (some ⟨g, 0, none⟩) M F) := HR3.out.below hb4
    have HL4 : Hid (Rd w4 la (bls F M 0).length (fun j => ((bls F M 0).getD j 0 : Nat))) := hrl
    clear hpl hb4 hl1 hl2 hl3 hrl HB3 HR3 HX3
    obtain ⟨L, hL⟩ : ∃ L, L = (bls F M 0).length := ⟨_, rfl⟩
    have HLL : Hid (L = (bls F M 0).length) := hL
    rw [← hL] at HL4 hlen
    rw [← hL]
    clear hL
    have hc1 : L ≤ 1048576 := by omega
    have hc2 : M ≤ 1048576 := by omega
    have hc3 : M ≤ 4000 := by omega
    have HLW : Hid (Lw w4 w4 B g M cc F la L (fun j => ((bls F M 0).getD j 0 : Nat))) := ⟨Below.refl _ _, x4, HR4.out, HL4.out⟩
    clear HR4 HL4
    go_wp2_with fail
    go_cut [27] from 16 to 26 (fun v wx => v = .bool false ∧ Lw w4 wx B g M cc F la L (fun j => ((bls F M 0).getD j 0 : Nat)))
    case first =>
      go_region_law (go_simp; go_wp2_with (first
        | (go_at_call 24; refine (specBlocksL (some ⟨g, 0, none⟩) M cc F _ L HLL.out ?_ hc2).mono ?_; exact HLW.out.drew.rd; rintro e w5 ⟨sa, sc, rfl, hrs, hb5⟩; have HL5 : Hid (Lw w4 w5 B g M cc F la L (fun j => ((bls F M 0).getD j 0 : Nat))) := HLW.out.drew.call hb5; have HS5 : Hid (Rd w5 sa L (fun j => ((bls F M 0).getD j 0 : Nat))) := hrs; have x5 := HL5.out.box; clear hrs hb5)
        | (go_at_call 23; refine (sameInts_same la sa L lc sc (fun j => ((bls F M 0).getD j 0 : Nat)) (fun j => ((bls F M 0).getD j 0 : Nat)) w5 HL5.out.list HS5.out (fun _ _ => rfl) hc1).mono ?_; rintro e w6 ⟨rfl, hb6⟩; have HL6 : Hid (Lw w4 w6 B g M cc F la L (fun j => ((bls F M 0).getD j 0 : Nat))) := HL5.out.call hb6; have x6 := HL6.out.box; clear hb6)
        | (go_at_call 11; refine (implAudit_any (some ⟨g, 0, none⟩) M cc F w6 HL6.out.rd hc2 hcc).mono ?_; rintro e w7 ⟨rfl, hb7⟩; have HL7 : Hid (Lw w4 w7 B g M cc F la L (fun j => ((bls F M 0).getD j 0 : Nat))) := HL6.out.call hb7; have x7 := HL7.out.box; clear hb7)
        | (go_at_call 25; refine (specAudit_any (some ⟨g, 0, none⟩) M cc F w7 HL7.out.rd hc2).mono ?_; rintro e w8 ⟨rfl, hb8⟩; have HL8 : Hid (Lw w4 w8 B g M cc F la L (fun j => ((bls F M 0).getD j 0 : Nat))) := HL7.out.call hb8; have x8 := HL8.out.box; clear hb8)))
      all_goals
        go_wp2_with fail
        go_meet
        case rel => exact ⟨by simp, HL8.out⟩
    case rest =>
      obtain ⟨rfl, hlw⟩ := hcut
      have HW : Hid (Lw w4 wc B g M cc F la L (fun j => ((bls F M 0).getD j 0 : Nat))) := hlw
      clear hlw x4 HLW
      go_wp2_with fail
      go_loopw [5, 6] (fun vp vi wr => ∃ (p m : Nat), m ≤ L ∧ vi = .int .i64 m ∧ vp = .int .i64 p ∧ Walk F M p m ∧ Lw w4 wr B g M cc F la L (fun j => ((bls F M 0).getD j 0 : Nat))) (fun _ vi _ => L - (intOf vi).toNat)
      case atStart => exact ⟨0, 0, Nat.zero_le _, rfl, rfl, Walk.start F M, HW.out⟩
      case round =>
        obtain ⟨p, m, hm, rfl, rfl, hwk, hlw⟩ := hrel
        have HWK : Hid (Walk F M p m) := hwk
        have HLr : Hid (Lw w4 wr B g M cc F la L (fun j => ((bls F M 0).getD j 0 : Nat))) := hlw
        have hpM := hwk.le
        have b0 := hlw.box
        clear hwk hlw
        by_cases hlt : m < L
        · obtain ⟨n, u, hB, hpm, hnext⟩ := HWK.out.here (by have := HLL.out; omega)
          have hfit := (blkO_of hB).fit
          obtain ⟨lb, lo, rfl, hcl⟩ := HLr.out.list (by omega)
          have cm : wr.cell? ⟨lb, lo + m, none⟩ = some (.int .i64 p) := by have := hcl m hlt; rw [← hpm]; exact this
          have HNX : Hid (Walk F M (p + n + 3) (m + 1)) := hnext
          have HA : Hid (∀ x : Inn wr, Calls Try.prog 14 #[.agg #[.slice (some ⟨g, 0, none⟩) M cc], .int .i64 p] x.val fun e w' => e = .returned (bv (some (n, u))) ∧ Below x.val.heap.size x.val w') := fun x => by
            have := implAt_any (some ⟨g, 0, none⟩) M cc F p x.val (HLr.out.rd.below x.bel) hc2 hcc
            rw [hB] at this
            exact this
          dsimp only [bv] at HA
          have k0 := Inn.keep b0
          have k1 := Inn.keep cm
          haveI := inn_ne wr
          clear hcl hpm hnext hB
          go_wp2_with fail
          refine wp_region_inn ?_ ?_ ?_
          · kernel_rfl
          · kernel_rfl
          repeat (go_big_quiet_step (first
            | (go_at_call 14; exact calls_inn (HA.out _))))
          refine wpQuiet_nil ?_
          rintro w5 ⟨x5, h5⟩
          have hb5 : Below wr.heap.size wr w5 := by rw [h5]; exact x5.bel
          have HL5 : Hid (Lw w4 w5 B g M cc F (some ⟨lb, lo, none⟩) L (fun j => ((bls F M 0).getD j 0 : Nat))) := HLr.out.call hb5
          have c5 := (hb5.cell (p := ⟨lb, lo + m, none⟩) (World.block_lt_of_cell? wr _ cm)).trans cm
          clear h5 x5 hb5 k0 k1 HA cm b0
          go_wp2_with fail
          go_roundw
          case rel => exact ⟨p + n + 3, m + 1, by omega, by go_num, by go_num, HNX.out, HL5.out⟩
          case measure => simp [intOf]; omega
        · have HE : Hid (aud F M 0 false = -1 → p = M) := fun h => HWK.out.fin (by have := HLL.out; omega) h
          go_wp2_with fail
          refine (implAudit_any (some ⟨g, 0, none⟩) M cc F _ HLr.out.rd hc2 hcc).mono ?_
          rintro e w5 ⟨rfl, hb5⟩
          have HB5 : Hid (Below w1.heap.size w1 w5) := below_join (below_join HB4.out HLr.out.below) hb5
          have b5 := (hb5.cell (p := ⟨B, 0, none⟩) (World.block_lt_of_cell? wr _ b0)).trans b0
          clear hb5 b0
          generalize aud F M 0 false = y at *
          by_cases hy : y = -1
          · have hpe := HE.out hy
            subst hpe
            subst hy
            go_wp2_with fail
            go_ret
            exact ⟨rfl, HB5.out⟩
          · have hy' : (y == -1) = false := by simpa using hy
            go_wp2_with fail
            go_ret
            exact ⟨by simp, HB5.out⟩
end Go.Proofs.Ytejhfoahpopeoaa
