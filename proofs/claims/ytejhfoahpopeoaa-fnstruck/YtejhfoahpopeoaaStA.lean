/-
  The law of a word that is struck.
-/
import Derived.Test.YtejhfoahpopeoaaBrA
import Derived.Test.YtejhfoahpopeoaaFrA
import Derived.Test.YtejhfoahpopeoaaTiC
import Derived.Deep.RegionWith
import Derived.Deep.AppendLies
import Derived.Deep.CutRange
namespace Go.Proofs.Ytejhfoahpopeoaa
open Go.RowKit
set_option linter.unusedVariables false

/-- What the law has in hand: the drawn arena in its box, the places of the used ones. -/
structure Ls (w1 wx : World) (B g M cc : Nat) (F : Nat → Int) (ua : Option Addr) (U : Nat) (hu : Nat → Int) : Prop where
  below : Below w1.heap.size w1 wx
  box : wx.cell? ⟨B, 0, none⟩ = some (.slice (some ⟨g, 0, none⟩) M cc)
  rd : Rd wx (some ⟨g, 0, none⟩) M F
  used : Rd wx ua U hu
theorem Ls.call {w1 wx wy : World} {B g M cc : Nat} {F : Nat → Int} {ua : Option Addr} {U : Nat} {hu : Nat → Int} (s : Ls w1 wx B g M cc F ua U hu) (hb : Below wx.heap.size wx wy) : Ls w1 wy B g M cc F ua U hu :=
  ⟨below_join s.below hb, (hb.cell (p := ⟨B, 0, none⟩) (World.block_lt_of_cell? wx _ s.box)).trans s.box, s.rd.below hb, s.used.below hb⟩

set_option maxHeartbeats 1500000 in
set_option maxRecDepth 100000 in
theorem struck_walk (w : World) (ao : Option Addr) (len cap : Nat) (zs : List Int) (hr : IsRow w ao len cap zs) (hlc : len ≤ cap) (hcm : cap ≤ maxLen) :
    Calls Try.prog 3 #[.slice ao len cap] w fun e w' => e = .returned (.bool true) ∧ Below w.heap.size w w' := by
  have HR : Hid (IsRow w ao len cap zs) := hr
  have HL : Hid (len ≤ maxLen) := Nat.le_trans hlc hcm
  clear hr
  by_cases hbig : 1048576 < len
  · go_enter Try.func3, Try.ntmps3
    go_wp2_with fail
    refine (big_any ao len cap HL.out _).mono ?_
    rintro e w1 ⟨rfl, rfl⟩
    go_wp2_with fail
    go_ret
    exact ⟨rfl, Below.refl _ _⟩
  · have hsm : len ≤ 1048576 := by omega
    go_enter Try.func3, Try.ntmps3
    go_wp2_with fail
    refine (big_any ao len cap HL.out _).mono ?_
    rintro e w1 ⟨rfl, rfl⟩
    go_wp2_with fail
    refine (drawArena_any _ ao len cap zs HR.out (by omega)).mono ?_
    rintro e w2 ⟨g, M, cc, rfl, hM1, hM, hcc, ⟨F, hF⟩, hg, hb2⟩
    have hbn := (Below.refl w2.heap.size w2).alloc (Nat.le_refl _) (.cells #[.slice (some ⟨g, 0, none⟩) M cc] 26)
    have HS3 : Hid (Ls w1 (w2.alloc (.cells #[.slice (some ⟨g, 0, none⟩) M cc] 26)) w2.heap.size g M cc F none 0 (fun _ => 0)) :=
      ⟨below_join hb2 hbn, World.cell?_alloc_new w2 _ _ 0, hF.rd.below hbn, Rd.nil _ _ _⟩
    have HW : Hid (Whole F M) := hF.whole
    have b3 := HS3.out.box
    clear hb2 hF hbn hbig hlc hcm HL hg
    go_wp2_with fail
    generalize (w2.alloc (.cells #[.slice (some ⟨g, 0, none⟩) M cc] 26)) = w3 at HS3 b3 ⊢
    generalize w2.heap.size = B at HS3 b3 ⊢
    have hc2 : M ≤ 1048576 := by omega
    have V0 : ((M : Int) == 0) = false := by simp; omega
    refine (implAuditF (some ⟨g, 0, none⟩) M cc F (-1) HW.out _ HS3.out.rd hc2 hcc).mono ?_
    rintro e w4 ⟨rfl, hb4⟩
    have HS4 : Hid (Ls w1 w4 B g M cc F none 0 (fun _ => 0)) := HS3.out.call hb4
    have b4 := HS4.out.box
    clear hb4 HS3 b3
    obtain ⟨atI, hAI⟩ : ∃ atI : Int → Int, atI = fun t => atV zs len t.toNat := ⟨_, rfl⟩
    have HAI : Hid (∀ t, 0 ≤ atI t ∧ atI t ≤ 255) := fun t => by rw [hAI]; exact atV_rng HR.out _
    have HA : Hid (∀ (t : Int) (x : World), 0 ≤ t → t ≤ 100 → Below w4.heap.size w4 x → Calls Try.prog 12 #[.slice ao len cap, .int .i64 t] x fun e w' => e = .returned (.int .i64 (atI t)) ∧ w' = x) := fun t x h0 h1 hb => by
      obtain ⟨i, rfl⟩ : ∃ i : Nat, t = i := ⟨t.toNat, by omega⟩
      rw [hAI]
      exact at_any x ao len cap zs ((HR.out.below HS4.out.below).below hb) hsm i (by omega)
    have v2 := HAI.out 2
    have v3 := HAI.out 3
    clear hAI
    have k0 := Inn.keep b4
    haveI := inn_ne w4
    have hM0 : (M : Int) ≠ 0 := by omega
    go_wp2_with fail
    refine wp_region_inn ?_ ?_ ?_
    · kernel_rfl
    · kernel_rfl
    repeat (go_big_quiet_step (first
      | (go_at_call 12; exact calls_inn_same (HA.out _ _ (by decide) (by decide) (Inn.bel _)))))
    refine wpQuiet_nil ?_
    rintro w5 ⟨x5, h5⟩
    have hb5 : Below w4.heap.size w4 w5 := by rw [h5]; exact x5.bel
    have HB45 : Hid (Below w4.heap.size w4 w5) := hb5
    have HS5 : Hid (Ls w1 w5 B g M cc F none 0 (fun _ => 0)) := HS4.out.call hb5
    have b5 := HS5.out.box
    clear h5 x5 k0 b4 HS4
    obtain ⟨k, hk, hkM⟩ : ∃ k : Nat, (atI 2 * 256 + atI 3) % (M : Int) = k ∧ k < M := ⟨((atI 2 * 256 + atI 3) % (M : Int)).toNat, by have := Int.emod_nonneg (atI 2 * 256 + atI 3) hM0; omega, by have := Int.emod_lt_of_pos (atI 2 * 256 + atI 3) (show (0 : Int) < M by omega); have := Int.emod_nonneg (atI 2 * 256 + atI 3) hM0; omega⟩
    rw [hk]
    clear hk hb5 v2 v3
    go_wp2_with fail
    refine (implUsed_any (some ⟨g, 0, none⟩) M cc F _ HS5.out.rd hc2 hcc).mono ?_
    rintro e w6 ⟨v, rfl, hpl, hb6⟩
    obtain ⟨ua, uc, rfl, hl1, hl2, hl3, hru⟩ := hpl.slice
    have HS6 : Hid (Ls w1 w6 B g M cc F ua (usd (bk F M 0)).length (fun j => ((usd (bk F M 0)).getD j 0 : Nat))) := ⟨below_join HS5.out.below hb6, (HS5.out.call hb6).box, HS5.out.rd.below hb6, hru⟩
    have HB46 : Hid (Below w4.heap.size w4 w6) := below_join HB45.out hb6
    clear hpl hb6 hl1 hl2 hl3 hru HS5 b5 HB45
    have hU4 : (usd (bk F M 0)).length * 4 ≤ M := by have h1 := usd_len (bk F M 0); have h2 := bk_len4 F M; omega
    have HNU : Hid (∀ m, m < (usd (bk F M 0)).length → ∃ p n, (usd (bk F M 0)).getD m 0 = p ∧ blkO F M p = some (n, true) ∧ (ub (bk F M 0)).take (m + 1) = (ub (bk F M 0)).take m ++ [(p, n, true)] ∧ n ≤ 4000 ∧ p + n + 3 ≤ M) := fun m hm => by
      have hm' : m < (ub (bk F M 0)).length := by rw [← ub_len]; exact hm
      obtain ⟨q, h1, _⟩ := bk_all F M
      have hmm := List.getElem_mem hm'
      obtain ⟨hm1, hm2⟩ := List.mem_filter.1 hmm
      obtain ⟨_, _, h4⟩ := h1.mem _ hm1
      rw [hm2] at h4
      have e : (ub (bk F M 0))[m] = ((ub (bk F M 0))[m].1, (ub (bk F M 0))[m].2.1, true) := by rw [← hm2]
      refine ⟨(ub (bk F M 0))[m].1, (ub (bk F M 0))[m].2.1, ?_, blkO_some h4, ?_, h4.hn, h4.fit⟩
      · rw [usd_ub, List.getD_eq_getElem?_getD, List.getElem?_map, List.getElem?_eq_getElem hm']; rfl
      · rw [List.take_succ_eq_append_getElem hm', ← e]
    have HUE : Hid ((usd (bk F M 0)).length = (ub (bk F M 0)).length) := ub_len _
    obtain ⟨U, hU⟩ : ∃ U, U = (usd (bk F M 0)).length := ⟨_, rfl⟩
    rw [← hU] at HS6 HNU hU4 HUE ⊢
    clear hU
    generalize usd (bk F M 0) = us at *
    go_wp2_with fail
    go_loopw [6] (fun vi wr => ∃ m : Nat, m ≤ U ∧ vi = .int .i64 m ∧ (∀ b ∈ (ub (bk F M 0)).take m, ¬ (b.1 + 2 ≤ k ∧ k < b.1 + 2 + b.2.1)) ∧ Ls w1 wr B g M cc F ua U (fun j => (us.getD j 0 : Nat)) ∧ Below w4.heap.size w4 wr) (fun vi _ => U - (intOf vi).toNat)
    case atStart => exact ⟨0, Nat.zero_le _, rfl, fun b hb => by simp at hb, HS6.out, HB46.out⟩
    case round =>
      obtain ⟨m, hm, rfl, hno, hs, hb4r⟩ := hrel
      have HSr : Hid (Ls w1 wr B g M cc F ua U (fun j => (us.getD j 0 : Nat))) := hs
      have HNO : Hid (∀ b ∈ (ub (bk F M 0)).take m, ¬ (b.1 + 2 ≤ k ∧ k < b.1 + 2 + b.2.1)) := hno
      have HB4r : Hid (Below w4.heap.size w4 wr) := hb4r
      have b0 := hs.box
      clear hno hb4r
      by_cases hlt : m < U
      · obtain ⟨p, n, hp, hB, htk, hn4, hfit⟩ := HNU.out m hlt
        obtain ⟨lb, lo, rfl, hcl⟩ := hs.used (by omega)
        have cm : wr.cell? ⟨lb, lo + m, none⟩ = some (.int .i64 p) := by have := hcl m hlt; rw [← hp]; exact this
        have HTK : Hid ((ub (bk F M 0)).take (m + 1) = (ub (bk F M 0)).take m ++ [(p, n, true)]) := htk
        have HAt : Hid (∀ x : Inn wr, Calls Try.prog 14 #[.agg #[.slice (some ⟨g, 0, none⟩) M cc], .int .i64 p] x.val fun e w' => e = .returned (bv (some (n, true))) ∧ Below x.val.heap.size x.val w') := fun x => by
          have := implAt_any (some ⟨g, 0, none⟩) M cc F p x.val (HSr.out.rd.below x.bel) hc2 hcc
          rw [hB] at this
          exact this
        dsimp only [bv] at HAt
        have k0 := Inn.keep b0
        have k1 := Inn.keep cm
        haveI := inn_ne wr
        clear hs hcl hp hB htk
        go_wp2_with fail
        refine wp_region_inn ?_ ?_ ?_
        · kernel_rfl
        · kernel_rfl
        repeat (go_big_quiet_step (first
          | (go_at_call 14; exact calls_inn (HAt.out _))))
        refine wpQuiet_nil ?_
        rintro w7 ⟨x7, h7⟩
        have hb7 : Below wr.heap.size wr w7 := by rw [h7]; exact x7.bel
        have HS7 : Hid (Ls w1 w7 B g M cc F (some ⟨lb, lo, none⟩) U (fun j => (us.getD j 0 : Nat))) := HSr.out.call hb7
        have HB47 : Hid (Below w4.heap.size w4 w7) := below_join HB4r.out hb7
        have c7 := (hb7.cell (p := ⟨lb, lo + m, none⟩) (World.block_lt_of_cell? wr _ cm)).trans cm
        clear h7 x7 hb7 k0 k1 HAt cm b0
        have hV1 : IntKind.i64.wrap ((p : Int) + 2) = (p : Int) + 2 := by rw [IntKind.wrap_i64]; omega
        have hV2 : IntKind.i64.wrap ((p : Int) + 2 + n) = (p : Int) + 2 + n := by rw [IntKind.wrap_i64]; omega
        by_cases hin : p + 2 ≤ k ∧ k < p + 2 + n
        · have g1 : (p : Int) + 2 ≤ k := by omega
          have g2 : (k : Int) < (p : Int) + 2 + n := by omega
          clear hin
          go_wp2_with fail
          go_ret
          exact ⟨rfl, HS7.out.below⟩
        · have HNN : Hid (∀ b ∈ (ub (bk F M 0)).take (m + 1), ¬ (b.1 + 2 ≤ k ∧ k < b.1 + 2 + b.2.1)) := fun b hb => by
            rw [HTK.out] at hb
            rcases List.mem_append.1 hb with hb | hb
            · exact HNO.out b hb
            · rw [List.mem_singleton] at hb; subst hb; exact hin
          by_cases g1 : p + 2 ≤ k
          · have g1' : (p : Int) + 2 ≤ k := by omega
            have g2 : ¬ (k : Int) < (p : Int) + 2 + n := by omega
            clear hin
            go_wp2_with fail
            go_roundw
            case rel => exact ⟨m + 1, by omega, by go_num, HNN.out, HS7.out, HB47.out⟩
            case measure => simp [intOf]; omega
          · have g1' : ¬ (p : Int) + 2 ≤ k := by omega
            clear hin
            go_wp2_with fail
            go_roundw
            case rel => exact ⟨m + 1, by omega, by go_num, HNN.out, HS7.out, HB47.out⟩
            case measure => simp [intOf]; omega
      · have HNOT : Hid (∀ b ∈ bk F M 0, b.2.2 = true → ¬ (b.1 + 2 ≤ k ∧ k < b.1 + 2 + b.2.1)) := fun b hb hu => HNO.out b (by have := HUE.out; rw [List.take_of_length_le (by omega)]; exact List.mem_filter.2 ⟨hb, hu⟩)
        have hglt : g < wr.heap.size := by obtain ⟨b', o', e', hc'⟩ := hs.rd (by omega); cases e'; exact World.block_lt_of_cell? wr _ (hc' 0 (by omega))
        clear hs
        obtain ⟨i0, hi, hz0, hz1, hz2⟩ := info_parts infoInt
        have HI : Hid (Try.prog.info? 3 = some i0 ∧ i0.zero = some (.int .i64 0) ∧ i0.size = 1 ∧ i0.bytes = 8) := ⟨hi, hz0, hz1, hz2⟩
        clear hi hz0 hz1 hz2
        have HO : Hid ((wr.alloc (.cells #[] 3)).ownsRow wr.heap.size 3 1 (.slice (some ⟨wr.heap.size, 0, none⟩) 0 0) 0 []) := World.ownsRow_made (base := wr.heap.size) (e := 3) (size := 1) wr #[] 0 (Nat.le_refl _) (Nat.zero_le _) rfl
        have hB8 := (Below.refl wr.heap.size wr).alloc (Nat.le_refl _) (.cells #[] 3)
        have HB8 : Hid (Below wr.heap.size wr (wr.alloc (.cells #[] 3))) := hB8
        have C1 : Hid (∀ j u, ((List.range M).map fun j => Value.int .i64 (F j))[j]? = some u → (wr.alloc (.cells #[] 3)).cell? ((⟨g, 0, none⟩ : Addr).add j) = some u) :=
          src_ints (fun j hj => (hB8.cell (p := ⟨g, 0 + j, none⟩) hglt).trans (by obtain ⟨b', o', e', hc'⟩ := HSr.out.rd (by omega); cases e'; exact hc' j hj))
        have HLn : Hid (((List.range M).map fun j => Value.int .i64 (F j)).length = M * 1) := by show _ = _; simp
        have C3 : Hid (0 + M ≤ maxLen) := by show _ ≤ _; unfold maxLen; omega
        have C4 : Hid ((0 + M) * 8 ≤ 140737488355328) := by show _ ≤ _; omega
        have C5 : Hid (wr.heap.size ≤ (wr.alloc (.cells #[] 3)).heap.size) := by show _ ≤ _; rw [World.size_alloc]; omega
        have h1M : 1 ≤ M := by omega
        have b8 : (wr.alloc (.cells #[] 3)).cell? ⟨B, 0, none⟩ = some (.slice (some ⟨g, 0, none⟩) M cc) := (hB8.cell (p := ⟨B, 0, none⟩) (World.block_lt_of_cell? wr _ b0)).trans b0
        have hBr : B < wr.heap.size := World.block_lt_of_cell? wr _ b0
        have hne8 : ¬ B = wr.heap.size := by omega
        clear hB8
        go_wp2_with (at_builtin; refine wpList_append_lies _ rfl _ _ 24 rfl wr.heap.size 3 i0 (.int .i64 0) 1 8 undInts HI.out.1 HI.out.2.1 HI.out.2.2.1 HI.out.2.2.2 rfl Nat.zero_lt_one _ _ _ rfl HO.out ⟨g, 0, none⟩ M cc ((List.range M).map fun j => Value.int .i64 (F j)) rfl HLn.out C1.out (one_ints M F) h1M C3.out C4.out C5.out _ rfl ?_; intro g3 vc3 w8 hown3 hgr3 hat3 hlt3)
        have hown4 : w8.ownsRow wr.heap.size 3 1 (.slice (some ⟨g3, 0, none⟩) M vc3) M ((List.range M).map fun j => Value.int .i64 (F j)) := by simpa using hown3
        obtain ⟨hints, hbase, hcap3⟩ := ints_of_own hown4
        have hbl : Below wr.heap.size wr w8 := HB8.out.grown hgr3 HB8.out.size (fun k hk => by have e : some wr.heap.size = some k := hk; injection e with e; omega)
        have hl3 := hints.lt (by omega)
        have hbn := (Below.refl w8.heap.size w8).alloc (Nat.le_refl _) (.cells #[.slice (some ⟨g3, 0, none⟩) M vc3] 26)
        have hb9 := below_join hbl hbn
        have hs8 := hbl.size
        have HS9 : Hid (Ls w1 (w8.alloc (.cells #[.slice (some ⟨g3, 0, none⟩) M vc3] 26)) B g M cc F ua U (fun j => (us.getD j 0 : Nat))) := HSr.out.call hb9
        have HB49 : Hid (Below w4.heap.size w4 (w8.alloc (.cells #[.slice (some ⟨g3, 0, none⟩) M vc3] 26))) := below_join HB4r.out hb9
        have HX9 : Hid ((w8.alloc (.cells #[.slice (some ⟨g3, 0, none⟩) M vc3] 26)).cell? ⟨w8.heap.size, 0, none⟩ = some (.slice (some ⟨g3, 0, none⟩) M vc3) ∧ Ints (w8.alloc (.cells #[.slice (some ⟨g3, 0, none⟩) M vc3] 26)) g3 0 M F ∧ wr.heap.size ≤ g3 ∧ g3 < w8.heap.size ∧ M ≤ vc3) := ⟨World.cell?_alloc_new w8 _ _ 0, hints.below hbn hl3, hbase, hl3, hcap3⟩
        have hw1 : w1.heap.size ≤ wr.heap.size := HSr.out.below.size
        clear hown3 hgr3 hat3 hlt3 hown4 hints hbl hbn hb9 HO C1 HLn C3 C4 C5 HI HB8 b8 b0 hglt hne8 hs8 hl3 hbase hcap3
        have c9B := HS9.out.box
        obtain ⟨c9X, hi9, _, _, _⟩ := HX9.out
        have c9x := hi9.cell k hkM
        have fr9 := hi9.free
        have c9a : (w8.alloc (.cells #[.slice (some ⟨g3, 0, none⟩) M vc3] 26)).cell? ⟨g, 0 + k, none⟩ = some (.int .i64 (F k)) := by obtain ⟨b', o', e', hc'⟩ := HS9.out.rd (by omega); cases e'; exact hc' k hkM
        rw [Nat.zero_add] at c9x c9a
        have hyr := small_at HW.out hkM HNOT.out
        obtain ⟨y, hy⟩ : ∃ y, F k = y := ⟨_, rfl⟩
        have HY : Hid (F k = y) := hy
        rw [hy] at c9x c9a hyr
        have v4 := HAI.out 4
        have HAW : Hid (Below w4.heap.size w4 (w8.alloc (.cells #[.slice (some ⟨g3, 0, none⟩) M vc3] 26)).drew) := HB49.out.drew
        clear hi9 hy
        generalize (w8.alloc (.cells #[.slice (some ⟨g3, 0, none⟩) M vc3] 26)) = w9 at *
        generalize w8.heap.size = X at *
        have VW1 : IntKind.i64.wrap (y + 1) = y + 1 := by rw [IntKind.wrap_i64]; omega
        have VW2 : IntKind.i64.wrap (y + 1 + atI 4) = y + 1 + atI 4 := by rw [IntKind.wrap_i64]; omega
        go_cut [82] from 80 to 92 (fun v wx => v = .int .i64 k ∧ wx = (w9.setCell ⟨g3, k, none⟩ (.int .i64 (y + 1 + atI 4))).drew)
        case first =>
          go_region_with (go_at_call 12; refine (HA.out _ _ (by decide) (by decide) HAW.out).mono ?_; rintro e w' ⟨rfl, rfl⟩)
          all_goals
            go_wp2_with fail
            go_meet
            case rel => exact ⟨rfl, rfl⟩
        case rest =>
          obtain ⟨rfl, rfl⟩ := hcut
          have HW10 : Hid (∃ d : Nat, 1 ≤ d ∧ d ≤ 256 ∧ y + 1 + atI 4 = F k + d) := ⟨(1 + atI 4).toNat, by omega, by omega, by rw [HY.out]; omega⟩
          obtain ⟨d, hd1, hd2, hd3⟩ := HW10.out
          have HNW : Hid (¬ Whole (upd F k (F k + d)) M) := struck HW.out hkM HNOT.out hd1 hd2
          have HV3 : Hid (M ≤ vc3) := HX9.out.2.2.2.2
          have HS10 : Hid (Ls w1 (w9.setCell ⟨g3, k, none⟩ (.int .i64 (y + 1 + atI 4))).drew X g3 M vc3 (upd F k (F k + d)) none 0 (fun _ => 0)) := by
            obtain ⟨q1, q2, q3, q4, _⟩ := HX9.out
            have hI := q2.set k hkM (y + 1 + atI 4)
            rw [Nat.zero_add, hd3] at hI
            rw [hd3]
            have ht : Turn g3 w9 (w9.setCell ⟨g3, k, none⟩ (.int .i64 (F k + d))) := (Turn.refl _ _).set k _
            exact ⟨(HS9.out.below.setCell (p := ⟨g3, k, none⟩) (by show w1.heap.size ≤ g3; omega) _).drew, ht.cell (by omega) q1, hI.rd, Rd.nil _ _ _⟩
          generalize (w9.setCell ⟨g3, k, none⟩ (.int .i64 (y + 1 + atI 4))).drew = w10 at HS10 ⊢
          have b10 := HS10.out.box
          clear c9B c9X c9x fr9 c9a HX9 HS9 HAW HW10 hd3 v4 hyr VW1 VW2 HA HAI
          go_wp2_with fail
          refine (alloc_broken (some ⟨g3, 0, none⟩) M vc3 _ 1 w10 HS10.out.rd hc2 HV3.out HNW.out).mono ?_
          rintro e w11 ⟨g11, rfl, _, _, _, hb11⟩
          have hbn := (Below.refl w11.heap.size w11).alloc (Nat.le_refl _) (.cells #[.slice (some ⟨g11, 0, none⟩) M M] 26)
          have HS12 : Hid (Ls w1 (w11.alloc (.cells #[.slice (some ⟨g11, 0, none⟩) M M] 26)) X g3 M vc3 (upd F k (F k + d)) none 0 (fun _ => 0)) := (HS10.out.call hb11).call hbn
          have b12 := HS12.out.box
          clear hb11 hbn b10 HS10
          go_wp2_with fail
          generalize (w11.alloc (.cells #[.slice (some ⟨g11, 0, none⟩) M M] 26)) = w12 at HS12 b12 ⊢
          refine (release_broken (some ⟨g3, 0, none⟩) M vc3 _ 0 w12 HS12.out.rd hc2 HV3.out HNW.out).mono ?_
          rintro e w13 ⟨g13, rfl, _, _, _, hb13⟩
          have hbn := (Below.refl w13.heap.size w13).alloc (Nat.le_refl _) (.cells #[.slice (some ⟨g13, 0, none⟩) M M] 26)
          have HS14 : Hid (Ls w1 (w13.alloc (.cells #[.slice (some ⟨g13, 0, none⟩) M M] 26)) X g3 M vc3 (upd F k (F k + d)) none 0 (fun _ => 0)) := (HS12.out.call hb13).call hbn
          have b14 := HS14.out.box
          clear hb13 hbn b12 HS12
          go_wp2_with fail
          generalize (w13.alloc (.cells #[.slice (some ⟨g13, 0, none⟩) M M] 26)) = w14 at HS14 b14 ⊢
          obtain ⟨z, hz⟩ : ∃ z, aud (upd F k (F k + d)) M 0 false = z := ⟨_, rfl⟩
          have hz1 : (z != -1) = true := by have h := HNW.out; unfold Whole at h; rw [hz] at h; simpa using h
          refine (implAuditF (some ⟨g3, 0, none⟩) M vc3 _ z hz w14 HS14.out.rd hc2 HV3.out).mono ?_
          rintro e w15 ⟨rfl, hb15⟩
          have HB15 : Hid (Below w1.heap.size w1 w15) := below_join HS14.out.below hb15
          clear hb15 b14 hz
          go_wp2_with fail
          go_ret
          exact ⟨by simp, HB15.out⟩
end Go.Proofs.Ytejhfoahpopeoaa
