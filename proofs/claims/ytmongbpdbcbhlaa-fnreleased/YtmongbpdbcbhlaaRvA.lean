/-
  The law of a block taken back: its walk.
-/
import Derived.Test.YtmongbpdbcbhlaaReB
import Derived.Test.YtmongbpdbcbhlaaDeA
import Derived.Test.YtmongbpdbcbhlaaAxA
import Derived.Test.YtmongbpdbcbhlaaBxA
import Derived.Test.YtmongbpdbcbhlaaAiZ
import Derived.Test.YtmongbpdbcbhlaaApM
import Derived.Test.YtmongbpdbcbhlaaDaA
import Derived.Test.YtmongbpdbcbhlaaSmA
import Derived.Test.YtmongbpdbcbhlaaGuB
import Derived.Test.YtmongbpdbcbhlaaRlA
import Derived.Deep.RegionLaw
import Derived.Deep.RegionHeld3
import Derived.Deep.CutRange
namespace Go.Proofs.Ytmongbpdbcbhlaa
open Go.RowKit
set_option linter.unusedVariables false

theorem free2 {w5 wy : World} {M Y gg cc : Nat} {FF : Nat → Int} (hM : M ≤ 80) (h : Ax2 w5 wy M Y gg cc FF) :
    Calls Try.prog 16 #[.agg #[.slice (some ⟨gg, 0, none⟩) M cc]] wy fun e w' => e = .returned (.int .i64 (fsum (fk FF M) : Nat)) ∧ Keep2 w5 wy w' M := by
  refine (implFree_any (some ⟨gg, 0, none⟩) M cc FF wy h.rd (by omega) h.le).mono ?_
  rintro e w' ⟨rfl, hb⟩
  exact ⟨rfl, fun Y gg cc FF h => h.call hb⟩
theorem rel_zero {f F : Nat → Int} {x c : Int} (h : RelR f 0 x F c) : c = 2 := by
  rcases h with ⟨_, h, _⟩ | ⟨h, _⟩ | ⟨_, _, p, A, A', n, B, B', q, k, _, g⟩
  · exact absurd (aud_zero f) h
  · exact h
  · have := g.all
    rw [bk_zero] at this
    simp at this
set_option maxHeartbeats 8000000 in
set_option maxRecDepth 100000 in
theorem released_walk (w : World) (ao : Option Addr) (len cap : Nat) (zs : List Int) (hr : IsRow w ao len cap zs) (hlc : len ≤ cap) (hcm : cap ≤ maxLen) :
    Calls Try.prog 3 #[.slice ao len cap] w fun e w' => e = .returned (.bool true) ∧ Below w.heap.size w w' := by
  have HR : Hid (IsRow w ao len cap zs) := hr
  have HL : Hid (len ≤ maxLen) := Nat.le_trans hlc hcm
  clear hr
  by_cases hbig : 1048576 < len
  · go_enter Try.func3, Try.ntmps3
    go_wp2_with fail
    refine (big_any ao len cap HL.out _).mono ?_
    rintro e w1 ⟨rfl, rfl⟩
    go_wp2_with fail
    go_ret
    exact ⟨rfl, Below.refl _ _⟩
  · go_enter Try.func3, Try.ntmps3
    go_wp2_with fail
    refine (big_any ao len cap HL.out _).mono ?_
    rintro e w1 ⟨rfl, rfl⟩
    go_wp2_with fail
    refine (drawRelease_any _ ao len cap zs HR.out (by omega)).mono ?_
    rintro e w2 ⟨g, M, cc, x, F, rfl, hM, hcc, hF, hF0, hF1, hpl, hb2⟩
    have hbn := (Below.refl w2.heap.size w2).alloc (Nat.le_refl _) (.cells #[.slice (some ⟨g, 0, none⟩) M cc] 26)
    have HA3 : Hid (Ax2 w1 (w2.alloc (.cells #[.slice (some ⟨g, 0, none⟩) M cc] 26)) M w2.heap.size g cc F) := ⟨below_join hb2 hbn, World.cell?_alloc_new w2 _ _ 0, hF.below hbn, hcc⟩
    have HPL : Hid (∀ n, blkI F M x = some (n, true) → ∃ p : Nat, x = p ∧ blkO F M p = some (n, true) ∧ (p, n, true) ∈ bk F M 0) := fun n h => plc_used hpl hM hF0 hF1 h
    have hsm : len ≤ 1048576 := by omega
    have HSM : Hid (len ≤ 1048576) := hsm
    clear hb2 hF hbn hbig hlc hcm HL hpl hF0 hF1 hsm
    go_wp2_with fail
    generalize (w2.alloc (.cells #[.slice (some ⟨g, 0, none⟩) M cc] 26)) = w3 at HA3 ⊢
    generalize w2.heap.size = B at HA3 ⊢
    refine (implRelease_any (some ⟨g, 0, none⟩) M cc F x w3 HA3.out.rd (by omega) hcc HPL.out).mono ?_
    rintro e w4 ⟨g1, c, F1, rfl, hi4, hR4, hb4⟩
    have hbn := (Below.refl w4.heap.size w4).alloc (Nat.le_refl _) (.cells #[.slice (some ⟨g1, 0, none⟩) M M] 26)
    have HA5 : Hid (Ax2 w1 (w4.alloc (.cells #[.slice (some ⟨g1, 0, none⟩) M M] 26)) M B g cc F ∧ Ax2 w1 (w4.alloc (.cells #[.slice (some ⟨g1, 0, none⟩) M M] 26)) M w4.heap.size g1 M F1) := ⟨(HA3.out.call hb4).call hbn, ⟨((HA3.out.call hb4).call hbn).bel, World.cell?_alloc_new w4 _ _ 0, hi4.rd.below hbn, Nat.le_refl _⟩⟩
    have HR4 : Hid (RelR F M x F1 c) := hR4
    have c5 := HA5.out.1.box
    clear hb4 hbn HA3 hi4 hR4 HPL
    go_wp2_with fail
    clear c5
    generalize (w4.alloc (.cells #[.slice (some ⟨g1, 0, none⟩) M M] 26)) = w5 at HA5 ⊢
    generalize w4.heap.size = X at HA5 ⊢
    have HSP : Hid (Calls Try.prog 9 #[.agg #[.slice (some ⟨g, 0, none⟩) M cc], .int .i64 x] w5 fun e w' => ∃ g3 c3 : Nat, e = .returned (.tuple #[.agg #[.slice (some ⟨g3, 0, none⟩) M c3], .int .i64 c]) ∧ Below w5.heap.size w5 w') := by
      by_cases hM0 : M = 0
      · subst hM0
        have hc2 := rel_zero HR4.out
        subst hc2
        exact (specRelease_zero g 0 cc F x w5).mono fun e w' ⟨g3, h1, h2⟩ => ⟨g3, 0, h1, h2⟩
      · exact (specRelease_any g 0 M cc F x w5 HA5.out.1.cells (by omega) (by omega)).mono fun e w' ⟨g3, c3, code, Z, h1, h2, h3⟩ => ⟨g3, c3, by rw [h1, h3.code HR4.out], h2.below⟩
    refine HSP.out.mono ?_
    rintro e w6 ⟨g3, c3, rfl, hb6⟩
    have hbn := (Below.refl w6.heap.size w6).alloc (Nat.le_refl _) (.cells #[.slice (some ⟨g3, 0, none⟩) M c3] 26)
    have HA7 : Hid (Ax2 w1 (w6.alloc (.cells #[.slice (some ⟨g3, 0, none⟩) M c3] 26)) M B g cc F ∧ Ax2 w1 (w6.alloc (.cells #[.slice (some ⟨g3, 0, none⟩) M c3] 26)) M X g1 M F1) := ⟨(HA5.out.1.call hb6).call hbn, (HA5.out.2.call hb6).call hbn⟩
    have c7 := HA7.out.1.box
    have x7 := HA7.out.2.box
    clear hb6 hbn HA5 HSP
    by_cases hc0 : c = 0
    case neg =>
      have hz' : (c == 0) = false := by simpa using hc0
      have HE : Hid (F1 = F) := HR4.out.same hc0
      go_wp2_with fail
      generalize (w6.alloc (.cells #[.slice (some ⟨g3, 0, none⟩) M c3] 26)) = w7 at *
      refine (sameInts_same (some ⟨g1, 0, none⟩) (some ⟨g, 0, none⟩) M M cc F1 F _ HA7.out.2.rd HA7.out.1.rd (fun j _ => by rw [HE.out]) (by omega)).mono ?_
      rintro e w8 ⟨rfl, hb8⟩
      have HB8 : Hid (Below w1.heap.size w1 w8) := below_join HA7.out.1.bel hb8
      clear hb8
      go_wp2_with fail
      go_ret
      exact ⟨by first | rfl | exact ret_bool (by simp), HB8.out⟩
    case pos =>
      subst hc0
      obtain ⟨hW1, hUL, hUN, hFS⟩ := HR4.out.taken (by omega)
      have hM0 : M ≠ 0 := fun e => by
        subst e
        have := rel_zero HR4.out
        omega
      have HM : Hid (M ≤ 80 ∧ M ≠ 0) := ⟨hM, hM0⟩
      have HWF : Hid (aud F1 M 0 false = -1) := hW1
      obtain ⟨uN, huN⟩ : ∃ uN : (Nat → Int) → Nat, ∀ FF, uN FF = (usd (bk FF M 0)).length := ⟨_, fun _ => rfl⟩
      obtain ⟨us, hus⟩ : ∃ us : (Nat → Int) → List Nat, ∀ FF, us FF = usd (bk FF M 0) := ⟨_, fun _ => rfl⟩
      obtain ⟨fs, hfs⟩ : ∃ fs : (Nat → Int) → Nat, ∀ FF, fs FF = fsum (fk FF M) := ⟨_, fun _ => rfl⟩
      have HUN : Hid ((∀ FF, uN FF = (usd (bk FF M 0)).length) ∧ (∀ FF, us FF = usd (bk FF M 0)) ∧ ∀ FF, fs FF = fsum (fk FF M)) := ⟨huN, hus, hfs⟩
      have hu1 : uN F = uN F1 + 1 := by rw [huN, huN]; exact hUL
      have hl1 := usd_len (bk F M 0)
      have hl2 := bk_len4 F M
      have hu2 : uN F ≤ 80 := by rw [huN]; omega
      have HUL : Hid (uN F1 ≤ 1048576) := by show _ ≤ _; omega
      have hwu : IntKind.i64.wrap ((uN F : Int) - 1) = (uN F1 : Int) := by rw [IntKind.wrap_i64]; omega
      have hwe : ((uN F1 : Int) == (uN F1 : Int)) = true := by simp
      have hfd : decide ((fs F : Int) < (fs F1 : Int)) = true := by rw [hfs, hfs]; exact decide_eq_true (by have : fsum (fk F M) < fsum (fk F1 M) := hFS; omega)
      have hfi : (fs F : Int) < (fs F1 : Int) := by rw [hfs, hfs]; have : fsum (fk F M) < fsum (fk F1 M) := hFS; omega
      have HNO : Hid (∀ j, j < uN F1 → (((us F1).getD j 0 : Nat) : Int) ≠ x) := fun j hj => by
        rw [huN] at hj
        rw [hus]
        have hmem : (usd (bk F1 M 0)).getD j 0 ∈ usd (bk F1 M 0) := by rw [List.getD_eq_getElem?_getD, List.getElem?_eq_getElem hj]; exact List.getElem_mem hj
        exact hUN _ hmem
      clear huN hus hfs hUL hUN hFS hl1 hl2 hu1 hu2 hW1 hM0
      go_wp2_with fail
      generalize (w6.alloc (.cells #[.slice (some ⟨g3, 0, none⟩) M c3] 26)) = w7 at HA7 c7 x7 ⊢
      have hrow : IsRow w7 ao len cap zs := HR.out.below HA7.out.1.bel
      have HAT : Hid (∀ wy, Below w7.heap.size w7 wy → Calls Try.prog 12 #[.slice ao len cap, .int .i64 2] wy fun e w' => e = .returned (.int .i64 (atV zs len 2)) ∧ w' = wy) := fun wy h => at_any wy ao len cap zs (hrow.below h) HSM.out 2 (by omega)
      have hrg2 := atV_rng hrow 2
      obtain ⟨a2, ha2⟩ : ∃ a2, atV zs len 2 = a2 := ⟨_, rfl⟩
      rw [ha2] at HAT hrg2
      have HAL : Hid (∀ wy, Below w7.heap.size w7 wy → Calls Try.prog 11 #[.agg #[.slice (some ⟨g1, 0, none⟩) M M], .int .i64 (IntKind.i64.wrap (1 + a2.tmod 4))] wy fun e w' => ∃ (g2 : Nat) (G : Nat → Int) (p c : Int), e = .returned (.tuple #[.agg #[.slice (some ⟨g2, 0, none⟩) M M], .int .i64 p, .int .i64 c]) ∧ wy.heap.size ≤ g2 ∧ Ints w' g2 0 M G ∧ AllocR F1 M (IntKind.i64.wrap (1 + a2.tmod 4)) G p c ∧ Below wy.heap.size wy w') := fun wy h => (implAlloc_any (some ⟨g1, 0, none⟩) M M F1 (IntKind.i64.wrap (1 + a2.tmod 4)) wy (HA7.out.2.rd.below h) (by omega) (by have := HM.out.2; omega) (Nat.le_refl _)).mono fun e w' ⟨g2, G, p, c, k1, k2, _, k4, k5, k6⟩ => ⟨g2, G, p, c, k1, k2, k4, k5, k6⟩
      have KW : Hid (Below w7.heap.size w7 w7.drew ∧ Below w7.heap.size w7 (w7.alloc (.cells #[.slice none 0 0] 26)).drew) := ⟨(Below.refl _ _).drew, ((Below.refl _ _).alloc (Nat.le_refl _) _).drew⟩
      have hXl : X < w7.heap.size := World.block_lt_of_cell? _ _ x7
      have hBl : B < w7.heap.size := World.block_lt_of_cell? _ _ c7
      have x7a : (w7.alloc (.cells #[.slice none 0 0] 26)).cell? ⟨X, 0, none⟩ = some (.slice (some ⟨g1, 0, none⟩) M M) := by rw [World.cell?_alloc_lt (h := hXl)]; exact x7
      have nx : ¬ X = w7.heap.size := by omega
      clear hrow ha2 hBl hXl
      go_cut [9, 10, 11] from 50 to 59 (fun vb vp vc wx => ∃ (Y g2 : Nat) (G : Nat → Int) (p c : Int), vb = .pointer (some ⟨Y, 0, none⟩) ∧ vp = .int .i64 p ∧ vc = .int .i64 c ∧ Bx1 w7 wx Y g2 M G ∧ AllocR F1 M (IntKind.i64.wrap (1 + a2.tmod 4)) G p c)
      case first =>
        go_region_law (go_simp; go_wp2_with (first
          | (go_at_call 12; first
              | ((conv in (World.alloc w7 (.cells #[.slice none 0 0] 26)) => skip); refine (HAT.out _ KW.out.2).mono ?_; rintro e w' ⟨rfl, rfl⟩)
              | (refine (HAT.out _ KW.out.1).mono ?_; rintro e w' ⟨rfl, rfl⟩))
          | (go_at_call 11; first
              | ((conv in (World.alloc w7 (.cells #[.slice none 0 0] 26)) => skip); refine (HAL.out _ KW.out.2).mono ?_; rintro e w8 ⟨g2, G, p, c, rfl, hg8, hi8, hA8, hb8⟩; obtain ⟨x8, xf8⟩ := keepN1 hb8; have H8 : Hid (w7.heap.size ≠ g2 ∧ Ints w8 g2 0 M G ∧ AllocR F1 M (IntKind.i64.wrap (1 + a2.tmod 4)) G p c ∧ Below w7.heap.size w7 w8) := ⟨ne_of_alloc hg8, hi8, hA8, below_join KW.out.2 hb8⟩; clear hg8 hi8 hA8 hb8)
              | (refine (HAL.out _ KW.out.1).mono ?_; rintro e w8 ⟨g2, G, p, c, rfl, hg8, hi8, hA8, hb8⟩; have H8 : Hid (w7.heap.size ≠ w7.heap.size + 1 ∧ Ints w8 g2 0 M G ∧ AllocR F1 M (IntKind.i64.wrap (1 + a2.tmod 4)) G p c ∧ Below w7.heap.size w7 w8) := ⟨Nat.ne_of_lt (Nat.lt_succ_self _), hi8, hA8, below_join KW.out.1 hb8⟩; clear hg8 hi8 hA8 hb8))))
        all_goals
          go_wp2_with fail
          go_meet
          case rel =>
            have h8 := H8.out
            have h0 : 0 < M := by have := HM.out; omega
            first
              | (obtain ⟨q1, q2, q3⟩ := bx_set (X := w7.heap.size) (cc := M) h8.2.2.2 (Nat.le_refl _) ⟨_, x8⟩ h8.2.1 h8.1 h0; exact ⟨_, g2, G, p, c, rfl, rfl, rfl, ⟨q1, q2, q3⟩, h8.2.2.1⟩)
              | (obtain ⟨q1, q2, q3⟩ := bx_new (t := 26) (cc := M) h8.2.2.2 h8.2.1 h0; exact ⟨_, g2, G, p, c, rfl, rfl, rfl, ⟨q1, q2, q3⟩, h8.2.2.1⟩)
      case rest =>
        obtain ⟨Y, g2, G, p, d, rfl, rfl, rfl, hB8, hA8⟩ := hcut
        have HB8 : Hid (Bx1 w7 wc Y g2 M G ∧ AllocR F1 M (IntKind.i64.wrap (1 + a2.tmod 4)) G p d) := ⟨hB8, hA8⟩
        have HAc : Hid (Ax2 w1 wc M B g cc F ∧ Ax2 w1 wc M X g1 M F1) := ⟨HA7.out.1.call hB8.below, HA7.out.2.call hB8.below⟩
        have c8 := hB8.box
        clear hB8 hA8 HAL KW x7a nx c7 x7 HA7 HAT
        generalize hwc : wc = w9 at *
        clear hwc
        by_cases hd0 : d = 0
        case neg =>
          have hd' : (d == 0) = false := by simpa using hd0
          have HAZ : Hid (Ax2 w1 w9 M B g cc F ∧ Ax2 w1 w9 M X g1 M F1 ∧ Below w1.heap.size w1 w9) := ⟨HAc.out.1, HAc.out.2, HAc.out.1.bel⟩
          clear HAc c8 HB8
          have hA8 : Ax2 w9 w9 M B g cc F := ⟨Below.refl _ _, HAZ.out.1.box, HAZ.out.1.rd, hcc⟩
          have hX8 : Ax2 w9 w9 M X g1 M F1 := ⟨Below.refl _ _, HAZ.out.2.1.box, HAZ.out.2.1.rd, Nat.le_refl _⟩
          have HBZ : Hid (Below w1.heap.size w1 w9) := HAZ.out.2.2
          have HU : Hid (∀ wy Y gg c2 FF, Ax2 w9 wy M Y gg c2 FF → Calls Try.prog 15 #[.agg #[.slice (some ⟨gg, 0, none⟩) M c2]] wy fun e w' => ∃ ua uc, e = .returned (.slice ua (uN FF) uc) ∧ Rd w' ua (uN FF) (fun j => ((us FF).getD j 0 : Nat)) ∧ Keep2 w9 wy w' M) := fun wy Y gg c2 FF h => by
            have := used2 HM.out.1 h
            rw [← HUN.out.1 FF, ← HUN.out.2.1 FF] at this
            exact this
          have HAU : Hid (∀ wy Y gg c2 FF, Ax2 w9 wy M Y gg c2 FF → Calls Try.prog 13 #[.agg #[.slice (some ⟨gg, 0, none⟩) M c2]] wy fun e w' => e = .returned (.int .i64 (aud FF M 0 false)) ∧ Keep2 w9 wy w' M) := fun wy Y gg c2 FF h => audit2 HM.out.1 h
          have HFW : Hid (∀ wy Y gg c2 FF, Ax2 w9 wy M Y gg c2 FF → Calls Try.prog 16 #[.agg #[.slice (some ⟨gg, 0, none⟩) M c2]] wy fun e w' => e = .returned (.int .i64 (fs FF : Nat)) ∧ Keep2 w9 wy w' M) := fun wy Y gg c2 FF h => by
            have := free2 HM.out.1 h
            rw [← HUN.out.2.2 FF] at this
            exact this
          have hA9 : Ax2 w9 w9.drew M B g cc F := hA8.call ((Below.refl _ _).drew)
          have hX9 : Ax2 w9 w9.drew M X g1 M F1 := hX8.call ((Below.refl _ _).drew)
          have b8 := hA8.box
          have x8 := hX8.box
          have b9 := hA9.box
          have x9 := hX9.box
          go_wp2_with fail
          go_region_held3 (fun w' => w'.cell? ⟨B, 0, none⟩ = some (.slice (some ⟨g, 0, none⟩) M cc) ∧ w'.cell? ⟨X, 0, none⟩ = some (.slice (some ⟨g1, 0, none⟩) M M)) (first | (constructor <;> assumption) | go_keep)
            (first
              | (go_at_call 13; refine (HAU.out _ X g1 M F1 (by assumption)).mono ?_; rintro e wa ⟨rfl, hk⟩; rw [HWF.out]; have hAn := hk _ _ _ _ (by assumption : Ax2 w9 _ M B g cc F); have hXn := hk _ _ _ _ (by assumption : Ax2 w9 _ M X g1 M F1); have ban := hAn.box; have xan := hXn.box; clear hk)
              | (go_at_call 14; refine (has_no ua _ uc _ x _ (by assumption) HUL.out HNO.out).mono ?_; rintro e wh ⟨rfl, rfl⟩)
              | (go_at_call 16; refine (HFW.out _ _ _ _ _ (by assumption)).mono ?_; rintro e wf ⟨rfl, hk⟩; have hAn := hk _ _ _ _ (by assumption : Ax2 w9 _ M B g cc F); have hXn := hk _ _ _ _ (by assumption : Ax2 w9 _ M X g1 M F1); have ban := hAn.box; have xan := hXn.box; clear hk)
              | (go_at_call 15; refine (HU.out _ _ _ _ _ (by assumption)).mono ?_; rintro e wb ⟨ua, uc, rfl, hru, hk⟩; have hAn := hk _ _ _ _ (by assumption : Ax2 w9 _ M B g cc F); have hXn := hk _ _ _ _ (by assumption : Ax2 w9 _ M X g1 M F1); have ban := hAn.box; have xan := hXn.box; clear hk))
          all_goals
            go_wp2_with fail
            go_ret
            exact ⟨by first | rfl | exact ret_bool (by simp), below_join HBZ.out (Ax2.bel (by assumption : Ax2 w9 _ M B g cc F))⟩
        case pos =>
          subst hd0
          obtain ⟨hWG, q, m, rfl, hm1, hmem, _, _⟩ := HB8.out.2.given (by omega)
          have HQ : Hid (∀ n, blkI G M (q : Int) = some (n, true) → ∃ p : Nat, (q : Int) = p ∧ blkO G M p = some (n, true) ∧ (p, n, true) ∈ bk G M 0) := fun n hn => by
            unfold blkI at hn
            rw [if_neg (by omega)] at hn
            have hn : blkO G M q = some (n, true) := hn
            have h2 := (bk_blk hmem).1
            rw [hn] at h2
            injection h2 with h2
            injection h2 with h2 _
            subst h2
            exact ⟨q, rfl, hn, hmem⟩
          clear hWG hm1 hmem
          go_wp2_with fail
          refine (implRelease_any (some ⟨g2, 0, none⟩) M M G q w9 HB8.out.1.rd (by omega) (Nat.le_refl _) HQ.out).mono ?_
          rintro e w10 ⟨g4, c4, Z, rfl, hi10, hR10, hb10⟩
          obtain ⟨rfl, hZ⟩ := back_same HB8.out.2 hR10 (by omega)
          have hbn := (Below.refl w10.heap.size w10).alloc (Nat.le_refl _) (.cells #[.slice (some ⟨g4, 0, none⟩) M M] 26)
          have HA11 : Hid (Ax2 w1 (w10.alloc (.cells #[.slice (some ⟨g4, 0, none⟩) M M] 26)) M B g cc F ∧ Ax2 w1 (w10.alloc (.cells #[.slice (some ⟨g4, 0, none⟩) M M] 26)) M X g1 M F1 ∧ Ax2 w1 (w10.alloc (.cells #[.slice (some ⟨g4, 0, none⟩) M M] 26)) M w10.heap.size g4 M Z) := ⟨(HAc.out.1.call hb10).call hbn, (HAc.out.2.call hb10).call hbn, ⟨((HAc.out.1.call hb10).call hbn).bel, World.cell?_alloc_new w10 _ _ 0, hi10.rd.below hbn, Nat.le_refl _⟩⟩
          have HZ : Hid (∀ j, j < M → Z j = F1 j) := fun j _ => hZ j
          have x11 := HA11.out.2.1.box
          have z11 := HA11.out.2.2.box
          clear hi10 hR10 hb10 hbn hZ HAc HB8 HQ c8
          go_wp2_with fail
          generalize (w10.alloc (.cells #[.slice (some ⟨g4, 0, none⟩) M M] 26)) = w11 at HA11 x11 z11 ⊢
          generalize w10.heap.size = V at HA11 z11 ⊢
          refine (sameInts_same (some ⟨g4, 0, none⟩) (some ⟨g1, 0, none⟩) M M M Z F1 _ HA11.out.2.2.rd HA11.out.2.1.rd HZ.out (by omega)).mono ?_
          rintro e w12 ⟨rfl, hb12⟩
          have HAZ : Hid (Ax2 w1 w12 M B g cc F ∧ Ax2 w1 w12 M X g1 M F1 ∧ Below w1.heap.size w1 w12) := ⟨HA11.out.1.call hb12, HA11.out.2.1.call hb12, (HA11.out.1.call hb12).bel⟩
          clear hb12 HA11 x11 z11 HZ
          have hA8 : Ax2 w12 w12 M B g cc F := ⟨Below.refl _ _, HAZ.out.1.box, HAZ.out.1.rd, hcc⟩
          have hX8 : Ax2 w12 w12 M X g1 M F1 := ⟨Below.refl _ _, HAZ.out.2.1.box, HAZ.out.2.1.rd, Nat.le_refl _⟩
          have HBZ : Hid (Below w1.heap.size w1 w12) := HAZ.out.2.2
          have HU : Hid (∀ wy Y gg c2 FF, Ax2 w12 wy M Y gg c2 FF → Calls Try.prog 15 #[.agg #[.slice (some ⟨gg, 0, none⟩) M c2]] wy fun e w' => ∃ ua uc, e = .returned (.slice ua (uN FF) uc) ∧ Rd w' ua (uN FF) (fun j => ((us FF).getD j 0 : Nat)) ∧ Keep2 w12 wy w' M) := fun wy Y gg c2 FF h => by
            have := used2 HM.out.1 h
            rw [← HUN.out.1 FF, ← HUN.out.2.1 FF] at this
            exact this
          have HAU : Hid (∀ wy Y gg c2 FF, Ax2 w12 wy M Y gg c2 FF → Calls Try.prog 13 #[.agg #[.slice (some ⟨gg, 0, none⟩) M c2]] wy fun e w' => e = .returned (.int .i64 (aud FF M 0 false)) ∧ Keep2 w12 wy w' M) := fun wy Y gg c2 FF h => audit2 HM.out.1 h
          have HFW : Hid (∀ wy Y gg c2 FF, Ax2 w12 wy M Y gg c2 FF → Calls Try.prog 16 #[.agg #[.slice (some ⟨gg, 0, none⟩) M c2]] wy fun e w' => e = .returned (.int .i64 (fs FF : Nat)) ∧ Keep2 w12 wy w' M) := fun wy Y gg c2 FF h => by
            have := free2 HM.out.1 h
            rw [← HUN.out.2.2 FF] at this
            exact this
          have hA9 : Ax2 w12 w12.drew M B g cc F := hA8.call ((Below.refl _ _).drew)
          have hX9 : Ax2 w12 w12.drew M X g1 M F1 := hX8.call ((Below.refl _ _).drew)
          have b8 := hA8.box
          have x8 := hX8.box
          have b9 := hA9.box
          have x9 := hX9.box
          go_wp2_with fail
          go_region_held3 (fun w' => w'.cell? ⟨B, 0, none⟩ = some (.slice (some ⟨g, 0, none⟩) M cc) ∧ w'.cell? ⟨X, 0, none⟩ = some (.slice (some ⟨g1, 0, none⟩) M M)) (first | (constructor <;> assumption) | go_keep)
            (first
              | (go_at_call 13; refine (HAU.out _ X g1 M F1 (by assumption)).mono ?_; rintro e wa ⟨rfl, hk⟩; rw [HWF.out]; have hAn := hk _ _ _ _ (by assumption : Ax2 w12 _ M B g cc F); have hXn := hk _ _ _ _ (by assumption : Ax2 w12 _ M X g1 M F1); have ban := hAn.box; have xan := hXn.box; clear hk)
              | (go_at_call 14; refine (has_no ua _ uc _ x _ (by assumption) HUL.out HNO.out).mono ?_; rintro e wh ⟨rfl, rfl⟩)
              | (go_at_call 16; refine (HFW.out _ _ _ _ _ (by assumption)).mono ?_; rintro e wf ⟨rfl, hk⟩; have hAn := hk _ _ _ _ (by assumption : Ax2 w12 _ M B g cc F); have hXn := hk _ _ _ _ (by assumption : Ax2 w12 _ M X g1 M F1); have ban := hAn.box; have xan := hXn.box; clear hk)
              | (go_at_call 15; refine (HU.out _ _ _ _ _ (by assumption)).mono ?_; rintro e wb ⟨ua, uc, rfl, hru, hk⟩; have hAn := hk _ _ _ _ (by assumption : Ax2 w12 _ M B g cc F); have hXn := hk _ _ _ _ (by assumption : Ax2 w12 _ M X g1 M F1); have ban := hAn.box; have xan := hXn.box; clear hk))
          all_goals
            go_wp2_with fail
            go_ret
            exact ⟨by first | rfl | exact ret_bool (by simp), below_join HBZ.out (Ax2.bel (by assumption : Ax2 w12 _ M B g cc F))⟩
end Go.Proofs.Ytmongbpdbcbhlaa
