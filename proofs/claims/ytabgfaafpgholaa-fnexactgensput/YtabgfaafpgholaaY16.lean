/-
  spec.GensPut.
-/
import Derived.Test.YtabgfaafpgholaaY15
namespace Go.Proofs.Ytabgfaafpgholaa
open Go.RowKit
set_option linter.unusedVariables false

theorem Turn.drewQ {cb : Nat} {a w : World} (h : Turn cb a w) : Turn cb a w.drew := ⟨h.os, h.tape, h.output, h.size, h.block⟩
theorem nilT (w : World) : (w.alloc (.cells #[] 9)).ownsRow w.heap.size 9 1 (.slice (some ⟨w.heap.size, 0, none⟩) 0 0) 0 [] := World.ownsRow_made (e := 9) (size := 1) w #[] 0 (Nat.le_refl _) (Nat.zero_le _) rfl
theorem AG.copy {w w6 X w8 : World} {gv T : Array Value} {xs ys : List Int} {m : Int} {A B : List ByteArray} {g c g2 c2 ga ca o1 n1 G g8 c8 : Nat} (h : AG w w6 gv T xs ys m B g c g2 c2 ga ca o1 n1) (hX : Turn (w.heap.size + 1 + 1) w6 X) (hG : w6.heap.size ≤ G) (ho : w8.ownsRow w6.heap.size 9 1 (.slice (some ⟨g8, 0, none⟩) A.length c8) A.length (A.map Value.string)) (hg : X.grownBy w8 (some G)) : Below w.heap.size w w8 ∧ Turn (w.heap.size + 1 + 1) w6 w8 ∧ ∀ wF, Turn (w.heap.size + 1 + 1) w8 wF → PtAG w wF g c g2 c2 g8 c8 xs ys A := by
  have s := hX.size
  have s2 := hg.size
  have t : Turn (w.heap.size + 1 + 1) w6 w8 := ⟨hg.os.trans hX.os, hg.tape.trans hX.tape, hg.output.trans hX.output, by omega, fun k hk hn => (hg.block k (by omega) (fun e => by injection e with e; omega)).trans (hX.block k hk hn)⟩
  have l1 := h.l1
  have l2 := h.l2
  have l3 := h.l3
  have l8 := ho.lt g8 rfl
  have hb := h.be.size
  refine ⟨h.be.trans ⟨t.os, t.tape, t.output, t.size, fun k hk => t.block k (by omega) (by omega)⟩, t, fun wF tF => ?_⟩
  obtain ⟨f1, f2, _, f4⟩ := h.fin (t.trans tF)
  exact ⟨f1, f2, own_low (ho.kept tF.grown (Or.inr (by simp [Value.ownBlock]; omega))) hb, f4⟩
theorem keepRV {X w8 : World} {G rv n : Nat} (hg : X.grownBy w8 (some G)) (h : rv < n) (h2 : rv < X.heap.size ∧ rv ≠ G) : ∀ o, w8.cell? ⟨rv, o, none⟩ = X.cell? ⟨rv, o, none⟩ ∧ w8.frozen? ⟨rv, o, none⟩ = X.frozen? ⟨rv, o, none⟩ := fun o => by
  have e := hg.block rv h2.1 (fun e => by injection e with e; omega)
  exact ⟨World.cell?_of_block e, World.frozen?_of_block e⟩
set_option maxHeartbeats 8000000 in
set_option maxRecDepth 100000 in
theorem gensPut_any (w : World) (u1 u2 : Value) (xs ys : List Int) (m : Int) (ab ao ac : Nat) (A : List ByteArray) (t : Tm) (v : Value) (h1 : WV w w.heap.size u1 xs) (h2 : WV w w.heap.size u2 ys) (hA : Txt w ab ao A) (hab : ab < w.heap.size) (hR : RpV (fun b => b < w.heap.size) w t v) (hx : xs.length ≤ 1048576) (hy : ys.length ≤ 1048576) (hal : A.length ≤ 1048576) (hat : (look t 6 100).isSome = true → A.length + nT t ≤ 1048577) :
    Calls Try.prog 31 #[.agg #[u1, u2, .int .i64 m], .slice (some ⟨ab, ao, none⟩) A.length ac, v] w (PtG w t xs ys m A) := by
  obtain ⟨k, n, s, l⟩ := t
  obtain ⟨ax, cap, rfl, hs, hlc, hcm, hr⟩ := hR
  obtain ⟨p1, c1, rfl⟩ := h1.form
  obtain ⟨p2, c2, rfl⟩ := h2.form
  have HB0 : Hid (∀ o1 o2 o3 : Obj, Below w.heap.size w (((w.alloc o1).alloc o2).alloc o3)) := fun o1 o2 o3 => by
    have b1 : Below w.heap.size w ((w.alloc o1).alloc o2) := ((Below.refl _ _).alloc (Nat.le_refl _) o1).alloc (by rw [World.size_alloc]; omega) o2
    exact b1.alloc b1.size _
  have HW1 : Hid (∀ w', Below w.heap.size w w' → WV w' w'.heap.size (.slice p1 xs.length c1) xs) := fun w' hb => h1.below hb
  have HW2 : Hid (∀ w', Below w.heap.size w w' → WV w' w'.heap.size (.slice p2 ys.length c2) ys) := fun w' hb => h2.below hb
  have HX : Hid (xs.length ≤ 1048576 ∧ ys.length ≤ 1048576) := ⟨hx, hy⟩
  have HN : Hid (∀ (w1 : World) (X : Obj), ((w1.alloc X).alloc (.cells #[] 9)).ownsRow (w1.heap.size + 1) 9 1 (.slice (some ⟨w1.heap.size + 1, 0, none⟩) 0 0) 0 []) := fun w1 X => by
    have h := World.ownsRow_made (e := 9) (size := 1) (w1.alloc X) #[] 0 (Nat.le_refl _) (Nat.zero_le _) rfl
    rw [World.size_alloc] at h
    exact h
  have HZ : Hid (∀ (w1 : World) (X Y : Obj), w1.heap.size + 1 ≤ ((w1.alloc X).alloc Y).heap.size) := fun w1 X Y => by simp only [World.size_alloc]; omega
  have HC : Hid (∀ (w1 : World) (X Y : Obj), Below w.heap.size w w1 → ∀ j u, (A.map Value.string)[j]? = some u → ((w1.alloc X).alloc Y).cell? ((⟨ab, ao, none⟩ : Addr).add j) = some u) := fun w1 X Y hb => by
    have b1 : Below w.heap.size w ((w1.alloc X).alloc Y) := (hb.alloc hb.size X).alloc (by rw [World.size_alloc]; have := hb.size; omega) Y
    exact srcT (fun j hj => by rw [b1.cell (p := ⟨ab, ao + j, none⟩) hab]; exact hA j hj)
  have HL : Hid ((A.map Value.string).length = A.length * 1) := by show _ = _; simp
  have C3 : Hid (0 + A.length ≤ maxLen) := by show _ ≤ _; unfold maxLen; omega
  have C4 : Hid ((0 + A.length) * 16 ≤ 140737488355328) := by show _ ≤ _; omega
  obtain ⟨i0, hi, hz0, hz1, hz2⟩ := info_parts infoStr1
  have HI : Hid (Try.prog.info? 9 = some i0 ∧ i0.zero = some (.string ByteArray.empty) ∧ i0.size = 1 ∧ i0.bytes = 16) := ⟨hi, hz0, hz1, hz2⟩
  have HAL : Hid (A.length ≤ 1048576) := hal
  have HAT : Hid ((look (.mk k n s l) 6 100).isSome = true → A.length + nT (.mk k n s l) ≤ 1048577) := hat
  have HRR : Hid (RpL (fun b => b < w.heap.size) w l ax) := hr
  have HSS : Hid (s.size ≤ maxLen ∧ l.length ≤ cap ∧ cap ≤ maxLen) := ⟨hs, hlc, hcm⟩
  have HTX : Hid (∀ X, Below w.heap.size w X → Txt X ab ao A) := fun X hb => hA.below hb
  clear h1 h2 hx hy hi hz0 hz1 hz2 hA hal hat hr hs hlc hcm
  go_enter Try.func31, Try.ntmps31
  go_wp2_with (first
    | (go_at_call 62; refine (l6copy_any _ _ _ xs ys m (HW1.out _ (HB0.out _ _ _)) (HW2.out _ (HB0.out _ _ _)) HX.out.1 HX.out.2).mono ?_; rintro e w1 ⟨g, c, g2, c3, rfl, q1, q2, q3, q4⟩; have HO1 := hidQ q1; have HO2 := hidQ q2; have HGN := hidQ q3; have HB1 := hidQ q4; have HBW : Hid (Below w.heap.size w w1) := (HB0.out _ _ _).trans (q4.mono (HB0.out _ _ _).size); clear q1 q2 q3 q4)
    | (at_builtin; refine wpList_append_own_at _ rfl _ _ 25 rfl (w1.heap.size + 1) 9 i0 (.string ByteArray.empty) 1 16 undStrs1 HI.out.1 HI.out.2.1 HI.out.2.2.1 HI.out.2.2.2 rfl Nat.zero_lt_one (.slice (some ⟨w1.heap.size + 1, 0, none⟩) 0 0) 0 [] rfl (HN.out w1 _) ⟨ab, ao, none⟩ A.length ac (A.map Value.string) rfl HL.out (HC.out w1 _ _ HBW.out) (oneT A) C3.out C4.out (HZ.out w1 _ _) ?_; intro v2 w2 hown2 hgr2 hnn2 hat2; rw [Nat.zero_add, List.nil_append] at hown2; obtain ⟨ga, ca, rfl⟩ := ownForm hown2 (fun e => by have := (hnn2.1 e).1; cases this)))
  have h0 := ag_of (ty6 := 25) HB1.out HO1.out HO2.out HGN.out hgr2 hown2
  have H0 : Hid (AG w _ _ _ xs ys m A g c g2 c3 ga ca w1.heap.size w2.heap.size) := h0
  clear HN HZ HC HB1 HO1 HO2 HGN HBW hgr2 hown2 hnn2 hat2 h0 HB0
  generalize w2.alloc (.cells #[.slice (some ⟨ga, 0, none⟩) A.length ca] 25) = w3 at *
  generalize w1.heap.size = o1 at *
  generalize w2.heap.size = n1 at *
  have HREP : Hid (∀ w', Below w.heap.size w w' → RpV (fun b => b < w.heap.size) w' (.mk k n s l) (.agg #[.int .i64 k, .int .i64 n, .string s, .slice ax l.length cap])) := fun w' hb => ⟨ax, cap, rfl, HSS.out.1, HSS.out.2.1, HSS.out.2.2, Moves.repL (fun b o v hlt hc => ⟨hlt, by rw [hb.cell (p := ⟨b, o, none⟩) hlt]; exact hc⟩) _ _ HRR.out⟩
  have h1 : w3.cell? ⟨w.heap.size, 1, none⟩ = some (.slice p2 ys.length c2) := H0.out.hc 1
  have h2 := H0.out.tc
  clear HRR HSS
  cases hlk : (look (.mk k n s l) 6 100).isSome with
  | false =>
    have HLK : Hid ((look (.mk k n s l) 6 100).isSome = false) := hlk
    have HPR : Hid (PtB (.mk k n s l) ys 100000 1000 A = none) := by show _ = _; unfold PtB; rw [if_neg]; rw [hlk]; simp
    clear hlk
    first
    | go_region_law (go_simp; go_wp2_with (go_at_call 40; refine (specOk_any (.mk k n s l) 0 _ _ (HREP.out _ H0.out.drew.be).rep).mono ?_; rintro e w4 ⟨rfl, hb4⟩; rw [HLK.out]; have H4 : Hid (AG w w4 _ _ xs ys m A g c g2 c3 ga ca o1 n1) := H0.out.drew.below hb4; clear hb4))
    | fail
    all_goals
      clear h1 h2 H0
      go_wp2_with fail
      have HQ : Hid (∀ X, Turn (w.heap.size + 1 + 1) w4 X → X.cell? ⟨o1, 0, none⟩ = some (.slice (some ⟨g, 0, none⟩) xs.length c) ∧ X.cell? ⟨o1, 1, none⟩ = some (.slice (some ⟨g2, 0, none⟩) ys.length c3) ∧ X.cell? ⟨o1, 2, none⟩ = some (.int .i64 m) ∧ X.cell? ⟨n1, 0, none⟩ = some (.slice (some ⟨ga, 0, none⟩) A.length ca)) := fun X t => ⟨t.cell (by have := H4.out.l1; omega) (H4.out.oc 0), t.cell (by have := H4.out.l1; omega) (H4.out.oc 1), t.cell (by have := H4.out.l1; omega) (H4.out.oc 2), t.cell (by have := H4.out.l1; have := H4.out.l2; omega) H4.out.ns.ac⟩
      have S0 := HQ.out w4.drew ⟨rfl, rfl, rfl, Nat.le_refl _, fun _ _ _ => rfl⟩
      have r0 : w4.cell? ⟨w.heap.size + 1 + 1, 0, none⟩ = some (.slice none 0 0) := H4.out.rc 0
      have r1 : w4.cell? ⟨w.heap.size + 1 + 1, 1, none⟩ = some (.slice none 0 0) := H4.out.rc 1
      have r2 : w4.cell? ⟨w.heap.size + 1 + 1, 2, none⟩ = some (.int .i64 0) := H4.out.rc 2
      have rf := H4.out.rf
      go_region_held3 (fun X => X.cell? ⟨o1, 0, none⟩ = some (.slice (some ⟨g, 0, none⟩) xs.length c) ∧ X.cell? ⟨o1, 1, none⟩ = some (.slice (some ⟨g2, 0, none⟩) ys.length c3) ∧ X.cell? ⟨o1, 2, none⟩ = some (.int .i64 m) ∧ X.cell? ⟨n1, 0, none⟩ = some (.slice (some ⟨ga, 0, none⟩) A.length ca)) (first | (refine HQ.out _ ?_; (repeat' first | with_reducible exact Turn.refl _ _ | with_reducible refine Turn.set ?_ _ _ | with_reducible refine Turn.drewQ ?_); done) | go_keep) (fail)
      all_goals
        go_wp2_with fail
        exact bodyPost_ret (v := .tuple #[.agg #[.slice (some ⟨g, 0, none⟩) xs.length c, .slice (some ⟨g2, 0, none⟩) ys.length c3, .int .i64 m], .slice (some ⟨ga, 0, none⟩) A.length ca, .int .i64 0, .bool false]) (by simp [results, Try.results31, go_sem, r0, r1, r2]) rfl ⟨g, c, g2, c3, ga, ca, ys, A, 0, false, rfl, H4.out.fin (by (repeat' first | with_reducible exact Turn.refl _ _ | with_reducible refine Turn.set ?_ _ _ | with_reducible refine Turn.drewQ ?_)), .inl ⟨rfl, rfl, rfl, rfl, HPR.out⟩⟩
  | true =>
    have HLK : Hid ((look (.mk k n s l) 6 100).isSome = true) := hlk
    obtain ⟨b1, b2, b3⟩ := look_b hlk
    have HG : Hid (goodT (.mk k n s l)) := b1
    obtain ⟨y, hy⟩ : ∃ y, ndT (.mk k n s l) = y := ⟨_, rfl⟩
    have HY : Hid (ndT (.mk k n s l) = y) := hy
    have hy2 : y ≤ 4100 := by omega
    obtain ⟨q, hq⟩ : ∃ q : Nat, ys.length + y = q := ⟨_, rfl⟩
    have hys := HX.out.2
    have hw1 : IntKind.i64.wrap ((ys.length : Int) + (y : Int)) = (q : Int) := by rw [IntKind.wrap_i64]; omega
    have HQQ : Hid (ys.length + y = q) := hq
    have HNT : Hid (nT (.mk k n s l) ≤ 100) := b2
    have HY2 : Hid (ndT (.mk k n s l) ≤ 1000000) := by show _ ≤ _; omega
    clear hlk b1 b2 b3 hy hy2 hq hys
    have HS3 : Hid (∀ X, Below w3.heap.size w3 X → X.cell? ⟨w.heap.size, 1, none⟩ = some (.slice p2 ys.length c2) ∧ X.cell? ⟨w.heap.size + 1, 0, none⟩ = some (.int .i64 k) ∧ X.cell? ⟨w.heap.size + 1, 1, none⟩ = some (.int .i64 n) ∧ X.cell? ⟨w.heap.size + 1, 2, none⟩ = some (.string s) ∧ X.cell? ⟨w.heap.size + 1, 3, none⟩ = some (.slice ax l.length cap)) := fun X hb => ⟨(H0.out.below hb).hc 1, (H0.out.below hb).tc 0, (H0.out.below hb).tc 1, (H0.out.below hb).tc 2, (H0.out.below hb).tc 3⟩
    have S3 := HS3.out w3.drew (Below.refl _ _).drew
    clear h1 h2
    go_region_held3 (fun X => X.cell? ⟨w.heap.size, 1, none⟩ = some (.slice p2 ys.length c2) ∧ X.cell? ⟨w.heap.size + 1, 0, none⟩ = some (.int .i64 k) ∧ X.cell? ⟨w.heap.size + 1, 1, none⟩ = some (.int .i64 n) ∧ X.cell? ⟨w.heap.size + 1, 2, none⟩ = some (.string s) ∧ X.cell? ⟨w.heap.size + 1, 3, none⟩ = some (.slice ax l.length cap)) (first | (refine HS3.out _ ?_; (first | with_reducible exact HB5.out | with_reducible exact HB5.out.drew | with_reducible exact HB4.out | with_reducible exact HB4.out.drew); done) | go_keep) (first
      | (go_at_call 40; refine (specOk_any (.mk k n s l) 0 _ _ (HREP.out _ H0.out.drew.be).rep).mono ?_; rintro e w4 ⟨rfl, hb4⟩; rw [HLK.out]; have H4 : Hid (AG w w4 _ _ xs ys m A g c g2 c3 ga ca o1 n1) := H0.out.drew.below hb4; have HB4 : Hid (Below w3.heap.size w3 w4) := (Below.refl w3.heap.size w3).drew.trans hb4; clear hb4)
      | (go_at_call 41; refine (nd_all (.mk k n s l) 0 _ _ (HREP.out _ H4.out.be).rep HY2.out).mono ?_; rintro e w5 ⟨rfl, hb5⟩; rw [HY.out]; have H5 : Hid (AG w w5 _ _ xs ys m A g c g2 c3 ga ca o1 n1) := H4.out.below hb5; have HB5 : Hid (Below w3.heap.size w3 w5) := HB4.out.trans (hb5.mono HB4.out.size); clear hb5))
    all_goals
      clear S3 HS3 H0 H4 HB4 HB5
      by_cases hq2 : 1000 < q
      · have hq3 : (1000 : Int) < (q : Int) := by omega
        have HPR : Hid (PtB (.mk k n s l) ys 100000 1000 A = none) := by show _ = _; unfold PtB; rw [if_neg]; have := HQQ.out; have := HY.out; omega
        clear hq2
        go_wp2_with fail
        have HQ : Hid (∀ X, Turn (w.heap.size + 1 + 1) w5 X → X.cell? ⟨o1, 0, none⟩ = some (.slice (some ⟨g, 0, none⟩) xs.length c) ∧ X.cell? ⟨o1, 1, none⟩ = some (.slice (some ⟨g2, 0, none⟩) ys.length c3) ∧ X.cell? ⟨o1, 2, none⟩ = some (.int .i64 m) ∧ X.cell? ⟨n1, 0, none⟩ = some (.slice (some ⟨ga, 0, none⟩) A.length ca)) := fun X t => ⟨t.cell (by have := H5.out.l1; omega) (H5.out.oc 0), t.cell (by have := H5.out.l1; omega) (H5.out.oc 1), t.cell (by have := H5.out.l1; omega) (H5.out.oc 2), t.cell (by have := H5.out.l1; have := H5.out.l2; omega) H5.out.ns.ac⟩
        have S0 := HQ.out w5.drew ⟨rfl, rfl, rfl, Nat.le_refl _, fun _ _ _ => rfl⟩
        have r0 : w5.cell? ⟨w.heap.size + 1 + 1, 0, none⟩ = some (.slice none 0 0) := H5.out.rc 0
        have r1 : w5.cell? ⟨w.heap.size + 1 + 1, 1, none⟩ = some (.slice none 0 0) := H5.out.rc 1
        have r2 : w5.cell? ⟨w.heap.size + 1 + 1, 2, none⟩ = some (.int .i64 0) := H5.out.rc 2
        have rf := H5.out.rf
        go_region_held3 (fun X => X.cell? ⟨o1, 0, none⟩ = some (.slice (some ⟨g, 0, none⟩) xs.length c) ∧ X.cell? ⟨o1, 1, none⟩ = some (.slice (some ⟨g2, 0, none⟩) ys.length c3) ∧ X.cell? ⟨o1, 2, none⟩ = some (.int .i64 m) ∧ X.cell? ⟨n1, 0, none⟩ = some (.slice (some ⟨ga, 0, none⟩) A.length ca)) (first | (refine HQ.out _ ?_; (repeat' first | with_reducible exact Turn.refl _ _ | with_reducible refine Turn.set ?_ _ _ | with_reducible refine Turn.drewQ ?_); done) | go_keep) (fail)
        all_goals
          go_wp2_with fail
          exact bodyPost_ret (v := .tuple #[.agg #[.slice (some ⟨g, 0, none⟩) xs.length c, .slice (some ⟨g2, 0, none⟩) ys.length c3, .int .i64 m], .slice (some ⟨ga, 0, none⟩) A.length ca, .int .i64 0, .bool false]) (by simp [results, Try.results31, go_sem, r0, r1, r2]) rfl ⟨g, c, g2, c3, ga, ca, ys, A, 0, false, rfl, H5.out.fin (by (repeat' first | with_reducible exact Turn.refl _ _ | with_reducible refine Turn.set ?_ _ _ | with_reducible refine Turn.drewQ ?_)), .inl ⟨rfl, rfl, rfl, rfl, HPR.out⟩⟩
      · have hq3 : ¬ (1000 : Int) < (q : Int) := by omega
        have HPR : Hid (PtB (.mk k n s l) ys 100000 1000 A = ptT (.mk k n s l) (100000 + ys.length) A) := by show _ = _; unfold PtB; rw [if_pos]; exact ⟨HLK.out, by have := HQQ.out; have := HY.out; omega⟩
        have HLAY : Hid (Calls Try.prog 63 #[.pointer (some ⟨n1, 0, none⟩), .agg #[.int .i64 k, .int .i64 n, .string s, .slice ax l.length cap], .int .i64 (ys.length : Int)] w5 (LyP n1 w.heap.size ga w5 A (.mk k n s l) (100000 + ys.length))) := by
          have l1 := H5.out.l1
          have l2 := H5.out.l2
          refine lay6_any n1 w.heap.size ga ca A (.mk k n s l) _ ys.length (100000 + ys.length) w5 H5.out.ns ?_ HG.out (by have := HY.out; have := HQQ.out; omega) (HAT.out HLK.out) (by have := HQQ.out; omega) rfl
          obtain ⟨ax', cap', e1, e2, e3, e4, e5⟩ := HREP.out w5 H5.out.be
          refine ⟨ax', cap', e1, e2, e3, e4, Moves.repL (fun b o v hlt hc => ⟨⟨hlt, ?_⟩, hc⟩) _ _ e5⟩
          have : b < w.heap.size := hlt
          omega
        have k1 : w5.cell? ⟨w.heap.size, 1, none⟩ = some (.slice p2 ys.length c2) := H5.out.hc 1
        have k2 := H5.out.tc
        clear hq2
        obtain ⟨j0, hj0, hj1, hj2, hj3⟩ := infoParts infoInt
        have HJ : Hid (Try.prog.info? 3 = some j0 ∧ j0.zero = some (.int .i64 0) ∧ j0.size = 1 ∧ j0.bytes = 8) := ⟨hj0, hj1, hj2, hj3⟩
        clear hj0 hj1 hj2 hj3
        go_wp2_with (first
          | (go_at_call 63; refine HLAY.out.mono ?_; rintro e w6 ⟨gz, cz, x, ok, gb, cb, zs, B, rfl, z1, z2, z3, z4, z5, z6, z7, z8, z9⟩; have H6 : Hid (AG w w6 _ _ xs ys m B g c g2 c3 gb cb o1 n1) := H5.out.lay z4 z5 z6; have HZS : Hid (∀ j (h : j < zs.length), w6.cell? ⟨gz, j, none⟩ = some (.int .i64 zs[j])) := z3; have HOR : Hid ((ok = true ∧ ptT (.mk k n s l) (100000 + ys.length) A = some (zs, B, x)) ∨ (ok = false ∧ ptT (.mk k n s l) (100000 + ys.length) A = none)) := z9; have HLE : Hid (ys.length + zs.length ≤ 1000 ∧ B.length ≤ A.length + 100) := ⟨(by rw [z7]; have := HY.out; have := HQQ.out; omega), (by have := HNT.out; omega)⟩; have k3 := H6.out.oc; have k4 := H6.out.of; clear z1 z2 z3 z4 z5 z6 z7 z8 z9)
          | (at_builtin; refine wpList_append_own_at _ rfl _ _ 22 rfl w.heap.size 3 j0 (.int .i64 0) 1 8 undInts HJ.out.1 HJ.out.2.1 HJ.out.2.2.1 HJ.out.2.2.2 rfl Nat.zero_lt_one (.slice (some ⟨g2, 0, none⟩) ys.length c3) ys.length (ys.map (Value.int .i64)) rfl H6.out.r2 ⟨gz, 0, none⟩ zs.length cz (zs.map (Value.int .i64)) rfl (by simp) (srcW HZS.out) (oneW zs) (by have := HLE.out.1; unfold maxLen; omega) (by have := HLE.out.1; omega) H6.out.be.size ?_; intro v8 w8 hown8 hgr8 hnn8 hat8; obtain ⟨g8, c8, rfl⟩ := ownForm hown8 (fun e => by have := (hnn8.1 e).1; cases this); have HG8 := hidQ hgr8; have HO8 := hidQ hown8; have HA8 := hidQ hat8; have HR8 : Hid (∀ o, w8.cell? ⟨o1, o, none⟩ = (#[.slice (some ⟨g, 0, none⟩) xs.length c, .slice (some ⟨g2, 0, none⟩) ys.length c3, .int .i64 m] : Array Value)[o]? ∧ w8.frozen? ⟨o1, o, none⟩ = false) := (fun o => by have e := HG8.out.block o1 (by have := H6.out.l2; have := H6.out.l3; omega) (fun e => by have := H6.out.ne; simp only [Value.ownBlock, Option.some.injEq] at e; omega); exact ⟨by rw [World.cell?_of_block e]; exact H6.out.oc o, by rw [World.frozen?_of_block e]; exact H6.out.of o⟩); have k5 : w8.cell? ⟨o1, 1, none⟩ = some (.slice (some ⟨g2, 0, none⟩) ys.length c3) := (HR8.out 1).1; have k6 := (fun o => (HR8.out o).2); clear hown8 hgr8 hnn8 hat8))
        · have hok : ok = false := by cases ok <;> simp_all
          have HPN : Hid (PtB (.mk k n s l) ys 100000 1000 A = none) := by
            show _ = _
            rw [HPR.out]
            rcases HOR.out with ⟨e, _⟩ | ⟨_, e⟩
            · rw [hok] at e; cases e
            · exact e
          have HRV : Hid (w.heap.size + 1 + 1 < w6.heap.size) := by show _ < _; have := H6.out.l1; have := H6.out.l2; have := H6.out.l3; omega
          have HBX : Hid (∀ X, Turn (w.heap.size + 1 + 1) w6 X → Below w.heap.size w X) := fun X t => H6.out.be.trans ⟨t.os, t.tape, t.output, t.size, fun k hk => t.block k (by have := HRV.out; omega) (by omega)⟩
          have HSX : Hid (∀ X, Turn (w.heap.size + 1 + 1) w6 X → w6.heap.size ≤ X.heap.size) := fun X t => t.size
          have HXR : Hid (∀ o, (w6.alloc (.cells #[] 9)).drew.cell? ⟨w.heap.size + 1 + 1, o, none⟩ = (#[.slice none 0 0, .slice none 0 0, .int .i64 0] : Array Value)[o]? ∧ (w6.alloc (.cells #[] 9)).drew.frozen? ⟨w.heap.size + 1 + 1, o, none⟩ = false) := fun o => by
            have b6 : Below w6.heap.size w6 (w6.alloc (.cells #[] 9)).drew := ((Below.refl w6.heap.size w6).alloc (Nat.le_refl _) _).drew
            exact ⟨by rw [b6.cell (p := ⟨w.heap.size + 1 + 1, o, none⟩) HRV.out]; exact H6.out.rc o, by rw [b6.frozen (p := ⟨w.heap.size + 1 + 1, o, none⟩) HRV.out]; exact H6.out.rf o⟩
          clear k1 k2 k3 k4
          have HQ : Hid (∀ X, Turn (w.heap.size + 1 + 1) w6 X → X.cell? ⟨o1, 0, none⟩ = some (.slice (some ⟨g, 0, none⟩) xs.length c) ∧ X.cell? ⟨o1, 1, none⟩ = some (.slice (some ⟨g2, 0, none⟩) ys.length c3) ∧ X.cell? ⟨o1, 2, none⟩ = some (.int .i64 m) ∧ X.cell? ⟨n1, 0, none⟩ = some (.slice (some ⟨gb, 0, none⟩) B.length cb)) := fun X t => ⟨t.cell (by have := H6.out.l1; omega) (H6.out.oc 0), t.cell (by have := H6.out.l1; omega) (H6.out.oc 1), t.cell (by have := H6.out.l1; omega) (H6.out.oc 2), t.cell (by have := H6.out.l1; have := H6.out.l2; omega) H6.out.ns.ac⟩
          have S0 := HQ.out w6.drew ⟨rfl, rfl, rfl, Nat.le_refl _, fun _ _ _ => rfl⟩
          have r0 : w6.cell? ⟨w.heap.size + 1 + 1, 0, none⟩ = some (.slice none 0 0) := H6.out.rc 0
          have r1 : w6.cell? ⟨w.heap.size + 1 + 1, 1, none⟩ = some (.slice none 0 0) := H6.out.rc 1
          have r2 : w6.cell? ⟨w.heap.size + 1 + 1, 2, none⟩ = some (.int .i64 0) := H6.out.rc 2
          have rf := H6.out.rf
          go_region_held3 (fun X => X.cell? ⟨o1, 0, none⟩ = some (.slice (some ⟨g, 0, none⟩) xs.length c) ∧ X.cell? ⟨o1, 1, none⟩ = some (.slice (some ⟨g2, 0, none⟩) ys.length c3) ∧ X.cell? ⟨o1, 2, none⟩ = some (.int .i64 m) ∧ X.cell? ⟨n1, 0, none⟩ = some (.slice (some ⟨gb, 0, none⟩) B.length cb)) (first | (refine HQ.out _ ?_; (repeat' first | with_reducible exact HE.out.2.1 | with_reducible exact Turn.refl _ _ | with_reducible refine Turn.set ?_ _ _ | with_reducible refine Turn.alloc ?_ _ | with_reducible refine Turn.drewQ ?_); done) | go_keep) (first
            | (refine step_copyT (w6.alloc (.cells #[] 9)).drew rfl (.tmp 46) (.tmp 47) rfl w6.heap.size w6.heap.size ab ao ac A ?_ ?_ (nilT w6) (HTX.out _ (HBX.out _ (by (repeat' first | with_reducible exact Turn.refl _ _ | with_reducible refine Turn.set ?_ _ _ | with_reducible refine Turn.alloc ?_ _ | with_reducible refine Turn.drewQ ?_)))) HAL.out (HSX.out _ (by (repeat' first | with_reducible exact Turn.refl _ _ | with_reducible refine Turn.set ?_ _ _ | with_reducible refine Turn.alloc ?_ _ | with_reducible refine Turn.drewQ ?_))) ?_; (focus (simp [Act.eval]; done)); (focus (simp [Act.eval]; done)); intro g8 c8 w8 ho8 hg8 ha8; have HE := hidQ (H6.out.copy (by (repeat' first | with_reducible exact Turn.refl _ _ | with_reducible refine Turn.set ?_ _ _ | with_reducible refine Turn.alloc ?_ _ | with_reducible refine Turn.drewQ ?_)) (Nat.le_refl _) ho8 hg8); have HK := hidQ (keepRV hg8 HRV.out (by simp; have := HRV.out; omega)); have r0' : w8.cell? ⟨w.heap.size + 1 + 1, 0, none⟩ = some (.slice none 0 0) := (HK.out 0).1.trans (HXR.out 0).1; have r1' : w8.cell? ⟨w.heap.size + 1 + 1, 1, none⟩ = some (.slice none 0 0) := (HK.out 1).1.trans (HXR.out 1).1; have r2' : w8.cell? ⟨w.heap.size + 1 + 1, 2, none⟩ = some (.int .i64 0) := (HK.out 2).1.trans (HXR.out 2).1; have rf' : ∀ o, w8.frozen? ⟨w.heap.size + 1 + 1, o, none⟩ = false := (fun o => (HK.out o).2.trans (HXR.out o).2); clear ho8 hg8 ha8))
          all_goals
            go_wp2_with fail
            exact bodyPost_ret (v := .tuple #[.agg #[.slice (some ⟨g, 0, none⟩) xs.length c, .slice (some ⟨g2, 0, none⟩) ys.length c3, .int .i64 m], .slice (some ⟨g8, 0, none⟩) A.length c8, .int .i64 0, .bool false]) (by simp [results, Try.results31, go_sem, r0', r1', r2']) rfl ⟨g, c, g2, c3, g8, c8, ys, A, 0, false, rfl, HE.out.2.2 _ (by (repeat' first | with_reducible exact Turn.refl _ _ | with_reducible refine Turn.set ?_ _ _ | with_reducible refine Turn.alloc ?_ _ | with_reducible refine Turn.drewQ ?_)), .inl ⟨rfl, rfl, rfl, rfl, HPN.out⟩⟩
        · have hok : ok = true := by cases ok <;> simp_all
          have H9 : Hid (AG w (w8.setCell ⟨o1, 1, none⟩ (.slice (some ⟨g8, 0, none⟩) (ys ++ zs).length c8)) _ _ xs (ys ++ zs) m B g c g8 c8 gb cb o1 n1) := H6.out.app (by rw [List.length_append, List.map_append]; exact HO8.out) HG8.out (by rcases HA8.out with e | e <;> simp only [Value.ownBlock, Option.some.injEq] at e <;> omega)
          have HFN : Hid ((∃ ns, ys ++ zs = ys ++ ns ∧ PtB (.mk k n s l) ys 100000 1000 A = some (ns, B, x)) ∧ (ys ++ zs).length ≤ 1000 ∧ B.length ≤ A.length + 100) := by
            refine ⟨⟨zs, rfl, ?_⟩, by rw [List.length_append]; exact HLE.out.1, HLE.out.2⟩
            rw [HPR.out]
            rcases HOR.out with ⟨_, e⟩ | ⟨e, _⟩
            · exact e
            · rw [hok] at e; cases e
          rw [← List.length_append]
          clear k1 k2 k3 k4 k5 k6 HR8 HO8 HG8 HA8
          generalize ys ++ zs = ws at *
          generalize w8.setCell ⟨o1, 1, none⟩ (.slice (some ⟨g8, 0, none⟩) ws.length c8) = w9 at *
          have HQ : Hid (∀ X, Turn (w.heap.size + 1 + 1) w9 X → X.cell? ⟨o1, 0, none⟩ = some (.slice (some ⟨g, 0, none⟩) xs.length c) ∧ X.cell? ⟨o1, 1, none⟩ = some (.slice (some ⟨g8, 0, none⟩) ws.length c8) ∧ X.cell? ⟨o1, 2, none⟩ = some (.int .i64 m) ∧ X.cell? ⟨n1, 0, none⟩ = some (.slice (some ⟨gb, 0, none⟩) B.length cb)) := fun X t => ⟨t.cell (by have := H9.out.l1; omega) (H9.out.oc 0), t.cell (by have := H9.out.l1; omega) (H9.out.oc 1), t.cell (by have := H9.out.l1; omega) (H9.out.oc 2), t.cell (by have := H9.out.l1; have := H9.out.l2; omega) H9.out.ns.ac⟩
          have S0 := HQ.out w9.drew ⟨rfl, rfl, rfl, Nat.le_refl _, fun _ _ _ => rfl⟩
          have r0 : w9.cell? ⟨w.heap.size + 1 + 1, 0, none⟩ = some (.slice none 0 0) := H9.out.rc 0
          have r1 : w9.cell? ⟨w.heap.size + 1 + 1, 1, none⟩ = some (.slice none 0 0) := H9.out.rc 1
          have r2 : w9.cell? ⟨w.heap.size + 1 + 1, 2, none⟩ = some (.int .i64 0) := H9.out.rc 2
          have rf := H9.out.rf
          go_region_held3 (fun X => X.cell? ⟨o1, 0, none⟩ = some (.slice (some ⟨g, 0, none⟩) xs.length c) ∧ X.cell? ⟨o1, 1, none⟩ = some (.slice (some ⟨g8, 0, none⟩) ws.length c8) ∧ X.cell? ⟨o1, 2, none⟩ = some (.int .i64 m) ∧ X.cell? ⟨n1, 0, none⟩ = some (.slice (some ⟨gb, 0, none⟩) B.length cb)) (first | (refine HQ.out _ ?_; (repeat' first | with_reducible exact Turn.refl _ _ | with_reducible refine Turn.set ?_ _ _ | with_reducible refine Turn.alloc ?_ _ | with_reducible refine Turn.drewQ ?_); done) | go_keep) (fail)
          all_goals
            go_wp2_with fail
            exact bodyPost_ret (v := .tuple #[.agg #[.slice (some ⟨g, 0, none⟩) xs.length c, .slice (some ⟨g8, 0, none⟩) ws.length c8, .int .i64 m], .slice (some ⟨gb, 0, none⟩) B.length cb, .int .i64 x, .bool true]) (by simp [results, Try.results31, go_sem, r0, r1, r2]) rfl ⟨g, c, g8, c8, gb, cb, ws, B, x, true, rfl, H9.out.fin (by (repeat' first | with_reducible exact Turn.refl _ _ | with_reducible refine Turn.set ?_ _ _ | with_reducible refine Turn.alloc ?_ _ | with_reducible refine Turn.drewQ ?_)), .inr ⟨rfl, HFN.out⟩⟩
end Go.Proofs.Ytabgfaafpgholaa
