/-
  What the law FnOrder does.
-/
import Derived.Test.YtklcpogpnoghkaaToM
import Derived.Test.YtklcpogpnoghkaaToN
import Derived.Test.YtklcpogpnoghkaaDrF
namespace Go.Proofs.Ytklcpogpnoghkaa
open Go.RowKit
set_option linter.unusedVariables false

theorem bigO_any (ao : Option Addr) (len cap : Nat) (w : World) (hm : len ≤ maxLen) :
    Calls Try.prog 4 #[.slice ao len cap] w fun e w' => e = .returned (.bool (decide (1048576 < len))) ∧ w' = w := by
  unfold maxLen at hm
  by_cases h : 1048576 < len
  · go_enter Try.func4, Try.ntmps4
    go_wp2_with fail
    go_ret
    exact ⟨by simp [h]; omega, rfl⟩
  · go_enter Try.func4, Try.ntmps4
    go_wp2_with fail
    go_ret
    exact ⟨by simp [h]; omega, rfl⟩

theorem three_newO (w : World) (A B C : Array Value) (t : TypeId) :
    let W := ((w.alloc (.cells A t)).alloc (.cells B t)).alloc (.cells C t)
    (∀ o, W.cell? ⟨w.heap.size, o, none⟩ = A[o]?) ∧ (∀ o, W.cell? ⟨w.heap.size + 1, o, none⟩ = B[o]?) ∧ (∀ o, W.cell? ⟨w.heap.size + 1 + 1, o, none⟩ = C[o]?) ∧ Below w.heap.size w W ∧ W.heap.size = w.heap.size + 1 + 1 + 1 := by
  intro W
  obtain ⟨b0, b1, b2, b3, hb, hz⟩ := four_newJ w A B C C t t t t
  have hW : ∀ k, k < w.heap.size + 1 + 1 + 1 → (W.alloc (.cells C t)).heap[k]? = W.heap[k]? := fun k hk => by
    have z : W.heap.size = w.heap.size + 1 + 1 + 1 := by show (((w.alloc _).alloc _).alloc _).heap.size = _; rw [World.size_alloc, World.size_alloc, World.size_alloc]
    exact ((Below.refl _ _).alloc (Nat.le_refl _) _).block k (by rw [z]; exact hk)
  refine ⟨fun o => cell_blkJ ((hW _ (by omega)).symm.trans b0), fun o => cell_blkJ ((hW _ (by omega)).symm.trans b1), fun o => cell_blkJ ((hW _ (by omega)).symm.trans b2), ?_, ?_⟩
  · exact ((Below.refl w.heap.size w).alloc (Nat.le_refl _) _).alloc (by rw [World.size_alloc]; omega) _ |>.alloc (by rw [World.size_alloc, World.size_alloc]; omega) _
  · show (((w.alloc _).alloc _).alloc _).heap.size = _
    rw [World.size_alloc, World.size_alloc, World.size_alloc]

set_option maxHeartbeats 4000000 in
theorem order_law (w : World) (ao : Option Addr) (len cap : Nat) (zs : List Int) (hr : IsRow w ao len cap zs) (hlc : len ≤ cap) (hcm : cap ≤ maxLen) :
    Calls Try.prog 3 #[.slice ao len cap] w fun e w' => e = .returned (.bool true) ∧ Below w.heap.size w w' := by
  have HR : Hid (IsRow w ao len cap zs) := hr
  have HBG : Hid (∀ w', Calls Try.prog 4 #[.slice ao len cap] w' fun e w'' => e = .returned (.bool (decide (1048576 < len))) ∧ w'' = w') := fun w' => bigO_any ao len cap w' (Nat.le_trans hlc hcm)
  clear hr hlc hcm
  by_cases hbig : 1048576 < len
  · have hd : decide (1048576 < len) = true := by simpa using hbig
    rw [hd] at HBG
    go_enter Try.func3, Try.ntmps3
    go_wp2_with (go_at_call 4; refine (HBG.out _).mono ?_; rintro e w' ⟨rfl, rfl⟩)
    go_ret
    exact ⟨rfl, Below.refl _ _⟩
  · have hd : decide (1048576 < len) = false := by simpa using hbig
    rw [hd] at HBG
    have HSM : Hid (len ≤ 1048576) := by show _ ≤ _; omega
    clear hd hbig
    go_enter Try.func3, Try.ntmps3
    go_wp2_with (go_at_call 4; refine (HBG.out _).mono ?_; rintro e w' ⟨rfl, hw'⟩; obtain rfl := hw'.symm)
    refine (terms_draw w ao len cap zs HR.out HSM.out).mono ?_
    rintro e w1 ⟨ta, tb, tc, va, vb, vc, rfl, hva, hvb, hvc, hta, htb, htc, hb1⟩
    obtain ⟨ak, an, as', ad, ae, af, rfl⟩ := hva.form
    obtain ⟨bk, bn, bs, bd, be, bf, rfl⟩ := hvb.form
    obtain ⟨ck, cn, cs, cd, ce, cf, rfl⟩ := hvc.form
    have HVA : Hid (RpV (Nf w1) w1 ta (.agg #[.int .i64 ak, .int .i64 an, .string as', .slice ad ae af])) := hva
    have HVB : Hid (RpV (Nf w1) w1 tb (.agg #[.int .i64 bk, .int .i64 bn, .string bs, .slice bd be bf])) := hvb
    have HVC : Hid (RpV (Nf w1) w1 tc (.agg #[.int .i64 ck, .int .i64 cn, .string cs, .slice cd ce cf])) := hvc
    have HT : Hid (RtT 2 ta ∧ RtT 2 tb ∧ RtT 2 tc) := ⟨hta, htb, htc⟩
    have HB1 : Hid (Below w.heap.size w w1) := hb1
    clear hva hvb hvc hta htb htc hb1
    go_wp2_with fail
    obtain ⟨W, hW⟩ : ∃ W, W = ((w1.alloc (.cells #[.int .i64 ak, .int .i64 an, .string as', .slice ad ae af] 26)).alloc (.cells #[.int .i64 bk, .int .i64 bn, .string bs, .slice bd be bf] 26)).alloc (.cells #[.int .i64 ck, .int .i64 cn, .string cs, .slice cd ce cf] 26) := ⟨_, rfl⟩
    obtain ⟨z0, z1, z2, z3, z4⟩ := three_newO w1 #[.int .i64 ak, .int .i64 an, .string as', .slice ad ae af] #[.int .i64 bk, .int .i64 bn, .string bs, .slice bd be bf] #[.int .i64 ck, .int .i64 cn, .string cs, .slice cd ce cf] 26
    rw [← hW] at z0 z1 z2 z3 z4 ⊢
    have hbw : Below w.heap.size w W := HB1.out.trans (z3.mono HB1.out.size)
    have HBW : Hid (Below w.heap.size w W) := hbw
    have HZ : Hid (∀ wc, Below W.heap.size W wc → (∀ o, wc.cell? ⟨w1.heap.size, o, none⟩ = (#[.int .i64 ak, .int .i64 an, .string as', .slice ad ae af] : Array Value)[o]?) ∧ (∀ o, wc.cell? ⟨w1.heap.size + 1, o, none⟩ = (#[.int .i64 bk, .int .i64 bn, .string bs, .slice bd be bf] : Array Value)[o]?) ∧ (∀ o, wc.cell? ⟨w1.heap.size + 1 + 1, o, none⟩ = (#[.int .i64 ck, .int .i64 cn, .string cs, .slice cd ce cf] : Array Value)[o]?)) := fun wc hb =>
      ⟨fun o => by rw [hb.cell (p := ⟨w1.heap.size, o, none⟩) (by show w1.heap.size < _; omega)]; exact z0 o, fun o => by rw [hb.cell (p := ⟨w1.heap.size + 1, o, none⟩) (by show w1.heap.size + 1 < _; omega)]; exact z1 o, fun o => by rw [hb.cell (p := ⟨w1.heap.size + 1 + 1, o, none⟩) (by show w1.heap.size + 1 + 1 < _; omega)]; exact z2 o⟩
    have HN : Hid (∀ wc, Below W.heap.size W wc → RpV (Nf wc) wc ta (.agg #[.int .i64 ak, .int .i64 an, .string as', .slice ad ae af]) ∧ RpV (Nf wc) wc tb (.agg #[.int .i64 bk, .int .i64 bn, .string bs, .slice bd be bf]) ∧ RpV (Nf wc) wc tc (.agg #[.int .i64 ck, .int .i64 cn, .string cs, .slice cd ce cf])) := fun wc hb => by
      have h9 : Below w1.heap.size w1 wc := z3.trans (hb.mono z3.size)
      exact ⟨nf_below HVA.out h9, nf_below HVB.out h9, nf_below HVC.out h9⟩
    clear hW z0 z1 z2 z3 z4 hbw HVA HVB HVC HB1
    obtain ⟨q1, q2, q3, hq1, hq2, hq3, hqq⟩ : ∃ q1 q2 q3 : Bool, (q1 = true ↔ cmpT ta tb < 0) ∧ (q2 = true ↔ cmpT tb ta < 0) ∧ (q3 = true ↔ cmpT ta tb = 0) ∧ (q1 = true ∧ q2 = false ∧ q3 = false ∨ q1 = false ∧ q2 = false ∧ q3 = true ∨ q1 = false ∧ q2 = true ∧ q3 = false) := by
      have ha := cmpT_anti ta tb
      refine ⟨decide (cmpT ta tb < 0), decide (cmpT tb ta < 0), decide (cmpT ta tb = 0), by simp, by simp, by simp, ?_⟩
      rw [ha]
      simp only [decide_eq_true_eq, decide_eq_false_iff_not]
      omega
    obtain ⟨q4, q5, hq4, hq5⟩ : ∃ q4 q5 : Bool, (q4 = true ↔ cmpT tb tc < 0) ∧ (q5 = true ↔ cmpT ta tc < 0) := ⟨decide (cmpT tb tc < 0), decide (cmpT ta tc < 0), by simp, by simp⟩
    have HTR : Hid (q1 = true → q4 = true → q5 = true) := fun h1 h4 => hq5.2 (cmpT_trans ta tb tc (hq1.1 h1) (hq4.1 h4))
    have H1 : Hid (∀ wc, Below W.heap.size W wc → Calls Try.prog 6 #[.agg #[.int .i64 ak, .int .i64 an, .string as', .slice ad ae af], .agg #[.int .i64 bk, .int .i64 bn, .string bs, .slice bd be bf]] wc fun e w' => e = .returned (.bool q1) ∧ Below W.heap.size W w') := fun wc hb =>
      (lessI_nf (fun _ h => h) (fun _ h => h) (HN.out wc hb).1 (HN.out wc hb).2.1 (cnt_6 (by decide) HT.out.1) q1 hq1).mono fun e w' h => ⟨h.1, hb.trans (h.2.mono hb.size)⟩
    have H2 : Hid (∀ wc, Below W.heap.size W wc → Calls Try.prog 6 #[.agg #[.int .i64 bk, .int .i64 bn, .string bs, .slice bd be bf], .agg #[.int .i64 ak, .int .i64 an, .string as', .slice ad ae af]] wc fun e w' => e = .returned (.bool q2) ∧ Below W.heap.size W w') := fun wc hb =>
      (lessI_nf (fun _ h => h) (fun _ h => h) (HN.out wc hb).2.1 (HN.out wc hb).1 (cnt_6 (by decide) HT.out.2.1) q2 hq2).mono fun e w' h => ⟨h.1, hb.trans (h.2.mono hb.size)⟩
    have H3 : Hid (∀ wc, Below W.heap.size W wc → Calls Try.prog 7 #[.agg #[.int .i64 ak, .int .i64 an, .string as', .slice ad ae af], .agg #[.int .i64 bk, .int .i64 bn, .string bs, .slice bd be bf]] wc fun e w' => e = .returned (.bool q3) ∧ Below W.heap.size W w') := fun wc hb =>
      (sameI_nf (fun _ h => h) (fun _ h => h) (HN.out wc hb).1 (HN.out wc hb).2.1 (cnt_6 (by decide) HT.out.1) q3 hq3).mono fun e w' h => ⟨h.1, hb.trans (h.2.mono hb.size)⟩
    have H4 : Hid (∀ wc, Below W.heap.size W wc → Calls Try.prog 8 #[.agg #[.int .i64 ak, .int .i64 an, .string as', .slice ad ae af], .agg #[.int .i64 bk, .int .i64 bn, .string bs, .slice bd be bf]] wc fun e w' => e = .returned (.bool q1) ∧ Below W.heap.size W w') := fun wc hb =>
      (lsT_all ta tb q1 HT.out.1.1 HT.out.2.1.1 hq1 0 wc _ _ (HN.out wc hb).1.rep (HN.out wc hb).2.1.rep).mono fun e w' h => ⟨h.1, hb.trans (h.2.mono hb.size)⟩
    have H5 : Hid (∀ wc, Below W.heap.size W wc → Calls Try.prog 6 #[.agg #[.int .i64 bk, .int .i64 bn, .string bs, .slice bd be bf], .agg #[.int .i64 ck, .int .i64 cn, .string cs, .slice cd ce cf]] wc fun e w' => e = .returned (.bool q4) ∧ Below W.heap.size W w') := fun wc hb =>
      (lessI_nf (fun _ h => h) (fun _ h => h) (HN.out wc hb).2.1 (HN.out wc hb).2.2 (cnt_6 (by decide) HT.out.2.1) q4 hq4).mono fun e w' h => ⟨h.1, hb.trans (h.2.mono hb.size)⟩
    have H6 : Hid (∀ wc, Below W.heap.size W wc → Calls Try.prog 6 #[.agg #[.int .i64 ak, .int .i64 an, .string as', .slice ad ae af], .agg #[.int .i64 ck, .int .i64 cn, .string cs, .slice cd ce cf]] wc fun e w' => e = .returned (.bool q5) ∧ Below W.heap.size W w') := fun wc hb =>
      (lessI_nf (fun _ h => h) (fun _ h => h) (HN.out wc hb).1 (HN.out wc hb).2.2 (cnt_6 (by decide) HT.out.1) q5 hq5).mono fun e w' h => ⟨h.1, hb.trans (h.2.mono hb.size)⟩
    clear hq1 hq2 hq3 hq4 hq5 HT HN
    generalize w1.heap.size = X at HZ ⊢
    refine (H1.out W (Below.refl _ _)).mono ?_
    rintro e w2 ⟨rfl, hb2⟩
    have HB2 : Hid (Below W.heap.size W w2) := hb2
    obtain ⟨a2, b2, c2⟩ := HZ.out w2 hb2
    clear hb2
    rcases hqq with ⟨rfl, rfl, rfl⟩ | ⟨rfl, rfl, rfl⟩ | ⟨rfl, rfl, rfl⟩
    all_goals
      go_wp2_with fail
      refine (H2.out w2 HB2.out).mono ?_
      rintro e w3 ⟨rfl, hb3⟩
      have HB3 : Hid (Below W.heap.size W w3) := hb3
      obtain ⟨a3, b3, c3⟩ := HZ.out w3 hb3
      clear hb3 a2 b2 c2
      go_wp2_with fail
      refine (H3.out w3 HB3.out).mono ?_
      rintro e w4 ⟨rfl, hb4⟩
      have HB4 : Hid (Below W.heap.size W w4) := hb4
      obtain ⟨a4, b4, c4⟩ := HZ.out w4 hb4
      clear hb4 a3 b3 c3
      go_wp2_with fail
      refine (H4.out w4 HB4.out).mono ?_
      rintro e w5 ⟨rfl, hb5⟩
      have HB5 : Hid (Below W.heap.size W w5) := hb5
      obtain ⟨a5, b5, c5⟩ := HZ.out w5 hb5
      clear hb5 a4 b4 c4
      go_wp2_with fail
    · refine (H5.out w5 HB5.out).mono ?_
      rintro e w6 ⟨rfl, hb6⟩
      have HB6 : Hid (Below W.heap.size W w6) := hb6
      obtain ⟨a6, b6, c6⟩ := HZ.out w6 hb6
      clear hb6 a5 b5 c5
      cases q4
      · go_wp2_with fail
        go_ret
        exact ⟨rfl, HBW.out.trans (HB6.out.mono HBW.out.size)⟩
      · have h9 : q5 = true := by have h8 := HTR.out; simpa using h8
        subst h9
        go_wp2_with fail
        refine (H6.out w6 HB6.out).mono ?_
        rintro e w7 ⟨rfl, hb7⟩
        have HB7 : Hid (Below W.heap.size W w7) := hb7
        clear hb7
        go_wp2_with fail
        go_ret
        exact ⟨rfl, HBW.out.trans (HB7.out.mono HBW.out.size)⟩
    · go_ret
      exact ⟨rfl, HBW.out.trans (HB5.out.mono HBW.out.size)⟩
    · go_ret
      exact ⟨rfl, HBW.out.trans (HB5.out.mono HBW.out.size)⟩
end Go.Proofs.Ytklcpogpnoghkaa
