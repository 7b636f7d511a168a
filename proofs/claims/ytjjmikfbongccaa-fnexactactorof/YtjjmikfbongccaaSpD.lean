/-
  How the specification reads words: a tuple.
-/
import Derived.Test.YtjjmikfbongccaaSpC
namespace Go.Proofs.Ytjjmikfbongccaa
open Go.RowKit
set_option linter.unusedVariables false

set_option maxHeartbeats 4000000 in
set_option maxRecDepth 100000 in
theorem specTuple_any {E : Env} {d' : Nat} (ih : ReadC E d') (hd' : d' ≤ 6) {w : World} {left : Nat} (h : Sr E left false w) (hl : left ≤ 100) (p : Nat) (hp : p ≤ 9223372036854774000) :
    Calls Try.prog 61 #[.pointer (some ⟨E.rb, 0, none⟩), .int .i64 p, .int .i64 ((d' + 1 : Nat) : Int)] w fun e w' => ∃ t v, e = .returned v ∧ RpV (fun b => w.heap.size ≤ b) w' t v ∧ Turn E.rb w w' ∧
      ((∃ y : Nat, rCnt E.H (rT false E.H d') p left = some (t, y) ∧ Sr E y false w') ∨ (rCnt E.H (rT false E.H d') p left = none ∧ ∃ z : Int, Sr E z true w')) := by
  have HS : Hid (Sr E left false w) := h
  have HL : Hid (left ≤ 100) := hl
  have HT : Hid (ReadC E d') := ih
  have HP : Hid (p ≤ 9223372036854775000) := by show _ ≤ _; omega
  have HP1 : Hid (p + 1 ≤ 9223372036854775000) := by show _ ≤ _; omega
  have hpb : (p : Int) ≤ 9223372036854774000 := by omega
  have HQ : Hid ((p : Int) + 1 = ((p + 1 : Nat) : Int)) := by show _ = _; omega
  have hrl := h.lt
  obtain ⟨D, hD⟩ : ∃ D : Int, D = ((d' + 1 : Nat) : Int) := ⟨_, rfl⟩
  rw [← hD]
  have HQD : Hid (D - 1 = d') := by show _ = _; omega
  have HWR : Hid (IntKind.i64.wrap (D - 1) = d') := by show _ = _; rw [IntKind.wrap_i64]; omega
  have hD0 : 1 ≤ D := by omega
  have hD6 : D ≤ 7 := by omega
  clear h hl ih hD
  obtain ⟨i0, hi, hzz0, hzz1, hzz2⟩ := infoParts infoTm
  generalize hGG : rCnt E.H (rT false E.H d') p left = GG
  have HGG : Hid (rCnt E.H (rT false E.H d') p left = GG) := hGG
  clear hGG
  go_enter Try.func61, Try.ntmps61
  go_wp2_with fail
  have hbx : ∀ c T, Below w.heap.size w (w.alloc (.cells c T)) := fun c T => (Below.refl _ _).alloc (Nat.le_refl _) _
  refine (count_any (HS.out.below (hbx _ _)) p 8 HP.out).mono ?_
  rintro e w1 ⟨c, bad1, rfl, ht1, hs1, hr1⟩
  have hz1 : w.heap.size + 1 ≤ w1.heap.size := by have := ht1.size; rw [World.size_alloc] at this; exact this
  obtain ⟨q1, f1⟩ := ht1.keep (W := w.heap.size) (by omega) (by rw [World.size_alloc]; exact Nat.lt_succ_self _) (fun o => World.cell?_alloc_new w _ _ o) (fun o => World.frozen?_alloc_new w _ _ o)
  have HT1 : Hid (Turn E.rb w w1) := (Turn.of_below (hbx _ _)).trans ht1
  have HS1 : Hid (Sr E left bad1 w1) := hs1
  have HR1 : Hid ((bad1 = false ∧ p + 1 ≤ E.H.N ∧ (c : Int) = E.H.f p ∧ (c : Int) ≤ 8) ∨ (bad1 = true ∧ c = 0 ∧ ¬ (p + 1 ≤ E.H.N ∧ 0 ≤ E.H.f p ∧ E.H.f p ≤ 8))) := hr1
  clear hs1 hr1 ht1 hbx
  go_wp2_with (first | (go_at_call 68; rw [HQ.out]; refine (words_any HS1.out (p + 1) c HP1.out (Nat.succ_ne_zero p)).mono ?_; rintro e w2 ⟨g, o', m, cap', bad2, rfl, ht2, hs2, hr2⟩; have hcw : Hid (CW E p 8 w2 g o' m bad2) := (cw_of hs2 HR1.out hr2); obtain ⟨q2, f2⟩ := ht2.keep (W := w.heap.size) (by omega) (by omega) q1 f1; have HT2 : Hid (Turn E.rb w w2) := HT1.out.trans ht2; have HS2 : Hid (Sr E left bad2 w2) := hs2; have hz2 := ht2.size; clear ht2 hs2 hr2 q1 f1))
  have hm8 : m ≤ 8 := by
    rcases hcw.out.2 with ⟨_, _, h⟩ | ⟨_, _, h⟩
    · omega
    · omega
  obtain ⟨G, hG⟩ : ∃ G, G = (if bad2 then none else rTs E.H (rT false E.H d') m (p + 1) left) := ⟨_, rfl⟩
  have HGT : Hid (GG = tup 4 G) := by
    show _ = _
    rw [← HGG.out, hG]
    unfold rCnt
    rw [Int.toNat_natCast]
    rcases hcw.out.2 with ⟨hb, hc, _⟩ | ⟨hb, hc, _⟩
    · rw [hb, hc]; rfl
    · rw [hb, hc]; rfl
  have HG0 : Hid (GS E w (w2.alloc (.cells #[.int .i64 4, .int .i64 0, .string ⟨#[]⟩, .slice none 0 0] 64)) w2.heap.size 4 [] (.slice none 0 0) []) := GS.start HT2.out hrl (by omega) rfl q2 f2 4
  have HGO : Hid (Goes E G (fun y => rTs E.H (rT false E.H d') (m - 0) (p + 1 + 0) y) [] (w2.alloc (.cells #[.int .i64 4, .int .i64 0, .string ⟨#[]⟩, .slice none 0 0] 64))) := by
    have hs := HS2.out.below ((Below.refl _ _).alloc (Nat.le_refl _) (.cells #[.int .i64 4, .int .i64 0, .string ⟨#[]⟩, .slice none 0 0] 64))
    cases bad2 with
    | true => exact .inr ⟨hG, _, hs⟩
    | false => exact .inl ⟨left, HL.out, hs, by rw [pre_nil, hG]; rfl⟩
  have HCE : Hid (∀ j, j < m → w2.cell? ⟨g, o' + j, none⟩ = some (.int .i64 (E.H.f (p + 1 + j))) ∧ g ≠ E.rb) := hcw.out.1
  have hCW2 : ∀ j, j < m → g < w2.heap.size := fun j hj => World.block_lt_of_cell? w2 _ (HCE.out j hj).1
  have HCW2 : Hid (∀ j, j < m → g < w2.heap.size) := hCW2
  obtain ⟨tb, htb⟩ : ∃ tb, tb = w2.heap.size := ⟨_, rfl⟩
  rw [← htb] at HG0 HCW2
  have HT3 : Hid (Turn E.rb w2 (w2.alloc (.cells #[.int .i64 4, .int .i64 0, .string ⟨#[]⟩, .slice none 0 0] 64))) := (Turn.refl _ _).alloc _
  clear hcw hG HGG hCW2 HR1 HS1 HT1
  rw [← htb]
  have htbz : w2.heap.size ≤ tb := by omega
  clear htb
  go_loopw [10] (fun i wr => ∃ (k : Nat) (l : List Tm) (u : Value) (xs : List Value), k ≤ m ∧ i = .int .i64 k ∧ GS E w wr tb 4 l u xs ∧ Turn E.rb w2 wr ∧ l.length ≤ k ∧ Goes E G (fun y => rTs E.H (rT false E.H d') (m - k) (p + 1 + k) y) l wr) (fun i _ => m - (intOf i).toNat)
  case atStart => exact ⟨0, [], _, _, Nat.zero_le _, rfl, HG0.out, HT3.out, Nat.zero_le _, HGO.out⟩
  case round =>
    obtain ⟨k, l, u, xs, hk, rfl, hg, htr, hlk, hgo⟩ := hrel
    obtain ⟨ua, uc, rfl⟩ := hg.form
    have HG : Hid (GS E w wr tb 4 l (.slice ua l.length uc) xs) := hg
    have HTR : Hid (Turn E.rb w2 wr) := htr
    have t0 := hg.t0
    have t1 := hg.t1
    have t2 := hg.t2
    have t3 := hg.t3
    have tf := hg.tf
    have htl := hg.lt
    have hup := hg.up
    obtain ⟨r0, hr0⟩ := hg.r 0 (by decide)
    obtain ⟨r1, hr1⟩ := hg.r 1 (by decide)
    obtain ⟨r2, hr2⟩ := hg.r 2 (by decide)
    obtain ⟨r3, hr3⟩ := hg.r 3 (by decide)
    have hrf := hg.rf
    clear hg htr
    rcases hgo with ⟨y, hy, hsy, hGy⟩ | ⟨hGn, z, hsz⟩
    · have c3 := hsy.c3
      have HSY : Hid (Sr E y false wr) := hsy
      have HY : Hid (y ≤ 100) := hy
      have HGY : Hid (G = pre l (rTs E.H (rT false E.H d') (m - k) (p + 1 + k) y)) := hGy
      clear hsy hy hGy
      by_cases hlt : k < m
      · obtain ⟨hcl, hgn⟩ := HCE.out k hlt
        have q : wr.cell? ⟨g, o' + k, none⟩ = some (.int .i64 (E.H.f (p + 1 + k))) := HTR.out.cell hgn hcl
        have HBG : Hid (E.H.f (p + 1 + k) ≤ 9223372036854775807) := HSY.out.src.big _
        have HC3 : Hid (l.length + 1 ≤ maxLen) := by show _ ≤ _; unfold maxLen; omega
        have HC4 : Hid ((l.length + 1) * 56 ≤ 140737488355328) := by show _ ≤ _; omega
        have HKK : Hid (m - k = (m - (k + 1)) + 1) := by show _ = _; omega
        obtain ⟨x, hx⟩ : ∃ x, E.H.f (p + 1 + k) = x := ⟨_, rfl⟩
        have HX : Hid (E.H.f (p + 1 + k) = x) := hx
        rw [hx] at q HBG
        clear hx hcl hgn
        go_wp2_with fail
        go_region_law (first
        | (refine step_append_lies _ rfl (.tmp 34) (.tmp 43) 39 rfl (tb + 1) 64 i0 (.agg #[.int .i64 0, .int .i64 0, .string ⟨#[]⟩, .slice none 0 0]) 4 56 undTms hi hzz0 hzz1 hzz2 rfl (by decide) (.slice ua l.length uc) l.length xs (by simp [Act.eval]) (HG1.out.own.alloc _) ⟨w5.heap.size, 0, none⟩ 1 1 [.int .i64 va, .int .i64 vb, .string vc, .slice vd ve vf] (by simp [Act.eval]) rfl four8 one4 (by decide) HC3.out HC4.out (by simp; omega) _ rfl ?_; intro g6 cap6 w6 hown6 hgrow6 hat6 hlt6; obtain ⟨t36, tf6⟩ := HG1.out.grown hgrow6)
        | (go_simp; go_wp2_with (go_at_call 50; (first | rw [HWR.out] | rw [HQD.out]); refine (HT.out _ y _ HSY.out.drew HY.out HBG.out).mono ?_; rintro e w5 ⟨tt, vv, rfl, hv5, ht5, hd5⟩; obtain ⟨va, vb, vc, vd, ve, vf, rfl⟩ := hv5.form; have HG1 : Hid (GS E w w5 tb 4 l (.slice ua l.length uc) xs) := HG.out.call ht5.undrew; have htl5 := HG1.out.lt; have t35 := HG1.out.t3; have tf5 := HG1.out.tf)))
        all_goals
          obtain ⟨hg6, hk6⟩ := HG.out.more ht5.undrew hv5 hown6 hgrow6 (by rw [World.size_alloc] at hat6; exact hat6) hlt6
          have HG6 : Hid (GS E w _ tb 4 _ _ _) := hg6
          have hgo6 : Goes E G (fun y => rTs E.H (rT false E.H d') (m - (k + 1)) (p + 1 + (k + 1)) y) (l ++ [tt]) (w6.setCell ⟨tb, 3, none⟩ (.slice (some ⟨g6, 0, none⟩) (l.length + 1) cap6)) := by
            rcases hd5 with ⟨y', hy', hs'⟩ | ⟨hn', z', hs'⟩
            · refine .inl ⟨y', by have := rT_lt _ _ _ _ _ _ _ hy'; have := HY.out; omega, HS.out.same hs' (fun j hj => hk6 j (by omega)), ?_⟩
              rw [HGY.out, HKK.out, rTs_some (by rw [HX.out]; exact hy'), pre_pre]
              rfl
            · refine .inr ⟨?_, z', HS.out.same hs' (fun j hj => hk6 j (by omega))⟩
              rw [HGY.out, HKK.out, rTs_none (by rw [HX.out]; exact hn')]
              rfl
          have htr6 : Turn E.rb w2 (w6.setCell ⟨tb, 3, none⟩ (.slice (some ⟨g6, 0, none⟩) (l.length + 1) cap6)) := ⟨hg6.turn.os.trans HT2.out.os.symm, hg6.turn.tape.trans HT2.out.tape.symm, hg6.turn.output.trans HT2.out.output.symm, by have := hg6.lt; omega, fun j hj hn => (hk6 j (by omega)).trans ((HTR.out.trans ht5.undrew).block j hj hn)⟩
          have HTR6 : Hid (Turn E.rb w2 _) := htr6
          have HGO6 : Hid (Goes E G _ (l ++ [tt]) _) := hgo6
          clear t36 tf6 hown6 hgrow6 hat6 hlt6 hv5 hd5 ht5 HG1 htl5 t35 tf5 hg6 hk6 hgo6 htr6
          go_wp2_with fail
          go_roundw
          case rel => exact ⟨k + 1, l ++ [tt], _, _, by omega, by go_num, HG6.out, HTR6.out, by rw [List.length_append]; simp only [List.length_cons, List.length_nil]; omega, HGO6.out⟩
          case measure => simp [intOf]; omega
      · have HE : Hid (G = some (l, y)) := by
          show _ = _
          rw [HGY.out, show m - k = 0 by omega, rTs, pre, List.append_nil]
        go_wp2_with fail
        obtain ⟨hv, hdd, hkk⟩ := HG.out.done (.int .i64 4) (.int .i64 0) (.string ⟨#[]⟩) (.slice ua l.length uc)
        exact bodyPost_ret (v := .agg #[.int .i64 4, .int .i64 0, .string ⟨#[]⟩, .slice ua l.length uc]) (by simp [results, Try.results61, go_sem, hr0, hr1, hr2, hr3]) rfl ⟨_, _, rfl, hv, hdd, .inl ⟨y, by rw [HGT.out, HE.out]; rfl, HS.out.same HSY.out hkk⟩⟩
    · have c3 := hsz.c3
      have HSZ : Hid (Sr E z true wr) := hsz
      have HGN : Hid (G = none) := hGn
      clear hsz hGn
      by_cases hlt : k < m
      all_goals
        go_wp2_with fail
        obtain ⟨hv, hdd, hkk⟩ := HG.out.done (.int .i64 4) (.int .i64 0) (.string ⟨#[]⟩) (.slice ua l.length uc)
        exact bodyPost_ret (v := .agg #[.int .i64 4, .int .i64 0, .string ⟨#[]⟩, .slice ua l.length uc]) (by simp [results, Try.results61, go_sem, hr0, hr1, hr2, hr3]) rfl ⟨_, _, rfl, hv, hdd, .inr ⟨by rw [HGT.out, HGN.out]; rfl, z, HS.out.same HSZ.out hkk⟩⟩
end Go.Proofs.Ytjjmikfbongccaa
