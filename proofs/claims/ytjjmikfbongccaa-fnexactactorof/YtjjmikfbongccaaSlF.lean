/-
  How the specification reads off both lists: a list, cell by cell.
-/
import Derived.Test.YtjjmikfbongccaaSlE
import Derived.Test.YtjjmikfbongccaaSpE
namespace Go.Proofs.Ytjjmikfbongccaa.Gn
open Go.RowKit
set_option linter.unusedVariables false

theorem rL_full {H : Hp} {g : Rd} {y : Nat} {x : Int} (h : x ≠ 3) : rL H g 0 x y = none := by rw [rL, if_neg h]
set_option maxHeartbeats 8000000 in
set_option maxRecDepth 100000 in
theorem l6Cons_any {E : SE} {d' : Nat} (ih : ReadC E d') (hd' : d' ≤ 6) {left : Nat} {w : World} (h : Sr E left false w) (hl : left ≤ 100) (x : Int) (hx : x ≤ 9223372036854775807) :
    Calls Try.prog 46 #[.pointer (some ⟨E.rb, 0, none⟩), .int .i64 x, .int .i64 ((d' + 1 : Nat) : Int)] w fun e w' => Ans E w w' (tup 5 (rL E.H (rT false E.H d') 20 x left)) e := by
  have HS : Hid (Sr E left false w) := h
  have HL : Hid (left ≤ 100) := hl
  have HT : Hid (ReadC E d') := ih
  have HX0 : Hid (x ≤ 9223372036854775807) := hx
  have hrl := h.lt
  have HM3 : Hid (mkw 3 0 = 3) := by show _ = _; decide
  obtain ⟨D, hD⟩ : ∃ D : Int, D = ((d' + 1 : Nat) : Int) := ⟨_, rfl⟩
  rw [← hD]
  have HQD : Hid (D - 1 = d') := by show _ = _; omega
  have HWR : Hid (IntKind.i64.wrap (D - 1) = d') := by show _ = _; rw [IntKind.wrap_i64]; omega
  have hD0 : 1 ≤ D := by omega
  have hD6 : D ≤ 7 := by omega
  clear h hl ih hD hx
  obtain ⟨i0, hi, hzz0, hzz1, hzz2⟩ := infoParts infoTm
  obtain ⟨G, hG⟩ : ∃ G, rL E.H (rT false E.H d') 20 x left = G := ⟨_, rfl⟩
  have HG : Hid (G = rL E.H (rT false E.H d') 20 x left) := hG.symm
  rw [hG]
  clear hG
  go_enter Try.func46, Try.ntmps46
  go_wp2_with fail
  have hbx : Below w.heap.size w (w.alloc (.cells #[.int .i64 0, .int .i64 0, .string ⟨#[]⟩, .slice none 0 0] 64)) := (Below.refl _ _).alloc (Nat.le_refl _) _
  have HG0 : Hid (GS E.e w ((w.alloc (.cells #[.int .i64 0, .int .i64 0, .string ⟨#[]⟩, .slice none 0 0] 64)).alloc (.cells #[.int .i64 5, .int .i64 0, .string ⟨#[]⟩, .slice none 0 0] 64)) (w.heap.size + 1) 5 [] (.slice none 0 0) []) := by
    have := GS.start (E := E.e) (w3 := w.alloc (.cells #[.int .i64 0, .int .i64 0, .string ⟨#[]⟩, .slice none 0 0] 64)) (Turn.of_below hbx) hrl (by rw [World.size_alloc]; exact Nat.le_refl _) rfl (fun o => World.cell?_alloc_new w _ _ o) (fun o => World.frozen?_alloc_new w _ _ o) 5
    rw [World.size_alloc] at this
    exact this
  have HS0 : Hid (Sr E left false ((w.alloc (.cells #[.int .i64 0, .int .i64 0, .string ⟨#[]⟩, .slice none 0 0] 64)).alloc (.cells #[.int .i64 5, .int .i64 0, .string ⟨#[]⟩, .slice none 0 0] 64))) := (HS.out.below hbx).below ((Below.refl _ _).alloc (Nat.le_refl _) _)
  obtain ⟨tb, htb⟩ : ∃ tb, tb = w.heap.size + 1 := ⟨_, rfl⟩
  rw [← htb] at HG0
  rw [← htb]
  have htb0 : w.heap.size < tb := by omega
  clear htb hbx
  go_loopw [1] (fun vx wr => ∃ (x : Int) (l : List Tm) (u : Value) (xs : List Value), vx = .int .i64 x ∧ x ≤ 9223372036854775807 ∧ GS E.e w wr tb 5 l u xs ∧ l.length ≤ 20 ∧ Goes E G (fun y => rL E.H (rT false E.H d') (20 - l.length) x y) l wr) (fun _ wr => 20 - lenT tb wr)
  case atStart => exact ⟨x, [], _, _, rfl, HX0.out, HG0.out, Nat.zero_le _, .inl ⟨left, HL.out, HS0.out, by rw [pre_nil]; exact HG.out⟩⟩
  case round =>
    clear HX0 HG HG0 HS0
    obtain ⟨x, l, u, xs, rfl, hx, hg, hlk, hgo⟩ := hrel
    have HX : Hid (x ≤ 9223372036854775807) := hx
    obtain ⟨ua, uc, rfl⟩ := hg.form
    have HG : Hid (GS E.e w wr tb 5 l (.slice ua l.length uc) xs) := hg
    have hrt : E.rb ≠ tb := by have : E.rb < w.heap.size := hg.old; omega
    have hrw : E.rb ≠ w.heap.size := by have : E.rb < w.heap.size := hg.old; omega
    clear hg
    rcases hgo with ⟨y, hy, hsy, hGy⟩ | ⟨hGn, z, hsz⟩
    · have HSY : Hid (Sr E y false wr) := hsy
      have HY : Hid (y ≤ 100) := hy
      have HGY : Hid (G = pre l (rL E.H (rT false E.H d') (20 - l.length) x y)) := hGy
      by_cases h3 : x = 3
      · subst h3
        have HE : Hid (G = some (l, y)) := by
          show _ = _
          rw [HGY.out, rL_end, pre, List.append_nil]
        have c5 := hsy.c5
        have t0 := HG.out.t0
        have t1 := HG.out.t1
        have t2 := HG.out.t2
        have t3 := HG.out.t3
        obtain ⟨r0, hr0⟩ := HG.out.r 0 (by decide)
        obtain ⟨r1, hr1⟩ := HG.out.r 1 (by decide)
        obtain ⟨r2, hr2⟩ := HG.out.r 2 (by decide)
        obtain ⟨r3, hr3⟩ := HG.out.r 3 (by decide)
        have hrf := HG.out.rf
        clear hsy hy hGy
        go_wp2_with (first | (go_at_call 56; refine (specMake_any 3 0 _).mono ?_; rintro e w' ⟨rfl, hw'⟩; obtain rfl := hw'.symm; rw [HM3.out]))
        obtain ⟨hv, hdd, hkk⟩ := HG.out.done (.int .i64 5) (.int .i64 0) (.string ⟨#[]⟩) (.slice ua l.length uc)
        exact bodyPost_ret (v := .agg #[.int .i64 5, .int .i64 0, .string ⟨#[]⟩, .slice ua l.length uc]) (by simp [results, Try.results46, go_sem, hr0, hr1, hr2, hr3]) rfl ⟨_, _, rfl, hv, hdd, .inl ⟨y, by rw [HE.out]; rfl, HS.out.same HSY.out hkk⟩⟩
      · have H3 : Hid (x ≠ 3) := h3
        have hne : (x != 3) = true := by simpa using h3
        obtain ⟨p, hp⟩ : ∃ p : Nat, valW x = p := ⟨(valW x).toNat, by have := valW_ge x; omega⟩
        have HPV : Hid (valW x = p) := hp
        have HTN : Hid ((valW x).toNat = p) := by show _ = _; rw [hp]; simp
        have HPB : Hid (p ≤ 9223372036854775000) := by
          show _ ≤ _
          have h1 := HX.out
          by_cases hx0 : 0 ≤ x
          · rw [valW_of hx0] at hp; omega
          · have : valW x = 0 := by unfold valW; rw [if_pos (by omega)]
            omega
        have k5 := hsy.c5
        have k0 := hsy.drew.c0
        have k1 := hsy.drew.c1
        have k2 := hsy.drew.c2
        clear hsy hy hGy h3 hp
        by_cases hw2 : 2 ≤ E.G.len p
        · have HA : Hid (2 ≤ E.G.len p) := hw2
          clear hw2
          go_wp2_with (first | (go_at_call 56; refine (specMake_any 3 0 _).mono ?_; rintro e w' ⟨rfl, hw'⟩; obtain rfl := hw'.symm; rw [HM3.out]))
          go_region_law (go_simp; go_wp2_with (first | (go_at_call 48; refine (specVal_any x HX.out _).mono ?_; rintro e w' ⟨rfl, rfl⟩; rw [HPV.out]) | (go_at_call 57; refine (l6Words_yes HSY.out.src.drew p 2 HA.out (by decide)).mono ?_; rintro e w3 ⟨c3, rfl, hb3⟩; have HG3 : Hid (GS E.e w w3 tb 5 l (.slice ua l.length uc) xs) := HG.out.call (Turn.undrew (Turn.of_below hb3)); have HS3 : Hid (Sr E y false w3) := HSY.out.drew.below hb3; clear hb3)))
          all_goals
            have c5 := HS3.out.c5
            have cf := HS3.out.fr
            have t0 := HG3.out.t0
            have t1 := HG3.out.t1
            have t2 := HG3.out.t2
            have t3 := HG3.out.t3
            have tf := HG3.out.tf
            have htl := HG3.out.lt
            obtain ⟨r0, hr0⟩ := HG3.out.r 0 (by decide)
            obtain ⟨r1, hr1⟩ := HG3.out.r 1 (by decide)
            obtain ⟨r2, hr2⟩ := HG3.out.r 2 (by decide)
            obtain ⟨r3, hr3⟩ := HG3.out.r 3 (by decide)
            have hrf := HG3.out.rf
            have HSB : Hid (Sr E y true (w3.setCell ⟨E.rb, 5, none⟩ (.bool true))) := HS3.out.setB true
            have HGB : Hid (GS E.e w (w3.setCell ⟨E.rb, 5, none⟩ (.bool true)) tb 5 l (.slice ua l.length uc) xs) := HG3.out.call ((Turn.refl _ _).set 5 _)
            clear k0 k1 k2 k5
            by_cases h5 : tagW x = 5
            · have HTG : Hid (tagW x = 5) := h5
              have HC : Hid (consAt E.H x) := ⟨h5, by rw [HTN.out]; exact HA.out⟩
              have hx0 : ¬ x < 0 := fun hh => by unfold tagW at h5; rw [if_pos hh] at h5; omega
              have hx0i : decide (x < 0) = false := by simp; omega
              clear h5
              by_cases hl20 : l.length < 20
              · have hln : ((l.length : Int) == 20) = false := by simp; omega
                have q0 : w3.cell? ⟨E.G.sb p, E.G.so p, none⟩ = some (.int .i64 (E.G.w p 0)) := HS3.out.at p 0 (by have := HA.out; omega)
                have HBG : Hid (E.G.w p 0 ≤ 9223372036854775807) := GE.bigw HS3.out.src _ _
                have HBG1 : Hid (E.G.w p 1 ≤ 9223372036854775807) := GE.bigw HS3.out.src _ _
                have HC3 : Hid (l.length + 1 ≤ maxLen) := by show _ ≤ _; unfold maxLen; omega
                have HC4 : Hid ((l.length + 1) * 56 ≤ 140737488355328) := by show _ ≤ _; omega
                have HKK : Hid (20 - l.length = (20 - (l.length + 1)) + 1) := by show _ = _; omega
                obtain ⟨x0, hx0'⟩ : ∃ x0, E.G.w p 0 = x0 := ⟨_, rfl⟩
                have HXX : Hid (E.H.w p 0 = x0) := hx0'
                rw [hx0'] at q0 HBG
                clear hx0'
                go_wp2_with (first | (go_at_call 45; refine (specTag_any x _).mono ?_; rintro e w' ⟨rfl, hw'⟩; obtain rfl := hw'.symm; rw [HTG.out]))
                go_region_law (first
          | (refine step_append_lies _ rfl (.tmp 53) (.tmp 61) 39 rfl (tb + 1) 64 i0 (.agg #[.int .i64 0, .int .i64 0, .string ⟨#[]⟩, .slice none 0 0]) 4 56 undTms hi hzz0 hzz1 hzz2 rfl (by decide) (.slice ua l.length uc) l.length xs (by simp [Act.eval]) (HG1.out.own.alloc _) ⟨w5.heap.size, 0, none⟩ 1 1 [.int .i64 va, .int .i64 vb, .string vc, .slice vd ve vf] (by simp [Act.eval]) rfl four8 one4 (by decide) HC3.out HC4.out (by simp; omega) _ rfl ?_; intro g6 cap6 w6 hown6 hgrow6 hat6 hlt6; obtain ⟨t36, tf6⟩ := HG1.out.grown hgrow6)
          | (go_simp; go_wp2_with (go_at_call 41; (first | rw [HWR.out] | rw [HQD.out]); refine (HT.out _ y _ HS3.out.drew HY.out HBG.out).mono ?_; rintro e w5 ⟨tt, vv, rfl, hv5, ht5, hd5⟩; obtain ⟨va, vb, vc, vd, ve, vf, rfl⟩ := hv5.form; have HG1 : Hid (GS E.e w w5 tb 5 l (.slice ua l.length uc) xs) := HG3.out.call ht5.undrew; have htl5 := HG1.out.lt; have t35 := HG1.out.t3; have tf5 := HG1.out.tf)))
                all_goals
                  obtain ⟨hg6, hk6⟩ := HG3.out.more ht5.undrew hv5 hown6 hgrow6 (by rw [World.size_alloc] at hat6; exact hat6) hlt6
                  have HG6 : Hid (GS E.e w _ tb 5 _ _ _) := hg6
                  have hgo6 : Goes E G (fun y => rL E.H (rT false E.H d') (20 - (l ++ [tt]).length) (E.G.w p 1) y) (l ++ [tt]) (w6.setCell ⟨tb, 3, none⟩ (.slice (some ⟨g6, 0, none⟩) (l.length + 1) cap6)) := by
                    rcases hd5 with ⟨y', hy', hs'⟩ | ⟨hn', z', hs'⟩
                    · refine .inl ⟨y', by have := rT_lt _ _ _ _ _ _ _ hy'; have := HY.out; omega, HS.out.same hs' (fun j hj => hk6 j (by omega)), ?_⟩
                      rw [HGY.out, HKK.out, rL_some H3.out HC.out (by rw [HTN.out, HXX.out]; exact hy'), pre_pre, HTN.out, List.length_append]
                      rfl
                    · refine .inr ⟨?_, z', HS.out.same hs' (fun j hj => hk6 j (by omega))⟩
                      rw [HGY.out, rL_none H3.out (by rw [HTN.out, HXX.out]; exact hn')]
                      rfl
                  have hsrc6 : GSrc E.G (w6.setCell ⟨tb, 3, none⟩ (.slice (some ⟨g6, 0, none⟩) (l.length + 1) cap6)) := by
                    rcases hgo6 with ⟨_, _, h, _⟩ | ⟨_, _, h⟩
                    · exact h.src
                    · exact h.src
                  have q1 := hsrc6.at p 1 (by have := HA.out; omega)
                  have HGO6 : Hid (Goes E G _ (l ++ [tt]) _) := hgo6
                  have HLG : Hid ((l ++ [tt]).length = l.length + 1) := by show _ = _; rw [List.length_append]; rfl
                  clear t36 tf6 hown6 hgrow6 hat6 hlt6 hv5 hd5 ht5 HG1 htl5 t35 tf5 hg6 hk6 hgo6 hsrc6
                  go_wp2_with fail
                  go_roundw
                  case rel => exact ⟨_, l ++ [tt], _, _, rfl, HBG1.out, HG6.out, by rw [HLG.out]; omega, HGO6.out⟩
                  case measure => rw [lenT_gs HG6.out, lenT_gs HG.out, HLG.out]; omega
              · have hln : ((l.length : Int) == 20) = true := by simp; omega
                have HGN : Hid (G = none) := by
                  show _ = _
                  rw [HGY.out, show 20 - l.length = 0 by omega, rL_full H3.out]
                  rfl
                go_wp2_with (first | (go_at_call 45; refine (specTag_any x _).mono ?_; rintro e w' ⟨rfl, hw'⟩; obtain rfl := hw'.symm; rw [HTG.out]))
                obtain ⟨hv, hdd, hkk⟩ := HGB.out.done (.int .i64 5) (.int .i64 0) (.string ⟨#[]⟩) (.slice ua l.length uc)
                exact bodyPost_ret (v := .agg #[.int .i64 5, .int .i64 0, .string ⟨#[]⟩, .slice ua l.length uc]) (by simp [results, Try.results46, go_sem, hr0, hr1, hr2, hr3]) rfl ⟨_, _, rfl, hv, hdd, .inr ⟨by rw [HGN.out]; rfl, _, HS.out.same HSB.out hkk⟩⟩
            · have HGN : Hid (G = none) := by show _ = _; rw [HGY.out, rL_off H3.out (fun hh => h5 hh.1)]; rfl
              have h5b : (tagW x != 5) = true := by simpa using h5
              clear h5
              by_cases hx0 : x < 0
              · go_wp2_with fail
                obtain ⟨hv, hdd, hkk⟩ := HGB.out.done (.int .i64 5) (.int .i64 0) (.string ⟨#[]⟩) (.slice ua l.length uc)
                exact bodyPost_ret (v := .agg #[.int .i64 5, .int .i64 0, .string ⟨#[]⟩, .slice ua l.length uc]) (by simp [results, Try.results46, go_sem, hr0, hr1, hr2, hr3]) rfl ⟨_, _, rfl, hv, hdd, .inr ⟨by rw [HGN.out]; rfl, _, HS.out.same HSB.out hkk⟩⟩
              · have hx0i : decide (x < 0) = false := by simp; omega
                go_wp2_with (first | (go_at_call 45; refine (specTag_any x _).mono ?_; rintro e w' ⟨rfl, hw'⟩; obtain rfl := hw'.symm))
                obtain ⟨hv, hdd, hkk⟩ := HGB.out.done (.int .i64 5) (.int .i64 0) (.string ⟨#[]⟩) (.slice ua l.length uc)
                exact bodyPost_ret (v := .agg #[.int .i64 5, .int .i64 0, .string ⟨#[]⟩, .slice ua l.length uc]) (by simp [results, Try.results46, go_sem, hr0, hr1, hr2, hr3]) rfl ⟨_, _, rfl, hv, hdd, .inr ⟨by rw [HGN.out]; rfl, _, HS.out.same HSB.out hkk⟩⟩
        · have HA : Hid (¬ 2 ≤ E.G.len p) := hw2
          have HGN : Hid (G = none) := by show _ = _; rw [HGY.out, rL_off H3.out (fun hh => HA.out (by have := hh.2; rw [HTN.out] at this; exact this))]; rfl
          clear hw2
          go_wp2_with (first | (go_at_call 56; refine (specMake_any 3 0 _).mono ?_; rintro e w' ⟨rfl, hw'⟩; obtain rfl := hw'.symm; rw [HM3.out]))
          go_region_law (go_simp; go_wp2_with (first | (go_at_call 48; refine (specVal_any x HX.out _).mono ?_; rintro e w' ⟨rfl, rfl⟩; rw [HPV.out]) | (go_at_call 57; refine (l6Words_no HSY.out.src.drew p 2 HA.out HPB.out).mono ?_; rintro e w3 ⟨⟨g3, rfl⟩, hb3⟩; have HG3 : Hid (GS E.e w w3 tb 5 l (.slice ua l.length uc) xs) := HG.out.call (Turn.undrew (Turn.of_below hb3)); have HS3 : Hid (Sr E y false w3) := HSY.out.drew.below hb3; clear hb3)))
          all_goals
            have c5 := HS3.out.c5
            have cf := HS3.out.fr
            have t0 := HG3.out.t0
            have t1 := HG3.out.t1
            have t2 := HG3.out.t2
            have t3 := HG3.out.t3
            have tf := HG3.out.tf
            have htl := HG3.out.lt
            obtain ⟨r0, hr0⟩ := HG3.out.r 0 (by decide)
            obtain ⟨r1, hr1⟩ := HG3.out.r 1 (by decide)
            obtain ⟨r2, hr2⟩ := HG3.out.r 2 (by decide)
            obtain ⟨r3, hr3⟩ := HG3.out.r 3 (by decide)
            have hrf := HG3.out.rf
            have HSB : Hid (Sr E y true (w3.setCell ⟨E.rb, 5, none⟩ (.bool true))) := HS3.out.setB true
            have HGB : Hid (GS E.e w (w3.setCell ⟨E.rb, 5, none⟩ (.bool true)) tb 5 l (.slice ua l.length uc) xs) := HG3.out.call ((Turn.refl _ _).set 5 _)
            clear k0 k1 k2 k5
            go_wp2_with fail
            obtain ⟨hv, hdd, hkk⟩ := HGB.out.done (.int .i64 5) (.int .i64 0) (.string ⟨#[]⟩) (.slice ua l.length uc)
            exact bodyPost_ret (v := .agg #[.int .i64 5, .int .i64 0, .string ⟨#[]⟩, .slice ua l.length uc]) (by simp [results, Try.results46, go_sem, hr0, hr1, hr2, hr3]) rfl ⟨_, _, rfl, hv, hdd, .inr ⟨by rw [HGN.out]; rfl, _, HS.out.same HSB.out hkk⟩⟩
    · have c5 := hsz.c5
      have HSZ : Hid (Sr E z true wr) := hsz
      have HGN : Hid (G = none) := hGn
      have t0 := HG.out.t0
      have t1 := HG.out.t1
      have t2 := HG.out.t2
      have t3 := HG.out.t3
      obtain ⟨r0, hr0⟩ := HG.out.r 0 (by decide)
      obtain ⟨r1, hr1⟩ := HG.out.r 1 (by decide)
      obtain ⟨r2, hr2⟩ := HG.out.r 2 (by decide)
      obtain ⟨r3, hr3⟩ := HG.out.r 3 (by decide)
      have hrf := HG.out.rf
      clear hsz hGn
      go_wp2_with fail
      obtain ⟨hv, hdd, hkk⟩ := HG.out.done (.int .i64 5) (.int .i64 0) (.string ⟨#[]⟩) (.slice ua l.length uc)
      exact bodyPost_ret (v := .agg #[.int .i64 5, .int .i64 0, .string ⟨#[]⟩, .slice ua l.length uc]) (by simp [results, Try.results46, go_sem, hr0, hr1, hr2, hr3]) rfl ⟨_, _, rfl, hv, hdd, .inr ⟨by rw [HGN.out]; rfl, z, HS.out.same HSZ.out hkk⟩⟩
end Go.Proofs.Ytjjmikfbongccaa.Gn
