/-
  How the specification reads words: a list, cell by cell.
-/
import Derived.Test.YtjjmikfbongccaaSpD
namespace Go.Proofs.Ytjjmikfbongccaa
open Go.RowKit
set_option linter.unusedVariables false

def lenT (tb : Nat) (w : World) : Nat := match w.cell? ⟨tb, 3, none⟩ with | some (.slice _ n _) => n | _ => 0
theorem lenT_gs {E : Env} {w wr : World} {tb : Nat} {K : Int} {l : List Tm} {u : Value} {xs : List Value} (h : GS E w wr tb K l u xs) : lenT tb wr = l.length := by
  obtain ⟨ua, uc, rfl⟩ := h.form
  unfold lenT; rw [h.t3]
theorem GS.bad {E : Env} {w wr : World} {tb : Nat} {K : Int} {l : List Tm} {u : Value} {xs : List Value} (h : GS E w wr tb K l u xs) : GS E w (wr.setCell ⟨E.rb, 3, none⟩ (.bool true)) tb K l u xs := h.call ((Turn.refl _ _).set 3 _)
theorem rL_full {H : Hp} {g : Rd} {y : Nat} {x : Int} (h : x ≠ 3) : rL H g 0 x y = none := by rw [rL, if_neg h]

set_option maxHeartbeats 8000000 in
set_option maxRecDepth 100000 in
theorem specCons_any {E : Env} {d' : Nat} (ih : ReadC E d') (hd' : d' ≤ 6) {w : World} {left : Nat} (h : Sr E left false w) (hl : left ≤ 100) (x : Int) (hx : x ≤ 9223372036854775807) :
    Calls Try.prog 60 #[.pointer (some ⟨E.rb, 0, none⟩), .int .i64 x, .int .i64 ((d' + 1 : Nat) : Int)] w fun e w' => ∃ t v, e = .returned v ∧ RpV (fun b => w.heap.size ≤ b) w' t v ∧ Turn E.rb w w' ∧
      ((∃ y : Nat, tup 5 (rL E.H (rT false E.H d') 20 x left) = some (t, y) ∧ Sr E y false w') ∨ (tup 5 (rL E.H (rT false E.H d') 20 x left) = none ∧ ∃ z : Int, Sr E z true w')) := by
  have HS : Hid (Sr E left false w) := h
  have HL : Hid (left ≤ 100) := hl
  have HT : Hid (ReadC E d') := ih
  have HX0 : Hid (x ≤ 9223372036854775807) := hx
  have hrl := h.lt
  have HM3 : Hid (mkw 3 0 = 3) := by show _ = _; decide
  obtain ⟨D, hD⟩ : ∃ D : Int, D = ((d' + 1 : Nat) : Int) := ⟨_, rfl⟩
  rw [← hD]
  have HQD : Hid (D - 1 = d') := by show _ = _; omega
  have HWR : Hid (IntKind.i64.wrap (D - 1) = d') := by show _ = _; rw [IntKind.wrap_i64]; omega
  have hD0 : 1 ≤ D := by omega
  have hD6 : D ≤ 7 := by omega
  clear h hl ih hD hx
  obtain ⟨i0, hi, hzz0, hzz1, hzz2⟩ := infoParts infoTm
  generalize hGG : tup 5 (rL E.H (rT false E.H d') 20 x left) = GG
  obtain ⟨G, hG⟩ : ∃ G, G = rL E.H (rT false E.H d') 20 x left := ⟨_, rfl⟩
  have HGT : Hid (GG = tup 5 G) := by show _ = _; rw [hG]; exact hGG.symm
  have HG : Hid (G = rL E.H (rT false E.H d') 20 x left) := hG
  clear hGG hG
  go_enter Try.func60, Try.ntmps60
  go_wp2_with fail
  have hbx : Below w.heap.size w (w.alloc (.cells #[.int .i64 0, .int .i64 0, .string ⟨#[]⟩, .slice none 0 0] 64)) := (Below.refl _ _).alloc (Nat.le_refl _) _
  have HG0 : Hid (GS E w ((w.alloc (.cells #[.int .i64 0, .int .i64 0, .string ⟨#[]⟩, .slice none 0 0] 64)).alloc (.cells #[.int .i64 5, .int .i64 0, .string ⟨#[]⟩, .slice none 0 0] 64)) (w.heap.size + 1) 5 [] (.slice none 0 0) []) := by
    have := GS.start (w3 := w.alloc (.cells #[.int .i64 0, .int .i64 0, .string ⟨#[]⟩, .slice none 0 0] 64)) (Turn.of_below hbx) hrl (by rw [World.size_alloc]; exact Nat.le_refl _) rfl (fun o => World.cell?_alloc_new w _ _ o) (fun o => World.frozen?_alloc_new w _ _ o) 5
    rw [World.size_alloc] at this
    exact this
  have HS0 : Hid (Sr E left false ((w.alloc (.cells #[.int .i64 0, .int .i64 0, .string ⟨#[]⟩, .slice none 0 0] 64)).alloc (.cells #[.int .i64 5, .int .i64 0, .string ⟨#[]⟩, .slice none 0 0] 64))) := (HS.out.below hbx).below ((Below.refl _ _).alloc (Nat.le_refl _) _)
  obtain ⟨tb, htb⟩ : ∃ tb, tb = w.heap.size + 1 := ⟨_, rfl⟩
  rw [← htb] at HG0
  rw [← htb]
  have htb0 : w.heap.size < tb := by omega
  clear htb hbx
  go_loopw [1] (fun vx wr => ∃ (x : Int) (l : List Tm) (u : Value) (xs : List Value), vx = .int .i64 x ∧ x ≤ 9223372036854775807 ∧ GS E w wr tb 5 l u xs ∧ l.length ≤ 20 ∧ Goes E G (fun y => rL E.H (rT false E.H d') (20 - l.length) x y) l wr) (fun _ wr => 21 - lenT tb wr)
  case atStart => exact ⟨x, [], _, _, rfl, HX0.out, HG0.out, Nat.zero_le _, .inl ⟨left, HL.out, HS0.out, by rw [pre_nil]; exact HG.out⟩⟩
  case round =>
    clear HX0 HG HG0 HS0
    obtain ⟨x, l, u, xs, rfl, hx, hg, hlk, hgo⟩ := hrel
    have HX : Hid (x ≤ 9223372036854775807) := hx
    obtain ⟨ua, uc, rfl⟩ := hg.form
    have HG : Hid (GS E w wr tb 5 l (.slice ua l.length uc) xs) := hg
    have t0 := hg.t0
    have t1 := hg.t1
    have t2 := hg.t2
    have t3 := hg.t3
    have tf := hg.tf
    have htl := hg.lt
    obtain ⟨r0, hr0⟩ := hg.r 0 (by decide)
    obtain ⟨r1, hr1⟩ := hg.r 1 (by decide)
    obtain ⟨r2, hr2⟩ := hg.r 2 (by decide)
    obtain ⟨r3, hr3⟩ := hg.r 3 (by decide)
    have hrf := hg.rf
    have hrt : E.rb ≠ tb := by have := hg.old; omega
    have hrw : E.rb ≠ w.heap.size := by have := hg.old; omega
    clear hg
    rcases hgo with ⟨y, hy, hsy, hGy⟩ | ⟨hGn, z, hsz⟩
    · have c3 := hsy.c3
      have cf := hsy.fr
      have HSY : Hid (Sr E y false wr) := hsy
      have HY : Hid (y ≤ 100) := hy
      have HGY : Hid (G = pre l (rL E.H (rT false E.H d') (20 - l.length) x y)) := hGy
      clear hsy hy hGy
      by_cases h3 : x = 3
      · subst h3
        have HE : Hid (G = some (l, y)) := by
          show _ = _
          rw [HGY.out, rL_end, pre, List.append_nil]
        go_wp2_with (first | (go_at_call 56; refine (specMake_any 3 0 _).mono ?_; rintro e w' ⟨rfl, hw'⟩; obtain rfl := hw'.symm; rw [HM3.out]))
        obtain ⟨hv, hdd, hkk⟩ := HG.out.done (.int .i64 5) (.int .i64 0) (.string ⟨#[]⟩) (.slice ua l.length uc)
        exact bodyPost_ret (v := .agg #[.int .i64 5, .int .i64 0, .string ⟨#[]⟩, .slice ua l.length uc]) (by simp [results, Try.results60, go_sem, hr0, hr1, hr2, hr3]) rfl ⟨_, _, rfl, hv, hdd, .inl ⟨y, by rw [HGT.out, HE.out]; rfl, HS.out.same HSY.out hkk⟩⟩
      · have H3 : Hid (x ≠ 3) := h3
        have hne : (x != 3) = true := by simpa using h3
        clear h3
        obtain ⟨p, hp⟩ : ∃ p : Nat, valW x = p := ⟨(valW x).toNat, by have := valW_ge x; omega⟩
        have HPV : Hid (valW x = p) := hp
        have htn : (valW x).toNat = p := by rw [hp]; simp
        have HTN : Hid ((valW x).toNat = p) := htn
        have HPB : Hid (p ≤ 9223372036854775000) := by
          show _ ≤ _
          have h1 := HX.out
          by_cases hx0 : 0 ≤ x
          · rw [valW_of hx0] at hp; omega
          · have : valW x = 0 := by unfold valW; rw [if_pos (by omega)]
            omega
        have hpb : (p : Int) ≤ 9223372036854775000 := by have := HPB.out; omega
        have HSB : Hid (Sr E y true (wr.setCell ⟨E.rb, 3, none⟩ (.bool true))) := HSY.out.setB true
        have HGB : Hid (GS E w (wr.setCell ⟨E.rb, 3, none⟩ (.bool true)) tb 5 l (.slice ua l.length uc) xs) := HG.out.bad
        clear hp htn
        by_cases hw2 : p + 2 ≤ E.H.N
        · have HA : Hid (p + 2 ≤ E.H.N) := hw2
          have HA3 : Hid (E.H.N ≠ 0) := by show _ ≠ _; omega
          clear hw2
          by_cases h5 : tagW x = 5
          · have HTG : Hid (tagW x = 5) := h5
            have HC : Hid (consAt E.H x) := ⟨h5, by rw [HPV.out]; have := HA.out; omega⟩
            clear h5
            by_cases hl20 : l.length < 20
            · have hln : ((l.length : Int) == 20) = false := by simp; omega
              have q0 : wr.cell? ⟨E.b, E.o + p, none⟩ = some (.int .i64 (E.H.f p)) := HSY.out.src.ws p (by have := HA.out; omega)
              have HBG : Hid (E.H.f p ≤ 9223372036854775807) := HSY.out.src.big _
              have HBG1 : Hid (E.H.f (p + 1) ≤ 9223372036854775807) := HSY.out.src.big _
              have HC3 : Hid (l.length + 1 ≤ maxLen) := by show _ ≤ _; unfold maxLen; omega
              have HC4 : Hid ((l.length + 1) * 56 ≤ 140737488355328) := by show _ ≤ _; omega
              have HKK : Hid (20 - l.length = (20 - (l.length + 1)) + 1) := by show _ = _; omega
              obtain ⟨x0, hx0⟩ : ∃ x0, E.H.f p = x0 := ⟨_, rfl⟩
              have HXX : Hid (E.H.f p = x0) := hx0
              rw [hx0] at q0 HBG
              clear hx0
              go_wp2_with (first | (go_at_call 56; refine (specMake_any 3 0 _).mono ?_; rintro e w' ⟨rfl, hw'⟩; obtain rfl := hw'.symm; rw [HM3.out]) | (go_at_call 48; refine (specVal_any x HX.out _).mono ?_; rintro e w' ⟨rfl, hw'⟩; obtain rfl := hw'.symm; rw [HPV.out]) | (go_at_call 45; refine (specTag_any x _).mono ?_; rintro e w' ⟨rfl, hw'⟩; obtain rfl := hw'.symm; rw [HTG.out]) | (go_at_call 68; refine (words_yes HSY.out p 2 HA.out HA3.out).mono ?_; rintro e w' ⟨⟨o2, rfl, ho2⟩, hw'⟩; obtain rfl := hw'.symm; obtain rfl := ho2 (by decide); clear ho2))
              go_region_law (first
        | (refine step_append_lies _ rfl (.tmp 44) (.tmp 52) 39 rfl (tb + 1) 64 i0 (.agg #[.int .i64 0, .int .i64 0, .string ⟨#[]⟩, .slice none 0 0]) 4 56 undTms hi hzz0 hzz1 hzz2 rfl (by decide) (.slice ua l.length uc) l.length xs (by simp [Act.eval]) (HG1.out.own.alloc _) ⟨w5.heap.size, 0, none⟩ 1 1 [.int .i64 va, .int .i64 vb, .string vc, .slice vd ve vf] (by simp [Act.eval]) rfl four8 one4 (by decide) HC3.out HC4.out (by simp; omega) _ rfl ?_; intro g6 cap6 w6 hown6 hgrow6 hat6 hlt6; obtain ⟨t36, tf6⟩ := HG1.out.grown hgrow6)
        | (go_simp; go_wp2_with (go_at_call 50; (first | rw [HWR.out] | rw [HQD.out]); refine (HT.out _ y _ HSY.out.drew HY.out HBG.out).mono ?_; rintro e w5 ⟨tt, vv, rfl, hv5, ht5, hd5⟩; obtain ⟨va, vb, vc, vd, ve, vf, rfl⟩ := hv5.form; have HG1 : Hid (GS E w w5 tb 5 l (.slice ua l.length uc) xs) := HG.out.call ht5.undrew; have htl5 := HG1.out.lt; have t35 := HG1.out.t3; have tf5 := HG1.out.tf)))
              all_goals
                obtain ⟨hg6, hk6⟩ := HG.out.more ht5.undrew hv5 hown6 hgrow6 (by rw [World.size_alloc] at hat6; exact hat6) hlt6
                have HG6 : Hid (GS E w _ tb 5 _ _ _) := hg6
                have hgo6 : Goes E G (fun y => rL E.H (rT false E.H d') (20 - (l ++ [tt]).length) (E.H.f (p + 1)) y) (l ++ [tt]) (w6.setCell ⟨tb, 3, none⟩ (.slice (some ⟨g6, 0, none⟩) (l.length + 1) cap6)) := by
                  rcases hd5 with ⟨y', hy', hs'⟩ | ⟨hn', z', hs'⟩
                  · refine .inl ⟨y', by have := rT_lt _ _ _ _ _ _ _ hy'; have := HY.out; omega, HS.out.same hs' (fun j hj => hk6 j (by omega)), ?_⟩
                    rw [HGY.out, HKK.out, rL_some H3.out HC.out (by rw [HTN.out, HXX.out]; exact hy'), pre_pre, HTN.out, List.length_append]
                    rfl
                  · refine .inr ⟨?_, z', HS.out.same hs' (fun j hj => hk6 j (by omega))⟩
                    rw [HGY.out, rL_none H3.out (by rw [HTN.out, HXX.out]; exact hn')]
                    rfl
                have hsrc6 : Src E (w6.setCell ⟨tb, 3, none⟩ (.slice (some ⟨g6, 0, none⟩) (l.length + 1) cap6)) := by
                  rcases hgo6 with ⟨_, _, h, _⟩ | ⟨_, _, h⟩
                  · exact h.src
                  · exact h.src
                have q1 := hsrc6.ws (p + 1) (by have := HA.out; omega)
                rw [← Nat.add_assoc] at q1
                have HGO6 : Hid (Goes E G _ (l ++ [tt]) _) := hgo6
                have HLG : Hid ((l ++ [tt]).length = l.length + 1) := by show _ = _; rw [List.length_append]; rfl
                clear t36 tf6 hown6 hgrow6 hat6 hlt6 hv5 hd5 ht5 HG1 htl5 t35 tf5 hg6 hk6 hgo6 hsrc6
                go_wp2_with fail
                go_roundw
                case rel => exact ⟨_, l ++ [tt], _, _, rfl, HBG1.out, HG6.out, by rw [HLG.out]; omega, HGO6.out⟩
                case measure => rw [lenT_gs HG6.out, lenT_gs HG.out, HLG.out]; omega
            · have hll : l.length = 20 := by omega
              have HLL : Hid (l.length = 20) := hll
              have HGN : Hid (G = none) := by show _ = _; rw [HGY.out, hll, rL_full H3.out]; rfl
              have hln : ((l.length : Int) == 20) = true := by simp; omega
              clear hll
              go_wp2_with (first | (go_at_call 56; refine (specMake_any 3 0 _).mono ?_; rintro e w' ⟨rfl, hw'⟩; obtain rfl := hw'.symm; rw [HM3.out]) | (go_at_call 48; refine (specVal_any x HX.out _).mono ?_; rintro e w' ⟨rfl, hw'⟩; obtain rfl := hw'.symm; rw [HPV.out]) | (go_at_call 45; refine (specTag_any x _).mono ?_; rintro e w' ⟨rfl, hw'⟩; obtain rfl := hw'.symm; rw [HTG.out]) | (go_at_call 68; refine (words_yes HSY.out p 2 HA.out HA3.out).mono ?_; rintro e w' ⟨⟨o2, rfl, ho2⟩, hw'⟩; obtain rfl := hw'.symm; obtain rfl := ho2 (by decide); clear ho2))
              obtain ⟨hv, hdd, hkk⟩ := HGB.out.done (.int .i64 5) (.int .i64 0) (.string ⟨#[]⟩) (.slice ua l.length uc)
              exact bodyPost_ret (v := .agg #[.int .i64 5, .int .i64 0, .string ⟨#[]⟩, .slice ua l.length uc]) (by simp [results, Try.results60, go_sem, hr0, hr1, hr2, hr3]) rfl ⟨_, _, rfl, hv, hdd, .inr ⟨by rw [HGT.out, HGN.out]; rfl, y, HS.out.same HSB.out hkk⟩⟩
          · have hnt : (tagW x != 5) = true := by simpa using h5
            have HGN : Hid (G = none) := by show _ = _; rw [HGY.out, rL_off H3.out (fun hc => h5 hc.1)]; rfl
            obtain ⟨tg, htg⟩ : ∃ tg, tagW x = tg := ⟨_, rfl⟩
            rw [htg] at hnt
            have HTG : Hid (tagW x = tg) := htg
            clear h5 htg
            go_wp2_with (first | (go_at_call 56; refine (specMake_any 3 0 _).mono ?_; rintro e w' ⟨rfl, hw'⟩; obtain rfl := hw'.symm; rw [HM3.out]) | (go_at_call 48; refine (specVal_any x HX.out _).mono ?_; rintro e w' ⟨rfl, hw'⟩; obtain rfl := hw'.symm; rw [HPV.out]) | (go_at_call 45; refine (specTag_any x _).mono ?_; rintro e w' ⟨rfl, hw'⟩; obtain rfl := hw'.symm; rw [HTG.out]) | (go_at_call 68; refine (words_yes HSY.out p 2 HA.out HA3.out).mono ?_; rintro e w' ⟨⟨o2, rfl, ho2⟩, hw'⟩; obtain rfl := hw'.symm; obtain rfl := ho2 (by decide); clear ho2))
            obtain ⟨hv, hdd, hkk⟩ := HGB.out.done (.int .i64 5) (.int .i64 0) (.string ⟨#[]⟩) (.slice ua l.length uc)
            exact bodyPost_ret (v := .agg #[.int .i64 5, .int .i64 0, .string ⟨#[]⟩, .slice ua l.length uc]) (by simp [results, Try.results60, go_sem, hr0, hr1, hr2, hr3]) rfl ⟨_, _, rfl, hv, hdd, .inr ⟨by rw [HGT.out, HGN.out]; rfl, y, HS.out.same HSB.out hkk⟩⟩
        · have HA : Hid (false = true ∨ ¬ p + 2 ≤ E.H.N) := .inr hw2
          have HGN : Hid (G = none) := by show _ = _; rw [HGY.out, rL_off H3.out (fun hc => hw2 (by have := hc.2; rw [HPV.out] at this; omega))]; rfl
          clear hw2 HSB HGB
          go_wp2_with (first | (go_at_call 56; refine (specMake_any 3 0 _).mono ?_; rintro e w' ⟨rfl, hw'⟩; obtain rfl := hw'.symm; rw [HM3.out]) | (go_at_call 48; refine (specVal_any x HX.out _).mono ?_; rintro e w' ⟨rfl, hw'⟩; obtain rfl := hw'.symm; rw [HPV.out]) | (go_at_call 68; refine (words_no HSY.out p 2 HPB.out HA.out).mono ?_; rintro e w5 ⟨⟨g5, rfl⟩, ht5, hs5⟩; have c35 := hs5.c3; have cf5 := hs5.fr; have HG5 : Hid (GS E w w5 tb 5 l (.slice ua l.length uc) xs) := HG.out.call ht5; have HSB : Hid (Sr E y true (w5.setCell ⟨E.rb, 3, none⟩ (.bool true))) := hs5.setB true; have HGB : Hid (GS E w (w5.setCell ⟨E.rb, 3, none⟩ (.bool true)) tb 5 l (.slice ua l.length uc) xs) := HG5.out.bad; clear t0 t1 t2 t3 tf hrf hr0 hr1 hr2 hr3; have t0 := HG5.out.t0; have t1 := HG5.out.t1; have t2 := HG5.out.t2; have t3 := HG5.out.t3; have tf := HG5.out.tf; have hrf := HG5.out.rf; obtain ⟨r0', hr0⟩ := HG5.out.r 0 (by decide); obtain ⟨r1', hr1⟩ := HG5.out.r 1 (by decide); obtain ⟨r2', hr2⟩ := HG5.out.r 2 (by decide); obtain ⟨r3', hr3⟩ := HG5.out.r 3 (by decide); clear ht5 hs5))
          obtain ⟨hv, hdd, hkk⟩ := HGB.out.done (.int .i64 5) (.int .i64 0) (.string ⟨#[]⟩) (.slice ua l.length uc)
          exact bodyPost_ret (v := .agg #[.int .i64 5, .int .i64 0, .string ⟨#[]⟩, .slice ua l.length uc]) (by simp [results, Try.results60, go_sem, hr0, hr1, hr2, hr3]) rfl ⟨_, _, rfl, hv, hdd, .inr ⟨by rw [HGT.out, HGN.out]; rfl, y, HS.out.same HSB.out hkk⟩⟩
    · have c3 := hsz.c3
      have HSZ : Hid (Sr E z true wr) := hsz
      have HGN : Hid (G = none) := hGn
      clear hsz hGn
      go_wp2_with fail
      obtain ⟨hv, hdd, hkk⟩ := HG.out.done (.int .i64 5) (.int .i64 0) (.string ⟨#[]⟩) (.slice ua l.length uc)
      exact bodyPost_ret (v := .agg #[.int .i64 5, .int .i64 0, .string ⟨#[]⟩, .slice ua l.length uc]) (by simp [results, Try.results60, go_sem, hr0, hr1, hr2, hr3]) rfl ⟨_, _, rfl, hv, hdd, .inr ⟨by rw [HGT.out, HGN.out]; rfl, z, HS.out.same HSZ.out hkk⟩⟩
end Go.Proofs.Ytjjmikfbongccaa
