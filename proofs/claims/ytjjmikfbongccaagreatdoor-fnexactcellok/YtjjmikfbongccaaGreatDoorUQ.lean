/-
  How the program reads words that a function value tells: the kinds of terms.
  (Ahead of it, in this text: How the program reads words that a function value tells: how many there are; terms side by side; a list.
  How the program reads words that a function value tells: one term. A copy of a text is that text.)
-/
import Derived.Test.YtjjmikfbongccaaGreatDoorUB
import Derived.Test.YtjjmikfbongccaaGreatDoorTmF
import Derived.Test.YtjjmikfbongccaaGreatDoorShelf
import Derived.Outline
namespace Go.Proofs.YtjjmikfbongccaaGreatDoor.Gn
open Go.RowKit
set_option linter.unusedVariables false

theorem counted_yes {E : Env} {left : Nat} {w : World} (h : Rr E left w) (v : Nat) (most : Int) (n : Nat) (hc : cnt E.H v most = some n) :
    Calls Tryz.prog 120 #[.pointer (some ⟨E.rb, 0, none⟩), .int .i64 v, .int .i64 most] w fun e w' => (∃ o' c', e = .returned (.slice (some ⟨E.sb v, o', none⟩) n c') ∧ (n ≠ 0 → o' = E.so v + 1)) ∧ w' = w := by
  obtain ⟨h1, h2, h3, h4, h5⟩ := cnt_some hc
  rw [Int.toNat_natCast] at h1 h2 h3 h4 h5
  have hN := h.ok.n v
  have HA1 : Hid (1 ≤ E.H.len v) := h1
  have HA2 : Hid (1 + n ≤ E.H.len v) := by show _ ≤ _; omega
  have q := h.ws v 0 (by omega)
  rw [← h4] at q h2 h3 h5
  rw [Nat.add_zero] at q
  have HR : Hid (Rr E left w) := h
  have hn : (n : Int) ≤ 1048576 := by omega
  have hd : decide ((n : Int) ≤ most) = true := by simp; omega
  have HV1 : Hid ((1 : Int) + (n : Int) = ((1 + n : Nat) : Int)) := by show _ = _; omega
  clear h hc h1 h4 h5 hN
  go_enter Tryz.func120, Tryz.ntmps120
  go_wp2_with fail
  refine (at_yes HR.out v 1 HA1.out (by decide)).mono ?_
  rintro e w' ⟨⟨c1, rfl, hc1⟩, rfl⟩
  go_wp2_with (first | (go_at_call 106; refine (insist_yes _).mono ?_; rintro e w' ⟨rfl, rfl⟩))
  rw [HV1.out]
  refine (at_yes HR.out v (1 + n) HA2.out (by omega)).mono ?_
  rintro e w' ⟨⟨c2, rfl, hc2⟩, rfl⟩
  by_cases h0 : c2 = 1
  · have hn0 : n = 0 := by omega
    subst hn0
    subst h0
    go_wp2_with fail
    go_ret
    exact ⟨⟨_, _, rfl, fun h => absurd rfl h⟩, rfl⟩
  · go_wp2_with fail
    go_ret
    exact ⟨⟨_, _, ret_sl (by omega) rfl, fun _ => rfl⟩, rfl⟩
theorem counted_no {E : Env} {left : Nat} {w : World} (h : Rr E left w) (v : Nat) (most : Int) (hm : most ≤ 1000) (hv : v ≤ 4000000) (hc : cnt E.H v most = none) :
    Calls Tryz.prog 120 #[.pointer (some ⟨E.rb, 0, none⟩), .int .i64 v, .int .i64 most] w fun e w' => e = .panicked PN ∧ w' = w := by
  have HR : Hid (Rr E left w) := h
  have HV : Hid (v ≤ 4000001) := by show _ ≤ _; omega
  by_cases h1 : 1 ≤ E.H.len v
  · have HA1 : Hid (1 ≤ E.H.len v) := h1
    have q := h.ws v 0 (by omega)
    rw [Nat.add_zero] at q
    have hx : cnt E.H v most = none := hc
    unfold cnt at hx
    rw [Int.toNat_natCast] at hx
    have hN := h.ok.n v
    have HC : Hid (¬ (0 ≤ E.H.w v 0 ∧ E.H.w v 0 ≤ most ∧ E.H.w v 0 ≤ (E.H.len v : Int) - 1)) := by
      intro hh
      rw [if_pos ⟨by omega, hh⟩] at hx
      cases hx
    clear h hc hx h1
    generalize E.H.w v 0 = x at *
    go_enter Tryz.func120, Tryz.ntmps120
    go_wp2_with fail
    refine (at_yes HR.out v 1 HA1.out (by decide)).mono ?_
    rintro e w' ⟨⟨c1, rfl, hc1⟩, rfl⟩
    by_cases h2 : 0 ≤ x
    · by_cases h3 : x ≤ most
      · obtain ⟨n, rfl⟩ : ∃ n : Nat, x = n := ⟨x.toNat, by omega⟩
        have HA2 : Hid (¬ 1 + n ≤ E.H.len v) := by
          show ¬ _
          have := HC.out
          omega
        have HN : Hid (1 + n ≤ 4000000) := by show _ ≤ _; omega
        have HV1 : Hid ((1 : Int) + (n : Int) = ((1 + n : Nat) : Int)) := by show _ = _; omega
        have hd : decide ((n : Int) ≤ most) = true := by simp; omega
        go_wp2_with (first | (go_at_call 106; refine (insist_yes _).mono ?_; rintro e w' ⟨rfl, rfl⟩) | (go_at_call 129; rw [HV1.out]; refine (at_no HR.out v (1 + n) HA2.out HV.out HN.out).mono ?_; rintro e w' ⟨rfl, rfl⟩))
        exact ⟨rfl, rfl, rfl⟩
      · have hd : decide (x ≤ most) = false := by simp; omega
        go_wp2_with (first | (go_at_call 106; refine (insist_no _).mono ?_; rintro e w' ⟨rfl, rfl⟩))
        exact ⟨rfl, rfl, rfl⟩
    · go_wp2_with (first | (go_at_call 106; refine (insist_no _).mono ?_; rintro e w' ⟨rfl, rfl⟩))
      exact ⟨rfl, rfl, rfl⟩
  · have HA1 : Hid (¬ 1 ≤ E.H.len v) := h1
    clear h hc h1
    go_enter Tryz.func120, Tryz.ntmps120
    go_wp2_with (first | (go_at_call 129; refine (at_no HR.out v 1 HA1.out HV.out (by decide)).mono ?_; rintro e w' ⟨rfl, rfl⟩))
    exact ⟨rfl, rfl, rfl⟩
def TermC (E : Env) (d : Nat) : Prop := ∀ (w : World) (left : Nat) (x : Int), Rr E left w → left ≤ 100 → x ≤ 9223372036854775807 →
  Calls Tryz.prog 90 #[.pointer (some ⟨E.rb, 0, none⟩), .int .i64 x, .int .i64 d] w fun e w' => Turn E.rb w w' ∧
    ((∃ t y v, rT true E.H d x left = some (t, y) ∧ e = .returned v ∧ OwV w' (w.heap.size) w'.heap.size t v ∧ Rr E y w') ∨ (rT true E.H d x left = none ∧ e = .panicked PN))
theorem term_yes {E : Env} {d : Nat} (h : TermC E d) {w : World} {left : Nat} {x : Int} (hr : Rr E left w) (hl : left ≤ 100) (hx : x ≤ 9223372036854775807) {t : Tm} {y : Nat} (he : rT true E.H d x left = some (t, y)) :
    Calls Tryz.prog 90 #[.pointer (some ⟨E.rb, 0, none⟩), .int .i64 x, .int .i64 d] w fun e w' => ∃ a b c d' e' f, e = .returned (.agg #[.int .i64 a, .int .i64 b, .string c, .slice d' e' f]) ∧ Turn E.rb w w' ∧ OwV w' (w.heap.size) w'.heap.size t (.agg #[.int .i64 a, .int .i64 b, .string c, .slice d' e' f]) ∧ Rr E y w' := by
  refine (h w left x hr hl hx).mono ?_
  rintro e w' ⟨ht, ⟨t', y', v, hh, rfl, hv, hrr⟩ | ⟨hh, rfl⟩⟩
  · rw [he] at hh
    simp only [Option.some.injEq, Prod.mk.injEq] at hh
    obtain ⟨rfl, rfl⟩ := hh
    obtain ⟨a, b, c, d', e', f, rfl⟩ := hv.form
    exact ⟨a, b, c, d', e', f, rfl, ht, hv, hrr⟩
  · rw [he] at hh; cases hh
theorem term_no {E : Env} {d : Nat} (h : TermC E d) {w : World} {left : Nat} {x : Int} (hr : Rr E left w) (hl : left ≤ 100) (hx : x ≤ 9223372036854775807) (he : rT true E.H d x left = none) :
    Calls Tryz.prog 90 #[.pointer (some ⟨E.rb, 0, none⟩), .int .i64 x, .int .i64 d] w fun e w' => e = .panicked PN ∧ Turn E.rb w w' := by
  refine (h w left x hr hl hx).mono ?_
  rintro e w' ⟨ht, ⟨t', y', v, hh, rfl, hv, hrr⟩ | ⟨hh, rfl⟩⟩
  · rw [he] at hh; cases hh
  · exact ⟨rfl, ht⟩
def leftOf (E : Env) (w : World) : Nat := match w.cell? ⟨E.rb, 2, none⟩ with | some (.int _ x) => x.toNat | _ => 0
theorem leftOf_rr {E : Env} {left : Nat} {w : World} (h : Rr E left w) : leftOf E w = left := by unfold leftOf; rw [h.c2]; simp
set_option maxHeartbeats 2000000 in
set_option maxRecDepth 100000 in
theorem terms_any {E : Env} {d : Nat} (ih : TermC E d) {w : World} {left : Nat} (h : Rr E left w) (hl : left ≤ 100) (V p n o' cap' : Nat) (ho : n ≠ 0 → o' = E.so V + p) (hpn : p + n ≤ E.H.len V) (hn8 : n ≤ 8) :
    Calls Tryz.prog 119 #[.pointer (some ⟨E.rb, 0, none⟩), .slice (some ⟨E.sb V, o', none⟩) n cap', .int .i64 d] w fun e w' => Turn E.rb w w' ∧
      ((∃ l y v, rTs (E.H.w V) (rT true E.H d) n p left = some (l, y) ∧ e = .returned v ∧ IsL w w' v l ∧ Rr E y w') ∨ (rTs (E.H.w V) (rT true E.H d) n p left = none ∧ e = .panicked PN)) := by
  have IH : Hid (TermC E d) := ih
  have HR : Hid (Rr E left w) := h
  have HO : Hid (n ≠ 0 → o' = E.so V + p) := ho
  have HPN : Hid (p + n ≤ E.H.len V) := hpn
  have hN := h.ok.n V
  have HL : Hid (left ≤ 100) := hl
  clear ih h ho hpn hl
  obtain ⟨i0, hi, hz0, hz1, hz2⟩ := infoParts infoTm
  have HI : Hid (Tryz.prog.info? 66 = some i0 ∧ i0.zero = some (.agg #[.int .i64 0, .int .i64 0, .string ⟨#[]⟩, .slice none 0 0]) ∧ i0.size = 4 ∧ i0.bytes = 56) := ⟨hi, hz0, hz1, hz2⟩
  clear hi hz0 hz1 hz2
  generalize hG : rTs (E.H.w V) (rT true E.H d) n p left = G
  have HG : Hid (rTs (E.H.w V) (rT true E.H d) n p left = G) := hG
  clear hG
  go_enter Tryz.func119, Tryz.ntmps119
  go_wp2_with fail
  go_loopw [7, 12] (fun v i wr => ∃ (m : Nat) (l : List Tm) (xs : List Value) (y : Nat), m ≤ n ∧ i = .int .i64 m ∧ l.length = m ∧ y ≤ 100 ∧ GI E w wr l v xs y ∧ G = pre l (rTs (E.H.w V) (rT true E.H d) (n - m) (p + m) y)) (fun _ i _ => n - (intOf i).toNat)
  case atStart => exact ⟨0, [], [], left, Nat.zero_le _, rfl, rfl, HL.out, GI.start HR.out, by rw [pre_nil]; exact HG.out.symm⟩
  case round =>
    obtain ⟨m, l, xs, y, hm, rfl, hlm, hy, hg, hG⟩ := hrel
    have HY : Hid (y ≤ 100) := hy
    obtain ⟨ua, uc, rfl⟩ := hg.form
    have HGI : Hid (GI E w wr l (.slice ua l.length uc) xs y) := hg
    have HGG : Hid (G = pre l (rTs (E.H.w V) (rT true E.H d) (n - m) (p + m) y)) := hG
    have HLM : Hid (l.length = m) := hlm
    clear hg hG hy hlm
    by_cases hlt : m < n
    · have q : wr.cell? ⟨E.sb V, o' + m, none⟩ = some (.int .i64 (E.H.w V (p + m))) := by
        rw [HO.out (by omega), Nat.add_assoc]
        exact HGI.out.rr.ws V (p + m) (by have := HPN.out; omega)
      have HK : Hid (n - m = (n - (m + 1)) + 1) := by show _ = _; omega
      have HBG : Hid (E.H.w V (p + m) ≤ 9223372036854775807) := HGI.out.rr.big _ _
      cases hrt : rT true E.H d (E.H.w V (p + m)) y with
      | none =>
        have HN : Hid (rT true E.H d (E.H.w V (p + m)) y = none) := hrt
        have HE : Hid (G = none) := by show _ = _; rw [HGG.out, HK.out, rTs_none hrt]; rfl
        clear hrt
        generalize E.H.w V (p + m) = x at *
        go_wp2_with (first | (go_at_call 90; refine (term_no IH.out HGI.out.rr HY.out HBG.out HN.out).mono ?_; rintro e w5 ⟨rfl, ht5⟩))
        exact ⟨rfl, HGI.out.turn.trans ht5, .inr ⟨HE.out, rfl⟩⟩
      | some ty =>
        obtain ⟨t, z⟩ := ty
        have HS : Hid (rT true E.H d (E.H.w V (p + m)) y = some (t, z)) := hrt
        have HE : Hid (G = pre (l ++ [t]) (rTs (E.H.w V) (rT true E.H d) (n - (m + 1)) (p + (m + 1)) z)) := by show _ = _; rw [HGG.out, HK.out, rTs_some hrt, pre_pre]; rfl
        have HZ : Hid (z ≤ 100) := by show _ ≤ _; have := rT_lt _ _ _ _ _ _ _ hrt; have := HY.out; omega
        clear hrt
        generalize E.H.w V (p + m) = x at *
        go_wp2_with (first | (go_at_call 90; refine (term_yes IH.out HGI.out.rr HY.out HBG.out HS.out).mono ?_; rintro e w5 ⟨va, vb, vc, vd, ve, vf, rfl, ht5, hv5, hr5⟩; have HG1 : Hid (GI E w w5 l (.slice ua l.length uc) xs z) := HGI.out.call ht5 hr5; have C5 : Hid (w.heap.size ≤ (w5.alloc (.cells #[.int .i64 va, .int .i64 vb, .string vc, .slice vd ve vf] 66)).heap.size) := (by rw [World.size_alloc]; exact Nat.le_succ_of_le HG1.out.turn.size); have C3 : Hid (l.length + 1 ≤ maxLen) := (by rw [HLM.out]; show _ ≤ _; unfold maxLen; omega); have C4 : Hid ((l.length + 1) * 56 ≤ 140737488355328) := (by rw [HLM.out]; show _ ≤ _; omega)) | (at_builtin; refine wpList_append_own_at _ rfl _ _ 64 rfl w.heap.size 66 i0 (.agg #[.int .i64 0, .int .i64 0, .string ⟨#[]⟩, .slice none 0 0]) 4 56 undTms HI.out.1 HI.out.2.1 HI.out.2.2.1 HI.out.2.2.2 rfl (by decide) _ l.length xs rfl (HG1.out.own.alloc _) ⟨w5.heap.size, 0, none⟩ 1 1 [.int .i64 va, .int .i64 vb, .string vc, .slice vd ve vf] rfl rfl four8 one4 C3.out C4.out C5.out ?_; intro v6 w6 hown6 hgr6 hnn6 hat6))
        have HG2 := HGI.out.more ht5 hr5 hv5 hown6 hgr6 hat6
        go_roundw
        case rel => exact ⟨m + 1, l ++ [t], _, z, by omega, by go_num, by rw [List.length_append, HLM.out]; rfl, HZ.out, HG2, HE.out⟩
        case measure => simp [intOf]; omega
    · have HE : Hid (G = some (l, y)) := by
        show _ = _
        rw [HGG.out, show n - m = 0 by omega, rTs, pre, List.append_nil]
      go_wp2_with fail
      go_ret
      exact ⟨HGI.out.turn, .inl ⟨l, y, _, HE.out, rfl, HGI.out.list, HGI.out.rr⟩⟩
set_option maxHeartbeats 4000000 in
set_option maxRecDepth 100000 in
theorem list_any {E : Env} {d : Nat} (ih : TermC E d) {w : World} {left : Nat} (h : Rr E left w) (hl : left ≤ 100) (x : Int) (hx : x ≤ 9223372036854775807) :
    Calls Tryz.prog 122 #[.pointer (some ⟨E.rb, 0, none⟩), .int .i64 x, .int .i64 d] w fun e w' => Turn E.rb w w' ∧
      ((∃ l y v, rL E.H (rT true E.H d) left x left = some (l, y) ∧ e = .returned v ∧ IsL w w' v l ∧ Rr E y w') ∨ (rL E.H (rT true E.H d) left x left = none ∧ e = .panicked PN)) := by
  have IH : Hid (TermC E d) := ih
  have HR : Hid (Rr E left w) := h
  have hF := h.ok.far
  have hN := h.ok.n
  have HL : Hid (left ≤ 100) := hl
  have HX0 : Hid (x ≤ 9223372036854775807) := hx
  clear ih h hl hx
  obtain ⟨i0, hi, hz0, hz1, hz2⟩ := infoParts infoTm
  have HI : Hid (Tryz.prog.info? 66 = some i0 ∧ i0.zero = some (.agg #[.int .i64 0, .int .i64 0, .string ⟨#[]⟩, .slice none 0 0]) ∧ i0.size = 4 ∧ i0.bytes = 56) := ⟨hi, hz0, hz1, hz2⟩
  clear hi hz0 hz1 hz2
  generalize hG : rL E.H (rT true E.H d) left x left = G
  have HG : Hid (rL E.H (rT true E.H d) left x left = G) := hG
  clear hG
  go_enter Tryz.func122, Tryz.ntmps122
  go_wp2_with fail
  go_loopw [1, 7] (fun vx v wr => ∃ (x : Int) (l : List Tm) (xs : List Value) (y : Nat), vx = .int .i64 x ∧ x ≤ 9223372036854775807 ∧ l.length + y ≤ 100 ∧ GI E w wr l v xs y ∧ G = pre l (rL E.H (rT true E.H d) y x y)) (fun _ _ wr => leftOf E wr)
  case atStart => exact ⟨x, [], [], left, rfl, HX0.out, by simpa using HL.out, GI.start HR.out, by rw [pre_nil]; exact HG.out.symm⟩
  case round =>
    clear HX0 HG
    obtain ⟨x, l, xs, y, rfl, hx, hy, hg, hG⟩ := hrel
    have HX : Hid (x ≤ 9223372036854775807) := hx
    have HY : Hid (y ≤ 100) := by show _ ≤ _; omega
    obtain ⟨ua, uc, rfl⟩ := hg.form
    have HGI : Hid (GI E w wr l (.slice ua l.length uc) xs y) := hg
    have HGG : Hid (G = pre l (rL E.H (rT true E.H d) y x y)) := hG
    have HLY : Hid (l.length + y ≤ 100) := hy
    clear hg hG hy
    by_cases h3 : x = 3
    · subst h3
      have HE : Hid (G = some (l, y)) := by
        show _ = _
        rw [HGG.out, rL_end, pre, List.append_nil]
      go_wp2_with fail
      go_ret
      exact ⟨HGI.out.turn, .inl ⟨l, y, _, HE.out, rfl, HGI.out.list, HGI.out.rr⟩⟩
    · have H3 : Hid (x ≠ 3) := h3
      have hne : (x != 3) = true := by simpa using h3
      by_cases hc : consAt E.H x
      · have hiw : isW x = true := by
          have h5 := hc.1
          have h2 := hc.2
          have hv := valW_ge x
          have := hF _ (by omega : E.H.len (valW x).toNat ≠ 0)
          refine isW_of ?_ (by omega) (by omega)
          unfold tagW at h5
          split at h5 <;> omega
        have HC : Hid (consAt E.H x) := hc
        have h5 : tagW x = 5 := hc.1
        obtain ⟨p, hp⟩ : ∃ p : Nat, valW x = p := ⟨(valW x).toNat, by have := valW_ge x; omega⟩
        have HP : Hid (valW x = p) := hp
        have hpN : 2 ≤ E.H.len p := by have h2 := hc.2; rw [hp] at h2; simpa using h2
        have HA : Hid (2 ≤ E.H.len p) := hpN
        have q0 : wr.cell? ⟨E.sb p, E.so p, none⟩ = some (.int .i64 (E.H.w p 0)) := HGI.out.rr.ws p 0 (by omega)
        have HQ1 : Hid (1 < E.H.len p) := by show _ < _; omega
        have HB0 : Hid (E.H.w p 0 ≤ 9223372036854775807) := HGI.out.rr.big _ _
        have HB1 : Hid (E.H.w p 1 ≤ 9223372036854775807) := HGI.out.rr.big _ _
        have HIW : Hid (isW x = true) := hiw
        have HT5 : Hid (tagW x = 5) := h5
        clear hc hp hiw h5
        have htn : (valW x).toNat = p := by rw [HP.out]; simp
        cases hrt : rT true E.H d (E.H.w p 0) y with
        | none =>
          have HN : Hid (rT true E.H d (E.H.w p 0) y = none) := hrt
          have HE : Hid (G = none) := by show _ = _; rw [HGG.out, rL_none H3.out (by rw [htn]; exact hrt)]; rfl
          clear hrt htn
          generalize E.H.w p 0 = x0 at *
          go_wp2_with (first | (go_at_call 107; refine (isWord_any x HX.out _).mono ?_; rintro e w' ⟨rfl, rfl⟩; rw [HIW.out]) | (go_at_call 92; refine (implTag_any x HX.out _).mono ?_; rintro e w' ⟨rfl, rfl⟩; rw [HT5.out]) | (go_at_call 93; refine (implVal_any x HX.out _).mono ?_; rintro e w' ⟨rfl, rfl⟩; rw [HP.out]) | (go_at_call 106; refine (insist_yes _).mono ?_; rintro e w' ⟨rfl, rfl⟩) | (go_at_call 129; refine (at_yes HGI.out.rr p 2 HA.out (by decide)).mono ?_; rintro e w' ⟨⟨c2, rfl, hc2⟩, rfl⟩) | (go_at_call 90; refine (term_no IH.out HGI.out.rr HY.out HB0.out HN.out).mono ?_; rintro e w5 ⟨rfl, ht5⟩))
          exact ⟨rfl, HGI.out.turn.trans ht5, .inr ⟨HE.out, rfl⟩⟩
        | some ty =>
          obtain ⟨t, z⟩ := ty
          have hzy := rT_lt _ _ _ _ _ _ _ hrt
          have HS : Hid (rT true E.H d (E.H.w p 0) y = some (t, z)) := hrt
          have HE : Hid (G = pre (l ++ [t]) (rL E.H (rT true E.H d) z (E.H.w p 1) z)) := by
            show _ = _
            obtain ⟨y', rfl⟩ : ∃ y', y = y' + 1 := ⟨y - 1, by omega⟩
            rw [HGG.out, rL_some H3.out HC.out (by rw [htn]; exact hrt), pre_pre, htn, rL_more (rT_lt true E.H d) y' z _ z (by omega) (Nat.le_refl _)]
          have HZ : Hid (l.length + 1 + z ≤ 100) := by show _ ≤ _; have := HLY.out; omega
          have HZY : Hid (z < y) := hzy
          clear hrt htn hzy
          generalize E.H.w p 0 = x0 at *
          go_wp2_with (first | (go_at_call 107; refine (isWord_any x HX.out _).mono ?_; rintro e w' ⟨rfl, rfl⟩; rw [HIW.out]) | (go_at_call 92; refine (implTag_any x HX.out _).mono ?_; rintro e w' ⟨rfl, rfl⟩; rw [HT5.out]) | (go_at_call 93; refine (implVal_any x HX.out _).mono ?_; rintro e w' ⟨rfl, rfl⟩; rw [HP.out]) | (go_at_call 106; refine (insist_yes _).mono ?_; rintro e w' ⟨rfl, rfl⟩) | (go_at_call 129; refine (at_yes HGI.out.rr p 2 HA.out (by decide)).mono ?_; rintro e w' ⟨⟨c2, rfl, hc2⟩, rfl⟩) | (go_at_call 90; refine (term_yes IH.out HGI.out.rr HY.out HB0.out HS.out).mono ?_; rintro e w5 ⟨va, vb, vc, vd, ve, vf, rfl, ht5, hv5, hr5⟩; have HG1 : Hid (GI E w w5 l (.slice ua l.length uc) xs z) := HGI.out.call ht5 hr5; have C5 : Hid (w.heap.size ≤ (w5.alloc (.cells #[.int .i64 va, .int .i64 vb, .string vc, .slice vd ve vf] 66)).heap.size) := (by rw [World.size_alloc]; exact Nat.le_succ_of_le HG1.out.turn.size); have C3 : Hid (l.length + 1 ≤ maxLen) := (by have := HLY.out; show _ ≤ _; unfold maxLen; omega); have C4 : Hid ((l.length + 1) * 56 ≤ 140737488355328) := (by have := HLY.out; show _ ≤ _; omega)) | (at_builtin; refine wpList_append_own_at _ rfl _ _ 64 rfl w.heap.size 66 i0 (.agg #[.int .i64 0, .int .i64 0, .string ⟨#[]⟩, .slice none 0 0]) 4 56 undTms HI.out.1 HI.out.2.1 HI.out.2.2.1 HI.out.2.2.2 rfl (by decide) _ l.length xs rfl (HG1.out.own.alloc _) ⟨w5.heap.size, 0, none⟩ 1 1 [.int .i64 va, .int .i64 vb, .string vc, .slice vd ve vf] rfl rfl four8 one4 C3.out C4.out C5.out ?_; intro v6 w6 hown6 hgr6 hnn6 hat6; have HG2 : Hid (GI E w w6 (l ++ [t]) v6 (xs ++ [.int .i64 va, .int .i64 vb, .string vc, .slice vd ve vf]) z) := HGI.out.more ht5 hr5 hv5 hown6 hgr6 hat6; have q1 := HG2.out.rr.ws p 1 HQ1.out))
          go_roundw
          case rel => exact ⟨_, l ++ [t], _, z, rfl, HB1.out, by rw [List.length_append]; exact HZ.out, HG2.out, HE.out⟩
          case measure => rw [leftOf_rr HG2.out.rr, leftOf_rr HGI.out.rr]; exact HZY.out
      · have HE : Hid (G = none) := by show _ = _; rw [HGG.out, rL_off H3.out hc]; rfl
        have HC : Hid (¬ consAt E.H x) := hc
        clear hc
        cases hiw : isW x with
        | false =>
          have HIW : Hid (isW x = false) := hiw
          clear hiw
          go_wp2_with (first | (go_at_call 107; refine (isWord_any x HX.out _).mono ?_; rintro e w' ⟨rfl, rfl⟩; rw [HIW.out]) | (go_at_call 106; refine (insist_no _).mono ?_; rintro e w' ⟨rfl, rfl⟩))
          exact ⟨rfl, HGI.out.turn, .inr ⟨HE.out, rfl⟩⟩
        | true =>
          have HIW : Hid (isW x = true) := hiw
          by_cases h5 : tagW x = 5
          · obtain ⟨p, hp⟩ : ∃ p : Nat, valW x = p := ⟨(valW x).toNat, by have := valW_ge x; omega⟩
            have HP : Hid (valW x = p) := hp
            have HA : Hid (¬ 2 ≤ E.H.len p) := by
              intro hh
              exact HC.out ⟨h5, by rw [hp]; simpa using hh⟩
            have HPB : Hid (p ≤ 4000001) := by show _ ≤ _; have := isW_val hiw; omega
            have HT5 : Hid (tagW x = 5) := h5
            clear hp h5 hiw
            go_wp2_with (first | (go_at_call 107; refine (isWord_any x HX.out _).mono ?_; rintro e w' ⟨rfl, rfl⟩; rw [HIW.out]) | (go_at_call 92; refine (implTag_any x HX.out _).mono ?_; rintro e w' ⟨rfl, rfl⟩; rw [HT5.out]) | (go_at_call 93; refine (implVal_any x HX.out _).mono ?_; rintro e w' ⟨rfl, rfl⟩; rw [HP.out]) | (go_at_call 106; refine (insist_yes _).mono ?_; rintro e w' ⟨rfl, rfl⟩) | (go_at_call 129; refine (at_no HGI.out.rr p 2 HA.out HPB.out (by decide)).mono ?_; rintro e w' ⟨rfl, rfl⟩))
            exact ⟨rfl, HGI.out.turn, .inr ⟨HE.out, rfl⟩⟩
          · have h5b : (tagW x == 5) = false := by simpa using h5
            clear hiw
            go_wp2_with (first | (go_at_call 107; refine (isWord_any x HX.out _).mono ?_; rintro e w' ⟨rfl, rfl⟩; rw [HIW.out]) | (go_at_call 92; refine (implTag_any x HX.out _).mono ?_; rintro e w' ⟨rfl, rfl⟩) | (go_at_call 106; refine (insist_no _).mono ?_; rintro e w' ⟨rfl, rfl⟩))
            exact ⟨rfl, HGI.out.turn, .inr ⟨HE.out, rfl⟩⟩
end Go.Proofs.YtjjmikfbongccaaGreatDoor.Gn

namespace Go.Proofs.YtjjmikfbongccaaGreatDoor.Gn
open Go.RowKit
set_option linter.unusedVariables false

theorem terms_yes {E : Env} {d : Nat} (ih : TermC E d) {w : World} {left : Nat} (h : Rr E left w) (hl : left ≤ 100) (V p n o' cap' : Nat) (ho : n ≠ 0 → o' = E.so V + p) (hpn : p + n ≤ E.H.len V) (hn8 : n ≤ 8) {l : List Tm} {y : Nat} (he : rTs (E.H.w V) (rT true E.H d) n p left = some (l, y)) :
    Calls Tryz.prog 119 #[.pointer (some ⟨E.rb, 0, none⟩), .slice (some ⟨E.sb V, o', none⟩) n cap', .int .i64 d] w fun e w' => ∃ ao cap, e = .returned (.slice ao l.length cap) ∧ Turn E.rb w w' ∧ l.length ≤ cap ∧ cap ≤ maxLen ∧ OwL w' l (w.heap.size) w'.heap.size ao ∧ Rr E y w' := by
  refine (terms_any ih h hl V p n o' cap' ho hpn hn8).mono ?_
  rintro e w' ⟨ht, ⟨l', y', v, hh, rfl, ⟨ao, cap, rfl, h1, h2, h3⟩, hrr⟩ | ⟨hh, rfl⟩⟩
  · rw [he] at hh
    simp only [Option.some.injEq, Prod.mk.injEq] at hh
    obtain ⟨rfl, rfl⟩ := hh
    exact ⟨ao, cap, rfl, ht, h1, h2, h3, hrr⟩
  · rw [he] at hh; cases hh
theorem terms_no {E : Env} {d : Nat} (ih : TermC E d) {w : World} {left : Nat} (h : Rr E left w) (hl : left ≤ 100) (V p n o' cap' : Nat) (ho : n ≠ 0 → o' = E.so V + p) (hpn : p + n ≤ E.H.len V) (hn8 : n ≤ 8) (he : rTs (E.H.w V) (rT true E.H d) n p left = none) :
    Calls Tryz.prog 119 #[.pointer (some ⟨E.rb, 0, none⟩), .slice (some ⟨E.sb V, o', none⟩) n cap', .int .i64 d] w fun e w' => e = .panicked PN ∧ Turn E.rb w w' := by
  refine (terms_any ih h hl V p n o' cap' ho hpn hn8).mono ?_
  rintro e w' ⟨ht, ⟨l', y', v, hh, rfl, ⟨ao, cap, rfl, h1, h2, h3⟩, hrr⟩ | ⟨hh, rfl⟩⟩
  · rw [he] at hh; cases hh
  · exact ⟨rfl, ht⟩
theorem list_yes {E : Env} {d : Nat} (ih : TermC E d) {w : World} {left : Nat} (h : Rr E left w) (hl : left ≤ 100) (x : Int) (hx : x ≤ 9223372036854775807) {l : List Tm} {y : Nat} (he : rL E.H (rT true E.H d) left x left = some (l, y)) :
    Calls Tryz.prog 122 #[.pointer (some ⟨E.rb, 0, none⟩), .int .i64 x, .int .i64 d] w fun e w' => ∃ ao cap, e = .returned (.slice ao l.length cap) ∧ Turn E.rb w w' ∧ l.length ≤ cap ∧ cap ≤ maxLen ∧ OwL w' l (w.heap.size) w'.heap.size ao ∧ Rr E y w' := by
  refine (list_any ih h hl x hx).mono ?_
  rintro e w' ⟨ht, ⟨l', y', v, hh, rfl, ⟨ao, cap, rfl, h1, h2, h3⟩, hrr⟩ | ⟨hh, rfl⟩⟩
  · rw [he] at hh
    simp only [Option.some.injEq, Prod.mk.injEq] at hh
    obtain ⟨rfl, rfl⟩ := hh
    exact ⟨ao, cap, rfl, ht, h1, h2, h3, hrr⟩
  · rw [he] at hh; cases hh
theorem list_no {E : Env} {d : Nat} (ih : TermC E d) {w : World} {left : Nat} (h : Rr E left w) (hl : left ≤ 100) (x : Int) (hx : x ≤ 9223372036854775807) (he : rL E.H (rT true E.H d) left x left = none) :
    Calls Tryz.prog 122 #[.pointer (some ⟨E.rb, 0, none⟩), .int .i64 x, .int .i64 d] w fun e w' => e = .panicked PN ∧ Turn E.rb w w' := by
  refine (list_any ih h hl x hx).mono ?_
  rintro e w' ⟨ht, ⟨l', y', v, hh, rfl, ⟨ao, cap, rfl, h1, h2, h3⟩, hrr⟩ | ⟨hh, rfl⟩⟩
  · rw [he] at hh; cases hh
  · exact ⟨rfl, ht⟩
theorem box_in {E : Env} {left : Nat} {w w1 : World} (h : Rr E left w) (c : Array Value) (t : TypeId) (e : w1 = w.alloc (.cells c t)) :
    w1.heap.size = w.heap.size + 1 ∧ (∀ o, w1.cell? ⟨w.heap.size, o, none⟩ = c[o]?) ∧ (∀ o, w1.frozen? ⟨w.heap.size, o, none⟩ = false) ∧ Turn E.rb w w1 ∧ Rr E left w1 ∧ E.rb ≠ w.heap.size := by
  subst e
  have hb : Below w.heap.size w (w.alloc (.cells c t)) := (Below.refl _ _).alloc (Nat.le_refl _) _
  have := h.lt
  exact ⟨World.size_alloc _ _, fun o => World.cell?_alloc_new w c t o, fun o => World.frozen?_alloc_new w _ _ o, Turn.of_below hb, h.below hb, by omega⟩
theorem box_out {E : Env} {left y : Nat} {w w5 : World} (h0 : Rr E left w) (ht : Turn E.rb w w5) (hz : w.heap.size + 1 ≤ w5.heap.size) (hr : Rr E y w5) {t : Tm} {v : Value} (hv : OwV w5 (w.heap.size + 1) w5.heap.size t v) (a b c d : Value) :
    Turn E.rb w (lay4 w5 w.heap.size a b c d) ∧ OwV (lay4 w5 w.heap.size a b c d) (w.heap.size) (lay4 w5 w.heap.size a b c d).heap.size t v ∧ Rr E y (lay4 w5 w.heap.size a b c d) := by
  have hk : ∀ k, k < w.heap.size → (lay4 w5 w.heap.size a b c d).heap[k]? = w5.heap[k]? := fun k hk => lay4_heap (by omega)
  refine ⟨⟨ht.os, ht.tape, ht.output, by rw [lay4_size]; exact ht.size, fun k hkl hkn => (hk k hkl).trans (ht.block k hkl hkn)⟩, ?_, h0.same hr hk⟩
  rw [lay4_size]
  exact (hv.keep (fun b' h1 h2 hbl => lay4_heap (by omega))).mono (by omega) (Nat.le_refl _)
theorem rp_leaf {w : World} {lo hi : Nat} (k n : Int) (s : ByteArray) (hs : s.size ≤ maxLen) : OwV w lo hi (.mk k n s []) (.agg #[.int .i64 k, .int .i64 n, .string s, .slice none 0 0]) :=
  ⟨none, 0, rfl, hs, Nat.le_refl _, Nat.zero_le _, by rw [OwL]; trivial⟩
/-- What termOf answers. -/
def TofC (E : Env) (d : Nat) (w : World) (left : Nat) (x : Int) : Prop :=
  Calls Tryz.prog 108 #[.pointer (some ⟨E.rb, 0, none⟩), .int .i64 x, .int .i64 d] w fun e w' => Turn E.rb w w' ∧
    ((∃ t y v, raw true E.H (rT true E.H d) x left = some (t, y) ∧ e = .returned v ∧ OwV w' (w.heap.size) w'.heap.size t v ∧ Rr E y w') ∨ (raw true E.H (rT true E.H d) x left = none ∧ e = .panicked PN))
set_option maxHeartbeats 2000000 in
set_option maxRecDepth 100000 in
theorem termOf_0 {E : Env} {d : Nat} {w : World} {left : Nat} (h : Rr E left w) (x : Int) (hw : isW x = true) (ht : tagW x = 0) : TofC E d w left x := by
  obtain ⟨p, hp⟩ : ∃ p : Nat, valW x = p := ⟨(valW x).toNat, by have := valW_ge x; omega⟩
  have HP : Hid (valW x = p) := hp
  have HX : Hid (x ≤ 9223372036854775807) := isW_big hw
  have HT : Hid (tagW x = 0) := ht
  have hpb : (p : Int) ≤ 4000000 := by have := isW_val hw; omega
  have HR : Hid (Rr E left w) := h
  unfold TofC
  rw [show raw true E.H (rT true E.H d) x left = some (.mk 1 ((p : Int) - 1000000) ByteArray.empty [], left) by unfold raw; rw [if_pos ht, if_neg (by simp), hp]]
  clear hp hw ht h
  go_enter Tryz.func108, Tryz.ntmps108
  go_wp2_with fail
  refine (implVal_any x HX.out _).mono ?_
  rintro e w1 ⟨rfl, hw1⟩
  rw [HP.out]
  obtain ⟨hz1, q1, f1, ht1, hr1, hne⟩ := box_in HR.out _ _ hw1
  have HT1 : Hid (Turn E.rb w w1) := ht1
  have HR1 : Hid (Rr E left w1) := hr1
  clear hw1 ht1 hr1
  go_wp2_with (first | (go_at_call 92; refine (implTag_any x HX.out _).mono ?_; rintro e w' ⟨rfl, rfl⟩; rw [HT.out]))
  obtain ⟨a1, a2, a3⟩ := box_out HR.out HT1.out (by omega) HR1.out (rp_leaf 1 ((p : Int) - 1000000) ByteArray.empty (Nat.zero_le _)) (.int .i64 1) (.int .i64 ((p : Int) - 1000000)) (.string ⟨#[]⟩) (.slice none 0 0)
  exact bodyPost_ret (v := .agg #[.int .i64 1, .int .i64 ((p : Int) - 1000000), .string ⟨#[]⟩, .slice none 0 0]) (by simp [results, Tryz.results108, go_sem, q1]) rfl ⟨a1, .inl ⟨_, _, _, rfl, rfl, a2, a3⟩⟩
end Go.Proofs.YtjjmikfbongccaaGreatDoor.Gn
namespace Go.Proofs.YtjjmikfbongccaaGreatDoor
open Go.RowKit
set_option linter.unusedVariables false

theorem strClone_any (s : ByteArray) (w : World) (h : s.size ≤ 1048576) :
    Calls Tryz.prog 118 #[.string s] w fun e w' => e = .returned (.string s) ∧ Below w.heap.size w w' := by
  have HC : Hid (∀ w, Calls Tryz.prog 128 #[.string s] w fun e w' => e = .returned (.string s) ∧ Below w.heap.size w w') := fun w => Tryz.stringslite_Clone s w (by omega)
  go_enter Tryz.func118, Tryz.ntmps118
  go_wp2_with (go_at_call 128; fail)
  refine (HC.out _).mono ?_
  rintro e w1 ⟨rfl, hb1⟩
  have HB : Hid (Below w.heap.size w w1) := hb1
  clear hb1
  go_wp2_with fail
  go_ret
  exact ⟨rfl, HB.out⟩
end Go.Proofs.YtjjmikfbongccaaGreatDoor
namespace Go.Proofs.YtjjmikfbongccaaGreatDoor.Gn
open Go.RowKit
set_option linter.unusedVariables false

set_option maxHeartbeats 2000000 in
set_option maxRecDepth 100000 in
theorem termOf_1y {E : Env} {d : Nat} {w : World} {left : Nat} (h : Rr E left w) (x : Int) (hw : isW x = true) (ht : tagW x = 1) (hv : valW x < E.H.A.length) : TofC E d w left x := by
  obtain ⟨p, hp⟩ : ∃ p : Nat, valW x = p := ⟨(valW x).toNat, by have := valW_ge x; omega⟩
  have HP : Hid (valW x = p) := hp
  have HX : Hid (x ≤ 9223372036854775807) := isW_big hw
  have HT : Hid (tagW x = 1) := ht
  have hpb : (p : Int) ≤ 4000000 := by have := isW_val hw; omega
  have HPB : Hid (p ≤ 4000000) := by show _ ≤ _; omega
  have HR : Hid (Rr E left w) := h
  have hpl : p < E.H.A.length := by omega
  obtain ⟨s, hs⟩ : ∃ s, E.H.A[p] = s := ⟨_, rfl⟩
  have HSC : Hid (s.size ≤ 1048576) := h.txt s (by rw [← hs]; exact List.getElem_mem _)
  have HSM : Hid (s.size ≤ maxLen) := Nat.le_trans HSC.out (by unfold maxLen; omega)
  have HAL : Hid (E.av = some ⟨E.ab, E.ao, none⟩) := h.al (by omega)
  have HS : Hid (E.H.A[p] = s) := hs
  unfold TofC
  rw [show raw true E.H (rT true E.H d) x left = some (.mk 2 0 s [], left) by unfold raw; rw [if_neg (by omega), if_pos ht]; unfold rAtom; rw [if_pos hv, hp, Int.toNat_natCast]; simp [hs, hpl]]
  clear hp hw ht h hv
  go_enter Tryz.func108, Tryz.ntmps108
  go_wp2_with fail
  refine (implVal_any x HX.out _).mono ?_
  rintro e w1 ⟨rfl, hw1⟩
  rw [HP.out]
  obtain ⟨hz1, q1, f1, ht1, hr1, hne⟩ := box_in HR.out _ _ hw1
  have HT1 : Hid (Turn E.rb w w1) := ht1
  have HR1 : Hid (Rr E left w1) := hr1
  have c1 := hr1.c1
  rw [HAL.out] at c1
  have ca : w1.cell? ⟨E.ab, E.ao + p, none⟩ = some (.string s) := by rw [hr1.at p hpl, HS.out]
  have hAb := hr1.ok.a
  clear HS hs
  generalize E.H.A.length = AL at *
  have hd : decide ((p : Int) < (AL : Int)) = true := by simp; omega
  clear hw1 ht1 hr1
  go_wp2_with (first | (go_at_call 92; refine (implTag_any x HX.out _).mono ?_; rintro e w1 ⟨rfl, rfl⟩; rw [HT.out]) | (go_at_call 106; refine (insist_yes _).mono ?_; rintro e w1 ⟨rfl, rfl⟩) | (go_at_call 118; fail))
  have hlt1 : w.heap.size < w1.heap.size := by omega
  refine (strClone_any s w1 HSC.out).mono ?_
  rintro e w2 ⟨rfl, hb2⟩
  have q2 : ∀ o, w2.cell? ⟨w.heap.size, o, none⟩ = w1.cell? ⟨w.heap.size, o, none⟩ := fun o => hb2.cell (p := ⟨w.heap.size, o, none⟩) hlt1
  have g2 : ∀ o, w2.frozen? ⟨w.heap.size, o, none⟩ = w1.frozen? ⟨w.heap.size, o, none⟩ := fun o => hb2.frozen (p := ⟨w.heap.size, o, none⟩) hlt1
  simp only [q1, f1] at q2 g2
  have HT2 : Hid (Turn E.rb w w2) := HT1.out.trans (Turn.of_below hb2)
  have HR2 : Hid (Rr E left w2) := HR1.out.below hb2
  have hz2 : w1.heap.size ≤ w2.heap.size := hb2.size
  clear hb2 q1 f1
  go_wp2_with fail
  obtain ⟨a1, a2, a3⟩ := box_out HR.out HT2.out (by omega) HR2.out (rp_leaf 2 0 s HSM.out) (.int .i64 2) (.int .i64 0) (.string s) (.slice none 0 0)
  exact bodyPost_ret (v := .agg #[.int .i64 2, .int .i64 0, .string s, .slice none 0 0]) (by simp [results, Tryz.results108, go_sem, q2]) rfl ⟨a1, .inl ⟨_, _, _, rfl, rfl, a2, a3⟩⟩
set_option maxHeartbeats 2000000 in
set_option maxRecDepth 100000 in
theorem termOf_1n {E : Env} {d : Nat} {w : World} {left : Nat} (h : Rr E left w) (x : Int) (hw : isW x = true) (ht : tagW x = 1) (hv : ¬ valW x < E.H.A.length) : TofC E d w left x := by
  obtain ⟨p, hp⟩ : ∃ p : Nat, valW x = p := ⟨(valW x).toNat, by have := valW_ge x; omega⟩
  have HP : Hid (valW x = p) := hp
  have HX : Hid (x ≤ 9223372036854775807) := isW_big hw
  have HT : Hid (tagW x = 1) := ht
  have hpb : (p : Int) ≤ 4000000 := by have := isW_val hw; omega
  have HPB : Hid (p ≤ 4000000) := by show _ ≤ _; omega
  have HR : Hid (Rr E left w) := h
  have hpl : ¬ p < E.H.A.length := by omega
  unfold TofC
  rw [show raw true E.H (rT true E.H d) x left = none by unfold raw; rw [if_neg (by omega), if_pos ht]; unfold rAtom; rw [if_neg hv]]
  clear hp hw ht h hv
  go_enter Tryz.func108, Tryz.ntmps108
  go_wp2_with fail
  refine (implVal_any x HX.out _).mono ?_
  rintro e w1 ⟨rfl, hw1⟩
  rw [HP.out]
  obtain ⟨hz1, q1, f1, ht1, hr1, hne⟩ := box_in HR.out _ _ hw1
  have HT1 : Hid (Turn E.rb w w1) := ht1
  have HR1 : Hid (Rr E left w1) := hr1
  have c1 := hr1.c1
  have hAb := hr1.ok.a
  generalize E.H.A.length = AL at *
  have hd : decide ((p : Int) < (AL : Int)) = false := by simp; omega
  clear hw1 ht1 hr1
  go_wp2_with (first | (go_at_call 92; refine (implTag_any x HX.out _).mono ?_; rintro e w1 ⟨rfl, rfl⟩; rw [HT.out]) | (go_at_call 106; refine (insist_no _).mono ?_; rintro e w1 ⟨rfl, rfl⟩))
  exact ⟨rfl, HT1.out, .inr ⟨trivial, rfl⟩⟩
set_option maxHeartbeats 2000000 in
set_option maxRecDepth 100000 in
theorem termOf_2 {E : Env} {d : Nat} {w : World} {left : Nat} (h : Rr E left w) (x : Int) (hw : isW x = true) (ht : tagW x = 2) : TofC E d w left x := by
  obtain ⟨p, hp⟩ : ∃ p : Nat, valW x = p := ⟨(valW x).toNat, by have := valW_ge x; omega⟩
  have HP : Hid (valW x = p) := hp
  have HX : Hid (x ≤ 9223372036854775807) := isW_big hw
  have HT : Hid (tagW x = 2) := ht
  have hpb : (p : Int) ≤ 4000000 := by have := isW_val hw; omega
  have HPB : Hid (p ≤ 4000000) := by show _ ≤ _; omega
  have HR : Hid (Rr E left w) := h
  unfold TofC
  rw [show raw true E.H (rT true E.H d) x left = some (.mk 3 (p : Int) ByteArray.empty [], left) by unfold raw; rw [if_neg (by omega), if_neg (by omega), if_pos ht, hp]]
  clear hp hw ht h
  go_enter Tryz.func108, Tryz.ntmps108
  go_wp2_with fail
  refine (implVal_any x HX.out _).mono ?_
  rintro e w1 ⟨rfl, hw1⟩
  rw [HP.out]
  obtain ⟨hz1, q1, f1, ht1, hr1, hne⟩ := box_in HR.out _ _ hw1
  have HT1 : Hid (Turn E.rb w w1) := ht1
  have HR1 : Hid (Rr E left w1) := hr1
  clear hw1 ht1 hr1
  go_wp2_with (first | (go_at_call 92; refine (implTag_any x HX.out _).mono ?_; rintro e w1 ⟨rfl, rfl⟩; rw [HT.out]))
  obtain ⟨a1, a2, a3⟩ := box_out HR.out HT1.out (by omega) HR1.out (rp_leaf 3 (p : Int) ByteArray.empty (Nat.zero_le _)) (.int .i64 3) (.int .i64 (p : Int)) (.string ⟨#[]⟩) (.slice none 0 0)
  exact bodyPost_ret (v := .agg #[.int .i64 3, .int .i64 (p : Int), .string ⟨#[]⟩, .slice none 0 0]) (by simp [results, Tryz.results108, go_sem, q1]) rfl ⟨a1, .inl ⟨_, _, _, rfl, rfl, a2, a3⟩⟩
set_option maxHeartbeats 2000000 in
set_option maxRecDepth 100000 in
theorem termOf_4n {E : Env} {d : Nat} {w : World} {left : Nat} (h : Rr E left w) (x : Int) (hw : isW x = true) (ht : tagW x = 4) (hc : cnt E.H (valW x) 8 = none) : TofC E d w left x := by
  obtain ⟨p, hp⟩ : ∃ p : Nat, valW x = p := ⟨(valW x).toNat, by have := valW_ge x; omega⟩
  have HP : Hid (valW x = p) := hp
  have HX : Hid (x ≤ 9223372036854775807) := isW_big hw
  have HT : Hid (tagW x = 4) := ht
  have hpb : (p : Int) ≤ 4000000 := by have := isW_val hw; omega
  have HPB : Hid (p ≤ 4000000) := by show _ ≤ _; omega
  have HR : Hid (Rr E left w) := h
  have HC : Hid (cnt E.H (p : Int) 8 = none) := by show _ = _; rw [← hp]; exact hc
  unfold TofC
  rw [show raw true E.H (rT true E.H d) x left = none by unfold raw; rw [if_neg (by omega), if_neg (by omega), if_neg (by omega), if_pos ht]; unfold rCnt; rw [hc]]
  clear hp hw ht h hc
  go_enter Tryz.func108, Tryz.ntmps108
  go_wp2_with fail
  refine (implVal_any x HX.out _).mono ?_
  rintro e w1 ⟨rfl, hw1⟩
  rw [HP.out]
  obtain ⟨hz1, q1, f1, ht1, hr1, hne⟩ := box_in HR.out _ _ hw1
  have HT1 : Hid (Turn E.rb w w1) := ht1
  have HR1 : Hid (Rr E left w1) := hr1
  clear hw1 ht1 hr1
  go_wp2_with (first | (go_at_call 92; refine (implTag_any x HX.out _).mono ?_; rintro e w1 ⟨rfl, rfl⟩; rw [HT.out]) | (go_at_call 120; refine (counted_no HR1.out p 8 (by decide) HPB.out HC.out).mono ?_; rintro e w1 ⟨rfl, rfl⟩))
  exact ⟨rfl, HT1.out, .inr ⟨trivial, rfl⟩⟩
set_option maxHeartbeats 2000000 in
set_option maxRecDepth 100000 in
theorem termOf_6n {E : Env} {d : Nat} {w : World} {left : Nat} (h : Rr E left w) (x : Int) (hw : isW x = true) (ht : tagW x = 6) (hc : cnt E.H (valW x) 40 = none) : TofC E d w left x := by
  obtain ⟨p, hp⟩ : ∃ p : Nat, valW x = p := ⟨(valW x).toNat, by have := valW_ge x; omega⟩
  have HP : Hid (valW x = p) := hp
  have HX : Hid (x ≤ 9223372036854775807) := isW_big hw
  have HT : Hid (tagW x = 6) := ht
  have hpb : (p : Int) ≤ 4000000 := by have := isW_val hw; omega
  have HPB : Hid (p ≤ 4000000) := by show _ ≤ _; omega
  have HR : Hid (Rr E left w) := h
  have HC : Hid (cnt E.H (p : Int) 40 = none) := by show _ = _; rw [← hp]; exact hc
  unfold TofC
  rw [show raw true E.H (rT true E.H d) x left = none by unfold raw; rw [if_neg (by omega), if_neg (by omega), if_neg (by omega), if_neg (by omega), if_pos ht]; unfold rBin; rw [hc]]
  clear hp hw ht h hc
  go_enter Tryz.func108, Tryz.ntmps108
  go_wp2_with fail
  refine (implVal_any x HX.out _).mono ?_
  rintro e w1 ⟨rfl, hw1⟩
  rw [HP.out]
  obtain ⟨hz1, q1, f1, ht1, hr1, hne⟩ := box_in HR.out _ _ hw1
  have HT1 : Hid (Turn E.rb w w1) := ht1
  have HR1 : Hid (Rr E left w1) := hr1
  clear hw1 ht1 hr1
  go_wp2_with (first | (go_at_call 92; refine (implTag_any x HX.out _).mono ?_; rintro e w1 ⟨rfl, rfl⟩; rw [HT.out]) | (go_at_call 120; refine (counted_no HR1.out p 40 (by decide) HPB.out HC.out).mono ?_; rintro e w1 ⟨rfl, rfl⟩))
  exact ⟨rfl, HT1.out, .inr ⟨trivial, rfl⟩⟩
set_option maxHeartbeats 2000000 in
set_option maxRecDepth 100000 in
theorem termOf_4y {E : Env} {d : Nat} (ih : TermC E d) {w : World} {left : Nat} (h : Rr E left w) (hl : left ≤ 100) (x : Int) (hw : isW x = true) (ht : tagW x = 4) (n : Nat) (hc : cnt E.H (valW x) 8 = some n) (l : List Tm) (y : Nat) (he : rTs (E.H.w (valW x).toNat) (rT true E.H d) n 1 left = some (l, y)) : TofC E d w left x := by
  obtain ⟨p, hp⟩ : ∃ p : Nat, valW x = p := ⟨(valW x).toNat, by have := valW_ge x; omega⟩
  have HP : Hid (valW x = p) := hp
  have HX : Hid (x ≤ 9223372036854775807) := isW_big hw
  have HT : Hid (tagW x = 4) := ht
  have hpb : (p : Int) ≤ 4000000 := by have := isW_val hw; omega
  have HPB : Hid (p ≤ 4000000) := by show _ ≤ _; omega
  have HR : Hid (Rr E left w) := h
  have HC : Hid (cnt E.H (p : Int) 8 = some n) := by show _ = _; rw [← hp]; exact hc
  have hcs := cnt_some HC.out
  rw [Int.toNat_natCast] at hcs
  have HPN : Hid (1 + n ≤ E.H.len p) := by show _ ≤ _; omega
  have HN8 : Hid (n ≤ 8) := by show _ ≤ _; omega
  have HL : Hid (left ≤ 100) := hl
  have IH : Hid (TermC E d) := ih
  have HE : Hid (rTs (E.H.w p) (rT true E.H d) n 1 left = some (l, y)) := by show _ = _; rw [← he, hp]; simp
  unfold TofC
  rw [show raw true E.H (rT true E.H d) x left = some (.mk 4 0 ByteArray.empty l, y) by unfold raw; rw [if_neg (by omega), if_neg (by omega), if_neg (by omega), if_pos ht]; unfold rCnt; rw [hc]; show tup 4 _ = _; rw [he]; rfl]
  clear hp hw ht h hc hcs hl ih he
  go_enter Tryz.func108, Tryz.ntmps108
  go_wp2_with fail
  refine (implVal_any x HX.out _).mono ?_
  rintro e w1 ⟨rfl, hw1⟩
  rw [HP.out]
  obtain ⟨hz1, q1, f1, ht1, hr1, hne⟩ := box_in HR.out _ _ hw1
  have HT1 : Hid (Turn E.rb w w1) := ht1
  have HR1 : Hid (Rr E left w1) := hr1
  have hr1s := HR1.out.lt
  clear hw1 ht1 hr1
  go_wp2_with (first | (go_at_call 92; refine (implTag_any x HX.out _).mono ?_; rintro e w1 ⟨rfl, rfl⟩; rw [HT.out]) | (go_at_call 120; refine (counted_yes HR1.out p 8 n HC.out).mono ?_; rintro e w1 ⟨⟨o2, c2, rfl, ho2⟩, rfl⟩) | (go_at_call 119; refine (terms_yes IH.out HR1.out HL.out p 1 n o2 _ ho2 HPN.out HN8.out HE.out).mono ?_; rintro e w5 ⟨ao, cap, rfl, ht5, hl5, hc5, hv5, hr5⟩; have HT5 : Hid (Turn E.rb w1 w5) := ht5; obtain ⟨q5, f5⟩ := ht5.keep hne (by omega) q1 f1; have HR5 : Hid (Rr E y w5) := hr5; have HV5 : Hid (OwL w5 l (w1.heap.size) w5.heap.size ao) := hv5; have HLC : Hid (l.length ≤ cap ∧ cap ≤ maxLen) := ⟨hl5, hc5⟩; have hz5 := ht5.size; clear ht5 hr5 hv5 hl5 hc5))
  have hv6 : OwV w5 (w.heap.size + 1) w5.heap.size (.mk 4 0 ByteArray.empty l) (.agg #[.int .i64 4, .int .i64 0, .string ⟨#[]⟩, .slice ao l.length cap]) := ⟨ao, cap, rfl, Nat.zero_le _, HLC.out.1, HLC.out.2, by rw [← hz1]; exact HV5.out⟩
  obtain ⟨a1, a2, a3⟩ := box_out HR.out (HT1.out.trans HT5.out) (by omega) HR5.out hv6 (.int .i64 4) (.int .i64 0) (.string ⟨#[]⟩) (.slice ao l.length cap)
  exact bodyPost_ret (v := .agg #[.int .i64 4, .int .i64 0, .string ⟨#[]⟩, .slice ao l.length cap]) (by simp [results, Tryz.results108, go_sem, q5]) rfl ⟨a1, .inl ⟨_, _, _, rfl, rfl, a2, a3⟩⟩
set_option maxHeartbeats 2000000 in
set_option maxRecDepth 100000 in
theorem termOf_4z {E : Env} {d : Nat} (ih : TermC E d) {w : World} {left : Nat} (h : Rr E left w) (hl : left ≤ 100) (x : Int) (hw : isW x = true) (ht : tagW x = 4) (n : Nat) (hc : cnt E.H (valW x) 8 = some n) (he : rTs (E.H.w (valW x).toNat) (rT true E.H d) n 1 left = none) : TofC E d w left x := by
  obtain ⟨p, hp⟩ : ∃ p : Nat, valW x = p := ⟨(valW x).toNat, by have := valW_ge x; omega⟩
  have HP : Hid (valW x = p) := hp
  have HX : Hid (x ≤ 9223372036854775807) := isW_big hw
  have HT : Hid (tagW x = 4) := ht
  have hpb : (p : Int) ≤ 4000000 := by have := isW_val hw; omega
  have HPB : Hid (p ≤ 4000000) := by show _ ≤ _; omega
  have HR : Hid (Rr E left w) := h
  have HC : Hid (cnt E.H (p : Int) 8 = some n) := by show _ = _; rw [← hp]; exact hc
  have hcs := cnt_some HC.out
  rw [Int.toNat_natCast] at hcs
  have HPN : Hid (1 + n ≤ E.H.len p) := by show _ ≤ _; omega
  have HN8 : Hid (n ≤ 8) := by show _ ≤ _; omega
  have HL : Hid (left ≤ 100) := hl
  have IH : Hid (TermC E d) := ih
  have HE : Hid (rTs (E.H.w p) (rT true E.H d) n 1 left = none) := by show _ = _; rw [← he, hp]; simp
  unfold TofC
  rw [show raw true E.H (rT true E.H d) x left = none by unfold raw; rw [if_neg (by omega), if_neg (by omega), if_neg (by omega), if_pos ht]; unfold rCnt; rw [hc]; show tup 4 _ = _; rw [he]; rfl]
  clear hp hw ht h hc hcs hl ih he
  go_enter Tryz.func108, Tryz.ntmps108
  go_wp2_with fail
  refine (implVal_any x HX.out _).mono ?_
  rintro e w1 ⟨rfl, hw1⟩
  rw [HP.out]
  obtain ⟨hz1, q1, f1, ht1, hr1, hne⟩ := box_in HR.out _ _ hw1
  have HT1 : Hid (Turn E.rb w w1) := ht1
  have HR1 : Hid (Rr E left w1) := hr1
  clear hw1 ht1 hr1
  go_wp2_with (first | (go_at_call 92; refine (implTag_any x HX.out _).mono ?_; rintro e w1 ⟨rfl, rfl⟩; rw [HT.out]) | (go_at_call 120; refine (counted_yes HR1.out p 8 n HC.out).mono ?_; rintro e w1 ⟨⟨o2, c2, rfl, ho2⟩, rfl⟩) | (go_at_call 119; refine (terms_no IH.out HR1.out HL.out p 1 n o2 _ ho2 HPN.out HN8.out HE.out).mono ?_; rintro e w5 ⟨rfl, ht5⟩))
  exact ⟨rfl, HT1.out.trans ht5, .inr ⟨trivial, rfl⟩⟩
set_option maxHeartbeats 2000000 in
set_option maxRecDepth 100000 in
theorem termOf_6y {E : Env} {d : Nat} {w : World} {left : Nat} (h : Rr E left w) (x : Int) (hw : isW x = true) (ht : tagW x = 6) (n : Nat) (hc : cnt E.H (valW x) 40 = some n) (he : (wordsAt E.H (valW x).toNat 1 n).all isByte = true) : TofC E d w left x := by
  obtain ⟨p, hp⟩ : ∃ p : Nat, valW x = p := ⟨(valW x).toNat, by have := valW_ge x; omega⟩
  have HP : Hid (valW x = p) := hp
  have HX : Hid (x ≤ 9223372036854775807) := isW_big hw
  have HT : Hid (tagW x = 6) := ht
  have hpb : (p : Int) ≤ 4000000 := by have := isW_val hw; omega
  have HPB : Hid (p ≤ 4000000) := by show _ ≤ _; omega
  have HR : Hid (Rr E left w) := h
  have HC : Hid (cnt E.H (p : Int) 40 = some n) := by show _ = _; rw [← hp]; exact hc
  have hcs := cnt_some HC.out
  rw [Int.toNat_natCast] at hcs
  have HPN : Hid (1 + n ≤ E.H.len p) := by show _ ≤ _; omega
  have HN8 : Hid (n ≤ 40) := by show _ ≤ _; omega
  obtain ⟨l, hl⟩ : ∃ l, wordsAt E.H p 1 n = l := ⟨_, rfl⟩
  have hln : l.length = n := by rw [← hl, wordsAt_len]
  have HLN : Hid (l.length = n) := hln
  have HW : Hid (wordsAt E.H p 1 n = l) := hl
  have HE : Hid (l.all isByte = true) := by show _ = _; rw [← hl]; rw [hp] at he; simpa using he
  unfold TofC
  rw [show raw true E.H (rT true E.H d) x left = some (.mk 6 0 (txtB l) [], left) by unfold raw; rw [if_neg (by omega), if_neg (by omega), if_neg (by omega), if_neg (by omega), if_pos ht]; unfold rBin; rw [hc]; show bin _ (txt _) = _; unfold txt; rw [if_pos he, hp, Int.toNat_natCast, hl]; rfl]
  clear hp hw ht h hc hcs he
  go_enter Tryz.func108, Tryz.ntmps108
  go_wp2_with fail
  refine (implVal_any x HX.out _).mono ?_
  rintro e w1 ⟨rfl, hw1⟩
  rw [HP.out]
  obtain ⟨hz1, q1, f1, ht1, hr1, hne⟩ := box_in HR.out _ _ hw1
  have HT1 : Hid (Turn E.rb w w1) := ht1
  have HR1 : Hid (Rr E left w1) := hr1
  have HCE : Hid (∀ o2, (n ≠ 0 → o2 = E.so p + 1) → ∀ j (hj : j < l.length), w1.cell? ⟨E.sb p, o2 + j, none⟩ = some (.int .i64 l[j])) := fun o2 ho2 j hj => by
    have hj' : j < n := by rw [← HLN.out]; exact hj
    have e : l[j] = E.H.w p (1 + j) := by
      have := wordsAt_get E.H p 1 n j (by rw [wordsAt_len]; exact hj')
      simp only [HW.out] at this
      exact this
    rw [ho2 (by omega), Nat.add_assoc, e]
    exact HR1.out.ws p (1 + j) (by have := HPN.out; omega)
  have HN40 : Hid (l.length ≤ 40) := by show _ ≤ _; rw [HLN.out]; exact HN8.out
  clear hl
  have HSZ : Hid ((txtB l).size ≤ maxLen) := by
    show _ ≤ _
    have e : (txtB l).size = l.length := by simp [txtB, ByteArray.size]
    have := HN40.out
    rw [e]; unfold maxLen; omega
  subst hln
  have hr1s := HR1.out.lt
  clear hw1 ht1 hr1
  go_wp2_with (first | (go_at_call 92; refine (implTag_any x HX.out _).mono ?_; rintro e w1 ⟨rfl, rfl⟩; rw [HT.out]) | (go_at_call 120; refine (counted_yes HR1.out p 40 _ HC.out).mono ?_; rintro e w1 ⟨⟨o2, c2, rfl, ho2⟩, rfl⟩) | (go_at_call 121; refine (text_yes (E.sb p) o2 _ l _ (HCE.out o2 ho2) HN40.out HE.out).mono ?_; rintro e w5 ⟨rfl, hb5⟩; have HB5 : Hid (Below w1.heap.size w1 w5) := hb5; have ht5 : Turn E.rb w1 w5 := Turn.of_below hb5; obtain ⟨q5, f5⟩ := ht5.keep hne (by omega) q1 f1; have hz5 := ht5.size; clear ht5 hb5))
  obtain ⟨a1, a2, a3⟩ := box_out HR.out (HT1.out.trans (Turn.of_below HB5.out)) (by omega) (HR1.out.below HB5.out) (rp_leaf 6 0 (txtB l) HSZ.out) (.int .i64 6) (.int .i64 0) (.string (txtB l)) (.slice none 0 0)
  exact bodyPost_ret (v := .agg #[.int .i64 6, .int .i64 0, .string (txtB l), .slice none 0 0]) (by simp [results, Tryz.results108, go_sem, q5]) rfl ⟨a1, .inl ⟨_, _, _, rfl, rfl, a2, a3⟩⟩
set_option maxHeartbeats 2000000 in
set_option maxRecDepth 100000 in
theorem termOf_6z {E : Env} {d : Nat} {w : World} {left : Nat} (h : Rr E left w) (x : Int) (hw : isW x = true) (ht : tagW x = 6) (n : Nat) (hc : cnt E.H (valW x) 40 = some n) (he : (wordsAt E.H (valW x).toNat 1 n).all isByte = false) : TofC E d w left x := by
  obtain ⟨p, hp⟩ : ∃ p : Nat, valW x = p := ⟨(valW x).toNat, by have := valW_ge x; omega⟩
  have HP : Hid (valW x = p) := hp
  have HX : Hid (x ≤ 9223372036854775807) := isW_big hw
  have HT : Hid (tagW x = 6) := ht
  have hpb : (p : Int) ≤ 4000000 := by have := isW_val hw; omega
  have HPB : Hid (p ≤ 4000000) := by show _ ≤ _; omega
  have HR : Hid (Rr E left w) := h
  have HC : Hid (cnt E.H (p : Int) 40 = some n) := by show _ = _; rw [← hp]; exact hc
  have hcs := cnt_some HC.out
  rw [Int.toNat_natCast] at hcs
  have HPN : Hid (1 + n ≤ E.H.len p) := by show _ ≤ _; omega
  have HN8 : Hid (n ≤ 40) := by show _ ≤ _; omega
  obtain ⟨l, hl⟩ : ∃ l, wordsAt E.H p 1 n = l := ⟨_, rfl⟩
  have hln : l.length = n := by rw [← hl, wordsAt_len]
  have HLN : Hid (l.length = n) := hln
  have HW : Hid (wordsAt E.H p 1 n = l) := hl
  have HE : Hid (l.all isByte = false) := by show _ = _; rw [← hl]; rw [hp] at he; simpa using he
  unfold TofC
  rw [show raw true E.H (rT true E.H d) x left = none by unfold raw; rw [if_neg (by omega), if_neg (by omega), if_neg (by omega), if_neg (by omega), if_pos ht]; unfold rBin; rw [hc]; show bin _ (txt _) = _; unfold txt; rw [if_neg (by rw [he]; simp)]; rfl]
  clear hp hw ht h hc hcs he
  go_enter Tryz.func108, Tryz.ntmps108
  go_wp2_with fail
  refine (implVal_any x HX.out _).mono ?_
  rintro e w1 ⟨rfl, hw1⟩
  rw [HP.out]
  obtain ⟨hz1, q1, f1, ht1, hr1, hne⟩ := box_in HR.out _ _ hw1
  have HT1 : Hid (Turn E.rb w w1) := ht1
  have HR1 : Hid (Rr E left w1) := hr1
  have HCE : Hid (∀ o2, (n ≠ 0 → o2 = E.so p + 1) → ∀ j (hj : j < l.length), w1.cell? ⟨E.sb p, o2 + j, none⟩ = some (.int .i64 l[j])) := fun o2 ho2 j hj => by
    have hj' : j < n := by rw [← HLN.out]; exact hj
    have e : l[j] = E.H.w p (1 + j) := by
      have := wordsAt_get E.H p 1 n j (by rw [wordsAt_len]; exact hj')
      simp only [HW.out] at this
      exact this
    rw [ho2 (by omega), Nat.add_assoc, e]
    exact HR1.out.ws p (1 + j) (by have := HPN.out; omega)
  have HN40 : Hid (l.length ≤ 40) := by show _ ≤ _; rw [HLN.out]; exact HN8.out
  clear hl
  subst hln
  clear hw1 ht1 hr1
  go_wp2_with (first | (go_at_call 92; refine (implTag_any x HX.out _).mono ?_; rintro e w1 ⟨rfl, rfl⟩; rw [HT.out]) | (go_at_call 120; refine (counted_yes HR1.out p 40 _ HC.out).mono ?_; rintro e w1 ⟨⟨o2, c2, rfl, ho2⟩, rfl⟩) | (go_at_call 121; refine (text_no (E.sb p) o2 _ l _ (HCE.out o2 ho2) HN40.out HE.out).mono ?_; rintro e w5 ⟨rfl, hb5⟩))
  exact ⟨rfl, HT1.out.trans (Turn.of_below hb5), .inr ⟨trivial, rfl⟩⟩
set_option maxHeartbeats 2000000 in
set_option maxRecDepth 100000 in
theorem termOf_3y {E : Env} {d : Nat} (ih : TermC E d) {w : World} {left : Nat} (h : Rr E left w) (hl : left ≤ 100) (x : Int) (hw : isW x = true) (ht : tagW x = 3) (l : List Tm) (y : Nat) (he : rL E.H (rT true E.H d) left x left = some (l, y)) : TofC E d w left x := by
  obtain ⟨p, hp⟩ : ∃ p : Nat, valW x = p := ⟨(valW x).toNat, by have := valW_ge x; omega⟩
  have HP : Hid (valW x = p) := hp
  have HX : Hid (x ≤ 9223372036854775807) := isW_big hw
  have HT : Hid (tagW x = 3) := ht
  have hpb : (p : Int) ≤ 4000000 := by have := isW_val hw; omega
  have HPB : Hid (p ≤ 4000000) := by show _ ≤ _; omega
  have HR : Hid (Rr E left w) := h
  have HL : Hid (left ≤ 100) := hl
  have IH : Hid (TermC E d) := ih
  have HE : Hid (rL E.H (rT true E.H d) left x left = some (l, y)) := he
  unfold TofC
  rw [show raw true E.H (rT true E.H d) x left = some (.mk 5 0 ByteArray.empty l, y) by unfold raw; rw [if_neg (by omega), if_neg (by omega), if_neg (by omega), if_neg (by omega), if_neg (by omega), if_neg (by omega), if_pos rfl, he]; rfl]
  clear hp hw ht h hl ih he
  go_enter Tryz.func108, Tryz.ntmps108
  go_wp2_with fail
  refine (implVal_any x HX.out _).mono ?_
  rintro e w1 ⟨rfl, hw1⟩
  rw [HP.out]
  obtain ⟨hz1, q1, f1, ht1, hr1, hne⟩ := box_in HR.out _ _ hw1
  have HT1 : Hid (Turn E.rb w w1) := ht1
  have HR1 : Hid (Rr E left w1) := hr1
  have hr1s := HR1.out.lt
  clear hw1 ht1 hr1
  go_wp2_with (first | (go_at_call 92; refine (implTag_any x HX.out _).mono ?_; rintro e w1 ⟨rfl, rfl⟩; rw [HT.out]) | (go_at_call 122; refine (list_yes IH.out HR1.out HL.out x HX.out HE.out).mono ?_; rintro e w5 ⟨ao, cap, rfl, ht5, hl5, hc5, hv5, hr5⟩; have HT5 : Hid (Turn E.rb w1 w5) := ht5; obtain ⟨q5, f5⟩ := ht5.keep hne (by omega) q1 f1; have HR5 : Hid (Rr E y w5) := hr5; have HV5 : Hid (OwL w5 l (w1.heap.size) w5.heap.size ao) := hv5; have HLC : Hid (l.length ≤ cap ∧ cap ≤ maxLen) := ⟨hl5, hc5⟩; have hz5 := ht5.size; clear ht5 hr5 hv5 hl5 hc5))
  have hv6 : OwV w5 (w.heap.size + 1) w5.heap.size (.mk 5 0 ByteArray.empty l) (.agg #[.int .i64 5, .int .i64 0, .string ⟨#[]⟩, .slice ao l.length cap]) := ⟨ao, cap, rfl, Nat.zero_le _, HLC.out.1, HLC.out.2, by rw [← hz1]; exact HV5.out⟩
  obtain ⟨a1, a2, a3⟩ := box_out HR.out (HT1.out.trans HT5.out) (by omega) HR5.out hv6 (.int .i64 5) (.int .i64 0) (.string ⟨#[]⟩) (.slice ao l.length cap)
  exact bodyPost_ret (v := .agg #[.int .i64 5, .int .i64 0, .string ⟨#[]⟩, .slice ao l.length cap]) (by simp [results, Tryz.results108, go_sem, q5]) rfl ⟨a1, .inl ⟨_, _, _, rfl, rfl, a2, a3⟩⟩
set_option maxHeartbeats 2000000 in
set_option maxRecDepth 100000 in
theorem termOf_3z {E : Env} {d : Nat} (ih : TermC E d) {w : World} {left : Nat} (h : Rr E left w) (hl : left ≤ 100) (x : Int) (hw : isW x = true) (ht : tagW x = 3) (he : rL E.H (rT true E.H d) left x left = none) : TofC E d w left x := by
  obtain ⟨p, hp⟩ : ∃ p : Nat, valW x = p := ⟨(valW x).toNat, by have := valW_ge x; omega⟩
  have HP : Hid (valW x = p) := hp
  have HX : Hid (x ≤ 9223372036854775807) := isW_big hw
  have HT : Hid (tagW x = 3) := ht
  have hpb : (p : Int) ≤ 4000000 := by have := isW_val hw; omega
  have HPB : Hid (p ≤ 4000000) := by show _ ≤ _; omega
  have HR : Hid (Rr E left w) := h
  have HL : Hid (left ≤ 100) := hl
  have IH : Hid (TermC E d) := ih
  have HE : Hid (rL E.H (rT true E.H d) left x left = none) := he
  unfold TofC
  rw [show raw true E.H (rT true E.H d) x left = none by unfold raw; rw [if_neg (by omega), if_neg (by omega), if_neg (by omega), if_neg (by omega), if_neg (by omega), if_neg (by omega), if_pos rfl, he]; rfl]
  clear hp hw ht h hl ih he
  go_enter Tryz.func108, Tryz.ntmps108
  go_wp2_with fail
  refine (implVal_any x HX.out _).mono ?_
  rintro e w1 ⟨rfl, hw1⟩
  rw [HP.out]
  obtain ⟨hz1, q1, f1, ht1, hr1, hne⟩ := box_in HR.out _ _ hw1
  have HT1 : Hid (Turn E.rb w w1) := ht1
  have HR1 : Hid (Rr E left w1) := hr1
  clear hw1 ht1 hr1
  go_wp2_with (first | (go_at_call 92; refine (implTag_any x HX.out _).mono ?_; rintro e w1 ⟨rfl, rfl⟩; rw [HT.out]) | (go_at_call 122; refine (list_no IH.out HR1.out HL.out x HX.out HE.out).mono ?_; rintro e w5 ⟨rfl, ht5⟩))
  exact ⟨rfl, HT1.out.trans ht5, .inr ⟨trivial, rfl⟩⟩
set_option maxHeartbeats 2000000 in
set_option maxRecDepth 100000 in
theorem termOf_5y {E : Env} {d : Nat} (ih : TermC E d) {w : World} {left : Nat} (h : Rr E left w) (hl : left ≤ 100) (x : Int) (hw : isW x = true) (ht : tagW x = 5) (l : List Tm) (y : Nat) (he : rL E.H (rT true E.H d) left x left = some (l, y)) : TofC E d w left x := by
  obtain ⟨p, hp⟩ : ∃ p : Nat, valW x = p := ⟨(valW x).toNat, by have := valW_ge x; omega⟩
  have HP : Hid (valW x = p) := hp
  have HX : Hid (x ≤ 9223372036854775807) := isW_big hw
  have HT : Hid (tagW x = 5) := ht
  have hpb : (p : Int) ≤ 4000000 := by have := isW_val hw; omega
  have HPB : Hid (p ≤ 4000000) := by show _ ≤ _; omega
  have HR : Hid (Rr E left w) := h
  have HL : Hid (left ≤ 100) := hl
  have IH : Hid (TermC E d) := ih
  have HE : Hid (rL E.H (rT true E.H d) left x left = some (l, y)) := he
  unfold TofC
  rw [show raw true E.H (rT true E.H d) x left = some (.mk 5 0 ByteArray.empty l, y) by unfold raw; rw [if_neg (by omega), if_neg (by omega), if_neg (by omega), if_neg (by omega), if_neg (by omega), if_neg (by omega), if_pos rfl, he]; rfl]
  clear hp hw ht h hl ih he
  go_enter Tryz.func108, Tryz.ntmps108
  go_wp2_with fail
  refine (implVal_any x HX.out _).mono ?_
  rintro e w1 ⟨rfl, hw1⟩
  rw [HP.out]
  obtain ⟨hz1, q1, f1, ht1, hr1, hne⟩ := box_in HR.out _ _ hw1
  have HT1 : Hid (Turn E.rb w w1) := ht1
  have HR1 : Hid (Rr E left w1) := hr1
  have hr1s := HR1.out.lt
  clear hw1 ht1 hr1
  go_wp2_with (first | (go_at_call 92; refine (implTag_any x HX.out _).mono ?_; rintro e w1 ⟨rfl, rfl⟩; rw [HT.out]) | (go_at_call 122; refine (list_yes IH.out HR1.out HL.out x HX.out HE.out).mono ?_; rintro e w5 ⟨ao, cap, rfl, ht5, hl5, hc5, hv5, hr5⟩; have HT5 : Hid (Turn E.rb w1 w5) := ht5; obtain ⟨q5, f5⟩ := ht5.keep hne (by omega) q1 f1; have HR5 : Hid (Rr E y w5) := hr5; have HV5 : Hid (OwL w5 l (w1.heap.size) w5.heap.size ao) := hv5; have HLC : Hid (l.length ≤ cap ∧ cap ≤ maxLen) := ⟨hl5, hc5⟩; have hz5 := ht5.size; clear ht5 hr5 hv5 hl5 hc5))
  have hv6 : OwV w5 (w.heap.size + 1) w5.heap.size (.mk 5 0 ByteArray.empty l) (.agg #[.int .i64 5, .int .i64 0, .string ⟨#[]⟩, .slice ao l.length cap]) := ⟨ao, cap, rfl, Nat.zero_le _, HLC.out.1, HLC.out.2, by rw [← hz1]; exact HV5.out⟩
  obtain ⟨a1, a2, a3⟩ := box_out HR.out (HT1.out.trans HT5.out) (by omega) HR5.out hv6 (.int .i64 5) (.int .i64 0) (.string ⟨#[]⟩) (.slice ao l.length cap)
  exact bodyPost_ret (v := .agg #[.int .i64 5, .int .i64 0, .string ⟨#[]⟩, .slice ao l.length cap]) (by simp [results, Tryz.results108, go_sem, q5]) rfl ⟨a1, .inl ⟨_, _, _, rfl, rfl, a2, a3⟩⟩
set_option maxHeartbeats 2000000 in
set_option maxRecDepth 100000 in
theorem termOf_5z {E : Env} {d : Nat} (ih : TermC E d) {w : World} {left : Nat} (h : Rr E left w) (hl : left ≤ 100) (x : Int) (hw : isW x = true) (ht : tagW x = 5) (he : rL E.H (rT true E.H d) left x left = none) : TofC E d w left x := by
  obtain ⟨p, hp⟩ : ∃ p : Nat, valW x = p := ⟨(valW x).toNat, by have := valW_ge x; omega⟩
  have HP : Hid (valW x = p) := hp
  have HX : Hid (x ≤ 9223372036854775807) := isW_big hw
  have HT : Hid (tagW x = 5) := ht
  have hpb : (p : Int) ≤ 4000000 := by have := isW_val hw; omega
  have HPB : Hid (p ≤ 4000000) := by show _ ≤ _; omega
  have HR : Hid (Rr E left w) := h
  have HL : Hid (left ≤ 100) := hl
  have IH : Hid (TermC E d) := ih
  have HE : Hid (rL E.H (rT true E.H d) left x left = none) := he
  unfold TofC
  rw [show raw true E.H (rT true E.H d) x left = none by unfold raw; rw [if_neg (by omega), if_neg (by omega), if_neg (by omega), if_neg (by omega), if_neg (by omega), if_neg (by omega), if_pos rfl, he]; rfl]
  clear hp hw ht h hl ih he
  go_enter Tryz.func108, Tryz.ntmps108
  go_wp2_with fail
  refine (implVal_any x HX.out _).mono ?_
  rintro e w1 ⟨rfl, hw1⟩
  rw [HP.out]
  obtain ⟨hz1, q1, f1, ht1, hr1, hne⟩ := box_in HR.out _ _ hw1
  have HT1 : Hid (Turn E.rb w w1) := ht1
  have HR1 : Hid (Rr E left w1) := hr1
  clear hw1 ht1 hr1
  go_wp2_with (first | (go_at_call 92; refine (implTag_any x HX.out _).mono ?_; rintro e w1 ⟨rfl, rfl⟩; rw [HT.out]) | (go_at_call 122; refine (list_no IH.out HR1.out HL.out x HX.out HE.out).mono ?_; rintro e w5 ⟨rfl, ht5⟩))
  exact ⟨rfl, HT1.out.trans ht5, .inr ⟨trivial, rfl⟩⟩
theorem termOf_any {E : Env} {d : Nat} (ih : TermC E d) {w : World} {left : Nat} (h : Rr E left w) (hl : left ≤ 100) (x : Int) (hw : isW x = true) : TofC E d w left x := by
  have h7 := isW_tag hw
  have ht := tagW_ge x
  have hc : tagW x = 0 ∨ tagW x = 1 ∨ tagW x = 2 ∨ tagW x = 3 ∨ tagW x = 4 ∨ tagW x = 5 ∨ tagW x = 6 := by omega
  rcases hc with hc | hc | hc | hc | hc | hc | hc
  · exact termOf_0 h x hw hc
  · by_cases hv : valW x < E.H.A.length
    · exact termOf_1y h x hw hc hv
    · exact termOf_1n h x hw hc hv
  · exact termOf_2 h x hw hc
  · cases he : rL E.H (rT true E.H d) left x left with
    | none => exact termOf_3z ih h hl x hw hc he
    | some p => exact termOf_3y ih h hl x hw hc p.1 p.2 he
  · cases hn : cnt E.H (valW x) 8 with
    | none => exact termOf_4n h x hw hc hn
    | some n =>
      cases he : rTs (E.H.w (valW x).toNat) (rT true E.H d) n 1 left with
      | none => exact termOf_4z ih h hl x hw hc n hn he
      | some p => exact termOf_4y ih h hl x hw hc n hn p.1 p.2 he
  · cases he : rL E.H (rT true E.H d) left x left with
    | none => exact termOf_5z ih h hl x hw hc he
    | some p => exact termOf_5y ih h hl x hw hc p.1 p.2 he
  · cases hn : cnt E.H (valW x) 40 with
    | none => exact termOf_6n h x hw hc hn
    | some n =>
      cases he : (wordsAt E.H (valW x).toNat 1 n).all isByte with
      | true => exact termOf_6y h x hw hc n hn he
      | false => exact termOf_6z h x hw hc n hn he
end Go.Proofs.YtjjmikfbongccaaGreatDoor.Gn
