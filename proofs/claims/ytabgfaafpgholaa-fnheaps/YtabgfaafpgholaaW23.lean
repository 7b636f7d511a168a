/-
  A copy of a text is that text.
  (Ahead of it, in this text: How the program reads words that a function value tells: how many there are; terms side by side; a list.
  How the program reads words that a function value tells: one term.)
-/
import Derived.Test.YtabgfaafpgholaaW21
import Derived.Test.YtabgfaafpgholaaW8
import Derived.Test.YtabgfaafpgholaaShelf
import Derived.Outline
namespace Go.Proofs.Ytabgfaafpgholaa.Gn
open Go.RowKit
set_option linter.unusedVariables false

theorem counted_yes {E : Env} {left : Nat} {w : World} (h : Rr E left w) (v : Nat) (most : Int) (n : Nat) (hc : cnt E.H v most = some n) :
    Calls Try.prog 124 #[.pointer (some ⟨E.rb, 0, none⟩), .int .i64 v, .int .i64 most] w fun e w' => (∃ o' c', e = .returned (.slice (some ⟨E.sb v, o', none⟩) n c') ∧ (n ≠ 0 → o' = E.so v + 1)) ∧ w' = w := by
  obtain ⟨h1, h2, h3, h4, h5⟩ := cnt_some hc
  rw [Int.toNat_natCast] at h1 h2 h3 h4 h5
  have hN := h.ok.n v
  have HA1 : Hid (1 ≤ E.H.len v) := h1
  have HA2 : Hid (1 + n ≤ E.H.len v) := by show _ ≤ _; omega
  have q := h.ws v 0 (by omega)
  rw [← h4] at q h2 h3 h5
  rw [Nat.add_zero] at q
  have HR : Hid (Rr E left w) := h
  have hn : (n : Int) ≤ 1048576 := by omega
  have hd : decide ((n : Int) ≤ most) = true := by simp; omega
  have HV1 : Hid ((1 : Int) + (n : Int) = ((1 + n : Nat) : Int)) := by show _ = _; omega
  clear h hc h1 h4 h5 hN
  go_enter Try.func124, Try.ntmps124
  go_wp2_with fail
  refine (at_yes HR.out v 1 HA1.out (by decide)).mono ?_
  rintro e w' ⟨⟨c1, rfl, hc1⟩, rfl⟩
  go_wp2_with (first | (go_at_call 93; refine (insist_yes _).mono ?_; rintro e w' ⟨rfl, rfl⟩))
  rw [HV1.out]
  refine (at_yes HR.out v (1 + n) HA2.out (by omega)).mono ?_
  rintro e w' ⟨⟨c2, rfl, hc2⟩, rfl⟩
  by_cases h0 : c2 = 1
  · have hn0 : n = 0 := by omega
    subst hn0
    subst h0
    go_wp2_with fail
    go_ret
    exact ⟨⟨_, _, rfl, fun h => absurd rfl h⟩, rfl⟩
  · go_wp2_with fail
    go_ret
    exact ⟨⟨_, _, ret_sl (by omega) rfl, fun _ => rfl⟩, rfl⟩
theorem counted_no {E : Env} {left : Nat} {w : World} (h : Rr E left w) (v : Nat) (most : Int) (hm : most ≤ 1000) (hv : v ≤ 4000000) (hc : cnt E.H v most = none) :
    Calls Try.prog 124 #[.pointer (some ⟨E.rb, 0, none⟩), .int .i64 v, .int .i64 most] w fun e w' => e = .panicked PN ∧ w' = w := by
  have HR : Hid (Rr E left w) := h
  have HV : Hid (v ≤ 4000001) := by show _ ≤ _; omega
  by_cases h1 : 1 ≤ E.H.len v
  · have HA1 : Hid (1 ≤ E.H.len v) := h1
    have q := h.ws v 0 (by omega)
    rw [Nat.add_zero] at q
    have hx : cnt E.H v most = none := hc
    unfold cnt at hx
    rw [Int.toNat_natCast] at hx
    have hN := h.ok.n v
    have HC : Hid (¬ (0 ≤ E.H.w v 0 ∧ E.H.w v 0 ≤ most ∧ E.H.w v 0 ≤ (E.H.len v : Int) - 1)) := by
      intro hh
      rw [if_pos ⟨by omega, hh⟩] at hx
      cases hx
    clear h hc hx h1
    generalize E.H.w v 0 = x at *
    go_enter Try.func124, Try.ntmps124
    go_wp2_with fail
    refine (at_yes HR.out v 1 HA1.out (by decide)).mono ?_
    rintro e w' ⟨⟨c1, rfl, hc1⟩, rfl⟩
    by_cases h2 : 0 ≤ x
    · by_cases h3 : x ≤ most
      · obtain ⟨n, rfl⟩ : ∃ n : Nat, x = n := ⟨x.toNat, by omega⟩
        have HA2 : Hid (¬ 1 + n ≤ E.H.len v) := by
          show ¬ _
          have := HC.out
          omega
        have HN : Hid (1 + n ≤ 4000000) := by show _ ≤ _; omega
        have HV1 : Hid ((1 : Int) + (n : Int) = ((1 + n : Nat) : Int)) := by show _ = _; omega
        have hd : decide ((n : Int) ≤ most) = true := by simp; omega
        go_wp2_with (first | (go_at_call 93; refine (insist_yes _).mono ?_; rintro e w' ⟨rfl, rfl⟩) | (go_at_call 134; rw [HV1.out]; refine (at_no HR.out v (1 + n) HA2.out HV.out HN.out).mono ?_; rintro e w' ⟨rfl, rfl⟩))
        exact ⟨rfl, rfl, rfl⟩
      · have hd : decide (x ≤ most) = false := by simp; omega
        go_wp2_with (first | (go_at_call 93; refine (insist_no _).mono ?_; rintro e w' ⟨rfl, rfl⟩))
        exact ⟨rfl, rfl, rfl⟩
    · go_wp2_with (first | (go_at_call 93; refine (insist_no _).mono ?_; rintro e w' ⟨rfl, rfl⟩))
      exact ⟨rfl, rfl, rfl⟩
  · have HA1 : Hid (¬ 1 ≤ E.H.len v) := h1
    clear h hc h1
    go_enter Try.func124, Try.ntmps124
    go_wp2_with (first | (go_at_call 134; refine (at_no HR.out v 1 HA1.out HV.out (by decide)).mono ?_; rintro e w' ⟨rfl, rfl⟩))
    exact ⟨rfl, rfl, rfl⟩
def TermC (E : Env) (d : Nat) : Prop := ∀ (w : World) (left : Nat) (x : Int), Rr E left w → left ≤ 100 → x ≤ 9223372036854775807 →
  Calls Try.prog 81 #[.pointer (some ⟨E.rb, 0, none⟩), .int .i64 x, .int .i64 d] w fun e w' => Turn E.rb w w' ∧
    ((∃ t y v, rT true E.H d x left = some (t, y) ∧ e = .returned v ∧ OwE w' (w.heap.size) w'.heap.size t v ∧ Rr E y w') ∨ (rT true E.H d x left = none ∧ e = .panicked PN))
theorem term_yes {E : Env} {d : Nat} (h : TermC E d) {w : World} {left : Nat} {x : Int} (hr : Rr E left w) (hl : left ≤ 100) (hx : x ≤ 9223372036854775807) {t : Tm} {y : Nat} (he : rT true E.H d x left = some (t, y)) :
    Calls Try.prog 81 #[.pointer (some ⟨E.rb, 0, none⟩), .int .i64 x, .int .i64 d] w fun e w' => ∃ a b c d' e' f, e = .returned (.agg #[.int .i64 a, .int .i64 b, .string c, .slice d' e' f]) ∧ Turn E.rb w w' ∧ OwE w' (w.heap.size) w'.heap.size t (.agg #[.int .i64 a, .int .i64 b, .string c, .slice d' e' f]) ∧ Rr E y w' := by
  refine (h w left x hr hl hx).mono ?_
  rintro e w' ⟨ht, ⟨t', y', v, hh, rfl, hv, hrr⟩ | ⟨hh, rfl⟩⟩
  · rw [he] at hh
    simp only [Option.some.injEq, Prod.mk.injEq] at hh
    obtain ⟨rfl, rfl⟩ := hh
    obtain ⟨a, b, c, d', e', f, rfl⟩ := hv.form
    exact ⟨a, b, c, d', e', f, rfl, ht, hv, hrr⟩
  · rw [he] at hh; cases hh
theorem term_no {E : Env} {d : Nat} (h : TermC E d) {w : World} {left : Nat} {x : Int} (hr : Rr E left w) (hl : left ≤ 100) (hx : x ≤ 9223372036854775807) (he : rT true E.H d x left = none) :
    Calls Try.prog 81 #[.pointer (some ⟨E.rb, 0, none⟩), .int .i64 x, .int .i64 d] w fun e w' => e = .panicked PN ∧ Turn E.rb w w' := by
  refine (h w left x hr hl hx).mono ?_
  rintro e w' ⟨ht, ⟨t', y', v, hh, rfl, hv, hrr⟩ | ⟨hh, rfl⟩⟩
  · rw [he] at hh; cases hh
  · exact ⟨rfl, ht⟩
def leftOf (E : Env) (w : World) : Nat := match w.cell? ⟨E.rb, 2, none⟩ with | some (.int _ x) => x.toNat | _ => 0
theorem leftOf_rr {E : Env} {left : Nat} {w : World} (h : Rr E left w) : leftOf E w = left := by unfold leftOf; rw [h.c2]; simp
set_option maxHeartbeats 2000000 in
set_option maxRecDepth 100000 in
theorem terms_any {E : Env} {d : Nat} (ih : TermC E d) {w : World} {left : Nat} (h : Rr E left w) (hl : left ≤ 100) (V p n o' cap' : Nat) (ho : n ≠ 0 → o' = E.so V + p) (hpn : p + n ≤ E.H.len V) (hn8 : n ≤ 8) :
    Calls Try.prog 123 #[.pointer (some ⟨E.rb, 0, none⟩), .slice (some ⟨E.sb V, o', none⟩) n cap', .int .i64 d] w fun e w' => Turn E.rb w w' ∧
      ((∃ l y v, rTs (E.H.w V) (rT true E.H d) n p left = some (l, y) ∧ e = .returned v ∧ IsL w w' v l ∧ Rr E y w') ∨ (rTs (E.H.w V) (rT true E.H d) n p left = none ∧ e = .panicked PN)) := by
  have IH : Hid (TermC E d) := ih
  have HR : Hid (Rr E left w) := h
  have HO : Hid (n ≠ 0 → o' = E.so V + p) := ho
  have HPN : Hid (p + n ≤ E.H.len V) := hpn
  have hN := h.ok.n V
  have HL : Hid (left ≤ 100) := hl
  clear ih h ho hpn hl
  obtain ⟨i0, hi, hz0, hz1, hz2⟩ := infoParts infoTm
  have HI : Hid (Try.prog.info? 39 = some i0 ∧ i0.zero = some (.agg #[.int .i64 0, .int .i64 0, .string ⟨#[]⟩, .slice none 0 0]) ∧ i0.size = 4 ∧ i0.bytes = 56) := ⟨hi, hz0, hz1, hz2⟩
  clear hi hz0 hz1 hz2
  generalize hG : rTs (E.H.w V) (rT true E.H d) n p left = G
  have HG : Hid (rTs (E.H.w V) (rT true E.H d) n p left = G) := hG
  clear hG
  go_enter Try.func123, Try.ntmps123
  go_wp2_with fail
  go_loopw [7, 12] (fun v i wr => ∃ (m : Nat) (l : List Tm) (xs : List Value) (y : Nat), m ≤ n ∧ i = .int .i64 m ∧ l.length = m ∧ y ≤ 100 ∧ GI E w wr l v xs y ∧ G = pre l (rTs (E.H.w V) (rT true E.H d) (n - m) (p + m) y)) (fun _ i _ => n - (intOf i).toNat)
  case atStart => exact ⟨0, [], [], left, Nat.zero_le _, rfl, rfl, HL.out, GI.start HR.out, by rw [pre_nil]; exact HG.out.symm⟩
  case round =>
    obtain ⟨m, l, xs, y, hm, rfl, hlm, hy, hg, hG⟩ := hrel
    have HY : Hid (y ≤ 100) := hy
    obtain ⟨ua, uc, rfl⟩ := hg.form
    have HGI : Hid (GI E w wr l (.slice ua l.length uc) xs y) := hg
    have HGG : Hid (G = pre l (rTs (E.H.w V) (rT true E.H d) (n - m) (p + m) y)) := hG
    have HLM : Hid (l.length = m) := hlm
    clear hg hG hy hlm
    by_cases hlt : m < n
    · have q : wr.cell? ⟨E.sb V, o' + m, none⟩ = some (.int .i64 (E.H.w V (p + m))) := by
        rw [HO.out (by omega), Nat.add_assoc]
        exact HGI.out.rr.ws V (p + m) (by have := HPN.out; omega)
      have HK : Hid (n - m = (n - (m + 1)) + 1) := by show _ = _; omega
      have HBG : Hid (E.H.w V (p + m) ≤ 9223372036854775807) := HGI.out.rr.big _ _
      cases hrt : rT true E.H d (E.H.w V (p + m)) y with
      | none =>
        have HN : Hid (rT true E.H d (E.H.w V (p + m)) y = none) := hrt
        have HE : Hid (G = none) := by show _ = _; rw [HGG.out, HK.out, rTs_none hrt]; rfl
        clear hrt
        generalize E.H.w V (p + m) = x at *
        go_wp2_with (first | (go_at_call 81; refine (term_no IH.out HGI.out.rr HY.out HBG.out HN.out).mono ?_; rintro e w5 ⟨rfl, ht5⟩))
        exact ⟨rfl, HGI.out.turn.trans ht5, .inr ⟨HE.out, rfl⟩⟩
      | some ty =>
        obtain ⟨t, z⟩ := ty
        have HS : Hid (rT true E.H d (E.H.w V (p + m)) y = some (t, z)) := hrt
        have HE : Hid (G = pre (l ++ [t]) (rTs (E.H.w V) (rT true E.H d) (n - (m + 1)) (p + (m + 1)) z)) := by show _ = _; rw [HGG.out, HK.out, rTs_some hrt, pre_pre]; rfl
        have HZ : Hid (z ≤ 100) := by show _ ≤ _; have := rT_lt _ _ _ _ _ _ _ hrt; have := HY.out; omega
        clear hrt
        generalize E.H.w V (p + m) = x at *
        go_wp2_with (first | (go_at_call 81; refine (term_yes IH.out HGI.out.rr HY.out HBG.out HS.out).mono ?_; rintro e w5 ⟨va, vb, vc, vd, ve, vf, rfl, ht5, hv5, hr5⟩; have HG1 : Hid (GI E w w5 l (.slice ua l.length uc) xs z) := HGI.out.call ht5 hr5; have C5 : Hid (w.heap.size ≤ (w5.alloc (.cells #[.int .i64 va, .int .i64 vb, .string vc, .slice vd ve vf] 39)).heap.size) := (by rw [World.size_alloc]; exact Nat.le_succ_of_le HG1.out.turn.size); have C3 : Hid (l.length + 1 ≤ maxLen) := (by rw [HLM.out]; show _ ≤ _; unfold maxLen; omega); have C4 : Hid ((l.length + 1) * 56 ≤ 140737488355328) := (by rw [HLM.out]; show _ ≤ _; omega)) | (at_builtin; refine wpList_append_own_at _ rfl _ _ 37 rfl w.heap.size 39 i0 (.agg #[.int .i64 0, .int .i64 0, .string ⟨#[]⟩, .slice none 0 0]) 4 56 undTms HI.out.1 HI.out.2.1 HI.out.2.2.1 HI.out.2.2.2 rfl (by decide) _ l.length xs rfl (HG1.out.own.alloc _) ⟨w5.heap.size, 0, none⟩ 1 1 [.int .i64 va, .int .i64 vb, .string vc, .slice vd ve vf] rfl rfl four8 one4 C3.out C4.out C5.out ?_; intro v6 w6 hown6 hgr6 hnn6 hat6))
        have HG2 := HGI.out.more ht5 hr5 hv5 hown6 hgr6 hat6
        go_roundw
        case rel => exact ⟨m + 1, l ++ [t], _, z, by omega, by go_num, by rw [List.length_append, HLM.out]; rfl, HZ.out, HG2, HE.out⟩
        case measure => simp [intOf]; omega
    · have HE : Hid (G = some (l, y)) := by
        show _ = _
        rw [HGG.out, show n - m = 0 by omega, rTs, pre, List.append_nil]
      go_wp2_with fail
      go_ret
      exact ⟨HGI.out.turn, .inl ⟨l, y, _, HE.out, rfl, HGI.out.list, HGI.out.rr⟩⟩
set_option maxHeartbeats 4000000 in
set_option maxRecDepth 100000 in
theorem list_any {E : Env} {d : Nat} (ih : TermC E d) {w : World} {left : Nat} (h : Rr E left w) (hl : left ≤ 100) (x : Int) (hx : x ≤ 9223372036854775807) :
    Calls Try.prog 126 #[.pointer (some ⟨E.rb, 0, none⟩), .int .i64 x, .int .i64 d] w fun e w' => Turn E.rb w w' ∧
      ((∃ l y v, rL E.H (rT true E.H d) left x left = some (l, y) ∧ e = .returned v ∧ IsL w w' v l ∧ Rr E y w') ∨ (rL E.H (rT true E.H d) left x left = none ∧ e = .panicked PN)) := by
  have IH : Hid (TermC E d) := ih
  have HR : Hid (Rr E left w) := h
  have hF := h.ok.far
  have hN := h.ok.n
  have HL : Hid (left ≤ 100) := hl
  have HX0 : Hid (x ≤ 9223372036854775807) := hx
  clear ih h hl hx
  obtain ⟨i0, hi, hz0, hz1, hz2⟩ := infoParts infoTm
  have HI : Hid (Try.prog.info? 39 = some i0 ∧ i0.zero = some (.agg #[.int .i64 0, .int .i64 0, .string ⟨#[]⟩, .slice none 0 0]) ∧ i0.size = 4 ∧ i0.bytes = 56) := ⟨hi, hz0, hz1, hz2⟩
  clear hi hz0 hz1 hz2
  generalize hG : rL E.H (rT true E.H d) left x left = G
  have HG : Hid (rL E.H (rT true E.H d) left x left = G) := hG
  clear hG
  go_enter Try.func126, Try.ntmps126
  go_wp2_with fail
  go_loopw [1, 7] (fun vx v wr => ∃ (x : Int) (l : List Tm) (xs : List Value) (y : Nat), vx = .int .i64 x ∧ x ≤ 9223372036854775807 ∧ l.length + y ≤ 100 ∧ GI E w wr l v xs y ∧ G = pre l (rL E.H (rT true E.H d) y x y)) (fun _ _ wr => leftOf E wr)
  case atStart => exact ⟨x, [], [], left, rfl, HX0.out, by simpa using HL.out, GI.start HR.out, by rw [pre_nil]; exact HG.out.symm⟩
  case round =>
    clear HX0 HG
    obtain ⟨x, l, xs, y, rfl, hx, hy, hg, hG⟩ := hrel
    have HX : Hid (x ≤ 9223372036854775807) := hx
    have HY : Hid (y ≤ 100) := by show _ ≤ _; omega
    obtain ⟨ua, uc, rfl⟩ := hg.form
    have HGI : Hid (GI E w wr l (.slice ua l.length uc) xs y) := hg
    have HGG : Hid (G = pre l (rL E.H (rT true E.H d) y x y)) := hG
    have HLY : Hid (l.length + y ≤ 100) := hy
    clear hg hG hy
    by_cases h3 : x = 3
    · subst h3
      have HE : Hid (G = some (l, y)) := by
        show _ = _
        rw [HGG.out, rL_end, pre, List.append_nil]
      go_wp2_with fail
      go_ret
      exact ⟨HGI.out.turn, .inl ⟨l, y, _, HE.out, rfl, HGI.out.list, HGI.out.rr⟩⟩
    · have H3 : Hid (x ≠ 3) := h3
      have hne : (x != 3) = true := by simpa using h3
      by_cases hc : consAt E.H x
      · have hiw : isW x = true := by
          have h5 := hc.1
          have h2 := hc.2
          have hv := valW_ge x
          have := hF _ (by omega : E.H.len (valW x).toNat ≠ 0)
          refine isW_of ?_ (by omega) (by omega)
          unfold tagW at h5
          split at h5 <;> omega
        have HC : Hid (consAt E.H x) := hc
        have h5 : tagW x = 5 := hc.1
        obtain ⟨p, hp⟩ : ∃ p : Nat, valW x = p := ⟨(valW x).toNat, by have := valW_ge x; omega⟩
        have HP : Hid (valW x = p) := hp
        have hpN : 2 ≤ E.H.len p := by have h2 := hc.2; rw [hp] at h2; simpa using h2
        have HA : Hid (2 ≤ E.H.len p) := hpN
        have q0 : wr.cell? ⟨E.sb p, E.so p, none⟩ = some (.int .i64 (E.H.w p 0)) := HGI.out.rr.ws p 0 (by omega)
        have HQ1 : Hid (1 < E.H.len p) := by show _ < _; omega
        have HB0 : Hid (E.H.w p 0 ≤ 9223372036854775807) := HGI.out.rr.big _ _
        have HB1 : Hid (E.H.w p 1 ≤ 9223372036854775807) := HGI.out.rr.big _ _
        have HIW : Hid (isW x = true) := hiw
        have HT5 : Hid (tagW x = 5) := h5
        clear hc hp hiw h5
        have htn : (valW x).toNat = p := by rw [HP.out]; simp
        cases hrt : rT true E.H d (E.H.w p 0) y with
        | none =>
          have HN : Hid (rT true E.H d (E.H.w p 0) y = none) := hrt
          have HE : Hid (G = none) := by show _ = _; rw [HGG.out, rL_none H3.out (by rw [htn]; exact hrt)]; rfl
          clear hrt htn
          generalize E.H.w p 0 = x0 at *
          go_wp2_with (first | (go_at_call 106; refine (isWord_any x HX.out _).mono ?_; rintro e w' ⟨rfl, rfl⟩; rw [HIW.out]) | (go_at_call 120; refine (implTag_any x HX.out _).mono ?_; rintro e w' ⟨rfl, rfl⟩; rw [HT5.out]) | (go_at_call 121; refine (implVal_any x HX.out _).mono ?_; rintro e w' ⟨rfl, rfl⟩; rw [HP.out]) | (go_at_call 93; refine (insist_yes _).mono ?_; rintro e w' ⟨rfl, rfl⟩) | (go_at_call 134; refine (at_yes HGI.out.rr p 2 HA.out (by decide)).mono ?_; rintro e w' ⟨⟨c2, rfl, hc2⟩, rfl⟩) | (go_at_call 81; refine (term_no IH.out HGI.out.rr HY.out HB0.out HN.out).mono ?_; rintro e w5 ⟨rfl, ht5⟩))
          exact ⟨rfl, HGI.out.turn.trans ht5, .inr ⟨HE.out, rfl⟩⟩
        | some ty =>
          obtain ⟨t, z⟩ := ty
          have hzy := rT_lt _ _ _ _ _ _ _ hrt
          have HS : Hid (rT true E.H d (E.H.w p 0) y = some (t, z)) := hrt
          have HE : Hid (G = pre (l ++ [t]) (rL E.H (rT true E.H d) z (E.H.w p 1) z)) := by
            show _ = _
            obtain ⟨y', rfl⟩ : ∃ y', y = y' + 1 := ⟨y - 1, by omega⟩
            rw [HGG.out, rL_some H3.out HC.out (by rw [htn]; exact hrt), pre_pre, htn, rL_more (rT_lt true E.H d) y' z _ z (by omega) (Nat.le_refl _)]
          have HZ : Hid (l.length + 1 + z ≤ 100) := by show _ ≤ _; have := HLY.out; omega
          have HZY : Hid (z < y) := hzy
          clear hrt htn hzy
          generalize E.H.w p 0 = x0 at *
          go_wp2_with (first | (go_at_call 106; refine (isWord_any x HX.out _).mono ?_; rintro e w' ⟨rfl, rfl⟩; rw [HIW.out]) | (go_at_call 120; refine (implTag_any x HX.out _).mono ?_; rintro e w' ⟨rfl, rfl⟩; rw [HT5.out]) | (go_at_call 121; refine (implVal_any x HX.out _).mono ?_; rintro e w' ⟨rfl, rfl⟩; rw [HP.out]) | (go_at_call 93; refine (insist_yes _).mono ?_; rintro e w' ⟨rfl, rfl⟩) | (go_at_call 134; refine (at_yes HGI.out.rr p 2 HA.out (by decide)).mono ?_; rintro e w' ⟨⟨c2, rfl, hc2⟩, rfl⟩) | (go_at_call 81; refine (term_yes IH.out HGI.out.rr HY.out HB0.out HS.out).mono ?_; rintro e w5 ⟨va, vb, vc, vd, ve, vf, rfl, ht5, hv5, hr5⟩; have HG1 : Hid (GI E w w5 l (.slice ua l.length uc) xs z) := HGI.out.call ht5 hr5; have C5 : Hid (w.heap.size ≤ (w5.alloc (.cells #[.int .i64 va, .int .i64 vb, .string vc, .slice vd ve vf] 39)).heap.size) := (by rw [World.size_alloc]; exact Nat.le_succ_of_le HG1.out.turn.size); have C3 : Hid (l.length + 1 ≤ maxLen) := (by have := HLY.out; show _ ≤ _; unfold maxLen; omega); have C4 : Hid ((l.length + 1) * 56 ≤ 140737488355328) := (by have := HLY.out; show _ ≤ _; omega)) | (at_builtin; refine wpList_append_own_at _ rfl _ _ 37 rfl w.heap.size 39 i0 (.agg #[.int .i64 0, .int .i64 0, .string ⟨#[]⟩, .slice none 0 0]) 4 56 undTms HI.out.1 HI.out.2.1 HI.out.2.2.1 HI.out.2.2.2 rfl (by decide) _ l.length xs rfl (HG1.out.own.alloc _) ⟨w5.heap.size, 0, none⟩ 1 1 [.int .i64 va, .int .i64 vb, .string vc, .slice vd ve vf] rfl rfl four8 one4 C3.out C4.out C5.out ?_; intro v6 w6 hown6 hgr6 hnn6 hat6; have HG2 : Hid (GI E w w6 (l ++ [t]) v6 (xs ++ [.int .i64 va, .int .i64 vb, .string vc, .slice vd ve vf]) z) := HGI.out.more ht5 hr5 hv5 hown6 hgr6 hat6; have q1 := HG2.out.rr.ws p 1 HQ1.out))
          go_roundw
          case rel => exact ⟨_, l ++ [t], _, z, rfl, HB1.out, by rw [List.length_append]; exact HZ.out, HG2.out, HE.out⟩
          case measure => rw [leftOf_rr HG2.out.rr, leftOf_rr HGI.out.rr]; exact HZY.out
      · have HE : Hid (G = none) := by show _ = _; rw [HGG.out, rL_off H3.out hc]; rfl
        have HC : Hid (¬ consAt E.H x) := hc
        clear hc
        cases hiw : isW x with
        | false =>
          have HIW : Hid (isW x = false) := hiw
          clear hiw
          go_wp2_with (first | (go_at_call 106; refine (isWord_any x HX.out _).mono ?_; rintro e w' ⟨rfl, rfl⟩; rw [HIW.out]) | (go_at_call 93; refine (insist_no _).mono ?_; rintro e w' ⟨rfl, rfl⟩))
          exact ⟨rfl, HGI.out.turn, .inr ⟨HE.out, rfl⟩⟩
        | true =>
          have HIW : Hid (isW x = true) := hiw
          by_cases h5 : tagW x = 5
          · obtain ⟨p, hp⟩ : ∃ p : Nat, valW x = p := ⟨(valW x).toNat, by have := valW_ge x; omega⟩
            have HP : Hid (valW x = p) := hp
            have HA : Hid (¬ 2 ≤ E.H.len p) := by
              intro hh
              exact HC.out ⟨h5, by rw [hp]; simpa using hh⟩
            have HPB : Hid (p ≤ 4000001) := by show _ ≤ _; have := isW_val hiw; omega
            have HT5 : Hid (tagW x = 5) := h5
            clear hp h5 hiw
            go_wp2_with (first | (go_at_call 106; refine (isWord_any x HX.out _).mono ?_; rintro e w' ⟨rfl, rfl⟩; rw [HIW.out]) | (go_at_call 120; refine (implTag_any x HX.out _).mono ?_; rintro e w' ⟨rfl, rfl⟩; rw [HT5.out]) | (go_at_call 121; refine (implVal_any x HX.out _).mono ?_; rintro e w' ⟨rfl, rfl⟩; rw [HP.out]) | (go_at_call 93; refine (insist_yes _).mono ?_; rintro e w' ⟨rfl, rfl⟩) | (go_at_call 134; refine (at_no HGI.out.rr p 2 HA.out HPB.out (by decide)).mono ?_; rintro e w' ⟨rfl, rfl⟩))
            exact ⟨rfl, HGI.out.turn, .inr ⟨HE.out, rfl⟩⟩
          · have h5b : (tagW x == 5) = false := by simpa using h5
            clear hiw
            go_wp2_with (first | (go_at_call 106; refine (isWord_any x HX.out _).mono ?_; rintro e w' ⟨rfl, rfl⟩; rw [HIW.out]) | (go_at_call 120; refine (implTag_any x HX.out _).mono ?_; rintro e w' ⟨rfl, rfl⟩) | (go_at_call 93; refine (insist_no _).mono ?_; rintro e w' ⟨rfl, rfl⟩))
            exact ⟨rfl, HGI.out.turn, .inr ⟨HE.out, rfl⟩⟩
end Go.Proofs.Ytabgfaafpgholaa.Gn

namespace Go.Proofs.Ytabgfaafpgholaa.Gn
open Go.RowKit
set_option linter.unusedVariables false

theorem terms_yes {E : Env} {d : Nat} (ih : TermC E d) {w : World} {left : Nat} (h : Rr E left w) (hl : left ≤ 100) (V p n o' cap' : Nat) (ho : n ≠ 0 → o' = E.so V + p) (hpn : p + n ≤ E.H.len V) (hn8 : n ≤ 8) {l : List Tm} {y : Nat} (he : rTs (E.H.w V) (rT true E.H d) n p left = some (l, y)) :
    Calls Try.prog 123 #[.pointer (some ⟨E.rb, 0, none⟩), .slice (some ⟨E.sb V, o', none⟩) n cap', .int .i64 d] w fun e w' => ∃ ao cap, e = .returned (.slice ao l.length cap) ∧ Turn E.rb w w' ∧ l.length ≤ cap ∧ cap ≤ maxLen ∧ OwL w' l (w.heap.size) w'.heap.size ao ∧ Rr E y w' := by
  refine (terms_any ih h hl V p n o' cap' ho hpn hn8).mono ?_
  rintro e w' ⟨ht, ⟨l', y', v, hh, rfl, ⟨ao, cap, rfl, h1, h2, h3⟩, hrr⟩ | ⟨hh, rfl⟩⟩
  · rw [he] at hh
    simp only [Option.some.injEq, Prod.mk.injEq] at hh
    obtain ⟨rfl, rfl⟩ := hh
    exact ⟨ao, cap, rfl, ht, h1, h2, h3, hrr⟩
  · rw [he] at hh; cases hh
theorem terms_no {E : Env} {d : Nat} (ih : TermC E d) {w : World} {left : Nat} (h : Rr E left w) (hl : left ≤ 100) (V p n o' cap' : Nat) (ho : n ≠ 0 → o' = E.so V + p) (hpn : p + n ≤ E.H.len V) (hn8 : n ≤ 8) (he : rTs (E.H.w V) (rT true E.H d) n p left = none) :
    Calls Try.prog 123 #[.pointer (some ⟨E.rb, 0, none⟩), .slice (some ⟨E.sb V, o', none⟩) n cap', .int .i64 d] w fun e w' => e = .panicked PN ∧ Turn E.rb w w' := by
  refine (terms_any ih h hl V p n o' cap' ho hpn hn8).mono ?_
  rintro e w' ⟨ht, ⟨l', y', v, hh, rfl, ⟨ao, cap, rfl, h1, h2, h3⟩, hrr⟩ | ⟨hh, rfl⟩⟩
  · rw [he] at hh; cases hh
  · exact ⟨rfl, ht⟩
theorem list_yes {E : Env} {d : Nat} (ih : TermC E d) {w : World} {left : Nat} (h : Rr E left w) (hl : left ≤ 100) (x : Int) (hx : x ≤ 9223372036854775807) {l : List Tm} {y : Nat} (he : rL E.H (rT true E.H d) left x left = some (l, y)) :
    Calls Try.prog 126 #[.pointer (some ⟨E.rb, 0, none⟩), .int .i64 x, .int .i64 d] w fun e w' => ∃ ao cap, e = .returned (.slice ao l.length cap) ∧ Turn E.rb w w' ∧ l.length ≤ cap ∧ cap ≤ maxLen ∧ OwL w' l (w.heap.size) w'.heap.size ao ∧ Rr E y w' := by
  refine (list_any ih h hl x hx).mono ?_
  rintro e w' ⟨ht, ⟨l', y', v, hh, rfl, ⟨ao, cap, rfl, h1, h2, h3⟩, hrr⟩ | ⟨hh, rfl⟩⟩
  · rw [he] at hh
    simp only [Option.some.injEq, Prod.mk.injEq] at hh
    obtain ⟨rfl, rfl⟩ := hh
    exact ⟨ao, cap, rfl, ht, h1, h2, h3, hrr⟩
  · rw [he] at hh; cases hh
theorem list_no {E : Env} {d : Nat} (ih : TermC E d) {w : World} {left : Nat} (h : Rr E left w) (hl : left ≤ 100) (x : Int) (hx : x ≤ 9223372036854775807) (he : rL E.H (rT true E.H d) left x left = none) :
    Calls Try.prog 126 #[.pointer (some ⟨E.rb, 0, none⟩), .int .i64 x, .int .i64 d] w fun e w' => e = .panicked PN ∧ Turn E.rb w w' := by
  refine (list_any ih h hl x hx).mono ?_
  rintro e w' ⟨ht, ⟨l', y', v, hh, rfl, ⟨ao, cap, rfl, h1, h2, h3⟩, hrr⟩ | ⟨hh, rfl⟩⟩
  · rw [he] at hh; cases hh
  · exact ⟨rfl, ht⟩
theorem box_in {E : Env} {left : Nat} {w w1 : World} (h : Rr E left w) (c : Array Value) (t : TypeId) (e : w1 = w.alloc (.cells c t)) :
    w1.heap.size = w.heap.size + 1 ∧ (∀ o, w1.cell? ⟨w.heap.size, o, none⟩ = c[o]?) ∧ (∀ o, w1.frozen? ⟨w.heap.size, o, none⟩ = false) ∧ Turn E.rb w w1 ∧ Rr E left w1 ∧ E.rb ≠ w.heap.size := by
  subst e
  have hb : Below w.heap.size w (w.alloc (.cells c t)) := (Below.refl _ _).alloc (Nat.le_refl _) _
  have := h.lt
  exact ⟨World.size_alloc _ _, fun o => World.cell?_alloc_new w c t o, fun o => World.frozen?_alloc_new w _ _ o, Turn.of_below hb, h.below hb, by omega⟩
theorem box_out {E : Env} {left y : Nat} {w w5 : World} (h0 : Rr E left w) (ht : Turn E.rb w w5) (hz : w.heap.size + 1 ≤ w5.heap.size) (hr : Rr E y w5) {t : Tm} {v : Value} (hv : OwE w5 (w.heap.size + 1) w5.heap.size t v) (a b c d : Value) :
    Turn E.rb w (lay4 w5 w.heap.size a b c d) ∧ OwE (lay4 w5 w.heap.size a b c d) (w.heap.size) (lay4 w5 w.heap.size a b c d).heap.size t v ∧ Rr E y (lay4 w5 w.heap.size a b c d) := by
  have hk : ∀ k, k < w.heap.size → (lay4 w5 w.heap.size a b c d).heap[k]? = w5.heap[k]? := fun k hk => lay4_heap (by omega)
  refine ⟨⟨ht.os, ht.tape, ht.output, by rw [lay4_size]; exact ht.size, fun k hkl hkn => (hk k hkl).trans (ht.block k hkl hkn)⟩, ?_, h0.same hr hk⟩
  rw [lay4_size]
  exact (hv.keep (fun b' h1 h2 hbl => lay4_heap (by omega))).mono (by omega) (Nat.le_refl _)
theorem rp_leaf {w : World} {lo hi : Nat} (k n : Int) (s : ByteArray) (hs : s.size ≤ maxLen) : OwE w lo hi (.mk k n s []) (.agg #[.int .i64 k, .int .i64 n, .string s, .slice none 0 0]) :=
  ⟨none, 0, rfl, hs, Nat.le_refl _, Nat.zero_le _, by rw [OwL]; trivial⟩
/-- What termOf answers. -/
def TofC (E : Env) (d : Nat) (w : World) (left : Nat) (x : Int) : Prop :=
  Calls Try.prog 107 #[.pointer (some ⟨E.rb, 0, none⟩), .int .i64 x, .int .i64 d] w fun e w' => Turn E.rb w w' ∧
    ((∃ t y v, raw true E.H (rT true E.H d) x left = some (t, y) ∧ e = .returned v ∧ OwE w' (w.heap.size) w'.heap.size t v ∧ Rr E y w') ∨ (raw true E.H (rT true E.H d) x left = none ∧ e = .panicked PN))
set_option maxHeartbeats 2000000 in
set_option maxRecDepth 100000 in
theorem termOf_0 {E : Env} {d : Nat} {w : World} {left : Nat} (h : Rr E left w) (x : Int) (hw : isW x = true) (ht : tagW x = 0) : TofC E d w left x := by
  obtain ⟨p, hp⟩ : ∃ p : Nat, valW x = p := ⟨(valW x).toNat, by have := valW_ge x; omega⟩
  have HP : Hid (valW x = p) := hp
  have HX : Hid (x ≤ 9223372036854775807) := isW_big hw
  have HT : Hid (tagW x = 0) := ht
  have hpb : (p : Int) ≤ 4000000 := by have := isW_val hw; omega
  have HR : Hid (Rr E left w) := h
  unfold TofC
  rw [show raw true E.H (rT true E.H d) x left = some (.mk 1 ((p : Int) - 1000000) ByteArray.empty [], left) by unfold raw; rw [if_pos ht, if_neg (by simp), hp]]
  clear hp hw ht h
  go_enter Try.func107, Try.ntmps107
  go_wp2_with fail
  refine (implVal_any x HX.out _).mono ?_
  rintro e w1 ⟨rfl, hw1⟩
  rw [HP.out]
  obtain ⟨hz1, q1, f1, ht1, hr1, hne⟩ := box_in HR.out _ _ hw1
  have HT1 : Hid (Turn E.rb w w1) := ht1
  have HR1 : Hid (Rr E left w1) := hr1
  clear hw1 ht1 hr1
  go_wp2_with (first | (go_at_call 120; refine (implTag_any x HX.out _).mono ?_; rintro e w' ⟨rfl, rfl⟩; rw [HT.out]))
  obtain ⟨a1, a2, a3⟩ := box_out HR.out HT1.out (by omega) HR1.out (rp_leaf 1 ((p : Int) - 1000000) ByteArray.empty (Nat.zero_le _)) (.int .i64 1) (.int .i64 ((p : Int) - 1000000)) (.string ⟨#[]⟩) (.slice none 0 0)
  exact bodyPost_ret (v := .agg #[.int .i64 1, .int .i64 ((p : Int) - 1000000), .string ⟨#[]⟩, .slice none 0 0]) (by simp [results, Try.results107, go_sem, q1]) rfl ⟨a1, .inl ⟨_, _, _, rfl, rfl, a2, a3⟩⟩
end Go.Proofs.Ytabgfaafpgholaa.Gn
namespace Go.Proofs.Ytabgfaafpgholaa
open Go.RowKit
set_option linter.unusedVariables false

theorem strClone_any (s : ByteArray) (w : World) (h : s.size ≤ 1048576) :
    Calls Try.prog 122 #[.string s] w fun e w' => e = .returned (.string s) ∧ Below w.heap.size w w' := by
  have HC : Hid (∀ w, Calls Try.prog 133 #[.string s] w fun e w' => e = .returned (.string s) ∧ Below w.heap.size w w') := fun w => Try.stringslite_Clone s w (by omega)
  go_enter Try.func122, Try.ntmps122
  go_wp2_with (go_at_call 133; fail)
  refine (HC.out _).mono ?_
  rintro e w1 ⟨rfl, hb1⟩
  have HB : Hid (Below w.heap.size w w1) := hb1
  clear hb1
  go_wp2_with fail
  go_ret
  exact ⟨rfl, HB.out⟩
end Go.Proofs.Ytabgfaafpgholaa
