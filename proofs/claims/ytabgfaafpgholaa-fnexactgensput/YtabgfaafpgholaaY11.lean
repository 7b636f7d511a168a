/-
  The specification's words for places further on: a list, any term.
  spec.l6Shift.
-/
import Derived.Test.YtabgfaafpgholaaY10
namespace Go.Proofs.Ytabgfaafpgholaa
open Go.RowKit
set_option linter.unusedVariables false

theorem Ints.same {w : World} {b N : Nat} {f g : Nat → Int} (h : Ints w b 0 N f) (e : f = g) : Ints w b 0 N g := e ▸ h
theorem consL_cons (x y : Int) (r : List Int) (a : Nat) : consL (x :: y :: r) a = x :: mkw 5 ((a : Int) + 2) :: consL (y :: r) (a + 2) := by rw [consL]
set_option maxHeartbeats 8000000 in
set_option maxRecDepth 100000 in
/-- The cells of a list, from one on. -/
theorem shift_one (t : Tm) (r : List Tm) (HTI : ShC t) (HCR : r ≠ [] → CoC r) : CoC (t :: r) := by
  intro c e b ws ws' ns ns' gw go N cw co F G w hs hce hN hN2 hb hn hgo hF hG hwc hwn
  obtain ⟨x, x', wr, wr', m, m', q, q', rfl, rfl, rfl, rfl, hst, hsr⟩ := hs.uncons
  obtain ⟨z1, z2, z3⟩ := ShL.len r _ _ _ _ _ _ hsr
  have hml := ShT.len t _ _ _ _ _ _ hst
  simp only [List.length_cons] at hce
  rw [List.length_append] at hN
  obtain ⟨e1, e2, _⟩ := mkw_back (t := 5) (v := (c : Int)) (by omega) (by omega)
  obtain ⟨hmv, hxle⟩ := hst.moved (by omega)
  -- what stands in the two cells, and what is to stand there
  obtain ⟨y, y', hcl, hcl', hmy, hyle, hy1, hy2⟩ : ∃ y y' : Int, consL (x :: wr) c = x :: y :: consL wr (c + 2) ∧ consL (x' :: wr') (c + b) = x' :: y' :: consL wr' (c + 2 + b) ∧ mvW y b = y' ∧ y ≤ 32000006 ∧ (r = [] → tagW y ≤ 3) ∧ (r ≠ [] → y = mkw 5 ((c + 2 : Nat) : Int)) := by
    cases r with
    | nil =>
      obtain rfl : wr = [] := List.eq_nil_of_length_eq_zero z1
      obtain rfl : wr' = [] := List.eq_nil_of_length_eq_zero z2
      exact ⟨3, 3, by simp [consL], by simp [consL], mvW_leaf (by decide), by decide, fun _ => by decide, fun h => absurd rfl h⟩
    | cons u r =>
      cases wr with
      | nil => simp at z1
      | cons w1 wr =>
        cases wr' with
        | nil => simp at z2
        | cons w1' wr' =>
          refine ⟨mkw 5 ((c + 2 : Nat) : Int), mkw 5 ((c + 2 + b : Nat) : Int), ?_, ?_, mvW_mk (by simp) (by omega), mkw_leQ _ _, (fun h => by cases h), (fun _ => rfl)⟩
          · rw [consL_cons, Int.natCast_add]; rfl
          · have e : (((c + b : Nat) : Int) + 2) = ((c + 2 + b : Nat) : Int) := by omega
            have e2 : c + b + 2 = c + 2 + b := by omega
            rw [consL_cons, e, e2]
  have hcx : F c = x := by have := hwc 0 (by rw [hcl]; simp); simpa [hcl] using this
  have hcy : F (c + 1) = y := by have := hwc 1 (by rw [hcl]; simp); simpa [hcl] using this
  have hle := mkw_leQ 5 c
  generalize mkw 5 (c : Int) = X at *
  have HTG : Hid (∀ w, Calls Try.prog 115 #[.int .i64 X] w fun e w' => e = .returned (.int .i64 5) ∧ w' = w) := fun w => by rw [← e1]; exact specTag_any X w
  have HVL : Hid (∀ w, Calls Try.prog 114 #[.int .i64 X] w fun e w' => e = .returned (.int .i64 c) ∧ w' = w) := fun w => by rw [← e2]; exact specVal_any X (by omega) w
  have HMX : Hid (∀ w, Calls Try.prog 88 #[.int .i64 x, .int .i64 b] w fun e w' => e = .returned (.int .i64 x') ∧ w' = w) := fun w => by rw [← hmv]; exact moved_any x b (by omega) (by omega) (by omega) w
  have HMY : Hid (∀ w, Calls Try.prog 88 #[.int .i64 y, .int .i64 b] w fun e w' => e = .returned (.int .i64 y') ∧ w' = w) := fun w => by rw [← hmy]; exact moved_any y b (by omega) (by omega) (by omega) w
  have HSX : Hid (∀ w2, Turn go w w2 → Ints w2 go 0 N (ovr G c [x']) → Calls Try.prog 87 #[.slice (some ⟨gw, 0, none⟩) N cw, .slice (some ⟨go, 0, none⟩) N co, .int .i64 x, .int .i64 b] w2 (ShP w2 go N (ovr (ovr G c [x']) e m'))) := fun w2 ht2 hi2 =>
    HTI e b m m' x x' gw go N cw co F _ w2 hst (by omega) hN2 hb hn (Nat.lt_of_lt_of_le hgo ht2.size) (ht2.ints hF (by omega) hn) hi2 (fun j hj => by
      rw [hwn j (by rw [List.length_append]; omega), List.getElem_append_left hj])
  have HSY : Hid (∀ w2, Turn go w w2 → Ints w2 go 0 N (ovr (ovr G c [x', y']) e m') → Calls Try.prog 87 #[.slice (some ⟨gw, 0, none⟩) N cw, .slice (some ⟨go, 0, none⟩) N co, .int .i64 y, .int .i64 b] w2 (ShP w2 go N (ovr (ovr G c (consL (x' :: wr') (c + b))) e (m' ++ q')))) := fun w2 ht2 hi2 => by
    by_cases hr : r = []
    · have hy := hy1 hr
      subst hr
      obtain rfl : wr' = [] := List.eq_nil_of_length_eq_zero z2
      rw [ShL] at hsr
      obtain ⟨_, _, _, rfl⟩ := hsr
      refine (shift_leaf y b hy hyle gw go N cw co w2).mono ?_
      rintro e9 w9 ⟨hv, rfl⟩
      refine ⟨hv, Turn.refl _ _, ?_⟩
      rw [hcl', List.append_nil]
      simpa [consL] using hi2
    · have h9 := HCR hr (c + 2) (e + m.length) b wr wr' q q' gw go N cw co F (ovr (ovr G c [x', y']) e m') w2 hsr (by omega) (by omega) hN2 hb hn (Nat.lt_of_lt_of_le hgo ht2.size) (ht2.ints hF (by omega) hn) hi2 (fun j hj => by
        have h1 := hwc (2 + j) (by rw [hcl, List.length_cons, List.length_cons]; omega)
        simp only [hcl] at h1
        have e3 : c + 2 + j = c + (2 + j) := by omega
        rw [e3, h1]
        have e4 : 2 + j = j + 1 + 1 := by omega
        simp only [e4, List.getElem_cons_succ]) (fun j hj => by
        have h1 := hwn (m.length + j) (by rw [List.length_append]; omega)
        rw [Nat.add_assoc, h1, List.getElem_append_right (by omega)]
        congr 1
        omega)
      rw [← hy2 hr] at h9
      refine h9.mono ?_
      rintro e9 w9 ⟨hv, ht9, hi9⟩
      refine ⟨hv, ht9, hi9.same ?_⟩
      rw [ovr_next G c e (c + 2) [x', y'] m' (consL wr' (c + 2 + b)) (by simp) (by rw [consL_len]; omega), ovr_app _ _ _ _ _ (by omega), hcl']
      rfl
  have HF : Hid (Ints w gw 0 N F) := hF
  have HG : Hid (Ints w go 0 N G) := hG
  have HN : Hid (c + 2 ≤ N ∧ c + 2 ≤ e ∧ N ≤ 100000 ∧ gw ≠ go ∧ b ≤ 200000 ∧ go < w.heap.size ∧ m'.length = m.length) := ⟨by omega, by omega, hN2, hn, hb, hgo, hml⟩
  have HQX : Hid (w.cell? ⟨gw, c, none⟩ = some (.int .i64 x)) := by rw [← hcx]; exact hF.at1 (by omega)
  have HQY : Hid (w.cell? ⟨gw, c + 1, none⟩ = some (.int .i64 y)) := by rw [← hcy]; exact hF.at1 (by omega)
  obtain ⟨c2, hc2⟩ : ∃ c2 : Nat, c2 = c + 2 := ⟨_, rfl⟩
  have V1 : IntKind.i64.wrap ((c : Int) + 2) = (c2 : Int) := by rw [IntKind.wrap_i64]; omega
  have HC2 : Hid (c2 = c + 2) := hc2
  generalize consL (x' :: wr') (c + b) = CL at *
  obtain ⟨GF, hGF⟩ : ∃ GF, GF = ovr (ovr G c CL) e (m' ++ q') := ⟨_, rfl⟩
  rw [← hGF] at HSY ⊢
  clear hF hG hwc hwn hcl hcl' hcx hcy hle e1 e2 hmv hmy hxle hyle hy1 hy2 hst hsr z1 z2 z3 hN hN2 hb hgo hce hc2 hGF HTI HCR hs hml
  go_enter Try.func87, Try.ntmps87
  go_wp2_with (first
    | (go_at_call 115; refine (HTG.out _).mono ?_; rintro e w' ⟨rfl, hw'⟩; obtain rfl := hw'.symm)
    | (go_at_call 114; refine (HVL.out _).mono ?_; rintro e w' ⟨rfl, hw'⟩; obtain rfl := hw'.symm))
  go_loopw [11] (fun i wr => Turn go w wr ∧ ((i = .int .i64 (c : Int) ∧ Ints wr go 0 N G) ∨ (i = .int .i64 ((c + 1 : Nat) : Int) ∧ Ints wr go 0 N (ovr (ovr G c [x']) e m')) ∨ (i = .int .i64 (c2 : Int) ∧ Ints wr go 0 N GF))) (fun i _ => c + 2 - (intOf i).toNat)
  case atStart => exact ⟨Turn.refl _ _, .inl ⟨rfl, HG.out⟩⟩
  case round =>
    obtain ⟨ht, hor⟩ := hrel
    obtain ⟨hN, hce, hN2, hn, hb, hgo, hml⟩ := HN.out
    have hc2 := HC2.out
    rcases hor with ⟨rfl, hi⟩ | ⟨rfl, hi⟩ | ⟨rfl, hi⟩
    · have hlt : (c : Int) < (c2 : Int) := by omega
      have hcN : c < N := by omega
      have qi := ht.cell hn HQX.out
      have qo := hi.at1 hcN
      have fo := hi.free c
      obtain ⟨w2, hw2⟩ : ∃ w2, w2 = wr.setCell ⟨go, c, none⟩ (.int .i64 x') := ⟨_, rfl⟩
      have HT2 : Hid (Turn go w w2) := by rw [hw2]; exact ht.set _ _
      have HI2 : Hid (Ints w2 go 0 N (ovr G c [x'])) := by rw [hw2]; exact hi.put1 c hcN x'
      have q2 : w2.cell? ⟨gw, c, none⟩ = some (.int .i64 x) := by rw [hw2, World.cell?_setCell_other (h := fun e => by simp only [Addr.mk.injEq] at e; omega)]; exact qi
      have V3 : IntKind.i64.wrap ((c : Int) + 1) = (c : Int) + 1 := by rw [IntKind.wrap_i64]; omega
      clear ht hi hc2
      go_wp2_with (first
        | (go_at_call 88; refine (HMX.out _).mono ?_; rintro e w' ⟨rfl, hw'⟩; obtain rfl := hw'.symm)
        | (go_at_call 87; fail))
      rw [← hw2]
      clear hw2
      refine (HSX.out w2 HT2.out HI2.out).mono ?_
      rintro e w5 ⟨⟨v5, rfl⟩, ht5, hi5⟩
      have HT5 : Hid (Turn go w w5) := HT2.out.trans ht5
      have HI5 : Hid (Ints w5 go 0 N _) := hi5
      clear ht5 hi5
      go_wp2_with fail
      go_roundw
      case rel => exact ⟨HT5.out, .inr (.inl ⟨rfl, HI5.out⟩)⟩
      case measure => simp [intOf]; try omega
    · obtain ⟨i, hi0⟩ : ∃ i, i = c + 1 := ⟨_, rfl⟩
      have hqy := HQY.out
      rw [← hi0] at hqy ⊢
      have hlt : (i : Int) < (c2 : Int) := by omega
      have hcN : i < N := by omega
      have qi := ht.cell hn hqy
      have qo := hi.at1 hcN
      have fo := hi.free i
      obtain ⟨w2, hw2⟩ : ∃ w2, w2 = wr.setCell ⟨go, i, none⟩ (.int .i64 y') := ⟨_, rfl⟩
      have HT2 : Hid (Turn go w w2) := by rw [hw2]; exact ht.set _ _
      have HI2 : Hid (Ints w2 go 0 N (ovr (ovr G c [x', y']) e m')) := by
        rw [hw2]
        have h1 := hi.put1 i hcN y'
        rw [ovr_next G c e i [x'] m' [y'] (by rw [hi0]; rfl) (by simp; omega)] at h1
        exact h1
      have q2 : w2.cell? ⟨gw, i, none⟩ = some (.int .i64 y) := by rw [hw2, World.cell?_setCell_other (h := fun e => by simp only [Addr.mk.injEq] at e; omega)]; exact qi
      have V3 : IntKind.i64.wrap ((i : Int) + 1) = (c2 : Int) := by rw [IntKind.wrap_i64]; omega
      have HI0 : Hid (i = c + 1) := hi0
      clear ht hi hc2 hi0 hqy
      go_wp2_with (first
        | (go_at_call 88; refine (HMY.out _).mono ?_; rintro e w' ⟨rfl, hw'⟩; obtain rfl := hw'.symm)
        | (go_at_call 87; fail))
      rw [← hw2]
      clear hw2
      refine (HSY.out w2 HT2.out HI2.out).mono ?_
      rintro e w5 ⟨⟨v5, rfl⟩, ht5, hi5⟩
      have HT5 : Hid (Turn go w w5) := HT2.out.trans ht5
      have HI5 : Hid (Ints w5 go 0 N _) := hi5
      clear ht5 hi5
      go_wp2_with fail
      have hc2 := HC2.out
      have hi0 := HI0.out
      go_roundw
      case rel => exact ⟨HT5.out, .inr (.inr ⟨rfl, HI5.out⟩)⟩
      case measure => simp [intOf]; try omega
    · have hlt : ¬ (c2 : Int) < (c2 : Int) := by omega
      have HFIN : Hid (Turn go w wr ∧ Ints wr go 0 N GF) := ⟨ht, hi⟩
      clear ht hi hc2
      go_wp2_with fail
      exact bodyPost_end (v := .tuple #[]) (by simp [results, Try.results87, go_sem]) rfl ⟨⟨_, rfl⟩, HFIN.out.1, HFIN.out.2⟩
theorem shift_lis : ∀ (l : List Tm), l ≠ [] → (∀ t, t ∈ l → ShC t) → CoC l
  | [], h, _ => absurd rfl h
  | t :: r, _, ih => shift_one t r (ih t (List.mem_cons_self ..)) (fun h => shift_lis r h (fun u hu => ih u (List.mem_cons_of_mem _ hu)))
theorem shift_all : ∀ t, ShC t := Tm.ind fun k n s l ih => by
  intro a b ns ns' x x' gw go N cw co F G w h hN hN2 hb hn hgo hF hG hw
  rw [ShT] at h
  rcases h with ⟨rfl, rfl, rfl, rfl⟩ | ⟨ws, ws', n2, n2', hs, rfl, rfl, rfl, rfl⟩ | ⟨h0, ws, ws', n2, n2', hs, rfl, rfl, rfl, rfl⟩ | ⟨rfl, rfl, rfl, h1, h2⟩
  · exact shift_bin s a b gw go N cw co F G w (by rw [List.length_cons, bytesI_len] at hN; omega) hN2 hn hgo hF hG hw
  · exact shift_tup l ih a b ws ws' n2 n2' gw go N cw co F G w hs hN hN2 hb hn hgo hF hG hw
  · obtain ⟨z1, z2, z3⟩ := ShL.len l _ _ _ _ _ _ hs
    rw [List.length_append, consL_len] at hN
    refine (shift_lis l (fun e => h0 (by rw [e]; rfl)) ih a (a + 2 * l.length) b ws ws' n2 n2' gw go N cw co F G w hs (Nat.le_refl _) (by omega) hN2 hb hn hgo hF hG (fun j hj => ?_) (fun j hj => ?_)).mono ?_
    · rw [hw j (by rw [List.length_append]; omega), List.getElem_append_left hj]
    · have h1 := hw (2 * l.length + j) (by rw [List.length_append, consL_len]; omega)
      rw [← Nat.add_assoc] at h1
      rw [h1, List.getElem_append_right (by rw [consL_len]; omega)]
      congr 1
      rw [consL_len]
      omega
    · rintro e w' ⟨hv, ht, hi⟩
      refine ⟨hv, ht, hi.same ?_⟩
      rw [ovr_app _ _ _ _ _ (by rw [consL_len]; omega)]
  · refine (shift_leaf x' b h1 h2 gw go N cw co w).mono ?_
    rintro e w' ⟨hv, rfl⟩
    exact ⟨hv, Turn.refl _ _, by rw [ovr_nil]; exact hG⟩
end Go.Proofs.Ytabgfaafpgholaa
