/-
  The specification's words for places further on: a tuple, a list, any term.
  spec.l6Shift.
-/
import Derived.Test.YtabgfaafpgholaaY9
namespace Go.Proofs.Ytabgfaafpgholaa
open Go.RowKit
set_option linter.unusedVariables false

/-- The one at k. -/
theorem ShL.uncons {t : Tm} {r : List Tm} {a b : Nat} {ws ws' ns ns' : List Int} (h : ShL (t :: r) a b ws ws' ns ns') : ∃ w w' wr wr' n1 n1' n2 n2', ws = w :: wr ∧ ws' = w' :: wr' ∧ ns = n1 ++ n2 ∧ ns' = n1' ++ n2' ∧ ShT t a b n1 n1' w w' ∧ ShL r (a + n1.length) b wr wr' n2 n2' := by
  rw [ShL] at h; exact h
theorem list_at {α : Type} {l r : List α} {k : Nat} {y : α} (h : l.drop k = y :: r) : ∃ hk : k < l.length, l[k] = y ∧ l.drop (k + 1) = r ∧ l.take (k + 1) = l.take k ++ [y] := by
  have hk : k < l.length := by
    rcases Nat.lt_or_ge k l.length with h1 | h1
    · exact h1
    · rw [List.drop_eq_nil_of_le h1] at h; cases h
  have e := List.drop_eq_getElem_cons hk
  rw [h] at e
  injection e with e1 e2
  exact ⟨hk, e1.symm, e2.symm, by rw [List.take_succ_eq_append_getElem hk, e1]⟩
set_option maxHeartbeats 8000000 in
set_option maxRecDepth 100000 in
/-- A tuple. -/
theorem shift_tup (l : List Tm) (ih : ∀ t, t ∈ l → ShC t) (a b : Nat) (ws ws' n2 n2' : List Int) (gw go N cw co : Nat) (F G : Nat → Int) (w : World) (hs : ShL l (a + 1 + l.length) b ws ws' n2 n2') (hN : a + ((l.length : Int) :: (ws ++ n2)).length ≤ N) (hN2 : N ≤ 100000) (hb : b ≤ 200000) (hn : gw ≠ go) (hgo : go < w.heap.size) (hF : Ints w gw 0 N F) (hG : Ints w go 0 N G) (hw : ∀ j (h : j < ((l.length : Int) :: (ws ++ n2)).length), F (a + j) = ((l.length : Int) :: (ws ++ n2))[j]) :
    Calls Try.prog 87 #[.slice (some ⟨gw, 0, none⟩) N cw, .slice (some ⟨go, 0, none⟩) N co, .int .i64 (mkw 4 a), .int .i64 b] w (ShP w go N (ovr G a ((l.length : Int) :: (ws' ++ n2')))) := by
  obtain ⟨e1, e2, _⟩ := mkw_back (t := 4) (v := (a : Int)) (by omega) (by simp only [List.length_cons, List.length_append] at hN; omega)
  obtain ⟨z1, z2, z3⟩ := ShL.len l _ _ _ _ _ _ hs
  have hln : ((l.length : Int) :: (ws ++ n2)).length = 1 + l.length + n2.length := by simp only [List.length_cons, List.length_append]; omega
  rw [hln] at hN
  have h0 : F a = (l.length : Int) := by have := hw 0 (by simp); simpa using this
  have hws : ∀ k (h : k < ws.length), F (a + 1 + k) = ws[k] := fun k h => by
    have h1 := hw (1 + k) (by rw [hln]; omega)
    rw [← Nat.add_assoc] at h1
    rw [h1, List.getElem_cons]
    rw [dif_neg (by omega), List.getElem_append_left (by omega)]
    congr 1
    omega
  have hn2 : ∀ k (h : k < n2.length), F (a + 1 + l.length + k) = n2[k] := fun k h => by
    have h1 := hw (1 + l.length + k) (by rw [hln]; omega)
    have e : a + (1 + l.length + k) = a + 1 + l.length + k := by omega
    rw [e] at h1
    rw [h1, List.getElem_cons]
    rw [dif_neg (by omega), List.getElem_append_right (by omega)]
    congr 1
    omega
  have hle := mkw_leQ 4 a
  generalize mkw 4 (a : Int) = X at *
  have HTG : Hid (∀ w, Calls Try.prog 115 #[.int .i64 X] w fun e w' => e = .returned (.int .i64 4) ∧ w' = w) := fun w => by rw [← e1]; exact specTag_any X w
  have HVL : Hid (∀ w, Calls Try.prog 114 #[.int .i64 X] w fun e w' => e = .returned (.int .i64 a) ∧ w' = w) := fun w => by rw [← e2]; exact specVal_any X (by omega) w
  have HF : Hid (Ints w gw 0 N F) := hF
  have HG : Hid (Ints w go 0 N G) := hG
  have HWS : Hid (∀ k (h : k < ws.length), F (a + 1 + k) = ws[k]) := hws
  have HN2 : Hid (∀ k (h : k < n2.length), F (a + 1 + l.length + k) = n2[k]) := hn2
  have HN : Hid (a + (1 + l.length + n2.length) ≤ N ∧ N ≤ 100000 ∧ gw ≠ go ∧ b ≤ 200000 ∧ go < w.heap.size) := ⟨hN, hN2, hn, hb, hgo⟩
  have HZ : Hid (ws.length = l.length ∧ ws'.length = l.length ∧ n2'.length = n2.length) := ⟨z1, z2, z3⟩
  have HSH : Hid (ShL l (a + 1 + l.length) b ws ws' n2 n2') := hs
  have IH : Hid (∀ t, t ∈ l → ShC t) := ih
  have q0 : w.cell? ⟨gw, a, none⟩ = some (.int .i64 (l.length : Int)) := by rw [← h0]; exact hF.at1 (by omega)
  have HQ0 : Hid (w.cell? ⟨gw, a, none⟩ = some (.int .i64 (l.length : Int))) := q0
  have qo := hG.at1 (i := a) (by omega)
  have fo := hG.free a
  have haN : a < N := by omega
  obtain ⟨M, hM⟩ : ∃ M : Nat, M = a + l.length := ⟨_, rfl⟩
  have V1 : IntKind.i64.wrap ((a : Int) + (l.length : Int)) = (M : Int) := by rw [IntKind.wrap_i64]; omega
  have HM : Hid (M = a + l.length) := hM
  obtain ⟨a1, ha1⟩ : ∃ a1 : Nat, a1 = a + 1 := ⟨_, rfl⟩
  have V2 : IntKind.i64.wrap ((a : Int) + 1) = (a1 : Int) := by rw [IntKind.wrap_i64]; omega
  have HA1 : Hid (a1 = a + 1) := ha1
  have HG1 : Hid (Ints (w.setCell ⟨go, a, none⟩ (.int .i64 (l.length : Int))) go 0 N (ovr G a [(l.length : Int)])) := hG.put1 a haN _
  have HT1 : Hid (Turn go w (w.setCell ⟨go, a, none⟩ (.int .i64 (l.length : Int)))) := (Turn.refl _ _).set _ _
  clear hF hG hw hws hn2 hln h0 e1 e2 hle hM hN hN2 hb hgo z1 z2 z3 hs ih ha1
  go_enter Try.func87, Try.ntmps87
  go_wp2_with (first
    | (go_at_call 115; refine (HTG.out _).mono ?_; rintro e w' ⟨rfl, hw'⟩; obtain rfl := hw'.symm)
    | (go_at_call 114; refine (HVL.out _).mono ?_; rintro e w' ⟨rfl, hw'⟩; obtain rfl := hw'.symm))
  go_loopw [10] (fun i wr => ∃ (k : Nat) (p p' q q' : List Int), i = .int .i64 ((a1 + k : Nat) : Int) ∧ k ≤ l.length ∧ n2 = p ++ q ∧ n2' = p' ++ q' ∧ p'.length = p.length ∧ ShL (l.drop k) (a + 1 + l.length + p.length) b (ws.drop k) (ws'.drop k) q q' ∧ Turn go w wr ∧ Ints wr go 0 N (ovr (ovr G a ((l.length : Int) :: ws'.take k)) (a + 1 + l.length) p')) (fun i _ => a + 2 + l.length - (intOf i).toNat)
  case atStart => exact ⟨0, [], [], n2, n2', by simp, Nat.zero_le _, by simp, by simp, rfl, by simpa using HSH.out, HT1.out, by rw [ovr_nil]; exact HG1.out⟩
  case round =>
    obtain ⟨k, p, p', q, q', rfl, hk, hpq, hpq', hpl, hsh, ht, hi⟩ := hrel
    have HT : Hid (Turn go w wr) := ht
    have HI : Hid (Ints wr go 0 N (ovr (ovr G a ((l.length : Int) :: ws'.take k)) (a + 1 + l.length) p')) := hi
    obtain ⟨hN, hN2, hn, hb, hgo⟩ := HN.out
    obtain ⟨z1, z2, z3⟩ := HZ.out
    have qr := ht.cell hn HQ0.out
    obtain ⟨i, hi0⟩ : ∃ i, i = a1 + k := ⟨_, rfl⟩
    rw [← hi0]
    have ha1 := HA1.out
    have HK : Hid (i = a + 1 + k ∧ k ≤ l.length ∧ i = a1 + k) := ⟨by omega, hk, hi0⟩
    by_cases hlt : k < l.length
    · have hiM : (i : Int) ≤ (M : Int) := by have := HM.out; omega
      have hiN : i < N := by omega
      have qo := hi.at1 hiN
      have fo := hi.free i
      have ed := List.drop_eq_getElem_cons hlt
      have HTI : Hid (ShC l[k]) := IH.out _ (List.getElem_mem hlt)
      rw [ed] at hsh
      generalize l[k] = t at *
      obtain ⟨y, y', wr1, wr1', m, m', q2, q2', ew, ew', rfl, rfl, hst, hsr⟩ := hsh.uncons
      obtain ⟨hk1, f1, f2, f3⟩ := list_at ew
      obtain ⟨hk2, g1, g2, g3⟩ := list_at ew'
      have hFy : F i = y := by rw [show i = a + 1 + k from by omega, HWS.out k hk1, f1]
      have qi : wr.cell? ⟨gw, i, none⟩ = some (.int .i64 y) := by rw [← hFy]; exact (ht.ints HF.out (by omega) hn).at1 hiN
      have hml := ShT.len t _ _ _ _ _ _ hst
      have hnl : n2.length = p.length + m.length + q2.length := by rw [hpq]; simp only [List.length_append]; omega
      obtain ⟨hmv, hyle⟩ := hst.moved (by omega)
      have HMV : Hid (∀ w, Calls Try.prog 88 #[.int .i64 y, .int .i64 b] w fun e w' => e = .returned (.int .i64 y') ∧ w' = w) := fun w => by rw [← hmv]; exact moved_any y b (by omega) (by omega) (by omega) w
      obtain ⟨w2, hw2⟩ : ∃ w2, w2 = wr.setCell ⟨go, i, none⟩ (.int .i64 y') := ⟨_, rfl⟩
      have ht2 : Turn go w w2 := by rw [hw2]; exact ht.set _ _
      have hi2 : Ints w2 go 0 N (ovr (ovr G a ((l.length : Int) :: ws'.take (k + 1))) (a + 1 + l.length) p') := by
        have h1 := hi.put1 i hiN y'
        rw [← hw2, ovr_next _ _ _ _ _ _ _ (by simp only [List.length_cons, List.length_take]; omega) (by simp only [List.length_cons, List.length_nil]; omega), List.cons_append, ← g3] at h1
        exact h1
      have q2i : w2.cell? ⟨gw, i, none⟩ = some (.int .i64 y) := by rw [hw2, World.cell?_setCell_other (h := fun e => by simp only [Addr.mk.injEq] at e; omega)]; exact qi
      have HSC : Hid (Calls Try.prog 87 #[.slice (some ⟨gw, 0, none⟩) N cw, .slice (some ⟨go, 0, none⟩) N co, .int .i64 y, .int .i64 b] w2 (ShP w2 go N (ovr (ovr (ovr G a ((l.length : Int) :: ws'.take (k + 1))) (a + 1 + l.length) p') (a + 1 + l.length + p.length) m'))) :=
        HTI.out (a + 1 + l.length + p.length) b m m' y y' gw go N cw co F _ w2 hst (by omega) hN2 hb hn (Nat.lt_of_lt_of_le hgo ht2.size) (ht2.ints HF.out (by omega) hn) hi2 (fun j hj => by
          have h1 := HN2.out (p.length + j) (by omega)
          rw [← Nat.add_assoc] at h1
          rw [h1]
          simp only [hpq]
          rw [List.getElem_append_right (by omega), List.getElem_append_left (by omega)]
          congr 1
          omega)
      rw [ovr_app _ _ _ _ _ (by omega)] at HSC
      have HT2 : Hid (Turn go w w2) := ht2
      have HNXT : Hid (n2 = (p ++ m) ++ q2 ∧ n2' = (p' ++ m') ++ q2' ∧ (p' ++ m').length = (p ++ m).length ∧ ShL (l.drop (k + 1)) (a + 1 + l.length + (p ++ m).length) b (ws.drop (k + 1)) (ws'.drop (k + 1)) q2 q2') := ⟨by rw [List.append_assoc]; exact hpq, by rw [List.append_assoc]; exact hpq', by simp only [List.length_append]; omega, by rw [f2, g2, List.length_append, ← Nat.add_assoc]; exact hsr⟩
      have HLT : Hid (k < l.length) := hlt
      have V3 : IntKind.i64.wrap ((i : Int) + 1) = (i : Int) + 1 := by rw [IntKind.wrap_i64]; omega
      clear ht hi hi0 hk hlt hsh hst hsr ew ew' f1 f2 f3 g1 g2 g3 hFy hml hnl hmv hyle hpq hpq' hpl ed ht2 hi2 z1 z2 z3 hN hN2 hb hgo ha1
      go_wp2_with (first
        | (go_at_call 88; refine (HMV.out _).mono ?_; rintro e w' ⟨rfl, hw'⟩; obtain rfl := hw'.symm)
        | (go_at_call 87; fail))
      rw [← hw2]
      refine HSC.out.mono ?_
      rintro e w5 ⟨⟨v5, rfl⟩, ht5, hi5⟩
      have HT5 : Hid (Turn go w w5) := HT2.out.trans ht5
      have HI5 : Hid (Ints w5 go 0 N (ovr (ovr G a ((l.length : Int) :: ws'.take (k + 1))) (a + 1 + l.length) (p' ++ m'))) := hi5
      clear ht5 hi5 hw2
      go_wp2_with fail
      obtain ⟨hN, hN2, _, _, _⟩ := HN.out
      obtain ⟨hk1, hk2, hk3⟩ := HK.out
      have hlt1 := HLT.out
      have ha1 := HA1.out
      go_roundw
      case rel =>
        obtain ⟨x1, x2, x3, x4⟩ := HNXT.out
        exact ⟨k + 1, p ++ m, p' ++ m', q2, q2', by go_num, by omega, x1, x2, x3, x4, HT5.out, HI5.out⟩
      case measure => simp [intOf]; omega
    · have hiM : ¬ (i : Int) ≤ (M : Int) := by have := HM.out; omega
      have hkk : k = l.length := by omega
      have HFIN : Hid (Ints wr go 0 N (ovr G a ((l.length : Int) :: (ws' ++ n2')))) := by
        have h1 := hi
        rw [hkk, List.drop_of_length_le (Nat.le_refl _), ShL] at hsh
        obtain ⟨_, _, _, rfl⟩ := hsh
        rw [hkk, List.take_of_length_le (by omega), ovr_app _ _ _ _ _ (by simp only [List.length_cons]; omega)] at h1
        rw [hpq', List.append_nil]
        exact h1
      clear ht hi hi0 hk hlt hkk hsh hpq hpq' hpl
      go_wp2_with fail
      exact bodyPost_end (v := .tuple #[]) (by simp [results, Try.results87, go_sem]) rfl ⟨⟨_, rfl⟩, HT.out, HFIN.out⟩
end Go.Proofs.Ytabgfaafpgholaa
