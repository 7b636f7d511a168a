/-
  The specification's words for places further on: l6Moved, l6Shift.
  spec.l6Moved, spec.l6Shift.
-/
import Derived.Test.YtabgfaafpgholaaW11
import Derived.Test.YtabgfaafpgholaaW41
import Derived.Test.YtabgfaafpgholaaW4
import Derived.Test.YtabgfaafpgholaaY8
namespace Go.Proofs.Ytabgfaafpgholaa
open Go.RowKit
set_option linter.unusedVariables false

def mvW (x : Int) (b : Int) : Int := if inB (tagW x) 4 6 then mkw (tagW x) (valW x + b) else x
theorem tagW_le (x : Int) : 0 ≤ tagW x ∧ tagW x ≤ 7 := by unfold tagW; split <;> omega
theorem valW_le {x : Int} (h : x ≤ 9223372036854775807) : 0 ≤ valW x ∧ valW x ≤ 1152921504606846975 := by unfold valW; split <;> omega
set_option maxRecDepth 100000 in
theorem moved_any (x b : Int) (hx : x ≤ 9223372036854775807) (hb0 : 0 ≤ b) (hb : b ≤ 4000000) (w : World) :
    Calls Try.prog 88 #[.int .i64 x, .int .i64 b] w fun e w' => e = .returned (.int .i64 (mvW x b)) ∧ w' = w := by
  have HM : Hid (mvW x b = if inB (tagW x) 4 6 then mkw (tagW x) (valW x + b) else x) := by show _ = _; rfl
  have hv := valW_le hx
  have HX : Hid (x ≤ 9223372036854775807) := hx
  have V1 : IntKind.i64.wrap (valW x + b) = valW x + b := by rw [IntKind.wrap_i64]; omega
  clear hx hv hb0 hb
  cases h1 : inB (tagW x) 4 6
  · go_enter Try.func88, Try.ntmps88
    go_wp2_with (first
      | (go_at_call 115; refine (specTag_any _ _).mono ?_; rintro e w' ⟨rfl, hw'⟩; obtain rfl := hw'.symm)
      | (go_at_call 90; refine (in_any _ _ _ _).mono ?_; rintro e w' ⟨rfl, hw'⟩; obtain rfl := hw'.symm))
    go_ret
    exact ⟨ret_int (by rw [HM.out, h1]; rfl), rfl⟩
  · go_enter Try.func88, Try.ntmps88
    go_wp2_with (first
      | (go_at_call 115; refine (specTag_any _ _).mono ?_; rintro e w' ⟨rfl, hw'⟩; obtain rfl := hw'.symm)
      | (go_at_call 114; refine (specVal_any _ HX.out _).mono ?_; rintro e w' ⟨rfl, hw'⟩; obtain rfl := hw'.symm)
      | (go_at_call 66; refine (specMake_any _ _ _).mono ?_; rintro e w' ⟨rfl, hw'⟩; obtain rfl := hw'.symm)
      | (go_at_call 90; refine (in_any _ _ _ _).mono ?_; rintro e w' ⟨rfl, hw'⟩; obtain rfl := hw'.symm))
    go_ret
    exact ⟨ret_int (by rw [HM.out, h1]; rfl), rfl⟩
theorem mvW_mk {t : Int} {a b : Nat} (h : t = 4 ∨ t = 5 ∨ t = 6) (hab : a + b ≤ 4000000) : mvW (mkw t a) b = mkw t ((a + b : Nat) : Int) := by
  obtain ⟨e1, e2, _⟩ := mkw_back (t := t) (v := (a : Int)) (by omega) (by omega)
  unfold mvW
  rw [e1, e2, if_pos (by rcases h with rfl | rfl | rfl <;> decide)]
  rw [Int.natCast_add]
theorem mvW_leaf {x b : Int} (h : tagW x ≤ 3) : mvW x b = x := by
  unfold mvW
  rw [inB_no (by omega)]
  rfl
theorem ShT.moved {t : Tm} {a b : Nat} {ns ns' : List Int} {x x' : Int} (h : ShT t a b ns ns' x x') (hab : a + b ≤ 4000000) : mvW x b = x' ∧ x ≤ 32000006 := by
  obtain ⟨k, n, s, l⟩ := t
  rw [ShT] at h
  rcases h with ⟨_, _, rfl, rfl⟩ | ⟨_, _, _, _, _, _, _, rfl, rfl⟩ | ⟨_, _, _, _, _, _, _, _, rfl, rfl⟩ | ⟨_, _, rfl, h1, h2⟩
  · exact ⟨mvW_mk (by simp) hab, mkw_leQ _ _⟩
  · exact ⟨mvW_mk (by simp) hab, mkw_leQ _ _⟩
  · exact ⟨mvW_mk (by simp) hab, mkw_leQ _ _⟩
  · exact ⟨mvW_leaf h1, h2⟩
/-- What l6Shift is to do: ys stand from a on in the other row. -/
def ShP (w : World) (go N : Nat) (G : Nat → Int) (e : Ending) (w' : World) : Prop := (∃ v, e = .returned v) ∧ Turn go w w' ∧ Ints w' go 0 N G
def ShC (t : Tm) : Prop := ∀ (a b : Nat) (ns ns' : List Int) (x x' : Int) (gw go N cw co : Nat) (F G : Nat → Int) (w : World), ShT t a b ns ns' x x' → a + ns.length ≤ N → N ≤ 100000 → b ≤ 200000 → gw ≠ go → go < w.heap.size → Ints w gw 0 N F → Ints w go 0 N G → (∀ j (h : j < ns.length), F (a + j) = ns[j]) →
  Calls Try.prog 87 #[.slice (some ⟨gw, 0, none⟩) N cw, .slice (some ⟨go, 0, none⟩) N co, .int .i64 x, .int .i64 b] w (ShP w go N (ovr G a ns'))
def CoC (l : List Tm) : Prop := ∀ (c e b : Nat) (ws ws' ns ns' : List Int) (gw go N cw co : Nat) (F G : Nat → Int) (w : World), ShL l e b ws ws' ns ns' → c + 2 * l.length ≤ e → e + ns.length ≤ N → N ≤ 100000 → b ≤ 200000 → gw ≠ go → go < w.heap.size → Ints w gw 0 N F → Ints w go 0 N G → (∀ j (h : j < (consL ws c).length), F (c + j) = (consL ws c)[j]) → (∀ j (h : j < ns.length), F (e + j) = ns[j]) →
  Calls Try.prog 87 #[.slice (some ⟨gw, 0, none⟩) N cw, .slice (some ⟨go, 0, none⟩) N co, .int .i64 (mkw 5 c), .int .i64 b] w (ShP w go N (ovr (ovr G c (consL ws' (c + b))) e ns'))
set_option maxRecDepth 100000 in
theorem shift_leaf (x : Int) (b : Nat) (h : tagW x ≤ 3) (hx : x ≤ 32000006) (gw go N cw co : Nat) (w : World) :
    Calls Try.prog 87 #[.slice (some ⟨gw, 0, none⟩) N cw, .slice (some ⟨go, 0, none⟩) N co, .int .i64 x, .int .i64 b] w fun e w' => (∃ v, e = .returned v) ∧ w' = w := by
  have HV : Hid (x ≤ 9223372036854775807) := by show _ ≤ _; omega
  have h4 : (tagW x == 4) = false := by rw [beq_eq_false_iff_ne]; omega
  have h5 : (tagW x == 5) = false := by rw [beq_eq_false_iff_ne]; omega
  have h6 : (tagW x == 6) = false := by rw [beq_eq_false_iff_ne]; omega
  clear h hx
  go_enter Try.func87, Try.ntmps87
  go_wp2_with (first
    | (go_at_call 115; refine (specTag_any _ _).mono ?_; rintro e w' ⟨rfl, hw'⟩; obtain rfl := hw'.symm)
    | (go_at_call 114; refine (specVal_any _ HV.out _).mono ?_; rintro e w' ⟨rfl, hw'⟩; obtain rfl := hw'.symm))
  exact bodyPost_end (v := .tuple #[]) (by simp [results, Try.results87, go_sem]) rfl ⟨⟨_, rfl⟩, rfl⟩

/-- The row so far, and what it is in a step. -/
theorem Ints.put1 {w : World} {go N : Nat} {G : Nat → Int} (h : Ints w go 0 N G) (i : Nat) (hi : i < N) (x : Int) : Ints (w.setCell ⟨go, i, none⟩ (.int .i64 x)) go 0 N (ovr G i [x]) := by
  have h1 := h.set i hi x
  rw [Nat.zero_add] at h1
  exact h1.congr (fun j _ => by rw [ovr_one]; rfl)
theorem Ints.at1 {w : World} {g N : Nat} {F : Nat → Int} (h : Ints w g 0 N F) {i : Nat} (hi : i < N) : w.cell? ⟨g, i, none⟩ = some (.int .i64 (F i)) := by
  have h1 := h.cell i hi
  rw [Nat.zero_add] at h1
  exact h1
theorem Turn.ints {gw go N : Nat} {F : Nat → Int} {w w' : World} (t : Turn go w w') (h : Ints w gw 0 N F) (hN : 0 < N) (hn : gw ≠ go) : Ints w' gw 0 N F := h.turn t hn (h.lt hN)
set_option maxHeartbeats 4000000 in
set_option maxRecDepth 100000 in
/-- A text. -/
theorem shift_bin (s : ByteArray) (a b : Nat) (gw go N cw co : Nat) (F G : Nat → Int) (w : World) (hN : a + (1 + s.size) ≤ N) (hN2 : N ≤ 100000) (hn : gw ≠ go) (hgo : go < w.heap.size) (hF : Ints w gw 0 N F) (hG : Ints w go 0 N G) (hw : ∀ j (h : j < ((s.size : Int) :: bytesI s).length), F (a + j) = ((s.size : Int) :: bytesI s)[j]) :
    Calls Try.prog 87 #[.slice (some ⟨gw, 0, none⟩) N cw, .slice (some ⟨go, 0, none⟩) N co, .int .i64 (mkw 6 a), .int .i64 b] w (ShP w go N (ovr G a ((s.size : Int) :: bytesI s))) := by
  obtain ⟨e1, e2, _⟩ := mkw_back (t := 6) (v := (a : Int)) (by omega) (by omega)
  obtain ⟨ns, hns⟩ : ∃ ns, ns = (s.size : Int) :: bytesI s := ⟨_, rfl⟩
  have hln : ns.length = 1 + s.size := by rw [hns, List.length_cons, bytesI_len]; omega
  have h0 : F a = (s.size : Int) := by have := hw 0 (by simp); simpa using this
  rw [← hns] at hw ⊢
  have hle := mkw_leQ 6 a
  generalize mkw 6 (a : Int) = X at *
  have HTG : Hid (∀ w, Calls Try.prog 115 #[.int .i64 X] w fun e w' => e = .returned (.int .i64 6) ∧ w' = w) := fun w => by rw [← e1]; exact specTag_any X w
  have HVL : Hid (∀ w, Calls Try.prog 114 #[.int .i64 X] w fun e w' => e = .returned (.int .i64 a) ∧ w' = w) := fun w => by rw [← e2]; exact specVal_any X (by omega) w
  have HF : Hid (Ints w gw 0 N F) := hF
  have HG : Hid (Ints w go 0 N G) := hG
  have HW : Hid (∀ j (h : j < ns.length), F (a + j) = ns[j]) := hw
  have HN : Hid (a + (1 + s.size) ≤ N ∧ N ≤ 100000 ∧ gw ≠ go ∧ ns.length = 1 + s.size) := ⟨hN, hN2, hn, hln⟩
  have q0 : w.cell? ⟨gw, a, none⟩ = some (.int .i64 (s.size : Int)) := by rw [← h0]; exact hF.at1 (by omega)
  have HQ0 : Hid (w.cell? ⟨gw, a, none⟩ = some (.int .i64 (s.size : Int))) := q0
  obtain ⟨M, hM⟩ : ∃ M : Nat, M = a + s.size := ⟨_, rfl⟩
  have V1 : IntKind.i64.wrap ((a : Int) + (s.size : Int)) = (M : Int) := by rw [IntKind.wrap_i64]; omega
  have HM : Hid (M = a + s.size) := hM
  clear hF hG hw hln h0 e1 e2 hle hns q0 hM
  go_enter Try.func87, Try.ntmps87
  go_wp2_with (first
    | (go_at_call 115; refine (HTG.out _).mono ?_; rintro e w' ⟨rfl, hw'⟩; obtain rfl := hw'.symm)
    | (go_at_call 114; refine (HVL.out _).mono ?_; rintro e w' ⟨rfl, hw'⟩; obtain rfl := hw'.symm))
  go_loopw [9] (fun i wr => ∃ k : Nat, i = .int .i64 ((a + k : Nat) : Int) ∧ k ≤ 1 + s.size ∧ Turn go w wr ∧ Ints wr go 0 N (ovr G a (ns.take k))) (fun i _ => a + 1 + s.size - (intOf i).toNat)
  case atStart => exact ⟨0, by simp, Nat.zero_le _, Turn.refl _ _, by rw [List.take_zero, ovr_nil]; exact HG.out⟩
  case round =>
    obtain ⟨k, rfl, hk, ht, hi⟩ := hrel
    have HT : Hid (Turn go w wr) := ht
    have HI : Hid (Ints wr go 0 N (ovr G a (ns.take k))) := hi
    obtain ⟨hN, hN2, hn, hln⟩ := HN.out
    have qr := ht.cell hn HQ0.out
    obtain ⟨i, hi0⟩ : ∃ i, i = a + k := ⟨_, rfl⟩
    rw [← hi0]
    have HK : Hid (i = a + k ∧ k ≤ 1 + s.size) := ⟨hi0, hk⟩
    by_cases hlt : k < 1 + s.size
    · have hiM : (i : Int) ≤ (M : Int) := by have := HM.out; omega
      have hiN : i < N := by omega
      have haN : a < N := by omega
      have qi : wr.cell? ⟨gw, i, none⟩ = some (.int .i64 (F i)) := (ht.ints HF.out (by omega) hn).at1 hiN
      have qo := hi.at1 hiN
      have fo := hi.free i
      have HNX : Hid (Ints (wr.setCell ⟨go, i, none⟩ (.int .i64 (F i))) go 0 N (ovr G a (ns.take (k + 1)))) := by
        have h1 := hi.put1 i hiN (F i)
        have e : F i = ns[k]'(by omega) := by rw [hi0]; exact HW.out k (by omega)
        rw [ovr_app _ _ _ _ _ (by rw [List.length_take]; omega), e] at h1
        rw [List.take_succ_eq_append_getElem (by omega), e]
        exact h1
      have HTX : Hid (∀ v, Turn go w (wr.setCell ⟨go, i, none⟩ v)) := fun v => ht.set i v
      have HLT : Hid (k < 1 + s.size) := hlt
      clear ht hi hi0 hk hlt
      generalize F i = y at *
      go_wp2_with fail
      go_roundw
      case rel => exact ⟨k + 1, by have := HK.out.1; go_num, by have := HLT.out; omega, HTX.out _, HNX.out⟩
      case measure => simp [intOf]; have := HK.out.1; have := HLT.out; omega
    · have hiM : ¬ (i : Int) ≤ (M : Int) := by have := HM.out; omega
      have hkk : k = 1 + s.size := by omega
      have HFIN : Hid (Ints wr go 0 N (ovr G a ns)) := by
        have h1 := hi
        rw [List.take_of_length_le (by omega)] at h1
        exact h1
      have haN : a < N := by omega
      clear ht hi hi0 hk hlt hkk
      go_wp2_with fail
      exact bodyPost_end (v := .tuple #[]) (by simp [results, Try.results87, go_sem]) rfl ⟨⟨_, rfl⟩, HT.out, HFIN.out⟩
end Go.Proofs.Ytabgfaafpgholaa
