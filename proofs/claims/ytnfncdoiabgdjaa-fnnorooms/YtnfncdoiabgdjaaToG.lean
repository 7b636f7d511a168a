/-
  The specification's SameTerm: two terms are the same just if they are one.
-/
import Derived.Test.YtnfncdoiabgdjaaTmB
import Derived.Deep.RegionWith
import Derived.BigQuiet
namespace Go.Proofs.Ytnfncdoiabgdjaa
open Go.RowKit
set_option linter.unusedVariables false

def SmT (t : Tm) : Prop := ∀ (t' : Tm) (q : Bool), (q = true ↔ t = t') → ∀ (B : Nat) (w : World) (v v' : Value), RepV B w t v → RepV B w t' v' →
  Calls Try.prog 19 #[v, v'] w fun e w' => e = .returned (.bool q) ∧ Below w.heap.size w w'

theorem RepV.drew2 {B : Nat} {w : World} {t : Tm} {v : Value} (h : RepV B w t v) : RepV B w.drew t v :=
  (Keeps.below (Below.drew (Below.refl _ _)) B).repV h

set_option maxHeartbeats 4000000 in
theorem smT_of (k n : Int) (s : ByteArray) (l : List Tm) (ih : ∀ t, t ∈ l → SmT t) : SmT (.mk k n s l) := by
  intro t' q hq B w v v' hv hv'
  obtain ⟨k', n', s', l'⟩ := t'
  obtain ⟨ao, cap, rfl, hs, hl, hc, hr⟩ := hv
  obtain ⟨ao', cap', rfl, hs', hl', hc', hr'⟩ := hv'
  have IH : Hid (∀ t, t ∈ l → SmT t) := ih
  have HR : Hid (RepL B w l ao ∧ RepL B w l' ao') := ⟨hr, hr'⟩
  have HQ : Hid (q = true ↔ Tm.mk k n s l = Tm.mk k' n' s' l') := hq
  have HB2 : Hid (∀ a b, Below w.heap.size w ((w.alloc a).alloc b)) := fun a b => ((Below.refl _ _).alloc (Nat.le_refl _) _).alloc (by simp) _
  clear ih hr hr' hq
  unfold maxLen at hs hs' hc hc'
  have HF : Hid ((Tm.mk k n s l ≠ Tm.mk k' n' s' l') → q = false) := fun h => by
    cases q
    · rfl
    · exact absurd (HQ.out.1 rfl) h
  by_cases h1 : k = k'
  rotate_left
  · have e1 : (k == k') = false := beq_eq_false_iff_ne.2 h1
    have HE : Hid (q = false) := HF.out (fun h => by cases h; exact h1 rfl)
    go_enter Try.func19, Try.ntmps19
    go_wp2_with fail
    go_ret
    exact ⟨by rw [HE.out]; rfl, HB2.out _ _⟩
  subst h1
  by_cases h2 : n = n'
  rotate_left
  · have e1 : (n == n') = false := beq_eq_false_iff_ne.2 h2
    have HE : Hid (q = false) := HF.out (fun h => by cases h; exact h2 rfl)
    go_enter Try.func19, Try.ntmps19
    go_wp2_with fail
    go_ret
    exact ⟨by rw [HE.out]; rfl, HB2.out _ _⟩
  subst h2
  by_cases h3 : s.toList = s'.toList
  rotate_left
  · have e1 : (s.toList == s'.toList) = false := beq_eq_false_iff_ne.2 h3
    have HE : Hid (q = false) := HF.out (fun h => by cases h; exact h3 rfl)
    go_enter Try.func19, Try.ntmps19
    go_wp2_with fail
    go_ret
    exact ⟨by rw [HE.out]; rfl, HB2.out _ _⟩
  have h3' : s = s' := by
    rw [ByteArray.toList_eq, ByteArray.toList_eq] at h3
    obtain ⟨⟨a⟩⟩ := s
    obtain ⟨⟨b⟩⟩ := s'
    have : a = b := h3
    rw [this]
  subst h3'
  clear h3
  by_cases h4 : l.length = l'.length
  rotate_left
  · have e1 : ((l.length : Int) == (l'.length : Int)) = false := beq_eq_false_iff_ne.2 (by omega)
    have HE : Hid (q = false) := HF.out (fun h => by cases h; exact h4 rfl)
    go_enter Try.func19, Try.ntmps19
    go_wp2_with fail
    go_ret
    exact ⟨by rw [HE.out]; rfl, HB2.out _ _⟩
  obtain ⟨N, hN⟩ : ∃ N, N = l.length := ⟨_, rfl⟩
  have HN : Hid (N = l.length ∧ N = l'.length) := ⟨hN, hN.trans h4⟩
  rw [← h4]
  rw [← h4] at hl'
  rw [← hN] at hl hl' ⊢
  clear h4 hN
  obtain ⟨W0, hW0⟩ : ∃ W0, W0 = (w.alloc (.cells #[.int .i64 k, .int .i64 n, .string s, .slice ao N cap] 29)).alloc (.cells #[.int .i64 k, .int .i64 n, .string s, .slice ao' N cap'] 29) := ⟨_, rfl⟩
  have HW : Hid (Below w.heap.size w W0 ∧ (∀ wc, Below W0.heap.size W0 wc → wc.cell? ⟨w.heap.size, 3, none⟩ = some (.slice ao N cap) ∧ wc.cell? ⟨w.heap.size + 1, 3, none⟩ = some (.slice ao' N cap'))) := by
    have hz : W0.heap.size = w.heap.size + 2 := by rw [hW0]; simp
    refine ⟨by rw [hW0]; exact HB2.out _ _, fun wc hb => ⟨?_, ?_⟩⟩
    · rw [hb.cell (p := ⟨w.heap.size, 3, none⟩) (by show w.heap.size < _; omega), hW0, World.cell?_alloc_lt _ _ _ (by simp), World.cell?_alloc_new]; rfl
    · rw [hb.cell (p := ⟨w.heap.size + 1, 3, none⟩) (by show w.heap.size + 1 < _; omega), hW0]
      have e : w.heap.size + 1 = (w.alloc (.cells #[.int .i64 k, .int .i64 n, .string s, .slice ao N cap] 29)).heap.size := by simp
      rw [e, World.cell?_alloc_new]; rfl
  go_enter Try.func19, Try.ntmps19
  go_wp2_with fail
  rw [← hW0]
  clear hW0
  obtain ⟨X, hX⟩ : ∃ X, X = w.heap.size := ⟨_, rfl⟩
  have HX : Hid (X = w.heap.size) := hX
  rw [← hX] at HW ⊢
  clear hX
  go_loopw [5] (fun i wr => ∃ j : Nat, j ≤ N ∧ i = .int .i64 j ∧ Below W0.heap.size W0 wr ∧ l.take j = l'.take j) (fun i _ => N - (intOf i).toNat)
  case atStart => exact ⟨0, Nat.zero_le _, rfl, Below.refl _ _, rfl⟩
  case round =>
    obtain ⟨j, hj, rfl, hb, htk⟩ := hrel
    have HB : Hid (Below W0.heap.size W0 wr) := hb
    have HTK : Hid (l.take j = l'.take j) := htk
    have HBW : Hid (Below w.heap.size w wr) := by
      have h1 := HW.out.1
      rw [HX.out] at h1
      exact h1.trans (hb.mono h1.size)
    have x3 := (HW.out.2 wr hb).1
    have y3 := (HW.out.2 wr hb).2
    clear hb htk
    by_cases hlt : j < N
    · have hlt1 : j < l.length := by have := HN.out.1; omega
      have hlt2 : j < l'.length := by have := HN.out.2; omega
      obtain ⟨b, off, rfl, hB, ht⟩ := RepL.at l ao ((Keeps.below HBW.out B).repL _ _ HR.out.1) j hlt1
      obtain ⟨b', off', rfl, hB', ht'⟩ := RepL.at l' ao' ((Keeps.below HBW.out B).repL _ _ HR.out.2) j hlt2
      obtain ⟨tk, tn, ts, tao, tlen, tcap, c0, c1, c2, c3, hv⟩ := ht.cells
      obtain ⟨tk', tn', ts', tao', tlen', tcap', c0', c1', c2', c3', hv'⟩ := ht'.cells
      have HV : Hid (RepV B wr l[j] (.agg #[.int .i64 tk, .int .i64 tn, .string ts, .slice tao tlen tcap])) := hv
      have HV' : Hid (RepV B wr l'[j] (.agg #[.int .i64 tk', .int .i64 tn', .string ts', .slice tao' tlen' tcap'])) := hv'
      clear hv ht hv' ht'
      by_cases hsame : l[j] = l'[j]
      · have HT : Hid (∀ w v v', RepV B w l[j] v → RepV B w l'[j] v' → Calls Try.prog 19 #[v, v'] w fun e w' => e = .returned (.bool true) ∧ Below w.heap.size w w') := fun w v v' => IH.out _ (List.getElem_mem hlt1) l'[j] true ⟨fun _ => hsame, fun _ => rfl⟩ B w v v'
        have HTK2 : Hid (l.take (j + 1) = l'.take (j + 1)) := by
          show _ = _
          rw [List.take_succ_eq_append_getElem hlt1, List.take_succ_eq_append_getElem hlt2, HTK.out, hsame]
        clear hsame
        go_wp2_with fail
        go_region_with (go_at_call 19; refine (HT.out _ _ _ ?_ ?_).mono ?_; exact HV.out.drew2; exact HV'.out.drew2; rintro e w1 ⟨rfl, hb1⟩)
        all_goals
          have HB1 : Hid (Below W0.heap.size W0 w1) := (HB.out.drew).trans (hb1.mono HB.out.size)
          clear hb1
          go_wp2_with fail
          go_roundw
          case rel => exact ⟨j + 1, by omega, by go_num, HB1.out, HTK2.out⟩
          case measure => simp [intOf]; omega
      · have HT : Hid (∀ w v v', RepV B w l[j] v → RepV B w l'[j] v' → Calls Try.prog 19 #[v, v'] w fun e w' => e = .returned (.bool false) ∧ Below w.heap.size w w') := fun w v v' => IH.out _ (List.getElem_mem hlt1) l'[j] false (Iff.intro (fun h => absurd h (by decide)) (fun h => absurd h hsame)) B w v v'
        have HE : Hid (q = false) := HF.out (fun h => hsame (by cases h; rfl))
        clear hsame
        go_wp2_with fail
        go_region_with (go_at_call 19; refine (HT.out _ _ _ ?_ ?_).mono ?_; exact HV.out.drew2; exact HV'.out.drew2; rintro e w1 ⟨rfl, hb1⟩)
        all_goals
          have HB1 : Hid (Below w.heap.size w w1) := (HBW.out.drew).trans (hb1.mono HBW.out.size)
          clear hb1
          go_wp2_with fail
          go_ret
          exact ⟨by rw [HE.out]; rfl, HB1.out⟩
    · have HE : Hid (q = true) := HQ.out.2 (by
        have h1 : l = l' := by
          have := HTK.out
          rw [List.take_of_length_le (by have := HN.out.1; omega), List.take_of_length_le (by have := HN.out.2; omega)] at this
          exact this
        rw [h1])
      go_wp2_with fail
      go_ret
      exact ⟨by rw [HE.out]; rfl, HBW.out⟩
theorem smT_all : ∀ t, SmT t := Tm.ind fun k n s l ih => smT_of k n s l ih
end Go.Proofs.Ytnfncdoiabgdjaa
