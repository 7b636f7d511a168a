/-
  What the law FnAtoms does.
-/
import Derived.Test.YtikedjdjfncgkaaAtD
namespace Go.Proofs.Ytikedjdjfncgkaa
open Go.RowKit
set_option linter.unusedVariables false

set_option maxHeartbeats 1000000 in
theorem sameT_same (ao bo : Nat) (ca cb : Nat) (L : List ByteArray) (w : World) (ha : Txt w ao 0 L) (hb : Txt w bo 0 L) (hN : L.length ≤ 1048577) :
    Calls Try.prog 35 #[.slice (some ⟨ao, 0, none⟩) L.length ca, .slice (some ⟨bo, 0, none⟩) L.length cb] w fun e w' => e = .returned (.bool true) ∧ Below w.heap.size w w' := by
  have HA : Hid (Txt w ao 0 L) := ha
  have HB : Hid (Txt w bo 0 L) := hb
  clear ha hb
  go_enter Try.func35, Try.ntmps35
  go_wp2_with fail
  go_loopw [5] (fun i w' => ∃ m : Nat, m ≤ L.length ∧ i = .int .i64 m ∧ Below w.heap.size w w') (fun i _ => L.length - (intOf i).toNat)
  case atStart => exact ⟨0, Nat.zero_le _, by simp, Below.refl _ _⟩
  case round =>
    obtain ⟨m, hm, rfl, hbl⟩ := hrel
    have HBL : Hid (Below w.heap.size w wr) := hbl
    by_cases hlt : m < L.length
    · have q1 := HA.out.below hbl m hlt
      have q2 := HB.out.below hbl m hlt
      rw [Nat.zero_add] at q1 q2
      clear hbl
      generalize L[m] = x at *
      go_wp2_with fail
      go_quiet (fail)
      go_wp2_with fail
      go_roundw
      case rel => exact ⟨m + 1, by omega, by go_num, by first | exact HBL.out.drew | exact below_drewN HBL.out _⟩
      case measure => simp [intOf]; omega
    · clear hbl
      go_wp2_with fail
      go_ret
      exact ⟨rfl, HBL.out⟩

theorem Txt.pre {w : World} {b o : Nat} {L T : List ByteArray} (h : Txt w b o (L ++ T)) : Txt w b o L := fun j hj => by
  have := h j (by simp; omega)
  rw [List.getElem_append_left hj] at this
  exact this
theorem idx_end {L : List ByteArray} {s : ByteArray} (h : idx L s = -1) : idx (L ++ [s]) s = L.length := by
  rcases idx_cases L s with ⟨_, h2⟩ | ⟨m, _, h1, _⟩
  · exact idx_at L.length (by simp) (by simp) (fun j hj => by rw [List.getElem_append_left hj]; exact h2 j hj)
  · omega
/-- What is added, and added again. -/
theorem atom_facts (L : List ByteArray) (s : ByteArray) (ha : AllA L) :
    (addK L s < 0 ∧ addL L s = L ∧ addK L s = -1) ∨
    (0 ≤ addK L s ∧ idx (addL L s) s = addK L s ∧ addK (addL L s) s = addK L s ∧ addL (addL L s) s = addL L s ∧ Atom.atomB s = true ∧ ∃ T, addL L s = L ++ T) := by
  cases hs : adds L s with
  | true =>
    have h := hs
    simp only [adds, Bool.and_eq_true, decide_eq_true_eq] at h
    have e1 : addL L s = L ++ [s] := by unfold addL; rw [hs, if_pos rfl]
    have e2 : addK L s = L.length := by unfold addK; rw [hs, if_pos rfl]
    have e3 := idx_end h.1.1
    have e4 : adds (L ++ [s]) s = false := adds_no1 (by omega)
    refine .inr ⟨by omega, by rw [e1, e2, e3], ?_, ?_, h.1.2, [s], e1⟩
    · rw [e1, e2]; unfold addK; rw [e4, if_neg (by simp), e3]
    · rw [e1]; conv => lhs; unfold addL
      rw [e4, if_neg (by simp)]
  | false =>
    have e1 : addL L s = L := by unfold addL; rw [hs, if_neg (by simp)]
    have e2 : addK L s = idx L s := by unfold addK; rw [hs, if_neg (by simp)]
    have hg := idx_ge L s
    by_cases h0 : 0 ≤ idx L s
    · refine .inr ⟨by omega, by rw [e1, e2], by rw [e1], by rw [e1, e1], ha s (idx_mem h0), [], by rw [e1, List.append_nil]⟩
    · exact .inl ⟨by omega, e1, by omega⟩

set_option maxHeartbeats 4000000 in
set_option maxRecDepth 100000 in
theorem atoms_walk (w : World) (ao : Option Addr) (len cap : Nat) (zs : List Int) (hr : IsRow w ao len cap zs) (hlc : len ≤ cap) (hcm : cap ≤ maxLen) :
    Calls Try.prog 6 #[.slice ao len cap] w fun e w' => e = .returned (.bool true) ∧ Below w.heap.size w w' := by
  have HR : Hid (IsRow w ao len cap zs) := hr
  have HL : Hid (len ≤ maxLen) := Nat.le_trans hlc hcm
  clear hr
  by_cases hbig : 1048576 < len
  · go_enter Try.func6, Try.ntmps6
    go_wp2_with fail
    refine (big_any ao len cap HL.out _).mono ?_
    rintro e w1 ⟨rfl, rfl⟩
    go_wp2_with fail
    go_ret
    exact ⟨rfl, Below.refl _ _⟩
  · have HSM : Hid (len ≤ 1048576) := by show _ ≤ _; omega
    go_enter Try.func6, Try.ntmps6
    go_wp2_with fail
    refine (big_any ao len cap HL.out _).mono ?_
    rintro e w1 ⟨rfl, rfl⟩
    go_wp2_with fail
    refine (drawAdd_any _ ao len cap zs HR.out HSM.out).mono ?_
    rintro e w2 ⟨v2, L, s, rfl, ⟨g, cc, rfl, ho2⟩, ha2, hl2, hs2, hb2⟩
    have HT2 : Hid (Txt w2 g 0 L ∧ g < w2.heap.size) := ⟨(own_txt ho2).1, (own_txt ho2).2.2.1⟩
    have HB2 : Hid (Below w1.heap.size w1 w2) := hb2
    have HS : Hid (s.size ≤ maxLen) := hs2
    have HF := atom_facts L s ha2
    have HLM := addL_len L s
    have HLM2 := addL_len (addL L s) s
    clear hb2 hs2 ho2 hbig hlc hcm HL ha2
    have hL6 : L.length ≤ 1048576 := by omega
    have HLL : Hid (L.length ≤ 200) := hl2
    go_wp2_with fail
    refine (implAdd_any g 0 cc L s w2 HT2.out.1 hL6 HS.out).mono ?_
    rintro e w3 ⟨v3, rfl, ⟨g3, c3, rfl, ho3⟩, hb3⟩
    have hM6 : (addL L s).length ≤ 1048576 := by omega
    have HT3 : Hid (Txt w3 g3 0 (addL L s) ∧ Txt w3 g 0 L ∧ Below w1.heap.size w1 w3 ∧ (addL L s).length ≤ c3) := by
      refine ⟨(own_txt ho3).1, HT2.out.1.below hb3, HB2.out.trans (hb3.mono HB2.out.size), ?_⟩
      rcases ho3.2 with ⟨h, _⟩ | ⟨_, cap', _, h, _, _, hle, _⟩
      · cases h
      · cases h; exact hle
    have HZ3 : Hid (w2.heap.size ≤ w3.heap.size) := hb3.size
    clear ho3 hb3
    obtain ⟨M, hM⟩ : ∃ M, addL L s = M := ⟨_, rfl⟩
    obtain ⟨K, hK⟩ : ∃ K, addK L s = K := ⟨_, rfl⟩
    have HK : Hid (addK L s = K) := hK
    rw [hM] at HF HLM HLM2 HT3 hM6 ⊢
    rw [hK] at HF ⊢
    clear hM hK
    go_wp2_with fail
    refine (implAdd_any g3 0 c3 M s w3 HT3.out.1 hM6 HS.out).mono ?_
    rintro e w4 ⟨v4, rfl, ⟨g4, c4, rfl, ho4⟩, hb4⟩
    have HT4 : Hid (Txt w4 g4 0 (addL M s) ∧ Txt w4 g3 0 M ∧ Txt w4 g 0 L ∧ Below w1.heap.size w1 w4 ∧ M.length ≤ c3) := ⟨(own_txt ho4).1, HT3.out.1.below hb4, HT3.out.2.1.below hb4, HT3.out.2.2.1.trans (hb4.mono HT3.out.2.2.1.size), HT3.out.2.2.2⟩
    have HZ4 : Hid (w2.heap.size ≤ w4.heap.size) := Nat.le_trans HZ3.out hb4.size
    clear ho4 hb4
    obtain ⟨M2, hM2⟩ : ∃ M2, addL M s = M2 := ⟨_, rfl⟩
    obtain ⟨K2, hK2⟩ : ∃ K2, addK M s = K2 := ⟨_, rfl⟩
    rw [hM2] at HF HLM2 HT4 ⊢
    rw [hK2] at HF ⊢
    clear hM2 hK2 HT3
    go_wp2_with fail
    refine (specAdd_any g 0 cc L s w4 HT4.out.2.2.1 hL6 HS.out (fun _ => Nat.lt_of_lt_of_le HT2.out.2 HZ4.out)).mono ?_
    rintro e w5 ⟨v5, rfl, ⟨g5, c5, rfl, ho5⟩, hb5⟩
    rw [HK.out]
    have HT5 : Hid (Txt w5 g4 0 M2 ∧ Txt w5 g3 0 M ∧ Txt w5 g 0 L ∧ Below w1.heap.size w1 w5) := ⟨HT4.out.1.below hb5, HT4.out.2.1.below hb5, HT4.out.2.2.1.below hb5, HT4.out.2.2.2.1.trans (hb5.mono HT4.out.2.2.2.1.size)⟩
    have hMc := HT4.out.2.2.2.2
    clear ho5 hb5 HT4
    generalize (addL L s).length = l5
    rcases HF with ⟨h0, h1, h2⟩ | ⟨h0, h1, h2, h3, h4, T, h5⟩
    · subst h1 h2
      go_wp2_with fail
      refine (sameT_same g3 g c3 cc M w5 HT5.out.2.1 HT5.out.2.2.1 (by omega)).mono ?_
      rintro e w6 ⟨rfl, hb6⟩
      have HB6 : Hid (Below w1.heap.size w1 w6) := HT5.out.2.2.2.trans (hb6.mono HT5.out.2.2.2.size)
      clear hb6
      go_wp2_with fail
      go_ret
      exact ⟨rfl, HB6.out⟩
    · subst h2 h3
      have HP : Hid (Txt w5 g3 0 L) := by
        have h := HT5.out.2.1
        rw [h5] at h
        exact h.pre
      have hLM : L.length ≤ M2.length := by rw [h5]; simp
      have HI : Hid (idx M2 s = K2) := h1
      have HA : Hid (Atom.atomB s = true) := h4
      clear h1 h4 h5
      go_wp2_with fail
      refine (implAtomAt_any g3 0 c3 M2 s w5 HT5.out.2.1 hM6).mono ?_
      rintro e w6 ⟨rfl, rfl⟩
      rw [HI.out]
      go_wp2_with fail
      refine (sameT_same g3 g4 c3 c4 M2 w6 HT5.out.2.1 HT5.out.1 (by omega)).mono ?_
      rintro e w7 ⟨rfl, hb7⟩
      have HT7 : Hid (Txt w7 g3 0 L ∧ Txt w7 g 0 L ∧ Below w1.heap.size w1 w7) := ⟨HP.out.below hb7, HT5.out.2.2.1.below hb7, HT5.out.2.2.2.trans (hb7.mono HT5.out.2.2.2.size)⟩
      clear hb7
      go_wp2_with fail
      refine (sameT_same g3 g c3 cc L w7 HT7.out.1 HT7.out.2.1 (by omega)).mono ?_
      rintro e w8 ⟨rfl, hb8⟩
      have HB8 : Hid (Below w1.heap.size w1 w8) := HT7.out.2.2.trans (hb8.mono HT7.out.2.2.size)
      clear hb8
      go_wp2_with fail
      refine (Atom.impl_any _ _ HS.out).mono ?_
      rintro e w9 ⟨rfl, hw9⟩
      rw [HA.out]
      have HB9 : Hid (Below w1.heap.size w1 w9) := by
        rcases hw9 with rfl | ⟨pos, rfl⟩
        · exact HB8.out
        · exact HB8.out.alloc HB8.out.size _
      clear hw9
      go_wp2_with fail
      go_ret
      exact ⟨rfl, HB9.out⟩
end Go.Proofs.Ytikedjdjfncgkaa
