/-
  The specification's InsText: it answers textI.
-/
import Derived.Test.YtgdlkekjbdkjjaaGreatDoorCtA
import Derived.Test.YtgdlkekjbdkjjaaGreatDoorNtA
namespace Go.Proofs.YtgdlkekjbdkjjaaGreatDoor.Code
open Go.RowKit
set_option linter.unusedVariables false

theorem names_any (w : World) :
    Calls Tryz.prog 45 #[] w fun e w' => e = .returned (.slice (some ⟨w.heap.size, 0, none⟩) 20 20) ∧ Below w.heap.size w w' ∧ w'.heap.size = w.heap.size + 1 ∧ ∀ k, k < 20 → w'.cell? ⟨w.heap.size, k, none⟩ = some (.string (wordT (k + 1))) := by
  go_enter Tryz.func45, Tryz.ntmps45
  go_wp2
  go_ret
  refine ⟨rfl, (Below.refl _ w).alloc (Nat.le_refl _) _, by simp, fun k hk => ?_⟩
  rw [World.cell?_alloc_new]
  rcases below20 hk with rfl | rfl | rfl | rfl | rfl | rfl | rfl | rfl | rfl | rfl | rfl | rfl | rfl | rfl | rfl | rfl | rfl | rfl | rfl | rfl <;> rfl

theorem num2_any (n : Int) (h0 : -9223372036854775808 ≤ n) (h1 : n ≤ 9223372036854775807) (w : World) :
    Calls Tryz.prog 63 #[.int .i64 n] w fun e w' => e = .returned (.string ⟨(Lib.itoa n).toArray⟩) ∧ Below w.heap.size w w' := by
  by_cases hn : n = -9223372036854775808
  · subst hn
    have HI : Hid (Lib.itoa (-9223372036854775808) = [45, 57, 50, 50, 51, 51, 55, 50, 48, 51, 54, 56, 53, 52, 55, 55, 53, 56, 48, 56]) := by show _ = _; decide +kernel
    go_enter Tryz.func63, Tryz.ntmps63
    go_wp2
    go_ret
    exact ⟨by rw [HI.out]; rfl, Below.refl _ _⟩
  · have HN : Hid (-9223372036854775807 ≤ n) := by show _ ≤ _; omega
    have hn' : (n == -9223372036854775808) = false := by simpa using hn
    clear h0 hn
    have H1 : Hid (n ≤ 9223372036854775807) := h1
    clear h1
    go_enter Tryz.func63, Tryz.ntmps63
    go_wp2_with (go_at_call 83; refine (Num.l1Num_any n HN.out H1.out _).mono ?_; rintro e w1 ⟨rfl, hb1⟩; have HB : Hid (Below _ _ w1) := hb1; clear hb1)
    go_ret
    exact ⟨rfl, HB.out⟩

/-- What the loop over the letters has in hand. -/
structure Le (w wr : World) (B : Nat) (x : I) : Prop where
  bel : Below w.heap.size w wr
  box : Bx6 wr B 0 x
theorem Le.below {w wr w' : World} {B : Nat} {x : I} (h : Le w wr B x) (hb : Below wr.heap.size wr w') : Le w w' B x := ⟨h.bel.trans (hb.mono h.bel.size), h.box.below hb⟩

theorem useT_at (k j : Nat) (h : j < (useT k).size) : (useT k)[j] = (uses k)[j]'(by simpa [useT, ByteArray.size] using h) := by
  simp [useT, ByteArray.getElem_eq_getElem_data]
theorem useT_size (k : Nat) : (useT k).size = (uses k).length := by simp [useT, ByteArray.size]

set_option maxHeartbeats 2000000 in
theorem specText_any (op a b c n : Int) (s : ByteArray) (w : World) (hs : s.size ≤ 1048576) (hI : In64 ⟨op, a, b, c, n, s⟩) :
    Calls Tryz.prog 37 #[.agg #[.int .i64 op, .int .i64 a, .int .i64 b, .int .i64 c, .int .i64 n, .string s]] w fun e w' => e = .returned (.string ⟨(textI ⟨op, a, b, c, n, s⟩).toArray⟩) ∧ Below w.heap.size w w' := by
  have hbn := (Below.refl w.heap.size w).alloc (Nat.le_refl _) (.cells #[.int .i64 op, .int .i64 a, .int .i64 b, .int .i64 c, .int .i64 n, .string s] 47)
  cases ho : Atom.inB op 1 20
  · have HR : Hid (textI ⟨op, a, b, c, n, s⟩ = []) := textI_out _ ho
    go_enter Tryz.func37, Tryz.ntmps37
    go_wp2_with (go_at_call 48; refine (Atom.in_any _ _ _ _).mono ?_; rintro e w' ⟨rfl, rfl⟩)
    go_ret
    exact ⟨by rw [HR.out]; rfl, hbn⟩
  obtain ⟨k, hk, rfl⟩ : ∃ k : Nat, k < 20 ∧ op = (k : Int) + 1 := by
    have := of_decide_eq_true ho
    exact ⟨(op - 1).toNat, by omega, by omega⟩
  have e1 : IntKind.i64.wrap ((k : Int) + 1 - 1) = (k : Int) := by rw [IntKind.wrap_i64]; omega
  have e2 : IntKind.i64.wrap (k : Int) = (k : Int) := by rw [IntKind.wrap_i64]; omega
  have hki : (k : Int) < 20 := by omega
  have HR : Hid (textI ⟨(k : Int) + 1, a, b, c, n, s⟩ = accU ⟨(k : Int) + 1, a, b, c, n, s⟩ (k + 1) (uses (k + 1))) := by
    show _ = _; rw [textI_in _ k hk rfl, accU_eq _ k hk]
  have HLE : Hid (Le w (w.alloc (.cells #[.int .i64 ((k : Int) + 1), .int .i64 a, .int .i64 b, .int .i64 c, .int .i64 n, .string s] 47)) w.heap.size ⟨(k : Int) + 1, a, b, c, n, s⟩) := ⟨hbn, box_new _ a b c n s w⟩
  clear hbn
  go_enter Tryz.func37, Tryz.ntmps37
  go_wp2_with (go_at_call 48; refine (Atom.in_any _ _ _ _).mono ?_; rintro e w' ⟨rfl, rfl⟩)
  generalize (w.alloc (.cells #[.int .i64 ((k : Int) + 1), .int .i64 a, .int .i64 b, .int .i64 c, .int .i64 n, .string s] 47)) = w1 at HLE ⊢
  obtain ⟨B, hB⟩ : ∃ B, B = w.heap.size := ⟨_, rfl⟩
  rw [← hB] at HLE ⊢
  have HBB : Hid (B = w.heap.size) := hB
  clear hB
  go_cut [3] from 10 to 16 (fun v wx => v = .string (wordT (k + 1)) ∧ Le w wx B ⟨(k : Int) + 1, a, b, c, n, s⟩)
  case first =>
    have b0 := HLE.out.box.c0
    have K4 : Hid (∀ w5, Below w1.drew.heap.size w1.drew w5 → Le w w5 B ⟨(k : Int) + 1, a, b, c, n, s⟩) := fun w5 h => HLE.out.below (below_undrew h)
    go_region_law (go_simp; go_wp2_with (go_at_call 45; refine (names_any _).mono ?_; rintro e w5 ⟨rfl, hb5, _, hc5⟩; have HF5 := K4.out w5 hb5; have b5 := HF5.box.c0; have hc5' : w5.cell? ⟨w1.heap.size, k, none⟩ = some (.string (wordT (k + 1))) := hc5 k hk; have HF6 : Hid (Le w w5 B ⟨(k : Int) + 1, a, b, c, n, s⟩) := HF5; clear hc5 hb5 HF5))
    all_goals
      go_wp2_with fail
      try go_simp
      go_meet
      case rel => exact ⟨by simp, HF6.out⟩
  case rest =>
    obtain ⟨rfl, hle⟩ := hcut
    have HL2 : Hid (Le w wc B ⟨(k : Int) + 1, a, b, c, n, s⟩) := hle
    clear hle HLE
    go_wp2_with fail
    go_cut [4] from 16 to 22 (fun v wx => v = .string (useT (k + 1)) ∧ Le w wx B ⟨(k : Int) + 1, a, b, c, n, s⟩)
    case first =>
      have b0 := HL2.out.box.c0
      have K4 : Hid (∀ w5, Below wc.drew.heap.size wc.drew w5 → Le w w5 B ⟨(k : Int) + 1, a, b, c, n, s⟩) := fun w5 h => HL2.out.below (below_undrew h)
      go_region_law (go_simp; go_wp2_with (go_at_call 46; refine (uses_any _).mono ?_; rintro e w5 ⟨rfl, hb5, _, hc5⟩; have HF5 := K4.out w5 hb5; have b5 := HF5.box.c0; have hc5' : w5.cell? ⟨wc.heap.size, k, none⟩ = some (.string (useT (k + 1))) := hc5 k hk; have HF6 : Hid (Le w w5 B ⟨(k : Int) + 1, a, b, c, n, s⟩) := HF5; clear hc5 hb5 HF5))
      all_goals
        go_wp2_with fail
        try go_simp
        go_meet
        case rel => exact ⟨by simp, HF6.out⟩
    case rest =>
      obtain ⟨rfl, hle⟩ := hcut
      have HL3 : Hid (Le w wc B ⟨(k : Int) + 1, a, b, c, n, s⟩) := hle
      clear hle HL2 e1 e2 hki ho
      have HUL : Hid ((uses (k + 1)).length ≤ 3) := by have := use_len (k + 1); rw [useT_size] at this; exact this
      have HUS : Hid ((useT (k + 1)).size = (uses (k + 1)).length) := useT_size (k + 1)
      have husz : (useT (k + 1)).size ≤ 3 := use_len (k + 1)
      have HHI : Hid (In64 ⟨(k : Int) + 1, a, b, c, n, s⟩) := hI
      have HHS : Hid (s.size ≤ 1048576) := hs
      clear hI
      go_wp2_with fail
      go_loopw [3, 5] (fun v i wr => ∃ j : Nat, j ≤ (useT (k + 1)).size ∧ i = .int .i64 j ∧ v = .string ⟨(accU ⟨(k : Int) + 1, a, b, c, n, s⟩ (k + 1) ((uses (k + 1)).take j)).toArray⟩ ∧ Le w wr B ⟨(k : Int) + 1, a, b, c, n, s⟩) (fun v i wr => (useT (k + 1)).size - (intOf i).toNat)
      case atStart => exact ⟨0, Nat.zero_le _, rfl, by simp [accU, wordT], HL3.out⟩
      case round =>
        obtain ⟨j, hj, rfl, rfl, hle⟩ := hrel
        have HLR : Hid (Le w wr B ⟨(k : Int) + 1, a, b, c, n, s⟩) := hle
        have c1 := hle.box.c1
        have c2 := hle.box.c2
        have c3 := hle.box.c3
        have c4 := hle.box.c4
        have c5 := hle.box.c5
        simp only [Nat.zero_add] at c1 c2 c3 c4 c5
        clear hle HL3
        by_cases hlt : j < (useT (k + 1)).size
        · have hju : j < (uses (k + 1)).length := by have := HUS.out; omega
          have hA : (accU ⟨(k : Int) + 1, a, b, c, n, s⟩ (k + 1) ((uses (k + 1)).take j)).length ≤ 4000000 := accU_len HHI.out HHS.out _ _ (by have := HUL.out; simp; omega)
          have HTK : Hid (accU ⟨(k : Int) + 1, a, b, c, n, s⟩ (k + 1) ((uses (k + 1)).take (j + 1)) = accU ⟨(k : Int) + 1, a, b, c, n, s⟩ (k + 1) ((uses (k + 1)).take j) ++ 32 :: letT ⟨(k : Int) + 1, a, b, c, n, s⟩ (uses (k + 1))[j]) := accU_take _ _ _ _ hju
          have hch := useT_at (k + 1) j hlt
          generalize accU ⟨(k : Int) + 1, a, b, c, n, s⟩ (k + 1) ((uses (k + 1)).take j) = A at hA HTK ⊢
          generalize (uses (k + 1))[j] = ch at HTK hch
          have HCH : Hid ((useT (k + 1))[j] = ch) := hch
          by_cases h65 : ch = 65
          · subst h65
            have hc : (((useT (k + 1))[j]'hlt).toNat : Int) = 65 := by rw [hch]; rfl
            clear hch
            have hL : (Lib.itoa a).length ≤ 21 := Lib.itoa_length_le _ HHI.out.a.1 HHI.out.a.2
            have HN : Hid (∀ w, Calls Tryz.prog 63 #[.int .i64 a] w fun e w' => e = .returned (.string ⟨(Lib.itoa a).toArray⟩) ∧ Below w.heap.size w w') := fun w => num2_any a HHI.out.a.1 HHI.out.a.2 w
            have HT : Hid (letT ⟨(k : Int) + 1, a, b, c, n, s⟩ 65 = Lib.itoa a) := rfl
            generalize Lib.itoa a = L at hL HN HT
            go_wp2_with (go_at_call 63; refine (HN.out _).mono ?_; rintro e w4 ⟨rfl, hb4⟩; have HL4 : Hid (Le w w4 B ⟨(k : Int) + 1, a, b, c, n, s⟩) := HLR.out.below hb4; clear hb4)
            go_roundw
            case rel => exact ⟨j + 1, by omega, by go_num, by rw [HTK.out, HT.out, cat_bl], HL4.out⟩
            case measure => simp [intOf]; omega
          by_cases h66 : ch = 66
          · subst h66
            have hc : (((useT (k + 1))[j]'hlt).toNat : Int) = 66 := by rw [hch]; rfl
            clear hch
            have hL : (Lib.itoa b).length ≤ 21 := Lib.itoa_length_le _ HHI.out.b.1 HHI.out.b.2
            have HN : Hid (∀ w, Calls Tryz.prog 63 #[.int .i64 b] w fun e w' => e = .returned (.string ⟨(Lib.itoa b).toArray⟩) ∧ Below w.heap.size w w') := fun w => num2_any b HHI.out.b.1 HHI.out.b.2 w
            have HT : Hid (letT ⟨(k : Int) + 1, a, b, c, n, s⟩ 66 = Lib.itoa b) := rfl
            generalize Lib.itoa b = L at hL HN HT
            go_wp2_with (go_at_call 63; refine (HN.out _).mono ?_; rintro e w4 ⟨rfl, hb4⟩; have HL4 : Hid (Le w w4 B ⟨(k : Int) + 1, a, b, c, n, s⟩) := HLR.out.below hb4; clear hb4)
            go_roundw
            case rel => exact ⟨j + 1, by omega, by go_num, by rw [HTK.out, HT.out, cat_bl], HL4.out⟩
            case measure => simp [intOf]; omega
          by_cases h67 : ch = 67
          · subst h67
            have hc : (((useT (k + 1))[j]'hlt).toNat : Int) = 67 := by rw [hch]; rfl
            clear hch
            have hL : (Lib.itoa c).length ≤ 21 := Lib.itoa_length_le _ HHI.out.c.1 HHI.out.c.2
            have HN : Hid (∀ w, Calls Tryz.prog 63 #[.int .i64 c] w fun e w' => e = .returned (.string ⟨(Lib.itoa c).toArray⟩) ∧ Below w.heap.size w w') := fun w => num2_any c HHI.out.c.1 HHI.out.c.2 w
            have HT : Hid (letT ⟨(k : Int) + 1, a, b, c, n, s⟩ 67 = Lib.itoa c) := rfl
            generalize Lib.itoa c = L at hL HN HT
            go_wp2_with (go_at_call 63; refine (HN.out _).mono ?_; rintro e w4 ⟨rfl, hb4⟩; have HL4 : Hid (Le w w4 B ⟨(k : Int) + 1, a, b, c, n, s⟩) := HLR.out.below hb4; clear hb4)
            go_roundw
            case rel => exact ⟨j + 1, by omega, by go_num, by rw [HTK.out, HT.out, cat_bl], HL4.out⟩
            case measure => simp [intOf]; omega
          by_cases h78 : ch = 78
          · subst h78
            have hc : (((useT (k + 1))[j]'hlt).toNat : Int) = 78 := by rw [hch]; rfl
            clear hch
            have hL : (Lib.itoa n).length ≤ 21 := Lib.itoa_length_le _ HHI.out.n.1 HHI.out.n.2
            have HN : Hid (∀ w, Calls Tryz.prog 63 #[.int .i64 n] w fun e w' => e = .returned (.string ⟨(Lib.itoa n).toArray⟩) ∧ Below w.heap.size w w') := fun w => num2_any n HHI.out.n.1 HHI.out.n.2 w
            have HT : Hid (letT ⟨(k : Int) + 1, a, b, c, n, s⟩ 78 = Lib.itoa n) := rfl
            generalize Lib.itoa n = L at hL HN HT
            go_wp2_with (go_at_call 63; refine (HN.out _).mono ?_; rintro e w4 ⟨rfl, hb4⟩; have HL4 : Hid (Le w w4 B ⟨(k : Int) + 1, a, b, c, n, s⟩) := HLR.out.below hb4; clear hb4)
            go_roundw
            case rel => exact ⟨j + 1, by omega, by go_num, by rw [HTK.out, HT.out, cat_bl], HL4.out⟩
            case measure => simp [intOf]; omega
          have hz : ∀ (m : Nat) (u : UInt8), u.toNat = m → ch ≠ u → (((useT (k + 1))[j]'hlt).toNat : Int) ≠ m := fun m u hu hne h => by
            rw [hch] at h
            exact hne (UInt8.toNat_inj.1 (by omega))
          have g65 : (((useT (k + 1))[j]'hlt).toNat : Int) ≠ 65 := hz 65 65 rfl h65
          have g66 : (((useT (k + 1))[j]'hlt).toNat : Int) ≠ 66 := hz 66 66 rfl h66
          have g67 : (((useT (k + 1))[j]'hlt).toNat : Int) ≠ 67 := hz 67 67 rfl h67
          have g78 : (((useT (k + 1))[j]'hlt).toNat : Int) ≠ 78 := hz 78 78 rfl h78
          have HT : Hid (letT ⟨(k : Int) + 1, a, b, c, n, s⟩ ch = s.data.toList) := by
            show _ = _
            unfold letT; rw [if_neg h65, if_neg h66, if_neg h67, if_neg h78]
          clear hz hch h65 h66 h67 h78
          go_wp2
          go_roundw
          case rel => exact ⟨j + 1, by omega, by go_num, by rw [HTK.out, HT.out, ← cat_bl, str_back], HLR.out⟩
          case measure => simp [intOf]; omega
        · have HJ : Hid ((uses (k + 1)).take j = uses (k + 1)) := by
            show _ = _
            rw [List.take_of_length_le (by have := HUS.out; omega)]
          go_wp2
          go_ret
          exact ⟨by rw [HR.out, HJ.out]; rfl, HLR.out.bel⟩
end Go.Proofs.YtgdlkekjbdkjjaaGreatDoor.Code
