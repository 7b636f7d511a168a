/-
  l1Hex.
-/
import Derived.Test.YtghfhlheenaacabDoorTxC
import Derived.Laws.BytesArg
namespace Go.Proofs.YtghfhlheenaacabDoor
open Go.RowKit
set_option linter.unusedVariables false

/-- What is owned, as a text. -/
theorem conv_own {B : Nat} {W : World} {v : Value} {l : List UInt8} (h : W.ownsRow B 5 1 v l.length (Lib.byteCells l)) : (convert 36 9 v).run Tryd.prog W = .ok (.string ⟨l.toArray⟩) W := by
  rcases h.2 with ⟨rfl, h0⟩ | ⟨g, cap, cur, rfl, _, _, _, _, _, _⟩
  · have : l = [] := List.eq_nil_of_length_eq_zero h0
    subst this
    exact run_convert_bytes_nil (P := Tryd.prog) W 36 5 Tryd.underlying36 Tryd.underlying5 0 0 9 Tryd.underlying9
  · exact run_convert_bytes_back (P := Tryd.prog) W 36 9 5 ⟨g, 0, none⟩ cap l Tryd.underlying36 Tryd.underlying5 Tryd.underlying9 (fun j hj => h.cells (g := g) rfl j _ (by simp [Lib.byteCells, hj]))

set_option maxRecDepth 100000 in
set_option maxHeartbeats 1000000 in
theorem hexS_any (w : World) (s : ByteArray) (hlim : s.size ≤ 1000) :
    Calls Tryd.prog 18 #[.string s] w fun e w' => e = .returned (.string ⟨(hexL s.data.toList).toArray⟩) ∧ Below w.heap.size w w' := by
  obtain ⟨i0, hi, hz0, hz1, hz2⟩ := info_parts infoByte
  go_enter Tryd.func18, Tryd.ntmps18
  go_wp2_with fail
  go_loopw [4, 5] (fun b i w' => ∃ (k : Nat), k ≤ s.size ∧ i = .int .i64 k ∧ w'.ownsRow w.heap.size 5 1 b (2 * k) (Lib.byteCells (hexL (s.data.toList.take k))) ∧ Below w.heap.size w w') (fun _ i _ => s.size - (intOf i).toNat)
  case atStart => exact ⟨0, Nat.zero_le _, rfl, World.ownsRow_made w #[] 0 (Nat.le_refl _) (Nat.zero_le _) rfl, (Below.refl _ _).alloc (Nat.le_refl _) _⟩
  case round =>
    obtain ⟨k, hk, rfl, ho, hb⟩ := hrel
    have HO1 : Hid (wr.ownsRow w.heap.size 5 1 u4 (2 * k) (Lib.byteCells (hexL (s.data.toList.take k)))) := ho
    have HB1 : Hid (Below w.heap.size w wr) := hb
    clear ho hb
    by_cases hlt : k < s.size
    · have hc : s[k].toNat < 256 := s[k].toNat_lt
      have hi1 : 0 ≤ (s[k].toNat : Int) / 16 ∧ (s[k].toNat : Int) / 16 < 16 := by omega
      have hi2 : 0 ≤ (s[k].toNat : Int) % 16 ∧ (s[k].toNat : Int) % 16 < 16 := by omega
      have hand := and15 s[k]
      obtain ⟨b1, hb1⟩ : ∃ b, b = hexD (s[k].toNat / 16) := ⟨_, rfl⟩
      obtain ⟨b2, hb2⟩ : ∃ b, b = hexD (s[k].toNat % 16) := ⟨_, rfl⟩
      have hE1 : ∀ (h : ((s[k].toNat : Int) / 16).toNat < (ByteArray.mk #[48, 49, 50, 51, 52, 53, 54, 55, 56, 57, 97, 98, 99, 100, 101, 102]).size), (ByteArray.mk #[48, 49, 50, 51, 52, 53, 54, 55, 56, 57, 97, 98, 99, 100, 101, 102])[((s[k].toNat : Int) / 16).toNat]'h = b1 := by
        have e : ((s[k].toNat : Int) / 16).toNat = s[k].toNat / 16 := by omega
        intro h; rw [hb1, ← hexAt (s[k].toNat / 16) (by omega) (by rw [← e]; exact h)]; congr 1
      have hE2 : ∀ (h : ((s[k].toNat : Int) % 16).toNat < (ByteArray.mk #[48, 49, 50, 51, 52, 53, 54, 55, 56, 57, 97, 98, 99, 100, 101, 102]).size), (ByteArray.mk #[48, 49, 50, 51, 52, 53, 54, 55, 56, 57, 97, 98, 99, 100, 101, 102])[((s[k].toNat : Int) % 16).toNat]'h = b2 := by
        have e : ((s[k].toNat : Int) % 16).toNat = s[k].toNat % 16 := by omega
        intro h; rw [hb2, ← hexAt (s[k].toNat % 16) (by omega) (by rw [← e]; exact h)]; congr 1
      have HS : Hid (hexL (s.data.toList.take (k + 1)) = hexL (s.data.toList.take k) ++ [b1, b2]) := by show _ = _; rw [hex_step s k hlt, hb1, hb2]
      clear hc hb1 hb2
      have HB0 : Hid (w.heap.size ≤ wr.heap.size) := HB1.out.size
      go_wp2_with fail
      go_region_law (refine step_append_lies _ rfl (.tmp 13) (.tmp 26) 36 rfl w.heap.size 5 i0 (.int .u8 0) 1 1 Tryd.underlying36 hi hz0 hz1 hz2 rfl (by decide) u4 (2 * k) _ (by simp [Act.eval]) ((HO1.out.alloc _).drew) ⟨wr.heap.size, 0, none⟩ 2 2 [Value.int .u8 b1.toNat, Value.int .u8 b2.toNat] (by simp [Act.eval]) rfl two_news (bytes_one [b1, b2]) (by omega) (by unfold maxLen; omega) (by omega) (by have := HB0.out; simp; omega) _ rfl ?_; intro g cap w1 hown1 hgrow hat hlt1)
      all_goals
        have HO2 : Hid (w1.ownsRow w.heap.size 5 1 (.slice (some ⟨g, 0, none⟩) (2 * k + 2) cap) (2 * (k + 1)) (Lib.byteCells (hexL (s.data.toList.take (k + 1))))) := by
          show w1.ownsRow _ _ _ _ _ _
          rw [HS.out]
          have e : 2 * (k + 1) = 2 * k + 2 := by omega
          rw [e]
          simpa [Lib.byteCells] using hown1
        have HB2 : Hid (Below w.heap.size w w1) := ((HB1.out.alloc HB0.out _).drew).grown hgrow (by have := HB0.out; simp; omega) (fun q hq => (HO1.out.lt q hq).1)
        clear hown1 hgrow hat hlt1 hE1 hE2 hi1 hi2 hand
        go_wp2_with fail
        go_roundw
        case rel => exact ⟨k + 1, by omega, by go_num, HO2.out, HB2.out⟩
        case measure => simp [intOf]; omega
    · have hkl : k = s.size := by omega
      have h := HO1.out
      rw [List.take_of_length_le (by simp; omega)] at h
      have hl : 2 * k = (hexL s.data.toList).length := by rw [hexL_length, dlen]; omega
      rw [hl] at h
      generalize hA : hexL s.data.toList = A at h
      have HA : Hid (hexL s.data.toList = A) := hA
      clear hA hl
      have hcv := conv_own h
      clear h
      go_wp2_with fail
      go_ret
      exact ⟨ret_str (by rw [HA.out]), HB1.out⟩
end Go.Proofs.YtghfhlheenaacabDoor
