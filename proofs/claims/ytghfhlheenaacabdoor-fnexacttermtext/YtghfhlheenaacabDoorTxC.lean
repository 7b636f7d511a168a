/-
  Bytes as hex digits: appendHex and l1Hex.
-/
import Derived.Test.YtghfhlheenaacabDoorTxA
import Derived.Test.YtghfhlheenaacabDoorTxB
import Derived.Deep.AppendLies
import Derived.Deep.RegionLaw
import Derived.OwnWalk
import Derived.Lib.UnsafeStr
namespace Go.Proofs.YtghfhlheenaacabDoor
open Go.RowKit
set_option linter.unusedVariables false

theorem infoByte : (Tryd.prog.info? 5).map (fun i => (i.zero, i.size, i.bytes)) = some (some (.int .u8 0), 1, 1) := by kernel_rfl

theorem and15 (b : UInt8) : bits BinOp.and IntKind.u8 (b.toNat : Int) 15 = (b.toNat : Int) % 16 := by
  have : ∀ i : Fin 256, bits BinOp.and IntKind.u8 (i.val : Int) 15 = (i.val : Int) % 16 := by decide +kernel
  exact this ⟨b.toNat, b.toNat_lt⟩

theorem hexAt (d : Nat) (hd : d < 16) (h : d < (ByteArray.mk #[48, 49, 50, 51, 52, 53, 54, 55, 56, 57, 97, 98, 99, 100, 101, 102]).size) : (ByteArray.mk #[48, 49, 50, 51, 52, 53, 54, 55, 56, 57, 97, 98, 99, 100, 101, 102])[d]'h = hexD d := by
  have : ∀ i : Fin 16, (ByteArray.mk #[48, 49, 50, 51, 52, 53, 54, 55, 56, 57, 97, 98, 99, 100, 101, 102])[i.val]'(i.isLt) = hexD i.val := by decide +kernel
  exact this ⟨d, hd⟩
theorem hex_step (s : ByteArray) (k : Nat) (h : k < s.size) : hexL (s.data.toList.take (k + 1)) = hexL (s.data.toList.take k) ++ [hexD (s[k].toNat / 16), hexD (s[k].toNat % 16)] := by
  rw [List.take_succ_eq_append_getElem (by simpa using h), hexL_append]
  rfl
theorem two_news {w : World} {b1 b2 : UInt8} : ∀ j u, [Value.int .u8 b1.toNat, Value.int .u8 b2.toNat][j]? = some u → ((w.alloc (.cells #[Value.int .u8 b1.toNat, Value.int .u8 b2.toNat] 5)).drew).cell? ((⟨w.heap.size, 0, none⟩ : Addr).add j) = some u := by
  have e : ((w.alloc (.cells #[Value.int .u8 b1.toNat, Value.int .u8 b2.toNat] 5)).drew).heap[w.heap.size]? = some (.cells #[Value.int .u8 b1.toNat, Value.int .u8 b2.toNat] 5 (0, 0)) := by
    show (w.heap.push _)[w.heap.size]? = _; simp
  exact World.news_of_block e
theorem bytes_one (l : List UInt8) : ∀ u ∈ Lib.byteCells l, u.oneCell' = true := by
  intro u hu
  obtain ⟨b, _, rfl⟩ := List.mem_map.1 hu
  rfl

set_option maxRecDepth 100000 in
set_option maxHeartbeats 1000000 in
theorem hex_any (B : Nat) (w : World) (v : Value) (n : Nat) (xs : List Value) (s : ByteArray) (hown : w.ownsRow B 5 1 v n xs) (hB : B ≤ w.heap.size) (hlim : n + 2 * s.size ≤ 100000) :
    Calls Tryd.prog 23 #[v, .string s] w fun e w' => ∃ v', e = .returned v' ∧ w'.ownsRow B 5 1 v' (n + 2 * s.size) (xs ++ Lib.byteCells (hexL s.data.toList)) ∧ Below B w w' := by
  obtain ⟨i0, hi, hz0, hz1, hz2⟩ := info_parts infoByte
  have HO : Hid (w.ownsRow B 5 1 v n xs) := hown
  clear hown
  go_enter Tryd.func23, Tryd.ntmps23
  go_wp2_with fail
  go_loopw [0, 8] (fun b i w' => ∃ (k : Nat), k ≤ s.size ∧ i = .int .i64 k ∧ w'.ownsRow B 5 1 b (n + 2 * k) (xs ++ Lib.byteCells (hexL (s.data.toList.take k))) ∧ Below B w w') (fun _ i _ => s.size - (intOf i).toNat)
  case atStart => exact ⟨0, Nat.zero_le _, rfl, by simpa [hexL, Lib.byteCells] using HO.out, Below.refl _ _⟩
  case round =>
    obtain ⟨k, hk, rfl, ho, hb⟩ := hrel
    have HO1 : Hid (wr.ownsRow B 5 1 u0 (n + 2 * k) (xs ++ Lib.byteCells (hexL (s.data.toList.take k)))) := ho
    have HB1 : Hid (Below B w wr) := hb
    clear ho hb
    by_cases hlt : k < s.size
    · have hc : s[k].toNat < 256 := s[k].toNat_lt
      have hi1 : 0 ≤ (s[k].toNat : Int) / 16 ∧ (s[k].toNat : Int) / 16 < 16 := by omega
      have hi2 : 0 ≤ (s[k].toNat : Int) % 16 ∧ (s[k].toNat : Int) % 16 < 16 := by omega
      have hand := and15 s[k]
      obtain ⟨b1, hb1⟩ : ∃ b, b = hexD (s[k].toNat / 16) := ⟨_, rfl⟩
      obtain ⟨b2, hb2⟩ : ∃ b, b = hexD (s[k].toNat % 16) := ⟨_, rfl⟩
      have hE1 : ∀ (h : ((s[k].toNat : Int) / 16).toNat < (ByteArray.mk #[48, 49, 50, 51, 52, 53, 54, 55, 56, 57, 97, 98, 99, 100, 101, 102]).size), (ByteArray.mk #[48, 49, 50, 51, 52, 53, 54, 55, 56, 57, 97, 98, 99, 100, 101, 102])[((s[k].toNat : Int) / 16).toNat]'h = b1 := by
        have e : ((s[k].toNat : Int) / 16).toNat = s[k].toNat / 16 := by omega
        intro h; rw [hb1, ← hexAt (s[k].toNat / 16) (by omega) (by rw [← e]; exact h)]; congr 1
      have hE2 : ∀ (h : ((s[k].toNat : Int) % 16).toNat < (ByteArray.mk #[48, 49, 50, 51, 52, 53, 54, 55, 56, 57, 97, 98, 99, 100, 101, 102]).size), (ByteArray.mk #[48, 49, 50, 51, 52, 53, 54, 55, 56, 57, 97, 98, 99, 100, 101, 102])[((s[k].toNat : Int) % 16).toNat]'h = b2 := by
        have e : ((s[k].toNat : Int) % 16).toNat = s[k].toNat % 16 := by omega
        intro h; rw [hb2, ← hexAt (s[k].toNat % 16) (by omega) (by rw [← e]; exact h)]; congr 1
      have HS : Hid (hexL (s.data.toList.take (k + 1)) = hexL (s.data.toList.take k) ++ [b1, b2]) := by show _ = _; rw [hex_step s k hlt, hb1, hb2]
      clear hc hb1 hb2
      have HB0 : Hid (B ≤ wr.heap.size) := Nat.le_trans hB HB1.out.size
      go_wp2_with fail
      go_region_law (refine step_append_lies _ rfl (.tmp 11) (.tmp 22) 36 rfl B 5 i0 (.int .u8 0) 1 1 Tryd.underlying36 hi hz0 hz1 hz2 rfl (by decide) u0 (n + 2 * k) _ (by simp [Act.eval]) ((HO1.out.alloc _).drew) ⟨wr.heap.size, 0, none⟩ 2 2 [Value.int .u8 b1.toNat, Value.int .u8 b2.toNat] (by simp [Act.eval]) rfl two_news (bytes_one [b1, b2]) (by omega) (by unfold maxLen; omega) (by omega) (by have := HB0.out; simp; omega) _ rfl ?_; intro g cap w1 hown1 hgrow hat hlt1)
      all_goals
        have HO2 : Hid (w1.ownsRow B 5 1 (.slice (some ⟨g, 0, none⟩) (n + 2 * k + 2) cap) (n + 2 * (k + 1)) (xs ++ Lib.byteCells (hexL (s.data.toList.take (k + 1))))) := by
          show w1.ownsRow _ _ _ _ _ _
          rw [HS.out]
          have e : n + 2 * (k + 1) = n + 2 * k + 2 := by omega
          rw [e]
          simpa [Lib.byteCells] using hown1
        have HB2 : Hid (Below B w w1) := ((HB1.out.alloc HB0.out _).drew).grown hgrow (by have := HB0.out; simp; omega) (fun q hq => (HO1.out.lt q hq).1)
        clear hown1 hgrow hat hlt1 hE1 hE2 hi1 hi2 hand
        go_wp2_with fail
        go_roundw
        case rel => exact ⟨k + 1, by omega, by go_num, HO2.out, HB2.out⟩
        case measure => simp [intOf]; omega
    · go_wp2_with fail
      go_ret
      have hkl : k = s.size := by omega
      subst hkl
      have h := HO1.out
      rw [List.take_of_length_le (by simp)] at h
      exact ⟨_, rfl, h, HB1.out⟩
end Go.Proofs.YtghfhlheenaacabDoor
