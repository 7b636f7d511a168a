/-
  The program's InsText: it answers textI.
-/
import Derived.Test.YtgdlkekjbdkjjaaGreatDoorCtA
import Derived.Test.YtgdlkekjbdkjjaaGreatDoorCoI
import Derived.Test.YtgdlkekjbdkjjaaGreatDoorShelf
import Derived.Lib.AppendIntMem
namespace Go.Proofs.YtgdlkekjbdkjjaaGreatDoor.Code
open Go.RowKit
set_option linter.unusedVariables false

/-- The library's table of powers of ten is as it is laid. -/
def Pow (w : World) : Prop := Lib.TabIs Tryz.prog w "internal/strconv.uint64pow10" .u64 Lib.pow10Tab
theorem Pow.below {w w' : World} (h : Pow w) (hb : Below w.heap.size w w') : Pow w' := Lib.tabBelow_of_tabIs h w' hb

theorem below_grow (w : World) (os : Array Obj) : Below w.heap.size w (Sort.grow w os) := by
  refine ⟨rfl, rfl, rfl, by simp [Sort.grow], fun k hk => ?_⟩
  simp only [Sort.grow]
  rw [Array.getElem?_append_left hk]
theorem itoa_any (n : Int) (h0 : -9223372036854775808 ≤ n) (h1 : n ≤ 9223372036854775807) (w : World) (hP : Pow w) :
    Calls Tryz.prog 56 #[.int .i64 n] w fun e w' => e = .returned (.string ⟨(Lib.itoa n).toArray⟩) ∧ Below w.heap.size w w' :=
  (Tryz.strconv_Itoa n h0 h1 w hP).mono fun e w' ⟨he, k, os, hw⟩ => ⟨he, by
    rw [hw]
    exact (below_drewN (Below.refl _ w) k).trans (below_grow (w.drewN k) os)⟩

theorem slotText_any (k : Nat) (h1 : 1 ≤ k) (h9 : k ≤ 9) (op a b c n : Int) (s : ByteArray) (w : World) (hP : Pow w) (hI : In64 ⟨op, a, b, c, n, s⟩) :
    Calls Tryz.prog 61 #[.int .i64 (k : Int), .agg #[.int .i64 op, .int .i64 a, .int .i64 b, .int .i64 c, .int .i64 n, .string s]] w fun e w' => e = .returned (.string ⟨(slotT ⟨op, a, b, c, n, s⟩ k).toArray⟩) ∧ Below w.heap.size w w' := by
  have hbn := (Below.refl w.heap.size w).alloc (Nat.le_refl _) (.cells #[.int .i64 op, .int .i64 a, .int .i64 b, .int .i64 c, .int .i64 n, .string s] 47)
  have hbx := box_new op a b c n s w
  by_cases e9 : k = 9
  · subst e9
    have HT : Hid (slotT ⟨op, a, b, c, n, s⟩ 9 = s.data.toList) := rfl
    have HB : Hid (Below w.heap.size w _) := hbn
    clear hbn hbx
    go_enter Tryz.func61, Tryz.ntmps61
    go_wp2
    go_ret
    exact ⟨by rw [HT.out, str_back]; rfl, HB.out⟩
  · have h8 : k ≤ 8 := by omega
    have k9 : ((k : Int) == 9) = false := by simp; omega
    have HT : Hid (slotT ⟨op, a, b, c, n, s⟩ k = Lib.itoa (val ⟨op, a, b, c, n, s⟩ k)) := if_neg e9
    have HB : Hid (Below w.heap.size w (w.alloc (.cells #[.int .i64 op, .int .i64 a, .int .i64 b, .int .i64 c, .int .i64 n, .string s] 47))) := hbn
    have hc := box_fld hbx k h1 h8
    rw [Nat.zero_add] at hc
    have HK : Hid (∀ w, Pow w → Calls Tryz.prog 56 #[.int .i64 (val ⟨op, a, b, c, n, s⟩ k)] w fun e w' => e = .returned (.string ⟨(Lib.itoa (val ⟨op, a, b, c, n, s⟩ k)).toArray⟩) ∧ Below w.heap.size w w') := fun w h => itoa_any _ (hI.val k).1 (hI.val k).2 w h
    have KN : Hid (∀ w b, Calls Tryz.prog 82 #[.int .i64 (k : Int), .pointer (some ⟨b, 0, none⟩)] w fun e w' => e = .returned (.pointer (some ⟨b, fld k, none⟩)) ∧ w' = w) := fun w b => by
      have := number_any k h1 h9 b 0 w
      rw [Nat.zero_add] at this; exact this
    have HP1 : Hid (Pow (w.alloc (.cells #[.int .i64 op, .int .i64 a, .int .i64 b, .int .i64 c, .int .i64 n, .string s] 47))) := hP.below hbn
    generalize val ⟨op, a, b, c, n, s⟩ k = v at HT hc HK
    clear hbn hbx e9
    go_enter Tryz.func61, Tryz.ntmps61
    go_wp2_with (go_at_call 82; fail)
    refine (KN.out _ _).mono ?_
    rintro e w2 ⟨rfl, hw2⟩
    obtain rfl := hw2.symm
    go_wp2_with (go_at_call 56; fail)
    refine (HK.out _ HP1.out).mono ?_
    rintro e w3 ⟨rfl, hb3⟩
    have HB3 : Hid (Below _ _ w3) := hb3
    clear hb3
    go_wp2
    go_ret
    exact ⟨by rw [HT.out]; rfl, HB.out.trans (HB3.out.mono HB.out.size)⟩

/-- What the loop over the slots has in hand. -/
structure St (w wr : World) (B L : Nat) (x : I) (l : List Nat) : Prop where
  bel : Below w.heap.size w wr
  box : Bx6 wr B 0 x
  row : ∀ j (hj : j < l.length), wr.cell? ⟨L, j, none⟩ = some (.int .i64 (l[j] : Nat))
theorem St.below {w wr w' : World} {B L : Nat} {x : I} {l : List Nat} (h : St w wr B L x l) (hb : Below wr.heap.size wr w') : St w w' B L x l :=
  ⟨h.bel.trans (hb.mono h.bel.size), h.box.below hb, fun j hj => by
    rw [hb.cell (p := ⟨L, j, none⟩) (World.block_lt_of_cell? wr _ (h.row j hj))]; exact h.row j hj⟩

set_option maxHeartbeats 2000000 in
theorem implText_any (op a b c n : Int) (s : ByteArray) (w : World) (hs : s.size ≤ 1048576) (hI : In64 ⟨op, a, b, c, n, s⟩) (hS : Shp w) (hP : Pow w) :
    Calls Tryz.prog 33 #[.agg #[.int .i64 op, .int .i64 a, .int .i64 b, .int .i64 c, .int .i64 n, .string s]] w fun e w' => e = .returned (.string ⟨(textI ⟨op, a, b, c, n, s⟩).toArray⟩) ∧ Below w.heap.size w w' := by
  have hbn := (Below.refl w.heap.size w).alloc (Nat.le_refl _) (.cells #[.int .i64 op, .int .i64 a, .int .i64 b, .int .i64 c, .int .i64 n, .string s] 47)
  have HB0 : Hid (Below w.heap.size w (w.alloc (.cells #[.int .i64 op, .int .i64 a, .int .i64 b, .int .i64 c, .int .i64 n, .string s] 47))) := hbn
  have HX0 : Hid (Bx6 (w.alloc (.cells #[.int .i64 op, .int .i64 a, .int .i64 b, .int .i64 c, .int .i64 n, .string s] 47)) w.heap.size 0 ⟨op, a, b, c, n, s⟩) := box_new op a b c n s w
  have HS0 : Hid (Shp (w.alloc (.cells #[.int .i64 op, .int .i64 a, .int .i64 b, .int .i64 c, .int .i64 n, .string s] 47))) := hS.below hbn
  clear hbn
  go_enter Tryz.func33, Tryz.ntmps33
  go_wp2_with (go_at_call 58; fail)
  refine (shapeInt_any op _ HS0.out).mono ?_
  rintro e w1 ⟨hcase, hb1⟩
  have HB1 : Hid (Below w.heap.size w w1) := HB0.out.trans (hb1.mono HB0.out.size)
  have HX1 : Hid (Bx6 w1 w.heap.size 0 ⟨op, a, b, c, n, s⟩) := HX0.out.below hb1
  clear hb1 HB0 HX0 HS0
  rcases hcase with ⟨k, hk, rfl, rfl⟩ | ⟨ho, rfl⟩
  · have HR : Hid (textI ⟨(k : Int) + 1, a, b, c, n, s⟩ = accT ⟨(k : Int) + 1, a, b, c, n, s⟩ (k + 1) (names (k + 1))) := textI_in _ k hk rfl
    go_wp2_with (go_at_call 60; fail)
    refine (slots_any k hk _).mono ?_
    rintro e w2 ⟨rfl, hb2, hrow⟩
    have HSt : Hid (St w w2 w.heap.size (w1.heap.size + 1 + 1) ⟨(k : Int) + 1, a, b, c, n, s⟩ (names (k + 1))) := by
      have hA := (Below.refl w1.heap.size w1).alloc (Nat.le_refl _) (.cells #[.int .i64 ((k : Int) + 1), .string (wordT (k + 1)), .int .i64 (nm (k + 1) 0), .int .i64 (nm (k + 1) 1), .int .i64 (nm (k + 1) 2)] 98)
      have hC : Below w1.heap.size w1 w2 := hA.trans (hb2.mono hA.size)
      exact ⟨HB1.out.trans (hC.mono HB1.out.size), HX1.out.below hC, fun j hj => by simpa using hrow j hj⟩
    have HLN : Hid ((∀ j (hj : j < (names (k + 1)).length), 1 ≤ (names (k + 1))[j] ∧ (names (k + 1))[j] ≤ 9) ∧ 1 ≤ (names (k + 1)).length ∧ (names (k + 1)).length ≤ 3) := ⟨names_in k hk, names_len k hk⟩
    have HW0 : Hid (wordT (k + 1) = ⟨(accT ⟨(k : Int) + 1, a, b, c, n, s⟩ (k + 1) ((names (k + 1)).take 0)).toArray⟩) := by show _ = _; simp [accT, wordT]
    have HHI : Hid (In64 ⟨(k : Int) + 1, a, b, c, n, s⟩) := hI
    have HHS : Hid (s.size ≤ 1048576) := hs
    clear hb2 hrow HX1 HB1 hI
    generalize names (k + 1) = l at HR HSt HLN HW0 ⊢
    have hml : l.length ≤ 3 := HLN.out.2.2
    go_wp2_with fail
    go_loopw [5, 22] (fun v i wr => ∃ j : Nat, j ≤ l.length ∧ i = .int .i64 j ∧ v = .string ⟨(accT ⟨(k : Int) + 1, a, b, c, n, s⟩ (k + 1) (l.take j)).toArray⟩ ∧ St w wr w.heap.size (w1.heap.size + 1 + 1) ⟨(k : Int) + 1, a, b, c, n, s⟩ l) (fun v i wr => l.length - (intOf i).toNat)
    case atStart => exact ⟨0, Nat.zero_le _, rfl, by rw [HW0.out], HSt.out⟩
    case round =>
      obtain ⟨j, hj, rfl, rfl, hst⟩ := hrel
      have HSR : Hid (St w wr w.heap.size (w1.heap.size + 1 + 1) ⟨(k : Int) + 1, a, b, c, n, s⟩ l) := hst
      have c0 := hst.box.c0
      have c1 := hst.box.c1
      have c2 := hst.box.c2
      have c3 := hst.box.c3
      have c4 := hst.box.c4
      have c5 := hst.box.c5
      simp only [Nat.zero_add] at c0 c1 c2 c3 c4 c5
      clear hst HSt HW0
      by_cases hlt : j < l.length
      · have hrow := HSR.out.row j hlt
        have hA : (accT ⟨(k : Int) + 1, a, b, c, n, s⟩ (k + 1) (l.take j)).length ≤ 4000000 := accT_len HHI.out HHS.out _ _ (by simp; omega)
        have HTK : Hid (accT ⟨(k : Int) + 1, a, b, c, n, s⟩ (k + 1) (l.take (j + 1)) = accT ⟨(k : Int) + 1, a, b, c, n, s⟩ (k + 1) (l.take j) ++ 32 :: slotT ⟨(k : Int) + 1, a, b, c, n, s⟩ l[j]) := accT_take _ _ _ _ hlt
        have hL : (slotT ⟨(k : Int) + 1, a, b, c, n, s⟩ l[j]).length ≤ 1048576 := slotT_len HHI.out HHS.out _
        have HIT : Hid (∀ w', Pow w' → Calls Tryz.prog 61 #[.int .i64 ((l[j] : Nat) : Int), .agg #[.int .i64 ((k : Int) + 1), .int .i64 a, .int .i64 b, .int .i64 c, .int .i64 n, .string s]] w' fun e w'' => e = .returned (.string ⟨(slotT ⟨(k : Int) + 1, a, b, c, n, s⟩ l[j]).toArray⟩) ∧ Below w'.heap.size w' w'') := fun w' hp =>
          slotText_any l[j] (HLN.out.1 j hlt).1 (HLN.out.1 j hlt).2 _ a b c n s w' hp HHI.out
        generalize accT ⟨(k : Int) + 1, a, b, c, n, s⟩ (k + 1) (l.take j) = A at hA HTK ⊢
        generalize slotT ⟨(k : Int) + 1, a, b, c, n, s⟩ l[j] = T at hL HTK HIT
        generalize l[j] = lj at hrow HIT
        go_wp2_with (go_at_call 61; refine (HIT.out _ (hP.below HSR.out.bel)).mono ?_; rintro e w3 ⟨rfl, hb3⟩; have HS3 : Hid (St w w3 w.heap.size (w1.heap.size + 1 + 1) ⟨(k : Int) + 1, a, b, c, n, s⟩ l) := HSR.out.below hb3; clear hb3)
        go_roundw
        case rel => exact ⟨j + 1, by omega, by go_num, by rw [HTK.out, cat_br], HS3.out⟩
        case measure => simp [intOf]; omega
      · have HJ : Hid (l.take j = l) := by show _ = _; exact List.take_of_length_le (by omega)
        go_wp2
        go_ret
        exact ⟨by rw [HR.out, HJ.out]; rfl, HSR.out.bel⟩
  · have HR : Hid (textI ⟨op, a, b, c, n, s⟩ = []) := textI_out _ ho
    go_wp2
    go_ret
    exact ⟨by rw [HR.out]; rfl, HB1.out.alloc (HB1.out.size) _⟩
end Go.Proofs.YtgdlkekjbdkjjaaGreatDoor.Code
