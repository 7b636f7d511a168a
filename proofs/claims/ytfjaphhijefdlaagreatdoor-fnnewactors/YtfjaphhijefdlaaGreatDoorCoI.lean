/-
  The program's InsOk: it answers implOk.
-/
import Derived.Test.YtfjaphhijefdlaaGreatDoorCoH
namespace Go.Proofs.YtfjaphhijefdlaaGreatDoor.Code
open Go.RowKit
open Go.Proofs.YtfjaphhijefdlaaGreatDoor.Atom
set_option linter.unusedVariables false

theorem names_len (k : Nat) (hk : k < 20) : 1 ≤ (names (k + 1)).length ∧ (names (k + 1)).length ≤ 3 := by
  rcases below20 hk with rfl | rfl | rfl | rfl | rfl | rfl | rfl | rfl | rfl | rfl | rfl | rfl | rfl | rfl | rfl | rfl | rfl | rfl | rfl | rfl <;> decide
theorem names_in (k : Nat) (hk : k < 20) (j : Nat) (hj : j < (names (k + 1)).length) : 1 ≤ (names (k + 1))[j] ∧ (names (k + 1))[j] ≤ 9 := by
  have : ∀ x ∈ names (k + 1), 1 ≤ x ∧ x ≤ 9 := by
    rcases below20 hk with rfl | rfl | rfl | rfl | rfl | rfl | rfl | rfl | rfl | rfl | rfl | rfl | rfl | rfl | rfl | rfl | rfl | rfl | rfl | rfl <;> decide
  exact this _ (List.getElem_mem hj)

theorem nz {a : Nat} (h : 1 ≤ a) : ((a : Int) != 0) = true := by simp; omega
theorem slots_of : ∀ (l : List Nat), (∀ j (hj : j < l.length), 1 ≤ l[j]) → 1 ≤ l.length → l.length ≤ 3 → ∀ (w : World),
    Calls Tryz.prog 88 #[.agg #[.int .i64 ((l.getD 0 0 : Nat) : Int), .int .i64 ((l.getD 1 0 : Nat) : Int), .int .i64 ((l.getD 2 0 : Nat) : Int)]] w fun e w' => e = .returned (.slice (some ⟨w.heap.size + 1, 0, none⟩) l.length 3) ∧ Below w.heap.size w w' ∧ ∀ j (hj : j < l.length), w'.cell? ⟨w.heap.size + 1, j, none⟩ = some (.int .i64 (l[j] : Nat))
  | [a], h, _, _, w => (slots_1 (a : Int) w (nz (h 0 (by simp)))).mono fun e w' ⟨he, hb, h0⟩ => ⟨he, hb, fun j hj => by
      have hj' : j < 1 := hj
      obtain rfl : j = 0 := by omega
      exact h0⟩
  | [a, b], h, _, _, w => (slots_2 (a : Int) (b : Int) w (nz (h 0 (by simp))) (nz (h 1 (by simp)))).mono fun e w' ⟨he, hb, h0, h1⟩ => ⟨he, hb, fun j hj => by
      have hj' : j < 2 := hj
      have : j = 0 ∨ j = 1 := by omega
      rcases this with rfl | rfl
      · exact h0
      · exact h1⟩
  | [a, b, c], h, _, _, w => (slots_3 (a : Int) (b : Int) (c : Int) w (nz (h 0 (by simp))) (nz (h 1 (by simp))) (nz (h 2 (by simp)))).mono fun e w' ⟨he, hb, h0, h1, h2⟩ => ⟨he, hb, fun j hj => by
      have hj' : j < 3 := hj
      have : j = 0 ∨ j = 1 ∨ j = 2 := by omega
      rcases this with rfl | rfl | rfl
      · exact h0
      · exact h1
      · exact h2⟩
  | [], _, h, _, _ => absurd h (by simp)
  | _ :: _ :: _ :: _ :: _, _, _, h, _ => absurd h (by simp)
/-- The list of slots of the k-th shape, as the program makes it. -/
theorem slots_any (k : Nat) (hk : k < 20) (w : World) :
    Calls Tryz.prog 88 #[.agg #[.int .i64 (nm (k + 1) 0), .int .i64 (nm (k + 1) 1), .int .i64 (nm (k + 1) 2)]] w fun e w' => e = .returned (.slice (some ⟨w.heap.size + 1, 0, none⟩) (names (k + 1)).length 3) ∧ Below w.heap.size w w' ∧ ∀ j (hj : j < (names (k + 1)).length), w'.cell? ⟨w.heap.size + 1, j, none⟩ = some (.int .i64 ((names (k + 1))[j] : Nat)) :=
  slots_of (names (k + 1)) (fun j hj => (names_in k hk j hj).1) (names_len k hk).1 (names_len k hk).2 w

theorem setBelow {w w' : World} {R : Nat} (h : ∃ i v, w' = w.setCell ⟨R, i, none⟩ v) (B : Nat) (hB : B ≤ R) : Below B w w' := by
  obtain ⟨i, v, rfl⟩ := h
  exact (Below.refl _ w).setCell hB v
theorem setOther {w w' : World} {R : Nat} (h : ∃ i v, w' = w.setCell ⟨R, i, none⟩ v) {b i : Nat} (hb : b ≠ R) : w'.cell? ⟨b, i, none⟩ = w.cell? ⟨b, i, none⟩ := by
  obtain ⟨j, v, rfl⟩ := h
  exact World.cell?_of_block (w := w) (Below.heap_setCell w ⟨R, j, none⟩ v b hb)
theorem setSize {w w' : World} {R : Nat} (h : ∃ i v, w' = w.setCell ⟨R, i, none⟩ v) : w'.heap.size = w.heap.size := by
  obtain ⟨j, v, rfl⟩ := h
  simp [World.setCell]

/-- What the loop over the slots has in hand: the instruction x in its box B, what is left of it, y, in the block R, the slots l in the block L. -/
structure Sl (w wr : World) (B R L : Nat) (x y : I) (l : List Nat) : Prop where
  bel : Below w.heap.size w wr
  box : Bx6 wr B 0 x
  rest : wr.heap[R]? = some (.cells (insV y) 77 (0, 0))
  row : ∀ j (hj : j < l.length), wr.cell? ⟨L, j, none⟩ = some (.int .i64 (l[j] : Nat))
theorem Sl.below {w wr w' : World} {B R L : Nat} {x y : I} {l : List Nat} (h : Sl w wr B R L x y l) (hl : 0 < l.length) (hb : Below wr.heap.size wr w') : Sl w w' B R L x y l :=
  ⟨h.bel.trans (hb.mono h.bel.size), h.box.below hb, (hb.block _ (blk_lt h.rest)).trans h.rest, fun j hj => by
    rw [hb.cell (p := ⟨L, j, none⟩) (World.block_lt_of_cell? wr _ (h.row j hj))]; exact h.row j hj⟩
theorem Sl.set {w wr w' : World} {B R L : Nat} {x y z : I} {l : List Nat} (h : Sl w wr B R L x y l) (hR : w.heap.size ≤ R) (hB : B ≠ R) (hL : L ≠ R) (hw : ∃ i v, w' = wr.setCell ⟨R, i, none⟩ v) (hz : w'.heap[R]? = some (.cells (insV z) 77 (0, 0))) : Sl w w' B R L x z l :=
  ⟨h.bel.trans (setBelow hw _ hR), ⟨(setOther hw hB).trans h.box.c0, (setOther hw hB).trans h.box.c1, (setOther hw hB).trans h.box.c2, (setOther hw hB).trans h.box.c3, (setOther hw hB).trans h.box.c4, (setOther hw hB).trans h.box.c5⟩, hz, fun j hj => (setOther hw hL).trans (h.row j hj)⟩

theorem bare_eq (x y : I) (h : y.op = x.op) : eqI y ⟨x.op, 0, 0, 0, 0, ByteArray.empty⟩ = bare y := by
  unfold eqI bare
  rw [h, ByteArray.toList_eq]
  have : (y.s.data.toList == (ByteArray.empty).toList) = y.s.data.toList.isEmpty := by
    rw [show (ByteArray.empty).toList = [] from by rw [ByteArray.toList_eq]; rfl]
    cases y.s.data.toList <;> rfl
  rw [this]; simp
theorem blank_op (x : I) (k : Nat) : (blank x k).op = x.op := by unfold blank; split <;> rfl
theorem blanks_op (l : List Nat) : ∀ x : I, (blanks x l).op = x.op := by
  induction l with
  | nil => intro x; rfl
  | cons k l ih => intro x; show (blanks (blank x k) l).op = _; rw [ih, blank_op]
theorem blanks_take (x : I) (l : List Nat) (j : Nat) (hj : j < l.length) : blanks x (l.take (j + 1)) = blank (blanks x (l.take j)) l[j] := by
  unfold blanks
  rw [List.take_succ_eq_append_getElem hj, List.foldl_append]; rfl

set_option maxHeartbeats 2000000 in
theorem implIns_any (op a b c n N : Int) (s : ByteArray) (w : World) (hs : s.size ≤ maxLen) (hS : Shp w) :
    Calls Tryz.prog 73 #[.agg #[.int .i64 op, .int .i64 a, .int .i64 b, .int .i64 c, .int .i64 n, .string s], .int .i64 N] w fun e w' => e = .returned (.bool (implOk ⟨op, a, b, c, n, s⟩ N)) ∧ Below w.heap.size w w' := by
  have hbn := (Below.refl w.heap.size w).alloc (Nat.le_refl _) (.cells #[.int .i64 op, .int .i64 a, .int .i64 b, .int .i64 c, .int .i64 n, .string s] 77)
  have HB0 : Hid (Below w.heap.size w (w.alloc (.cells #[.int .i64 op, .int .i64 a, .int .i64 b, .int .i64 c, .int .i64 n, .string s] 77))) := hbn
  have HX0 : Hid (Bx6 (w.alloc (.cells #[.int .i64 op, .int .i64 a, .int .i64 b, .int .i64 c, .int .i64 n, .string s] 77)) w.heap.size 0 ⟨op, a, b, c, n, s⟩) := box_new op a b c n s w
  have HS0 : Hid (Shp (w.alloc (.cells #[.int .i64 op, .int .i64 a, .int .i64 b, .int .i64 c, .int .i64 n, .string s] 77))) := hS.below hbn
  clear hbn
  go_enter Tryz.func73, Tryz.ntmps73
  go_wp2_with (go_at_call 86; fail)
  refine (shapeInt_any op _ HS0.out).mono ?_
  rintro e w1 ⟨hcase, hb1⟩
  have HB1 : Hid (Below w.heap.size w w1) := HB0.out.trans (hb1.mono HB0.out.size)
  have HX1 : Hid (Bx6 w1 w.heap.size 0 ⟨op, a, b, c, n, s⟩) := HX0.out.below hb1
  clear hb1 HB0 HX0 HS0
  rcases hcase with ⟨k, hk, rfl, rfl⟩ | ⟨ho, rfl⟩
  · cases hN : Atom.inB N 1 200
    · have HR : Hid (implOk ⟨(k : Int) + 1, a, b, c, n, s⟩ N = false) := by show _ = _; unfold implOk; rw [hN]; simp
      have hN' : N < 1 ∨ 200 < N := by have := of_decide_eq_false hN; omega
      clear hN
      rcases hN' with hN' | hN'
      · go_wp2
        go_ret
        exact ⟨ret_bool HR.out.symm, HB1.out.alloc (HB1.out.size) _⟩
      · go_wp2
        go_ret
        exact ⟨ret_bool HR.out.symm, HB1.out.alloc (HB1.out.size) _⟩
    · have hN1 : 1 ≤ N := (of_decide_eq_true hN).1
      have hN2 : N ≤ 200 := (of_decide_eq_true hN).2
      have HR : Hid (implOk ⟨(k : Int) + 1, a, b, c, n, s⟩ N = ((names (k + 1)).all (right ⟨(k : Int) + 1, a, b, c, n, s⟩ N) && bare (blanks ⟨(k : Int) + 1, a, b, c, n, s⟩ (names (k + 1))))) := by
        show _ = _; unfold implOk; rw [hN, show Atom.inB ((k : Int) + 1) 1 20 = true from decide_eq_true (by omega)]; rfl
      clear hN
      have hq : ∀ o, Bx6 (w1.alloc o) w.heap.size 0 ⟨(k : Int) + 1, a, b, c, n, s⟩ := fun o => HX1.out.below ((Below.refl _ w1).alloc (Nat.le_refl _) o)
      have q0 := fun o => (hq o).c0
      have q1 := fun o => (hq o).c1
      have q2 := fun o => (hq o).c2
      have q3 := fun o => (hq o).c3
      have q4 := fun o => (hq o).c4
      have q5 := fun o => (hq o).c5
      simp only [Nat.zero_add] at q0 q1 q2 q3 q4 q5
      clear hq
      go_wp2_with (go_at_call 88; fail)
      refine (slots_any k hk _).mono ?_
      rintro e w2 ⟨rfl, hb2, hrow⟩
      have HSl : Hid (Sl w w2 w.heap.size (w1.heap.size + 1) (w1.heap.size + 1 + 1 + 1) ⟨(k : Int) + 1, a, b, c, n, s⟩ ⟨(k : Int) + 1, a, b, c, n, s⟩ (names (k + 1))) := by
        have hA := ((Below.refl w1.heap.size w1).alloc (Nat.le_refl _) (.cells #[.int .i64 ((k : Int) + 1), .string (wordT (k + 1)), .int .i64 (nm (k + 1) 0), .int .i64 (nm (k + 1) 1), .int .i64 (nm (k + 1) 2)] 162)).alloc (by simp) (.cells (insV ⟨(k : Int) + 1, a, b, c, n, s⟩) 77)
        have hC : Below w1.heap.size w1 w2 := hA.trans (hb2.mono hA.size)
        refine ⟨HB1.out.trans (hC.mono HB1.out.size), HX1.out.below hC, ?_, fun j hj => by simpa using hrow j hj⟩
        rw [hb2.block _ (by simp)]
        show (Array.push _ _)[_]? = _
        rw [Array.getElem?_push, if_pos (by simp)]
        rfl
      have HNE : Hid (w.heap.size ≠ w1.heap.size + 1 ∧ w.heap.size ≤ w1.heap.size + 1) := by have := HB1.out.size; exact ⟨by omega, by omega⟩
      have HLN : Hid ((∀ j (hj : j < (names (k + 1)).length), 1 ≤ (names (k + 1))[j] ∧ (names (k + 1))[j] ≤ 9) ∧ 1 ≤ (names (k + 1)).length ∧ (names (k + 1)).length ≤ 3) := ⟨names_in k hk, names_len k hk⟩
      clear hb2 hrow HX1 HB1 q0 q1 q2 q3 q4 q5
      generalize names (k + 1) = l at HR HSl HLN ⊢
      generalize hz : (⟨(k : Int) + 1, a, b, c, n, s⟩ : I) = z at HR HSl
      have HZ : Hid ((⟨(k : Int) + 1, a, b, c, n, s⟩ : I) = z) := hz
      have HZO : Hid (z.op = (k : Int) + 1) := by show _ = _; rw [← hz]
      clear hz
      have hml : l.length ≤ 3 := HLN.out.2.2
      go_wp2_with fail
      go_loopw [31] (fun i wr => ∃ j : Nat, j ≤ l.length ∧ i = .int .i64 j ∧ Sl w wr w.heap.size (w1.heap.size + 1) (w1.heap.size + 1 + 1 + 1) z (blanks z (l.take j)) l ∧ (l.take j).all (right z N) = true) (fun i wr => l.length - (intOf i).toNat)
      case atStart => exact ⟨0, Nat.zero_le _, rfl, HSl.out, rfl⟩
      case round =>
        obtain ⟨j, hj, rfl, hsl, hall⟩ := hrel
        have HSR : Hid (Sl w wr w.heap.size (w1.heap.size + 1) (w1.heap.size + 1 + 1 + 1) z (blanks z (l.take j)) l) := hsl
        have HAL : Hid ((l.take j).all (right z N) = true) := hall
        clear hsl hall HSl
        have hbx := HSR.out.box
        rw [← HZ.out] at hbx
        have c0 := hbx.c0
        have c1 := hbx.c1
        have c2 := hbx.c2
        have c3 := hbx.c3
        have c4 := hbx.c4
        have c5 := hbx.c5
        simp only [Nat.zero_add] at c0 c1 c2 c3 c4 c5
        clear hbx
        by_cases hlt : j < l.length
        · have hrow := HSR.out.row j hlt
          have HIR : Hid (∀ w', Calls Tryz.prog 89 #[.int .i64 ((l[j] : Nat) : Int), .agg #[.int .i64 ((k : Int) + 1), .int .i64 a, .int .i64 b, .int .i64 c, .int .i64 n, .string s], .int .i64 N] w' fun e w'' => e = .returned (.bool (right z N l[j])) ∧ Below w'.heap.size w' w'') := fun w' => by
            rw [← HZ.out]; exact isRight_any l[j] (HLN.out.1 j hlt).1 (HLN.out.1 j hlt).2 _ a b c n N s w' hs
          have HTK : Hid ((l.take (j + 1)).all (right z N) = right z N l[j]) := by
            show _ = _
            rw [List.take_succ_eq_append_getElem hlt, List.all_append, HAL.out]; simp
          have HBL : Hid (∀ w3, Sl w w3 w.heap.size (w1.heap.size + 1) (w1.heap.size + 1 + 1 + 1) z (blanks z (l.take j)) l → Calls Tryz.prog 90 #[.int .i64 ((l[j] : Nat) : Int), .pointer (some ⟨w1.heap.size + 1, 0, none⟩)] w3 fun e w' => e = .returned (.tuple #[]) ∧ Sl w w' w.heap.size (w1.heap.size + 1) (w1.heap.size + 1 + 1 + 1) z (blanks z (l.take (j + 1))) l) := fun w3 h3 => by
            refine (blank_any l[j] (HLN.out.1 j hlt).1 (HLN.out.1 j hlt).2 _ _ w3 h3.rest).mono ?_
            rintro e w' ⟨rfl, hr, hw⟩
            refine ⟨rfl, h3.set HNE.out.2 HNE.out.1 (by omega) hw ?_⟩
            rw [blanks_take z l j hlt]; exact hr
          generalize hlj : l[j] = lj at hrow HIR HTK HBL
          have HLJ : Hid (l[j] = lj) := hlj
          clear hlj
          cases hr : right z N lj
          · have HRF : Hid (implOk ⟨(k : Int) + 1, a, b, c, n, s⟩ N = false) := by
              show _ = _
              rw [HZ.out, HR.out, Bool.and_eq_false_iff]
              left
              rw [List.all_eq_false]
              exact ⟨l[j], List.getElem_mem hlt, by rw [HLJ.out, hr]; simp⟩
            go_wp2_with (go_at_call 89; refine (HIR.out _).mono ?_; rintro e w3 ⟨rfl, hb3⟩; have HB3 : Hid (Below wr.heap.size wr w3) := hb3; clear hb3)
            go_ret
            exact ⟨ret_bool HRF.out.symm, HSR.out.bel.trans (HB3.out.mono HSR.out.bel.size)⟩
          · go_wp2_with (first
              | (go_at_call 89; refine (HIR.out _).mono ?_; rintro e w3 ⟨rfl, hb3⟩; have HB3 : Hid (Sl w w3 w.heap.size (w1.heap.size + 1) (w1.heap.size + 1 + 1 + 1) z (blanks z (l.take j)) l) := HSR.out.below (Nat.lt_of_lt_of_le (Nat.zero_lt_succ _) HLN.out.2.1) hb3; clear hb3)
              | (go_at_call 90; refine (HBL.out _ HB3.out).mono ?_; rintro e w4 ⟨rfl, hs4⟩; have HS4 : Hid (Sl w w4 w.heap.size (w1.heap.size + 1) (w1.heap.size + 1 + 1 + 1) z (blanks z (l.take (j + 1))) l) := hs4; clear hs4))
            go_roundw
            case rel => exact ⟨j + 1, by omega, by go_num, HS4.out, by rw [HTK.out, hr]⟩
            case measure => simp [intOf]; omega
        · have hje : j = l.length := by omega
          have hA2 := HAL.out
          have hR2 := HSR.out.rest
          rw [hje, List.take_length] at hA2 hR2
          have hop := blanks_op l z
          rw [HZO.out] at hop
          have HFI : Hid (implOk ⟨(k : Int) + 1, a, b, c, n, s⟩ N = bare (blanks z l)) := by
            show _ = _
            rw [HZ.out, HR.out, hA2]; rfl
          have HEQ : Hid (eqI (blanks z l) ⟨(k : Int) + 1, 0, 0, 0, 0, ByteArray.empty⟩ = bare (blanks z l)) := by
            have := bare_eq z (blanks z l) (blanks_op l z)
            rw [HZO.out] at this
            exact this
          generalize blanks z l = y at hR2 hop HFI HEQ
          obtain ⟨yo, ya, yb, yc, yn, ys⟩ := y
          have y0 := blk_at hR2 0
          have y1 := blk_at hR2 1
          have y2 := blk_at hR2 2
          have y3 := blk_at hR2 3
          have y4 := blk_at hR2 4
          have y5 := blk_at hR2 5
          simp only [insV, List.getElem?_toArray, List.getElem?_cons_zero, List.getElem?_cons_succ] at y0 y1 y2 y3 y4 y5
          clear hje hA2 hR2 hop
          go_wp2
          all_goals go_ret
          all_goals exact ⟨ret_bool (by rw [HFI.out, ← HEQ.out]; simp_all [eqI]), HSR.out.bel⟩
  · have HR : Hid (implOk ⟨op, a, b, c, n, s⟩ N = false) := by show _ = _; unfold implOk; simp only [ho]; rfl
    go_wp2
    go_ret
    exact ⟨ret_bool HR.out.symm, HB1.out.alloc (HB1.out.size) _⟩
end Go.Proofs.YtfjaphhijefdlaaGreatDoor.Code
