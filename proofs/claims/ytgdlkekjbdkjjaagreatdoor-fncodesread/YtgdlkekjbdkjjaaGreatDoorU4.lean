/-
  The program's shapeBy by a word, and its read of a word into a slot.
-/
import Derived.Test.YtgdlkekjbdkjjaaGreatDoorU1
import Derived.Test.YtgdlkekjbdkjjaaGreatDoorCtC
import Derived.Test.YtgdlkekjbdkjjaaGreatDoorTuA
namespace Go.Proofs.YtgdlkekjbdkjjaaGreatDoor.Code
open Go.RowKit
open Go.Proofs.YtgdlkekjbdkjjaaGreatDoor.Atom
set_option linter.unusedVariables false

theorem word_beq (k : Nat) (key : ByteArray) : ((wordT k).toList == key.toList) = decide (word k = dat key) := by
  rw [Bool.eq_iff_iff, beq_iff_eq, decide_eq_true_eq, ByteArray.toList_eq, ByteArray.toList_eq]
  show (word k) = dat key ↔ _
  exact Iff.rfl

set_option maxHeartbeats 2000000 in
theorem shapeWord_any (key : ByteArray) (w : World) (hS : Shp w) (hk : key.size ≤ maxLen) :
    Calls Tryz.prog 66 #[.string key, .func (.func 67) #[] #[]] w fun e w' => ((∃ k : Nat, k < 20 ∧ findW (dat key) 0 20 = some k ∧ e = .returned (.tuple #[.agg #[.int .i64 ((k : Int) + 1), .string (wordT (k + 1)), .int .i64 (nm (k + 1) 0), .int .i64 (nm (k + 1) 1), .int .i64 (nm (k + 1) 2)], .bool true]))
      ∨ findW (dat key) 0 20 = none ∧ e = .returned (.tuple #[.agg #[.int .i64 0, .string ByteArray.empty, .int .i64 0, .int .i64 0, .int .i64 0], .bool false])) ∧ Below w.heap.size w w' := by
  have hSl := hS.lt
  have hS2 := hS
  obtain ⟨tt, fr, hg⟩ := hS
  have hg1 : ∀ o, (w.alloc o).heap[1]? = some (.cells tabV tt fr) := fun o => (Below.heap_alloc _ _ _ hSl).trans hg
  have hIX : ∀ k : Nat, k < 20 → ∀ w, _ := fun k hk w => index_tab k hk w
  go_enter Tryz.func66, Tryz.ntmps66
  go_wp2_with (refine wpList_load_row rfl 130 _ rfl 1 rfl tt _ fr _ (hg1 _) Tryz.underlying130 rfl (by kernel_rfl) ?_)
  go_loopw [9] (fun i wr => ∃ k : Nat, k ≤ 20 ∧ i = .int .i64 k ∧ Below w.heap.size w wr ∧ wr.heap[w.heap.size]? = some (.cells #[.int .i64 0, .string ByteArray.empty, .int .i64 0, .int .i64 0, .int .i64 0] 98 (0, 0)) ∧ findW (dat key) 0 20 = findW (dat key) k (20 - k)) (fun i wr => 20 - (intOf i).toNat)
  case atStart =>
    refine ⟨0, Nat.zero_le _, rfl, (Below.refl _ w).alloc (Nat.le_refl _) _, ?_, rfl⟩
    show (w.heap.push _)[w.heap.size]? = _
    simp
    rfl
  case round =>
    obtain ⟨k, hk, rfl, hbr, hR, hno⟩ := hrel
    have HBR : Hid (Below w.heap.size w wr) := hbr
    have HNO : Hid (findW (dat key) 0 20 = findW (dat key) k (20 - k)) := hno
    have HRL : Hid (w.heap.size < wr.heap.size) := blk_lt hR
    clear hbr hno
    by_cases hlt : k < 20
    · have hix := index_tab k hlt
      have HR2 := fun o1 o2 => blk_2 hR o1 o2
      have r0 := fun o1 o2 => blk_at (HR2 o1 o2) 0
      have r1 := fun o1 o2 => blk_at (HR2 o1 o2) 1
      have r2 := fun o1 o2 => blk_at (HR2 o1 o2) 2
      have r3 := fun o1 o2 => blk_at (HR2 o1 o2) 3
      have r4 := fun o1 o2 => blk_at (HR2 o1 o2) 4
      have rf := fun o1 o2 i => blk_free (HR2 o1 o2) i
      simp only [List.getElem?_toArray, List.getElem?_cons_zero, List.getElem?_cons_succ] at r0 r1 r2 r3 r4
      clear HR2
      have HST : Hid (findW (dat key) k (20 - k) = if word (k + 1) = dat key then some k else findW (dat key) (k + 1) (20 - (k + 1))) := by
        show _ = _
        rw [show 20 - k = (20 - (k + 1)) + 1 by omega, findW]
      cases he : ((wordT (k + 1)).toList == key.toList)
      · go_wp2
        go_roundw
        case rel =>
          refine ⟨k + 1, by omega, by go_num, (HBR.out.alloc (Nat.le_of_lt HRL.out) _).alloc (by simp; have := HRL.out; omega) _, blk_2 hR _ _, ?_⟩
          rw [word_beq] at he
          rw [HNO.out, HST.out, if_neg (of_decide_eq_false he)]
        case measure => simp [intOf]; omega
      · go_wp2
        have hW := set_blk5 (blk_2 hR (.cells #[.int .i64 ((k : Int) + 1), .string (wordT (k + 1)), .int .i64 (nm (k + 1) 0), .int .i64 (nm (k + 1) 1), .int .i64 (nm (k + 1) 2)] 98) (.cells #[.int .i64 ((k : Int) + 1), .string (wordT (k + 1)), .int .i64 (nm (k + 1) 0), .int .i64 (nm (k + 1) 1), .int .i64 (nm (k + 1) 2)] 98)) (.int .i64 ((k : Int) + 1)) (.string (wordT (k + 1))) (.int .i64 (nm (k + 1) 0)) (.int .i64 (nm (k + 1) 1)) (.int .i64 (nm (k + 1) 2))
        rw [word_beq] at he
        refine bodyPost_ret (res_shape Tryz.results66 hW rfl rfl) rfl ⟨.inl ⟨k, hlt, by rw [HNO.out, HST.out, if_pos (of_decide_eq_true he)], rfl⟩, ?_⟩
        exact (((((((HBR.out.alloc (Nat.le_of_lt HRL.out) _).alloc (by simp; have := HRL.out; omega) _).setCell (Nat.le_refl _) _).setCell (Nat.le_refl _) _).setCell (Nat.le_refl _) _).setCell (Nat.le_refl _) _).setCell (Nat.le_refl _) _)
    · have r0 := blk_at hR 0
      have r1 := blk_at hR 1
      have r2 := blk_at hR 2
      have r3 := blk_at hR 3
      have r4 := blk_at hR 4
      have rf := fun i => blk_free hR i
      simp only [List.getElem?_toArray, List.getElem?_cons_zero, List.getElem?_cons_succ] at r0 r1 r2 r3 r4
      go_wp2
      have hW := set_blk5 hR (.int .i64 0) (.string ByteArray.empty) (.int .i64 0) (.int .i64 0) (.int .i64 0)
      refine bodyPost_ret (res_shape Tryz.results66 hW rfl rfl) rfl ⟨.inr ⟨?_, rfl⟩, ?_⟩
      · rw [HNO.out, show 20 - k = 0 by omega]; rfl
      · exact (((((HBR.out.setCell (Nat.le_refl _) _).setCell (Nat.le_refl _) _).setCell (Nat.le_refl _) _).setCell (Nat.le_refl _) _).setCell (Nat.le_refl _) _)

/-- The variables of Go's library that are read on the road. -/
structure Glo (w : World) : Prop where
  mx : ∃ m : Int, w.cell? ⟨2, 0, none⟩ = some (.int .i64 m)
  sy : ∃ ev, w.cell? ⟨4, 0, none⟩ = some ev ∧ (ev = .nilIface ∨ ∃ te pe, ev = .iface te pe)
  rg : ∃ ev, w.cell? ⟨5, 0, none⟩ = some ev ∧ (ev = .nilIface ∨ ∃ te pe, ev = .iface te pe)
theorem Glo.below {w w' : World} (h : Glo w) (hb : Below w.heap.size w w') : Glo w' := by
  obtain ⟨m, h1⟩ := h.mx
  obtain ⟨e1, h2, h3⟩ := h.sy
  obtain ⟨e2, h4, h5⟩ := h.rg
  exact ⟨⟨m, (hb.cell (World.block_lt_of_cell? w _ h1)).trans h1⟩, ⟨e1, (hb.cell (World.block_lt_of_cell? w _ h2)).trans h2, h3⟩, ⟨e2, (hb.cell (World.block_lt_of_cell? w _ h4)).trans h4, h5⟩⟩
/-- strconv.Atoi at every text: a number and no error, or an error. -/
theorem atoi_any (s : ByteArray) (hs : s.size ≤ 1048576) (w : World) (hG : Glo w) :
    Calls Tryz.prog 87 #[.string s] w fun e w' => ((∃ v, Lib.atoiAll (dat s) = .ok v ∧ e = .returned (.tuple #[.int .i64 v, .nilIface])) ∨ ((∀ v, Lib.atoiAll (dat s) ≠ .ok v) ∧ ∃ v t p, e = .returned (.tuple #[.int .i64 v, .iface t p]))) ∧ Below w.heap.size w w' := by
  obtain ⟨e1, h2, h3⟩ := hG.sy
  obtain ⟨e2, h4, h5⟩ := hG.rg
  rcases h : Lib.atoiAll (dat s) with v | _ | _
  · refine (Tryz.strconv_Atoi_ok s (by omega) v h w).mono ?_
    rintro e w' ⟨rfl, hw⟩
    refine ⟨.inl ⟨v, rfl, rfl⟩, ?_⟩
    rcases hw with rfl | ⟨t, rfl⟩
    · exact Below.refl _ _
    · exact Lib.bytesWorld_below _ _ _
  · refine (Tryz.strconv_Atoi_syntax s (by omega) h e1 w h2 h3).mono ?_
    rintro e w' ⟨N, rfl, _, _, hb⟩
    exact ⟨.inr ⟨fun v hv => (nomatch hv), _, _, _, rfl⟩, hb⟩
  · refine (Tryz.strconv_Atoi_range s (by omega) h e2 w h4 h5).mono ?_
    rintro e w' ⟨N, rfl, _, _, hb⟩
    exact ⟨.inr ⟨fun v hv => (nomatch hv), _, _, _, rfl⟩, hb⟩

theorem clone_any (s : ByteArray) (w : World) (hs : s.size ≤ 1048576) :
    Calls Tryz.prog 86 #[.string s] w fun e w' => e = .returned (.string s) ∧ Below w.heap.size w w' := by
  go_enter Tryz.func86, Tryz.ntmps86
  go_wp2_with (go_at_call 102; fail)
  refine (Tryz.stringslite_Clone s w (by omega)).mono ?_
  rintro e w1 ⟨rfl, hb⟩
  have HB : Hid (Below w.heap.size w w1) := hb
  clear hb
  go_wp2_with fail
  go_ret
  exact ⟨rfl, HB.out⟩

theorem fld_lt (k : Nat) : fld k < 6 := by unfold fld; split <;> omega
theorem setN_ins (x : I) (k : Nat) (h1 : 1 ≤ k) (h8 : k ≤ 8) (v : Int) : (insV x).setIfInBounds (fld k) (.int .i64 v) = insV (setN x k v) := by
  have : k = 1 ∨ k = 2 ∨ k = 3 ∨ k = 4 ∨ k = 5 ∨ k = 6 ∨ k = 7 ∨ k = 8 := by omega
  rcases this with rfl | rfl | rfl | rfl | rfl | rfl | rfl | rfl <;> rfl

/-- The program's read: a slot is set, or an error told. -/
theorem read_any (k : Nat) (h1 : 1 ≤ k) (h9 : k ≤ 9) (X : Nat) (x : I) (wd : ByteArray) (w : World) (hG : Glo w) (hs : wd.size ≤ 1048576) (h : w.heap[X]? = some (.cells (insV x) 47 (0, 0))) :
    Calls Tryz.prog 69 #[.int .i64 (k : Int), .pointer (some ⟨X, 0, none⟩), .string wd] w fun e w' =>
      ((∃ y, setSl x k (dat wd) = some y ∧ e = .returned .nilIface ∧ w'.heap[X]? = some (.cells (insV y) 47 (0, 0))) ∨ (setSl x k (dat wd) = none ∧ (∃ t, e = .returned (.iface 81 (.string t))) ∧ w'.heap[X]? = some (.cells (insV x) 47 (0, 0)))) ∧ Turn X w w' := by
  have hXl := blk_lt h
  by_cases e9 : k = 9
  · subst e9
    have HSL : Hid (setSl x 9 (dat wd) = some { x with s := wd }) := by
      show _ = _; unfold setSl; rw [if_pos rfl, dat_back]
    go_enter Tryz.func69, Tryz.ntmps69
    go_wp2_with (go_at_call 86; fail)
    refine (clone_any wd w hs).mono ?_
    rintro e w1 ⟨rfl, hb⟩
    have hX1 := (hb.block X hXl).trans h
    have c5 := blk_at hX1 5
    have f5 := fun i => blk_free hX1 i
    simp only [insV, List.getElem?_toArray, List.getElem?_cons_zero, List.getElem?_cons_succ] at c5
    have HXN : Hid ((w1.setCell ⟨X, 5, none⟩ (.string wd)).heap[X]? = some (.cells (insV { x with s := wd }) 47 (0, 0)) ∧ Turn X w (w1.setCell ⟨X, 5, none⟩ (.string wd))) :=
      ⟨by rw [set_blk hX1]; rfl, (Turn.of_below hb).set 5 _⟩
    clear hb hX1 h hG
    go_wp2_with fail
    go_ret
    exact ⟨.inl ⟨_, HSL.out, rfl, HXN.out.1⟩, HXN.out.2⟩
  · have h8 : k ≤ 8 := by omega
    have k9 : ((k : Int) == 9) = false := by simp; omega
    have HSL : Hid (setSl x k (dat wd) = match Lib.atoiAll (dat wd) with | .ok v => some (setN x k v) | _ => none) := by show _ = _; unfold setSl; rw [if_neg e9]; rcases Lib.atoiAll (dat wd) with _ | _ | _ <;> rfl
    have KN : Hid (∀ w, Calls Tryz.prog 82 #[.int .i64 (k : Int), .pointer (some ⟨X, 0, none⟩)] w fun e w' => e = .returned (.pointer (some ⟨X, fld k, none⟩)) ∧ w' = w) := fun w => by
      have := number_any k h1 h9 X 0 w
      rw [Nat.zero_add] at this; exact this
    go_enter Tryz.func69, Tryz.ntmps69
    go_wp2_with (go_at_call 87; fail)
    refine (atoi_any wd hs w hG).mono ?_
    rintro e w1 ⟨hor, hb⟩
    have hX1 := (hb.block X hXl).trans h
    rcases hor with ⟨v, hv, rfl⟩ | ⟨hv, v, t, p, rfl⟩
    · have HS2 : Hid (setSl x k (dat wd) = some (setN x k v)) := by show _ = _; rw [HSL.out, hv]
      have cf : ∃ u, w1.cell? ⟨X, fld k, none⟩ = some u := by
        rw [blk_at hX1 (fld k), Array.getElem?_eq_getElem (by simpa [insV] using fld_lt k)]; exact ⟨_, rfl⟩
      obtain ⟨u, cf⟩ := cf
      have f5 := fun i => blk_free hX1 i
      have HXN : Hid ((w1.setCell ⟨X, fld k, none⟩ (.int .i64 v)).heap[X]? = some (.cells (insV (setN x k v)) 47 (0, 0)) ∧ Turn X w (w1.setCell ⟨X, fld k, none⟩ (.int .i64 v))) :=
        ⟨by rw [set_blk hX1, setN_ins x k h1 h8 v], (Turn.of_below hb).set _ _⟩
      clear hb hX1 h hG hv HSL
      go_wp2_with (go_at_call 82; refine (KN.out _).mono ?_; rintro e w2 ⟨rfl, hw2⟩; obtain rfl := hw2.symm)
      go_ret
      exact ⟨.inl ⟨_, HS2.out, rfl, HXN.out.1⟩, HXN.out.2⟩
    · have HS2 : Hid (setSl x k (dat wd) = none) := by
        show _ = _
        rw [HSL.out]
        rcases hq : Lib.atoiAll (dat wd) with v | _ | _
        · exact absurd hq (hv v)
        · rfl
        · rfl
      have HXN : Hid (w1.heap[X]? = some (.cells (insV x) 47 (0, 0)) ∧ Turn X w w1) := ⟨hX1, Turn.of_below hb⟩
      clear hb hX1 h hG hv HSL
      go_wp2_with fail
      go_ret
      exact ⟨.inr ⟨HS2.out, ⟨_, rfl⟩, HXN.out.1⟩, HXN.out.2⟩
end Go.Proofs.YtgdlkekjbdkjjaaGreatDoor.Code
