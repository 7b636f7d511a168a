/-
  A line read as an instruction: the specification's l8Ins: it answers insP.
-/
import Derived.Test.YtgdlkekjbdkjjaaGreatDoorPaC
import Derived.Test.YtgdlkekjbdkjjaaGreatDoorCoM
import Derived.Test.YtgdlkekjbdkjjaaGreatDoorCoI
namespace Go.Proofs.YtgdlkekjbdkjjaaGreatDoor.Code
open Go.RowKit
open Go.Proofs.YtgdlkekjbdkjjaaGreatDoor.Atom
set_option linter.unusedVariables false

/-- What the loops over the names and the letters have in hand. -/
structure Ln (w wr : World) (R0 wb nb : Nat) (L : List ByteArray) : Prop where
  bel : Below w.heap.size w wr
  res : wr.heap[R0]? = some (.cells (insV zeroI) 47 (0, 0))
  wds : ∀ j (hj : j < L.length), wr.cell? ⟨wb, j, none⟩ = some (.string L[j])
  nms : ∀ k, k < 20 → wr.cell? ⟨nb, k, none⟩ = some (.string (wordT (k + 1)))
theorem Ln.below {w wr w' : World} {R0 wb nb : Nat} {L : List ByteArray} (h : Ln w wr R0 wb nb L) (hb : Below wr.heap.size wr w') : Ln w w' R0 wb nb L :=
  ⟨h.bel.trans (hb.mono h.bel.size), (hb.block _ (blk_lt h.res)).trans h.res, fun j hj => (hb.cell (p := ⟨wb, j, none⟩) (World.block_lt_of_cell? wr _ (h.wds j hj))).trans (h.wds j hj), fun k hk => (hb.cell (p := ⟨nb, k, none⟩) (World.block_lt_of_cell? wr _ (h.nms k hk))).trans (h.nms k hk)⟩
theorem Ln.set {w wr w' : World} {R0 wb nb X : Nat} {L : List ByteArray} (h : Ln w wr R0 wb nb L) (hX : w.heap.size ≤ X) (n0 : R0 ≠ X) (n1 : wb ≠ X) (n2 : nb ≠ X) (hw : ∃ i v, w' = wr.setCell ⟨X, i, none⟩ v) : Ln w w' R0 wb nb L := by
  have ho : ∀ b, b ≠ X → w'.heap[b]? = wr.heap[b]? := fun b hb => by
    obtain ⟨i, v, rfl⟩ := hw
    exact Below.heap_setCell wr ⟨X, i, none⟩ v b hb
  exact ⟨h.bel.trans (setBelow hw _ hX), (ho _ n0).trans h.res, fun j hj => (setOther hw n1).trans (h.wds j hj), fun k hk => (setOther hw n2).trans (h.nms k hk)⟩

theorem set_blk6 {w : World} {R : Nat} {z0 z1 z2 z3 z4 z5 : Value} {t : TypeId} {f : Nat × Nat} (h : w.heap[R]? = some (.cells #[z0, z1, z2, z3, z4, z5] t f)) (a b c d e g : Value) :
    ((((((w.setCell ⟨R, 0, none⟩ a).setCell ⟨R, 1, none⟩ b).setCell ⟨R, 2, none⟩ c).setCell ⟨R, 3, none⟩ d).setCell ⟨R, 4, none⟩ e).setCell ⟨R, 5, none⟩ g).heap[R]? = some (.cells #[a, b, c, d, e, g] t f) := by
  rw [set_blk (set_blk (set_blk (set_blk (set_blk (set_blk h a) b) c) d) e) g]; rfl
theorem res_ins2 {w : World} {R : Nat} {a b c d e g : Value} {tmps : Array Value} {fn : Func} {q : Bool} (hf : fn.results = #[.cell 2 47, .tmp 3]) (h : w.heap[R]? = some (.cells #[a, b, c, d, e, g] 47 (0, 0)))
    (h4 : tmps.getD 2 undef = .pointer (some ⟨R, 0, none⟩)) (h5 : tmps.getD 3 undef = .bool q) : (results fn tmps).run Tryz.prog w = .ok (.tuple #[.agg #[a, b, c, d, e, g], .bool q]) w := by
  rw [results_cell_tmp hf, h4, h5]
  simp [asAddr, Result.andThen, run_loadVar_row w R 47 47 #[a, b, c, d, e, g] (0, 0) _ h Tryz.underlying47 rfl (by kernel_rfl)]

theorem spl_piece (sep : UInt8) : ∀ (l cur p : List UInt8), p ∈ spl sep cur l → p.length ≤ cur.length + l.length
  | [], cur, p, h => by simp [spl] at h; rw [h]; simp
  | c :: r, cur, p, h => by
    unfold spl at h
    split at h
    · rcases List.mem_cons.1 h with rfl | h
      · simp
      · have := spl_piece sep r [] p h; simp at this ⊢; omega
    · have := spl_piece sep r (cur ++ [c]) p h; simp at this ⊢; omega
theorem word_size (k : Nat) : (wordT k).size ≤ maxLen := Nat.le_trans (by rw [show (wordT k).size = (word k).length by simp [wordT, ByteArray.size]]; exact word_len k) (by unfold maxLen; omega)
theorem dat_word (k : Nat) : dat (wordT k) = word k := by simp [dat, wordT]
theorem dat_inj {a b : ByteArray} (h : dat a = dat b) : a = b := by
  rw [← dat_back a, ← dat_back b, h]
theorem insW_hit (ws : List (List UInt8)) (k m : Nat) (h : some (word (k + 1)) = ws.head?) : insW ws k (m + 1) = setAll (opI k) (decide (ws.length = (uses (k + 1)).length + 1)) (uses (k + 1)) ws.tail := by
  unfold insW; rw [if_pos h]
theorem insW_miss (ws : List (List UInt8)) (k m : Nat) (h : ¬ some (word (k + 1)) = ws.head?) : insW ws k (m + 1) = insW ws (k + 1) m := by
  conv => lhs; unfold insW
  rw [if_neg h]
theorem setAll_step (x : I) (us : List UInt8) (ws : List (List UInt8)) (j : Nat) (hu : j < us.length) (hw : j < ws.length) : setAll x true (us.drop j) (ws.drop j) = setAll (setI x us[j] ws[j]) (setB us[j] ws[j]) (us.drop (j + 1)) (ws.drop (j + 1)) := by
  rw [List.drop_eq_getElem_cons hu, List.drop_eq_getElem_cons hw, setAll, if_pos rfl]

set_option maxHeartbeats 4000000 in
theorem ins_line (line : ByteArray) (w : World) (hs : line.size ≤ 1048576) :
    Calls Tryz.prog 23 #[.string line] w fun e w' => (∃ (op a b c n : Int) (s : ByteArray), e = .returned (.tuple #[.agg #[.int .i64 op, .int .i64 a, .int .i64 b, .int .i64 c, .int .i64 n, .string s], .bool (insP (dat line)).2]) ∧ (insP (dat line)).1 = ⟨op, a, b, c, n, s⟩) ∧ Below w.heap.size w w' := by
  have hrs : (w.alloc (.cells (insV zeroI) 47)).heap[w.heap.size]? = some (.cells (insV zeroI) 47 (0, 0)) := by show (w.heap.push _)[w.heap.size]? = _; simp
  have HR0 : Hid ((w.alloc (.cells #[.int .i64 0, .int .i64 0, .int .i64 0, .int .i64 0, .int .i64 0, .string ByteArray.empty] 47)).heap[w.heap.size]? = some (.cells (insV zeroI) 47 (0, 0)) ∧ Below w.heap.size w (w.alloc (.cells #[.int .i64 0, .int .i64 0, .int .i64 0, .int .i64 0, .int .i64 0, .string ByteArray.empty] 47))) := ⟨hrs, (Below.refl _ w).alloc (Nat.le_refl _) _⟩
  clear hrs
  go_enter Tryz.func23, Tryz.ntmps23
  go_wp2_with (go_at_call 22; fail)
  refine (split_any line 32 32 rfl _ hs).mono ?_
  rintro e w1 ⟨v, L, rfl, hrow, hL, hb1⟩
  have hLne : L ≠ [] := by
    intro h
    rw [h] at hL
    exact spl_ne 32 _ _ hL.symm
  obtain ⟨wb, vc, hwb, rfl, hcel⟩ := hrow.at hLne
  have hlen1 : 1 ≤ L.length := by
    rcases Nat.eq_zero_or_pos L.length with h | h
    · exact absurd (List.length_eq_zero_iff.1 h) hLne
    · exact h
  have HLL : Hid (L.length ≤ 1048577) := by
    have h1 := spl_len 32 (dat line) []
    rw [← hL, List.length_map, dat_len] at h1
    show _ ≤ _; omega
  have hLL : L.length ≤ 1048577 := HLL.out
  have HW1 : Hid (w1.heap[w.heap.size]? = some (.cells (insV zeroI) 47 (0, 0)) ∧ Below w.heap.size w w1 ∧ w.heap.size < wb ∧ wb < w1.heap.size) := by
    refine ⟨(hb1.block _ (by simp)).trans HR0.out.1, HR0.out.2.trans (hb1.mono HR0.out.2.size), ?_, World.block_lt_of_cell? w1 _ (hcel 0 hlen1)⟩
    have := hwb
    simp at this
    omega
  have HCE : Hid (∀ j (hj : j < L.length), w1.cell? ⟨wb, j, none⟩ = some (.string L[j])) := hcel
  have HL : Hid (L.map dat = spl 32 [] (dat line)) := hL
  have HSW : Hid (∀ j (hj : j < L.length), (L[j]).size ≤ maxLen) := fun j hj => by
    have h1 := spl_piece 32 (dat line) [] (dat L[j]) (by rw [← hL]; exact List.mem_map_of_mem (List.getElem_mem hj))
    rw [dat_len, dat_len] at h1
    unfold maxLen; simp at h1; omega
  clear hrow hL hb1 hwb hcel HR0
  go_wp2_with (go_at_call 45; fail)
  refine (names_any _).mono ?_
  rintro e w2 ⟨rfl, hb2, hz2, hnm⟩
  have HLN : Hid (Ln w w2 w.heap.size wb w1.heap.size L) := by
    refine ⟨HW1.out.2.1.trans (hb2.mono HW1.out.2.1.size), (hb2.block _ (blk_lt HW1.out.1)).trans HW1.out.1, fun j hj => (hb2.cell (p := ⟨wb, j, none⟩) HW1.out.2.2.2).trans (HCE.out j hj), hnm⟩
  have HNE : Hid (w.heap.size < wb ∧ wb < w1.heap.size ∧ w1.heap.size < w2.heap.size ∧ w.heap.size < w1.heap.size) := ⟨HW1.out.2.2.1, HW1.out.2.2.2, by omega, by have := HW1.out.2.2; omega⟩
  have HPS : Hid (insP (dat line) = insW (L.map dat) 0 20) := by show _ = _; unfold insP; rw [HL.out]
  clear hb2 hz2 hnm HW1 HCE HL
  go_wp2_with fail
  go_loopw [6] (fun i wr => ∃ k : Nat, k ≤ 20 ∧ i = .int .i64 k ∧ Ln w wr w.heap.size wb w1.heap.size L ∧ w2.heap.size ≤ wr.heap.size ∧ insP (dat line) = insW (L.map dat) k (20 - k)) (fun i wr => 20 - (intOf i).toNat)
  case atStart => exact ⟨0, by omega, rfl, HLN.out, Nat.le_refl _, HPS.out⟩
  case round =>
    obtain ⟨k, hk, rfl, hln, hsz, hps⟩ := hrel
    have HLR : Hid (Ln w wr w.heap.size wb w1.heap.size L) := hln
    have HSZ : Hid (w2.heap.size ≤ wr.heap.size) := hsz
    have HPK : Hid (insP (dat line) = insW (L.map dat) k (20 - k)) := hps
    clear hln hsz hps HLN HPS
    by_cases hlt : k < 20
    · have hki : (k : Int) < 20 := by omega
      go_wp2_with (go_at_call 46; fail)
      refine (uses_any _).mono ?_
      rintro e w3 ⟨rfl, hb3, hz3, hus⟩
      have HL3 : Hid (Ln w w3 w.heap.size wb w1.heap.size L) := HLR.out.below hb3
      have HZ3 : Hid (w2.heap.size ≤ w3.heap.size) := Nat.le_trans HSZ.out hb3.size
      have hu0 := hus k hlt
      have c1 := HL3.out.nms k hlt
      have c2 := HL3.out.wds 0 hlen1
      clear hb3 hz3 hus
      have hcmp : (some (word (k + 1)) = (L.map dat).head?) ↔ (wordT (k + 1)).toList = (L[0]'hlen1).toList := by
        rw [List.head?_map, List.head?_eq_getElem?, List.getElem?_eq_getElem hlen1, ByteArray.toList_eq, ByteArray.toList_eq]
        show some (word (k + 1)) = some (dat (L[0]'hlen1)) ↔ dat (wordT (k + 1)) = dat (L[0]'hlen1)
        rw [dat_word, Option.some.injEq]
      generalize hL0 : L[0]'hlen1 = W0 at c2 hcmp
      clear hL0
      by_cases heq : (wordT (k + 1)).toList = W0.toList
      · have HHIT : Hid (insP (dat line) = setAll (opI k) (decide ((L.map dat).length = (uses (k + 1)).length + 1)) (uses (k + 1)) (L.map dat).tail) := by
          show _ = _
          rw [HPK.out, show 20 - k = (19 - k) + 1 by omega]
          exact insW_hit _ k _ (hcmp.2 heq)
        have hbe : ((wordT (k + 1)).toList == W0.toList) = true := by rw [beq_iff_eq]; exact heq
        clear heq hcmp
        have hUs : (useT (k + 1)).size ≤ 3 := use_len (k + 1)
        have HUL : Hid ((useT (k + 1)).size = (uses (k + 1)).length) := useT_size (k + 1)
        obtain ⟨q0, hq0⟩ : ∃ q0 : Bool, ((L.length : Int) == ((useT (k + 1)).size : Int) + 1) = q0 := ⟨_, rfl⟩
        have HQ0 : Hid (decide ((L.map dat).length = (uses (k + 1)).length + 1) = q0) := by
          show _ = _
          rw [← hq0, Bool.eq_iff_iff, decide_eq_true_iff, beq_iff_eq, List.length_map, ← HUL.out]; omega
        go_wp2_with fail
        go_quiet (fail)
        have HL4 : Hid (Ln w (w3.drewN nq) w.heap.size wb w1.heap.size L ∧ w2.heap.size ≤ (w3.drewN nq).heap.size) := ⟨HL3.out.below (below_drewN (Below.refl _ _) _), HZ3.out⟩
        generalize w3.drewN nq = w4 at HL4 ⊢
        clear hu0 c1 c2 HL3 HZ3
        have hX0 : (w4.alloc (.cells (insV (opI k)) 47)).heap[w4.heap.size]? = some (.cells (insV (opI k)) 47 (0, 0)) := by show (w4.heap.push _)[w4.heap.size]? = _; simp
        have HX0 : Hid ((w4.alloc (.cells #[.int .i64 ((k : Int) + 1), .int .i64 0, .int .i64 0, .int .i64 0, .int .i64 0, .string ByteArray.empty] 47)).heap[w4.heap.size]? = some (.cells (insV (opI k)) 47 (0, 0)) ∧ Ln w (w4.alloc (.cells #[.int .i64 ((k : Int) + 1), .int .i64 0, .int .i64 0, .int .i64 0, .int .i64 0, .string ByteArray.empty] 47)) w.heap.size wb w1.heap.size L) := ⟨hX0, HL4.out.1.below ((Below.refl _ w4).alloc (Nat.le_refl _) _)⟩
        have HXN : Hid (w.heap.size ≤ w4.heap.size ∧ w.heap.size ≠ w4.heap.size ∧ wb ≠ w4.heap.size ∧ w1.heap.size ≠ w4.heap.size) := by
          have h1 := HL4.out.2
          have h2 := HNE.out
          exact ⟨by omega, by omega, by omega, by omega⟩
        clear hX0
        go_wp2_with fail
        have HU : Hid (∀ j (hj : j < (useT (k + 1)).size), (useT (k + 1))[j] = (uses (k + 1))[j]'(by rw [← useT_size]; exact hj)) := fun j hj => useT_at (k + 1) j hj
        go_loopw [9, 10] (fun qv jv wr => ∃ (j : Nat) (q : Bool) (y : I), j ≤ (useT (k + 1)).size ∧ qv = .bool q ∧ jv = .int .i64 j ∧ wr.heap[w4.heap.size]? = some (.cells (insV y) 47 (0, 0)) ∧ Ln w wr w.heap.size wb w1.heap.size L ∧ (q = true → L.length = (useT (k + 1)).size + 1) ∧ insP (dat line) = setAll y q ((uses (k + 1)).drop j) ((L.map dat).tail.drop j)) (fun qv jv wr => (useT (k + 1)).size - (intOf jv).toNat)
        case atStart =>
          refine ⟨0, q0, opI k, Nat.zero_le _, rfl, rfl, HX0.out.1, HX0.out.2, fun h => ?_, ?_⟩
          · rw [h] at hq0
            have := beq_iff_eq.1 hq0
            omega
          · rw [List.drop_zero, List.drop_zero, HHIT.out, HQ0.out]
        case round =>
          obtain ⟨j, q, y, hj, rfl, rfl, hy, hln, hql, hps⟩ := hrel
          have HY : Hid (wr.heap[w4.heap.size]? = some (.cells (insV y) 47 (0, 0))) := hy
          have HLJ : Hid (Ln w wr w.heap.size wb w1.heap.size L) := hln
          have HPJ : Hid (insP (dat line) = setAll y q ((uses (k + 1)).drop j) ((L.map dat).tail.drop j)) := hps
          have HQL : Hid (q = true → L.length = (useT (k + 1)).size + 1) := hql
          clear hy hln hps hql HX0 HL4 hq0 HQ0
          by_cases hgo : j < (useT (k + 1)).size ∧ q = true
          · obtain ⟨hjl, rfl⟩ := hgo
            have hLn : L.length = (useT (k + 1)).size + 1 := HQL.out rfl
            have hj1 : j + 1 < L.length := by omega
            have cw := HLJ.out.wds (j + 1) hj1
            have hju : j < (uses (k + 1)).length := by rw [← useT_size]; exact hjl
            have hjt : j < (L.map dat).tail.length := by simp; omega
            have hwt : (L.map dat).tail[j]'hjt = dat (L[j + 1]'hj1) := by simp
            have HST : Hid (insP (dat line) = setAll (setI y ((uses (k + 1))[j]'hju) (dat (L[j + 1]'hj1))) (setB ((uses (k + 1))[j]'hju) (dat (L[j + 1]'hj1))) ((uses (k + 1)).drop (j + 1)) ((L.map dat).tail.drop (j + 1))) := by
              show _ = _
              rw [HPJ.out, setAll_step y _ _ j hju hjt, hwt]
            have hch : (useT (k + 1))[j]'hjl = (uses (k + 1))[j]'hju := HU.out j hjl
            have hws := HSW.out (j + 1) hj1
            generalize (uses (k + 1))[j]'hju = ch at HST hch
            generalize L[j + 1]'hj1 = wd at HST cw hws
            have hci : (((useT (k + 1))[j]'hjl).toNat : Int) = (ch.toNat : Int) := by rw [hch]
            have HSET : Hid (∀ w', w'.heap = wr.heap → Ln w w' w.heap.size wb w1.heap.size L → Calls Tryz.prog 47 #[.pointer (some ⟨w4.heap.size, 0, none⟩), .int .u8 (ch.toNat : Int), .string wd] w' fun e w'' => e = .returned (.bool (setB ch (dat wd))) ∧ w''.heap[w4.heap.size]? = some (.cells (insV (setI y ch (dat wd))) 47 (0, 0)) ∧ Ln w w'' w.heap.size wb w1.heap.size L) := fun w' hh hl => by
              refine (set_any ch _ rfl wd hws w4.heap.size y w' (by rw [hh]; exact HY.out)).mono ?_
              rintro e w'' ⟨rfl, hr, hw⟩
              exact ⟨rfl, hr, hl.set HXN.out.1 HXN.out.2.1 HXN.out.2.2.1 HXN.out.2.2.2 hw⟩
            have HLD : Hid (Ln w wr.drew w.heap.size wb w1.heap.size L) := HLJ.out.below ((Below.refl _ wr).drew)
            generalize setI y ch (dat wd) = z at HST HSET
            generalize setB ch (dat wd) = q' at HST HSET
            have HLEN : Hid (L.length = (useT (k + 1)).size + 1) := hLn
            have hj1i : (j : Int) + 1 < (L.length : Int) := by omega
            have hji : (j : Int) < ((useT (k + 1)).size : Int) := by omega
            have ej : IntKind.i64.wrap ((j : Int) + 1) = (j : Int) + 1 := by rw [IntKind.wrap_i64]; omega
            clear hch hws hwt hjt hju hLn
            go_wp2_with fail
            go_region_with (go_at_call 47; refine (HSET.out wr.drew rfl HLD.out).mono ?_; rintro e w7 ⟨rfl, hz7, hl7⟩; have H7 : Hid (w7.heap[w4.heap.size]? = some (.cells (insV z) 47 (0, 0)) ∧ Ln w w7 w.heap.size wb w1.heap.size L) := ⟨hz7, hl7⟩; clear hz7 hl7)
            all_goals
              go_wp2_with fail
              go_roundw
              case rel => exact ⟨j + 1, q', z, by omega, rfl, by go_num, H7.out.1, H7.out.2, fun _ => HLEN.out, HST.out⟩
              case measure => simp [intOf]; omega
          · have HEN : Hid (insP (dat line) = (y, q)) := by
              show _ = _
              rw [HPJ.out]
              by_cases hjl : j < (useT (k + 1)).size
              · have hq : q = false := by
                  cases q
                  · rfl
                  · exact absurd ⟨hjl, rfl⟩ hgo
                rw [hq, setAll_no]
              · rw [List.drop_of_length_le (by rw [← useT_size]; omega), setAll_nil]
            obtain ⟨yo, ya, yb, yc, yn, ys⟩ := y
            have y0 := blk_at HY.out 0
            have y1 := blk_at HY.out 1
            have y2 := blk_at HY.out 2
            have y3 := blk_at HY.out 3
            have y4 := blk_at HY.out 4
            have y5 := blk_at HY.out 5
            have r0 := blk_at HLJ.out.res 0
            have r1 := blk_at HLJ.out.res 1
            have r2 := blk_at HLJ.out.res 2
            have r3 := blk_at HLJ.out.res 3
            have r4 := blk_at HLJ.out.res 4
            have r5 := blk_at HLJ.out.res 5
            have rf := fun i => blk_free HLJ.out.res i
            simp only [insV, zeroI, List.getElem?_toArray, List.getElem?_cons_zero, List.getElem?_cons_succ] at y0 y1 y2 y3 y4 y5 r0 r1 r2 r3 r4 r5
            have hgo2 : (decide ((j : Int) < ((useT (k + 1)).size : Int)) && q) = false := by
              cases q
              · simp
              · simp; by_cases hjl : j < (useT (k + 1)).size
                · exact absurd ⟨hjl, rfl⟩ hgo
                · omega
            have HW6 := fun (a b c d e g : Value) => set_blk6 HLJ.out.res a b c d e g
            have HWF : Hid (∀ (a b c d e g : Value), ((((((wr.setCell ⟨w.heap.size, 0, none⟩ a).setCell ⟨w.heap.size, 1, none⟩ b).setCell ⟨w.heap.size, 2, none⟩ c).setCell ⟨w.heap.size, 3, none⟩ d).setCell ⟨w.heap.size, 4, none⟩ e).setCell ⟨w.heap.size, 5, none⟩ g).heap[w.heap.size]? = some (.cells #[a, b, c, d, e, g] 47 (0, 0))) := HW6
            clear HW6 hgo
            by_cases hjl : (j : Int) < ((useT (k + 1)).size : Int)
            · have hq : q = false := by rw [decide_eq_true hjl] at hgo2; simpa using hgo2
              subst hq
              go_wp2_with fail
              refine bodyPost_ret (res_ins2 Tryz.results23 (HWF.out _ _ _ _ _ _) rfl rfl) rfl ⟨⟨yo, ya, yb, yc, yn, ys, by rw [HEN.out], by rw [HEN.out]⟩, ?_⟩
              exact ((((((HLJ.out.bel.setCell (Nat.le_refl _) _).setCell (Nat.le_refl _) _).setCell (Nat.le_refl _) _).setCell (Nat.le_refl _) _).setCell (Nat.le_refl _) _).setCell (Nat.le_refl _) _)
            · go_wp2_with fail
              refine bodyPost_ret (res_ins2 Tryz.results23 (HWF.out _ _ _ _ _ _) rfl rfl) rfl ⟨⟨yo, ya, yb, yc, yn, ys, by rw [HEN.out], by rw [HEN.out]⟩, ?_⟩
              exact ((((((HLJ.out.bel.setCell (Nat.le_refl _) _).setCell (Nat.le_refl _) _).setCell (Nat.le_refl _) _).setCell (Nat.le_refl _) _).setCell (Nat.le_refl _) _).setCell (Nat.le_refl _) _)
      · have HMISS : Hid (insP (dat line) = insW (L.map dat) (k + 1) (20 - (k + 1))) := by
          show _ = _
          rw [HPK.out, show 20 - k = (20 - (k + 1)) + 1 by omega]
          exact insW_miss _ k _ (fun h => heq (hcmp.1 h))
        have hbe : ((wordT (k + 1)).toList == W0.toList) = false := by rw [beq_eq_false_iff_ne]; exact heq
        clear heq hcmp
        go_wp2_with fail
        go_quiet (fail)
        go_wp2_with fail
        go_roundw
        case rel => exact ⟨k + 1, by omega, by go_num, HL3.out.below (below_drewN (Below.refl _ _) _), HZ3.out, HMISS.out⟩
        case measure => simp [intOf]; omega
    · have HEN : Hid (insP (dat line) = (zeroI, false)) := by
        show _ = _
        rw [HPK.out, show 20 - k = 0 by omega]; rfl
      have r0 := blk_at HLR.out.res 0
      have r1 := blk_at HLR.out.res 1
      have r2 := blk_at HLR.out.res 2
      have r3 := blk_at HLR.out.res 3
      have r4 := blk_at HLR.out.res 4
      have r5 := blk_at HLR.out.res 5
      have rf := fun i => blk_free HLR.out.res i
      simp only [insV, zeroI, List.getElem?_toArray, List.getElem?_cons_zero, List.getElem?_cons_succ] at r0 r1 r2 r3 r4 r5
      have HWF : Hid (∀ (a b c d e g : Value), ((((((wr.setCell ⟨w.heap.size, 0, none⟩ a).setCell ⟨w.heap.size, 1, none⟩ b).setCell ⟨w.heap.size, 2, none⟩ c).setCell ⟨w.heap.size, 3, none⟩ d).setCell ⟨w.heap.size, 4, none⟩ e).setCell ⟨w.heap.size, 5, none⟩ g).heap[w.heap.size]? = some (.cells #[a, b, c, d, e, g] 47 (0, 0))) := fun a b c d e g => set_blk6 HLR.out.res a b c d e g
      go_wp2_with fail
      refine bodyPost_ret (res_ins2 Tryz.results23 (HWF.out _ _ _ _ _ _) rfl rfl) rfl ⟨⟨0, 0, 0, 0, 0, ByteArray.empty, by rw [HEN.out]; rfl, by rw [HEN.out]; rfl⟩, ?_⟩
      exact ((((((HLR.out.bel.setCell (Nat.le_refl _) _).setCell (Nat.le_refl _) _).setCell (Nat.le_refl _) _).setCell (Nat.le_refl _) _).setCell (Nat.le_refl _) _).setCell (Nat.le_refl _) _)
end Go.Proofs.YtgdlkekjbdkjjaaGreatDoor.Code
