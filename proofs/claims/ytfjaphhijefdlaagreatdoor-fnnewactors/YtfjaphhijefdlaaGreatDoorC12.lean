/-
  What DrawCode draws: code that is right.
  (Ahead of it, in this text: A line read as an instruction: the specification's l8Ins: it answers insP. A text read as code: the specification's ParseCode: it answers parseP. What a turn of one block leaves. A drawn text: what l1Str answers. An instruction that is drawn: the specification's l8Draw answers one that is right. Code that is drawn: the specification's l8Codes and l8Code.)
-/
import Derived.Test.YtfjaphhijefdlaaGreatDoorPaC
import Derived.Test.YtfjaphhijefdlaaGreatDoorCoM
import Derived.Test.YtfjaphhijefdlaaGreatDoorCoI
import Derived.Test.YtfjaphhijefdlaaGreatDoorCkC
import Derived.Test.YtfjaphhijefdlaaGreatDoorCurA
import Derived.Deep.OwnRows
import Derived.Test.YtfjaphhijefdlaaGreatDoorCkA
namespace Go.Proofs.YtfjaphhijefdlaaGreatDoor.Code
open Go.RowKit
open Go.Proofs.YtfjaphhijefdlaaGreatDoor.Atom
set_option linter.unusedVariables false

/-- What the loops over the names and the letters have in hand. -/
structure Ln (w wr : World) (R0 wb nb : Nat) (L : List ByteArray) : Prop where
  bel : Below w.heap.size w wr
  res : wr.heap[R0]? = some (.cells (insV zeroI) 77 (0, 0))
  wds : ∀ j (hj : j < L.length), wr.cell? ⟨wb, j, none⟩ = some (.string L[j])
  nms : ∀ k, k < 20 → wr.cell? ⟨nb, k, none⟩ = some (.string (wordT (k + 1)))
theorem Ln.below {w wr w' : World} {R0 wb nb : Nat} {L : List ByteArray} (h : Ln w wr R0 wb nb L) (hb : Below wr.heap.size wr w') : Ln w w' R0 wb nb L :=
  ⟨h.bel.trans (hb.mono h.bel.size), (hb.block _ (blk_lt h.res)).trans h.res, fun j hj => (hb.cell (p := ⟨wb, j, none⟩) (World.block_lt_of_cell? wr _ (h.wds j hj))).trans (h.wds j hj), fun k hk => (hb.cell (p := ⟨nb, k, none⟩) (World.block_lt_of_cell? wr _ (h.nms k hk))).trans (h.nms k hk)⟩
theorem Ln.set {w wr w' : World} {R0 wb nb X : Nat} {L : List ByteArray} (h : Ln w wr R0 wb nb L) (hX : w.heap.size ≤ X) (n0 : R0 ≠ X) (n1 : wb ≠ X) (n2 : nb ≠ X) (hw : ∃ i v, w' = wr.setCell ⟨X, i, none⟩ v) : Ln w w' R0 wb nb L := by
  have ho : ∀ b, b ≠ X → w'.heap[b]? = wr.heap[b]? := fun b hb => by
    obtain ⟨i, v, rfl⟩ := hw
    exact Below.heap_setCell wr ⟨X, i, none⟩ v b hb
  exact ⟨h.bel.trans (setBelow hw _ hX), (ho _ n0).trans h.res, fun j hj => (setOther hw n1).trans (h.wds j hj), fun k hk => (setOther hw n2).trans (h.nms k hk)⟩

theorem set_blk6 {w : World} {R : Nat} {z0 z1 z2 z3 z4 z5 : Value} {t : TypeId} {f : Nat × Nat} (h : w.heap[R]? = some (.cells #[z0, z1, z2, z3, z4, z5] t f)) (a b c d e g : Value) :
    ((((((w.setCell ⟨R, 0, none⟩ a).setCell ⟨R, 1, none⟩ b).setCell ⟨R, 2, none⟩ c).setCell ⟨R, 3, none⟩ d).setCell ⟨R, 4, none⟩ e).setCell ⟨R, 5, none⟩ g).heap[R]? = some (.cells #[a, b, c, d, e, g] t f) := by
  rw [set_blk (set_blk (set_blk (set_blk (set_blk (set_blk h a) b) c) d) e) g]; rfl
theorem res_ins2 {w : World} {R : Nat} {a b c d e g : Value} {tmps : Array Value} {fn : Func} {q : Bool} (hf : fn.results = #[.cell 2 77, .tmp 3]) (h : w.heap[R]? = some (.cells #[a, b, c, d, e, g] 77 (0, 0)))
    (h4 : tmps.getD 2 undef = .pointer (some ⟨R, 0, none⟩)) (h5 : tmps.getD 3 undef = .bool q) : (results fn tmps).run Tryz.prog w = .ok (.tuple #[.agg #[a, b, c, d, e, g], .bool q]) w := by
  rw [results_cell_tmp hf, h4, h5]
  simp [asAddr, Result.andThen, run_loadVar_row w R 77 77 #[a, b, c, d, e, g] (0, 0) _ h Tryz.underlying77 rfl (by kernel_rfl)]

theorem spl_piece (sep : UInt8) : ∀ (l cur p : List UInt8), p ∈ spl sep cur l → p.length ≤ cur.length + l.length
  | [], cur, p, h => by simp [spl] at h; rw [h]; simp
  | c :: r, cur, p, h => by
    unfold spl at h
    split at h
    · rcases List.mem_cons.1 h with rfl | h
      · simp
      · have := spl_piece sep r [] p h; simp at this ⊢; omega
    · have := spl_piece sep r (cur ++ [c]) p h; simp at this ⊢; omega
theorem word_size (k : Nat) : (wordT k).size ≤ maxLen := Nat.le_trans (by rw [show (wordT k).size = (word k).length by simp [wordT, ByteArray.size]]; exact word_len k) (by unfold maxLen; omega)
theorem dat_word (k : Nat) : dat (wordT k) = word k := by simp [dat, wordT]
theorem dat_inj {a b : ByteArray} (h : dat a = dat b) : a = b := by
  rw [← dat_back a, ← dat_back b, h]
theorem insW_hit (ws : List (List UInt8)) (k m : Nat) (h : some (word (k + 1)) = ws.head?) : insW ws k (m + 1) = setAll (opI k) (decide (ws.length = (uses (k + 1)).length + 1)) (uses (k + 1)) ws.tail := by
  unfold insW; rw [if_pos h]
theorem insW_miss (ws : List (List UInt8)) (k m : Nat) (h : ¬ some (word (k + 1)) = ws.head?) : insW ws k (m + 1) = insW ws (k + 1) m := by
  conv => lhs; unfold insW
  rw [if_neg h]
theorem setAll_step (x : I) (us : List UInt8) (ws : List (List UInt8)) (j : Nat) (hu : j < us.length) (hw : j < ws.length) : setAll x true (us.drop j) (ws.drop j) = setAll (setI x us[j] ws[j]) (setB us[j] ws[j]) (us.drop (j + 1)) (ws.drop (j + 1)) := by
  rw [List.drop_eq_getElem_cons hu, List.drop_eq_getElem_cons hw, setAll, if_pos rfl]

set_option maxHeartbeats 4000000 in
theorem ins_line (line : ByteArray) (w : World) (hs : line.size ≤ 1048576) :
    Calls Tryz.prog 59 #[.string line] w fun e w' => (∃ (op a b c n : Int) (s : ByteArray), e = .returned (.tuple #[.agg #[.int .i64 op, .int .i64 a, .int .i64 b, .int .i64 c, .int .i64 n, .string s], .bool (insP (dat line)).2]) ∧ (insP (dat line)).1 = ⟨op, a, b, c, n, s⟩) ∧ Below w.heap.size w w' := by
  have hrs : (w.alloc (.cells (insV zeroI) 77)).heap[w.heap.size]? = some (.cells (insV zeroI) 77 (0, 0)) := by show (w.heap.push _)[w.heap.size]? = _; simp
  have HR0 : Hid ((w.alloc (.cells #[.int .i64 0, .int .i64 0, .int .i64 0, .int .i64 0, .int .i64 0, .string ByteArray.empty] 77)).heap[w.heap.size]? = some (.cells (insV zeroI) 77 (0, 0)) ∧ Below w.heap.size w (w.alloc (.cells #[.int .i64 0, .int .i64 0, .int .i64 0, .int .i64 0, .int .i64 0, .string ByteArray.empty] 77))) := ⟨hrs, (Below.refl _ w).alloc (Nat.le_refl _) _⟩
  clear hrs
  go_enter Tryz.func59, Tryz.ntmps59
  go_wp2_with (go_at_call 58; fail)
  refine (split_any line 32 32 rfl _ hs).mono ?_
  rintro e w1 ⟨v, L, rfl, hrow, hL, hb1⟩
  have hLne : L ≠ [] := by
    intro h
    rw [h] at hL
    exact spl_ne 32 _ _ hL.symm
  obtain ⟨wb, vc, hwb, rfl, hcel⟩ := hrow.at hLne
  have hlen1 : 1 ≤ L.length := by
    rcases Nat.eq_zero_or_pos L.length with h | h
    · exact absurd (List.length_eq_zero_iff.1 h) hLne
    · exact h
  have HLL : Hid (L.length ≤ 1048577) := by
    have h1 := spl_len 32 (dat line) []
    rw [← hL, List.length_map, dat_len] at h1
    show _ ≤ _; omega
  have hLL : L.length ≤ 1048577 := HLL.out
  have HW1 : Hid (w1.heap[w.heap.size]? = some (.cells (insV zeroI) 77 (0, 0)) ∧ Below w.heap.size w w1 ∧ w.heap.size < wb ∧ wb < w1.heap.size) := by
    refine ⟨(hb1.block _ (by simp)).trans HR0.out.1, HR0.out.2.trans (hb1.mono HR0.out.2.size), ?_, World.block_lt_of_cell? w1 _ (hcel 0 hlen1)⟩
    have := hwb
    simp at this
    omega
  have HCE : Hid (∀ j (hj : j < L.length), w1.cell? ⟨wb, j, none⟩ = some (.string L[j])) := hcel
  have HL : Hid (L.map dat = spl 32 [] (dat line)) := hL
  have HSW : Hid (∀ j (hj : j < L.length), (L[j]).size ≤ maxLen) := fun j hj => by
    have h1 := spl_piece 32 (dat line) [] (dat L[j]) (by rw [← hL]; exact List.mem_map_of_mem (List.getElem_mem hj))
    rw [dat_len, dat_len] at h1
    unfold maxLen; simp at h1; omega
  clear hrow hL hb1 hwb hcel HR0
  go_wp2_with (go_at_call 75; fail)
  refine (names_any _).mono ?_
  rintro e w2 ⟨rfl, hb2, hz2, hnm⟩
  have HLN : Hid (Ln w w2 w.heap.size wb w1.heap.size L) := by
    refine ⟨HW1.out.2.1.trans (hb2.mono HW1.out.2.1.size), (hb2.block _ (blk_lt HW1.out.1)).trans HW1.out.1, fun j hj => (hb2.cell (p := ⟨wb, j, none⟩) HW1.out.2.2.2).trans (HCE.out j hj), hnm⟩
  have HNE : Hid (w.heap.size < wb ∧ wb < w1.heap.size ∧ w1.heap.size < w2.heap.size ∧ w.heap.size < w1.heap.size) := ⟨HW1.out.2.2.1, HW1.out.2.2.2, by omega, by have := HW1.out.2.2; omega⟩
  have HPS : Hid (insP (dat line) = insW (L.map dat) 0 20) := by show _ = _; unfold insP; rw [HL.out]
  clear hb2 hz2 hnm HW1 HCE HL
  go_wp2_with fail
  go_loopw [6] (fun i wr => ∃ k : Nat, k ≤ 20 ∧ i = .int .i64 k ∧ Ln w wr w.heap.size wb w1.heap.size L ∧ w2.heap.size ≤ wr.heap.size ∧ insP (dat line) = insW (L.map dat) k (20 - k)) (fun i wr => 20 - (intOf i).toNat)
  case atStart => exact ⟨0, by omega, rfl, HLN.out, Nat.le_refl _, HPS.out⟩
  case round =>
    obtain ⟨k, hk, rfl, hln, hsz, hps⟩ := hrel
    have HLR : Hid (Ln w wr w.heap.size wb w1.heap.size L) := hln
    have HSZ : Hid (w2.heap.size ≤ wr.heap.size) := hsz
    have HPK : Hid (insP (dat line) = insW (L.map dat) k (20 - k)) := hps
    clear hln hsz hps HLN HPS
    by_cases hlt : k < 20
    · have hki : (k : Int) < 20 := by omega
      go_wp2_with (go_at_call 61; fail)
      refine (uses_any _).mono ?_
      rintro e w3 ⟨rfl, hb3, hz3, hus⟩
      have HL3 : Hid (Ln w w3 w.heap.size wb w1.heap.size L) := HLR.out.below hb3
      have HZ3 : Hid (w2.heap.size ≤ w3.heap.size) := Nat.le_trans HSZ.out hb3.size
      have hu0 := hus k hlt
      have c1 := HL3.out.nms k hlt
      have c2 := HL3.out.wds 0 hlen1
      clear hb3 hz3 hus
      have hcmp : (some (word (k + 1)) = (L.map dat).head?) ↔ (wordT (k + 1)).toList = (L[0]'hlen1).toList := by
        rw [List.head?_map, List.head?_eq_getElem?, List.getElem?_eq_getElem hlen1, ByteArray.toList_eq, ByteArray.toList_eq]
        show some (word (k + 1)) = some (dat (L[0]'hlen1)) ↔ dat (wordT (k + 1)) = dat (L[0]'hlen1)
        rw [dat_word, Option.some.injEq]
      generalize hL0 : L[0]'hlen1 = W0 at c2 hcmp
      clear hL0
      by_cases heq : (wordT (k + 1)).toList = W0.toList
      · have HHIT : Hid (insP (dat line) = setAll (opI k) (decide ((L.map dat).length = (uses (k + 1)).length + 1)) (uses (k + 1)) (L.map dat).tail) := by
          show _ = _
          rw [HPK.out, show 20 - k = (19 - k) + 1 by omega]
          exact insW_hit _ k _ (hcmp.2 heq)
        have hbe : ((wordT (k + 1)).toList == W0.toList) = true := by rw [beq_iff_eq]; exact heq
        clear heq hcmp
        have hUs : (useT (k + 1)).size ≤ 3 := use_len (k + 1)
        have HUL : Hid ((useT (k + 1)).size = (uses (k + 1)).length) := useT_size (k + 1)
        obtain ⟨q0, hq0⟩ : ∃ q0 : Bool, ((L.length : Int) == ((useT (k + 1)).size : Int) + 1) = q0 := ⟨_, rfl⟩
        have HQ0 : Hid (decide ((L.map dat).length = (uses (k + 1)).length + 1) = q0) := by
          show _ = _
          rw [← hq0, Bool.eq_iff_iff, decide_eq_true_iff, beq_iff_eq, List.length_map, ← HUL.out]; omega
        go_wp2_with fail
        go_quiet (fail)
        have HL4 : Hid (Ln w (w3.drewN nq) w.heap.size wb w1.heap.size L ∧ w2.heap.size ≤ (w3.drewN nq).heap.size) := ⟨HL3.out.below (below_drewN (Below.refl _ _) _), HZ3.out⟩
        generalize w3.drewN nq = w4 at HL4 ⊢
        clear hu0 c1 c2 HL3 HZ3
        have hX0 : (w4.alloc (.cells (insV (opI k)) 77)).heap[w4.heap.size]? = some (.cells (insV (opI k)) 77 (0, 0)) := by show (w4.heap.push _)[w4.heap.size]? = _; simp
        have HX0 : Hid ((w4.alloc (.cells #[.int .i64 ((k : Int) + 1), .int .i64 0, .int .i64 0, .int .i64 0, .int .i64 0, .string ByteArray.empty] 77)).heap[w4.heap.size]? = some (.cells (insV (opI k)) 77 (0, 0)) ∧ Ln w (w4.alloc (.cells #[.int .i64 ((k : Int) + 1), .int .i64 0, .int .i64 0, .int .i64 0, .int .i64 0, .string ByteArray.empty] 77)) w.heap.size wb w1.heap.size L) := ⟨hX0, HL4.out.1.below ((Below.refl _ w4).alloc (Nat.le_refl _) _)⟩
        have HXN : Hid (w.heap.size ≤ w4.heap.size ∧ w.heap.size ≠ w4.heap.size ∧ wb ≠ w4.heap.size ∧ w1.heap.size ≠ w4.heap.size) := by
          have h1 := HL4.out.2
          have h2 := HNE.out
          exact ⟨by omega, by omega, by omega, by omega⟩
        clear hX0
        go_wp2_with fail
        have HU : Hid (∀ j (hj : j < (useT (k + 1)).size), (useT (k + 1))[j] = (uses (k + 1))[j]'(by rw [← useT_size]; exact hj)) := fun j hj => useT_at (k + 1) j hj
        go_loopw [9, 10] (fun qv jv wr => ∃ (j : Nat) (q : Bool) (y : I), j ≤ (useT (k + 1)).size ∧ qv = .bool q ∧ jv = .int .i64 j ∧ wr.heap[w4.heap.size]? = some (.cells (insV y) 77 (0, 0)) ∧ Ln w wr w.heap.size wb w1.heap.size L ∧ (q = true → L.length = (useT (k + 1)).size + 1) ∧ insP (dat line) = setAll y q ((uses (k + 1)).drop j) ((L.map dat).tail.drop j)) (fun qv jv wr => (useT (k + 1)).size - (intOf jv).toNat)
        case atStart =>
          refine ⟨0, q0, opI k, Nat.zero_le _, rfl, rfl, HX0.out.1, HX0.out.2, fun h => ?_, ?_⟩
          · rw [h] at hq0
            have := beq_iff_eq.1 hq0
            omega
          · rw [List.drop_zero, List.drop_zero, HHIT.out, HQ0.out]
        case round =>
          obtain ⟨j, q, y, hj, rfl, rfl, hy, hln, hql, hps⟩ := hrel
          have HY : Hid (wr.heap[w4.heap.size]? = some (.cells (insV y) 77 (0, 0))) := hy
          have HLJ : Hid (Ln w wr w.heap.size wb w1.heap.size L) := hln
          have HPJ : Hid (insP (dat line) = setAll y q ((uses (k + 1)).drop j) ((L.map dat).tail.drop j)) := hps
          have HQL : Hid (q = true → L.length = (useT (k + 1)).size + 1) := hql
          clear hy hln hps hql HX0 HL4 hq0 HQ0
          by_cases hgo : j < (useT (k + 1)).size ∧ q = true
          · obtain ⟨hjl, rfl⟩ := hgo
            have hLn : L.length = (useT (k + 1)).size + 1 := HQL.out rfl
            have hj1 : j + 1 < L.length := by omega
            have cw := HLJ.out.wds (j + 1) hj1
            have hju : j < (uses (k + 1)).length := by rw [← useT_size]; exact hjl
            have hjt : j < (L.map dat).tail.length := by simp; omega
            have hwt : (L.map dat).tail[j]'hjt = dat (L[j + 1]'hj1) := by simp
            have HST : Hid (insP (dat line) = setAll (setI y ((uses (k + 1))[j]'hju) (dat (L[j + 1]'hj1))) (setB ((uses (k + 1))[j]'hju) (dat (L[j + 1]'hj1))) ((uses (k + 1)).drop (j + 1)) ((L.map dat).tail.drop (j + 1))) := by
              show _ = _
              rw [HPJ.out, setAll_step y _ _ j hju hjt, hwt]
            have hch : (useT (k + 1))[j]'hjl = (uses (k + 1))[j]'hju := HU.out j hjl
            have hws := HSW.out (j + 1) hj1
            generalize (uses (k + 1))[j]'hju = ch at HST hch
            generalize L[j + 1]'hj1 = wd at HST cw hws
            have hci : (((useT (k + 1))[j]'hjl).toNat : Int) = (ch.toNat : Int) := by rw [hch]
            have HSET : Hid (∀ w', w'.heap = wr.heap → Ln w w' w.heap.size wb w1.heap.size L → Calls Tryz.prog 76 #[.pointer (some ⟨w4.heap.size, 0, none⟩), .int .u8 (ch.toNat : Int), .string wd] w' fun e w'' => e = .returned (.bool (setB ch (dat wd))) ∧ w''.heap[w4.heap.size]? = some (.cells (insV (setI y ch (dat wd))) 77 (0, 0)) ∧ Ln w w'' w.heap.size wb w1.heap.size L) := fun w' hh hl => by
              refine (set_any ch _ rfl wd hws w4.heap.size y w' (by rw [hh]; exact HY.out)).mono ?_
              rintro e w'' ⟨rfl, hr, hw⟩
              exact ⟨rfl, hr, hl.set HXN.out.1 HXN.out.2.1 HXN.out.2.2.1 HXN.out.2.2.2 hw⟩
            have HLD : Hid (Ln w wr.drew w.heap.size wb w1.heap.size L) := HLJ.out.below ((Below.refl _ wr).drew)
            generalize setI y ch (dat wd) = z at HST HSET
            generalize setB ch (dat wd) = q' at HST HSET
            have HLEN : Hid (L.length = (useT (k + 1)).size + 1) := hLn
            have hj1i : (j : Int) + 1 < (L.length : Int) := by omega
            have hji : (j : Int) < ((useT (k + 1)).size : Int) := by omega
            have ej : IntKind.i64.wrap ((j : Int) + 1) = (j : Int) + 1 := by rw [IntKind.wrap_i64]; omega
            clear hch hws hwt hjt hju hLn
            go_wp2_with fail
            go_region_with (go_at_call 76; refine (HSET.out wr.drew rfl HLD.out).mono ?_; rintro e w7 ⟨rfl, hz7, hl7⟩; have H7 : Hid (w7.heap[w4.heap.size]? = some (.cells (insV z) 77 (0, 0)) ∧ Ln w w7 w.heap.size wb w1.heap.size L) := ⟨hz7, hl7⟩; clear hz7 hl7)
            all_goals
              go_wp2_with fail
              go_roundw
              case rel => exact ⟨j + 1, q', z, by omega, rfl, by go_num, H7.out.1, H7.out.2, fun _ => HLEN.out, HST.out⟩
              case measure => simp [intOf]; omega
          · have HEN : Hid (insP (dat line) = (y, q)) := by
              show _ = _
              rw [HPJ.out]
              by_cases hjl : j < (useT (k + 1)).size
              · have hq : q = false := by
                  cases q
                  · rfl
                  · exact absurd ⟨hjl, rfl⟩ hgo
                rw [hq, setAll_no]
              · rw [List.drop_of_length_le (by rw [← useT_size]; omega), setAll_nil]
            obtain ⟨yo, ya, yb, yc, yn, ys⟩ := y
            have y0 := blk_at HY.out 0
            have y1 := blk_at HY.out 1
            have y2 := blk_at HY.out 2
            have y3 := blk_at HY.out 3
            have y4 := blk_at HY.out 4
            have y5 := blk_at HY.out 5
            have r0 := blk_at HLJ.out.res 0
            have r1 := blk_at HLJ.out.res 1
            have r2 := blk_at HLJ.out.res 2
            have r3 := blk_at HLJ.out.res 3
            have r4 := blk_at HLJ.out.res 4
            have r5 := blk_at HLJ.out.res 5
            have rf := fun i => blk_free HLJ.out.res i
            simp only [insV, zeroI, List.getElem?_toArray, List.getElem?_cons_zero, List.getElem?_cons_succ] at y0 y1 y2 y3 y4 y5 r0 r1 r2 r3 r4 r5
            have hgo2 : (decide ((j : Int) < ((useT (k + 1)).size : Int)) && q) = false := by
              cases q
              · simp
              · simp; by_cases hjl : j < (useT (k + 1)).size
                · exact absurd ⟨hjl, rfl⟩ hgo
                · omega
            have HW6 := fun (a b c d e g : Value) => set_blk6 HLJ.out.res a b c d e g
            have HWF : Hid (∀ (a b c d e g : Value), ((((((wr.setCell ⟨w.heap.size, 0, none⟩ a).setCell ⟨w.heap.size, 1, none⟩ b).setCell ⟨w.heap.size, 2, none⟩ c).setCell ⟨w.heap.size, 3, none⟩ d).setCell ⟨w.heap.size, 4, none⟩ e).setCell ⟨w.heap.size, 5, none⟩ g).heap[w.heap.size]? = some (.cells #[a, b, c, d, e, g] 77 (0, 0))) := HW6
            clear HW6 hgo
            by_cases hjl : (j : Int) < ((useT (k + 1)).size : Int)
            · have hq : q = false := by rw [decide_eq_true hjl] at hgo2; simpa using hgo2
              subst hq
              go_wp2_with fail
              refine bodyPost_ret (res_ins2 Tryz.results59 (HWF.out _ _ _ _ _ _) rfl rfl) rfl ⟨⟨yo, ya, yb, yc, yn, ys, by rw [HEN.out], by rw [HEN.out]⟩, ?_⟩
              exact ((((((HLJ.out.bel.setCell (Nat.le_refl _) _).setCell (Nat.le_refl _) _).setCell (Nat.le_refl _) _).setCell (Nat.le_refl _) _).setCell (Nat.le_refl _) _).setCell (Nat.le_refl _) _)
            · go_wp2_with fail
              refine bodyPost_ret (res_ins2 Tryz.results59 (HWF.out _ _ _ _ _ _) rfl rfl) rfl ⟨⟨yo, ya, yb, yc, yn, ys, by rw [HEN.out], by rw [HEN.out]⟩, ?_⟩
              exact ((((((HLJ.out.bel.setCell (Nat.le_refl _) _).setCell (Nat.le_refl _) _).setCell (Nat.le_refl _) _).setCell (Nat.le_refl _) _).setCell (Nat.le_refl _) _).setCell (Nat.le_refl _) _)
      · have HMISS : Hid (insP (dat line) = insW (L.map dat) (k + 1) (20 - (k + 1))) := by
          show _ = _
          rw [HPK.out, show 20 - k = (20 - (k + 1)) + 1 by omega]
          exact insW_miss _ k _ (fun h => heq (hcmp.1 h))
        have hbe : ((wordT (k + 1)).toList == W0.toList) = false := by rw [beq_eq_false_iff_ne]; exact heq
        clear heq hcmp
        go_wp2_with fail
        go_quiet (fail)
        go_wp2_with fail
        go_roundw
        case rel => exact ⟨k + 1, by omega, by go_num, HL3.out.below (below_drewN (Below.refl _ _) _), HZ3.out, HMISS.out⟩
        case measure => simp [intOf]; omega
    · have HEN : Hid (insP (dat line) = (zeroI, false)) := by
        show _ = _
        rw [HPK.out, show 20 - k = 0 by omega]; rfl
      have r0 := blk_at HLR.out.res 0
      have r1 := blk_at HLR.out.res 1
      have r2 := blk_at HLR.out.res 2
      have r3 := blk_at HLR.out.res 3
      have r4 := blk_at HLR.out.res 4
      have r5 := blk_at HLR.out.res 5
      have rf := fun i => blk_free HLR.out.res i
      simp only [insV, zeroI, List.getElem?_toArray, List.getElem?_cons_zero, List.getElem?_cons_succ] at r0 r1 r2 r3 r4 r5
      have HWF : Hid (∀ (a b c d e g : Value), ((((((wr.setCell ⟨w.heap.size, 0, none⟩ a).setCell ⟨w.heap.size, 1, none⟩ b).setCell ⟨w.heap.size, 2, none⟩ c).setCell ⟨w.heap.size, 3, none⟩ d).setCell ⟨w.heap.size, 4, none⟩ e).setCell ⟨w.heap.size, 5, none⟩ g).heap[w.heap.size]? = some (.cells #[a, b, c, d, e, g] 77 (0, 0))) := fun a b c d e g => set_blk6 HLR.out.res a b c d e g
      go_wp2_with fail
      refine bodyPost_ret (res_ins2 Tryz.results59 (HWF.out _ _ _ _ _ _) rfl rfl) rfl ⟨⟨0, 0, 0, 0, 0, ByteArray.empty, by rw [HEN.out]; rfl, by rw [HEN.out]; rfl⟩, ?_⟩
      exact ((((((HLR.out.bel.setCell (Nat.le_refl _) _).setCell (Nat.le_refl _) _).setCell (Nat.le_refl _) _).setCell (Nat.le_refl _) _).setCell (Nat.le_refl _) _).setCell (Nat.le_refl _) _)
end Go.Proofs.YtfjaphhijefdlaaGreatDoor.Code
namespace Go.Proofs.YtfjaphhijefdlaaGreatDoor.Code
open Go.RowKit
open Go.Proofs.YtfjaphhijefdlaaGreatDoor.Atom
set_option linter.unusedVariables false

def readL : List (List UInt8) → Option (List I)
  | [] => some []
  | p :: ps => if (insP p).2 then (readL ps).map fun l => (insP p).1 :: l else none
def parseP (t : List UInt8) : Option (List I) :=
  if (spl 10 [] t).getLast? = some [] then
    match readL (spl 10 [] t).dropLast with
    | some l => if codeB l then some l else none
    | none => none
  else none

/-- The instructions l stand in a row of the call's own. -/
def IRow (w : World) (B : Nat) (v : Value) (l : List I) : Prop := w.ownsRow B 77 6 v l.length (l.flatMap insL)
theorem IRow.slice {w : World} {B : Nat} {v : Value} {l : List I} (h : IRow w B v l) : ∃ va vc, v = .slice va l.length vc ∧ l.length ≤ vc ∧ vc ≤ maxLen := by
  rcases h.2 with ⟨hv, h0⟩ | ⟨g, cap, cur, hv, _, _, h1, h2, _⟩
  · exact ⟨none, 0, by rw [hv, h0], by omega, Nat.zero_le _⟩
  · exact ⟨_, cap, hv, h1, h2⟩
theorem IRow.kept {w w' : World} {B : Nat} {v : Value} {l : List I} (h : IRow w B v l) (hb : Below w.heap.size w w') : IRow w' B v l :=
  World.ownsRow.kept h ⟨hb.os, hb.tape, hb.output, hb.size, fun k hk _ => hb.block k hk⟩ (row := none) (by cases hv : v.ownBlock with | none => exact .inl rfl | some x => exact .inr (by simp))
theorem IRow.base {w : World} {B B' : Nat} {v : Value} {l : List I} (h : IRow w B v l) (hB : B' ≤ B) : IRow w B' v l := by
  refine ⟨h.1, ?_⟩
  rcases h.2 with hn | ⟨g, cap, cur, hv, hb, rest⟩
  · exact .inl hn
  · exact .inr ⟨g, cap, cur, hv, Nat.le_trans hB hb, rest⟩
theorem flat_at : ∀ (l : List I) (j i : Nat), (hj : j < l.length) → (hi : i < 6) → (l.flatMap insL)[j * 6 + i]? = (insL l[j])[i]?
  | x :: l, 0, i, _, hi => by
    rw [List.flatMap_cons, Nat.zero_mul, Nat.zero_add, List.getElem?_append_left (show i < 6 from hi)]; rfl
  | x :: l, j + 1, i, hj, hi => by
    have hj' : j < l.length := by simpa using hj
    rw [List.flatMap_cons, List.getElem?_append_right (by show 6 ≤ _; omega)]
    have : (j + 1) * 6 + i - (insL x).length = j * 6 + i := by show (j + 1) * 6 + i - 6 = _; omega
    rw [this, flat_at l j i hj' hi]; rfl
theorem flat_len6 (l : List I) : (l.flatMap insL).length = l.length * 6 := by
  induction l with
  | nil => rfl
  | cons x l ih => rw [List.flatMap_cons, List.length_append, ih, List.length_cons]; show 6 + _ = _; omega
theorem IRow.row {w : World} {B : Nat} {va : Option Addr} {n vc : Nat} {l : List I} (h : IRow w B (.slice va n vc) l) : RowI w va l := by
  by_cases hl : l = []
  · exact .inl hl
  rcases h.2 with ⟨_, h0⟩ | ⟨g, cap, cur, hv, hB, hg, h1, _, hs, ht⟩
  · exact absurd (List.length_eq_zero_iff.1 h0) hl
  · simp only [Value.slice.injEq] at hv
    obtain ⟨rfl, _, _⟩ := hv
    refine .inr ⟨g, 0, rfl, fun j hj => ?_⟩
    have hc : ∀ i, i < 6 → w.cell? ⟨g, 0 + j * 6 + i, none⟩ = (insL l[j])[i]? := fun i hi => by
      rw [World.cell?, hg]
      simp only
      have h2 : (cur.toList.take (l.length * 6))[j * 6 + i]? = (l.flatMap insL)[j * 6 + i]? := by rw [ht]
      rw [List.getElem?_take, if_pos (by omega), flat_at l j i hj hi] at h2
      rw [Nat.zero_add]
      simpa using h2
    exact ⟨hc 0 (by omega), hc 1 (by omega), hc 2 (by omega), hc 3 (by omega), hc 4 (by omega), hc 5 (by omega)⟩
theorem iRow_snoc {w : World} {B : Nat} {v : Value} {l : List I} {x : I} (h : w.ownsRow B 77 6 v (l.length + 1) (l.flatMap insL ++ insL x)) : IRow w B v (l ++ [x]) := by
  unfold IRow
  simpa using h
theorem one6 (x : I) : ∀ u ∈ insL x, u.oneCell' = true := fun u hu => by
  simp only [insL, List.mem_cons, List.not_mem_nil, or_false] at hu
  rcases hu with rfl | rfl | rfl | rfl | rfl | rfl <;> rfl
theorem news6 (W : World) (x : I) : ∀ j u, (insL x)[j]? = some u → (W.alloc (.cells #[.int .i64 x.op, .int .i64 x.a, .int .i64 x.b, .int .i64 x.c, .int .i64 x.n, .string x.s] 77)).cell? ((⟨W.heap.size, 0, none⟩ : Addr).add j) = some u := by
  intro j u hj
  have e : (⟨W.heap.size, 0, none⟩ : Addr).add j = ⟨W.heap.size, j, none⟩ := by unfold Addr.add; by_cases h : j = 0 <;> simp [h]
  rw [e, World.cell?_alloc_new, ← hj]
  exact List.getElem?_toArray

theorem readL_snoc : ∀ (ps : List (List UInt8)) (l : List I) (p : List UInt8), readL ps = some l → readL (ps ++ [p]) = if (insP p).2 then some (l ++ [(insP p).1]) else none
  | [], l, p, h => by
    simp only [readL, Option.some.injEq] at h
    subst h
    show readL [p] = _
    rw [readL]
    cases (insP p).2 <;> rfl
  | q :: ps, l, p, h => by
    rw [readL] at h
    cases hq : (insP q).2
    · rw [hq] at h; simp at h
    · rw [hq] at h
      simp only [if_true] at h
      obtain ⟨m, hm, rfl⟩ := Option.map_eq_some_iff.1 h
      rw [List.cons_append, readL, hq, readL_snoc ps m p hm]
      cases (insP p).2 <;> rfl
theorem readL_bad : ∀ (ps : List (List UInt8)) (p : List UInt8) (qs : List (List UInt8)), (insP p).2 = false → readL (ps ++ p :: qs) = none
  | [], p, qs, h => by rw [List.nil_append, readL, h]; rfl
  | q :: ps, p, qs, h => by
    rw [List.cons_append, readL, readL_bad ps p qs h]
    cases (insP q).2 <;> rfl

theorem setAll_small (M : Nat) : ∀ (us : List UInt8) (ws : List (List UInt8)) (x : I) (ok : Bool), x.s.size ≤ M → (∀ p ∈ ws, p.length ≤ M) → (setAll x ok us ws).1.s.size ≤ M
  | [], ws, x, ok, hx, _ => by rw [setAll_nil]; exact hx
  | u :: us, [], x, ok, hx, _ => hx
  | u :: us, p :: ws, x, ok, hx, hw => by
    unfold setAll
    split
    · refine setAll_small M us ws _ _ ?_ (fun q hq => hw q (List.mem_cons_of_mem _ hq))
      have hp := hw p List.mem_cons_self
      unfold setI
      split
      · simpa [ByteArray.size] using hp
      split
      · exact hx
      split
      · exact hx
      split
      · exact hx
      · exact hx
    · exact hx
theorem insW_small (ws : List (List UInt8)) (M : Nat) (hw : ∀ p ∈ ws, p.length ≤ M) : ∀ (m k : Nat), (insW ws k m).1.s.size ≤ M
  | 0, k => Nat.zero_le _
  | m + 1, k => by
    unfold insW
    split
    · exact setAll_small M _ _ _ _ (Nat.zero_le _) (fun q hq => hw q (List.mem_of_mem_tail hq))
    · exact insW_small ws M hw m (k + 1)
theorem insP_small (p : List UInt8) : (insP p).1.s.size ≤ p.length :=
  insW_small _ _ (fun q hq => by have := spl_piece 32 p [] q hq; simpa using this) 20 0
theorem readL_small (M : Nat) : ∀ (ps : List (List UInt8)) (l : List I), (∀ p ∈ ps, p.length ≤ M) → readL ps = some l → SmI M l
  | [], l, _, h => by
    simp only [readL, Option.some.injEq] at h
    subst h
    intro x hx; cases hx
  | p :: ps, l, hp, h => by
    rw [readL] at h
    split at h
    · obtain ⟨m, hm, rfl⟩ := Option.map_eq_some_iff.1 h
      intro x hx
      rcases List.mem_cons.1 hx with rfl | hx
      · exact Nat.le_trans (insP_small p) (hp p List.mem_cons_self)
      · exact readL_small M ps m (fun q hq => hp q (List.mem_cons_of_mem _ hq)) hm x hx
    · cases h

/-- What ParseCode answers. -/
def ParP (o : Option (List I)) (B : Nat) (e : Ending) (w' : World) : Prop :=
  ∃ (va : Option Addr) (vc : Nat) (l : List I), e = .returned (.tuple #[.slice va l.length vc, .bool o.isSome]) ∧ IRow w' B (.slice va l.length vc) l ∧ (o = some l ∨ o = none ∧ l = [])

set_option maxHeartbeats 4000000 in
theorem specParse_any (s : ByteArray) (w : World) (hs : s.size ≤ 1048576) :
    Calls Tryz.prog 40 #[.string s] w fun e w' => ParP (parseP (dat s)) w.heap.size e w' ∧ Below w.heap.size w w' := by
  obtain ⟨i0, hi, hz0, hz1, hz2⟩ := info_parts infoIns
  have HI : Hid (Tryz.prog.info? 77 = some i0 ∧ i0.zero = some (.agg #[.int .i64 0, .int .i64 0, .int .i64 0, .int .i64 0, .int .i64 0, .string ⟨#[]⟩]) ∧ i0.size = 6 ∧ i0.bytes = 56) := ⟨hi, hz0, hz1, hz2⟩
  clear hi hz0 hz1 hz2
  have HN0 : Hid (IRow (w.alloc (.cells #[] 77)) w.heap.size (.slice (some ⟨w.heap.size, 0, none⟩) 0 0) [] ∧ Below w.heap.size w (w.alloc (.cells #[] 77))) :=
    ⟨World.ownsRow_made (base := w.heap.size) (e := 77) (size := 6) w #[] 0 (Nat.le_refl _) (Nat.zero_le _) rfl, (Below.refl _ _).alloc (Nat.le_refl _) _⟩
  go_enter Tryz.func40, Tryz.ntmps40
  go_wp2_with (go_at_call 58; fail)
  refine (split_any s 10 10 rfl _ hs).mono ?_
  rintro e w1 ⟨v, L, rfl, hrow, hL, hb1⟩
  have hLne : L ≠ [] := by
    intro h
    rw [h] at hL
    exact spl_ne 10 _ _ hL.symm
  obtain ⟨wb, vc, hwb, rfl, hcel⟩ := hrow.at hLne
  obtain ⟨m, hm⟩ : ∃ m, L.length = m + 1 := by
    cases L with
    | nil => exact absurd rfl hLne
    | cons a b => exact ⟨b.length, rfl⟩
  have HLL : Hid (L.length ≤ 1048577) := by
    have h1 := spl_len 10 (dat s) []
    rw [← hL, List.length_map, dat_len] at h1
    show _ ≤ _; omega
  have hm1 : m ≤ 1048576 := by have := HLL.out; omega
  have HN1 : Hid (IRow w1 w.heap.size (.slice (some ⟨w.heap.size, 0, none⟩) 0 0) [] ∧ Below w.heap.size w w1) := ⟨HN0.out.1.kept hb1, HN0.out.2.trans (hb1.mono HN0.out.2.size)⟩
  have HCE : Hid (∀ j (hj : j < L.length), w1.cell? ⟨wb, j, none⟩ = some (.string L[j])) := hcel
  have HSW : Hid (∀ j (hj : j < L.length), (L[j]).size ≤ 1048576) := fun j hj => by
    have h1 := spl_piece 10 (dat s) [] (dat L[j]) (by rw [← hL]; exact List.mem_map_of_mem (List.getElem_mem hj))
    rw [dat_len, dat_len] at h1
    simp at h1; omega
  have hml : m < L.length := by omega
  have clast := hcel m hml
  have HPA : Hid (parseP (dat s) = if dat (L[m]'hml) = [] then (match readL ((L.take m).map dat) with | some l => if codeB l then some l else none | none => none) else none) := by
    show _ = _
    unfold parseP
    rw [← hL]
    have e1 : (L.map dat).getLast? = some (dat (L[m]'hml)) := by
      rw [List.getLast?_eq_getElem?, List.length_map, hm, Nat.add_sub_cancel, List.getElem?_map, List.getElem?_eq_getElem hml]; rfl
    have e2 : (L.map dat).dropLast = (L.take m).map dat := by
      rw [List.dropLast_eq_take, List.length_map, hm, Nat.add_sub_cancel, List.map_take]
    rw [e1, e2]
    simp only [Option.some.injEq]
  have HLM : Hid (L.length = m + 1) := hm
  generalize hlast : L[m]'hml = last at clast HPA
  have hemp : last.toList.isEmpty = (dat last).isEmpty := by rw [ByteArray.toList_eq]; rfl
  clear hrow hL hb1 hwb hcel HN0 hlast
  have e1 : IntKind.i64.wrap ((m : Int) + 1 - 1) = (m : Int) := by rw [IntKind.wrap_i64]; omega
  have e2 : IntKind.i64.wrap (m : Int) = (m : Int) := by rw [IntKind.wrap_i64]; omega
  rw [hm]
  clear hm
  by_cases hle : dat last = []
  rotate_left
  · have HNO : Hid (parseP (dat s) = none) := by show _ = _; rw [HPA.out, if_neg hle]
    have hb : last.toList.isEmpty = false := by rw [hemp]; cases h : dat last with | nil => exact absurd h hle | cons a b => rfl
    clear hemp
    go_wp2_with fail
    go_ret2
    refine ⟨⟨some ⟨w.heap.size, 0, none⟩, 0, [], by rw [HNO.out]; rfl, HN1.out.1, .inr ⟨HNO.out, rfl⟩⟩, HN1.out.2⟩
  · have HYE : Hid (parseP (dat s) = (match readL ((L.take m).map dat) with | some l => if codeB l then some l else none | none => none)) := by show _ = _; rw [HPA.out, if_pos hle]
    have hb : last.toList.isEmpty = true := by rw [hemp, hle]; rfl
    have HO0 : Hid (IRow (w1.alloc (.cells #[] 77)) w1.heap.size (.slice (some ⟨w1.heap.size, 0, none⟩) 0 0) [] ∧ Below w1.heap.size w1 (w1.alloc (.cells #[] 77))) :=
      ⟨World.ownsRow_made (base := w1.heap.size) (e := 77) (size := 6) w1 #[] 0 (Nat.le_refl _) (Nat.zero_le _) rfl, (Below.refl _ _).alloc (Nat.le_refl _) _⟩
    clear hemp hle HPA
    go_wp2_with fail
    clear clast hb e1 e2
    go_loopw [7, 8] (fun v iv wr => ∃ (j : Nat) (l : List I), j ≤ m ∧ iv = .int .i64 j ∧ l.length ≤ j ∧ readL ((L.take j).map dat) = some l ∧ IRow wr w1.heap.size v l ∧ Below w1.heap.size w1 wr) (fun v iv wr => m - (intOf iv).toNat)
    case atStart => exact ⟨0, [], Nat.zero_le _, rfl, Nat.le_refl _, rfl, HO0.out.1, HO0.out.2⟩
    case round =>
      obtain ⟨j, l, hj, rfl, hlj, hrd, hrow, hbr⟩ := hrel
      obtain ⟨va, oc, rfl, hoc⟩ := hrow.slice
      have HRD : Hid (readL ((L.take j).map dat) = some l) := hrd
      have HRO : Hid (IRow wr w1.heap.size (.slice va l.length oc) l) := hrow
      have HBR : Hid (Below w1.heap.size w1 wr) := hbr
      clear hrd hrow hbr hoc HO0
      by_cases hlt : j < m
      · have hjL : j < L.length := by have := HLM.out; omega
        have cw := (HBR.out.cell (p := ⟨wb, j, none⟩) (World.block_lt_of_cell? w1 _ (HCE.out j hjL))).trans (HCE.out j hjL)
        have hws := HSW.out j hjL
        have HTK : Hid ((L.take (j + 1)).map dat = (L.take j).map dat ++ [dat L[j]]) := by
          show _ = _
          rw [List.take_succ_eq_append_getElem hjL, List.map_append]; rfl
        have HFL : Hid ((insP (dat L[j])).2 = false → parseP (dat s) = none) := fun h => by
          have e : (L.take m).map dat = (L.take j).map dat ++ dat L[j] :: ((L.take m).drop (j + 1)).map dat := by
            have h1 : j < (L.take m).length := by have := HLM.out; rw [List.length_take]; omega
            rw [← List.map_cons, show (L[j] :: (L.take m).drop (j + 1)) = (L.take m).drop j by rw [List.drop_eq_getElem_cons h1]; simp, ← List.map_append]
            congr 1
            rw [show L.take j = (L.take m).take j by rw [List.take_take, Nat.min_eq_left (by omega)], List.take_append_drop]
          rw [HYE.out, e, readL_bad _ _ _ h]
        have HSN : Hid ((insP (dat L[j])).2 = true → readL ((L.take (j + 1)).map dat) = some (l ++ [(insP (dat L[j])).1])) := fun h => by
          rw [HTK.out, readL_snoc _ _ _ HRD.out, if_pos h]
        generalize L[j] = ln at cw hws HFL HSN
        clear HTK
        have HLI : Hid (∀ w', Calls Tryz.prog 59 #[.string ln] w' fun e w'' => (∃ (op a b c n : Int) (s : ByteArray), e = .returned (.tuple #[.agg #[.int .i64 op, .int .i64 a, .int .i64 b, .int .i64 c, .int .i64 n, .string s], .bool (insP (dat ln)).2]) ∧ (insP (dat ln)).1 = ⟨op, a, b, c, n, s⟩) ∧ Below w'.heap.size w' w'') := fun w' => ins_line ln w' hws
        generalize hP : insP (dat ln) = P at HFL HSN HLI
        obtain ⟨PI, Pq⟩ := P
        clear hP hws
        cases Pq
        · go_wp2_with (go_at_call 59; fail)
          refine (HLI.out _).mono ?_
          rintro e w3 ⟨⟨op, xa, xb, xc, xn, xs, rfl, hPI⟩, hb3⟩
          have HB3 : Hid (Below w1.heap.size w1 w3) := HBR.out.trans (hb3.mono HBR.out.size)
          have HNO : Hid (parseP (dat s) = none) := HFL.out (by trivial)
          clear hb3 hPI
          go_wp2_with fail
          go_ret2
          have hbA := HB3.out.alloc HB3.out.size (.cells #[.int .i64 op, .int .i64 xa, .int .i64 xb, .int .i64 xc, .int .i64 xn, .string xs] 77)
          exact ⟨⟨some ⟨w.heap.size, 0, none⟩, 0, [], by rw [HNO.out]; rfl, HN1.out.1.kept hbA, .inr ⟨HNO.out, rfl⟩⟩, HN1.out.2.trans (hbA.mono HN1.out.2.size)⟩
        · go_wp2_with (go_at_call 59; fail)
          refine (HLI.out _).mono ?_
          rintro e w3 ⟨⟨op, xa, xb, xc, xn, xs, rfl, hPI⟩, hb3⟩
          have hPI' : PI = ⟨op, xa, xb, xc, xn, xs⟩ := hPI
          subst hPI'
          have HB3 : Hid (Below w1.heap.size w1 w3) := HBR.out.trans (hb3.mono HBR.out.size)
          have HR3 : Hid (IRow w3 w1.heap.size (.slice va l.length oc) l) := HRO.out.kept hb3
          have HS3 : Hid (readL ((L.take (j + 1)).map dat) = some (l ++ [⟨op, xa, xb, xc, xn, xs⟩])) := HSN.out (by trivial)
          clear hb3 hPI
          have C3 : Hid (l.length + 1 ≤ maxLen) := by show _ ≤ _; unfold maxLen; omega
          have C4 : Hid ((l.length + 1) * 56 ≤ 140737488355328) := by show _ ≤ _; omega
          obtain ⟨o3, ho3⟩ : ∃ o3 : Obj, o3 = .cells #[.int .i64 op, .int .i64 xa, .int .i64 xb, .int .i64 xc, .int .i64 xn, .string xs] 77 := ⟨_, rfl⟩
          have hz4 : (w3.alloc o3).heap.size = w3.heap.size + 1 := World.size_alloc _ _
          have hb4 := ((Below.refl w3.heap.size w3).alloc (Nat.le_refl _) o3).alloc (by rw [hz4]; omega) o3
          have CR : Hid (IRow ((w3.alloc o3).alloc o3) w1.heap.size (.slice va l.length oc) l) := HR3.out.kept hb4
          have CB : Hid (Below w1.heap.size w1 ((w3.alloc o3).alloc o3)) := HB3.out.trans (hb4.mono HB3.out.size)
          have C1 : Hid (∀ j u, (insL ⟨op, xa, xb, xc, xn, xs⟩)[j]? = some u → ((w3.alloc o3).alloc o3).cell? ((⟨w3.heap.size + 1, 0, none⟩ : Addr).add j) = some u) := fun j u hj => by
            have := news6 (w3.alloc o3) ⟨op, xa, xb, xc, xn, xs⟩ j u hj
            rw [hz4] at this
            rw [ho3] at this ⊢
            exact this
          rw [ho3] at CR CB C1
          have C5 : Hid (w1.heap.size ≤ ((w3.alloc (.cells #[.int .i64 op, .int .i64 xa, .int .i64 xb, .int .i64 xc, .int .i64 xn, .string xs] 77)).alloc (.cells #[.int .i64 op, .int .i64 xa, .int .i64 xb, .int .i64 xc, .int .i64 xn, .string xs] 77)).heap.size) := CB.out.size
          clear hz4 hb4 ho3
          go_wp2_with (at_builtin; refine wpList_append_own _ rfl _ _ 35 rfl w1.heap.size 77 i0 (.agg #[.int .i64 0, .int .i64 0, .int .i64 0, .int .i64 0, .int .i64 0, .string ⟨#[]⟩]) 6 56 undInsS HI.out.1 HI.out.2.1 HI.out.2.2.1 HI.out.2.2.2 rfl (by decide) _ _ _ rfl CR.out ⟨w3.heap.size + 1, 0, none⟩ 1 1 (insL ⟨op, xa, xb, xc, xn, xs⟩) rfl rfl C1.out (one6 _) C3.out C4.out C5.out ?_; intro v2 w5 hown2 hgr2 hnil2)
          have HR5 : Hid (IRow w5 w1.heap.size v2 (l ++ [⟨op, xa, xb, xc, xn, xs⟩])) := iRow_snoc hown2
          have HB5 : Hid (Below w1.heap.size w1 w5) := CB.out.grown hgr2 C5.out (fun k hk => (World.ownsRow.lt CR.out k hk).1)
          clear hown2 hgr2 hnil2
          go_wp2_with fail
          go_roundw
          case rel => exact ⟨j + 1, l ++ [⟨op, xa, xb, xc, xn, xs⟩], by omega, by go_num, by simp; omega, HS3.out, HR5.out, HB5.out⟩
          case measure => simp [intOf]; omega
      · have hjm : j = m := by omega
        have HRM : Hid (readL ((L.take m).map dat) = some l) := by have := HRD.out; rw [hjm] at this; exact this
        have HSM : Hid (SmI maxLen l) := fun x hx => by
          have := readL_small 1048576 _ l (fun p hp => by
            obtain ⟨y, hy, rfl⟩ := List.mem_map.1 hp
            obtain ⟨i, hi, rfl⟩ := List.getElem_of_mem (List.mem_of_mem_take hy)
            rw [dat_len]; exact HSW.out i hi) HRM.out x hx
          exact Nat.le_trans this (by unfold maxLen; omega)
        have HPC : Hid (parseP (dat s) = if codeB l then some l else none) := by show _ = _; rw [HYE.out, HRM.out]
        have HCK : Hid (∀ w', w' = wr → Calls Tryz.prog 60 #[.slice va l.length oc] w' fun e w'' => e = .returned (.bool (codeB l)) ∧ Below w'.heap.size w' w'') := fun w' h => by
          subst h; exact specCode_any l va oc w' HRO.out.row HSM.out (by omega)
        cases hc : codeB l
        · have HNO : Hid (parseP (dat s) = none) := by show _ = _; rw [HPC.out, hc]; rfl
          rw [hc] at HCK
          go_wp2_with (go_at_call 60; refine (HCK.out _ rfl).mono ?_; rintro e w3 ⟨rfl, hb3⟩; have HB3 : Hid (Below w1.heap.size w1 w3) := HBR.out.trans (hb3.mono HBR.out.size); clear hb3)
          go_ret2
          exact ⟨⟨some ⟨w.heap.size, 0, none⟩, 0, [], by rw [HNO.out]; rfl, HN1.out.1.kept HB3.out, .inr ⟨HNO.out, rfl⟩⟩, HN1.out.2.trans (HB3.out.mono HN1.out.2.size)⟩
        · have HYS : Hid (parseP (dat s) = some l) := by show _ = _; rw [HPC.out, hc]; rfl
          rw [hc] at HCK
          go_wp2_with (go_at_call 60; refine (HCK.out _ rfl).mono ?_; rintro e w3 ⟨rfl, hb3⟩; have HB3 : Hid (Below w1.heap.size w1 w3 ∧ IRow w3 w1.heap.size (.slice va l.length oc) l) := ⟨HBR.out.trans (hb3.mono HBR.out.size), HRO.out.kept hb3⟩; clear hb3)
          go_ret2
          exact ⟨⟨va, oc, l, by rw [HYS.out]; rfl, HB3.out.2.base HN1.out.2.size, .inl HYS.out⟩, HN1.out.2.trans (HB3.out.1.mono HN1.out.2.size)⟩
end Go.Proofs.YtfjaphhijefdlaaGreatDoor.Code
namespace Go.Proofs.YtfjaphhijefdlaaGreatDoor
open Go.RowKit
set_option linter.unusedVariables false

theorem Turn.grown {cb : Nat} {w w' : World} (t : Turn cb w w') : w.grownBy w' (some cb) := ⟨t.os, t.tape, t.output, t.size, fun k hk hn => t.block k hk (fun e => hn (by rw [e]))⟩


theorem Cur.same {cb : Nat} {ao : Option Addr} {len cap : Nat} {zs : List Int} {w w' : World} (h : Cur cb ao len cap zs w) (hs : ∀ b, b ≤ cb → w'.heap[b]? = w.heap[b]?) : Cur cb ao len cap zs w' := by
  have e : ∀ b o, b ≤ cb → w'.cell? ⟨b, o, none⟩ = w.cell? ⟨b, o, none⟩ := fun b o hb => World.cell?_of_block (w := w) (hs b hb)
  obtain ⟨i, hi, h1⟩ := h.c1
  obtain ⟨x, h2⟩ := h.c2
  refine ⟨by rw [e _ _ (Nat.le_refl _)]; exact h.c0, ⟨i, hi, by rw [e _ _ (Nat.le_refl _)]; exact h1⟩, ⟨x, by rw [e _ _ (Nat.le_refl _)]; exact h2⟩, fun o => by rw [World.frozen?_of_block (w := w) (hs cb (Nat.le_refl _))]; exact h.free o, fun hn => ?_, h.rng, h.small⟩
  obtain ⟨b, off, e1, e2, e3⟩ := h.code hn
  exact ⟨b, off, e1, e2, fun j hj => by rw [e _ _ (Nat.le_of_lt e2)]; exact e3 j hj⟩


end Go.Proofs.YtfjaphhijefdlaaGreatDoor
namespace Go.Proofs.YtfjaphhijefdlaaGreatDoor
open Go.RowKit
set_option linter.unusedVariables false

set_option maxHeartbeats 1000000 in
theorem str_any (cb : Nat) (ao : Option Addr) (len cap : Nat) (zs : List Int) (w : World) (hc : Cur cb ao len cap zs w) (g : Nat) (l : List ByteArray) (hg : g ≠ cb) (hl0 : 1 ≤ l.length) (hl1 : l.length ≤ 256) (hcell : ∀ j, j < l.length → w.cell? ⟨g, j, none⟩ = some (.string (l.getD j ByteArray.empty))) :
    Calls Tryz.prog 49 #[.pointer (some ⟨cb, 0, none⟩), .slice (some ⟨g, 0, none⟩) l.length l.length] w fun e w' => ∃ x, e = .returned (.string x) ∧ x ∈ l ∧ Drawn cb ao len cap zs w w' := by
  have HC : Hid (Cur cb ao len cap zs w) := hc
  have HL : Hid (∀ j, j < l.length → w.cell? ⟨g, j, none⟩ = some (.string (l.getD j ByteArray.empty))) := hcell
  clear hc hcell
  go_enter Tryz.func49, Tryz.ntmps49
  go_wp2_with fail
  refine (below_any cb ao len cap zs _ HC.out l.length (by omega) (by omega)).mono ?_
  rintro e w1 ⟨x, rfl, hx0, hx1, hd⟩
  have HD : Hid (Drawn cb ao len cap zs w w1) := hd
  clear hd
  obtain ⟨j, rfl⟩ : ∃ j : Nat, x = j := ⟨x.toNat, by omega⟩
  have hj : j < l.length := by omega
  have q := HD.out.2.cell hg (HL.out j hj)
  have HM : Hid (l.getD j ByteArray.empty ∈ l) := by
    show l.getD j ByteArray.empty ∈ l
    rw [List.getD_eq_getElem?_getD, List.getElem?_eq_getElem hj]; exact List.getElem_mem hj
  generalize l.getD j ByteArray.empty = y at *
  go_wp2_with fail
  go_ret
  exact ⟨_, rfl, HM.out, HD.out⟩

end Go.Proofs.YtfjaphhijefdlaaGreatDoor
namespace Go.Proofs.YtfjaphhijefdlaaGreatDoor.Code
open Go.RowKit
open Go.Proofs.YtfjaphhijefdlaaGreatDoor.Atom
set_option linter.unusedVariables false

section
variable {cb : Nat} {ao : Option Addr} {len cap : Nat} {zs : List Int}

/-- What l8Draw has in hand: the cursor, the answer's block R, the instruction y in the block X. -/
structure Dx (cb : Nat) (ao : Option Addr) (len cap : Nat) (zs : List Int) (w wr : World) (R X : Nat) (y : I) : Prop where
  cur : Cur cb ao len cap zs wr
  trn : Turn cb w wr
  res : wr.heap[R]? = some (.cells (insV zeroI) 77 (0, 0))
  ins : wr.heap[X]? = some (.cells (insV y) 77 (0, 0))
theorem Dx.call {w wr w' : World} {R X : Nat} {y : I} (h : Dx cb ao len cap zs w wr R X y) (hR : R ≠ cb) (hX : X ≠ cb) (d : Drawn cb ao len cap zs wr w') : Dx cb ao len cap zs w w' R X y :=
  ⟨d.1, h.trn.trans d.2, (d.2.block _ (blk_lt h.res) hR).trans h.res, (d.2.block _ (blk_lt h.ins) hX).trans h.ins⟩
theorem Dx.below {w wr w' : World} {R X : Nat} {y : I} (h : Dx cb ao len cap zs w wr R X y) (hb : Below wr.heap.size wr w') : Dx cb ao len cap zs w w' R X y :=
  ⟨h.cur.below hb, h.trn.trans (Turn.of_below hb), (hb.block _ (blk_lt h.res)).trans h.res, (hb.block _ (blk_lt h.ins)).trans h.ins⟩
theorem Dx.set {w wr : World} {R X : Nat} {y z : I} (h : Dx cb ao len cap zs w wr R X y) (hc : cb < X) (hX : w.heap.size ≤ X) (hR : R ≠ X) (i : Nat) (v : Value) (hz : (insV y).setIfInBounds i v = insV z) : Dx cb ao len cap zs w (wr.setCell ⟨X, i, none⟩ v) R X z := by
  have ho : ∀ b, b ≠ X → (wr.setCell ⟨X, i, none⟩ v).heap[b]? = wr.heap[b]? := fun b hb => Below.heap_setCell wr ⟨X, i, none⟩ v b hb
  refine ⟨h.cur.same fun b hb => ho b (by omega), ⟨h.trn.os, h.trn.tape, h.trn.output, by simp [World.setCell]; exact h.trn.size, fun k hk hn => (ho k (by omega)).trans (h.trn.block k hk hn)⟩, (ho R hR).trans h.res, ?_⟩
  rw [set_blk h.ins, hz]
theorem Dx.cell {w wr : World} {R X : Nat} {y : I} (h : Dx cb ao len cap zs w wr R X y) (i : Nat) : wr.cell? ⟨X, i, none⟩ = (insV y)[i]? := blk_at h.ins i
theorem Dx.free {w wr : World} {R X : Nat} {y : I} (h : Dx cb ao len cap zs w wr R X y) (i : Nat) : wr.frozen? ⟨X, i, none⟩ = false := blk_free h.ins i
end
theorem cur_lt {cb : Nat} {ao : Option Addr} {len cap : Nat} {zs : List Int} {w : World} (h : Cur cb ao len cap zs w) : cb < w.heap.size := World.block_lt_of_cell? w _ h.c0
/-- An instruction whose numbers and text are small. -/
structure Wee (x : I) : Prop where
  op : -2000000 ≤ x.op ∧ x.op ≤ 2000000
  a : -2000000 ≤ x.a ∧ x.a ≤ 2000000
  b : -2000000 ≤ x.b ∧ x.b ≤ 2000000
  c : -2000000 ≤ x.c ∧ x.c ≤ 2000000
  n : -2000000 ≤ x.n ∧ x.n ≤ 2000000
  s : x.s.size ≤ 1000
/-- The k-th instruction under way, of which Q holds. -/
def Mid (Q : Int → Int → Int → Int → ByteArray → Prop) (cb : Nat) (ao : Option Addr) (len cap : Nat) (zs : List Int) (w : World) (R X k : Nat) (wx : World) : Prop :=
  ∃ (a b c n : Int) (s : ByteArray), Dx cb ao len cap zs w wx R X ⟨(k : Int) + 1, a, b, c, n, s⟩ ∧ Q a b c n s
section
variable {Q P : Int → Int → Int → Int → ByteArray → Prop} {cb : Nat} {ao : Option Addr} {len cap : Nat} {zs : List Int} {w wr w' : World} {R X k : Nat}
theorem Mid.call (h : Mid Q cb ao len cap zs w R X k wr) (hR : R ≠ cb) (hX : X ≠ cb) (d : Drawn cb ao len cap zs wr w') : Mid Q cb ao len cap zs w R X k w' := by
  obtain ⟨a, b, c, n, s, h1, h2⟩ := h
  exact ⟨a, b, c, n, s, h1.call hR hX d, h2⟩
theorem Mid.below (h : Mid Q cb ao len cap zs w R X k wr) (hb : Below wr.heap.size wr w') : Mid Q cb ao len cap zs w R X k w' := by
  obtain ⟨a, b, c, n, s, h1, h2⟩ := h
  exact ⟨a, b, c, n, s, h1.below hb, h2⟩
theorem Mid.cur (h : Mid Q cb ao len cap zs w R X k wr) : Cur cb ao len cap zs wr := by
  obtain ⟨a, b, c, n, s, h1, h2⟩ := h
  exact h1.cur
theorem Mid.free (h : Mid Q cb ao len cap zs w R X k wr) (i : Nat) : wr.frozen? ⟨X, i, none⟩ = false := by
  obtain ⟨a, b, c, n, s, h1, h2⟩ := h
  exact h1.free i
theorem Mid.op (h : Mid Q cb ao len cap zs w R X k wr) : wr.cell? ⟨X, 0, none⟩ = some (.int .i64 ((k : Int) + 1)) := by
  obtain ⟨a, b, c, n, s, h1, h2⟩ := h
  exact h1.cell 0
theorem Mid.cells (h : Mid Q cb ao len cap zs w R X k wr) :
    (∃ v : Int, wr.cell? ⟨X, 1, none⟩ = some (.int .i64 v)) ∧ (∃ v : Int, wr.cell? ⟨X, 2, none⟩ = some (.int .i64 v)) ∧ (∃ v : Int, wr.cell? ⟨X, 3, none⟩ = some (.int .i64 v)) ∧ (∃ v : Int, wr.cell? ⟨X, 4, none⟩ = some (.int .i64 v)) ∧ (∃ v, wr.cell? ⟨X, 5, none⟩ = some (.string v)) := by
  obtain ⟨a, b, c, n, s, h1, h2⟩ := h
  exact ⟨⟨_, h1.cell 1⟩, ⟨_, h1.cell 2⟩, ⟨_, h1.cell 3⟩, ⟨_, h1.cell 4⟩, ⟨_, h1.cell 5⟩⟩
theorem Mid.imp (h : Mid Q cb ao len cap zs w R X k wr) (hq : ∀ a b c n s, Q a b c n s → P a b c n s) : Mid P cb ao len cap zs w R X k wr := by
  obtain ⟨a, b, c, n, s, h1, h2⟩ := h
  exact ⟨a, b, c, n, s, h1, hq _ _ _ _ _ h2⟩
theorem Mid.put1 (h : Mid Q cb ao len cap zs w R X k wr) (hc : cb < X) (hX : w.heap.size ≤ X) (hR : R ≠ X) (v : Int) (hq : ∀ a b c n s, Q a b c n s → P v b c n s) : Mid P cb ao len cap zs w R X k (wr.setCell ⟨X, 1, none⟩ (.int .i64 v)) := by
  obtain ⟨a, b, c, n, s, hd, hw⟩ := h
  exact ⟨v, b, c, n, s, hd.set hc hX hR 1 _ rfl, hq _ _ _ _ _ hw⟩
theorem Mid.put2 (h : Mid Q cb ao len cap zs w R X k wr) (hc : cb < X) (hX : w.heap.size ≤ X) (hR : R ≠ X) (v : Int) (hq : ∀ a b c n s, Q a b c n s → P a v c n s) : Mid P cb ao len cap zs w R X k (wr.setCell ⟨X, 2, none⟩ (.int .i64 v)) := by
  obtain ⟨a, b, c, n, s, hd, hw⟩ := h
  exact ⟨a, v, c, n, s, hd.set hc hX hR 2 _ rfl, hq _ _ _ _ _ hw⟩
theorem Mid.put3 (h : Mid Q cb ao len cap zs w R X k wr) (hc : cb < X) (hX : w.heap.size ≤ X) (hR : R ≠ X) (v : Int) (hq : ∀ a b c n s, Q a b c n s → P a b v n s) : Mid P cb ao len cap zs w R X k (wr.setCell ⟨X, 3, none⟩ (.int .i64 v)) := by
  obtain ⟨a, b, c, n, s, hd, hw⟩ := h
  exact ⟨a, b, v, n, s, hd.set hc hX hR 3 _ rfl, hq _ _ _ _ _ hw⟩
theorem Mid.put4 (h : Mid Q cb ao len cap zs w R X k wr) (hc : cb < X) (hX : w.heap.size ≤ X) (hR : R ≠ X) (v : Int) (hq : ∀ a b c n s, Q a b c n s → P a b c v s) : Mid P cb ao len cap zs w R X k (wr.setCell ⟨X, 4, none⟩ (.int .i64 v)) := by
  obtain ⟨a, b, c, n, s, hd, hw⟩ := h
  exact ⟨a, b, c, v, s, hd.set hc hX hR 4 _ rfl, hq _ _ _ _ _ hw⟩
theorem Mid.putS (h : Mid Q cb ao len cap zs w R X k wr) (hc : cb < X) (hX : w.heap.size ≤ X) (hR : R ≠ X) (v : ByteArray) (hq : ∀ a b c n s, Q a b c n s → P a b c n v) : Mid P cb ao len cap zs w R X k (wr.setCell ⟨X, 5, none⟩ (.string v)) := by
  obtain ⟨a, b, c, n, s, hd, hw⟩ := h
  exact ⟨a, b, c, n, v, hd.set hc hX hR 5 _ rfl, hq _ _ _ _ _ hw⟩
end
theorem reg_in {u : List UInt8} {ch r : Int} (h0 : 0 ≤ r) (h1 : r < 4) (hl : letB u ch = true) : regB u ch r = true := by
  unfold regB; rw [if_pos hl]; exact decide_eq_true (by omega)
theorem reg_out {u : List UInt8} {ch : Int} (hl : letB u ch = false) : regB u ch 0 = true := by
  unfold regB; rw [hl]; rfl
/-- The three registers are right, and nothing else is there. -/
def Q0 (a b c n : Int) (s : ByteArray) : Prop := a = 0 ∧ b = 0 ∧ c = 0 ∧ n = 0 ∧ s = ⟨#[]⟩
def Q1 (k : Nat) (a b c n : Int) (s : ByteArray) : Prop := regB (useT (k + 1)).data.toList 65 a = true ∧ b = 0 ∧ c = 0 ∧ n = 0 ∧ s = ⟨#[]⟩
def Q2 (k : Nat) (a b c n : Int) (s : ByteArray) : Prop := regB (useT (k + 1)).data.toList 65 a = true ∧ (regB (useT (k + 1)).data.toList 66 b = true ∧ 0 ≤ b ∧ b < 4) ∧ c = 0 ∧ n = 0 ∧ s = ⟨#[]⟩
def Q3 (k : Nat) (a b c n : Int) (s : ByteArray) : Prop := regB (useT (k + 1)).data.toList 65 a = true ∧ (regB (useT (k + 1)).data.toList 66 b = true ∧ 0 ≤ b ∧ b < 4) ∧ regB (useT (k + 1)).data.toList 67 c = true ∧ n = 0 ∧ s = ⟨#[]⟩
/-- The instruction is right in code of N. -/
def QR (k : Nat) (N : Int) (a b c n : Int) (s : ByteArray) : Prop := specOk ⟨(k : Int) + 1, a, b, c, n, s⟩ N = true
theorem qr_of {k : Nat} {N a b c n : Int} {s : ByteArray} (hk : k < 20) (h0 : 1 ≤ N) (h1 : N ≤ 200) (ha : regB (useT (k + 1)).data.toList 65 a = true) (hc : regB (useT (k + 1)).data.toList 67 c = true)
    (hb : (if (k : Int) + 1 = 11 then Atom.inB b 1 6 else regB (useT (k + 1)).data.toList 66 b) = true) (hs : (if (k : Int) + 1 = 2 then atomB s else s.data.toList.isEmpty) = true) (hn : numB ⟨(k : Int) + 1, a, b, c, n, s⟩ N = true) : QR k N a b c n s := by
  unfold QR specOk
  have e : uses ((⟨(k : Int) + 1, a, b, c, n, s⟩ : I).op).toNat = (useT (k + 1)).data.toList := by
    show uses ((k : Int) + 1).toNat = _
    rw [show ((k : Int) + 1).toNat = k + 1 by omega]; rfl
  simp only [Bool.and_eq_true, e]
  exact ⟨decide_eq_true ⟨h0, h1⟩, decide_eq_true (by omega), ha, hc, hb, hs, hn⟩
theorem reg_wee {u : List UInt8} {ch r : Int} (h : regB u ch r = true) : 0 ≤ r ∧ r ≤ 7 := by
  unfold regB at h
  split at h
  · exact of_decide_eq_true h
  · have : r = 0 := by simpa using h
    omega
theorem wee_of {x : I} {N : Int} (h : specOk x N = true) : Wee x := by
  unfold specOk at h
  simp only [Bool.and_eq_true] at h
  obtain ⟨h1, h2, h3, h4, h5, h6, h7⟩ := h
  have hN : 1 ≤ N ∧ N ≤ 200 := of_decide_eq_true h1
  have ho : 1 ≤ x.op ∧ x.op ≤ 20 := of_decide_eq_true h2
  have ha := reg_wee h3
  have hc := reg_wee h4
  have hb : 0 ≤ x.b ∧ x.b ≤ 7 := by
    split at h5
    · have : 1 ≤ x.b ∧ x.b ≤ 6 := of_decide_eq_true h5
      omega
    · exact reg_wee h5
  refine ⟨by omega, by omega, by omega, by omega, ?_, ?_⟩
  · unfold numB at h7
    split at h7
    · have : -1000000 ≤ x.n ∧ x.n ≤ 1000000 := of_decide_eq_true h7
      omega
    split at h7
    · simp only [Bool.and_eq_true] at h7
      have : 0 ≤ x.n ∧ x.n ≤ 8 := of_decide_eq_true h7.1
      omega
    split at h7
    · have : 0 ≤ x.n ∧ x.n ≤ 7 := of_decide_eq_true h7
      omega
    split at h7
    · have := of_decide_eq_true h7
      omega
    · have : x.n = 0 := by simpa using h7
      omega
  · split at h6
    · unfold atomB at h6
      simp only [Bool.and_eq_true] at h6
      have := of_decide_eq_true h6.2
      omega
    · have : x.s.data.toList = [] := List.isEmpty_iff.1 h6
      have h0 : x.s.data.toList.length = 0 := by rw [this]; rfl
      have : x.s.size = 0 := by simpa using h0
      omega
theorem drawn_put {cb : Nat} {ao : Option Addr} {len cap : Nat} {zs : List Int} {w wr : World} {R : Nat} (h : Drawn cb ao len cap zs w wr) (hc : cb < R) (hR : w.heap.size ≤ R) (i : Nat) (v : Value) : Drawn cb ao len cap zs w (wr.setCell ⟨R, i, none⟩ v) := by
  have ho : ∀ b, b ≠ R → (wr.setCell ⟨R, i, none⟩ v).heap[b]? = wr.heap[b]? := fun b hb => Below.heap_setCell wr ⟨R, i, none⟩ v b hb
  exact ⟨h.1.same fun b hb => ho b (by omega), ⟨h.2.os, h.2.tape, h.2.output, by simp [World.setCell]; exact h.2.size, fun k hk hn => (ho k (by omega)).trans (h.2.block k hk hn)⟩⟩
theorem Mid.drawn {Q : Int → Int → Int → Int → ByteArray → Prop} {cb : Nat} {ao : Option Addr} {len cap : Nat} {zs : List Int} {w wr : World} {R X k : Nat} (h : Mid Q cb ao len cap zs w R X k wr) : Drawn cb ao len cap zs w wr := by
  obtain ⟨a, b, c, n, s, h1, h2⟩ := h
  exact ⟨h1.cur, h1.trn⟩

set_option maxHeartbeats 4000000 in
theorem draw_any (cb : Nat) (ao : Option Addr) (len cap : Nat) (zs : List Int) (N : Int) (hN0 : 1 ≤ N) (hN1 : N ≤ 200) (w : World) (hc : Cur cb ao len cap zs w) (hcb : cb < w.heap.size) :
    Calls Tryz.prog 42 #[.pointer (some ⟨cb, 0, none⟩), .int .i64 N] w fun e w' => (∃ (op a b c n : Int) (s : ByteArray), e = .returned (.agg #[.int .i64 op, .int .i64 a, .int .i64 b, .int .i64 c, .int .i64 n, .string s]) ∧ specOk ⟨op, a, b, c, n, s⟩ N = true) ∧ Drawn cb ao len cap zs w w' := by
  have HC1 : Hid (Cur cb ao len cap zs (w.alloc (.cells #[.int .i64 0, .int .i64 0, .int .i64 0, .int .i64 0, .int .i64 0, .string ⟨#[]⟩] 77))) := hc.alloc _
  have HRS : Hid ((w.alloc (.cells #[.int .i64 0, .int .i64 0, .int .i64 0, .int .i64 0, .int .i64 0, .string ⟨#[]⟩] 77)).heap[w.heap.size]? = some (.cells (insV zeroI) 77 (0, 0))) := by show (w.heap.push _)[w.heap.size]? = _; simp; rfl
  go_enter Tryz.func42, Tryz.ntmps42
  go_wp2_with (go_at_call 30; fail)
  refine (below_any cb ao len cap zs _ HC1.out 20 (by omega) (by omega)).mono ?_
  rintro e w1 ⟨x, rfl, hx0, hx1, hd1⟩
  obtain ⟨k, rfl⟩ : ∃ k : Nat, x = (k : Int) := ⟨x.toNat, by omega⟩
  have hk : k < 20 := by omega
  have hki : (k : Int) < 20 := by omega
  have HR1 : Hid (w1.heap[w.heap.size]? = some (.cells (insV zeroI) 77 (0, 0)) ∧ Turn cb w w1 ∧ w.heap.size < w1.heap.size ∧ Cur cb ao len cap zs w1) := by
    have h1 := blk_lt HRS.out
    have h2 := hd1.2.size
    refine ⟨(hd1.2.block _ h1 (by omega)).trans HRS.out, ((Turn.refl cb w).alloc _).trans hd1.2, by omega, hd1.1⟩
  clear hd1 HC1 HRS hx0 hx1 hc
  have e0 : IntKind.i64.wrap (1 + (k : Int)) = (k : Int) + 1 := by rw [IntKind.wrap_i64]; omega
  have e0' : (1 : Int) + (k : Int) = (k : Int) + 1 := by omega
  have HDX : Hid (Dx cb ao len cap zs w (w1.alloc (.cells #[.int .i64 ((k : Int) + 1), .int .i64 0, .int .i64 0, .int .i64 0, .int .i64 0, .string ⟨#[]⟩] 77)) w.heap.size w1.heap.size ⟨(k : Int) + 1, 0, 0, 0, 0, ⟨#[]⟩⟩) := by
    have hb := (Below.refl w1.heap.size w1).alloc (Nat.le_refl _) (.cells #[.int .i64 ((k : Int) + 1), .int .i64 0, .int .i64 0, .int .i64 0, .int .i64 0, .string ⟨#[]⟩] 77)
    refine ⟨HR1.out.2.2.2.below hb, HR1.out.2.1.trans (Turn.of_below hb), (hb.block _ HR1.out.2.2.1).trans HR1.out.1, ?_⟩
    show (w1.heap.push _)[w1.heap.size]? = _; simp; rfl
  have HNE : Hid (w.heap.size ≠ cb ∧ w1.heap.size ≠ cb ∧ cb < w1.heap.size ∧ w.heap.size ≤ w1.heap.size ∧ w.heap.size ≠ w1.heap.size) := by
    have h1 := HR1.out.2.2.1
    exact ⟨by omega, by omega, by omega, by omega, by omega⟩
  have HM : Hid (Mid Q0 cb ao len cap zs w w.heap.size w1.heap.size k (w1.alloc (.cells #[.int .i64 ((k : Int) + 1), .int .i64 0, .int .i64 0, .int .i64 0, .int .i64 0, .string ⟨#[]⟩] 77))) :=
    ⟨0, 0, 0, 0, ⟨#[]⟩, HDX.out, rfl, rfl, rfl, rfl, rfl⟩
  clear HDX
  go_wp2_with fail
  generalize (w1.alloc (.cells #[.int .i64 ((k : Int) + 1), .int .i64 0, .int .i64 0, .int .i64 0, .int .i64 0, .string ⟨#[]⟩] 77)) = w2 at HM ⊢
  clear HR1
  generalize w1.heap.size = X at HM HNE ⊢
  obtain ⟨R, hR⟩ : ∃ R, R = w.heap.size := ⟨_, rfl⟩
  rw [← hR] at HM ⊢
  have HNE2 : Hid (R ≠ cb ∧ X ≠ cb ∧ cb < X ∧ w.heap.size ≤ X ∧ R ≠ X ∧ cb < R ∧ w.heap.size ≤ R) := by have := HNE.out; show _ ∧ _; rw [hR]; exact ⟨this.1, this.2.1, this.2.2.1, this.2.2.2.1, this.2.2.2.2, hcb, Nat.le_refl _⟩
  clear HNE hR
  have HNE := HNE2
  clear HNE2
  have e1 : IntKind.i64.wrap ((k : Int) + 1 - 1) = (k : Int) := by rw [IntKind.wrap_i64]; omega
  have e2 : IntKind.i64.wrap (k : Int) = (k : Int) := by rw [IntKind.wrap_i64]; omega
  have hU : (useT (k + 1)).size ≤ maxLen := Nat.le_trans (use_len _) (by unfold maxLen; omega)
  clear e0 e0'
  go_cut [6] from 11 to 16 (fun v wx => v = .string (useT (k + 1)) ∧ Mid Q0 cb ao len cap zs w R X k wx)
  case first =>
    have b0 := HM.out.op
    have K4 : Hid (∀ w5, Below w2.drew.heap.size w2.drew w5 → Mid Q0 cb ao len cap zs w R X k w5) := fun w5 h => HM.out.below (below_undrew h)
    go_region_law (go_simp; go_wp2_with (go_at_call 61; refine (uses_any _).mono ?_; rintro e w5 ⟨rfl, hb5, _, hc5⟩; have HF5 := K4.out w5 hb5; have b5 := HF5.op; have hc5' : w5.cell? ⟨w2.heap.size, k, none⟩ = some (.string (useT (k + 1))) := hc5 k hk; have HF6 : Hid (Mid Q0 cb ao len cap zs w R X k w5) := HF5; clear hc5 hb5 HF5))
    all_goals
      go_wp2_with fail
      try go_simp
      go_meet
      case rel => exact ⟨by simp, HF6.out⟩
  case rest =>
  obtain ⟨rfl, hM2⟩ := hcut
  have HM2 : Hid (Mid Q0 cb ao len cap zs w R X k wc) := hM2
  clear hM2 HM e1 e2
  have HM := HM2
  clear HM2
  go_upto_if 18 with (go_at_call 62; refine (letter_any _ _ _ hU).mono ?_; rintro e w' ⟨rfl, rfl⟩)
  go_cut [] from 17 to 21 (fun wx => Mid (Q1 k) cb ao len cap zs w R X k wx)
  case first =>
    cases hl : letB (useT (k + 1)).data.toList 65
    · have HO : Hid (Mid (Q1 k) cb ao len cap zs w R X k w') := HM.out.imp fun a b c n s h => ⟨by rw [h.1]; exact reg_out hl, h.2⟩
      clear hl
      go_wp2_with fail
      go_meet
      case rel => exact HO.out
    · have HL : Hid (letB (useT (k + 1)).data.toList 65 = true) := hl
      clear hl
      go_wp2_with (go_at_call 30; fail)
      refine (below_any cb ao len cap zs _ HM.out.cur 4 (by decide) (by decide)).mono ?_
      rintro e w5 ⟨y, rfl, hy0, hy1, hd5⟩
      have HM5 : Hid (Mid Q0 cb ao len cap zs w R X k w5) := HM.out.call HNE.out.1 HNE.out.2.1 hd5
      have HM6 : Hid (Mid (Q1 k) cb ao len cap zs w R X k (w5.setCell ⟨X, 1, none⟩ (.int .i64 y))) := HM5.out.put1 HNE.out.2.2.1 HNE.out.2.2.2.1 HNE.out.2.2.2.2.1 _ fun a b c n s h => (have hl := HL.out; ⟨reg_in hy0 hy1 hl, h.2⟩)
      clear hd5
      obtain ⟨⟨v1, c1⟩, ⟨v2, c2⟩, ⟨v3, c3⟩, ⟨v4, c4⟩, ⟨v5, c5⟩⟩ := HM5.out.cells
      have f5 := fun i => HM5.out.free i
      go_wp2_with fail
      go_meet
      case rel => exact HM6.out
  case rest =>
  have HM2 : Hid (Mid (Q1 k) cb ao len cap zs w R X k wc) := hcut
  clear hcut HM
  have HM := HM2
  clear HM2
  go_upto_if 23 with (go_at_call 62; refine (letter_any _ _ _ hU).mono ?_; rintro e w' ⟨rfl, rfl⟩)
  go_cut [] from 22 to 26 (fun wx => Mid (Q2 k) cb ao len cap zs w R X k wx)
  case first =>
    cases hl : letB (useT (k + 1)).data.toList 66
    · have HO : Hid (Mid (Q2 k) cb ao len cap zs w R X k w') := HM.out.imp fun a b c n s h => ⟨h.1, ⟨by rw [h.2.1]; exact reg_out hl, by rw [h.2.1]; decide, by rw [h.2.1]; decide⟩, h.2.2⟩
      clear hl
      go_wp2_with fail
      go_meet
      case rel => exact HO.out
    · have HL : Hid (letB (useT (k + 1)).data.toList 66 = true) := hl
      clear hl
      go_wp2_with (go_at_call 30; fail)
      refine (below_any cb ao len cap zs _ HM.out.cur 4 (by decide) (by decide)).mono ?_
      rintro e w5 ⟨y, rfl, hy0, hy1, hd5⟩
      have HM5 : Hid (Mid (Q1 k) cb ao len cap zs w R X k w5) := HM.out.call HNE.out.1 HNE.out.2.1 hd5
      have HM6 : Hid (Mid (Q2 k) cb ao len cap zs w R X k (w5.setCell ⟨X, 2, none⟩ (.int .i64 y))) := HM5.out.put2 HNE.out.2.2.1 HNE.out.2.2.2.1 HNE.out.2.2.2.2.1 _ fun a b c n s h => (have hl := HL.out; ⟨h.1, ⟨reg_in hy0 hy1 hl, hy0, hy1⟩, h.2.2⟩)
      clear hd5
      obtain ⟨⟨v1, c1⟩, ⟨v2, c2⟩, ⟨v3, c3⟩, ⟨v4, c4⟩, ⟨v5, c5⟩⟩ := HM5.out.cells
      have f5 := fun i => HM5.out.free i
      go_wp2_with fail
      go_meet
      case rel => exact HM6.out
  case rest =>
  have HM2 : Hid (Mid (Q2 k) cb ao len cap zs w R X k wc) := hcut
  clear hcut HM
  have HM := HM2
  clear HM2
  go_upto_if 28 with (go_at_call 62; refine (letter_any _ _ _ hU).mono ?_; rintro e w' ⟨rfl, rfl⟩)
  go_cut [] from 27 to 31 (fun wx => Mid (Q3 k) cb ao len cap zs w R X k wx)
  case first =>
    cases hl : letB (useT (k + 1)).data.toList 67
    · have HO : Hid (Mid (Q3 k) cb ao len cap zs w R X k w') := HM.out.imp fun a b c n s h => ⟨h.1, h.2.1, by rw [h.2.2.1]; exact reg_out hl, h.2.2.2⟩
      clear hl
      go_wp2_with fail
      go_meet
      case rel => exact HO.out
    · have HL : Hid (letB (useT (k + 1)).data.toList 67 = true) := hl
      clear hl
      go_wp2_with (go_at_call 30; fail)
      refine (below_any cb ao len cap zs _ HM.out.cur 4 (by decide) (by decide)).mono ?_
      rintro e w5 ⟨y, rfl, hy0, hy1, hd5⟩
      have HM5 : Hid (Mid (Q2 k) cb ao len cap zs w R X k w5) := HM.out.call HNE.out.1 HNE.out.2.1 hd5
      have HM6 : Hid (Mid (Q3 k) cb ao len cap zs w R X k (w5.setCell ⟨X, 3, none⟩ (.int .i64 y))) := HM5.out.put3 HNE.out.2.2.1 HNE.out.2.2.2.1 HNE.out.2.2.2.2.1 _ fun a b c n s h => (have hl := HL.out; ⟨h.1, h.2.1, reg_in hy0 hy1 hl, h.2.2.2⟩)
      clear hd5
      obtain ⟨⟨v1, c1⟩, ⟨v2, c2⟩, ⟨v3, c3⟩, ⟨v4, c4⟩, ⟨v5, c5⟩⟩ := HM5.out.cells
      have f5 := fun i => HM5.out.free i
      go_wp2_with fail
      go_meet
      case rel => exact HM6.out
  case rest =>
  have HM2 : Hid (Mid (Q3 k) cb ao len cap zs w R X k wc) := hcut
  clear hcut HM
  have HM := HM2
  clear HM2
  clear hU
  by_cases k0 : k = 0
  · subst k0
    · have b0 : wc.cell? ⟨X, 0, none⟩ = some (.int .i64 1) := HM.out.op
      go_wp2_with (go_at_call 13; fail)
      refine (int_any cb ao len cap zs (wc.alloc (.cells #[.int .i64 0, .int .i64 1, .int .i64 (-1), .int .i64 1000000] 3)) (HM.out.cur.alloc _) wc.heap.size [0, 1, -1, 1000000] (by have := cur_lt HM.out.cur; omega) (by simp) (by simp) ?_).mono ?_
      · intro j hj
        rw [World.cell?_alloc_new]
        rcases (show j = 0 ∨ j = 1 ∨ j = 2 ∨ j = 3 by simp at hj; omega) with rfl | rfl | rfl | rfl <;> rfl
      rintro e w5 ⟨y, rfl, hy, hd5⟩
      have HM5 : Hid (Mid (Q3 0) cb ao len cap zs w R X 0 w5) := (HM.out.below ((Below.refl _ wc).alloc (Nat.le_refl _) _)).call HNE.out.1 HNE.out.2.1 hd5
      have HM6 : Hid (Mid (QR 0 N) cb ao len cap zs w R X 0 (w5.setCell ⟨X, 4, none⟩ (.int .i64 y))) := HM5.out.put4 HNE.out.2.2.1 HNE.out.2.2.2.1 HNE.out.2.2.2.2.1 _ fun a b c n s h => qr_of (by decide) hN0 hN1 h.1 h.2.2.1 h.2.1.1 (by rw [h.2.2.2.2]; rfl) (by show decide (-1000000 ≤ y ∧ y ≤ 1000000) = true; simp at hy; exact decide_eq_true (by omega))
      clear hy
      clear hd5
      obtain ⟨⟨v1, c1⟩, ⟨v2, c2⟩, ⟨v3, c3⟩, ⟨v4, c4⟩, ⟨v5, c5⟩⟩ := HM5.out.cells
      have f5 := fun i => HM5.out.free i
      go_upto_region 24 with fail
      generalize (w5.setCell ⟨X, 4, none⟩ (.int .i64 y)) = w6 at HM6 ⊢
      obtain ⟨a, b, c, n, s, hd, hw⟩ := HM6.out
      have HD : Hid (Dx cb ao len cap zs w w6 R X ⟨_, a, b, c, n, s⟩) := hd
      have HW : Hid (specOk ⟨_, a, b, c, n, s⟩ N = true) := hw
      have HDR : Hid (Drawn cb ao len cap zs w w6) := ⟨hd.cur, hd.trn⟩
      clear hd hw HM HM6
      have x0 := HD.out.cell 0
      have x1 := HD.out.cell 1
      have x2 := HD.out.cell 2
      have x3 := HD.out.cell 3
      have x4 := HD.out.cell 4
      have x5 := HD.out.cell 5
      have r0 := blk_at HD.out.res 0
      have r1 := blk_at HD.out.res 1
      have r2 := blk_at HD.out.res 2
      have r3 := blk_at HD.out.res 3
      have r4 := blk_at HD.out.res 4
      have r5 := blk_at HD.out.res 5
      have rf := fun i => blk_free HD.out.res i
      simp only [insV, zeroI, List.getElem?_toArray, List.getElem?_cons_zero, List.getElem?_cons_succ] at x0 x1 x2 x3 x4 x5 r0 r1 r2 r3 r4 r5
      have HWF : Hid (∀ (a b c d e g : Value), ((((((w6.setCell ⟨R, 0, none⟩ a).setCell ⟨R, 1, none⟩ b).setCell ⟨R, 2, none⟩ c).setCell ⟨R, 3, none⟩ d).setCell ⟨R, 4, none⟩ e).setCell ⟨R, 5, none⟩ g).heap[R]? = some (.cells #[a, b, c, d, e, g] 77 (0, 0))) := fun a b c d e g => set_blk6 HD.out.res a b c d e g
      go_wp2_with fail
      refine bodyPost_ret (res_ins Tryz.results42 (HWF.out _ _ _ _ _ _) rfl) rfl ⟨⟨_, _, _, _, _, _, rfl, HW.out⟩, ?_⟩
      have c1 := HNE.out.2.2.2.2.2.1
      have c2 := HNE.out.2.2.2.2.2.2
      exact drawn_put (drawn_put (drawn_put (drawn_put (drawn_put (drawn_put HDR.out c1 c2 _ _) c1 c2 _ _) c1 c2 _ _) c1 c2 _ _) c1 c2 _ _) c1 c2 _ _
  by_cases k1 : k = 1
  · subst k1
    · have b0 : wc.cell? ⟨X, 0, none⟩ = some (.int .i64 2) := HM.out.op
      go_wp2_with (go_at_call 49; fail)
      refine (str_any cb ao len cap zs (wc.alloc (.cells #[.string ⟨#[111, 107]⟩, .string ⟨#[97]⟩, .string ⟨#[98, 97, 100]⟩] 9)) (HM.out.cur.alloc _) wc.heap.size [⟨#[111, 107]⟩, ⟨#[97]⟩, ⟨#[98, 97, 100]⟩] (by have := cur_lt HM.out.cur; omega) (by simp) (by simp) ?_).mono ?_
      · intro j hj
        rw [World.cell?_alloc_new]
        rcases (show j = 0 ∨ j = 1 ∨ j = 2 by simp at hj; omega) with rfl | rfl | rfl <;> rfl
      rintro e w5 ⟨y, rfl, hy, hd5⟩
      have HM5 : Hid (Mid (Q3 1) cb ao len cap zs w R X 1 w5) := (HM.out.below ((Below.refl _ wc).alloc (Nat.le_refl _) _)).call HNE.out.1 HNE.out.2.1 hd5
      have HM6 : Hid (Mid (QR 1 N) cb ao len cap zs w R X 1 (w5.setCell ⟨X, 5, none⟩ (.string y))) := HM5.out.putS HNE.out.2.2.1 HNE.out.2.2.2.1 HNE.out.2.2.2.2.1 _ fun a b c n s h => qr_of (by decide) hN0 hN1 h.1 h.2.2.1 h.2.1.1 (by simp only [List.mem_cons, List.not_mem_nil, or_false] at hy; rcases hy with rfl | rfl | rfl <;> decide) (by rw [h.2.2.2.1]; rfl)
      clear hy
      clear hd5
      obtain ⟨⟨v1, c1⟩, ⟨v2, c2⟩, ⟨v3, c3⟩, ⟨v4, c4⟩, ⟨v5, c5⟩⟩ := HM5.out.cells
      have f5 := fun i => HM5.out.free i
      go_upto_region 24 with fail
      generalize (w5.setCell ⟨X, 5, none⟩ (.string y)) = w6 at HM6 ⊢
      obtain ⟨a, b, c, n, s, hd, hw⟩ := HM6.out
      have HD : Hid (Dx cb ao len cap zs w w6 R X ⟨_, a, b, c, n, s⟩) := hd
      have HW : Hid (specOk ⟨_, a, b, c, n, s⟩ N = true) := hw
      have HDR : Hid (Drawn cb ao len cap zs w w6) := ⟨hd.cur, hd.trn⟩
      clear hd hw HM HM6
      have x0 := HD.out.cell 0
      have x1 := HD.out.cell 1
      have x2 := HD.out.cell 2
      have x3 := HD.out.cell 3
      have x4 := HD.out.cell 4
      have x5 := HD.out.cell 5
      have r0 := blk_at HD.out.res 0
      have r1 := blk_at HD.out.res 1
      have r2 := blk_at HD.out.res 2
      have r3 := blk_at HD.out.res 3
      have r4 := blk_at HD.out.res 4
      have r5 := blk_at HD.out.res 5
      have rf := fun i => blk_free HD.out.res i
      simp only [insV, zeroI, List.getElem?_toArray, List.getElem?_cons_zero, List.getElem?_cons_succ] at x0 x1 x2 x3 x4 x5 r0 r1 r2 r3 r4 r5
      have HWF : Hid (∀ (a b c d e g : Value), ((((((w6.setCell ⟨R, 0, none⟩ a).setCell ⟨R, 1, none⟩ b).setCell ⟨R, 2, none⟩ c).setCell ⟨R, 3, none⟩ d).setCell ⟨R, 4, none⟩ e).setCell ⟨R, 5, none⟩ g).heap[R]? = some (.cells #[a, b, c, d, e, g] 77 (0, 0))) := fun a b c d e g => set_blk6 HD.out.res a b c d e g
      go_wp2_with fail
      refine bodyPost_ret (res_ins Tryz.results42 (HWF.out _ _ _ _ _ _) rfl) rfl ⟨⟨_, _, _, _, _, _, rfl, HW.out⟩, ?_⟩
      have c1 := HNE.out.2.2.2.2.2.1
      have c2 := HNE.out.2.2.2.2.2.2
      exact drawn_put (drawn_put (drawn_put (drawn_put (drawn_put (drawn_put HDR.out c1 c2 _ _) c1 c2 _ _) c1 c2 _ _) c1 c2 _ _) c1 c2 _ _) c1 c2 _ _
  by_cases k3 : k = 3
  · subst k3
    · have b0 : wc.cell? ⟨X, 0, none⟩ = some (.int .i64 4) := HM.out.op
      go_wp2_with (go_at_call 30; fail)
      refine (below_any cb ao len cap zs _ HM.out.cur 4 (by omega) (by omega)).mono ?_
      rintro e w5 ⟨y, rfl, hy0, hy1, hd5⟩
      have HM5 : Hid (Mid (Q3 3) cb ao len cap zs w R X 3 w5) := HM.out.call HNE.out.1 HNE.out.2.1 hd5
      have HM6 : Hid (Mid (QR 3 N) cb ao len cap zs w R X 3 (w5.setCell ⟨X, 4, none⟩ (.int .i64 y))) := HM5.out.put4 HNE.out.2.2.1 HNE.out.2.2.2.1 HNE.out.2.2.2.2.1 _ fun a b c n s h => qr_of (by decide) hN0 hN1 h.1 h.2.2.1 h.2.1.1 (by rw [h.2.2.2.2]; rfl) (by have hb := h.2.1.2; show (decide (0 ≤ y ∧ y ≤ 8) && decide (wrap64 (b + y) ≤ 8)) = true; rw [decide_eq_true (by omega), decide_eq_true (by unfold wrap64; omega)]; rfl)
      clear hd5
      obtain ⟨⟨v1, c1⟩, ⟨v2, c2⟩, ⟨v3, c3⟩, ⟨v4, c4⟩, ⟨v5, c5⟩⟩ := HM5.out.cells
      have f5 := fun i => HM5.out.free i
      go_upto_region 24 with fail
      generalize (w5.setCell ⟨X, 4, none⟩ (.int .i64 y)) = w6 at HM6 ⊢
      obtain ⟨a, b, c, n, s, hd, hw⟩ := HM6.out
      have HD : Hid (Dx cb ao len cap zs w w6 R X ⟨_, a, b, c, n, s⟩) := hd
      have HW : Hid (specOk ⟨_, a, b, c, n, s⟩ N = true) := hw
      have HDR : Hid (Drawn cb ao len cap zs w w6) := ⟨hd.cur, hd.trn⟩
      clear hd hw HM HM6
      have x0 := HD.out.cell 0
      have x1 := HD.out.cell 1
      have x2 := HD.out.cell 2
      have x3 := HD.out.cell 3
      have x4 := HD.out.cell 4
      have x5 := HD.out.cell 5
      have r0 := blk_at HD.out.res 0
      have r1 := blk_at HD.out.res 1
      have r2 := blk_at HD.out.res 2
      have r3 := blk_at HD.out.res 3
      have r4 := blk_at HD.out.res 4
      have r5 := blk_at HD.out.res 5
      have rf := fun i => blk_free HD.out.res i
      simp only [insV, zeroI, List.getElem?_toArray, List.getElem?_cons_zero, List.getElem?_cons_succ] at x0 x1 x2 x3 x4 x5 r0 r1 r2 r3 r4 r5
      have HWF : Hid (∀ (a b c d e g : Value), ((((((w6.setCell ⟨R, 0, none⟩ a).setCell ⟨R, 1, none⟩ b).setCell ⟨R, 2, none⟩ c).setCell ⟨R, 3, none⟩ d).setCell ⟨R, 4, none⟩ e).setCell ⟨R, 5, none⟩ g).heap[R]? = some (.cells #[a, b, c, d, e, g] 77 (0, 0))) := fun a b c d e g => set_blk6 HD.out.res a b c d e g
      go_wp2_with fail
      refine bodyPost_ret (res_ins Tryz.results42 (HWF.out _ _ _ _ _ _) rfl) rfl ⟨⟨_, _, _, _, _, _, rfl, HW.out⟩, ?_⟩
      have c1 := HNE.out.2.2.2.2.2.1
      have c2 := HNE.out.2.2.2.2.2.2
      exact drawn_put (drawn_put (drawn_put (drawn_put (drawn_put (drawn_put HDR.out c1 c2 _ _) c1 c2 _ _) c1 c2 _ _) c1 c2 _ _) c1 c2 _ _) c1 c2 _ _
  by_cases k5 : k = 5
  · subst k5
    · have b0 : wc.cell? ⟨X, 0, none⟩ = some (.int .i64 6) := HM.out.op
      go_wp2_with (go_at_call 30; fail)
      refine (below_any cb ao len cap zs _ HM.out.cur 4 (by omega) (by omega)).mono ?_
      rintro e w5 ⟨y, rfl, hy0, hy1, hd5⟩
      have HM5 : Hid (Mid (Q3 5) cb ao len cap zs w R X 5 w5) := HM.out.call HNE.out.1 HNE.out.2.1 hd5
      have HM6 : Hid (Mid (QR 5 N) cb ao len cap zs w R X 5 (w5.setCell ⟨X, 4, none⟩ (.int .i64 y))) := HM5.out.put4 HNE.out.2.2.1 HNE.out.2.2.2.1 HNE.out.2.2.2.2.1 _ fun a b c n s h => qr_of (by decide) hN0 hN1 h.1 h.2.2.1 h.2.1.1 (by rw [h.2.2.2.2]; rfl) (by show decide (0 ≤ y ∧ y ≤ 7) = true; exact decide_eq_true (by omega))
      clear hd5
      obtain ⟨⟨v1, c1⟩, ⟨v2, c2⟩, ⟨v3, c3⟩, ⟨v4, c4⟩, ⟨v5, c5⟩⟩ := HM5.out.cells
      have f5 := fun i => HM5.out.free i
      go_upto_region 24 with fail
      generalize (w5.setCell ⟨X, 4, none⟩ (.int .i64 y)) = w6 at HM6 ⊢
      obtain ⟨a, b, c, n, s, hd, hw⟩ := HM6.out
      have HD : Hid (Dx cb ao len cap zs w w6 R X ⟨_, a, b, c, n, s⟩) := hd
      have HW : Hid (specOk ⟨_, a, b, c, n, s⟩ N = true) := hw
      have HDR : Hid (Drawn cb ao len cap zs w w6) := ⟨hd.cur, hd.trn⟩
      clear hd hw HM HM6
      have x0 := HD.out.cell 0
      have x1 := HD.out.cell 1
      have x2 := HD.out.cell 2
      have x3 := HD.out.cell 3
      have x4 := HD.out.cell 4
      have x5 := HD.out.cell 5
      have r0 := blk_at HD.out.res 0
      have r1 := blk_at HD.out.res 1
      have r2 := blk_at HD.out.res 2
      have r3 := blk_at HD.out.res 3
      have r4 := blk_at HD.out.res 4
      have r5 := blk_at HD.out.res 5
      have rf := fun i => blk_free HD.out.res i
      simp only [insV, zeroI, List.getElem?_toArray, List.getElem?_cons_zero, List.getElem?_cons_succ] at x0 x1 x2 x3 x4 x5 r0 r1 r2 r3 r4 r5
      have HWF : Hid (∀ (a b c d e g : Value), ((((((w6.setCell ⟨R, 0, none⟩ a).setCell ⟨R, 1, none⟩ b).setCell ⟨R, 2, none⟩ c).setCell ⟨R, 3, none⟩ d).setCell ⟨R, 4, none⟩ e).setCell ⟨R, 5, none⟩ g).heap[R]? = some (.cells #[a, b, c, d, e, g] 77 (0, 0))) := fun a b c d e g => set_blk6 HD.out.res a b c d e g
      go_wp2_with fail
      refine bodyPost_ret (res_ins Tryz.results42 (HWF.out _ _ _ _ _ _) rfl) rfl ⟨⟨_, _, _, _, _, _, rfl, HW.out⟩, ?_⟩
      have c1 := HNE.out.2.2.2.2.2.1
      have c2 := HNE.out.2.2.2.2.2.2
      exact drawn_put (drawn_put (drawn_put (drawn_put (drawn_put (drawn_put HDR.out c1 c2 _ _) c1 c2 _ _) c1 c2 _ _) c1 c2 _ _) c1 c2 _ _) c1 c2 _ _
  by_cases k9 : k = 9
  · subst k9
    · have b0 : wc.cell? ⟨X, 0, none⟩ = some (.int .i64 10) := HM.out.op
      go_wp2_with (go_at_call 30; fail)
      refine (below_any cb ao len cap zs _ HM.out.cur N (by omega) (by omega)).mono ?_
      rintro e w5 ⟨y, rfl, hy0, hy1, hd5⟩
      have HM5 : Hid (Mid (Q3 9) cb ao len cap zs w R X 9 w5) := HM.out.call HNE.out.1 HNE.out.2.1 hd5
      have HM6 : Hid (Mid (QR 9 N) cb ao len cap zs w R X 9 (w5.setCell ⟨X, 4, none⟩ (.int .i64 y))) := HM5.out.put4 HNE.out.2.2.1 HNE.out.2.2.2.1 HNE.out.2.2.2.2.1 _ fun a b c n s h => qr_of (by decide) hN0 hN1 h.1 h.2.2.1 h.2.1.1 (by rw [h.2.2.2.2]; rfl) (by show decide (0 ≤ y ∧ y < N) = true; exact decide_eq_true (by omega))
      clear hd5
      obtain ⟨⟨v1, c1⟩, ⟨v2, c2⟩, ⟨v3, c3⟩, ⟨v4, c4⟩, ⟨v5, c5⟩⟩ := HM5.out.cells
      have f5 := fun i => HM5.out.free i
      go_upto_region 24 with fail
      generalize (w5.setCell ⟨X, 4, none⟩ (.int .i64 y)) = w6 at HM6 ⊢
      obtain ⟨a, b, c, n, s, hd, hw⟩ := HM6.out
      have HD : Hid (Dx cb ao len cap zs w w6 R X ⟨_, a, b, c, n, s⟩) := hd
      have HW : Hid (specOk ⟨_, a, b, c, n, s⟩ N = true) := hw
      have HDR : Hid (Drawn cb ao len cap zs w w6) := ⟨hd.cur, hd.trn⟩
      clear hd hw HM HM6
      have x0 := HD.out.cell 0
      have x1 := HD.out.cell 1
      have x2 := HD.out.cell 2
      have x3 := HD.out.cell 3
      have x4 := HD.out.cell 4
      have x5 := HD.out.cell 5
      have r0 := blk_at HD.out.res 0
      have r1 := blk_at HD.out.res 1
      have r2 := blk_at HD.out.res 2
      have r3 := blk_at HD.out.res 3
      have r4 := blk_at HD.out.res 4
      have r5 := blk_at HD.out.res 5
      have rf := fun i => blk_free HD.out.res i
      simp only [insV, zeroI, List.getElem?_toArray, List.getElem?_cons_zero, List.getElem?_cons_succ] at x0 x1 x2 x3 x4 x5 r0 r1 r2 r3 r4 r5
      have HWF : Hid (∀ (a b c d e g : Value), ((((((w6.setCell ⟨R, 0, none⟩ a).setCell ⟨R, 1, none⟩ b).setCell ⟨R, 2, none⟩ c).setCell ⟨R, 3, none⟩ d).setCell ⟨R, 4, none⟩ e).setCell ⟨R, 5, none⟩ g).heap[R]? = some (.cells #[a, b, c, d, e, g] 77 (0, 0))) := fun a b c d e g => set_blk6 HD.out.res a b c d e g
      go_wp2_with fail
      refine bodyPost_ret (res_ins Tryz.results42 (HWF.out _ _ _ _ _ _) rfl) rfl ⟨⟨_, _, _, _, _, _, rfl, HW.out⟩, ?_⟩
      have c1 := HNE.out.2.2.2.2.2.1
      have c2 := HNE.out.2.2.2.2.2.2
      exact drawn_put (drawn_put (drawn_put (drawn_put (drawn_put (drawn_put HDR.out c1 c2 _ _) c1 c2 _ _) c1 c2 _ _) c1 c2 _ _) c1 c2 _ _) c1 c2 _ _
  by_cases k11 : k = 11
  · subst k11
    · have b0 : wc.cell? ⟨X, 0, none⟩ = some (.int .i64 12) := HM.out.op
      go_wp2_with (go_at_call 30; fail)
      refine (below_any cb ao len cap zs _ HM.out.cur N (by omega) (by omega)).mono ?_
      rintro e w5 ⟨y, rfl, hy0, hy1, hd5⟩
      have HM5 : Hid (Mid (Q3 11) cb ao len cap zs w R X 11 w5) := HM.out.call HNE.out.1 HNE.out.2.1 hd5
      have HM6 : Hid (Mid (QR 11 N) cb ao len cap zs w R X 11 (w5.setCell ⟨X, 4, none⟩ (.int .i64 y))) := HM5.out.put4 HNE.out.2.2.1 HNE.out.2.2.2.1 HNE.out.2.2.2.2.1 _ fun a b c n s h => qr_of (by decide) hN0 hN1 h.1 h.2.2.1 h.2.1.1 (by rw [h.2.2.2.2]; rfl) (by show decide (0 ≤ y ∧ y < N) = true; exact decide_eq_true (by omega))
      clear hd5
      obtain ⟨⟨v1, c1⟩, ⟨v2, c2⟩, ⟨v3, c3⟩, ⟨v4, c4⟩, ⟨v5, c5⟩⟩ := HM5.out.cells
      have f5 := fun i => HM5.out.free i
      go_upto_region 24 with fail
      generalize (w5.setCell ⟨X, 4, none⟩ (.int .i64 y)) = w6 at HM6 ⊢
      obtain ⟨a, b, c, n, s, hd, hw⟩ := HM6.out
      have HD : Hid (Dx cb ao len cap zs w w6 R X ⟨_, a, b, c, n, s⟩) := hd
      have HW : Hid (specOk ⟨_, a, b, c, n, s⟩ N = true) := hw
      have HDR : Hid (Drawn cb ao len cap zs w w6) := ⟨hd.cur, hd.trn⟩
      clear hd hw HM HM6
      have x0 := HD.out.cell 0
      have x1 := HD.out.cell 1
      have x2 := HD.out.cell 2
      have x3 := HD.out.cell 3
      have x4 := HD.out.cell 4
      have x5 := HD.out.cell 5
      have r0 := blk_at HD.out.res 0
      have r1 := blk_at HD.out.res 1
      have r2 := blk_at HD.out.res 2
      have r3 := blk_at HD.out.res 3
      have r4 := blk_at HD.out.res 4
      have r5 := blk_at HD.out.res 5
      have rf := fun i => blk_free HD.out.res i
      simp only [insV, zeroI, List.getElem?_toArray, List.getElem?_cons_zero, List.getElem?_cons_succ] at x0 x1 x2 x3 x4 x5 r0 r1 r2 r3 r4 r5
      have HWF : Hid (∀ (a b c d e g : Value), ((((((w6.setCell ⟨R, 0, none⟩ a).setCell ⟨R, 1, none⟩ b).setCell ⟨R, 2, none⟩ c).setCell ⟨R, 3, none⟩ d).setCell ⟨R, 4, none⟩ e).setCell ⟨R, 5, none⟩ g).heap[R]? = some (.cells #[a, b, c, d, e, g] 77 (0, 0))) := fun a b c d e g => set_blk6 HD.out.res a b c d e g
      go_wp2_with fail
      refine bodyPost_ret (res_ins Tryz.results42 (HWF.out _ _ _ _ _ _) rfl) rfl ⟨⟨_, _, _, _, _, _, rfl, HW.out⟩, ?_⟩
      have c1 := HNE.out.2.2.2.2.2.1
      have c2 := HNE.out.2.2.2.2.2.2
      exact drawn_put (drawn_put (drawn_put (drawn_put (drawn_put (drawn_put HDR.out c1 c2 _ _) c1 c2 _ _) c1 c2 _ _) c1 c2 _ _) c1 c2 _ _) c1 c2 _ _
  by_cases k15 : k = 15
  · subst k15
    · have b0 : wc.cell? ⟨X, 0, none⟩ = some (.int .i64 16) := HM.out.op
      go_wp2_with (go_at_call 30; fail)
      refine (below_any cb ao len cap zs _ HM.out.cur N (by omega) (by omega)).mono ?_
      rintro e w5 ⟨y, rfl, hy0, hy1, hd5⟩
      have HM5 : Hid (Mid (Q3 15) cb ao len cap zs w R X 15 w5) := HM.out.call HNE.out.1 HNE.out.2.1 hd5
      have HM6 : Hid (Mid (QR 15 N) cb ao len cap zs w R X 15 (w5.setCell ⟨X, 4, none⟩ (.int .i64 y))) := HM5.out.put4 HNE.out.2.2.1 HNE.out.2.2.2.1 HNE.out.2.2.2.2.1 _ fun a b c n s h => qr_of (by decide) hN0 hN1 h.1 h.2.2.1 h.2.1.1 (by rw [h.2.2.2.2]; rfl) (by show decide (0 ≤ y ∧ y < N) = true; exact decide_eq_true (by omega))
      clear hd5
      obtain ⟨⟨v1, c1⟩, ⟨v2, c2⟩, ⟨v3, c3⟩, ⟨v4, c4⟩, ⟨v5, c5⟩⟩ := HM5.out.cells
      have f5 := fun i => HM5.out.free i
      go_upto_region 24 with fail
      generalize (w5.setCell ⟨X, 4, none⟩ (.int .i64 y)) = w6 at HM6 ⊢
      obtain ⟨a, b, c, n, s, hd, hw⟩ := HM6.out
      have HD : Hid (Dx cb ao len cap zs w w6 R X ⟨_, a, b, c, n, s⟩) := hd
      have HW : Hid (specOk ⟨_, a, b, c, n, s⟩ N = true) := hw
      have HDR : Hid (Drawn cb ao len cap zs w w6) := ⟨hd.cur, hd.trn⟩
      clear hd hw HM HM6
      have x0 := HD.out.cell 0
      have x1 := HD.out.cell 1
      have x2 := HD.out.cell 2
      have x3 := HD.out.cell 3
      have x4 := HD.out.cell 4
      have x5 := HD.out.cell 5
      have r0 := blk_at HD.out.res 0
      have r1 := blk_at HD.out.res 1
      have r2 := blk_at HD.out.res 2
      have r3 := blk_at HD.out.res 3
      have r4 := blk_at HD.out.res 4
      have r5 := blk_at HD.out.res 5
      have rf := fun i => blk_free HD.out.res i
      simp only [insV, zeroI, List.getElem?_toArray, List.getElem?_cons_zero, List.getElem?_cons_succ] at x0 x1 x2 x3 x4 x5 r0 r1 r2 r3 r4 r5
      have HWF : Hid (∀ (a b c d e g : Value), ((((((w6.setCell ⟨R, 0, none⟩ a).setCell ⟨R, 1, none⟩ b).setCell ⟨R, 2, none⟩ c).setCell ⟨R, 3, none⟩ d).setCell ⟨R, 4, none⟩ e).setCell ⟨R, 5, none⟩ g).heap[R]? = some (.cells #[a, b, c, d, e, g] 77 (0, 0))) := fun a b c d e g => set_blk6 HD.out.res a b c d e g
      go_wp2_with fail
      refine bodyPost_ret (res_ins Tryz.results42 (HWF.out _ _ _ _ _ _) rfl) rfl ⟨⟨_, _, _, _, _, _, rfl, HW.out⟩, ?_⟩
      have c1 := HNE.out.2.2.2.2.2.1
      have c2 := HNE.out.2.2.2.2.2.2
      exact drawn_put (drawn_put (drawn_put (drawn_put (drawn_put (drawn_put HDR.out c1 c2 _ _) c1 c2 _ _) c1 c2 _ _) c1 c2 _ _) c1 c2 _ _) c1 c2 _ _
  by_cases k10 : k = 10
  · subst k10
    · have b0 : wc.cell? ⟨X, 0, none⟩ = some (.int .i64 11) := HM.out.op
      go_wp2_with (go_at_call 30; fail)
      refine (below_any cb ao len cap zs _ HM.out.cur 6 (by omega) (by omega)).mono ?_
      rintro e w3 ⟨z, rfl, hz0, hz1, hd3⟩
      have HM3 : Hid (Mid (Q3 10) cb ao len cap zs w R X 10 w3) := HM.out.call HNE.out.1 HNE.out.2.1 hd3
      have ez : IntKind.i64.wrap (1 + z) = 1 + z := by rw [IntKind.wrap_i64]; omega
      have HM4 : Hid (Mid (fun a b c n s => regB (useT 11).data.toList 65 a = true ∧ Atom.inB b 1 6 = true ∧ regB (useT 11).data.toList 67 c = true ∧ n = 0 ∧ s = ⟨#[]⟩) cb ao len cap zs w R X 10 (w3.setCell ⟨X, 2, none⟩ (.int .i64 (1 + z)))) := HM3.out.put2 HNE.out.2.2.1 HNE.out.2.2.2.1 HNE.out.2.2.2.2.1 _ fun a b c n s h => ⟨h.1, decide_eq_true (by omega), h.2.2⟩
      clear hd3
      obtain ⟨⟨v1, c1⟩, ⟨v2, c2⟩, ⟨v3, c3⟩, ⟨v4, c4⟩, ⟨v5, c5⟩⟩ := HM3.out.cells
      have f5 := fun i => HM3.out.free i
      go_upto_region 19 with fail
      clear c1 c2 c3 c4 c5 f5 HM3
      generalize (w3.setCell ⟨X, 2, none⟩ (.int .i64 (1 + z))) = w4 at HM4 ⊢
      go_wp2_with (go_at_call 30; fail)
      refine (below_any cb ao len cap zs _ HM4.out.cur N (by omega) (by omega)).mono ?_
      rintro e w5 ⟨y, rfl, hy0, hy1, hd5⟩
      have HM5 : Hid (Mid (fun a b c n s => regB (useT 11).data.toList 65 a = true ∧ Atom.inB b 1 6 = true ∧ regB (useT 11).data.toList 67 c = true ∧ n = 0 ∧ s = ⟨#[]⟩) cb ao len cap zs w R X 10 w5) := HM4.out.call HNE.out.1 HNE.out.2.1 hd5
      have HM6 : Hid (Mid (QR 10 N) cb ao len cap zs w R X 10 (w5.setCell ⟨X, 4, none⟩ (.int .i64 y))) := HM5.out.put4 HNE.out.2.2.1 HNE.out.2.2.2.1 HNE.out.2.2.2.2.1 _ fun a b c n s h => qr_of (by decide) hN0 hN1 h.1 h.2.2.1 h.2.1 (by rw [h.2.2.2.2]; rfl) (by show decide (0 ≤ y ∧ y < N) = true; exact decide_eq_true (by omega))
      clear hd5
      obtain ⟨⟨v1, c1⟩, ⟨v2, c2⟩, ⟨v3, c3⟩, ⟨v4, c4⟩, ⟨v5, c5⟩⟩ := HM5.out.cells
      have f5 := fun i => HM5.out.free i
      go_upto_region 24 with fail
      generalize (w5.setCell ⟨X, 4, none⟩ (.int .i64 y)) = w6 at HM6 ⊢
      obtain ⟨a, b, c, n, s, hd, hw⟩ := HM6.out
      have HD : Hid (Dx cb ao len cap zs w w6 R X ⟨_, a, b, c, n, s⟩) := hd
      have HW : Hid (specOk ⟨_, a, b, c, n, s⟩ N = true) := hw
      have HDR : Hid (Drawn cb ao len cap zs w w6) := ⟨hd.cur, hd.trn⟩
      clear hd hw HM HM6
      have x0 := HD.out.cell 0
      have x1 := HD.out.cell 1
      have x2 := HD.out.cell 2
      have x3 := HD.out.cell 3
      have x4 := HD.out.cell 4
      have x5 := HD.out.cell 5
      have r0 := blk_at HD.out.res 0
      have r1 := blk_at HD.out.res 1
      have r2 := blk_at HD.out.res 2
      have r3 := blk_at HD.out.res 3
      have r4 := blk_at HD.out.res 4
      have r5 := blk_at HD.out.res 5
      have rf := fun i => blk_free HD.out.res i
      simp only [insV, zeroI, List.getElem?_toArray, List.getElem?_cons_zero, List.getElem?_cons_succ] at x0 x1 x2 x3 x4 x5 r0 r1 r2 r3 r4 r5
      have HWF : Hid (∀ (a b c d e g : Value), ((((((w6.setCell ⟨R, 0, none⟩ a).setCell ⟨R, 1, none⟩ b).setCell ⟨R, 2, none⟩ c).setCell ⟨R, 3, none⟩ d).setCell ⟨R, 4, none⟩ e).setCell ⟨R, 5, none⟩ g).heap[R]? = some (.cells #[a, b, c, d, e, g] 77 (0, 0))) := fun a b c d e g => set_blk6 HD.out.res a b c d e g
      go_wp2_with fail
      refine bodyPost_ret (res_ins Tryz.results42 (HWF.out _ _ _ _ _ _) rfl) rfl ⟨⟨_, _, _, _, _, _, rfl, HW.out⟩, ?_⟩
      have c1 := HNE.out.2.2.2.2.2.1
      have c2 := HNE.out.2.2.2.2.2.2
      exact drawn_put (drawn_put (drawn_put (drawn_put (drawn_put (drawn_put HDR.out c1 c2 _ _) c1 c2 _ _) c1 c2 _ _) c1 c2 _ _) c1 c2 _ _) c1 c2 _ _
  · have b0 := HM.out.op
    have q1 : ((k : Int) + 1 == 1) = false := beq_eq_false_iff_ne.2 (by omega)
    have q2 : ((k : Int) + 1 == 2) = false := beq_eq_false_iff_ne.2 (by omega)
    have q4 : ((k : Int) + 1 == 4) = false := beq_eq_false_iff_ne.2 (by omega)
    have q6 : ((k : Int) + 1 == 6) = false := beq_eq_false_iff_ne.2 (by omega)
    have q11 : ((k : Int) + 1 == 11) = false := beq_eq_false_iff_ne.2 (by omega)
    have q10 : ((k : Int) + 1 == 10) = false := beq_eq_false_iff_ne.2 (by omega)
    have q12 : ((k : Int) + 1 == 12) = false := beq_eq_false_iff_ne.2 (by omega)
    have q16 : ((k : Int) + 1 == 16) = false := beq_eq_false_iff_ne.2 (by omega)
    · have HM6 : Hid (Mid (QR k N) cb ao len cap zs w R X k wc) := HM.out.imp fun a b c n s h => qr_of hk hN0 hN1 h.1 h.2.2.1 (by rw [if_neg (by omega)]; exact h.2.1.1) (by rw [if_neg (by omega), h.2.2.2.2]; rfl) (by
        unfold numB
        rw [if_neg (show ¬ ((k : Int) + 1 = 1) by omega), if_neg (show ¬ ((k : Int) + 1 = 4) by omega), if_neg (show ¬ ((k : Int) + 1 = 6) by omega), if_neg (show ¬ ((k : Int) + 1 = 10 ∨ (k : Int) + 1 = 11 ∨ (k : Int) + 1 = 12 ∨ (k : Int) + 1 = 16) by omega), h.2.2.2.1]; rfl)
      go_upto_region 24 with fail
      generalize wc = w6 at HM6 ⊢
      obtain ⟨a, b, c, n, s, hd, hw⟩ := HM6.out
      have HD : Hid (Dx cb ao len cap zs w w6 R X ⟨_, a, b, c, n, s⟩) := hd
      have HW : Hid (specOk ⟨_, a, b, c, n, s⟩ N = true) := hw
      have HDR : Hid (Drawn cb ao len cap zs w w6) := ⟨hd.cur, hd.trn⟩
      clear hd hw HM HM6
      have x0 := HD.out.cell 0
      have x1 := HD.out.cell 1
      have x2 := HD.out.cell 2
      have x3 := HD.out.cell 3
      have x4 := HD.out.cell 4
      have x5 := HD.out.cell 5
      have r0 := blk_at HD.out.res 0
      have r1 := blk_at HD.out.res 1
      have r2 := blk_at HD.out.res 2
      have r3 := blk_at HD.out.res 3
      have r4 := blk_at HD.out.res 4
      have r5 := blk_at HD.out.res 5
      have rf := fun i => blk_free HD.out.res i
      simp only [insV, zeroI, List.getElem?_toArray, List.getElem?_cons_zero, List.getElem?_cons_succ] at x0 x1 x2 x3 x4 x5 r0 r1 r2 r3 r4 r5
      have HWF : Hid (∀ (a b c d e g : Value), ((((((w6.setCell ⟨R, 0, none⟩ a).setCell ⟨R, 1, none⟩ b).setCell ⟨R, 2, none⟩ c).setCell ⟨R, 3, none⟩ d).setCell ⟨R, 4, none⟩ e).setCell ⟨R, 5, none⟩ g).heap[R]? = some (.cells #[a, b, c, d, e, g] 77 (0, 0))) := fun a b c d e g => set_blk6 HD.out.res a b c d e g
      go_wp2_with fail
      refine bodyPost_ret (res_ins Tryz.results42 (HWF.out _ _ _ _ _ _) rfl) rfl ⟨⟨_, _, _, _, _, _, rfl, HW.out⟩, ?_⟩
      have c1 := HNE.out.2.2.2.2.2.1
      have c2 := HNE.out.2.2.2.2.2.2
      exact drawn_put (drawn_put (drawn_put (drawn_put (drawn_put (drawn_put HDR.out c1 c2 _ _) c1 c2 _ _) c1 c2 _ _) c1 c2 _ _) c1 c2 _ _) c1 c2 _ _
end Go.Proofs.YtfjaphhijefdlaaGreatDoor.Code
namespace Go.Proofs.YtfjaphhijefdlaaGreatDoor.Code
open Go.RowKit
open Go.Proofs.YtfjaphhijefdlaaGreatDoor.Atom
set_option linter.unusedVariables false

def weeB (x : I) : Bool := decide (-2000000 ≤ x.op) && (decide (x.op ≤ 2000000) && (decide (-2000000 ≤ x.a) && (decide (x.a ≤ 2000000) && (decide (-2000000 ≤ x.b) && (decide (x.b ≤ 2000000) && (decide (-2000000 ≤ x.c) && (decide (x.c ≤ 2000000) && (decide (-2000000 ≤ x.n) && (decide (x.n ≤ 2000000) && decide (x.s.size ≤ 1000))))))))))
theorem weeB_of {x : I} (h : weeB x = true) : Wee x := by
  unfold weeB at h
  simp only [Bool.and_eq_true, decide_eq_true_eq] at h
  obtain ⟨a, b, c, d, e, f, g, i, j, k, l⟩ := h
  exact ⟨⟨a, b⟩, ⟨c, d⟩, ⟨e, f⟩, ⟨g, i⟩, ⟨j, k⟩, l⟩
def weeP (o : Option (List I)) : Bool := match o with
  | some l => decide (1 ≤ l.length) && (decide (l.length ≤ 20) && l.all weeB)
  | none => false
theorem weeP_of {l : List I} (h : weeP (some l) = true) : 1 ≤ l.length ∧ l.length ≤ 20 ∧ ∀ x ∈ l, Wee x := by
  unfold weeP at h
  simp only [Bool.and_eq_true, decide_eq_true_eq, List.all_eq_true] at h
  exact ⟨h.1, h.2.1, fun x hx => weeB_of (h.2.2 x hx)⟩

theorem codes_any (w : World) :
    Calls Tryz.prog 41 #[] w fun e w' => e = .returned (.slice (some ⟨w.heap.size, 0, none⟩) 6 6) ∧ Below w.heap.size w w' ∧ ∀ k, k < 6 → ∃ s, w'.cell? ⟨w.heap.size, k, none⟩ = some (.string s) ∧ s.size ≤ 1000 ∧ weeP (parseP (dat s)) = true := by
  go_enter Tryz.func41, Tryz.ntmps41
  go_wp2
  go_ret
  refine ⟨rfl, (Below.refl _ w).alloc (Nat.le_refl _) _, fun k hk => ?_⟩
  rw [World.cell?_alloc_new]
  rcases (show k = 0 ∨ k = 1 ∨ k = 2 ∨ k = 3 ∨ k = 4 ∨ k = 5 by omega) with rfl | rfl | rfl | rfl | rfl | rfl
  all_goals exact ⟨_, rfl, by decide, by kernel_rfl⟩

theorem IRow.turn {cb B : Nat} {w w' : World} {v : Value} {l : List I} (h : IRow w B v l) (t : Turn cb w w') (hc : cb < B) : IRow w' B v l := by
  refine World.ownsRow.kept h t.grown ?_
  cases hv : v.ownBlock with
  | none => exact .inl rfl
  | some x =>
    refine .inr fun e => ?_
    have h1 := (World.ownsRow.lt h x hv).1
    simp only [Option.some.injEq] at e
    omega
theorem drawn_grown {cb : Nat} {ao : Option Addr} {len cap : Nat} {zs : List Int} {w W w5 : World} {row : Option Nat} (h : Drawn cb ao len cap zs w W) (hcb : cb < w.heap.size) (hg : W.grownBy w5 row) (hr : ∀ g, row = some g → w.heap.size ≤ g) : Drawn cb ao len cap zs w w5 := by
  have hb : ∀ k, k < w.heap.size → w5.heap[k]? = W.heap[k]? := fun k hk => hg.block k (Nat.lt_of_lt_of_le hk h.2.size) (fun e => by have := hr k e.symm; omega)
  exact ⟨h.1.same fun b hbc => hb b (by omega), ⟨hg.os.trans h.2.os, hg.tape.trans h.2.tape, hg.output.trans h.2.output, Nat.le_trans h.2.size hg.size, fun k hk hn => (hb k hk).trans (h.2.block k hk hn)⟩⟩
theorem drawn_below {cb : Nat} {ao : Option Addr} {len cap : Nat} {zs : List Int} {w W w5 : World} (h : Drawn cb ao len cap zs w W) (hb : Below W.heap.size W w5) : Drawn cb ao len cap zs w w5 := ⟨h.1.below hb, h.2.trans (Turn.of_below hb)⟩
theorem drawn_trans {cb : Nat} {ao : Option Addr} {len cap : Nat} {zs : List Int} {w W w5 : World} (h : Drawn cb ao len cap zs w W) (hb : Drawn cb ao len cap zs W w5) : Drawn cb ao len cap zs w w5 := ⟨hb.1, h.2.trans hb.2⟩

theorem parse_right {t : List UInt8} {l : List I} (h : parseP t = some l) : codeB l = true := by
  unfold parseP at h
  split at h
  · split at h
    · split at h
      · rename_i hc
        simp only [Option.some.injEq] at h
        rw [← h]; exact hc
      · cases h
    · cases h
  · cases h
theorem jump_right {z : Int} {N : Int} (h0 : 0 ≤ z) (h1 : z < N) (hN : N ≤ 200) : specOk ⟨12, 0, 0, 0, z, ⟨#[]⟩⟩ N = true := by
  unfold specOk
  simp only [Bool.and_eq_true]
  exact ⟨decide_eq_true (by omega), rfl, rfl, rfl, rfl, rfl, (by show decide (0 ≤ z ∧ z < N) = true; exact decide_eq_true (by omega))⟩
theorem codeB_snoc {l : List I} {x : I} {N : Int} (hl : ((l.length + 1 : Nat) : Int) = N) (hN : N ≤ 200) (ha : ∀ y ∈ l, specOk y N = true) (hx : specOk x N = true) (ho : x.op = 12) : codeB (l ++ [x]) = true := by
  unfold codeB
  have hlen : (l ++ [x]).length = l.length + 1 := by simp
  have hlast : lastOp (l ++ [x]) = 12 := by
    unfold lastOp
    rw [hlen, Nat.add_sub_cancel, List.getD_eq_getElem?_getD, List.getElem?_append_right (Nat.le_refl _)]
    simp [ho]
  rw [hlast, hlen, hl]
  simp only [Bool.and_eq_true, List.all_eq_true]
  refine ⟨decide_eq_true (by omega), rfl, fun y hy => ?_⟩
  rcases List.mem_append.1 hy with hy | hy
  · exact ha y hy
  · rw [List.mem_singleton.1 hy]; exact hx

/-- What l8Code answers: a row of the call's own, of small instructions. -/
def CodeP (cb : Nat) (ao : Option Addr) (len cap : Nat) (zs : List Int) (w : World) (e : Ending) (w' : World) : Prop :=
  (∃ (v : Value) (l : List I), e = .returned v ∧ IRow w' w.heap.size v l ∧ 1 ≤ l.length ∧ l.length ≤ 20 ∧ (∀ x ∈ l, Wee x) ∧ codeB l = true) ∧ Drawn cb ao len cap zs w w'

set_option maxHeartbeats 4000000 in
theorem code_any (cb : Nat) (ao : Option Addr) (len cap : Nat) (zs : List Int) (w : World) (hc : Cur cb ao len cap zs w) :
    Calls Tryz.prog 28 #[.pointer (some ⟨cb, 0, none⟩)] w (CodeP cb ao len cap zs w) := by
  have hcb := cur_lt hc
  have HC : Hid (Cur cb ao len cap zs w) := hc
  have HCB : Hid (cb < w.heap.size) := hcb
  clear hc hcb
  obtain ⟨i0, hi, hz0, hz1, hz2⟩ := info_parts infoIns
  have HI : Hid (Tryz.prog.info? 77 = some i0 ∧ i0.zero = some (.agg #[.int .i64 0, .int .i64 0, .int .i64 0, .int .i64 0, .int .i64 0, .string ⟨#[]⟩]) ∧ i0.size = 6 ∧ i0.bytes = 56) := ⟨hi, hz0, hz1, hz2⟩
  clear hi hz0 hz1 hz2
  go_enter Tryz.func28, Tryz.ntmps28
  go_wp2_with (go_at_call 32; fail)
  refine (once_any cb ao len cap zs _ HC.out 2 (by decide) (by decide)).mono ?_
  rintro e w1 ⟨x, rfl, hd1⟩
  have HD1 : Hid (Drawn cb ao len cap zs w w1) := hd1
  clear hd1 HC
  cases x with
  | true =>
    go_wp2_with (go_at_call 41; fail)
    refine (codes_any _).mono ?_
    rintro e w2 ⟨rfl, hb2, hc2⟩
    have HD2 : Hid (Drawn cb ao len cap zs w w2) := drawn_below HD1.out hb2
    have HC2 : Hid (∀ k, k < 6 → ∃ s, w2.cell? ⟨w1.heap.size, k, none⟩ = some (.string s) ∧ s.size ≤ 1000 ∧ weeP (parseP (dat s)) = true) := hc2
    clear hc2 hb2
    go_wp2_with (go_at_call 30; fail)
    refine (below_any cb ao len cap zs _ HD2.out.1 6 (by decide) (by decide)).mono ?_
    rintro e w3 ⟨y, rfl, hy0, hy1, hd3⟩
    obtain ⟨k, rfl⟩ : ∃ k : Nat, y = (k : Int) := ⟨y.toNat, by omega⟩
    obtain ⟨s, hs1, hs2, hs3⟩ := HC2.out k (by omega)
    have c3 : w3.cell? ⟨w1.heap.size, k, none⟩ = some (.string s) := by
      have h1 := HD1.out.2.size
      have h2 := HCB.out
      rw [World.cell?_of_block (w := w2) (hd3.2.block _ (World.block_lt_of_cell? w2 _ hs1) (by show w1.heap.size ≠ cb; omega))]; exact hs1
    have HD3 : Hid (Drawn cb ao len cap zs w w3) := drawn_trans HD2.out hd3
    have HWP : Hid (weeP (parseP (dat s)) = true) := hs3
    clear hd3 hs1 hs3 HC2 HD2
    go_wp2_with (go_at_call 40; fail)
    refine (specParse_any s w3 (by omega)).mono ?_
    rintro e w4 ⟨⟨va, vc, l, rfl, hrow, hor⟩, hb4⟩
    have HR : Hid (IRow w4 w.heap.size (.slice va l.length vc) l) := hrow.base HD3.out.2.size
    have HD4 : Hid (Drawn cb ao len cap zs w w4) := drawn_below HD3.out hb4
    have HL : Hid (1 ≤ l.length ∧ l.length ≤ 20 ∧ (∀ x ∈ l, Wee x) ∧ codeB l = true) := by
      rcases hor with h | ⟨h, _⟩
      · have h2 := weeP_of (l := l) (by rw [← h]; exact HWP.out)
        exact ⟨h2.1, h2.2.1, h2.2.2, parse_right h⟩
      · have := HWP.out; rw [h] at this; cases this
    clear hrow hor hb4
    go_wp2_with fail
    go_ret
    exact ⟨⟨_, l, rfl, HR.out, HL.out.1, HL.out.2.1, HL.out.2.2.1, HL.out.2.2.2⟩, HD4.out⟩
  | false =>
    go_wp2_with (go_at_call 30; fail)
    refine (below_any cb ao len cap zs _ HD1.out.1 10 (by decide) (by decide)).mono ?_
    rintro e w2 ⟨y, rfl, hy0, hy1, hd2⟩
    have HD2 : Hid (Drawn cb ao len cap zs w w2) := drawn_trans HD1.out hd2
    clear hd2
    obtain ⟨m, hm, rfl⟩ : ∃ m : Nat, m < 10 ∧ y = (m : Int) := ⟨y.toNat, by omega, by omega⟩
    have e3 : IntKind.i64.wrap (3 + (m : Int)) = 3 + (m : Int) := by rw [IntKind.wrap_i64]; omega
    have HO0 : Hid (IRow (w2.alloc (.cells #[] 77)) w.heap.size (.slice (some ⟨w2.heap.size, 0, none⟩) 0 0) [] ∧ Drawn cb ao len cap zs w (w2.alloc (.cells #[] 77))) :=
      ⟨IRow.base (B := w2.heap.size) (World.ownsRow_made (base := w2.heap.size) (e := 77) (size := 6) w2 #[] 0 (Nat.le_refl _) (Nat.zero_le _) rfl) HD2.out.2.size, drawn_below HD2.out ((Below.refl _ _).alloc (Nat.le_refl _) _)⟩
    clear hy0 hy1
    go_wp2_with fail
    clear e3
    go_loopw [6, 7] (fun v iv wr => ∃ (j : Nat) (l : List I), j ≤ m + 2 ∧ iv = .int .i64 j ∧ l.length = j ∧ (∀ x ∈ l, specOk x (3 + (m : Int)) = true) ∧ IRow wr w.heap.size v l ∧ Drawn cb ao len cap zs w wr) (fun v iv wr => m + 2 - (intOf iv).toNat)
    case atStart => exact ⟨0, [], Nat.zero_le _, rfl, rfl, fun x hx => (nomatch hx), HO0.out.1, HO0.out.2⟩
    case round =>
      obtain ⟨j, l, hj, rfl, hlj, hwl, hrow, hdr⟩ := hrel
      obtain ⟨va, oc, rfl, hoc⟩ := hrow.slice
      have HRO : Hid (IRow wr w.heap.size (.slice va l.length oc) l) := hrow
      have HDR : Hid (Drawn cb ao len cap zs w wr) := hdr
      have HWL : Hid (∀ x ∈ l, specOk x (3 + (m : Int)) = true) := hwl
      have HLJ : Hid (l.length = j) := hlj
      clear hrow hdr hoc HO0 hwl hlj
      have e1 : IntKind.i64.wrap ((j : Int) + 1) = (j : Int) + 1 := by rw [IntKind.wrap_i64]; omega
      by_cases hlt : (j : Int) + 1 < 3 + (m : Int)
      · go_wp2_with (go_at_call 42; fail)
        refine (draw_any cb ao len cap zs (3 + (m : Int)) (by omega) (by omega) wr HDR.out.1 (cur_lt HDR.out.1)).mono ?_
        rintro e w3 ⟨⟨op, xa, xb, xc, xn, xs, rfl, hwe⟩, hd3⟩
        have HWE : Hid (specOk ⟨op, xa, xb, xc, xn, xs⟩ (3 + (m : Int)) = true) := hwe
        have HD3 : Hid (Drawn cb ao len cap zs w w3) := drawn_trans HDR.out hd3
        have HR3 : Hid (IRow w3 w.heap.size (.slice va l.length oc) l) := HRO.out.turn hd3.2 HCB.out
        clear hd3 hwe
        have C3 : Hid (l.length + 1 ≤ maxLen) := by have := HLJ.out; show _ ≤ _; unfold maxLen; omega
        have C4 : Hid ((l.length + 1) * 56 ≤ 140737488355328) := by have := HLJ.out; show _ ≤ _; omega
        have hb4 := (Below.refl w3.heap.size w3).alloc (Nat.le_refl _) (.cells #[.int .i64 op, .int .i64 xa, .int .i64 xb, .int .i64 xc, .int .i64 xn, .string xs] 77)
        have CR : Hid (IRow (w3.alloc (.cells #[.int .i64 op, .int .i64 xa, .int .i64 xb, .int .i64 xc, .int .i64 xn, .string xs] 77)) w.heap.size (.slice va l.length oc) l) := HR3.out.kept hb4
        have CB : Hid (Drawn cb ao len cap zs w (w3.alloc (.cells #[.int .i64 op, .int .i64 xa, .int .i64 xb, .int .i64 xc, .int .i64 xn, .string xs] 77))) := drawn_below HD3.out hb4
        have C1 : Hid (∀ j u, (insL ⟨op, xa, xb, xc, xn, xs⟩)[j]? = some u → (w3.alloc (.cells #[.int .i64 op, .int .i64 xa, .int .i64 xb, .int .i64 xc, .int .i64 xn, .string xs] 77)).cell? ((⟨w3.heap.size, 0, none⟩ : Addr).add j) = some u) := news6 w3 ⟨op, xa, xb, xc, xn, xs⟩
        have C5 : Hid (w.heap.size ≤ (w3.alloc (.cells #[.int .i64 op, .int .i64 xa, .int .i64 xb, .int .i64 xc, .int .i64 xn, .string xs] 77)).heap.size) := CB.out.2.size
        clear hb4
        go_wp2_with (at_builtin; refine wpList_append_own _ rfl _ _ 35 rfl w.heap.size 77 i0 (.agg #[.int .i64 0, .int .i64 0, .int .i64 0, .int .i64 0, .int .i64 0, .string ⟨#[]⟩]) 6 56 undInsS HI.out.1 HI.out.2.1 HI.out.2.2.1 HI.out.2.2.2 rfl (by decide) _ _ _ rfl CR.out ⟨w3.heap.size, 0, none⟩ 1 1 (insL ⟨op, xa, xb, xc, xn, xs⟩) rfl rfl C1.out (one6 _) C3.out C4.out C5.out ?_; intro v2 w5 hown2 hgr2 hnil2)
        have HR5 : Hid (IRow w5 w.heap.size v2 (l ++ [⟨op, xa, xb, xc, xn, xs⟩])) := iRow_snoc hown2
        have HB5 : Hid (Drawn cb ao len cap zs w w5) := drawn_grown CB.out HCB.out hgr2 (fun k hk => (World.ownsRow.lt CR.out k hk).1)
        clear hown2 hgr2 hnil2
        go_wp2_with fail
        go_roundw
        case rel =>
          refine ⟨j + 1, l ++ [⟨op, xa, xb, xc, xn, xs⟩], by omega, by go_num, by have := HLJ.out; simp; omega, fun x hx => ?_, HR5.out, HB5.out⟩
          rcases List.mem_append.1 hx with hx | hx
          · exact HWL.out x hx
          · rw [List.mem_singleton.1 hx]; exact HWE.out
        case measure => simp [intOf]; omega
      · go_wp2_with (go_at_call 30; fail)
        refine (below_any cb ao len cap zs _ HDR.out.1 (3 + (m : Int)) (by omega) (by omega)).mono ?_
        rintro e w3 ⟨z, rfl, hz0, hz1, hd3⟩
        have HWE : Hid (specOk ⟨12, 0, 0, 0, z, ⟨#[]⟩⟩ (3 + (m : Int)) = true) := jump_right hz0 hz1 (by omega)
        have HJM : Hid (((l.length + 1 : Nat) : Int) = 3 + (m : Int)) := by have := HLJ.out; show _ = _; omega
        have HD3 : Hid (Drawn cb ao len cap zs w w3) := drawn_trans HDR.out hd3
        have HR3 : Hid (IRow w3 w.heap.size (.slice va l.length oc) l) := HRO.out.turn hd3.2 HCB.out
        clear hd3 hz0 hz1
        have C3 : Hid (l.length + 1 ≤ maxLen) := by have := HLJ.out; show _ ≤ _; unfold maxLen; omega
        have C4 : Hid ((l.length + 1) * 56 ≤ 140737488355328) := by have := HLJ.out; show _ ≤ _; omega
        have hb4 := (Below.refl w3.heap.size w3).alloc (Nat.le_refl _) (.cells #[.int .i64 12, .int .i64 0, .int .i64 0, .int .i64 0, .int .i64 z, .string ⟨#[]⟩] 77)
        have CR : Hid (IRow (w3.alloc (.cells #[.int .i64 12, .int .i64 0, .int .i64 0, .int .i64 0, .int .i64 z, .string ⟨#[]⟩] 77)) w.heap.size (.slice va l.length oc) l) := HR3.out.kept hb4
        have CB : Hid (Drawn cb ao len cap zs w (w3.alloc (.cells #[.int .i64 12, .int .i64 0, .int .i64 0, .int .i64 0, .int .i64 z, .string ⟨#[]⟩] 77))) := drawn_below HD3.out hb4
        have C1 : Hid (∀ j u, (insL ⟨12, 0, 0, 0, z, ⟨#[]⟩⟩)[j]? = some u → (w3.alloc (.cells #[.int .i64 12, .int .i64 0, .int .i64 0, .int .i64 0, .int .i64 z, .string ⟨#[]⟩] 77)).cell? ((⟨w3.heap.size, 0, none⟩ : Addr).add j) = some u) := news6 w3 ⟨12, 0, 0, 0, z, ⟨#[]⟩⟩
        have C5 : Hid (w.heap.size ≤ (w3.alloc (.cells #[.int .i64 12, .int .i64 0, .int .i64 0, .int .i64 0, .int .i64 z, .string ⟨#[]⟩] 77)).heap.size) := CB.out.2.size
        clear hb4
        go_wp2_with (at_builtin; refine wpList_append_own _ rfl _ _ 35 rfl w.heap.size 77 i0 (.agg #[.int .i64 0, .int .i64 0, .int .i64 0, .int .i64 0, .int .i64 0, .string ⟨#[]⟩]) 6 56 undInsS HI.out.1 HI.out.2.1 HI.out.2.2.1 HI.out.2.2.2 rfl (by decide) _ _ _ rfl CR.out ⟨w3.heap.size, 0, none⟩ 1 1 (insL ⟨12, 0, 0, 0, z, ⟨#[]⟩⟩) rfl rfl C1.out (one6 _) C3.out C4.out C5.out ?_; intro v2 w5 hown2 hgr2 hnil2)
        have HR5 : Hid (IRow w5 w.heap.size v2 (l ++ [⟨12, 0, 0, 0, z, ⟨#[]⟩⟩])) := iRow_snoc hown2
        have HB5 : Hid (Drawn cb ao len cap zs w w5) := drawn_grown CB.out HCB.out hgr2 (fun k hk => (World.ownsRow.lt CR.out k hk).1)
        clear hown2 hgr2 hnil2
        go_wp2_with fail
        go_ret
        have hcd := codeB_snoc (x := ⟨12, 0, 0, 0, z, ⟨#[]⟩⟩) HJM.out (by omega) HWL.out HWE.out rfl
        refine ⟨⟨_, _, rfl, HR5.out, by simp, by have := HLJ.out; simp; omega, fun x hx => ?_, hcd⟩, HB5.out⟩
        rcases List.mem_append.1 hx with hx | hx
        · exact wee_of (HWL.out x hx)
        · rw [List.mem_singleton.1 hx]; exact wee_of HWE.out
end Go.Proofs.YtfjaphhijefdlaaGreatDoor.Code
namespace Go.Proofs.YtfjaphhijefdlaaGreatDoor.Code
open Go.RowKit
open Go.Proofs.YtfjaphhijefdlaaGreatDoor.Atom
set_option linter.unusedVariables false

theorem drawCode_any (ao : Option Addr) (len cap : Nat) (zs : List Int) (w : World) (hr : IsRow w ao len cap zs) (hsm : len ≤ 1048576) :
    Calls Tryz.prog 10 #[.slice ao len cap] w fun e w' => (∃ (va : Option Addr) (vc : Nat) (l : List I), e = .returned (.slice va l.length vc) ∧ IRow w' w.heap.size (.slice va l.length vc) l ∧ 1 ≤ l.length ∧ l.length ≤ 20 ∧ (∀ x ∈ l, Wee x) ∧ codeB l = true) ∧ Below w.heap.size w w' := by
  have HR : Hid (IsRow w ao len cap zs) := hr
  clear hr
  go_enter Tryz.func10, Tryz.ntmps10
  go_wp2_with (go_at_call 12; fail)
  refine (new_any w ao len cap zs HR.out hsm).mono ?_
  rintro e w1 ⟨rfl, hcur, hb1, hsz⟩
  have HC1 : Hid (Cur w.heap.size ao len cap zs w1 ∧ Below w.heap.size w w1) := ⟨hcur, hb1⟩
  clear hcur hb1 hsz
  go_wp2_with (go_at_call 28; fail)
  refine (code_any w.heap.size ao len cap zs w1 HC1.out.1).mono ?_
  rintro e w2 ⟨⟨v, l, rfl, hrow, h1, h2, h3, h4⟩, hd2⟩
  obtain ⟨va, vc, rfl, _⟩ := hrow.slice
  have HB2 : Hid (Below w.heap.size w w2) := Turn.below HC1.out.2 HC1.out.2.size hd2.2 (Nat.le_refl _)
  have HRO : Hid (IRow w2 w.heap.size (.slice va l.length vc) l) := hrow.base HC1.out.2.size
  have HL : Hid (1 ≤ l.length ∧ l.length ≤ 20 ∧ (∀ x ∈ l, Wee x) ∧ codeB l = true) := ⟨h1, h2, h3, h4⟩
  clear hrow h1 h2 h3 h4 hd2
  go_wp2_with fail
  go_ret
  exact ⟨⟨va, vc, l, rfl, HRO.out, HL.out.1, HL.out.2.1, HL.out.2.2.1, HL.out.2.2.2⟩, HB2.out⟩
end Go.Proofs.YtfjaphhijefdlaaGreatDoor.Code
