/-
  What both kinds of Audit answer.
  (Ahead of it, in this text: What the program's BlockAt answers, at every place and of every length up to 2^20. The places of all blocks: what both kinds of Blocks answer.)
-/
import Derived.Test.YtdglefedbkgghaaV4
import Derived.Test.YtdglefedbkgghaaInn
import Derived.Lib.SliceRun
import Derived.ChangeKeysEq
import Derived.OwnWalk
namespace Go.Proofs.Ytdglefedbkgghaa
open Go.RowKit
set_option linter.unusedVariables false

theorem undGuards : Try.prog.underlying 106 = some (.array 3 3) := by kernel_rfl
theorem cellsInt : Try.prog.cellsOf 3 = 1 := by kernel_rfl
theorem run_eq3 (a b c a' b' c' : Int) (w : World) :
    (Op.equalIn 10000 106 (.agg #[.int .i64 a, .int .i64 b, .int .i64 c]) (.agg #[.int .i64 a', .int .i64 b', .int .i64 c'])).run Try.prog w = .ok (a == a' && (b == b' && c == c')) w := by
  obtain ⟨i, hi, _⟩ := Option.map_eq_some_iff.1 infoInt
  rw [run_equalIn_array (P := Try.prog) w 9999 _ _ undGuards hi, cellsInt]
  show (Op.eqItems 9999 3 1 _ _ [0, 1, 2]).run _ _ = _
  simp [Op.eqItems, go_sem, Try.underlying3]
  by_cases h1 : a = a' <;> by_cases h2 : b = b' <;> by_cases h3 : c = c' <;> simp [h1, h2, h3]

theorem run_eq3_is (a b c a' b' c' : Int) (h1 : a = a') (h2 : b = b') (h3 : c = c') (w : World) :
    (Op.equalIn 10000 106 (.agg #[.int .i64 a, .int .i64 b, .int .i64 c]) (.agg #[.int .i64 a', .int .i64 b', .int .i64 c'])).run Try.prog w = .ok true w := by
  rw [run_eq3, h1, h2, h3]; simp
theorem run_eq3_not (a b c a' b' c' : Int) (h : a = a' → b = b' → c = c' → False) (w : World) :
    (Op.equalIn 10000 106 (.agg #[.int .i64 a, .int .i64 b, .int .i64 c]) (.agg #[.int .i64 a', .int .i64 b', .int .i64 c'])).run Try.prog w = .ok false w := by
  rw [run_eq3]
  congr 1
  by_cases h1 : a = a'
  · by_cases h2 : b = b'
    · by_cases h3 : c = c'
      · exact absurd (h h1 h2 h3) id
      · simp [h3]
    · simp [h2]
  · simp [h1]

/-- Three cells of a block that a call lets be. -/
theorem keep3B {W w3 : World} {F : Nat} {x y z : Value} (hb : Below W.heap.size W w3) (h : W.cell? ⟨F, 0, none⟩ = some x ∧ W.cell? ⟨F, 1, none⟩ = some y ∧ W.cell? ⟨F, 2, none⟩ = some z) :
    w3.cell? ⟨F, 0, none⟩ = some x ∧ w3.cell? ⟨F, 1, none⟩ = some y ∧ w3.cell? ⟨F, 2, none⟩ = some z := by
  have hl := World.block_lt_of_cell? W _ h.1
  exact ⟨(hb.cell (p := ⟨F, 0, none⟩) hl).trans h.1, (hb.cell (p := ⟨F, 1, none⟩) hl).trans h.2.1, (hb.cell (p := ⟨F, 2, none⟩) hl).trans h.2.2⟩
theorem below_undrew {W w3 : World} (hb : Below W.drew.heap.size W.drew w3) : Below W.heap.size W w3 := ⟨hb.os, hb.tape, hb.output, hb.size, hb.block⟩

theorem held_of (b o n : Nat) (hn : n ≤ 4000) (w : World) (h1 : 1 ≤ n) :
    Calls Try.prog 64 #[.slice (some ⟨b, o, none⟩) (n + 3) (n + 3)] w fun e w' => e = .returned (.slice (some ⟨b, o + 2, none⟩) n n) ∧ w' = w :=
  held_any b o (n + 3) (n + 3) (by omega) (by omega) (Nat.le_refl _) w
theorem allPois_yes (b o M cap : Nat) (g : Nat → Int) (q : Nat) (qi : Int) (hqi : qi = q) (w : World) (hc : ∀ j, j < M → w.cell? ⟨b, o + j, none⟩ = some (.int .i64 (g j))) (hM : M ≤ 4000) (hq : q ≤ 2097152) (hy : ∀ j, j < M → g j = pois (q + j : Nat)) :
    Calls Try.prog 63 #[.slice (some ⟨b, o, none⟩) M cap, .int .i64 qi] w fun e w' => e = .returned (.bool true) ∧ w' = w := by
  subst hqi
  refine (allPois_any b o M cap g q w hc (by omega) hq).mono ?_
  rintro e w' ⟨r, rfl, hr, rfl⟩
  exact ⟨by rw [hr.is.2 hy], rfl⟩
theorem allPois_no (b o M cap : Nat) (g : Nat → Int) (q : Nat) (qi : Int) (hqi : qi = q) (w : World) (hc : ∀ j, j < M → w.cell? ⟨b, o + j, none⟩ = some (.int .i64 (g j))) (hM : M ≤ 4000) (hq : q ≤ 2097152) (hy : ¬ ∀ j, j < M → g j = pois (q + j : Nat)) :
    Calls Try.prog 63 #[.slice (some ⟨b, o, none⟩) M cap, .int .i64 qi] w fun e w' => e = .returned (.bool false) ∧ w' = w := by
  subst hqi
  refine (allPois_any b o M cap g q w hc (by omega) hq).mono ?_
  rintro e w' ⟨r, rfl, hr, rfl⟩
  cases r with
  | true => exact absurd (hr.is.1 rfl) hy
  | false => exact ⟨rfl, rfl⟩

set_option maxHeartbeats 4000000 in
set_option maxRecDepth 100000 in
theorem implAt_any (ao : Option Addr) (N cap : Nat) (f : Nat → Int) (p : Nat) (w : World) (hr : Rd w ao N f) (hN : N ≤ 1048576) (hcap : N ≤ cap) :
    Calls Try.prog 49 #[.agg #[.slice ao N cap], .int .i64 p] w fun e w' => e = .returned (bv (blkO f N p)) ∧ Below w.heap.size w w' := by
  have HR : Hid (Rd w ao N f) := hr
  by_cases hv : p ≤ 4000 ∧ ∃ n : Nat, f (p + 1) = n ∧ 1 ≤ n ∧ n ≤ 4000 ∧ p + n + 3 ≤ N
  · obtain ⟨hp4, n, hn, hn1, hn4, hfit⟩ := hv
    obtain ⟨b, o, rfl, hc⟩ := hr (by omega)
    have hb : b < w.heap.size := World.block_lt_of_cell? w _ (hc 0 (by omega))
    have HB : Hid (b < w.heap.size) := hb
    have HC : Hid (∀ j, j < N → w.cell? ⟨b, o + j, none⟩ = some (.int .i64 (f j))) := hc
    have HN : Hid (f (p + 1) = n) := hn
    clear hc hr hn hb HR
    have hnil := fun (w : World) (a : Option Addr) (n c : Nat) => Go.Lib.run_eql_slice_nil (P := Try.prog) w 24 3 a n c 0 0 undInts
    go_enter Try.func49, Try.ntmps49
    go_wp2_with fail
    have d0 := (Below.refl w.heap.size w).alloc (Nat.le_refl _) (.cells #[.slice (some ⟨b, o, none⟩) N cap] 34)
    refine (words_some b o N cap f p n _ (fun j hj => (d0.cell (p := ⟨b, o + j, none⟩) HB.out).trans (HC.out j hj)) (by omega) hcap hp4 HN.out hn1 hn4 hfit).mono ?_
    rintro e w1 ⟨rfl, hb1⟩
    have hbl : Below w.heap.size w w1 := d0.trans (hb1.mono (by simp))
    have HBL : Hid (Below w.heap.size w w1) := hbl
    have HC1 : Hid (∀ j, j < N → w1.cell? ⟨b, o + j, none⟩ = some (.int .i64 (f j))) := fun j hj => (hbl.cell (p := ⟨b, o + j, none⟩) HB.out).trans (HC.out j hj)
    have c0 := HC1.out p (by omega)
    have c1 := HC1.out (p + 1) (by omega)
    rw [HN.out] at c1
    have c2 := HC1.out (p + 2 + n) (by omega)
    have e1 : o + (p + 1) = o + p + 1 := by omega
    have e2 : o + (p + 2 + n) = o + p + (n + 2) := by omega
    rw [e1] at c1
    rw [e2] at c2
    have hb1 : b < w1.heap.size := Nat.lt_of_lt_of_le HB.out hbl.size
    have hne : ¬ b = w1.heap.size := by omega
    clear hbl d0 e1 e2 HC
    have hk3 : 0 < n + 3 := by omega
    have hk1 : 1 < n + 3 := by omega
    have hk2 : n + 2 < n + 3 := by omega
    have W1 : IntKind.i64.wrap ((n : Int) + 3 - 1) = (n : Int) + 2 := by rw [IntKind.wrap_i64]; omega
    have W2 : ((n : Int) + 2).toNat = n + 2 := by omega
    go_wp2_with fail
    go_region
    have hq : ((w1.alloc (.cells #[.int .i64 (f p), .int .i64 n, .int .i64 (f (p + 2 + n))] 106)).drew).cell? ⟨w1.heap.size, 0, none⟩ = some (.int .i64 (f p)) ∧ ((w1.alloc (.cells #[.int .i64 (f p), .int .i64 n, .int .i64 (f (p + 2 + n))] 106)).drew).cell? ⟨w1.heap.size, 1, none⟩ = some (.int .i64 n) ∧ ((w1.alloc (.cells #[.int .i64 (f p), .int .i64 n, .int .i64 (f (p + 2 + n))] 106)).drew).cell? ⟨w1.heap.size, 2, none⟩ = some (.int .i64 (f (p + 2 + n))) :=
      ⟨World.cell?_alloc_new w1 _ _ 0, World.cell?_alloc_new w1 _ _ 1, World.cell?_alloc_new w1 _ _ 2⟩
    have d2 : Below w1.heap.size w1 ((w1.alloc (.cells #[.int .i64 (f p), .int .i64 n, .int .i64 (f (p + 2 + n))] 106)).drew) := ((Below.refl _ _).alloc (Nat.le_refl _) _).drew
    have HBL2 : Hid (Below w.heap.size w ((w1.alloc (.cells #[.int .i64 (f p), .int .i64 n, .int .i64 (f (p + 2 + n))] 106)).drew)) := HBL.out.trans (d2.mono HBL.out.size)
    have HC2 : Hid (∀ j, j < N → ((w1.alloc (.cells #[.int .i64 (f p), .int .i64 n, .int .i64 (f (p + 2 + n))] 106)).drew).cell? ⟨b, o + j, none⟩ = some (.int .i64 (f j))) := fun j hj => (d2.cell (p := ⟨b, o + j, none⟩) hb1).trans (HC1.out j hj)
    generalize ((w1.alloc (.cells #[.int .i64 (f p), .int .i64 n, .int .i64 (f (p + 2 + n))] 106)).drew) = W at hq HBL2 HC2 ⊢
    have HQ : Hid _ := hq
    generalize w1.heap.size = F at hq HQ ⊢
    obtain ⟨q0, q1, q2⟩ := hq
    clear d2 c0 c1 c2 hb1 hne HC1 HBL hk3 hk1 hk2 W1 W2 hnil
    by_cases hA : f p = gw p n true 1000 ∧ f (p + 2 + n) = gw p n true 1001
    · have HO : Hid (blkO f N p = some (n, true)) := blkO_some ⟨by omega, hn1, by omega, hfit, HN.out, hA.1, hA.2, fun h => by cases h⟩
      rw [hA.1] at q0
      rw [hA.2] at q2
      rw [hA.1, hA.2] at HQ
      clear hA
      have heq := run_eq3_is (gw p n true 1000) n (gw p n true 1001) (gw p n true 1000) n (gw p n true 1001) rfl rfl rfl
      go_wp2_with fail
      haveI := inn_ne W
      have k0 := Inn.keep q0
      have k1 := Inn.keep q1
      have k2 := Inn.keep q2
      refine wp_region_inn (by kernel_rfl) (by kernel_rfl) ?_
      repeat (go_big_quiet_step (first
        | (go_at_call 62; exact calls_inn (guardsOf_any _ _ _ _))))
      refine wpQuiet_nil ?_
      rintro w3 ⟨x3, h3⟩
      have hb3 : Below W.heap.size W w3 := by rw [h3]; exact x3.bel
      clear h3 x3
      have HB3 : Hid (Below W.heap.size W w3) := hb3
      obtain ⟨r0, r1, r2⟩ := keep3B hb3 HQ.out
      clear k0 k1 k2 hb3
      go_wp2_with fail
      exact bodyPost_ret (v := .tuple #[.int .i64 n, .bool true, .bool true]) (by simp [results, Try.results49, go_sem]) rfl ⟨ret_bv (a := some (n, true)) HO.out.symm, HBL2.out.trans (HB3.out.mono HBL2.out.size)⟩
    · have h4000 : n ≤ 4000 := by omega
      have hp2 : ((p : Int) + 2) = (p + 2 : Nat) := by omega
      have hp3 : p + 2 ≤ 2097152 := by omega
      have W1 : IntKind.i64.wrap ((p : Int) + 2) = (p : Int) + 2 := by rw [IntKind.wrap_i64]; omega
      have hbW : b < W.heap.size := World.block_lt_of_cell? W _ (HC2.out p (by omega))
      have HP : Hid (∀ w', Below W.heap.size W w' → ∀ j, j < n → w'.cell? ⟨b, o + p + 2 + j, none⟩ = some (.int .i64 (f (p + 2 + j)))) := fun w' hb' j hj => by
        have e : o + p + 2 + j = o + (p + 2 + j) := by omega
        rw [e]
        exact (hb'.cell (p := ⟨b, o + (p + 2 + j), none⟩) hbW).trans (HC2.out (p + 2 + j) (by omega))
      by_cases hx : f p = gw p n true 1000
      · have hy : ¬ f (p + 2 + n) = gw p n true 1001 := fun h => hA ⟨hx, h⟩
        have hne : ¬ gw p n true 1000 = gw p n false 1000 := gw_use p n (by omega) (by omega) (by omega) (by omega) 1000
        have HO : Hid (blkO f N p = none) := blkO_none fun n' u' hB => by
          have e : n' = n := by have := hB.len; rw [HN.out] at this; omega
          subst e
          cases u' with
          | true => exact hy hB.behind
          | false => exact hne (hx.symm.trans hB.ahead)
        rw [hx] at q0 HQ
        have g1 : (f (p + 2 + n) == gw p n true 1001) = false := by simpa using hy
        have g2 : (gw p n true 1000 == gw p n false 1000) = false := by simpa using hne
        clear hA hx
        generalize f (p + 2 + n) = y at *
        have heq6 := run_eq3_not (gw p n true 1000) n y (gw p n true 1000) n (gw p n true 1001) (fun _ _ h => hy h)
        have heq8 := run_eq3_not (gw p n true 1000) n y (gw p n false 1000) n (gw p n false 1001) (fun h _ _ => hne h)
        haveI := inn_ne W
        have k0 := Inn.keep q0
        have k1 := Inn.keep q1
        have k2 := Inn.keep q2
        go_wp2_with fail
        refine wp_region_inn (by kernel_rfl) (by kernel_rfl) ?_
        repeat (go_big_quiet_step (first
          | (go_at_call 62; exact calls_inn (guardsOf_any _ _ _ _))))
        refine wpQuiet_nil ?_
        rintro w3 ⟨x3, h3⟩
        have hb3 : Below W.heap.size W w3 := by rw [h3]; exact x3.bel
        clear h3 x3
        have HB3 : Hid (Below W.heap.size W w3) := hb3
        obtain ⟨r0, r1, r2⟩ := keep3B hb3 HQ.out
        clear k0 k1 k2 hb3
        go_wp2_with fail
        haveI := inn_ne w3
        have k0 := Inn.keep r0
        have k1 := Inn.keep r1
        have k2 := Inn.keep r2
        refine wp_region_inn (by kernel_rfl) (by kernel_rfl) ?_
        repeat (go_big_quiet_step (first
          | (go_at_call 62; exact calls_inn (guardsOf_any _ _ _ _))
          | (go_at_call 64; exact calls_inn_same (held_of b (o + p) n h4000 _ hn1))
          | (go_at_call 63; exact calls_inn_same (HALL.out _ (below_join HB3.out (Inn.bel _))))))
        refine wpQuiet_nil ?_
        rintro w5 ⟨x5, h5⟩
        have hb5 : Below w3.heap.size w3 w5 := by rw [h5]; exact x5.bel
        clear h5 x5
        have HB5 : Hid (Below W.heap.size W w5) := below_join HB3.out hb5
        clear k0 k1 k2 hb5
        go_wp2_with fail
        exact bodyPost_ret (v := .tuple #[.int .i64 0, .bool false, .bool false]) (by simp [results, Try.results49, go_sem]) rfl ⟨ret_bv (a := none) HO.out.symm, HBL2.out.trans (HB5.out.mono HBL2.out.size)⟩
      · have g1 : (f p == gw p n true 1000) = false := by simpa using hx
        by_cases hf : f p = gw p n false 1000
        · by_cases hy : f (p + 2 + n) = gw p n false 1001
          · have HY : Hid ((∀ j, j < n → f (p + 2 + j) = pois (p + 2 + j : Nat)) → blkO f N p = some (n, false)) := fun h => blkO_some ⟨by omega, hn1, by omega, hfit, HN.out, hf, hy, fun _ => h⟩
            have HX : Hid (¬ (∀ j, j < n → f (p + 2 + j) = pois (p + 2 + j : Nat)) → blkO f N p = none) := fun h => blkO_none fun n' u' hB => by
              have e : n' = n := by have := hB.len; rw [HN.out] at this; omega
              subst e
              cases u' with
              | true => exact hx hB.ahead
              | false => exact h (hB.free rfl)
            rw [hf] at q0 HQ g1
            rw [hy] at q2 HQ
            clear hA hx hy hf
            by_cases hP : ∀ j, j < n → f (p + 2 + j) = pois (p + 2 + j : Nat)
            · have HO : Hid (blkO f N p = some (n, false)) := HY.out hP
              have HALL : Hid (∀ w', Below W.heap.size W w' → Calls Try.prog 63 #[.slice (some ⟨b, o + p + 2, none⟩) n n, .int .i64 ((p : Int) + 2)] w' fun e w'' => e = .returned (.bool true) ∧ w'' = w') := fun w' hb' => allPois_yes b (o + p + 2) n n (fun j => f (p + 2 + j)) (p + 2) _ hp2 w' (HP.out w' hb') h4000 hp3 hP
              clear hP hp2
              have heq6 := run_eq3_not (gw p n false 1000) n (gw p n false 1001) (gw p n true 1000) n (gw p n true 1001) (fun h _ _ => by simp [h] at g1)
              have heq8 := run_eq3_is (gw p n false 1000) n (gw p n false 1001) (gw p n false 1000) n (gw p n false 1001) rfl rfl rfl
              haveI := inn_ne W
              have k0 := Inn.keep q0
              have k1 := Inn.keep q1
              have k2 := Inn.keep q2
              go_wp2_with fail
              refine wp_region_inn (by kernel_rfl) (by kernel_rfl) ?_
              repeat (go_big_quiet_step (first
                | (go_at_call 62; exact calls_inn (guardsOf_any _ _ _ _))))
              refine wpQuiet_nil ?_
              rintro w3 ⟨x3, h3⟩
              have hb3 : Below W.heap.size W w3 := by rw [h3]; exact x3.bel
              clear h3 x3
              have HB3 : Hid (Below W.heap.size W w3) := hb3
              obtain ⟨r0, r1, r2⟩ := keep3B hb3 HQ.out
              clear k0 k1 k2 hb3
              go_wp2_with fail
              haveI := inn_ne w3
              have k0 := Inn.keep r0
              have k1 := Inn.keep r1
              have k2 := Inn.keep r2
              refine wp_region_inn (by kernel_rfl) (by kernel_rfl) ?_
              repeat (go_big_quiet_step (first
                | (go_at_call 62; exact calls_inn (guardsOf_any _ _ _ _))
                | (go_at_call 64; exact calls_inn_same (held_of b (o + p) n h4000 _ hn1))
                | (go_at_call 63; exact calls_inn_same (HALL.out _ (below_join HB3.out (Inn.bel _))))))
              refine wpQuiet_nil ?_
              rintro w5 ⟨x5, h5⟩
              have hb5 : Below w3.heap.size w3 w5 := by rw [h5]; exact x5.bel
              clear h5 x5
              have HB5 : Hid (Below W.heap.size W w5) := below_join HB3.out hb5
              clear k0 k1 k2 hb5
              go_wp2_with fail
              exact bodyPost_ret (v := .tuple #[.int .i64 n, .bool false, .bool true]) (by simp [results, Try.results49, go_sem]) rfl ⟨ret_bv (a := some (n, false)) HO.out.symm, HBL2.out.trans (HB5.out.mono HBL2.out.size)⟩
            · have HO : Hid (blkO f N p = none) := HX.out hP
              have HALL : Hid (∀ w', Below W.heap.size W w' → Calls Try.prog 63 #[.slice (some ⟨b, o + p + 2, none⟩) n n, .int .i64 ((p : Int) + 2)] w' fun e w'' => e = .returned (.bool false) ∧ w'' = w') := fun w' hb' => allPois_no b (o + p + 2) n n (fun j => f (p + 2 + j)) (p + 2) _ hp2 w' (HP.out w' hb') h4000 hp3 hP
              clear hP hp2
              have heq6 := run_eq3_not (gw p n false 1000) n (gw p n false 1001) (gw p n true 1000) n (gw p n true 1001) (fun h _ _ => by simp [h] at g1)
              have heq8 := run_eq3_is (gw p n false 1000) n (gw p n false 1001) (gw p n false 1000) n (gw p n false 1001) rfl rfl rfl
              haveI := inn_ne W
              have k0 := Inn.keep q0
              have k1 := Inn.keep q1
              have k2 := Inn.keep q2
              go_wp2_with fail
              refine wp_region_inn (by kernel_rfl) (by kernel_rfl) ?_
              repeat (go_big_quiet_step (first
                | (go_at_call 62; exact calls_inn (guardsOf_any _ _ _ _))))
              refine wpQuiet_nil ?_
              rintro w3 ⟨x3, h3⟩
              have hb3 : Below W.heap.size W w3 := by rw [h3]; exact x3.bel
              clear h3 x3
              have HB3 : Hid (Below W.heap.size W w3) := hb3
              obtain ⟨r0, r1, r2⟩ := keep3B hb3 HQ.out
              clear k0 k1 k2 hb3
              go_wp2_with fail
              haveI := inn_ne w3
              have k0 := Inn.keep r0
              have k1 := Inn.keep r1
              have k2 := Inn.keep r2
              refine wp_region_inn (by kernel_rfl) (by kernel_rfl) ?_
              repeat (go_big_quiet_step (first
                | (go_at_call 62; exact calls_inn (guardsOf_any _ _ _ _))
                | (go_at_call 64; exact calls_inn_same (held_of b (o + p) n h4000 _ hn1))
                | (go_at_call 63; exact calls_inn_same (HALL.out _ (below_join HB3.out (Inn.bel _))))))
              refine wpQuiet_nil ?_
              rintro w5 ⟨x5, h5⟩
              have hb5 : Below w3.heap.size w3 w5 := by rw [h5]; exact x5.bel
              clear h5 x5
              have HB5 : Hid (Below W.heap.size W w5) := below_join HB3.out hb5
              clear k0 k1 k2 hb5
              go_wp2_with fail
              exact bodyPost_ret (v := .tuple #[.int .i64 0, .bool false, .bool false]) (by simp [results, Try.results49, go_sem]) rfl ⟨ret_bv (a := none) HO.out.symm, HBL2.out.trans (HB5.out.mono HBL2.out.size)⟩
          · have HO : Hid (blkO f N p = none) := blkO_none fun n' u' hB => by
              have e : n' = n := by have := hB.len; rw [HN.out] at this; omega
              subst e
              cases u' with
              | true => exact hx hB.ahead
              | false => exact hy hB.behind
            have g2 : (f (p + 2 + n) == gw p n false 1001) = false := by simpa using hy
            rw [hf] at q0 HQ g1
            clear hA hx hf
            generalize f (p + 2 + n) = y at *
            have heq6 := run_eq3_not (gw p n false 1000) n y (gw p n true 1000) n (gw p n true 1001) (fun h _ _ => by simp [h] at g1)
            have heq8 := run_eq3_not (gw p n false 1000) n y (gw p n false 1000) n (gw p n false 1001) (fun _ _ h => hy h)
            haveI := inn_ne W
            have k0 := Inn.keep q0
            have k1 := Inn.keep q1
            have k2 := Inn.keep q2
            go_wp2_with fail
            refine wp_region_inn (by kernel_rfl) (by kernel_rfl) ?_
            repeat (go_big_quiet_step (first
              | (go_at_call 62; exact calls_inn (guardsOf_any _ _ _ _))))
            refine wpQuiet_nil ?_
            rintro w3 ⟨x3, h3⟩
            have hb3 : Below W.heap.size W w3 := by rw [h3]; exact x3.bel
            clear h3 x3
            have HB3 : Hid (Below W.heap.size W w3) := hb3
            obtain ⟨r0, r1, r2⟩ := keep3B hb3 HQ.out
            clear k0 k1 k2 hb3
            go_wp2_with fail
            haveI := inn_ne w3
            have k0 := Inn.keep r0
            have k1 := Inn.keep r1
            have k2 := Inn.keep r2
            refine wp_region_inn (by kernel_rfl) (by kernel_rfl) ?_
            repeat (go_big_quiet_step (first
              | (go_at_call 62; exact calls_inn (guardsOf_any _ _ _ _))
              | (go_at_call 64; exact calls_inn_same (held_of b (o + p) n h4000 _ hn1))
              | (go_at_call 63; exact calls_inn_same (HALL.out _ (below_join HB3.out (Inn.bel _))))))
            refine wpQuiet_nil ?_
            rintro w5 ⟨x5, h5⟩
            have hb5 : Below w3.heap.size w3 w5 := by rw [h5]; exact x5.bel
            clear h5 x5
            have HB5 : Hid (Below W.heap.size W w5) := below_join HB3.out hb5
            clear k0 k1 k2 hb5
            go_wp2_with fail
            exact bodyPost_ret (v := .tuple #[.int .i64 0, .bool false, .bool false]) (by simp [results, Try.results49, go_sem]) rfl ⟨ret_bv (a := none) HO.out.symm, HBL2.out.trans (HB5.out.mono HBL2.out.size)⟩
        · have HO : Hid (blkO f N p = none) := blkO_none fun n' u' hB => by
            have e : n' = n := by have := hB.len; rw [HN.out] at this; omega
            subst e
            cases u' with
            | true => exact hx hB.ahead
            | false => exact hf hB.ahead
          have g2 : (f p == gw p n false 1000) = false := by simpa using hf
          clear hA
          generalize f p = x at *
          generalize f (p + 2 + n) = y at *
          have heq6 := run_eq3_not x n y (gw p n true 1000) n (gw p n true 1001) (fun h _ _ => hx h)
          have heq8 := run_eq3_not x n y (gw p n false 1000) n (gw p n false 1001) (fun h _ _ => hf h)
          haveI := inn_ne W
          have k0 := Inn.keep q0
          have k1 := Inn.keep q1
          have k2 := Inn.keep q2
          go_wp2_with fail
          refine wp_region_inn (by kernel_rfl) (by kernel_rfl) ?_
          repeat (go_big_quiet_step (first
            | (go_at_call 62; exact calls_inn (guardsOf_any _ _ _ _))))
          refine wpQuiet_nil ?_
          rintro w3 ⟨x3, h3⟩
          have hb3 : Below W.heap.size W w3 := by rw [h3]; exact x3.bel
          clear h3 x3
          have HB3 : Hid (Below W.heap.size W w3) := hb3
          obtain ⟨r0, r1, r2⟩ := keep3B hb3 HQ.out
          clear k0 k1 k2 hb3
          go_wp2_with fail
          haveI := inn_ne w3
          have k0 := Inn.keep r0
          have k1 := Inn.keep r1
          have k2 := Inn.keep r2
          refine wp_region_inn (by kernel_rfl) (by kernel_rfl) ?_
          repeat (go_big_quiet_step (first
            | (go_at_call 62; exact calls_inn (guardsOf_any _ _ _ _))
            | (go_at_call 64; exact calls_inn_same (held_of b (o + p) n h4000 _ hn1))
            | (go_at_call 63; exact calls_inn_same (HALL.out _ (below_join HB3.out (Inn.bel _))))))
          refine wpQuiet_nil ?_
          rintro w5 ⟨x5, h5⟩
          have hb5 : Below w3.heap.size w3 w5 := by rw [h5]; exact x5.bel
          clear h5 x5
          have HB5 : Hid (Below W.heap.size W w5) := below_join HB3.out hb5
          clear k0 k1 k2 hb5
          go_wp2_with fail
          exact bodyPost_ret (v := .tuple #[.int .i64 0, .bool false, .bool false]) (by simp [results, Try.results49, go_sem]) rfl ⟨ret_bv (a := none) HO.out.symm, HBL2.out.trans (HB5.out.mono HBL2.out.size)⟩
  · have HO : Hid (blkO f N p = none) := blkO_none fun n' u' hB => hv ⟨hB.hp, n', hB.len, hB.h1, hB.hn, hB.fit⟩
    have hw : ∀ q n : Nat, (p : Int) = q → q ≤ 4000 → f (q + 1) = n → 1 ≤ n → n ≤ 4000 → ¬ q + n + 3 ≤ N := fun q n h0 h4 h1 h2 h5 h3 => by
      have e : p = q := by omega
      subst e
      exact hv ⟨h4, n, h1, h2, h5, h3⟩
    have HW : Hid (∀ q n : Nat, (p : Int) = q → q ≤ 4000 → f (q + 1) = n → 1 ≤ n → n ≤ 4000 → ¬ q + n + 3 ≤ N) := hw
    clear hv hw hr
    have hnil := fun (w : World) (a : Option Addr) (n c : Nat) => Go.Lib.run_eql_slice_nil (P := Try.prog) w 24 3 a n c 0 0 undInts
    go_enter Try.func49, Try.ntmps49
    go_wp2_with fail
    have d0 := (Below.refl w.heap.size w).alloc (Nat.le_refl _) (.cells #[.slice ao N cap] 34)
    refine (words_none ao N cap f p _ (HR.out.below d0) (by omega) HW.out).mono ?_
    rintro e w1 ⟨rfl, hb1⟩
    have HBL : Hid (Below w.heap.size w w1) := d0.trans (hb1.mono (by simp))
    clear hb1 d0
    go_wp2_with fail
    exact bodyPost_ret (v := .tuple #[.int .i64 0, .bool false, .bool false]) (by simp [results, Try.results49, go_sem]) rfl ⟨ret_bv (a := none) HO.out.symm, HBL.out⟩
end Go.Proofs.Ytdglefedbkgghaa
namespace Go.Proofs.Ytdglefedbkgghaa
open Go.RowKit
set_option linter.unusedVariables false

/-- The places of the blocks from p on. -/
noncomputable def bls (f : Nat → Int) (N : Nat) (p : Nat) : List Nat :=
  if p < N then (if (blkO f N p).isSome then p :: bls f N (p + (blkO f N p).elim 0 (·.1) + 3) else []) else []
termination_by N - p
theorem bls_cons {f : Nat → Int} {N p n : Nat} {u : Bool} (h : blkO f N p = some (n, u)) : bls f N p = p :: bls f N (p + n + 3) := by
  have hf := (blkO_of h).fit
  rw [bls, if_pos (by omega), h]
  simp
theorem bls_nil {f : Nat → Int} {N p : Nat} (h : blkO f N p = none) : bls f N p = [] := by
  rw [bls, h]
  simp
theorem blkO_end {f : Nat → Int} {N p : Nat} (h : ¬ p < N) : blkO f N p = none := blkO_none fun n u hB => h (by have := hB.fit; omega)

/-- The value v is a list of its own of these places. -/
def Places (w : World) (base : Nat) (v : Value) (l : List Nat) : Prop := w.ownsRow base 3 1 v l.length (l.map fun (x : Nat) => Value.int .i64 x)
theorem Places.kept {w w' : World} {base : Nat} {v : Value} {l : List Nat} (h : Places w base v l) (hb : Below w.heap.size w w') : Places w' base v l :=
  World.ownsRow.kept h ⟨hb.os, hb.tape, hb.output, hb.size, fun k hk _ => hb.block k hk⟩ (row := none) (by cases hv : v.ownBlock <;> simp)
theorem Places.slice {w : World} {base : Nat} {v : Value} {l : List Nat} (h : Places w base v l) : ∃ ao cap, v = .slice ao l.length cap ∧ l.length ≤ cap ∧ cap ≤ maxLen ∧ (∀ a, ao = some a → base ≤ a.block) ∧ Rd w ao l.length (fun j => (l.getD j 0 : Nat)) := by
  rcases h.2 with ⟨rfl, hn⟩ | ⟨g, cap, cur, rfl, hb, hg, hc, hm, hs, ht⟩
  · refine ⟨none, 0, by rw [hn], by omega, Nat.zero_le _, fun a e => (by cases e), fun hne => absurd hn hne⟩
  · refine ⟨_, cap, rfl, hc, hm, fun a e => (by cases e; exact hb), fun _ => ⟨g, 0, rfl, fun j hj => ?_⟩⟩
    have hc := h.cells (g := g) rfl j (.int .i64 (l.getD j 0 : Nat)) (by simp [hj])
    rw [Addr.add_lit] at hc
    exact hc

theorem Places.base {w : World} {base b2 : Nat} {v : Value} {l : List Nat} (h : Places w base v l) (hb : b2 ≤ base) : Places w b2 v l := by
  refine ⟨h.1, ?_⟩
  rcases h.2 with hn | ⟨g, cap, cur, e, hg, rest⟩
  · exact .inl hn
  · exact .inr ⟨g, cap, cur, e, Nat.le_trans hb hg, rest⟩

theorem news1 (w : World) (v : Value) (t : TypeId) : ∀ j u, [v][j]? = some u → (w.alloc (.cells #[v] t)).cell? ((⟨w.heap.size, 0, none⟩ : Addr).add j) = some u := fun j u hu => by
  rw [Addr.add_lit]
  match j, hu with
  | 0, hu => simp at hu; subst hu; exact World.cell?_alloc_new w _ _ 0
theorem one1 (x : Int) : ∀ u ∈ [Value.int .i64 x], u.oneCell' = true := fun u hu => by simp at hu; subst hu; rfl
theorem places_snoc {w : World} {base : Nat} {v : Value} {l : List Nat} {p : Nat} (h : w.ownsRow base 3 1 v (l.length + 1) ((l.map fun (x : Nat) => Value.int .i64 x) ++ [.int .i64 p])) : Places w base v (l ++ [p]) := by
  unfold Places
  rw [List.length_append, List.map_append]
  exact h

set_option maxHeartbeats 2000000 in
set_option maxRecDepth 100000 in
theorem specBlocks_any (ao : Option Addr) (N cap : Nat) (f : Nat → Int) (w : World) (hr : Rd w ao N f) (hN : N ≤ 1048576) :
    Calls Try.prog 17 #[.agg #[.slice ao N cap]] w fun e w' => ∃ v, e = .returned v ∧ Places w' w.heap.size v (bls f N 0) ∧ Below w.heap.size w w' := by
  have HR : Hid (Rd w ao N f) := hr
  clear hr
  obtain ⟨i0, hi, hz0, hz1, hz2⟩ := info_parts infoInt
  have HI : Hid (Try.prog.info? 3 = some i0 ∧ i0.zero = some (.int .i64 0) ∧ i0.size = 1 ∧ i0.bytes = 8) := ⟨hi, hz0, hz1, hz2⟩
  clear hi hz0 hz1 hz2
  go_enter Try.func17, Try.ntmps17
  go_wp2_with fail
  have hz : (w.alloc (.cells #[.slice ao N cap] 34)).heap.size = w.heap.size + 1 := World.size_alloc _ _
  have hst : Places ((w.alloc (.cells #[.slice ao N cap] 34)).alloc (.cells #[] 3)) (w.heap.size + 1) (.slice (some ⟨w.heap.size + 1, 0, none⟩) 0 0) [] := by
    have := World.ownsRow_made (base := w.heap.size + 1) (e := 3) (size := 1) (w.alloc (.cells #[.slice ao N cap] 34)) #[] 0 (Nat.le_of_eq hz.symm) (Nat.zero_le _) rfl
    rw [hz] at this
    exact this
  have hb0 : (w.alloc (.cells #[.slice ao N cap] 34)).cell? ⟨w.heap.size, 0, none⟩ = some (.slice ao N cap) := World.cell?_alloc_new w _ _ 0
  have hbw : Below w.heap.size w (w.alloc (.cells #[.slice ao N cap] 34)) := (Below.refl _ _).alloc (Nat.le_refl _) _
  have hbl : Below (w.heap.size + 1) (w.alloc (.cells #[.slice ao N cap] 34)) ((w.alloc (.cells #[.slice ao N cap] 34)).alloc (.cells #[] 3)) := (Below.refl _ _).alloc (Nat.le_of_eq hz.symm) _
  generalize (w.alloc (.cells #[.slice ao N cap] 34)) = W0 at hz hst hb0 hbw hbl ⊢
  have HS : Hid (Places (W0.alloc (.cells #[] 3)) (w.heap.size + 1) (.slice (some ⟨w.heap.size + 1, 0, none⟩) 0 0) [] ∧ Below (w.heap.size + 1) W0 (W0.alloc (.cells #[] 3))) := ⟨hst, hbl⟩
  have HB0 : Hid (W0.cell? ⟨w.heap.size, 0, none⟩ = some (.slice ao N cap) ∧ Below w.heap.size w W0 ∧ W0.heap.size = w.heap.size + 1) := ⟨hb0, hbw, hz⟩
  clear hst hbl hb0 hbw hz
  go_loopw [3, 4] (fun v a wr => ∃ (p : Nat) (l : List Nat), p ≤ N ∧ l.length ≤ p ∧ a = .int .i64 p ∧ Places wr (w.heap.size + 1) v l ∧ Below (w.heap.size + 1) W0 wr ∧ l ++ bls f N p = bls f N 0) (fun _ a _ => N - (intOf a).toNat)
  case atStart => exact ⟨0, [], Nat.zero_le _, Nat.le_refl _, rfl, HS.out.1, HS.out.2, rfl⟩
  case round =>
    obtain ⟨p, l, hp, hl, rfl, hpl, hbl, hap⟩ := hrel
    obtain ⟨va, vc, rfl, hvc⟩ := hpl.slice
    have HPL : Hid (Places wr (w.heap.size + 1) (.slice va l.length vc) l) := hpl
    have HBL : Hid (Below (w.heap.size + 1) W0 wr) := hbl
    have HAP : Hid (l ++ bls f N p = bls f N 0) := hap
    have hsz := hbl.size
    have b0 := (hbl.cell (p := ⟨w.heap.size, 0, none⟩) (Nat.lt_succ_self _)).trans HB0.out.1
    have hbww : Below w.heap.size w wr := HB0.out.2.1.trans (hbl.mono (Nat.le_succ _))
    have HRr : Hid (Rd wr ao N f) := HR.out.below hbww
    have HBW : Hid (Below w.heap.size w wr ∧ w.heap.size + 1 ≤ wr.heap.size) := ⟨hbww, by have := HB0.out.2.2; omega⟩
    clear hpl hbl hap hvc hbww hsz
    by_cases hlt : p < N
    · go_wp2_with fail
      refine (specAt_any ao N cap f p _ HRr.out hN (by omega)).mono ?_
      rintro e w1 ⟨rfl, hb1⟩
      have HPL1 : Hid (Places w1 (w.heap.size + 1) (.slice va l.length vc) l) := HPL.out.kept hb1
      have HBL1 : Hid (Below (w.heap.size + 1) W0 w1) := HBL.out.trans (hb1.mono HBW.out.2)
      have hs1 := hb1.size
      have HZ1 : Hid (w.heap.size + 1 ≤ w1.heap.size) := Nat.le_trans HBW.out.2 hs1
      clear hb1 hs1
      cases hB : blkO f N p with
      | none =>
        have HO : Hid (bls f N 0 = l) := by have := HAP.out; rw [bls_nil hB, List.append_nil] at this; exact this.symm
        clear hB
        dsimp only [bv]
        go_wp2_with fail
        go_ret
        refine ⟨_, rfl, ?_, HB0.out.2.1.trans (HBL1.out.mono (Nat.le_succ _))⟩
        rw [HO.out]
        exact HPL1.out.base (Nat.le_succ _)
      | some x =>
        obtain ⟨n, u⟩ := x
        have HB : Hid (Blk f N p n u ∧ bls f N p = p :: bls f N (p + n + 3)) := ⟨blkO_of hB, bls_cons hB⟩
        have hfit := (blkO_of hB).fit
        have h1 := (blkO_of hB).h1
        clear hB
        dsimp only [bv]
        have C1 : Hid (∀ j u, [Value.int .i64 (p : Int)][j]? = some u → (w1.alloc (.cells #[.int .i64 p] 3)).cell? ((⟨w1.heap.size, 0, none⟩ : Addr).add j) = some u) := news1 w1 _ _
        have C3 : Hid (l.length + 1 ≤ maxLen) := by show _ ≤ _; unfold maxLen; omega
        have C4 : Hid ((l.length + 1) * 8 ≤ 140737488355328) := by show _ ≤ _; omega
        have C5 : Hid (w.heap.size + 1 ≤ (w1.alloc (.cells #[.int .i64 p] 3)).heap.size) := by show _ ≤ _; rw [World.size_alloc]; have := HZ1.out; omega
        go_wp2_with (at_builtin; refine wpList_append_own _ rfl _ _ 24 rfl (w.heap.size + 1) 3 i0 (.int .i64 0) 1 8 undInts HI.out.1 HI.out.2.1 HI.out.2.2.1 HI.out.2.2.2 rfl Nat.zero_lt_one _ _ _ rfl (World.ownsRow.alloc HPL1.out _) ⟨w1.heap.size, 0, none⟩ 1 1 [.int .i64 p] rfl rfl C1.out (one1 _) C3.out C4.out C5.out ?_; intro v2 w2 hown2 hgr2 hnil2)
        have HPL2 : Hid (Places w2 (w.heap.size + 1) v2 (l ++ [p])) := places_snoc hown2
        have HBL2 : Hid (Below (w.heap.size + 1) W0 w2) := (HBL1.out.alloc HZ1.out _).grown hgr2 C5.out (fun k hk => (World.ownsRow.lt HPL1.out k hk).1)
        clear hown2 hgr2 hnil2
        go_wp2_with fail
        go_roundw
        case rel => exact ⟨p + n + 3, l ++ [p], hfit, by rw [List.length_append, List.length_singleton]; omega, by go_num, HPL2.out, HBL2.out, by rw [← HAP.out, HB.out.2, List.append_assoc]; rfl⟩
        case measure => simp [intOf]; omega
    · have HO : Hid (bls f N 0 = l) := by have := HAP.out; rw [bls_nil (blkO_end hlt), List.append_nil] at this; exact this.symm
      go_wp2_with fail
      go_ret
      refine ⟨_, rfl, ?_, HBW.out.1⟩
      rw [HO.out]
      exact HPL.out.base (Nat.le_succ _)

end Go.Proofs.Ytdglefedbkgghaa
namespace Go.Proofs.Ytdglefedbkgghaa
open Go.RowKit
set_option linter.unusedVariables false

/-- The audit from the place p on, behind a free block or not. -/
noncomputable def aud (f : Nat → Int) (N : Nat) (p : Nat) (fr : Bool) : Int :=
  if p < N then (if (blkO f N p).isNone || (fr && !((blkO f N p).elim false (·.2))) then (p : Int) else aud f N (p + (blkO f N p).elim 0 (·.1) + 3) (!((blkO f N p).elim false (·.2)))) else -1
termination_by N - p
theorem aud_end {f : Nat → Int} {N p : Nat} {fr : Bool} (h : ¬ p < N) : aud f N p fr = -1 := by rw [aud, if_neg h]
theorem aud_none {f : Nat → Int} {N p : Nat} {fr : Bool} (hp : p < N) (h : blkO f N p = none) : aud f N p fr = p := by rw [aud, if_pos hp, h]; simp
theorem aud_two {f : Nat → Int} {N p n : Nat} (hp : p < N) (h : blkO f N p = some (n, false)) : aud f N p true = p := by rw [aud, if_pos hp, h]; simp
theorem aud_on {f : Nat → Int} {N p n : Nat} {u fr : Bool} (hp : p < N) (h : blkO f N p = some (n, u)) (hk : (fr && !u) = false) : aud f N p fr = aud f N (p + n + 3) (!u) := by
  rw [aud, if_pos hp, h]
  simp only [Option.isNone_some, Option.elim_some, Bool.false_or, hk, Bool.false_eq_true, if_false]

set_option maxHeartbeats 2000000 in
set_option maxRecDepth 100000 in
theorem specAudit_any (ao : Option Addr) (N cap : Nat) (f : Nat → Int) (w : World) (hr : Rd w ao N f) (hN : N ≤ 1048576) :
    Calls Try.prog 19 #[.agg #[.slice ao N cap]] w fun e w' => e = .returned (.int .i64 (aud f N 0 false)) ∧ Below w.heap.size w w' := by
  have HR : Hid (Rd w ao N f) := hr
  clear hr
  go_enter Try.func19, Try.ntmps19
  go_wp2_with fail
  have hb0 : (w.alloc (.cells #[.slice ao N cap] 34)).cell? ⟨w.heap.size, 0, none⟩ = some (.slice ao N cap) := World.cell?_alloc_new w _ _ 0
  have hbw : Below w.heap.size w (w.alloc (.cells #[.slice ao N cap] 34)) := (Below.refl _ _).alloc (Nat.le_refl _) _
  generalize (w.alloc (.cells #[.slice ao N cap] 34)) = W0 at hb0 hbw ⊢
  have HB0 : Hid (W0.cell? ⟨w.heap.size, 0, none⟩ = some (.slice ao N cap) ∧ Below w.heap.size w W0) := ⟨hb0, hbw⟩
  have HZ : Hid (w.heap.size < W0.heap.size) := World.block_lt_of_cell? W0 _ hb0
  clear hb0 hbw
  go_loopw [3, 4] (fun a b wr => ∃ (p : Nat) (fr : Bool), p ≤ N ∧ a = .int .i64 p ∧ b = .bool fr ∧ Below W0.heap.size W0 wr ∧ aud f N p fr = aud f N 0 false) (fun a _ _ => N - (intOf a).toNat)
  case atStart => exact ⟨0, false, Nat.zero_le _, rfl, rfl, Below.refl _ _, rfl⟩
  case round =>
    obtain ⟨p, fr, hp, rfl, rfl, hbl, hap⟩ := hrel
    have HAP : Hid (aud f N p fr = aud f N 0 false) := hap
    have b0 := (hbl.cell (p := ⟨w.heap.size, 0, none⟩) HZ.out).trans HB0.out.1
    have hbww : Below w.heap.size w wr := HB0.out.2.trans (hbl.mono (Nat.le_of_lt HZ.out))
    have HRr : Hid (Rd wr ao N f) := HR.out.below hbww
    have HBL : Hid (Below W0.heap.size W0 wr) := hbl
    have HBW : Hid (Below w.heap.size w wr) := hbww
    clear hbl hap hbww
    by_cases hlt : p < N
    · go_wp2_with fail
      refine (specAt_any ao N cap f p _ HRr.out hN (by omega)).mono ?_
      rintro e w1 ⟨rfl, hb1⟩
      have HB1 : Hid (Below w.heap.size w w1 ∧ Below W0.heap.size W0 w1) := ⟨below_join HBW.out hb1, below_join HBL.out hb1⟩
      clear hb1
      cases hB : blkO f N p with
      | none =>
        have HO : Hid (aud f N 0 false = p) := HAP.out.symm.trans (aud_none hlt hB)
        clear hB
        dsimp only [bv]
        go_wp2_with fail
        go_ret
        exact ⟨ret_int HO.out.symm, HB1.out.1⟩
      | some x =>
        obtain ⟨n, u⟩ := x
        have hfit := (blkO_of hB).fit
        have HB : Hid (blkO f N p = some (n, u)) := hB
        clear hB
        dsimp only [bv]
        cases u with
        | true =>
          have HO : Hid (aud f N (p + n + 3) false = aud f N 0 false) := by have := aud_on (fr := fr) hlt HB.out (by simp); exact this.symm.trans HAP.out
          cases fr with
          | true =>
            go_wp2_with fail
            go_roundw
            case rel => exact ⟨p + n + 3, false, hfit, by go_num, rfl, HB1.out.2, HO.out⟩
            case measure => simp [intOf]; omega
          | false =>
            go_wp2_with fail
            go_roundw
            case rel => exact ⟨p + n + 3, false, hfit, by go_num, rfl, HB1.out.2, HO.out⟩
            case measure => simp [intOf]; omega
        | false =>
          cases fr with
          | true =>
            have HO : Hid (aud f N 0 false = p) := HAP.out.symm.trans (aud_two hlt HB.out)
            go_wp2_with fail
            go_ret
            exact ⟨ret_int HO.out.symm, HB1.out.1⟩
          | false =>
            have HO : Hid (aud f N (p + n + 3) true = aud f N 0 false) := by have := aud_on (fr := false) hlt HB.out (by simp); exact this.symm.trans HAP.out
            go_wp2_with fail
            go_roundw
            case rel => exact ⟨p + n + 3, true, hfit, by go_num, rfl, HB1.out.2, HO.out⟩
            case measure => simp [intOf]; omega
    · have HO : Hid (aud f N 0 false = -1) := HAP.out.symm.trans (aud_end hlt)
      go_wp2_with fail
      go_ret
      exact ⟨ret_int HO.out.symm, HBW.out⟩

set_option maxHeartbeats 2000000 in
set_option maxRecDepth 100000 in
theorem implAudit_any (ao : Option Addr) (N cap : Nat) (f : Nat → Int) (w : World) (hr : Rd w ao N f) (hN : N ≤ 1048576) (hcap : N ≤ cap) :
    Calls Try.prog 26 #[.agg #[.slice ao N cap]] w fun e w' => e = .returned (.int .i64 (aud f N 0 false)) ∧ Below w.heap.size w w' := by
  have HR : Hid (Rd w ao N f) := hr
  clear hr
  go_enter Try.func26, Try.ntmps26
  go_wp2_with fail
  have hb0 : (w.alloc (.cells #[.slice ao N cap] 34)).cell? ⟨w.heap.size, 0, none⟩ = some (.slice ao N cap) := World.cell?_alloc_new w _ _ 0
  have hbw : Below w.heap.size w (w.alloc (.cells #[.slice ao N cap] 34)) := (Below.refl _ _).alloc (Nat.le_refl _) _
  generalize (w.alloc (.cells #[.slice ao N cap] 34)) = W0 at hb0 hbw ⊢
  have HB0 : Hid (W0.cell? ⟨w.heap.size, 0, none⟩ = some (.slice ao N cap) ∧ Below w.heap.size w W0) := ⟨hb0, hbw⟩
  have HZ : Hid (w.heap.size < W0.heap.size) := World.block_lt_of_cell? W0 _ hb0
  clear hb0 hbw
  go_loopw [3, 4] (fun b a wr => ∃ (p : Nat) (fr : Bool), p ≤ N ∧ a = .int .i64 p ∧ b = .bool fr ∧ Below W0.heap.size W0 wr ∧ aud f N p fr = aud f N 0 false) (fun _ a _ => N - (intOf a).toNat)
  case atStart => exact ⟨0, false, Nat.zero_le _, rfl, rfl, Below.refl _ _, rfl⟩
  case round =>
    obtain ⟨p, fr, hp, rfl, rfl, hbl, hap⟩ := hrel
    have HAP : Hid (aud f N p fr = aud f N 0 false) := hap
    have b0 := (hbl.cell (p := ⟨w.heap.size, 0, none⟩) HZ.out).trans HB0.out.1
    have hbww : Below w.heap.size w wr := HB0.out.2.trans (hbl.mono (Nat.le_of_lt HZ.out))
    have HRr : Hid (Rd wr ao N f) := HR.out.below hbww
    have HBL : Hid (Below W0.heap.size W0 wr) := hbl
    have HBW : Hid (Below w.heap.size w wr) := hbww
    clear hbl hap hbww
    by_cases hlt : p < N
    · go_wp2_with fail
      refine (implAt_any ao N cap f p _ HRr.out hN hcap).mono ?_
      rintro e w1 ⟨rfl, hb1⟩
      have HB1 : Hid (Below w.heap.size w w1 ∧ Below W0.heap.size W0 w1) := ⟨below_join HBW.out hb1, below_join HBL.out hb1⟩
      clear hb1
      cases hB : blkO f N p with
      | none =>
        have HO : Hid (aud f N 0 false = p) := HAP.out.symm.trans (aud_none hlt hB)
        clear hB
        dsimp only [bv]
        go_wp2_with fail
        go_ret
        exact ⟨ret_int HO.out.symm, HB1.out.1⟩
      | some x =>
        obtain ⟨n, u⟩ := x
        have hfit := (blkO_of hB).fit
        have HB : Hid (blkO f N p = some (n, u)) := hB
        clear hB
        dsimp only [bv]
        cases u with
        | true =>
          have HO : Hid (aud f N (p + n + 3) false = aud f N 0 false) := by have := aud_on (fr := fr) hlt HB.out (by simp); exact this.symm.trans HAP.out
          cases fr with
          | true =>
            go_wp2_with fail
            go_roundw
            case rel => exact ⟨p + n + 3, false, hfit, by go_num, rfl, HB1.out.2, HO.out⟩
            case measure => simp [intOf]; omega
          | false =>
            go_wp2_with fail
            go_roundw
            case rel => exact ⟨p + n + 3, false, hfit, by go_num, rfl, HB1.out.2, HO.out⟩
            case measure => simp [intOf]; omega
        | false =>
          cases fr with
          | true =>
            have HO : Hid (aud f N 0 false = p) := HAP.out.symm.trans (aud_two hlt HB.out)
            go_wp2_with fail
            go_ret
            exact ⟨ret_int HO.out.symm, HB1.out.1⟩
          | false =>
            have HO : Hid (aud f N (p + n + 3) true = aud f N 0 false) := by have := aud_on (fr := false) hlt HB.out (by simp); exact this.symm.trans HAP.out
            go_wp2_with fail
            go_roundw
            case rel => exact ⟨p + n + 3, true, hfit, by go_num, rfl, HB1.out.2, HO.out⟩
            case measure => simp [intOf]; omega
    · have HO : Hid (aud f N 0 false = -1) := HAP.out.symm.trans (aud_end hlt)
      go_wp2_with fail
      go_ret
      exact ⟨ret_int HO.out.symm, HBW.out⟩

end Go.Proofs.Ytdglefedbkgghaa
