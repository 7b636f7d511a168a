/-
  What the program's BlockAt answers, at every place and of every length up to 2^20.
-/
import Derived.Test.YtmongbpdbcbhlaaInn
import Derived.Lib.SliceRun
import Derived.ChangeKeysEq
namespace Go.Proofs.Ytmongbpdbcbhlaa
open Go.RowKit
set_option linter.unusedVariables false

theorem undGuards : Try.prog.underlying 81 = some (.array 3 3) := by kernel_rfl
theorem cellsInt : Try.prog.cellsOf 3 = 1 := by kernel_rfl
theorem run_eq3 (a b c a' b' c' : Int) (w : World) :
    (Op.equalIn 10000 81 (.agg #[.int .i64 a, .int .i64 b, .int .i64 c]) (.agg #[.int .i64 a', .int .i64 b', .int .i64 c'])).run Try.prog w = .ok (a == a' && (b == b' && c == c')) w := by
  obtain ⟨i, hi, _⟩ := Option.map_eq_some_iff.1 infoInt
  rw [run_equalIn_array (P := Try.prog) w 9999 _ _ undGuards hi, cellsInt]
  show (Op.eqItems 9999 3 1 _ _ [0, 1, 2]).run _ _ = _
  simp [Op.eqItems, go_sem, Try.underlying3]
  by_cases h1 : a = a' <;> by_cases h2 : b = b' <;> by_cases h3 : c = c' <;> simp [h1, h2, h3]

theorem run_eq3_is (a b c a' b' c' : Int) (h1 : a = a') (h2 : b = b') (h3 : c = c') (w : World) :
    (Op.equalIn 10000 81 (.agg #[.int .i64 a, .int .i64 b, .int .i64 c]) (.agg #[.int .i64 a', .int .i64 b', .int .i64 c'])).run Try.prog w = .ok true w := by
  rw [run_eq3, h1, h2, h3]; simp
theorem run_eq3_not (a b c a' b' c' : Int) (h : a = a' → b = b' → c = c' → False) (w : World) :
    (Op.equalIn 10000 81 (.agg #[.int .i64 a, .int .i64 b, .int .i64 c]) (.agg #[.int .i64 a', .int .i64 b', .int .i64 c'])).run Try.prog w = .ok false w := by
  rw [run_eq3]
  congr 1
  by_cases h1 : a = a'
  · by_cases h2 : b = b'
    · by_cases h3 : c = c'
      · exact absurd (h h1 h2 h3) id
      · simp [h3]
    · simp [h2]
  · simp [h1]

/-- Three cells of a block that a call lets be. -/
theorem keep3 {W w3 : World} {F : Nat} {x y z : Value} (hb : Below W.heap.size W w3) (h : W.cell? ⟨F, 0, none⟩ = some x ∧ W.cell? ⟨F, 1, none⟩ = some y ∧ W.cell? ⟨F, 2, none⟩ = some z) :
    w3.cell? ⟨F, 0, none⟩ = some x ∧ w3.cell? ⟨F, 1, none⟩ = some y ∧ w3.cell? ⟨F, 2, none⟩ = some z := by
  have hl := World.block_lt_of_cell? W _ h.1
  exact ⟨(hb.cell (p := ⟨F, 0, none⟩) hl).trans h.1, (hb.cell (p := ⟨F, 1, none⟩) hl).trans h.2.1, (hb.cell (p := ⟨F, 2, none⟩) hl).trans h.2.2⟩
theorem below_undrew {W w3 : World} (hb : Below W.drew.heap.size W.drew w3) : Below W.heap.size W w3 := ⟨hb.os, hb.tape, hb.output, hb.size, hb.block⟩

theorem held_of (b o n : Nat) (hn : n ≤ 4000) (w : World) (h1 : 1 ≤ n) :
    Calls Try.prog 59 #[.slice (some ⟨b, o, none⟩) (n + 3) (n + 3)] w fun e w' => e = .returned (.slice (some ⟨b, o + 2, none⟩) n n) ∧ w' = w :=
  held_any b o (n + 3) (n + 3) (by omega) (by omega) (Nat.le_refl _) w
theorem allPois_yes (b o M cap : Nat) (g : Nat → Int) (q : Nat) (qi : Int) (hqi : qi = q) (w : World) (hc : ∀ j, j < M → w.cell? ⟨b, o + j, none⟩ = some (.int .i64 (g j))) (hM : M ≤ 4000) (hq : q ≤ 2097152) (hy : ∀ j, j < M → g j = pois (q + j : Nat)) :
    Calls Try.prog 58 #[.slice (some ⟨b, o, none⟩) M cap, .int .i64 qi] w fun e w' => e = .returned (.bool true) ∧ w' = w := by
  subst hqi
  refine (allPois_any b o M cap g q w hc (by omega) hq).mono ?_
  rintro e w' ⟨r, rfl, hr, rfl⟩
  exact ⟨by rw [hr.is.2 hy], rfl⟩
theorem allPois_no (b o M cap : Nat) (g : Nat → Int) (q : Nat) (qi : Int) (hqi : qi = q) (w : World) (hc : ∀ j, j < M → w.cell? ⟨b, o + j, none⟩ = some (.int .i64 (g j))) (hM : M ≤ 4000) (hq : q ≤ 2097152) (hy : ¬ ∀ j, j < M → g j = pois (q + j : Nat)) :
    Calls Try.prog 58 #[.slice (some ⟨b, o, none⟩) M cap, .int .i64 qi] w fun e w' => e = .returned (.bool false) ∧ w' = w := by
  subst hqi
  refine (allPois_any b o M cap g q w hc (by omega) hq).mono ?_
  rintro e w' ⟨r, rfl, hr, rfl⟩
  cases r with
  | true => exact absurd (hr.is.1 rfl) hy
  | false => exact ⟨rfl, rfl⟩

set_option maxHeartbeats 4000000 in
set_option maxRecDepth 100000 in
theorem implAt_any (ao : Option Addr) (N cap : Nat) (f : Nat → Int) (p : Nat) (w : World) (hr : Rd w ao N f) (hN : N ≤ 1048576) (hcap : N ≤ cap) :
    Calls Try.prog 24 #[.agg #[.slice ao N cap], .int .i64 p] w fun e w' => e = .returned (bv (blkO f N p)) ∧ Below w.heap.size w w' := by
  have HR : Hid (Rd w ao N f) := hr
  by_cases hv : p ≤ 4000 ∧ ∃ n : Nat, f (p + 1) = n ∧ 1 ≤ n ∧ n ≤ 4000 ∧ p + n + 3 ≤ N
  · obtain ⟨hp4, n, hn, hn1, hn4, hfit⟩ := hv
    obtain ⟨b, o, rfl, hc⟩ := hr (by omega)
    have hb : b < w.heap.size := World.block_lt_of_cell? w _ (hc 0 (by omega))
    have HB : Hid (b < w.heap.size) := hb
    have HC : Hid (∀ j, j < N → w.cell? ⟨b, o + j, none⟩ = some (.int .i64 (f j))) := hc
    have HN : Hid (f (p + 1) = n) := hn
    clear hc hr hn hb HR
    have hnil := fun (w : World) (a : Option Addr) (n c : Nat) => Go.Lib.run_eql_slice_nil (P := Try.prog) w 24 3 a n c 0 0 undInts
    go_enter Try.func24, Try.ntmps24
    go_wp2_with fail
    have d0 := (Below.refl w.heap.size w).alloc (Nat.le_refl _) (.cells #[.slice (some ⟨b, o, none⟩) N cap] 26)
    refine (words_some b o N cap f p n _ (fun j hj => (d0.cell (p := ⟨b, o + j, none⟩) HB.out).trans (HC.out j hj)) (by omega) hcap hp4 HN.out hn1 hn4 hfit).mono ?_
    rintro e w1 ⟨rfl, hb1⟩
    have hbl : Below w.heap.size w w1 := d0.trans (hb1.mono (by simp))
    have HBL : Hid (Below w.heap.size w w1) := hbl
    have HC1 : Hid (∀ j, j < N → w1.cell? ⟨b, o + j, none⟩ = some (.int .i64 (f j))) := fun j hj => (hbl.cell (p := ⟨b, o + j, none⟩) HB.out).trans (HC.out j hj)
    have c0 := HC1.out p (by omega)
    have c1 := HC1.out (p + 1) (by omega)
    rw [HN.out] at c1
    have c2 := HC1.out (p + 2 + n) (by omega)
    have e1 : o + (p + 1) = o + p + 1 := by omega
    have e2 : o + (p + 2 + n) = o + p + (n + 2) := by omega
    rw [e1] at c1
    rw [e2] at c2
    have hb1 : b < w1.heap.size := Nat.lt_of_lt_of_le HB.out hbl.size
    have hne : ¬ b = w1.heap.size := by omega
    clear hbl d0 e1 e2 HC
    have hk3 : 0 < n + 3 := by omega
    have hk1 : 1 < n + 3 := by omega
    have hk2 : n + 2 < n + 3 := by omega
    have W1 : IntKind.i64.wrap ((n : Int) + 3 - 1) = (n : Int) + 2 := by rw [IntKind.wrap_i64]; omega
    have W2 : ((n : Int) + 2).toNat = n + 2 := by omega
    go_wp2_with fail
    go_region
    have hq : ((w1.alloc (.cells #[.int .i64 (f p), .int .i64 n, .int .i64 (f (p + 2 + n))] 81)).drew).cell? ⟨w1.heap.size, 0, none⟩ = some (.int .i64 (f p)) ∧ ((w1.alloc (.cells #[.int .i64 (f p), .int .i64 n, .int .i64 (f (p + 2 + n))] 81)).drew).cell? ⟨w1.heap.size, 1, none⟩ = some (.int .i64 n) ∧ ((w1.alloc (.cells #[.int .i64 (f p), .int .i64 n, .int .i64 (f (p + 2 + n))] 81)).drew).cell? ⟨w1.heap.size, 2, none⟩ = some (.int .i64 (f (p + 2 + n))) :=
      ⟨World.cell?_alloc_new w1 _ _ 0, World.cell?_alloc_new w1 _ _ 1, World.cell?_alloc_new w1 _ _ 2⟩
    have d2 : Below w1.heap.size w1 ((w1.alloc (.cells #[.int .i64 (f p), .int .i64 n, .int .i64 (f (p + 2 + n))] 81)).drew) := ((Below.refl _ _).alloc (Nat.le_refl _) _).drew
    have HBL2 : Hid (Below w.heap.size w ((w1.alloc (.cells #[.int .i64 (f p), .int .i64 n, .int .i64 (f (p + 2 + n))] 81)).drew)) := HBL.out.trans (d2.mono HBL.out.size)
    have HC2 : Hid (∀ j, j < N → ((w1.alloc (.cells #[.int .i64 (f p), .int .i64 n, .int .i64 (f (p + 2 + n))] 81)).drew).cell? ⟨b, o + j, none⟩ = some (.int .i64 (f j))) := fun j hj => (d2.cell (p := ⟨b, o + j, none⟩) hb1).trans (HC1.out j hj)
    generalize ((w1.alloc (.cells #[.int .i64 (f p), .int .i64 n, .int .i64 (f (p + 2 + n))] 81)).drew) = W at hq HBL2 HC2 ⊢
    have HQ : Hid _ := hq
    generalize w1.heap.size = F at hq HQ ⊢
    obtain ⟨q0, q1, q2⟩ := hq
    clear d2 c0 c1 c2 hb1 hne HC1 HBL hk3 hk1 hk2 W1 W2 hnil
    by_cases hA : f p = gw p n true 1000 ∧ f (p + 2 + n) = gw p n true 1001
    · have HO : Hid (blkO f N p = some (n, true)) := blkO_some ⟨by omega, hn1, by omega, hfit, HN.out, hA.1, hA.2, fun h => by cases h⟩
      rw [hA.1] at q0
      rw [hA.2] at q2
      rw [hA.1, hA.2] at HQ
      clear hA
      have heq := run_eq3_is (gw p n true 1000) n (gw p n true 1001) (gw p n true 1000) n (gw p n true 1001) rfl rfl rfl
      go_wp2_with fail
      haveI := inn_ne W
      have k0 := Inn.keep q0
      have k1 := Inn.keep q1
      have k2 := Inn.keep q2
      refine wp_region_inn (by kernel_rfl) (by kernel_rfl) ?_
      repeat (go_big_quiet_step (first
        | (go_at_call 57; exact calls_inn (guardsOf_any _ _ _ _))))
      refine wpQuiet_nil ?_
      rintro w3 ⟨x3, h3⟩
      have hb3 : Below W.heap.size W w3 := by rw [h3]; exact x3.bel
      clear h3 x3
      have HB3 : Hid (Below W.heap.size W w3) := hb3
      obtain ⟨r0, r1, r2⟩ := keep3 hb3 HQ.out
      clear k0 k1 k2 hb3
      go_wp2_with fail
      exact bodyPost_ret (v := .tuple #[.int .i64 n, .bool true, .bool true]) (by simp [results, Try.results24, go_sem]) rfl ⟨ret_bv (a := some (n, true)) HO.out.symm, HBL2.out.trans (HB3.out.mono HBL2.out.size)⟩
    · have h4000 : n ≤ 4000 := by omega
      have hp2 : ((p : Int) + 2) = (p + 2 : Nat) := by omega
      have hp3 : p + 2 ≤ 2097152 := by omega
      have W1 : IntKind.i64.wrap ((p : Int) + 2) = (p : Int) + 2 := by rw [IntKind.wrap_i64]; omega
      have hbW : b < W.heap.size := World.block_lt_of_cell? W _ (HC2.out p (by omega))
      have HP : Hid (∀ w', Below W.heap.size W w' → ∀ j, j < n → w'.cell? ⟨b, o + p + 2 + j, none⟩ = some (.int .i64 (f (p + 2 + j)))) := fun w' hb' j hj => by
        have e : o + p + 2 + j = o + (p + 2 + j) := by omega
        rw [e]
        exact (hb'.cell (p := ⟨b, o + (p + 2 + j), none⟩) hbW).trans (HC2.out (p + 2 + j) (by omega))
      by_cases hx : f p = gw p n true 1000
      · have hy : ¬ f (p + 2 + n) = gw p n true 1001 := fun h => hA ⟨hx, h⟩
        have hne : ¬ gw p n true 1000 = gw p n false 1000 := gw_use p n (by omega) (by omega) (by omega) (by omega) 1000
        have HO : Hid (blkO f N p = none) := blkO_none fun n' u' hB => by
          have e : n' = n := by have := hB.len; rw [HN.out] at this; omega
          subst e
          cases u' with
          | true => exact hy hB.behind
          | false => exact hne (hx.symm.trans hB.ahead)
        rw [hx] at q0 HQ
        have g1 : (f (p + 2 + n) == gw p n true 1001) = false := by simpa using hy
        have g2 : (gw p n true 1000 == gw p n false 1000) = false := by simpa using hne
        clear hA hx
        generalize f (p + 2 + n) = y at *
        have heq6 := run_eq3_not (gw p n true 1000) n y (gw p n true 1000) n (gw p n true 1001) (fun _ _ h => hy h)
        have heq8 := run_eq3_not (gw p n true 1000) n y (gw p n false 1000) n (gw p n false 1001) (fun h _ _ => hne h)
        haveI := inn_ne W
        have k0 := Inn.keep q0
        have k1 := Inn.keep q1
        have k2 := Inn.keep q2
        go_wp2_with fail
        refine wp_region_inn (by kernel_rfl) (by kernel_rfl) ?_
        repeat (go_big_quiet_step (first
          | (go_at_call 57; exact calls_inn (guardsOf_any _ _ _ _))))
        refine wpQuiet_nil ?_
        rintro w3 ⟨x3, h3⟩
        have hb3 : Below W.heap.size W w3 := by rw [h3]; exact x3.bel
        clear h3 x3
        have HB3 : Hid (Below W.heap.size W w3) := hb3
        obtain ⟨r0, r1, r2⟩ := keep3 hb3 HQ.out
        clear k0 k1 k2 hb3
        go_wp2_with fail
        haveI := inn_ne w3
        have k0 := Inn.keep r0
        have k1 := Inn.keep r1
        have k2 := Inn.keep r2
        refine wp_region_inn (by kernel_rfl) (by kernel_rfl) ?_
        repeat (go_big_quiet_step (first
          | (go_at_call 57; exact calls_inn (guardsOf_any _ _ _ _))
          | (go_at_call 59; exact calls_inn_same (held_of b (o + p) n h4000 _ hn1))
          | (go_at_call 58; exact calls_inn_same (HALL.out _ (below_join HB3.out (Inn.bel _))))))
        refine wpQuiet_nil ?_
        rintro w5 ⟨x5, h5⟩
        have hb5 : Below w3.heap.size w3 w5 := by rw [h5]; exact x5.bel
        clear h5 x5
        have HB5 : Hid (Below W.heap.size W w5) := below_join HB3.out hb5
        clear k0 k1 k2 hb5
        go_wp2_with fail
        exact bodyPost_ret (v := .tuple #[.int .i64 0, .bool false, .bool false]) (by simp [results, Try.results24, go_sem]) rfl ⟨ret_bv (a := none) HO.out.symm, HBL2.out.trans (HB5.out.mono HBL2.out.size)⟩
      · have g1 : (f p == gw p n true 1000) = false := by simpa using hx
        by_cases hf : f p = gw p n false 1000
        · by_cases hy : f (p + 2 + n) = gw p n false 1001
          · have HY : Hid ((∀ j, j < n → f (p + 2 + j) = pois (p + 2 + j : Nat)) → blkO f N p = some (n, false)) := fun h => blkO_some ⟨by omega, hn1, by omega, hfit, HN.out, hf, hy, fun _ => h⟩
            have HX : Hid (¬ (∀ j, j < n → f (p + 2 + j) = pois (p + 2 + j : Nat)) → blkO f N p = none) := fun h => blkO_none fun n' u' hB => by
              have e : n' = n := by have := hB.len; rw [HN.out] at this; omega
              subst e
              cases u' with
              | true => exact hx hB.ahead
              | false => exact h (hB.free rfl)
            rw [hf] at q0 HQ g1
            rw [hy] at q2 HQ
            clear hA hx hy hf
            by_cases hP : ∀ j, j < n → f (p + 2 + j) = pois (p + 2 + j : Nat)
            · have HO : Hid (blkO f N p = some (n, false)) := HY.out hP
              have HALL : Hid (∀ w', Below W.heap.size W w' → Calls Try.prog 58 #[.slice (some ⟨b, o + p + 2, none⟩) n n, .int .i64 ((p : Int) + 2)] w' fun e w'' => e = .returned (.bool true) ∧ w'' = w') := fun w' hb' => allPois_yes b (o + p + 2) n n (fun j => f (p + 2 + j)) (p + 2) _ hp2 w' (HP.out w' hb') h4000 hp3 hP
              clear hP hp2
              have heq6 := run_eq3_not (gw p n false 1000) n (gw p n false 1001) (gw p n true 1000) n (gw p n true 1001) (fun h _ _ => by simp [h] at g1)
              have heq8 := run_eq3_is (gw p n false 1000) n (gw p n false 1001) (gw p n false 1000) n (gw p n false 1001) rfl rfl rfl
              haveI := inn_ne W
              have k0 := Inn.keep q0
              have k1 := Inn.keep q1
              have k2 := Inn.keep q2
              go_wp2_with fail
              refine wp_region_inn (by kernel_rfl) (by kernel_rfl) ?_
              repeat (go_big_quiet_step (first
                | (go_at_call 57; exact calls_inn (guardsOf_any _ _ _ _))))
              refine wpQuiet_nil ?_
              rintro w3 ⟨x3, h3⟩
              have hb3 : Below W.heap.size W w3 := by rw [h3]; exact x3.bel
              clear h3 x3
              have HB3 : Hid (Below W.heap.size W w3) := hb3
              obtain ⟨r0, r1, r2⟩ := keep3 hb3 HQ.out
              clear k0 k1 k2 hb3
              go_wp2_with fail
              haveI := inn_ne w3
              have k0 := Inn.keep r0
              have k1 := Inn.keep r1
              have k2 := Inn.keep r2
              refine wp_region_inn (by kernel_rfl) (by kernel_rfl) ?_
              repeat (go_big_quiet_step (first
                | (go_at_call 57; exact calls_inn (guardsOf_any _ _ _ _))
                | (go_at_call 59; exact calls_inn_same (held_of b (o + p) n h4000 _ hn1))
                | (go_at_call 58; exact calls_inn_same (HALL.out _ (below_join HB3.out (Inn.bel _))))))
              refine wpQuiet_nil ?_
              rintro w5 ⟨x5, h5⟩
              have hb5 : Below w3.heap.size w3 w5 := by rw [h5]; exact x5.bel
              clear h5 x5
              have HB5 : Hid (Below W.heap.size W w5) := below_join HB3.out hb5
              clear k0 k1 k2 hb5
              go_wp2_with fail
              exact bodyPost_ret (v := .tuple #[.int .i64 n, .bool false, .bool true]) (by simp [results, Try.results24, go_sem]) rfl ⟨ret_bv (a := some (n, false)) HO.out.symm, HBL2.out.trans (HB5.out.mono HBL2.out.size)⟩
            · have HO : Hid (blkO f N p = none) := HX.out hP
              have HALL : Hid (∀ w', Below W.heap.size W w' → Calls Try.prog 58 #[.slice (some ⟨b, o + p + 2, none⟩) n n, .int .i64 ((p : Int) + 2)] w' fun e w'' => e = .returned (.bool false) ∧ w'' = w') := fun w' hb' => allPois_no b (o + p + 2) n n (fun j => f (p + 2 + j)) (p + 2) _ hp2 w' (HP.out w' hb') h4000 hp3 hP
              clear hP hp2
              have heq6 := run_eq3_not (gw p n false 1000) n (gw p n false 1001) (gw p n true 1000) n (gw p n true 1001) (fun h _ _ => by simp [h] at g1)
              have heq8 := run_eq3_is (gw p n false 1000) n (gw p n false 1001) (gw p n false 1000) n (gw p n false 1001) rfl rfl rfl
              haveI := inn_ne W
              have k0 := Inn.keep q0
              have k1 := Inn.keep q1
              have k2 := Inn.keep q2
              go_wp2_with fail
              refine wp_region_inn (by kernel_rfl) (by kernel_rfl) ?_
              repeat (go_big_quiet_step (first
                | (go_at_call 57; exact calls_inn (guardsOf_any _ _ _ _))))
              refine wpQuiet_nil ?_
              rintro w3 ⟨x3, h3⟩
              have hb3 : Below W.heap.size W w3 := by rw [h3]; exact x3.bel
              clear h3 x3
              have HB3 : Hid (Below W.heap.size W w3) := hb3
              obtain ⟨r0, r1, r2⟩ := keep3 hb3 HQ.out
              clear k0 k1 k2 hb3
              go_wp2_with fail
              haveI := inn_ne w3
              have k0 := Inn.keep r0
              have k1 := Inn.keep r1
              have k2 := Inn.keep r2
              refine wp_region_inn (by kernel_rfl) (by kernel_rfl) ?_
              repeat (go_big_quiet_step (first
                | (go_at_call 57; exact calls_inn (guardsOf_any _ _ _ _))
                | (go_at_call 59; exact calls_inn_same (held_of b (o + p) n h4000 _ hn1))
                | (go_at_call 58; exact calls_inn_same (HALL.out _ (below_join HB3.out (Inn.bel _))))))
              refine wpQuiet_nil ?_
              rintro w5 ⟨x5, h5⟩
              have hb5 : Below w3.heap.size w3 w5 := by rw [h5]; exact x5.bel
              clear h5 x5
              have HB5 : Hid (Below W.heap.size W w5) := below_join HB3.out hb5
              clear k0 k1 k2 hb5
              go_wp2_with fail
              exact bodyPost_ret (v := .tuple #[.int .i64 0, .bool false, .bool false]) (by simp [results, Try.results24, go_sem]) rfl ⟨ret_bv (a := none) HO.out.symm, HBL2.out.trans (HB5.out.mono HBL2.out.size)⟩
          · have HO : Hid (blkO f N p = none) := blkO_none fun n' u' hB => by
              have e : n' = n := by have := hB.len; rw [HN.out] at this; omega
              subst e
              cases u' with
              | true => exact hx hB.ahead
              | false => exact hy hB.behind
            have g2 : (f (p + 2 + n) == gw p n false 1001) = false := by simpa using hy
            rw [hf] at q0 HQ g1
            clear hA hx hf
            generalize f (p + 2 + n) = y at *
            have heq6 := run_eq3_not (gw p n false 1000) n y (gw p n true 1000) n (gw p n true 1001) (fun h _ _ => by simp [h] at g1)
            have heq8 := run_eq3_not (gw p n false 1000) n y (gw p n false 1000) n (gw p n false 1001) (fun _ _ h => hy h)
            haveI := inn_ne W
            have k0 := Inn.keep q0
            have k1 := Inn.keep q1
            have k2 := Inn.keep q2
            go_wp2_with fail
            refine wp_region_inn (by kernel_rfl) (by kernel_rfl) ?_
            repeat (go_big_quiet_step (first
              | (go_at_call 57; exact calls_inn (guardsOf_any _ _ _ _))))
            refine wpQuiet_nil ?_
            rintro w3 ⟨x3, h3⟩
            have hb3 : Below W.heap.size W w3 := by rw [h3]; exact x3.bel
            clear h3 x3
            have HB3 : Hid (Below W.heap.size W w3) := hb3
            obtain ⟨r0, r1, r2⟩ := keep3 hb3 HQ.out
            clear k0 k1 k2 hb3
            go_wp2_with fail
            haveI := inn_ne w3
            have k0 := Inn.keep r0
            have k1 := Inn.keep r1
            have k2 := Inn.keep r2
            refine wp_region_inn (by kernel_rfl) (by kernel_rfl) ?_
            repeat (go_big_quiet_step (first
              | (go_at_call 57; exact calls_inn (guardsOf_any _ _ _ _))
              | (go_at_call 59; exact calls_inn_same (held_of b (o + p) n h4000 _ hn1))
              | (go_at_call 58; exact calls_inn_same (HALL.out _ (below_join HB3.out (Inn.bel _))))))
            refine wpQuiet_nil ?_
            rintro w5 ⟨x5, h5⟩
            have hb5 : Below w3.heap.size w3 w5 := by rw [h5]; exact x5.bel
            clear h5 x5
            have HB5 : Hid (Below W.heap.size W w5) := below_join HB3.out hb5
            clear k0 k1 k2 hb5
            go_wp2_with fail
            exact bodyPost_ret (v := .tuple #[.int .i64 0, .bool false, .bool false]) (by simp [results, Try.results24, go_sem]) rfl ⟨ret_bv (a := none) HO.out.symm, HBL2.out.trans (HB5.out.mono HBL2.out.size)⟩
        · have HO : Hid (blkO f N p = none) := blkO_none fun n' u' hB => by
            have e : n' = n := by have := hB.len; rw [HN.out] at this; omega
            subst e
            cases u' with
            | true => exact hx hB.ahead
            | false => exact hf hB.ahead
          have g2 : (f p == gw p n false 1000) = false := by simpa using hf
          clear hA
          generalize f p = x at *
          generalize f (p + 2 + n) = y at *
          have heq6 := run_eq3_not x n y (gw p n true 1000) n (gw p n true 1001) (fun h _ _ => hx h)
          have heq8 := run_eq3_not x n y (gw p n false 1000) n (gw p n false 1001) (fun h _ _ => hf h)
          haveI := inn_ne W
          have k0 := Inn.keep q0
          have k1 := Inn.keep q1
          have k2 := Inn.keep q2
          go_wp2_with fail
          refine wp_region_inn (by kernel_rfl) (by kernel_rfl) ?_
          repeat (go_big_quiet_step (first
            | (go_at_call 57; exact calls_inn (guardsOf_any _ _ _ _))))
          refine wpQuiet_nil ?_
          rintro w3 ⟨x3, h3⟩
          have hb3 : Below W.heap.size W w3 := by rw [h3]; exact x3.bel
          clear h3 x3
          have HB3 : Hid (Below W.heap.size W w3) := hb3
          obtain ⟨r0, r1, r2⟩ := keep3 hb3 HQ.out
          clear k0 k1 k2 hb3
          go_wp2_with fail
          haveI := inn_ne w3
          have k0 := Inn.keep r0
          have k1 := Inn.keep r1
          have k2 := Inn.keep r2
          refine wp_region_inn (by kernel_rfl) (by kernel_rfl) ?_
          repeat (go_big_quiet_step (first
            | (go_at_call 57; exact calls_inn (guardsOf_any _ _ _ _))
            | (go_at_call 59; exact calls_inn_same (held_of b (o + p) n h4000 _ hn1))
            | (go_at_call 58; exact calls_inn_same (HALL.out _ (below_join HB3.out (Inn.bel _))))))
          refine wpQuiet_nil ?_
          rintro w5 ⟨x5, h5⟩
          have hb5 : Below w3.heap.size w3 w5 := by rw [h5]; exact x5.bel
          clear h5 x5
          have HB5 : Hid (Below W.heap.size W w5) := below_join HB3.out hb5
          clear k0 k1 k2 hb5
          go_wp2_with fail
          exact bodyPost_ret (v := .tuple #[.int .i64 0, .bool false, .bool false]) (by simp [results, Try.results24, go_sem]) rfl ⟨ret_bv (a := none) HO.out.symm, HBL2.out.trans (HB5.out.mono HBL2.out.size)⟩
  · have HO : Hid (blkO f N p = none) := blkO_none fun n' u' hB => hv ⟨hB.hp, n', hB.len, hB.h1, hB.hn, hB.fit⟩
    have hw : ∀ q n : Nat, (p : Int) = q → q ≤ 4000 → f (q + 1) = n → 1 ≤ n → n ≤ 4000 → ¬ q + n + 3 ≤ N := fun q n h0 h4 h1 h2 h5 h3 => by
      have e : p = q := by omega
      subst e
      exact hv ⟨h4, n, h1, h2, h5, h3⟩
    have HW : Hid (∀ q n : Nat, (p : Int) = q → q ≤ 4000 → f (q + 1) = n → 1 ≤ n → n ≤ 4000 → ¬ q + n + 3 ≤ N) := hw
    clear hv hw hr
    have hnil := fun (w : World) (a : Option Addr) (n c : Nat) => Go.Lib.run_eql_slice_nil (P := Try.prog) w 24 3 a n c 0 0 undInts
    go_enter Try.func24, Try.ntmps24
    go_wp2_with fail
    have d0 := (Below.refl w.heap.size w).alloc (Nat.le_refl _) (.cells #[.slice ao N cap] 26)
    refine (words_none ao N cap f p _ (HR.out.below d0) (by omega) HW.out).mono ?_
    rintro e w1 ⟨rfl, hb1⟩
    have HBL : Hid (Below w.heap.size w w1) := d0.trans (hb1.mono (by simp))
    clear hb1 d0
    go_wp2_with fail
    exact bodyPost_ret (v := .tuple #[.int .i64 0, .bool false, .bool false]) (by simp [results, Try.results24, go_sem]) rfl ⟨ret_bv (a := none) HO.out.symm, HBL.out⟩
end Go.Proofs.Ytmongbpdbcbhlaa
