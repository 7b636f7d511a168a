/-
  Links that are right: the specification's and the program's.
-/
import Derived.Test.YtjibnlpjpbileaaGreatDoorAcA
namespace Go.Proofs.YtjibnlpjpbileaaGreatDoor
open Go.RowKit Atom
set_option linter.unusedVariables false

theorem in_bel (x a b : Int) (w : World) : Calls Tryz.prog 60 #[.int .i64 x, .int .i64 a, .int .i64 b] w fun e w' => e = .returned (.bool (Atom.inB x a b)) ∧ Below w.heap.size w w' :=
  (Atom.in_any x a b w).mono fun e w' ⟨h1, h2⟩ => ⟨h1, by rw [h2]; exact Below.refl _ _⟩
def pidB (x : Int) : Bool := decide (1 ≤ x ∧ x ≤ 99999)
def lnkOne (f : Nat → Int) (pid : Int) (j : Nat) : Bool := decide (1 ≤ f j ∧ f j ≤ 99999 ∧ f j ≠ pid ∧ (0 < j → f (j - 1) < f j))
def lnkB (f : Nat → Int) (pid : Int) (k : Nat) : Bool := (List.range k).all (lnkOne f pid)
theorem lnkB_succ (f : Nat → Int) (pid : Int) (k : Nat) : lnkB f pid (k + 1) = (lnkB f pid k && lnkOne f pid k) := by
  unfold lnkB
  rw [List.range_succ, List.all_append]; simp
theorem lnkB_no {f : Nat → Int} {pid : Int} {k N : Nat} (h : k < N) (hn : lnkOne f pid k = false) : lnkB f pid N = false := by
  unfold lnkB
  rw [List.all_eq_false]
  exact ⟨k, by simp; exact h, by rw [hn]; simp⟩

theorem isPid_any (x : Int) (w : World) : Calls Tryz.prog 103 #[.int .i64 x] w fun e w' => e = .returned (.bool (pidB x)) ∧ w' = w := by
  by_cases h1 : 1 ≤ x
  · by_cases h2 : x ≤ 99999
    · have q : pidB x = true := decide_eq_true ⟨h1, h2⟩
      have HQ : Hid (pidB x = true) := q
      clear q
      go_enter Tryz.func103, Tryz.ntmps103
      go_wp2
      go_ret
      exact ⟨ret_bool HQ.out.symm, rfl⟩
    · have HQ : Hid (pidB x = false) := decide_eq_false (by omega)
      go_enter Tryz.func103, Tryz.ntmps103
      go_wp2
      go_ret
      exact ⟨ret_bool HQ.out.symm, rfl⟩
  · have HQ : Hid (pidB x = false) := decide_eq_false (by omega)
    go_enter Tryz.func103, Tryz.ntmps103
    go_wp2
    go_ret
    exact ⟨ret_bool HQ.out.symm, rfl⟩

set_option maxHeartbeats 1000000 in
set_option maxRecDepth 100000 in
theorem l9Links_any (ao : Option Addr) (N cap : Nat) (f : Nat → Int) (pid : Int) (w : World) (hr : RdI w ao N f) (hN : N ≤ 1048576) :
    Calls Tryz.prog 98 #[.slice ao N cap, .int .i64 pid] w fun e w' => e = .returned (.bool (lnkB f pid N && decide (N ≤ 50))) ∧ Below w.heap.size w w' := by
  have HR : Hid (RdI w ao N f) := hr
  clear hr
  go_enter Tryz.func98, Tryz.ntmps98
  go_wp2_with fail
  go_loopw [5] (fun i wr => ∃ k : Nat, k ≤ N ∧ i = .int .i64 k ∧ Below w.heap.size w wr ∧ lnkB f pid k = true) (fun i _ => N - (intOf i).toNat)
  case atStart => exact ⟨0, Nat.zero_le _, rfl, Below.refl _ _, rfl⟩
  case round =>
    obtain ⟨k, hk, rfl, hb, ha⟩ := hrel
    have HB : Hid (Below w.heap.size w wr) := hb
    have HA : Hid (lnkB f pid k = true) := ha
    clear ha
    by_cases hlt : k < N
    · obtain ⟨b, o, rfl, hc⟩ := HR.out.below hb (by omega)
      have ck := hc k hlt
      have HS : Hid (lnkB f pid (k + 1) = lnkOne f pid k) := by
        show _ = _
        rw [lnkB_succ, HA.out]; rfl
      have HNO : Hid (lnkOne f pid k = false → (lnkB f pid N && decide (N ≤ 50)) = false) := fun h => by rw [lnkB_no hlt h]; rfl
      rcases Nat.eq_zero_or_pos k with h0 | h0
      · have e0 : decide ((k : Int) > 0) = false := decide_eq_false (by omega)
        have e0' : decide ((0 : Int) < (k : Int)) = false := decide_eq_false (by omega)
        have e0'' : decide (0 < k) = false := decide_eq_false (by omega)
        have H0 : Hid (k = 0) := h0
        have HL : Hid (lnkOne f pid k = decide (1 ≤ f k ∧ f k ≤ 99999 ∧ f k ≠ pid)) := by
          show _ = _
          unfold lnkOne
          apply decide_eq_decide.2
          constructor
          · rintro ⟨a, b, c, _⟩; exact ⟨a, b, c⟩
          · rintro ⟨a, b, c⟩; exact ⟨a, b, c, fun h => absurd h (by omega)⟩
        clear h0
        generalize f k = x at ck HL
        have d0 := Inn.keep ck
        clear hc hb ck
        have HBI : Hid (∀ w7, (∃ x : Inn wr, w7 = x.val) → Below w.heap.size w w7) := fun w7 ⟨x7, h7⟩ => by
          have : Below wr.heap.size wr w7 := by rw [h7]; exact x7.bel
          exact HB.out.trans (this.mono HB.out.size)
        haveI := inn_ne wr
        by_cases hx : 1 ≤ x ∧ x ≤ 99999
        · have hi : Atom.inB x 1 99999 = true := decide_eq_true hx
          by_cases he : x = pid
          · have q1 : (x == pid) = true := by simp [he]
            have HF : Hid ((lnkB f pid N && decide (N ≤ 50)) = false) := HNO.out (by rw [HL.out]; exact decide_eq_false (by omega))
            clear he
            go_wp2_with fail
            refine wp_region_inn ?_ ?_ ?_
            · kernel_rfl
            · kernel_rfl
            repeat (go_big_quiet_step (first
              | (go_at_call 60; exact calls_inn (in_bel _ _ _ _))))
            refine wpQuiet_nil ?_
            intro w7 h7
            have HB7 : Hid (Below w.heap.size w w7) := HBI.out w7 h7
            clear h7 d0
            go_wp2_with fail
            go_ret
            exact ⟨ret_bool HF.out.symm, HB7.out⟩
          · have q1 : (x == pid) = false := by simp [he]
            have HF : Hid (lnkB f pid (k + 1) = true) := by show _ = _; rw [HS.out, HL.out]; exact decide_eq_true ⟨hx.1, hx.2, he⟩
            go_wp2_with fail
            refine wp_region_inn ?_ ?_ ?_
            · kernel_rfl
            · kernel_rfl
            repeat (go_big_quiet_step (first
              | (go_at_call 60; exact calls_inn (in_bel _ _ _ _))))
            refine wpQuiet_nil ?_
            intro w7 h7
            have HB7 : Hid (Below w.heap.size w w7) := HBI.out w7 h7
            clear h7 d0
            go_wp2_with fail
            go_roundw
            case rel => exact ⟨k + 1, by omega, by go_num, HB7.out, HF.out⟩
            case measure => simp [intOf]; omega
        · have hi : Atom.inB x 1 99999 = false := decide_eq_false hx
          have HF : Hid ((lnkB f pid N && decide (N ≤ 50)) = false) := HNO.out (by rw [HL.out]; exact decide_eq_false (by omega))
          go_wp2_with fail
          refine wp_region_inn ?_ ?_ ?_
          · kernel_rfl
          · kernel_rfl
          repeat (go_big_quiet_step (first
              | (go_at_call 60; exact calls_inn (in_bel _ _ _ _))))
          refine wpQuiet_nil ?_
          intro w7 h7
          have HB7 : Hid (Below w.heap.size w w7) := HBI.out w7 h7
          clear h7 d0
          go_wp2_with fail
          go_ret
          exact ⟨ret_bool HF.out.symm, HB7.out⟩
      · obtain ⟨m, rfl⟩ : ∃ m, k = m + 1 := ⟨k - 1, by omega⟩
        clear h0
        have cm := hc m (by omega)
        have HL : Hid (lnkOne f pid (m + 1) = decide (1 ≤ f (m + 1) ∧ f (m + 1) ≤ 99999 ∧ f (m + 1) ≠ pid ∧ f m < f (m + 1))) := by
          show _ = _
          unfold lnkOne
          apply decide_eq_decide.2
          rw [Nat.add_sub_cancel]
          constructor
          · rintro ⟨a, b, c, d⟩; exact ⟨a, b, c, d (by omega)⟩
          · rintro ⟨a, b, c, d⟩; exact ⟨a, b, c, fun _ => d⟩
        generalize f (m + 1) = x at ck HL
        generalize f m = y at cm HL
        have d0 := Inn.keep ck
        have d1 := Inn.keep cm
        clear hc hb ck cm
        have e1 : IntKind.i64.wrap (((m + 1 : Nat) : Int) - 1) = (m : Int) := by rw [IntKind.wrap_i64]; omega
        have e2 : decide (((m + 1 : Nat) : Int) > 0) = true := decide_eq_true (by omega)
        have HBI : Hid (∀ w7, (∃ x : Inn wr, w7 = x.val) → Below w.heap.size w w7) := fun w7 ⟨x7, h7⟩ => by
          have : Below wr.heap.size wr w7 := by rw [h7]; exact x7.bel
          exact HB.out.trans (this.mono HB.out.size)
        haveI := inn_ne wr
        by_cases hx : 1 ≤ x ∧ x ≤ 99999
        · have hi : Atom.inB x 1 99999 = true := decide_eq_true hx
          by_cases he : x = pid
          · have q1 : (x == pid) = true := by simp [he]
            have HF : Hid ((lnkB f pid N && decide (N ≤ 50)) = false) := HNO.out (by rw [HL.out]; exact decide_eq_false (by omega))
            clear he
            go_wp2_with fail
            refine wp_region_inn ?_ ?_ ?_
            · kernel_rfl
            · kernel_rfl
            repeat (go_big_quiet_step (first
              | (go_at_call 60; exact calls_inn (in_bel _ _ _ _))))
            refine wpQuiet_nil ?_
            intro w7 h7
            have HB7 : Hid (Below w.heap.size w w7) := HBI.out w7 h7
            clear h7 d0 d1
            go_wp2_with fail
            go_ret
            exact ⟨ret_bool HF.out.symm, HB7.out⟩
          · have q1 : (x == pid) = false := by simp [he]
            by_cases hg : y < x
            · have q2 : decide (y ≥ x) = false := decide_eq_false (by omega)
              have q3 : decide (x ≤ y) = false := decide_eq_false (by omega)
              have HF : Hid (lnkB f pid (m + 1 + 1) = true) := by show _ = _; rw [HS.out, HL.out]; exact decide_eq_true ⟨hx.1, hx.2, he, hg⟩
              go_wp2_with fail
              refine wp_region_inn ?_ ?_ ?_
              · kernel_rfl
              · kernel_rfl
              repeat (go_big_quiet_step (first
              | (go_at_call 60; exact calls_inn (in_bel _ _ _ _))))
              refine wpQuiet_nil ?_
              intro w7 h7
              have HB7 : Hid (Below w.heap.size w w7) := HBI.out w7 h7
              clear h7 d0 d1
              go_wp2_with fail
              go_roundw
              case rel => exact ⟨m + 1 + 1, by omega, by go_num, HB7.out, HF.out⟩
              case measure => simp [intOf]; omega
            · have q2 : decide (y ≥ x) = true := decide_eq_true (by omega)
              have q3 : decide (x ≤ y) = true := decide_eq_true (by omega)
              have HF : Hid ((lnkB f pid N && decide (N ≤ 50)) = false) := HNO.out (by rw [HL.out]; exact decide_eq_false (by omega))
              go_wp2_with fail
              refine wp_region_inn ?_ ?_ ?_
              · kernel_rfl
              · kernel_rfl
              repeat (go_big_quiet_step (first
              | (go_at_call 60; exact calls_inn (in_bel _ _ _ _))))
              refine wpQuiet_nil ?_
              intro w7 h7
              have HB7 : Hid (Below w.heap.size w w7) := HBI.out w7 h7
              clear h7 d0 d1
              go_wp2_with fail
              go_ret
              exact ⟨ret_bool HF.out.symm, HB7.out⟩
        · have hi : Atom.inB x 1 99999 = false := decide_eq_false hx
          have HF : Hid ((lnkB f pid N && decide (N ≤ 50)) = false) := HNO.out (by rw [HL.out]; exact decide_eq_false (by omega))
          go_wp2_with fail
          refine wp_region_inn ?_ ?_ ?_
          · kernel_rfl
          · kernel_rfl
          repeat (go_big_quiet_step (first
              | (go_at_call 60; exact calls_inn (in_bel _ _ _ _))))
          refine wpQuiet_nil ?_
          intro w7 h7
          have HB7 : Hid (Below w.heap.size w w7) := HBI.out w7 h7
          clear h7 d0 d1
          go_wp2_with fail
          go_ret
          exact ⟨ret_bool HF.out.symm, HB7.out⟩
    · have hkN : k = N := by omega
      subst hkN
      clear hb
      have hq : ((k : Int) ≤ 50) = (k ≤ 50) := by simp; omega
      have HF : Hid ((lnkB f pid k && decide (k ≤ 50)) = decide ((k : Int) ≤ 50)) := by
        show _ = _
        rw [HA.out, Bool.true_and]
        exact decide_eq_decide.2 (by omega)
      clear hq
      go_wp2_with fail
      go_ret
      exact ⟨ret_bool HF.out.symm, HB.out⟩

set_option maxHeartbeats 1000000 in
set_option maxRecDepth 100000 in
theorem linksOk_any (ao : Option Addr) (N cap : Nat) (f : Nat → Int) (pid : Int) (w : World) (hr : RdI w ao N f) (hN : N ≤ 1048576) :
    Calls Tryz.prog 170 #[.slice ao N cap, .int .i64 pid] w fun e w' => e = .returned (.bool (lnkB f pid N && decide (N ≤ 50))) ∧ Below w.heap.size w w' := by
  have HR : Hid (RdI w ao N f) := hr
  clear hr
  by_cases hbig : 50 < (N : Int)
  · have HF : Hid ((lnkB f pid N && decide (N ≤ 50)) = false) := by show _ = _; rw [decide_eq_false (by omega)]; simp
    go_enter Tryz.func170, Tryz.ntmps170
    go_wp2_with fail
    go_ret
    exact ⟨ret_bool HF.out.symm, Below.refl _ _⟩
  · go_enter Tryz.func170, Tryz.ntmps170
    go_wp2_with fail
    go_loopw [5, 13] (fun v i wr => ∃ (k : Nat) (y : Int), k ≤ N ∧ i = .int .i64 k ∧ v = .int .i64 y ∧ Below w.heap.size w wr ∧ lnkB f pid k = true ∧ (k = 0 → y = 0) ∧ (0 < k → y = f (k - 1))) (fun _ i _ => N - (intOf i).toNat)
    case atStart => exact ⟨0, 0, Nat.zero_le _, rfl, rfl, Below.refl _ _, rfl, fun _ => rfl, fun h => absurd h (by omega)⟩
    case round =>
      obtain ⟨k, y, hk, rfl, rfl, hb, ha, hy0, hy1⟩ := hrel
      have HB : Hid (Below w.heap.size w wr) := hb
      have HA : Hid (lnkB f pid k = true) := ha
      clear ha
      by_cases hlt : k < N
      · obtain ⟨b, o, rfl, hc⟩ := HR.out.below hb (by omega)
        have ck := hc k hlt
        have HS : Hid (lnkB f pid (k + 1) = lnkOne f pid k) := by
          show _ = _
          rw [lnkB_succ, HA.out]; rfl
        have HNO : Hid (lnkOne f pid k = false → (lnkB f pid N && decide (N ≤ 50)) = false) := fun h => by rw [lnkB_no hlt h]; rfl
        have HL : Hid (lnkOne f pid k = decide (y < f k ∧ 1 ≤ f k ∧ f k ≤ 99999 ∧ f k ≠ pid)) := by
          show _ = _
          unfold lnkOne
          apply decide_eq_decide.2
          constructor
          · rintro ⟨a, b, c, d⟩
            refine ⟨?_, a, b, c⟩
            by_cases h0 : k = 0
            · have := hy0 h0; omega
            · have := hy1 (by omega); have := d (by omega); omega
          · rintro ⟨d, a, b, c⟩; exact ⟨a, b, c, fun h => by have := hy1 h; omega⟩
        have HLAST : Hid (f k = f (k + 1 - 1)) := rfl
        generalize f k = x at ck HL HLAST
        clear hc hb hy0 hy1
        by_cases h1 : y < x
        · by_cases h2 : 1 ≤ x ∧ x ≤ 99999
          · have hp : pidB x = true := decide_eq_true h2
            by_cases h3 : x = pid
            · have q1 : (x == pid) = true := by simp [h3]
              have HF : Hid ((lnkB f pid N && decide (N ≤ 50)) = false) := HNO.out (by rw [HL.out]; exact decide_eq_false (by omega))
              clear h3 h2
              go_wp2_with (go_at_call 103; refine (isPid_any _ _).mono ?_; rintro e w' ⟨rfl, rfl⟩)
              go_ret
              exact ⟨ret_bool HF.out.symm, HB.out⟩
            · have q1 : (x == pid) = false := by simp [h3]
              have HF : Hid (lnkB f pid (k + 1) = true) := by show _ = _; rw [HS.out, HL.out]; exact decide_eq_true ⟨h1, h2.1, h2.2, h3⟩
              clear h3 h2
              go_wp2_with (go_at_call 103; refine (isPid_any _ _).mono ?_; rintro e w' ⟨rfl, hw'⟩; obtain rfl := hw'.symm)
              go_roundw
              case rel => exact ⟨k + 1, x, by omega, by go_num, rfl, HB.out, HF.out, fun h => absurd h (by omega), fun _ => HLAST.out⟩
              case measure => simp [intOf]; omega
          · have hp : pidB x = false := decide_eq_false h2
            have HF : Hid ((lnkB f pid N && decide (N ≤ 50)) = false) := HNO.out (by rw [HL.out]; exact decide_eq_false (by omega))
            clear h2
            go_wp2_with (go_at_call 103; refine (isPid_any _ _).mono ?_; rintro e w' ⟨rfl, rfl⟩)
            go_ret
            exact ⟨ret_bool HF.out.symm, HB.out⟩
        · have HF : Hid ((lnkB f pid N && decide (N ≤ 50)) = false) := HNO.out (by rw [HL.out]; exact decide_eq_false (by omega))
          go_wp2_with fail
          go_ret
          exact ⟨ret_bool HF.out.symm, HB.out⟩
      · have HF : Hid ((lnkB f pid N && decide (N ≤ 50)) = true) := by
          show _ = _
          have e : k = N := by omega
          rw [← e, HA.out]; exact decide_eq_true (by omega)
        clear hb hy0 hy1
        go_wp2_with fail
        go_ret
        exact ⟨ret_bool HF.out.symm, HB.out⟩
end Go.Proofs.YtjibnlpjpbileaaGreatDoor
