/-
  TimersOk, the specification's and the program's.
-/
import Derived.Test.YtimnnedmpmlmdaaTrF
namespace Go.Proofs.Ytimnnedmpmlmdaa.Tr
open Go.RowKit Atom
set_option linter.unusedVariables false

set_option maxHeartbeats 1000000 in
set_option maxRecDepth 100000 in
theorem implTimersOk_any (l : List Sd) (ao : Option Addr) (cap : Nat) (w : World) (hr : RowS w ao l) (hl : l.length ≤ maxLen) :
    Calls Try.prog 10 #[.slice ao l.length cap] w fun e w' => e = .returned (.bool (tmsB l)) ∧ Below w.heap.size w w' := by
  have HR : Hid (RowS w ao l) := hr
  have HO : Hid (Calls Try.prog 24 #[.slice ao l.length cap] w fun e w' => e = .returned (.bool (ordB l)) ∧ Below w.heap.size w w') := inOrder_any l ao cap w hr hl
  clear hr
  unfold maxLen at hl
  by_cases h50 : l.length ≤ 50
  rotate_left
  · have HF : Hid (tmsB l = false) := tmsB_no1 h50
    go_enter Try.func10, Try.ntmps10
    go_wp2_with fail
    go_ret
    exact ⟨ret_bool HF.out.symm, Below.refl _ _⟩
  generalize ho : ordB l = o at HO
  have HOO : Hid (ordB l = o) := ho
  clear ho
  cases o
  · have HF : Hid (tmsB l = false) := tmsB_no2 HOO.out
    go_enter Try.func10, Try.ntmps10
    go_wp2_with (go_at_call 24; refine HO.out.mono ?_; rintro e w1 ⟨rfl, hb1⟩; have HB1 : Hid (Below w.heap.size w w1) := hb1; clear hb1)
    go_ret
    exact ⟨ret_bool HF.out.symm, HB1.out⟩
  have HIS : Hid (tmsB l = allB l) := by
    show _ = _
    unfold tmsB
    rw [HOO.out, decide_eq_true h50]; rfl
  go_enter Try.func10, Try.ntmps10
  go_wp2_with (go_at_call 24; refine HO.out.mono ?_; rintro e w1 ⟨rfl, hb1⟩; have HB1 : Hid (Below w.heap.size w w1) := hb1; clear hb1)
  go_loopw [15] (fun i wr => ∃ k : Nat, k ≤ l.length ∧ i = .int .i64 k ∧ Below w.heap.size w wr ∧ ∀ j (hj : j < l.length), j < k → tmB l[j] = true) (fun i _ => l.length - (intOf i).toNat)
  case atStart => exact ⟨0, Nat.zero_le _, rfl, HB1.out, fun j _ hj => absurd hj (Nat.not_lt_zero _)⟩
  case round =>
    obtain ⟨k, hk, rfl, hb, hn⟩ := hrel
    have HB : Hid (Below w.heap.size w wr) := hb
    have HN : Hid (∀ j (hj : j < l.length), j < k → tmB l[j] = true) := hn
    clear hn hb
    by_cases hlt : k < l.length
    · rcases HR.out.below HB.out with h0 | ⟨b, o, rfl, hrow⟩
      · rw [h0] at hlt; simp at hlt
      have hbx := hrow k hlt
      have HS : Hid (tmB l[k] = true → ∀ j (hj : j < l.length), j < k + 1 → tmB l[j] = true) := fun hq j hj hjk => by
        rcases Nat.lt_or_ge j k with h | h
        · exact HN.out j hj h
        · have : j = k := by omega
          subst this; exact hq
      have HNO : Hid (tmB l[k] = false → tmsB l = false) := fun h => tmsB_no3 (allB_no hlt h)
      obtain ⟨tk, tn, ts, tao, tlen, tcap, e0, e1, e2, e3, hv⟩ := hbx.t.cells
      have d0 := hbx.c0
      have d1 := hbx.c1
      have HC : Hid (∀ wc, Below wr.heap.size wr wc → Calls Try.prog 25 #[sdV l[k].kind l[k].pid tk tn ts tao tlen tcap] wc fun e w' => e = .returned (.bool (tmB l[k])) ∧ Below wc.heap.size wc w') := fun wc hb => isRight_any l[k] _ _ _ _ _ _ wc (Below.repV hb hv)
      generalize tmB l[k] = q at HC HS HNO
      generalize l[k].kind = kk at d0 HC
      generalize l[k].pid = pp at d1 HC
      clear hrow hbx hv
      have HBX : Hid (Below wr.heap.size wr (wr.alloc (.cells #[.int .i64 kk, .int .i64 pp, .int .i64 tk, .int .i64 tn, .string ts, .slice tao tlen tcap] 32)) ∧ Below w.heap.size w (wr.alloc (.cells #[.int .i64 kk, .int .i64 pp, .int .i64 tk, .int .i64 tn, .string ts, .slice tao tlen tcap] 32))) := ⟨(Below.refl _ _).alloc (Nat.le_refl _) _, HB.out.alloc HB.out.size _⟩
      cases q
      · have HF : Hid (tmsB l = false) := HNO.out rfl
        go_wp2_with (go_at_call 25; refine (HC.out _ HBX.out.1).mono ?_; rintro e w3 ⟨rfl, hb3⟩; have HB3 : Hid (Below w.heap.size w w3) := HBX.out.2.trans (hb3.mono HBX.out.2.size); clear hb3)
        go_ret
        exact ⟨ret_bool HF.out.symm, HB3.out⟩
      · have HF : Hid (∀ j (hj : j < l.length), j < k + 1 → tmB l[j] = true) := HS.out rfl
        go_wp2_with (go_at_call 25; refine (HC.out _ HBX.out.1).mono ?_; rintro e w3 ⟨rfl, hb3⟩; have HB3 : Hid (Below w.heap.size w w3) := HBX.out.2.trans (hb3.mono HBX.out.2.size); clear hb3)
        go_roundw
        case rel => exact ⟨k + 1, by omega, by go_num, HB3.out, HF.out⟩
        case measure => simp [intOf]; omega
    · have HF : Hid (tmsB l = true) := by
        show _ = _
        rw [HIS.out]
        exact allB_yes fun j hj => HN.out j hj (by omega)
      go_wp2_with fail
      go_ret
      exact ⟨ret_bool HF.out.symm, HB.out⟩

set_option maxHeartbeats 1000000 in
set_option maxRecDepth 100000 in
theorem specTimersOk_any (l : List Sd) (ao : Option Addr) (cap : Nat) (w : World) (hr : RowS w ao l) (hl : l.length ≤ maxLen) :
    Calls Try.prog 11 #[.slice ao l.length cap] w fun e w' => e = .returned (.bool (tmsB l)) ∧ Below w.heap.size w w' := by
  have HR : Hid (RowS w ao l) := hr
  clear hr
  unfold maxLen at hl
  go_enter Try.func11, Try.ntmps11
  go_wp2_with fail
  go_loopw [3] (fun i wr => ∃ k : Nat, k ≤ l.length ∧ i = .int .i64 k ∧ Below w.heap.size w wr ∧ ∀ j (hj : j < l.length), j < k → tmB l[j] = true ∧ (l[j - 1]'(Nat.lt_of_le_of_lt (Nat.sub_le _ _) hj)).kind ≤ l[j].kind) (fun i _ => l.length - (intOf i).toNat)
  case atStart => exact ⟨0, Nat.zero_le _, rfl, Below.refl _ _, fun j _ hj => absurd hj (Nat.not_lt_zero _)⟩
  case round =>
    obtain ⟨k, hk, rfl, hb, hn⟩ := hrel
    have HB : Hid (Below w.heap.size w wr) := hb
    have HN : Hid (∀ j (hj : j < l.length), j < k → tmB l[j] = true ∧ (l[j - 1]'(Nat.lt_of_le_of_lt (Nat.sub_le _ _) hj)).kind ≤ l[j].kind) := hn
    clear hn hb
    by_cases hlt : k < l.length
    · rcases HR.out.below HB.out with h0 | ⟨b, o, rfl, hrow⟩
      · rw [h0] at hlt; simp at hlt
      have hbx := hrow k hlt
      have HS : Hid (tmB l[k] = true → (l[k - 1]'(Nat.lt_of_le_of_lt (Nat.sub_le _ _) hlt)).kind ≤ l[k].kind → ∀ j (hj : j < l.length), j < k + 1 → tmB l[j] = true ∧ (l[j - 1]'(Nat.lt_of_le_of_lt (Nat.sub_le _ _) hj)).kind ≤ l[j].kind) := fun hq hq2 j hj hjk => by
        rcases Nat.lt_or_ge j k with h | h
        · exact HN.out j hj h
        · have : j = k := by omega
          subst this; exact ⟨hq, hq2⟩
      have HNO : Hid (tmB l[k] = false → tmsB l = false) := fun h => tmsB_no3 (allB_no hlt h)
      have HNP : Hid (l[k].kind < (l[k - 1]'(Nat.lt_of_le_of_lt (Nat.sub_le _ _) hlt)).kind → tmsB l = false) := fun h => tmsB_no2 (ordB_no hlt h)
      obtain ⟨tk, tn, ts, tao, tlen, tcap, e0, e1, e2, e3, hv⟩ := hbx.t.cells
      have c0 := Inn.keep hbx.c0
      have c1 := Inn.keep hbx.c1
      have c2 := Inn.keep e0
      have c3 := Inn.keep e1
      have c4 := Inn.keep e2
      have c5 := Inn.keep e3
      have HC : Hid (∀ x : Inn wr, Calls Try.prog 26 #[sdV l[k].kind l[k].pid tk tn ts tao tlen tcap] x.val fun e w' => e = .returned (.bool (tmB l[k])) ∧ Below x.val.heap.size x.val w') := fun x => l14Timer_any l[k] _ _ _ _ _ _ x.val (Below.repV x.bel hv)
      have HBI : Hid (∀ w7, (∃ x : Inn wr, w7 = x.val) → Below w.heap.size w w7) := fun w7 ⟨x7, h7⟩ => by
        have : Below wr.heap.size wr w7 := by rw [h7]; exact x7.bel
        exact HB.out.trans (this.mono HB.out.size)
      haveI := inn_ne wr
      generalize tmB l[k] = q at HC HS HNO
      rcases Nat.eq_zero_or_pos k with hk0 | hk0
      · have HSZ : Hid (q = true → ∀ j (hj : j < l.length), j < k + 1 → tmB l[j] = true ∧ (l[j - 1]'(Nat.lt_of_le_of_lt (Nat.sub_le _ _) hj)).kind ≤ l[j].kind) := fun h => HS.out h (by
          subst hk0; exact Int.le_refl _)
        clear HS HNP
        have e9 : decide ((k : Int) > 0) = false := decide_eq_false (by omega)
        have e9' : decide ((0 : Int) < (k : Int)) = false := decide_eq_false (by omega)
        have e9'' : decide (0 < k) = false := decide_eq_false (by omega)
        clear hk0
        generalize l[k].kind = kk at *
        generalize l[k].pid = pp at *
        clear hrow hbx hv e0 e1 e2 e3
        cases q
        · have HF : Hid (tmsB l = false) := HNO.out rfl
          go_wp2_with fail
          refine wp_region_inn ?_ ?_ ?_
          · kernel_rfl
          · kernel_rfl
          repeat (go_big_quiet_step (first
            | (go_at_call 26; exact calls_inn (HC.out _))))
          refine wpQuiet_nil ?_
          intro w7 h7
          have HB7 : Hid (Below w.heap.size w w7) := HBI.out w7 h7
          clear h7 c0 c1 c2 c3 c4 c5
          go_wp2_with fail
          go_ret
          exact ⟨ret_bool HF.out.symm, HB7.out⟩
        · have HF : Hid (∀ j (hj : j < l.length), j < k + 1 → tmB l[j] = true ∧ (l[j - 1]'(Nat.lt_of_le_of_lt (Nat.sub_le _ _) hj)).kind ≤ l[j].kind) := HSZ.out rfl
          go_wp2_with fail
          refine wp_region_inn ?_ ?_ ?_
          · kernel_rfl
          · kernel_rfl
          repeat (go_big_quiet_step (first
            | (go_at_call 26; exact calls_inn (HC.out _))))
          refine wpQuiet_nil ?_
          intro w7 h7
          have HB7 : Hid (Below w.heap.size w w7) := HBI.out w7 h7
          clear h7 c0 c1 c2 c3 c4 c5
          go_wp2_with fail
          go_roundw
          case rel => exact ⟨k + 1, by omega, by go_num, HB7.out, HF.out⟩
          case measure => simp [intOf]; omega
      · obtain ⟨m, rfl⟩ : ∃ m, k = m + 1 := ⟨k - 1, by omega⟩
        have d0 := Inn.keep (hrow m (by omega)).c0
        have em : IntKind.i64.wrap (((m + 1 : Nat) : Int) - 1) = (m : Int) := by rw [IntKind.wrap_i64]; omega
        have HS' : Hid (q = true → l[m].kind ≤ l[m + 1].kind → ∀ j (hj : j < l.length), j < m + 1 + 1 → tmB l[j] = true ∧ (l[j - 1]'(Nat.lt_of_le_of_lt (Nat.sub_le _ _) hj)).kind ≤ l[j].kind) := HS.out
        have HNP' : Hid (l[m + 1].kind < l[m].kind → tmsB l = false) := HNP.out
        clear HS HNP hk0
        generalize l[m + 1].kind = kk at *
        generalize l[m + 1].pid = pp at *
        generalize l[m].kind = yy at *
        clear hrow hbx hv e0 e1 e2 e3
        cases q
        · have HF : Hid (tmsB l = false) := HNO.out rfl
          go_wp2_with fail
          refine wp_region_inn ?_ ?_ ?_
          · kernel_rfl
          · kernel_rfl
          repeat (go_big_quiet_step (first
            | (go_at_call 26; exact calls_inn (HC.out _))))
          refine wpQuiet_nil ?_
          intro w7 h7
          have HB7 : Hid (Below w.heap.size w w7) := HBI.out w7 h7
          clear h7 c0 c1 c2 c3 c4 c5 d0
          go_wp2_with fail
          go_ret
          exact ⟨ret_bool HF.out.symm, HB7.out⟩
        · by_cases hxy : kk < yy
          · have HF : Hid (tmsB l = false) := HNP'.out hxy
            go_wp2_with fail
            refine wp_region_inn ?_ ?_ ?_
            · kernel_rfl
            · kernel_rfl
            repeat (go_big_quiet_step (first
              | (go_at_call 26; exact calls_inn (HC.out _))))
            refine wpQuiet_nil ?_
            intro w7 h7
            have HB7 : Hid (Below w.heap.size w w7) := HBI.out w7 h7
            clear h7 c0 c1 c2 c3 c4 c5 d0
            go_wp2_with fail
            go_ret
            exact ⟨ret_bool HF.out.symm, HB7.out⟩
          · have HF : Hid (∀ j (hj : j < l.length), j < m + 1 + 1 → tmB l[j] = true ∧ (l[j - 1]'(Nat.lt_of_le_of_lt (Nat.sub_le _ _) hj)).kind ≤ l[j].kind) := HS'.out rfl (by omega)
            go_wp2_with fail
            refine wp_region_inn ?_ ?_ ?_
            · kernel_rfl
            · kernel_rfl
            repeat (go_big_quiet_step (first
              | (go_at_call 26; exact calls_inn (HC.out _))))
            refine wpQuiet_nil ?_
            intro w7 h7
            have HB7 : Hid (Below w.heap.size w w7) := HBI.out w7 h7
            clear h7 c0 c1 c2 c3 c4 c5 d0
            go_wp2_with fail
            go_roundw
            case rel => exact ⟨m + 1 + 1, by omega, by go_num, HB7.out, HF.out⟩
            case measure => simp [intOf]; omega
    · have HF : Hid (tmsB l = decide ((l.length : Int) ≤ 50)) := by
        show _ = _
        unfold tmsB
        rw [ordB_yes fun j hj => (HN.out j hj (by omega)).2, allB_yes fun j hj => (HN.out j hj (by omega)).1, Bool.and_true, Bool.and_true]
        exact decide_eq_decide.2 (by omega)
      go_wp2_with fail
      go_ret
      exact ⟨ret_bool HF.out.symm, HB.out⟩
end Go.Proofs.Ytimnnedmpmlmdaa.Tr
