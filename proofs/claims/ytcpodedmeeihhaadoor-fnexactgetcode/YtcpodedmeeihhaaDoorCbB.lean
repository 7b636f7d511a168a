/-
  Code as bytes: what the specification's PutCode answers.
-/
import Derived.Test.YtcpodedmeeihhaaDoorCbA
import Derived.Deep.RegionHeld3
namespace Go.Proofs.YtcpodedmeeihhaaDoor.Cb
open Go.RowKit
open Go.Proofs.YtcpodedmeeihhaaDoor.By
open Go.Proofs.YtcpodedmeeihhaaDoor.Code (I codeB specOk RowI SmI Bx6)
set_option linter.unusedVariables false

/-- What a round has in hand: the row K at g, and the instruction in the box X. -/
structure Rs (w wX : World) (X : Nat) (x : I) (g c : Nat) (K : List UInt8) : Prop where
  own : OwB wX w.heap.size (.slice (some ⟨g, 0, none⟩) K.length c) K
  below : Below w.heap.size w wX
  box : Bx6 wX X 0 x
  ne : g ≠ X
theorem Rs.drew {w wX : World} {X : Nat} {x : I} {g c : Nat} {K : List UInt8} (h : Rs w wX X x g c K) : Rs w wX.drew X x g c K := ⟨h.own, h.below.drew, ⟨h.box.c0, h.box.c1, h.box.c2, h.box.c3, h.box.c4, h.box.c5⟩, h.ne⟩
theorem Rs.put {w wX : World} {X : Nat} {x : I} {g c : Nat} {K K' : List UInt8} {n : Int} (h : Rs w wX X x g c K) (hK : K ++ numB n = K') (hl : K.length ≤ 1048590) :
    Calls Tryd.prog 20 #[.slice (some ⟨g, 0, none⟩) K.length c, .int .i64 n] wX fun e w' => ∃ g' c', e = .returned (.slice (some ⟨g', 0, none⟩) K'.length c') ∧ Rs w w' X x g' c' K' := by
  refine (specPut_any g 0 c K n wX h.own.at.1 hl).mono ?_
  rintro e w' ⟨g', c', rfl, ho, hb⟩
  rw [hK] at ho ⊢
  exact ⟨g', c', rfl, owB_base ho h.below.size, h.below.trans (hb.mono h.below.size), h.box.below hb, by have h1 := ho.at.2.1; have h2 := h.box.lt; omega⟩

set_option maxHeartbeats 4000000 in
set_option maxRecDepth 100000 in
theorem specPutC_any (l : List I) (ao : Option Addr) (cap : Nat) (w : World) (hr : RowI w ao l) (hs : SmI maxLen l) (hl : l.length ≤ 9223372036854775807) :
    Calls Tryd.prog 6 #[.slice ao l.length cap] w fun e w' => ∃ g c, e = .returned (.slice (some ⟨g, 0, none⟩) (putC l).length c) ∧ OwB w' w.heap.size (.slice (some ⟨g, 0, none⟩) (putC l).length c) (putC l) ∧ Below w.heap.size w w' := by
  obtain ⟨i0, hi, hz0, hz1, hz2⟩ := parts8 infoU8
  have HI : Hid (Tryd.prog.info? 5 = some i0 ∧ i0.zero = some (.int .u8 0) ∧ i0.size = 1 ∧ i0.bytes = 1) := ⟨hi, hz0, hz1, hz2⟩
  clear hi hz0 hz1 hz2
  have HR : Hid (RowI w ao l) := hr
  have HOK : Hid (Calls Tryd.prog 19 #[.slice ao l.length cap] w fun e w' => e = .returned (.bool (codeB l)) ∧ Below w.heap.size w w') := Code.specCode_any l ao cap w hr hs hl
  clear hr hs
  cases hcb : codeB l with
  | false =>
    rw [hcb] at HOK
    rw [putC_no hcb]
    clear hcb
    go_enter Tryd.func6, Tryd.ntmps6
    go_wp2_with fail
    refine HOK.out.mono ?_
    rintro e w1 ⟨rfl, hb1⟩
    have HB1 : Hid (Below w.heap.size w w1) := hb1
    clear hb1
    go_wp2_with fail
    go_ret
    exact ⟨w1.heap.size, 0, rfl, World.ownsRow_made w1 #[] 0 HB1.out.size (Nat.zero_le _) rfl, HB1.out.alloc HB1.out.size _⟩
  | true =>
    rw [hcb] at HOK
    rw [putC_yes hcb]
    have hlen := codeB_len hcb
    have HSM : Hid (∀ x ∈ l, x.s.size ≤ 12) := code_small hcb
    obtain ⟨N, hN⟩ : ∃ N, codeBy l = N := ⟨_, rfl⟩
    have hNl : N.length ≤ 7204 := by rw [← hN]; exact codeBy_len hcb
    have HN : Hid (codeBy l = N) := hN
    rw [hN]
    obtain ⟨hl1, hl2⟩ := hlen
    clear hcb hN
    go_enter Tryd.func6, Tryd.ntmps6
    go_wp2_with fail
    refine HOK.out.mono ?_
    rintro e w1 ⟨rfl, hb1⟩
    have HB1 : Hid (Below w.heap.size w (w1.alloc (.cells #[] 5))) := hb1.alloc hb1.size _
    clear hb1 HOK
    go_wp2_with fail
    refine (specPut_any w1.heap.size 0 0 [] ((l.length : Nat) : Int) (w1.alloc (.cells #[] 5)) (fun j hj => by simp at hj) (by simp)).mono ?_
    rintro e w2 ⟨g2, c2, rfl, ho2, hb2⟩
    rw [List.nil_append] at ho2 ⊢
    obtain ⟨K0, hK0⟩ : ∃ K0, numB ((l.length : Nat) : Int) = K0 := ⟨_, rfl⟩
    rw [hK0] at ho2 ⊢
    have HK0 : Hid (K0 ++ insBs (l.drop 0) = N) := by show _ = _; rw [← hK0]; exact HN.out
    have HO2 : Hid (OwB w2 w.heap.size (.slice (some ⟨g2, 0, none⟩) K0.length c2) K0) := owB_base ho2 HB1.out.size
    have HB2 : Hid (Below w.heap.size w w2) := HB1.out.trans (hb2.mono HB1.out.size)
    clear ho2 hb2 hK0 HB1
    go_wp2_with fail
    go_loopw [3, 4, 5] (fun v iv _ wr => ∃ (k : Nat) (K : List UInt8) (g c : Nat), k ≤ l.length ∧ iv = .int .i64 k ∧ v = .slice (some ⟨g, 0, none⟩) K.length c ∧ K ++ insBs (l.drop k) = N ∧ OwB wr w.heap.size (.slice (some ⟨g, 0, none⟩) K.length c) K ∧ Below w.heap.size w wr) (fun _ iv _ _ => l.length - (intOf iv).toNat)
    case atStart => exact ⟨0, K0, g2, c2, Nat.zero_le _, rfl, rfl, HK0.out, HO2.out, HB2.out⟩
    case round =>
      obtain ⟨k, K, g, c, hk, rfl, rfl, hK, how, hb⟩ := hrel
      have HK : Hid (K ++ insBs (l.drop k) = N) := hK
      have HOW : Hid (OwB wr w.heap.size (.slice (some ⟨g, 0, none⟩) K.length c) K) := how
      have HB : Hid (Below w.heap.size w wr) := hb
      clear hK how hb
      by_cases hlt : k < l.length
      · rcases HR.out with h | ⟨b, o, rfl, hrow⟩
        · rw [h] at hlt; simp at hlt
        have hbx := (hrow k hlt).below HB.out
        have hsx := HSM.out l[k] (List.getElem_mem hlt)
        have hKn : K ++ (insB l[k] ++ insBs (l.drop (k + 1))) = N := by rw [← ins_next hlt]; exact HK.out
        rw [ins_parts] at hKn
        generalize l[k] = x at hbx hsx hKn
        obtain ⟨op, xa, xb, xc, xn, xs⟩ := x
        simp only at hsx hKn
        obtain ⟨K1, hK1⟩ : ∃ K1, K ++ numB op = K1 := ⟨_, rfl⟩
        rw [hK1] at hKn
        obtain ⟨K2, hK2⟩ : ∃ K2, K1 ++ numB xa = K2 := ⟨_, rfl⟩
        rw [hK2] at hKn
        obtain ⟨K3, hK3⟩ : ∃ K3, K2 ++ numB xb = K3 := ⟨_, rfl⟩
        rw [hK3] at hKn
        obtain ⟨K4, hK4⟩ : ∃ K4, K3 ++ numB xc = K4 := ⟨_, rfl⟩
        rw [hK4] at hKn
        obtain ⟨K5, hK5⟩ : ∃ K5, K4 ++ numB xn = K5 := ⟨_, rfl⟩
        rw [hK5] at hKn
        obtain ⟨K6, hK6⟩ : ∃ K6, K5 ++ numB ((xs.size : Nat) : Int) = K6 := ⟨_, rfl⟩
        rw [hK6] at hKn
        have hle : ∀ (A B : List UInt8) (n : Int), A ++ numB n = B → A.length ≤ B.length := fun A B n h => by rw [← h, List.length_append]; omega
        have h6N : K6.length ≤ 7204 := by
          have := congrArg List.length hKn
          rw [List.length_append, List.length_append] at this; omega
        have L5 : K5.length ≤ 1048590 := by have := hle _ _ _ hK6; omega
        have L4 : K4.length ≤ 1048590 := by have := hle _ _ _ hK5; omega
        have L3 : K3.length ≤ 1048590 := by have := hle _ _ _ hK4; omega
        have L2 : K2.length ≤ 1048590 := by have := hle _ _ _ hK3; omega
        have L1 : K1.length ≤ 1048590 := by have := hle _ _ _ hK2; omega
        have L0 : K.length ≤ 1048590 := by have := hle _ _ _ hK1; omega
        have HKN : Hid ((K6 ++ sB xs) ++ insBs (l.drop (k + 1)) = N) := hKn
        have HC : Hid (_ ∧ _ ∧ _ ∧ _ ∧ _ ∧ _) := ⟨hK1, hK2, hK3, hK4, hK5, hK6⟩
        have HL : Hid (_ ∧ _ ∧ _ ∧ _ ∧ _ ∧ _) := ⟨L0, L1, L2, L3, L4, L5⟩
        have HL6 : Hid (K6.length ≤ 7204) := h6N
        have C3 : Hid (K6.length + xs.size ≤ maxLen) := by show _ ≤ _; unfold maxLen; omega
        have C4 : Hid (K6.length + xs.size ≤ 140737488355328) := by show _ ≤ _; omega
        have d0 := hbx.c0
        have d1 := hbx.c1
        have d2 := hbx.c2
        have d3 := hbx.c3
        have d4 := hbx.c4
        have d5 := hbx.c5
        have hs0 : Rs w (wr.alloc (.cells #[.int .i64 op, .int .i64 xa, .int .i64 xb, .int .i64 xc, .int .i64 xn, .string xs] 42)) wr.heap.size ⟨op, xa, xb, xc, xn, xs⟩ g c K := by
          have hq := fun i => World.cell?_alloc_new wr #[.int .i64 op, .int .i64 xa, .int .i64 xb, .int .i64 xc, .int .i64 xn, .string xs] 42 i
          exact ⟨HOW.out.below ((Below.refl _ _).alloc (Nat.le_refl _) _), HB.out.alloc HB.out.size _, ⟨hq 0, hq 1, hq 2, hq 3, hq 4, hq 5⟩, by have := HOW.out.at.2.2.1; omega⟩
        have HS0 : Hid (Rs w (wr.alloc (.cells #[.int .i64 op, .int .i64 xa, .int .i64 xb, .int .i64 xc, .int .i64 xn, .string xs] 42)) wr.heap.size ⟨op, xa, xb, xc, xn, xs⟩ g c K) := hs0
        clear hK1 hK2 hK3 hK4 hK5 hK6 hKn hle h6N L0 L1 L2 L3 L4 L5 hbx hrow hs0
        go_wp2_with fail
        have hs0 := HS0.out
        generalize (wr.alloc (.cells #[.int .i64 op, .int .i64 xa, .int .i64 xb, .int .i64 xc, .int .i64 xn, .string xs] 42)) = wa at *
        have e0 := hs0.box.c0
        have e1 := hs0.box.c1
        have e2 := hs0.box.c2
        have e3 := hs0.box.c3
        have e4 := hs0.box.c4
        have e5 := hs0.box.c5
        clear d0 d1 d2 d3 d4 d5
        generalize wr.heap.size = X at *
        go_region_held3 (fun w' => w'.cell? ⟨X, 0, none⟩ = some (.int .i64 op) ∧ w'.cell? ⟨X, 1, none⟩ = some (.int .i64 xa) ∧ w'.cell? ⟨X, 2, none⟩ = some (.int .i64 xb) ∧ w'.cell? ⟨X, 3, none⟩ = some (.int .i64 xc) ∧ w'.cell? ⟨X, 4, none⟩ = some (.int .i64 xn)) (first | (refine ⟨?_, ?_, ?_, ?_, ?_⟩ <;> assumption) | go_keep)
          (first
            | (go_at_call 20; (with_reducible refine (Rs.put (w := w) (X := X) (x := ⟨op, xa, xb, xc, xn, xs⟩) (K := K) ?_ HC.out.1 HL.out.1).mono ?_); (focus (first | exact hs0 | exact hs0.drew)); rintro e w_1 ⟨g_1, c_1, rfl, hs1⟩; have f0 := hs1.box.c0; have f1 := hs1.box.c1; have f2 := hs1.box.c2; have f3 := hs1.box.c3; have f4 := hs1.box.c4)
            | (go_at_call 20; (with_reducible refine (Rs.put (w := w) (X := X) (x := ⟨op, xa, xb, xc, xn, xs⟩) (K := K1) ?_ HC.out.2.1 HL.out.2.1).mono ?_); (focus (first | exact hs1 | exact hs1.drew)); rintro e w_2 ⟨g_2, c_2, rfl, hs2⟩; have f0 := hs2.box.c0; have f1 := hs2.box.c1; have f2 := hs2.box.c2; have f3 := hs2.box.c3; have f4 := hs2.box.c4)
            | (go_at_call 20; (with_reducible refine (Rs.put (w := w) (X := X) (x := ⟨op, xa, xb, xc, xn, xs⟩) (K := K2) ?_ HC.out.2.2.1 HL.out.2.2.1).mono ?_); (focus (first | exact hs2 | exact hs2.drew)); rintro e w_3 ⟨g_3, c_3, rfl, hs3⟩; have f0 := hs3.box.c0; have f1 := hs3.box.c1; have f2 := hs3.box.c2; have f3 := hs3.box.c3; have f4 := hs3.box.c4)
            | (go_at_call 20; (with_reducible refine (Rs.put (w := w) (X := X) (x := ⟨op, xa, xb, xc, xn, xs⟩) (K := K3) ?_ HC.out.2.2.2.1 HL.out.2.2.2.1).mono ?_); (focus (first | exact hs3 | exact hs3.drew)); rintro e w_4 ⟨g_4, c_4, rfl, hs4⟩; have f0 := hs4.box.c0; have f1 := hs4.box.c1; have f2 := hs4.box.c2; have f3 := hs4.box.c3; have f4 := hs4.box.c4)
            | (go_at_call 20; (with_reducible refine (Rs.put (w := w) (X := X) (x := ⟨op, xa, xb, xc, xn, xs⟩) (K := K4) ?_ HC.out.2.2.2.2.1 HL.out.2.2.2.2.1).mono ?_); (focus (first | exact hs4 | exact hs4.drew)); rintro e w_5 ⟨g_5, c_5, rfl, hs5⟩; have f0 := hs5.box.c0; have f1 := hs5.box.c1; have f2 := hs5.box.c2; have f3 := hs5.box.c3; have f4 := hs5.box.c4))
        all_goals
          clear e0 e1 e2 e3 e4 e5 f0 f1 f2 f3 f4
          have e5 := hs5.box.c5
          clear hs0 hs1 hs2 hs3 hs4
          go_wp2_with fail
          go_region_held3 (fun w' => w'.cell? ⟨X, 5, none⟩ = some (.string xs)) (first | assumption | go_keep)
            (first
              | (go_at_call 20; (with_reducible refine (Rs.put (w := w) (X := X) (x := ⟨op, xa, xb, xc, xn, xs⟩) (K := K5) ?_ HC.out.2.2.2.2.2 HL.out.2.2.2.2.2).mono ?_); (focus (first | exact hs5 | exact hs5.drew)); rintro e w_6 ⟨g_6, c_6, rfl, hs6⟩; have f5 := hs6.box.c5)
              | (refine step_append_str rfl (.tmp 44) (.tmp 46) 24 9 rfl w.heap.size 5 i0 undU8 Tryd.underlying9 HI.out.1 HI.out.2.1 HI.out.2.2.1 HI.out.2.2.2 (.slice (some ⟨g_6, 0, none⟩) K6.length c_6) K6.length (bcs K6) ?_ ?_ xs ?_ C3.out C4.out ?_ ?_; (focus (simp [Act.eval]; done)); (focus (first | exact hs6.own | exact hs6.drew.own)); (focus (simp [Act.eval]; done)); (focus (first | exact hs6.below.size | exact hs6.drew.below.size)); intro v7 w7 hown7 hgr7 hnn7; have f6 : w7.cell? ⟨X, 5, none⟩ = some (.string xs) := World.grownBy.cell hgr7 f5 (fun e => hs6.ne (Option.some.inj e).symm)))
          all_goals
            have how7 : OwB w7 w.heap.size v7 (K6 ++ sB xs) := owB_str hown7 rfl
            obtain ⟨g7, c7, rfl⟩ := how7.some (fun e => by have := (hnn7.1 e).1; cases this)
            have HB7 : Hid (Below w.heap.size w w7) := by
              first
                | exact hs6.below.grown hgr7 hs6.below.size (fun k hk => (World.ownsRow.lt hs6.own k hk).1)
                | exact hs6.drew.below.grown hgr7 hs6.drew.below.size (fun k hk => (World.ownsRow.lt hs6.own k hk).1)
            have HO7 : Hid (OwB w7 w.heap.size (.slice (some ⟨g7, 0, none⟩) (K6 ++ sB xs).length c7) (K6 ++ sB xs)) := how7
            clear hown7 hgr7 hnn7 how7 f5 f6 e5 hs5 hs6
            go_wp2_with fail
            go_roundw
            case rel => exact ⟨k + 1, _, g7, c7, by omega, by go_num, rfl, HKN.out, HO7.out, HB7.out⟩
            case measure => simp [intOf]; omega
      · have hke : k = l.length := by omega
        subst hke
        have HE : Hid (K = N) := by
          have := HK.out
          rw [ins_end, List.append_nil] at this
          exact this
        go_wp2_with fail
        go_ret
        obtain rfl := HE.out
        exact ⟨g, c, rfl, HOW.out, HB.out⟩
end Go.Proofs.YtcpodedmeeihhaaDoor.Cb
