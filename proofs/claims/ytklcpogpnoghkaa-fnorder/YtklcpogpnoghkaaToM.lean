/-
  The specification's LessTerm: the walk.
-/
import Derived.Test.YtklcpogpnoghkaaToL
import Derived.Deep.RegionHeld3
namespace Go.Proofs.Ytklcpogpnoghkaa
open Go.RowKit
set_option linter.unusedVariables false

set_option maxHeartbeats 4000000 in
theorem lsT_list (k : Int) (hk : k = 4 ∨ k = 5) (n : Int) (s : ByteArray) (l : List Tm) (n' : Int) (s' : ByteArray) (l' : List Tm) (hl4 : k = 4 → l.length = l'.length) (ih : ∀ t, t ∈ l → LsT t) (hw : ∀ t, t ∈ l → WfT t) (hw' : ∀ t, t ∈ l' → WfT t) (q : Bool) (hq : q = true ↔ cmpL l l' < 0)
    (ao ao' : Option Addr) (cap cap' B : Nat) (w : World) (hc : cap ≤ maxLen) (hc' : cap' ≤ maxLen) (hl : l.length ≤ cap) (hl' : l'.length ≤ cap') (hr : RepL B w l ao) (hr' : RepL B w l' ao') :
    Calls Try.prog 8 #[.agg #[.int .i64 k, .int .i64 n, .string s, .slice ao l.length cap], .agg #[.int .i64 k, .int .i64 n', .string s', .slice ao' l'.length cap']] w fun e w' => e = .returned (.bool q) ∧ Below w.heap.size w w' := by
  have HB2 : Hid (∀ a b, Below w.heap.size w ((w.alloc a).alloc b)) := fun a b => ((Below.refl _ _).alloc (Nat.le_refl _) _).alloc (by simp) _
  have IH : Hid (∀ t, t ∈ l → LsT t) := ih
  have HWF : Hid ((∀ t, t ∈ l → WfT t) ∧ ∀ t, t ∈ l' → WfT t) := ⟨hw, hw'⟩
  have HR : Hid (RepL B w l ao ∧ RepL B w l' ao') := ⟨hr, hr'⟩
  have HQ : Hid (q = true ↔ cmpL l l' < 0) := hq
  obtain ⟨N, hN⟩ : ∃ N, N = l.length := ⟨_, rfl⟩
  obtain ⟨N', hN'⟩ : ∃ N', N' = l'.length := ⟨_, rfl⟩
  have HN : Hid (N = l.length ∧ N' = l'.length) := ⟨hN, hN'⟩
  rw [← hN, ← hN'] at hl4
  rw [← hN] at hl ⊢
  rw [← hN'] at hl' ⊢
  clear ih hw hw' hr hr' hq hN hN'
  unfold maxLen at hc hc'
  obtain ⟨W0, hW0⟩ : ∃ W0, W0 = (w.alloc (.cells #[.int .i64 k, .int .i64 n, .string s, .slice ao N cap] 26)).alloc (.cells #[.int .i64 k, .int .i64 n', .string s', .slice ao' N' cap'] 26) := ⟨_, rfl⟩
  have HW : Hid (Below w.heap.size w W0 ∧ (∀ wc, Below W0.heap.size W0 wc → wc.cell? ⟨w.heap.size, 3, none⟩ = some (.slice ao N cap) ∧ wc.cell? ⟨w.heap.size + 1, 3, none⟩ = some (.slice ao' N' cap'))) := by
    have hz : W0.heap.size = w.heap.size + 2 := by rw [hW0]; simp
    refine ⟨by rw [hW0]; exact HB2.out _ _, fun wc hb => ⟨?_, ?_⟩⟩
    · rw [hb.cell (p := ⟨w.heap.size, 3, none⟩) (by show w.heap.size < _; omega), hW0, World.cell?_alloc_lt _ _ _ (by simp), World.cell?_alloc_new]; rfl
    · rw [hb.cell (p := ⟨w.heap.size + 1, 3, none⟩) (by show w.heap.size + 1 < _; omega), hW0]
      have e : w.heap.size + 1 = (w.alloc (.cells #[.int .i64 k, .int .i64 n, .string s, .slice ao N cap] 26)).heap.size := by simp
      rw [e, World.cell?_alloc_new]; rfl
  have hto : k = 4 ∧ N' = N ∨ k = 5 := by
    rcases hk with h | h
    · have := hl4 h
      exact .inl ⟨h, by omega⟩
    · exact .inr h
  clear hk hl4
  go_enter Try.func8, Try.ntmps8
  rcases hto with ⟨rfl, rfl⟩ | rfl
  · go_wp2_with fail
    rw [← hW0]
    clear hW0
    obtain ⟨X, hX⟩ : ∃ X, X = w.heap.size := ⟨_, rfl⟩
    have HX : Hid (X = w.heap.size) := hX
    rw [← hX] at HW ⊢
    clear hX
    go_loopw [5] (fun i wr => ∃ j : Nat, j ≤ N' ∧ j ≤ N' ∧ i = .int .i64 j ∧ Below W0.heap.size W0 wr ∧ l.take j = l'.take j) (fun i _ => N' - (intOf i).toNat)
    case atStart => exact ⟨0, Nat.zero_le _, Nat.zero_le _, rfl, Below.refl _ _, rfl⟩
    case round =>
      obtain ⟨j, hj, hj', rfl, hb, htk⟩ := hrel
      have HB : Hid (Below W0.heap.size W0 wr) := hb
      have HTK : Hid (l.take j = l'.take j) := htk
      have HBW : Hid (Below w.heap.size w wr) := by
        have h1 := HW.out.1
        rw [HX.out] at h1
        exact h1.trans (hb.mono h1.size)
      have x3 := (HW.out.2 wr hb).1
      have y3 := (HW.out.2 wr hb).2
      clear hb htk
      by_cases hlt : j < N'
      · by_cases hlt' : j < N'
        · have hlt1 : j < l.length := by have := HN.out.1; omega
          have hlt2 : j < l'.length := by have := HN.out.2; omega
          obtain ⟨b, off, rfl, hB, ht⟩ := RepL.at l ao ((Keeps.below HBW.out B).repL _ _ HR.out.1) j hlt1
          obtain ⟨b', off', rfl, hB', ht'⟩ := RepL.at l' ao' ((Keeps.below HBW.out B).repL _ _ HR.out.2) j hlt2
          obtain ⟨tk, tn, ts, tao, tlen, tcap, c0, c1, c2, c3, hv⟩ := ht.cells
          obtain ⟨tk', tn', ts', tao', tlen', tcap', c0', c1', c2', c3', hv'⟩ := ht'.cells
          have HQS : Hid (∀ wc, Below wr.heap.size wr wc → wc.cell? ⟨X, 3, none⟩ = some (.slice (some ⟨b, off, none⟩) N' cap) ∧ wc.cell? ⟨X + 1, 3, none⟩ = some (.slice (some ⟨b', off', none⟩) N' cap') ∧ wc.cell? ⟨b, off + j * 4, none⟩ = some (.int .i64 tk) ∧ wc.cell? ⟨b, off + j * 4 + 1, none⟩ = some (.int .i64 tn) ∧ wc.cell? ⟨b, off + j * 4 + 2, none⟩ = some (.string ts) ∧ wc.cell? ⟨b, off + j * 4 + 3, none⟩ = some (.slice tao tlen tcap) ∧ wc.cell? ⟨b', off' + j * 4, none⟩ = some (.int .i64 tk') ∧ wc.cell? ⟨b', off' + j * 4 + 1, none⟩ = some (.int .i64 tn') ∧ wc.cell? ⟨b', off' + j * 4 + 2, none⟩ = some (.string ts') ∧ wc.cell? ⟨b', off' + j * 4 + 3, none⟩ = some (.slice tao' tlen' tcap')) := fun wc hb => ⟨keepK hb x3, keepK hb y3, keepK hb c0, keepK hb c1, keepK hb c2, keepK hb c3, keepK hb c0', keepK hb c1', keepK hb c2', keepK hb c3'⟩
          clear c0 c1 c2 c3 c0' c1' c2' c3'
          have HV : Hid (RepV B wr l[j] (.agg #[.int .i64 tk, .int .i64 tn, .string ts, .slice tao tlen tcap])) := hv
          have HV' : Hid (RepV B wr l'[j] (.agg #[.int .i64 tk', .int .i64 tn', .string ts', .slice tao' tlen' tcap'])) := hv'
          clear hv ht hv' ht'
          by_cases hsame : l[j] = l'[j]
          · have HT : Hid (∀ w v v', RepV B w l[j] v → RepV B w l'[j] v' → Calls Try.prog 13 #[v, v'] w fun e w' => e = .returned (.bool true) ∧ Below w.heap.size w w') := fun w v v' => smT_all l[j] l'[j] true ⟨fun _ => hsame, fun _ => rfl⟩ B w v v'
            have HTK2 : Hid (l.take (j + 1) = l'.take (j + 1)) := by
              show _ = _
              rw [List.take_succ_eq_append_getElem hlt1, List.take_succ_eq_append_getElem hlt2, HTK.out, hsame]
            clear hsame
            go_wp2_with fail
            have S0 := HQS.out wr.drew (Below.refl _ _).drew
            go_region_held3 (fun wc => (wc.cell? ⟨X, 3, none⟩ = some (.slice (some ⟨b, off, none⟩) N' cap) ∧ wc.cell? ⟨X + 1, 3, none⟩ = some (.slice (some ⟨b', off', none⟩) N' cap') ∧ wc.cell? ⟨b, off + j * 4, none⟩ = some (.int .i64 tk) ∧ wc.cell? ⟨b, off + j * 4 + 1, none⟩ = some (.int .i64 tn) ∧ wc.cell? ⟨b, off + j * 4 + 2, none⟩ = some (.string ts) ∧ wc.cell? ⟨b, off + j * 4 + 3, none⟩ = some (.slice tao tlen tcap) ∧ wc.cell? ⟨b', off' + j * 4, none⟩ = some (.int .i64 tk') ∧ wc.cell? ⟨b', off' + j * 4 + 1, none⟩ = some (.int .i64 tn') ∧ wc.cell? ⟨b', off' + j * 4 + 2, none⟩ = some (.string ts') ∧ wc.cell? ⟨b', off' + j * 4 + 3, none⟩ = some (.slice tao' tlen' tcap'))) (first | (refine HQS.out _ ?_; first | exact HK.out | exact HK.out.drew | exact (Below.refl _ _).drew; done) | go_keep) (first
              | (go_at_call 13; refine (HT.out _ _ _ ?_ ?_).mono ?_; exact HV.out.drew2; exact HV'.out.drew2; rintro e w1 ⟨rfl, hb1⟩; have HK : Hid (Below wr.heap.size wr w1) := (Below.refl _ _).drew.trans hb1)
              | fail)
            all_goals
              have HB1 : Hid (Below W0.heap.size W0 w1) := (HB.out.drew).trans (hb1.mono HB.out.size)
              clear hb1
              go_wp2_with fail
              go_roundw
              case rel => exact ⟨j + 1, by omega, by omega, by go_num, HB1.out, HTK2.out⟩
              case measure => simp [intOf]; omega
          · have HT : Hid (∀ w v v', RepV B w l[j] v → RepV B w l'[j] v' → Calls Try.prog 13 #[v, v'] w fun e w' => e = .returned (.bool false) ∧ Below w.heap.size w w') := fun w v v' => smT_all l[j] l'[j] false (Iff.intro (fun h => absurd h (by decide)) (fun h => absurd h hsame)) B w v v'
            have HT2 : Hid (∀ w v v', RepV B w l[j] v → RepV B w l'[j] v' → Calls Try.prog 8 #[v, v'] w fun e w' => e = .returned (.bool q) ∧ Below w.heap.size w w') := fun w v v' =>
              IH.out _ (List.getElem_mem hlt1) l'[j] q (HWF.out.1 _ (List.getElem_mem hlt1)) (HWF.out.2 _ (List.getElem_mem hlt2)) (by
                rw [HQ.out, cmpL_at HTK.out hlt1 hlt2 (fun h0 => hsame (cmpT_zero _ _ (HWF.out.1 _ (List.getElem_mem hlt1)) (HWF.out.2 _ (List.getElem_mem hlt2)) h0))]) B w v v'
            clear hsame
            go_wp2_with fail
            have S0 := HQS.out wr.drew (Below.refl _ _).drew
            go_region_held3 (fun wc => (wc.cell? ⟨X, 3, none⟩ = some (.slice (some ⟨b, off, none⟩) N' cap) ∧ wc.cell? ⟨X + 1, 3, none⟩ = some (.slice (some ⟨b', off', none⟩) N' cap') ∧ wc.cell? ⟨b, off + j * 4, none⟩ = some (.int .i64 tk) ∧ wc.cell? ⟨b, off + j * 4 + 1, none⟩ = some (.int .i64 tn) ∧ wc.cell? ⟨b, off + j * 4 + 2, none⟩ = some (.string ts) ∧ wc.cell? ⟨b, off + j * 4 + 3, none⟩ = some (.slice tao tlen tcap) ∧ wc.cell? ⟨b', off' + j * 4, none⟩ = some (.int .i64 tk') ∧ wc.cell? ⟨b', off' + j * 4 + 1, none⟩ = some (.int .i64 tn') ∧ wc.cell? ⟨b', off' + j * 4 + 2, none⟩ = some (.string ts') ∧ wc.cell? ⟨b', off' + j * 4 + 3, none⟩ = some (.slice tao' tlen' tcap'))) (first | (refine HQS.out _ ?_; first | exact HK.out | exact HK.out.drew | exact (Below.refl _ _).drew; done) | go_keep) (first
              | (go_at_call 13; refine (HT.out _ _ _ ?_ ?_).mono ?_; exact HV.out.drew2; exact HV'.out.drew2; rintro e w1 ⟨rfl, hb1⟩; have HK : Hid (Below wr.heap.size wr w1) := (Below.refl _ _).drew.trans hb1)
              | fail)
            all_goals
              have HB1 : Hid (Below W0.heap.size W0 w1) := (HB.out.drew).trans (hb1.mono HB.out.size)
              have HBX : Hid (Below w.heap.size w w1) := (HBW.out.drew).trans (hb1.mono HBW.out.size)
              have hbr : Below wr.heap.size wr w1 := (Below.refl _ _).drew.trans hb1
              have HV1 : Hid (RepV B w1 l[j] (.agg #[.int .i64 tk, .int .i64 tn, .string ts, .slice tao tlen tcap])) := (Keeps.below hbr B).repV HV.out
              have HV1' : Hid (RepV B w1 l'[j] (.agg #[.int .i64 tk', .int .i64 tn', .string ts', .slice tao' tlen' tcap'])) := (Keeps.below hbr B).repV HV'.out
              clear hb1 hbr
              go_wp2_with fail
              have S1 := HQS.out w1.drew HK.out.drew
              go_region_held3 (fun wc => (wc.cell? ⟨X, 3, none⟩ = some (.slice (some ⟨b, off, none⟩) N' cap) ∧ wc.cell? ⟨X + 1, 3, none⟩ = some (.slice (some ⟨b', off', none⟩) N' cap') ∧ wc.cell? ⟨b, off + j * 4, none⟩ = some (.int .i64 tk) ∧ wc.cell? ⟨b, off + j * 4 + 1, none⟩ = some (.int .i64 tn) ∧ wc.cell? ⟨b, off + j * 4 + 2, none⟩ = some (.string ts) ∧ wc.cell? ⟨b, off + j * 4 + 3, none⟩ = some (.slice tao tlen tcap) ∧ wc.cell? ⟨b', off' + j * 4, none⟩ = some (.int .i64 tk') ∧ wc.cell? ⟨b', off' + j * 4 + 1, none⟩ = some (.int .i64 tn') ∧ wc.cell? ⟨b', off' + j * 4 + 2, none⟩ = some (.string ts') ∧ wc.cell? ⟨b', off' + j * 4 + 3, none⟩ = some (.slice tao' tlen' tcap'))) (first | (refine HQS.out _ ?_; first | exact HL.out | exact HL.out.drew | exact HK.out.drew; done) | go_keep) (first
                | (go_at_call 8; refine (HT2.out _ _ _ ?_ ?_).mono ?_; exact HV1.out.drew2; exact HV1'.out.drew2; rintro e w2 ⟨rfl, hb2⟩; have HL : Hid (Below wr.heap.size wr w2) := HK.out.drew.trans (hb2.mono HK.out.size))
                | fail)
              all_goals
                have HB3 : Hid (Below w.heap.size w w2) := (HBX.out.drew).trans (hb2.mono HBX.out.size)
                clear hb2
                go_wp2_with fail
                go_ret
                exact ⟨rfl, HB3.out⟩
        · exact absurd hlt hlt'
      · have HE : Hid (q = decide (N' < N')) := bool_dec (by
          have h9 := cmpL_end HTK.out (by have := HN.out.1; omega) (by have := HN.out.2; omega) (.inl (by have := HN.out.1; omega))
          rw [HQ.out, h9, ← HN.out.1, ← HN.out.2])
        go_wp2_with fail
        go_ret
        exact ⟨ret_b (r := false) (by rw [HE.out]; simp), HBW.out⟩
  · go_wp2_with fail
    rw [← hW0]
    clear hW0
    obtain ⟨X, hX⟩ : ∃ X, X = w.heap.size := ⟨_, rfl⟩
    have HX : Hid (X = w.heap.size) := hX
    rw [← hX] at HW ⊢
    clear hX
    go_loopw [5] (fun i wr => ∃ j : Nat, j ≤ N ∧ j ≤ N' ∧ i = .int .i64 j ∧ Below W0.heap.size W0 wr ∧ l.take j = l'.take j) (fun i _ => N - (intOf i).toNat)
    case atStart => exact ⟨0, Nat.zero_le _, Nat.zero_le _, rfl, Below.refl _ _, rfl⟩
    case round =>
      obtain ⟨j, hj, hj', rfl, hb, htk⟩ := hrel
      have HB : Hid (Below W0.heap.size W0 wr) := hb
      have HTK : Hid (l.take j = l'.take j) := htk
      have HBW : Hid (Below w.heap.size w wr) := by
        have h1 := HW.out.1
        rw [HX.out] at h1
        exact h1.trans (hb.mono h1.size)
      have x3 := (HW.out.2 wr hb).1
      have y3 := (HW.out.2 wr hb).2
      clear hb htk
      by_cases hlt : j < N
      · by_cases hlt' : j < N'
        · have hlt1 : j < l.length := by have := HN.out.1; omega
          have hlt2 : j < l'.length := by have := HN.out.2; omega
          obtain ⟨b, off, rfl, hB, ht⟩ := RepL.at l ao ((Keeps.below HBW.out B).repL _ _ HR.out.1) j hlt1
          obtain ⟨b', off', rfl, hB', ht'⟩ := RepL.at l' ao' ((Keeps.below HBW.out B).repL _ _ HR.out.2) j hlt2
          obtain ⟨tk, tn, ts, tao, tlen, tcap, c0, c1, c2, c3, hv⟩ := ht.cells
          obtain ⟨tk', tn', ts', tao', tlen', tcap', c0', c1', c2', c3', hv'⟩ := ht'.cells
          have HQS : Hid (∀ wc, Below wr.heap.size wr wc → wc.cell? ⟨X, 3, none⟩ = some (.slice (some ⟨b, off, none⟩) N cap) ∧ wc.cell? ⟨X + 1, 3, none⟩ = some (.slice (some ⟨b', off', none⟩) N' cap') ∧ wc.cell? ⟨b, off + j * 4, none⟩ = some (.int .i64 tk) ∧ wc.cell? ⟨b, off + j * 4 + 1, none⟩ = some (.int .i64 tn) ∧ wc.cell? ⟨b, off + j * 4 + 2, none⟩ = some (.string ts) ∧ wc.cell? ⟨b, off + j * 4 + 3, none⟩ = some (.slice tao tlen tcap) ∧ wc.cell? ⟨b', off' + j * 4, none⟩ = some (.int .i64 tk') ∧ wc.cell? ⟨b', off' + j * 4 + 1, none⟩ = some (.int .i64 tn') ∧ wc.cell? ⟨b', off' + j * 4 + 2, none⟩ = some (.string ts') ∧ wc.cell? ⟨b', off' + j * 4 + 3, none⟩ = some (.slice tao' tlen' tcap')) := fun wc hb => ⟨keepK hb x3, keepK hb y3, keepK hb c0, keepK hb c1, keepK hb c2, keepK hb c3, keepK hb c0', keepK hb c1', keepK hb c2', keepK hb c3'⟩
          clear c0 c1 c2 c3 c0' c1' c2' c3'
          have HV : Hid (RepV B wr l[j] (.agg #[.int .i64 tk, .int .i64 tn, .string ts, .slice tao tlen tcap])) := hv
          have HV' : Hid (RepV B wr l'[j] (.agg #[.int .i64 tk', .int .i64 tn', .string ts', .slice tao' tlen' tcap'])) := hv'
          clear hv ht hv' ht'
          by_cases hsame : l[j] = l'[j]
          · have HT : Hid (∀ w v v', RepV B w l[j] v → RepV B w l'[j] v' → Calls Try.prog 13 #[v, v'] w fun e w' => e = .returned (.bool true) ∧ Below w.heap.size w w') := fun w v v' => smT_all l[j] l'[j] true ⟨fun _ => hsame, fun _ => rfl⟩ B w v v'
            have HTK2 : Hid (l.take (j + 1) = l'.take (j + 1)) := by
              show _ = _
              rw [List.take_succ_eq_append_getElem hlt1, List.take_succ_eq_append_getElem hlt2, HTK.out, hsame]
            clear hsame
            go_wp2_with fail
            have S0 := HQS.out wr.drew (Below.refl _ _).drew
            go_region_held3 (fun wc => (wc.cell? ⟨X, 3, none⟩ = some (.slice (some ⟨b, off, none⟩) N cap) ∧ wc.cell? ⟨X + 1, 3, none⟩ = some (.slice (some ⟨b', off', none⟩) N' cap') ∧ wc.cell? ⟨b, off + j * 4, none⟩ = some (.int .i64 tk) ∧ wc.cell? ⟨b, off + j * 4 + 1, none⟩ = some (.int .i64 tn) ∧ wc.cell? ⟨b, off + j * 4 + 2, none⟩ = some (.string ts) ∧ wc.cell? ⟨b, off + j * 4 + 3, none⟩ = some (.slice tao tlen tcap) ∧ wc.cell? ⟨b', off' + j * 4, none⟩ = some (.int .i64 tk') ∧ wc.cell? ⟨b', off' + j * 4 + 1, none⟩ = some (.int .i64 tn') ∧ wc.cell? ⟨b', off' + j * 4 + 2, none⟩ = some (.string ts') ∧ wc.cell? ⟨b', off' + j * 4 + 3, none⟩ = some (.slice tao' tlen' tcap'))) (first | (refine HQS.out _ ?_; first | exact HK.out | exact HK.out.drew | exact (Below.refl _ _).drew; done) | go_keep) (first
              | (go_at_call 13; refine (HT.out _ _ _ ?_ ?_).mono ?_; exact HV.out.drew2; exact HV'.out.drew2; rintro e w1 ⟨rfl, hb1⟩; have HK : Hid (Below wr.heap.size wr w1) := (Below.refl _ _).drew.trans hb1)
              | fail)
            all_goals
              have HB1 : Hid (Below W0.heap.size W0 w1) := (HB.out.drew).trans (hb1.mono HB.out.size)
              clear hb1
              go_wp2_with fail
              go_roundw
              case rel => exact ⟨j + 1, by omega, by omega, by go_num, HB1.out, HTK2.out⟩
              case measure => simp [intOf]; omega
          · have HT : Hid (∀ w v v', RepV B w l[j] v → RepV B w l'[j] v' → Calls Try.prog 13 #[v, v'] w fun e w' => e = .returned (.bool false) ∧ Below w.heap.size w w') := fun w v v' => smT_all l[j] l'[j] false (Iff.intro (fun h => absurd h (by decide)) (fun h => absurd h hsame)) B w v v'
            have HT2 : Hid (∀ w v v', RepV B w l[j] v → RepV B w l'[j] v' → Calls Try.prog 8 #[v, v'] w fun e w' => e = .returned (.bool q) ∧ Below w.heap.size w w') := fun w v v' =>
              IH.out _ (List.getElem_mem hlt1) l'[j] q (HWF.out.1 _ (List.getElem_mem hlt1)) (HWF.out.2 _ (List.getElem_mem hlt2)) (by
                rw [HQ.out, cmpL_at HTK.out hlt1 hlt2 (fun h0 => hsame (cmpT_zero _ _ (HWF.out.1 _ (List.getElem_mem hlt1)) (HWF.out.2 _ (List.getElem_mem hlt2)) h0))]) B w v v'
            clear hsame
            go_wp2_with fail
            have S0 := HQS.out wr.drew (Below.refl _ _).drew
            go_region_held3 (fun wc => (wc.cell? ⟨X, 3, none⟩ = some (.slice (some ⟨b, off, none⟩) N cap) ∧ wc.cell? ⟨X + 1, 3, none⟩ = some (.slice (some ⟨b', off', none⟩) N' cap') ∧ wc.cell? ⟨b, off + j * 4, none⟩ = some (.int .i64 tk) ∧ wc.cell? ⟨b, off + j * 4 + 1, none⟩ = some (.int .i64 tn) ∧ wc.cell? ⟨b, off + j * 4 + 2, none⟩ = some (.string ts) ∧ wc.cell? ⟨b, off + j * 4 + 3, none⟩ = some (.slice tao tlen tcap) ∧ wc.cell? ⟨b', off' + j * 4, none⟩ = some (.int .i64 tk') ∧ wc.cell? ⟨b', off' + j * 4 + 1, none⟩ = some (.int .i64 tn') ∧ wc.cell? ⟨b', off' + j * 4 + 2, none⟩ = some (.string ts') ∧ wc.cell? ⟨b', off' + j * 4 + 3, none⟩ = some (.slice tao' tlen' tcap'))) (first | (refine HQS.out _ ?_; first | exact HK.out | exact HK.out.drew | exact (Below.refl _ _).drew; done) | go_keep) (first
              | (go_at_call 13; refine (HT.out _ _ _ ?_ ?_).mono ?_; exact HV.out.drew2; exact HV'.out.drew2; rintro e w1 ⟨rfl, hb1⟩; have HK : Hid (Below wr.heap.size wr w1) := (Below.refl _ _).drew.trans hb1)
              | fail)
            all_goals
              have HB1 : Hid (Below W0.heap.size W0 w1) := (HB.out.drew).trans (hb1.mono HB.out.size)
              have HBX : Hid (Below w.heap.size w w1) := (HBW.out.drew).trans (hb1.mono HBW.out.size)
              have hbr : Below wr.heap.size wr w1 := (Below.refl _ _).drew.trans hb1
              have HV1 : Hid (RepV B w1 l[j] (.agg #[.int .i64 tk, .int .i64 tn, .string ts, .slice tao tlen tcap])) := (Keeps.below hbr B).repV HV.out
              have HV1' : Hid (RepV B w1 l'[j] (.agg #[.int .i64 tk', .int .i64 tn', .string ts', .slice tao' tlen' tcap'])) := (Keeps.below hbr B).repV HV'.out
              clear hb1 hbr
              go_wp2_with fail
              have S1 := HQS.out w1.drew HK.out.drew
              go_region_held3 (fun wc => (wc.cell? ⟨X, 3, none⟩ = some (.slice (some ⟨b, off, none⟩) N cap) ∧ wc.cell? ⟨X + 1, 3, none⟩ = some (.slice (some ⟨b', off', none⟩) N' cap') ∧ wc.cell? ⟨b, off + j * 4, none⟩ = some (.int .i64 tk) ∧ wc.cell? ⟨b, off + j * 4 + 1, none⟩ = some (.int .i64 tn) ∧ wc.cell? ⟨b, off + j * 4 + 2, none⟩ = some (.string ts) ∧ wc.cell? ⟨b, off + j * 4 + 3, none⟩ = some (.slice tao tlen tcap) ∧ wc.cell? ⟨b', off' + j * 4, none⟩ = some (.int .i64 tk') ∧ wc.cell? ⟨b', off' + j * 4 + 1, none⟩ = some (.int .i64 tn') ∧ wc.cell? ⟨b', off' + j * 4 + 2, none⟩ = some (.string ts') ∧ wc.cell? ⟨b', off' + j * 4 + 3, none⟩ = some (.slice tao' tlen' tcap'))) (first | (refine HQS.out _ ?_; first | exact HL.out | exact HL.out.drew | exact HK.out.drew; done) | go_keep) (first
                | (go_at_call 8; refine (HT2.out _ _ _ ?_ ?_).mono ?_; exact HV1.out.drew2; exact HV1'.out.drew2; rintro e w2 ⟨rfl, hb2⟩; have HL : Hid (Below wr.heap.size wr w2) := HK.out.drew.trans (hb2.mono HK.out.size))
                | fail)
              all_goals
                have HB3 : Hid (Below w.heap.size w w2) := (HBX.out.drew).trans (hb2.mono HBX.out.size)
                clear hb2
                go_wp2_with fail
                go_ret
                exact ⟨rfl, HB3.out⟩
        · have HE : Hid (q = decide (N < N')) := bool_dec (by
            have h9 := cmpL_end HTK.out (by have := HN.out.1; omega) (by have := HN.out.2; omega) (.inr (by have := HN.out.2; omega))
            rw [HQ.out, h9, ← HN.out.1, ← HN.out.2])
          go_wp2_with fail
          go_ret
          exact ⟨ret_b HE.out, HBW.out⟩
      · have HE : Hid (q = decide (N < N')) := bool_dec (by
          have h9 := cmpL_end HTK.out (by have := HN.out.1; omega) (by have := HN.out.2; omega) (.inl (by have := HN.out.1; omega))
          rw [HQ.out, h9, ← HN.out.1, ← HN.out.2])
        go_wp2_with fail
        go_ret
        exact ⟨ret_b HE.out, HBW.out⟩

theorem lsT_of (k n : Int) (s : ByteArray) (l : List Tm) (ih : ∀ t, t ∈ l → LsT t) : LsT (.mk k n s l) := by
  intro t' q hwt hwt' hq B w v v' hv hv'
  obtain ⟨k', n', s', l'⟩ := t'
  obtain ⟨ao, cap, rfl, hs, hl, hc, hr⟩ := hv
  obtain ⟨ao', cap', rfl, hs', hl', hc', hr'⟩ := hv'
  by_cases h1 : k = k'
  · subst h1
    have hw1 := hwt
    have hw2 := hwt'
    rw [WfT] at hw1 hw2
    rcases hw1.1 with h | h | h | h | h
    · exact lsT_leaf k n s l n' s' l' (by have := h.1; omega) q hq ao ao' cap cap' w
    · exact lsT_leaf k n s l n' s' l' (by have := h.1; omega) q hq ao ao' cap cap' w
    · exact lsT_leaf k n s l n' s' l' (by have := h.1; omega) q hq ao ao' cap cap' w
    · have hk := h.1
      rw [cmpT, cmpI_self, thenC_left, if_pos hk] at hq
      by_cases h4 : k = 4 ∧ l.length ≠ l'.length
      · obtain ⟨rfl, hne⟩ := h4
        have e : q = decide (l.length < l'.length) := bool_dec (by
          rw [hq]
          unfold ownC
          rw [if_neg (by decide), if_neg (by decide), if_pos rfl]
          unfold thenC
          rw [if_neg (fun h0 => by have := (cmpI_zero _ _).1 h0; omega), cmpI_neg]
          omega)
        rw [e]
        exact lsT_len n s n' s' ao ao' l.length l'.length cap cap' hne w
      · have h5 : k = 4 → l.length = l'.length := fun h => by
          rcases Nat.decEq l.length l'.length with h6 | h6
          · exact absurd ⟨h, h6⟩ h4
          · exact h6
        refine lsT_list k hk n s l n' s' l' h5 ih hw1.2.2 hw2.2.2 q ?_ ao ao' cap cap' B w hc hc' hl hl' hr hr'
        rw [hq]
        have h7 : ownC k n s l.length n' s' l'.length = 0 := by
          unfold ownC
          rw [if_neg (by omega), if_neg (by omega)]
          by_cases h8 : k = 4
          · rw [if_pos h8, h5 h8]; exact cmpI_self _
          · rw [if_neg h8]
        rw [h7, thenC_left]
    · exact lsT_leaf k n s l n' s' l' (by have := h.1; omega) q hq ao ao' cap cap' w
  · have e : q = decide (k < k') := bool_dec (by
      rw [hq, cmpT]
      unfold thenC
      rw [if_neg (fun h0 => h1 ((cmpI_zero _ _).1 h0))]
      exact cmpI_neg _ _)
    rw [e]
    exact lsT_kind k n s k' n' s' _ _ h1 w
theorem lsT_all : ∀ t, LsT t := Tm.ind fun k n s l ih => lsT_of k n s l ih
end Go.Proofs.Ytklcpogpnoghkaa
