/-
  How the program reads words that a function value tells: one term whole, at every depth.
-/
import Derived.Test.YtadihpbleomlkaaRgE
namespace Go.Proofs.Ytadihpbleomlkaa.Gn
open Go.RowKit
set_option linter.unusedVariables false

theorem tof_yes {E : Env} {d : Nat} {w : World} {left : Nat} {x : Int} (h : TofC E d w left x) {t : Tm} {y : Nat} (he : raw true E.H (rT true E.H d) x left = some (t, y)) :
    Calls Try.prog 120 #[.pointer (some ⟨E.rb, 0, none⟩), .int .i64 x, .int .i64 d] w fun e w' => ∃ v, e = .returned v ∧ Turn E.rb w w' ∧ OwV w' (w.heap.size) w'.heap.size t v ∧ Rr E y w' := by
  refine Calls.mono h ?_
  rintro e w' ⟨ht, ⟨t', y', v, hh, rfl, hv, hrr⟩ | ⟨hh, rfl⟩⟩
  · rw [he] at hh
    simp only [Option.some.injEq, Prod.mk.injEq] at hh
    obtain ⟨rfl, rfl⟩ := hh
    exact ⟨v, rfl, ht, hv, hrr⟩
  · rw [he] at hh; cases hh
theorem tof_no {E : Env} {d : Nat} {w : World} {left : Nat} {x : Int} (h : TofC E d w left x) (he : raw true E.H (rT true E.H d) x left = none) :
    Calls Try.prog 120 #[.pointer (some ⟨E.rb, 0, none⟩), .int .i64 x, .int .i64 d] w fun e w' => e = .panicked PN ∧ Turn E.rb w w' := by
  refine Calls.mono h ?_
  rintro e w' ⟨ht, ⟨t', y', v, hh, rfl, hv, hrr⟩ | ⟨hh, rfl⟩⟩
  · rw [he] at hh; cases hh
  · exact ⟨rfl, ht⟩
set_option maxHeartbeats 4000000 in
set_option maxRecDepth 100000 in
theorem term_of {E : Env} {d : Nat} (hd6 : d ≤ 6) (ih : ∀ d', d = d' + 1 → TermC E d') : TermC E d := by
  intro w left x h hl hx
  have HR : Hid (Rr E left w) := h
  have HX : Hid (x ≤ 9223372036854775807) := hx
  have HL : Hid (left ≤ 100) := hl
  have IH : Hid (∀ d', d = d' + 1 → TermC E d') := ih
  clear h hx ih
  obtain ⟨D, hD⟩ : ∃ D : Int, D = d := ⟨_, rfl⟩
  rw [← hD]
  have HDD : Hid (D = d) := hD
  have hD0 : 0 ≤ D := by omega
  have hD6 : D ≤ 6 := by omega
  clear hD
  cases hw : isW x with
  | false =>
    have HW : Hid (isW x = false) := hw
    rw [rT_isW hw]
    clear hw
    go_enter Try.func83, Try.ntmps83
    go_wp2_with (first | (go_at_call 119; refine (isWord_any x HX.out _).mono ?_; rintro e w1 ⟨rfl, rfl⟩; rw [HW.out]) | (go_at_call 106; refine (insist_no _).mono ?_; rintro e w1 ⟨rfl, rfl⟩))
    exact ⟨rfl, (box_in HR.out _ _ rfl).2.2.2.1, .inr ⟨trivial, rfl⟩⟩
  | true =>
    have HW : Hid (isW x = true) := hw
    by_cases hDp : 0 < D
    · obtain ⟨d', hd'⟩ : ∃ d' : Nat, d = d' + 1 := ⟨d - 1, by have := HDD.out; omega⟩
      have HT : Hid (TermC E d') := IH.out d' hd'
      have HQ : Hid (D - 1 = d') := by show _ = _; have := HDD.out; omega
      have HWR : Hid (IntKind.i64.wrap (D - 1) = d') := by show _ = _; have := HDD.out; rw [IntKind.wrap_i64]; omega
      cases left with
      | zero =>
        rw [rT_left]
        clear hw
        go_enter Try.func83, Try.ntmps83
        go_wp2_with fail
        refine (isWord_any x HX.out _).mono ?_
        rintro e w1 ⟨rfl, hw1⟩
        rw [HW.out]
        obtain ⟨hz1, q1, f1, ht1, hr1, hne⟩ := box_in HR.out _ _ hw1
        have HT1 : Hid (Turn E.rb w w1) := ht1
        have c2 := hr1.c2
        clear hw1 ht1 hr1
        go_wp2_with (first | (go_at_call 106; refine (insist_no _).mono ?_; rintro e w1 ⟨rfl, rfl⟩))
        exact ⟨rfl, HT1.out, .inr ⟨trivial, rfl⟩⟩
      | succ k =>
        rw [hd', rT_on hw]
        generalize hG : held true (raw true E.H (rT true E.H d') x k) = G
        have HG : Hid (held true (raw true E.H (rT true E.H d') x k) = G) := hG
        clear hG
        have HK : Hid (k ≤ 100) := by show _ ≤ _; omega
        have hk100 : (k : Int) ≤ 100 := by omega
        clear hw hd' hl
        go_enter Try.func83, Try.ntmps83
        go_wp2_with fail
        refine (isWord_any x HX.out _).mono ?_
        rintro e w1 ⟨rfl, hw1⟩
        rw [HW.out]
        obtain ⟨hz1, q1, f1, ht1, hr1, hne⟩ := box_in HR.out _ _ hw1
        have HT1 : Hid (Turn E.rb w w1) := ht1
        have HR1 : Hid (Rr E (k + 1) w1) := hr1
        have c2 := hr1.c2
        have cf := hr1.fr
        have HR2 : Hid (Rr E k (w1.setCell ⟨E.rb, 2, none⟩ (.int .i64 k))) := hr1.set k
        have hrl := hr1.lt
        have hk1 : (0 : Int) < ((k + 1 : Nat) : Int) := by omega
        have HTS : Hid (Turn E.rb w1 (w1.setCell ⟨E.rb, 2, none⟩ (.int .i64 k))) := (Turn.refl _ _).set 2 _
        have HZS : Hid ((w1.setCell ⟨E.rb, 2, none⟩ (.int .i64 k)).heap.size = w.heap.size + 1) := by show _ = _; rw [World.size_setCell]; exact hz1
        clear hw1 ht1 hr1
        cases hrw : raw true E.H (rT true E.H d') x k with
        | none =>
          have HE : Hid (raw true E.H (rT true E.H d') x k = none) := hrw
          have HGN : Hid (G = none) := by show _ = _; rw [← HG.out, hrw]; rfl
          clear hrw
          go_wp2_with (first | (go_at_call 106; refine (insist_yes _).mono ?_; rintro e w' ⟨rfl, hw'⟩; obtain rfl := hw'.symm) | (go_at_call 120; (first | rw [HWR.out] | rw [HQ.out]); refine (tof_no (termOf_any HT.out HR2.out HK.out x HW.out) HE.out).mono ?_; rintro e w5 ⟨rfl, ht5⟩))
          exact ⟨rfl, HT1.out.trans (HTS.out.trans ht5), .inr ⟨HGN.out, rfl⟩⟩
        | some ty =>
          obtain ⟨⟨K, N, S, L⟩, y⟩ := ty
          have HE : Hid (raw true E.H (rT true E.H d') x k = some (.mk K N S L, y)) := hrw
          clear hrw
          cases hsh : shapeB K N S L.length with
          | true =>
            have HSH : Hid (shapeB K N S L.length = true) := hsh
            have HGS : Hid (G = some (.mk K N S L, y)) := by show _ = _; rw [← HG.out, HE.out]; exact held_true.2 ⟨rfl, hsh⟩
            clear hsh
            go_wp2_with (first | (go_at_call 106; refine (insist_yes _).mono ?_; rintro e w' ⟨rfl, hw'⟩; obtain rfl := hw'.symm) | (go_at_call 120; (first | rw [HWR.out] | rw [HQ.out]); refine (tof_yes (termOf_any HT.out HR2.out HK.out x HW.out) HE.out).mono ?_; rintro e w5 ⟨v, rfl, ht5, hv5, hr5⟩; obtain ⟨ao, cap, rfl, hs5, hl5, hc5, hp5⟩ := hv5; have HS5 : Hid (S.size ≤ maxLen) := hs5; have HV5 : Hid (L.length ≤ cap ∧ cap ≤ maxLen ∧ OwL w5 L (w.heap.size + 1) w5.heap.size ao) := ⟨hl5, hc5, (by rw [HZS.out] at hp5; exact hp5)⟩; have HT5 : Hid (Turn E.rb w1 w5) := HTS.out.trans ht5; obtain ⟨q5, f5⟩ := HT5.out.keep hne (by omega) q1 f1; have hz5 := HT5.out.size; have HR5 : Hid (Rr E y w5) := hr5; clear ht5 hs5 hl5 hc5 hp5 hr5) | (go_at_call 121; refine (right_any K N S HS5.out ao L.length cap _).mono ?_; rintro e w7 ⟨rfl, hb7⟩; rw [HSH.out]; obtain ⟨b7, hk7, hz7, o7, t7, p7⟩ := box_two hb7; have HT7 : Hid (Turn E.rb w5 w7) := turn_two hk7 hz7 o7 t7 p7; obtain ⟨q7, f7⟩ := HT7.out.keep hne (by omega) q5 f5; have HR7 : Hid (Rr E y w7) := HR5.out.same HR5.out hk7; have HK7 : Hid (∀ k, k < w5.heap.size → w7.heap[k]? = w5.heap[k]?) := hk7; clear hb7 hk7 o7 t7 p7))
            have hv7 : OwV w7 (w.heap.size + 1) w7.heap.size (.mk K N S L) (.agg #[.int .i64 K, .int .i64 N, .string S, .slice ao L.length cap]) := by
              exact ⟨ao, cap, rfl, HS5.out, HV5.out.1, HV5.out.2.1, (OwL.keep _ _ _ _ (fun b' h1 h2 hbl => HK7.out b' h2) HV5.out.2.2).mono (Nat.le_refl _) (by omega)⟩
            obtain ⟨a1, a2, a3⟩ := box_out HR.out (HT1.out.trans (HT5.out.trans HT7.out)) (by omega) HR7.out hv7 (.int .i64 K) (.int .i64 N) (.string S) (.slice ao L.length cap)
            exact bodyPost_ret (v := .agg #[.int .i64 K, .int .i64 N, .string S, .slice ao L.length cap]) (by simp [results, Try.results83, go_sem, q7]) rfl ⟨a1, .inl ⟨_, _, _, HGS.out, rfl, a2, a3⟩⟩
          | false =>
            have HSH : Hid (shapeB K N S L.length = false) := hsh
            have HGN : Hid (G = none) := by show _ = _; rw [← HG.out, HE.out]; simp [held, shT, hsh]
            clear hsh
            go_wp2_with (first | (go_at_call 106; refine (insist_yes _).mono ?_; rintro e w' ⟨rfl, hw'⟩; obtain rfl := hw'.symm) | (go_at_call 120; (first | rw [HWR.out] | rw [HQ.out]); refine (tof_yes (termOf_any HT.out HR2.out HK.out x HW.out) HE.out).mono ?_; rintro e w5 ⟨v, rfl, ht5, hv5, hr5⟩; obtain ⟨ao, cap, rfl, hs5, hl5, hc5, hp5⟩ := hv5; have HS5 : Hid (S.size ≤ maxLen) := hs5; have HV5 : Hid (L.length ≤ cap ∧ cap ≤ maxLen ∧ OwL w5 L (w.heap.size + 1) w5.heap.size ao) := ⟨hl5, hc5, (by rw [HZS.out] at hp5; exact hp5)⟩; have HT5 : Hid (Turn E.rb w1 w5) := HTS.out.trans ht5; obtain ⟨q5, f5⟩ := HT5.out.keep hne (by omega) q1 f1; have hz5 := HT5.out.size; have HR5 : Hid (Rr E y w5) := hr5; clear ht5 hs5 hl5 hc5 hp5 hr5) | (go_at_call 121; refine (right_any K N S HS5.out ao L.length cap _).mono ?_; rintro e w7 ⟨rfl, hb7⟩; rw [HSH.out]; obtain ⟨b7, hk7, hz7, o7, t7, p7⟩ := box_two hb7; have HT7 : Hid (Turn E.rb w5 w7) := turn_two hk7 hz7 o7 t7 p7; obtain ⟨q7, f7⟩ := HT7.out.keep hne (by omega) q5 f5; have HR7 : Hid (Rr E y w7) := HR5.out.same HR5.out hk7; have HK7 : Hid (∀ k, k < w5.heap.size → w7.heap[k]? = w5.heap[k]?) := hk7; clear hb7 hk7 o7 t7 p7) | (go_at_call 106; refine (insist_no _).mono ?_; rintro e w1 ⟨rfl, rfl⟩))
            exact ⟨rfl, HT1.out.trans (HT5.out.trans HT7.out), .inr ⟨HGN.out, rfl⟩⟩
    · have hd0 : d = 0 := by have := HDD.out; omega
      rw [hd0, rT]
      clear hw
      go_enter Try.func83, Try.ntmps83
      go_wp2_with (first | (go_at_call 119; refine (isWord_any x HX.out _).mono ?_; rintro e w1 ⟨rfl, rfl⟩; rw [HW.out]) | (go_at_call 106; refine (insist_no _).mono ?_; rintro e w1 ⟨rfl, rfl⟩))
      exact ⟨rfl, (box_in HR.out _ _ rfl).2.2.2.1, .inr ⟨trivial, rfl⟩⟩
theorem term_all (E : Env) : ∀ d : Nat, d ≤ 6 → TermC E d
  | 0, h => term_of h (fun d' e => by omega)
  | d + 1, h => term_of h (fun d' e => by
      have : d' = d := by omega
      subst this
      exact term_all E d' (by omega))
end Go.Proofs.Ytadihpbleomlkaa.Gn
