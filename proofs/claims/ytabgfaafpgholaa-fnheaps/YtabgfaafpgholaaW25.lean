/-
  How the program reads words that a function value tells: one term whole, at every depth.
  The program reads a term by a function value that tells words.
  The program's ReadTerm and GensRead.
  Whether all roots are read, by the program.
-/
import Derived.Test.YtabgfaafpgholaaW24
import Derived.Test.YtabgfaafpgholaaW21
namespace Go.Proofs.Ytabgfaafpgholaa.Gn
open Go.RowKit
set_option linter.unusedVariables false

theorem tof_yes {E : Env} {d : Nat} {w : World} {left : Nat} {x : Int} (h : TofC E d w left x) {t : Tm} {y : Nat} (he : raw true E.H (rT true E.H d) x left = some (t, y)) :
    Calls Try.prog 107 #[.pointer (some ⟨E.rb, 0, none⟩), .int .i64 x, .int .i64 d] w fun e w' => ∃ v, e = .returned v ∧ Turn E.rb w w' ∧ OwE w' (w.heap.size) w'.heap.size t v ∧ Rr E y w' := by
  refine Calls.mono h ?_
  rintro e w' ⟨ht, ⟨t', y', v, hh, rfl, hv, hrr⟩ | ⟨hh, rfl⟩⟩
  · rw [he] at hh
    simp only [Option.some.injEq, Prod.mk.injEq] at hh
    obtain ⟨rfl, rfl⟩ := hh
    exact ⟨v, rfl, ht, hv, hrr⟩
  · rw [he] at hh; cases hh
theorem tof_no {E : Env} {d : Nat} {w : World} {left : Nat} {x : Int} (h : TofC E d w left x) (he : raw true E.H (rT true E.H d) x left = none) :
    Calls Try.prog 107 #[.pointer (some ⟨E.rb, 0, none⟩), .int .i64 x, .int .i64 d] w fun e w' => e = .panicked PN ∧ Turn E.rb w w' := by
  refine Calls.mono h ?_
  rintro e w' ⟨ht, ⟨t', y', v, hh, rfl, hv, hrr⟩ | ⟨hh, rfl⟩⟩
  · rw [he] at hh; cases hh
  · exact ⟨rfl, ht⟩
set_option maxHeartbeats 4000000 in
set_option maxRecDepth 100000 in
theorem term_of {E : Env} {d : Nat} (hd6 : d ≤ 6) (ih : ∀ d', d = d' + 1 → TermC E d') : TermC E d := by
  intro w left x h hl hx
  have HR : Hid (Rr E left w) := h
  have HX : Hid (x ≤ 9223372036854775807) := hx
  have HL : Hid (left ≤ 100) := hl
  have IH : Hid (∀ d', d = d' + 1 → TermC E d') := ih
  clear h hx ih
  obtain ⟨D, hD⟩ : ∃ D : Int, D = d := ⟨_, rfl⟩
  rw [← hD]
  have HDD : Hid (D = d) := hD
  have hD0 : 0 ≤ D := by omega
  have hD6 : D ≤ 6 := by omega
  clear hD
  cases hw : isW x with
  | false =>
    have HW : Hid (isW x = false) := hw
    rw [rT_isW hw]
    clear hw
    go_enter Try.func81, Try.ntmps81
    go_wp2_with (first | (go_at_call 106; refine (isWord_any x HX.out _).mono ?_; rintro e w1 ⟨rfl, rfl⟩; rw [HW.out]) | (go_at_call 93; refine (insist_no _).mono ?_; rintro e w1 ⟨rfl, rfl⟩))
    exact ⟨rfl, (box_in HR.out _ _ rfl).2.2.2.1, .inr ⟨trivial, rfl⟩⟩
  | true =>
    have HW : Hid (isW x = true) := hw
    by_cases hDp : 0 < D
    · obtain ⟨d', hd'⟩ : ∃ d' : Nat, d = d' + 1 := ⟨d - 1, by have := HDD.out; omega⟩
      have HT : Hid (TermC E d') := IH.out d' hd'
      have HQ : Hid (D - 1 = d') := by show _ = _; have := HDD.out; omega
      have HWR : Hid (IntKind.i64.wrap (D - 1) = d') := by show _ = _; have := HDD.out; rw [IntKind.wrap_i64]; omega
      cases left with
      | zero =>
        rw [rT_left]
        clear hw
        go_enter Try.func81, Try.ntmps81
        go_wp2_with fail
        refine (isWord_any x HX.out _).mono ?_
        rintro e w1 ⟨rfl, hw1⟩
        rw [HW.out]
        obtain ⟨hz1, q1, f1, ht1, hr1, hne⟩ := box_in HR.out _ _ hw1
        have HT1 : Hid (Turn E.rb w w1) := ht1
        have c2 := hr1.c2
        clear hw1 ht1 hr1
        go_wp2_with (first | (go_at_call 93; refine (insist_no _).mono ?_; rintro e w1 ⟨rfl, rfl⟩))
        exact ⟨rfl, HT1.out, .inr ⟨trivial, rfl⟩⟩
      | succ k =>
        rw [hd', rT_on hw]
        generalize hG : held true (raw true E.H (rT true E.H d') x k) = G
        have HG : Hid (held true (raw true E.H (rT true E.H d') x k) = G) := hG
        clear hG
        have HK : Hid (k ≤ 100) := by show _ ≤ _; omega
        have hk100 : (k : Int) ≤ 100 := by omega
        clear hw hd' hl
        go_enter Try.func81, Try.ntmps81
        go_wp2_with fail
        refine (isWord_any x HX.out _).mono ?_
        rintro e w1 ⟨rfl, hw1⟩
        rw [HW.out]
        obtain ⟨hz1, q1, f1, ht1, hr1, hne⟩ := box_in HR.out _ _ hw1
        have HT1 : Hid (Turn E.rb w w1) := ht1
        have HR1 : Hid (Rr E (k + 1) w1) := hr1
        have c2 := hr1.c2
        have cf := hr1.fr
        have HR2 : Hid (Rr E k (w1.setCell ⟨E.rb, 2, none⟩ (.int .i64 k))) := hr1.set k
        have hrl := hr1.lt
        have hk1 : (0 : Int) < ((k + 1 : Nat) : Int) := by omega
        have HTS : Hid (Turn E.rb w1 (w1.setCell ⟨E.rb, 2, none⟩ (.int .i64 k))) := (Turn.refl _ _).set 2 _
        have HZS : Hid ((w1.setCell ⟨E.rb, 2, none⟩ (.int .i64 k)).heap.size = w.heap.size + 1) := by show _ = _; rw [World.size_setCell]; exact hz1
        clear hw1 ht1 hr1
        cases hrw : raw true E.H (rT true E.H d') x k with
        | none =>
          have HE : Hid (raw true E.H (rT true E.H d') x k = none) := hrw
          have HGN : Hid (G = none) := by show _ = _; rw [← HG.out, hrw]; rfl
          clear hrw
          go_wp2_with (first | (go_at_call 93; refine (insist_yes _).mono ?_; rintro e w' ⟨rfl, hw'⟩; obtain rfl := hw'.symm) | (go_at_call 107; (first | rw [HWR.out] | rw [HQ.out]); refine (tof_no (termOf_any HT.out HR2.out HK.out x HW.out) HE.out).mono ?_; rintro e w5 ⟨rfl, ht5⟩))
          exact ⟨rfl, HT1.out.trans (HTS.out.trans ht5), .inr ⟨HGN.out, rfl⟩⟩
        | some ty =>
          obtain ⟨⟨K, N, S, L⟩, y⟩ := ty
          have HE : Hid (raw true E.H (rT true E.H d') x k = some (.mk K N S L, y)) := hrw
          clear hrw
          cases hsh : shapeB K N S L.length with
          | true =>
            have HSH : Hid (shapeB K N S L.length = true) := hsh
            have HGS : Hid (G = some (.mk K N S L, y)) := by show _ = _; rw [← HG.out, HE.out]; exact held_true.2 ⟨rfl, hsh⟩
            clear hsh
            go_wp2_with (first | (go_at_call 93; refine (insist_yes _).mono ?_; rintro e w' ⟨rfl, hw'⟩; obtain rfl := hw'.symm) | (go_at_call 107; (first | rw [HWR.out] | rw [HQ.out]); refine (tof_yes (termOf_any HT.out HR2.out HK.out x HW.out) HE.out).mono ?_; rintro e w5 ⟨v, rfl, ht5, hv5, hr5⟩; obtain ⟨ao, cap, rfl, hs5, hl5, hc5, hp5⟩ := hv5; have HS5 : Hid (S.size ≤ maxLen) := hs5; have HV5 : Hid (L.length ≤ cap ∧ cap ≤ maxLen ∧ OwL w5 L (w.heap.size + 1) w5.heap.size ao) := ⟨hl5, hc5, (by rw [HZS.out] at hp5; exact hp5)⟩; have HT5 : Hid (Turn E.rb w1 w5) := HTS.out.trans ht5; obtain ⟨q5, f5⟩ := HT5.out.keep hne (by omega) q1 f1; have hz5 := HT5.out.size; have HR5 : Hid (Rr E y w5) := hr5; clear ht5 hs5 hl5 hc5 hp5 hr5) | (go_at_call 108; refine (right_any K N S HS5.out ao L.length cap _).mono ?_; rintro e w7 ⟨rfl, hb7⟩; rw [HSH.out]; obtain ⟨b7, hk7, hz7, o7, t7, p7⟩ := box_two hb7; have HT7 : Hid (Turn E.rb w5 w7) := turn_two hk7 hz7 o7 t7 p7; obtain ⟨q7, f7⟩ := HT7.out.keep hne (by omega) q5 f5; have HR7 : Hid (Rr E y w7) := HR5.out.same HR5.out hk7; have HK7 : Hid (∀ k, k < w5.heap.size → w7.heap[k]? = w5.heap[k]?) := hk7; clear hb7 hk7 o7 t7 p7))
            have hv7 : OwE w7 (w.heap.size + 1) w7.heap.size (.mk K N S L) (.agg #[.int .i64 K, .int .i64 N, .string S, .slice ao L.length cap]) := by
              exact ⟨ao, cap, rfl, HS5.out, HV5.out.1, HV5.out.2.1, (OwL.keep _ _ _ _ (fun b' h1 h2 hbl => HK7.out b' h2) HV5.out.2.2).mono (Nat.le_refl _) (by omega)⟩
            obtain ⟨a1, a2, a3⟩ := box_out HR.out (HT1.out.trans (HT5.out.trans HT7.out)) (by omega) HR7.out hv7 (.int .i64 K) (.int .i64 N) (.string S) (.slice ao L.length cap)
            exact bodyPost_ret (v := .agg #[.int .i64 K, .int .i64 N, .string S, .slice ao L.length cap]) (by simp [results, Try.results81, go_sem, q7]) rfl ⟨a1, .inl ⟨_, _, _, HGS.out, rfl, a2, a3⟩⟩
          | false =>
            have HSH : Hid (shapeB K N S L.length = false) := hsh
            have HGN : Hid (G = none) := by show _ = _; rw [← HG.out, HE.out]; simp [held, shT, hsh]
            clear hsh
            go_wp2_with (first | (go_at_call 93; refine (insist_yes _).mono ?_; rintro e w' ⟨rfl, hw'⟩; obtain rfl := hw'.symm) | (go_at_call 107; (first | rw [HWR.out] | rw [HQ.out]); refine (tof_yes (termOf_any HT.out HR2.out HK.out x HW.out) HE.out).mono ?_; rintro e w5 ⟨v, rfl, ht5, hv5, hr5⟩; obtain ⟨ao, cap, rfl, hs5, hl5, hc5, hp5⟩ := hv5; have HS5 : Hid (S.size ≤ maxLen) := hs5; have HV5 : Hid (L.length ≤ cap ∧ cap ≤ maxLen ∧ OwL w5 L (w.heap.size + 1) w5.heap.size ao) := ⟨hl5, hc5, (by rw [HZS.out] at hp5; exact hp5)⟩; have HT5 : Hid (Turn E.rb w1 w5) := HTS.out.trans ht5; obtain ⟨q5, f5⟩ := HT5.out.keep hne (by omega) q1 f1; have hz5 := HT5.out.size; have HR5 : Hid (Rr E y w5) := hr5; clear ht5 hs5 hl5 hc5 hp5 hr5) | (go_at_call 108; refine (right_any K N S HS5.out ao L.length cap _).mono ?_; rintro e w7 ⟨rfl, hb7⟩; rw [HSH.out]; obtain ⟨b7, hk7, hz7, o7, t7, p7⟩ := box_two hb7; have HT7 : Hid (Turn E.rb w5 w7) := turn_two hk7 hz7 o7 t7 p7; obtain ⟨q7, f7⟩ := HT7.out.keep hne (by omega) q5 f5; have HR7 : Hid (Rr E y w7) := HR5.out.same HR5.out hk7; have HK7 : Hid (∀ k, k < w5.heap.size → w7.heap[k]? = w5.heap[k]?) := hk7; clear hb7 hk7 o7 t7 p7) | (go_at_call 93; refine (insist_no _).mono ?_; rintro e w1 ⟨rfl, rfl⟩))
            exact ⟨rfl, HT1.out.trans (HT5.out.trans HT7.out), .inr ⟨HGN.out, rfl⟩⟩
    · have hd0 : d = 0 := by have := HDD.out; omega
      rw [hd0, rT]
      clear hw
      go_enter Try.func81, Try.ntmps81
      go_wp2_with (first | (go_at_call 106; refine (isWord_any x HX.out _).mono ?_; rintro e w1 ⟨rfl, rfl⟩; rw [HW.out]) | (go_at_call 93; refine (insist_no _).mono ?_; rintro e w1 ⟨rfl, rfl⟩))
      exact ⟨rfl, (box_in HR.out _ _ rfl).2.2.2.1, .inr ⟨trivial, rfl⟩⟩
theorem term_all (E : Env) : ∀ d : Nat, d ≤ 6 → TermC E d
  | 0, h => term_of h (fun d' e => by omega)
  | d + 1, h => term_of h (fun d' e => by
      have : d' = d := by omega
      subst this
      exact term_all E d' (by omega))
end Go.Proofs.Ytabgfaafpgholaa.Gn

namespace Go.Proofs.Ytabgfaafpgholaa.Gn
open Go.RowKit
set_option linter.unusedVariables false

/-- The words and the atoms are there. -/
structure Src (E : Env) : Prop where
  ok : E.H.ok
  told : Told E
  al : E.H.A.length ≠ 0 → E.av = some ⟨E.ab, E.ao, none⟩
  ats : Txt E.W E.ab E.ao E.H.A
  big : ∀ p j, E.H.w p j ≤ 9223372036854775807
  txt : ∀ s, s ∈ E.H.A → s.size ≤ 1048576
theorem catch_read (B1 B2 : Nat) (z : Value) (w : World) (older : List PanicEntry) (u : TypeId) (pv : Value) (c : Array Value) (hc : c.size = 4)
    (q : ∀ o, w.cell? ⟨B1, o, none⟩ = c[o]?) (f : ∀ o, w.frozen? ⟨B1, o, none⟩ = false) (q2 : w.cell? ⟨B2, 0, none⟩ = some z) (f2 : w.frozen? ⟨B2, 0, none⟩ = false) (hn : B1 ≠ B2) :
    CallsD Try.prog 80 #[.pointer (some ⟨B1, 0, none⟩), .pointer (some ⟨B2, 0, none⟩)] (.panicking ({ v := .iface u pv, recovered := false } :: older)) w fun e u' w' =>
      e = .returned (.tuple #[]) ∧ u' = .panicking ({ v := .iface u pv, recovered := true } :: older) ∧ w' = (lay4 w B1 (.int .i64 0) (.int .i64 0) (.string ⟨#[]⟩) (.slice none 0 0)).setCell ⟨B2, 0, none⟩ (.bool false) := by
  refine callsD_of_wpS Try.func80 rfl fun c₀ cs hu => ?_
  have c0 : w.cell? ⟨B1, 0, none⟩ = some c[0] := by rw [q, Array.getElem?_eq_getElem (by omega)]
  have c1 : w.cell? ⟨B1, 1, none⟩ = some c[1] := by rw [q, Array.getElem?_eq_getElem (by omega)]
  have c2 : w.cell? ⟨B1, 2, none⟩ = some c[2] := by rw [q, Array.getElem?_eq_getElem (by omega)]
  have c3 : w.cell? ⟨B1, 3, none⟩ = some c[3] := by rw [q, Array.getElem?_eq_getElem (by omega)]
  clear q
  apply wpS_seq
  apply wpS_region
  simp [wpOpsS, go_sem, recoverD, hu, Try.ntmps80, Exit.thenS]
  refine wpS_cond (t := true) (by simp [Act.eval, Array.replicate]) ?_
  simp only [if_true]
  apply wpS_region
  simp [wpOpsS, go_sem, c0, c1, c2, c3, q2, f, f2, bodyPostS, results, Try.results80, lay4]
theorem catch_idle (p1 p2 : Value) (w : World) :
    CallsD Try.prog 80 #[p1, p2] .returning w fun e u' w' => e = .returned (.tuple #[]) ∧ u' = .returning ∧ w' = w := by
  refine callsD_of_wpS Try.func80 rfl fun c₀ cs hu => ?_
  apply wpS_seq
  apply wpS_region
  simp [wpOpsS, go_sem, recoverD, hu, Try.ntmps80, Exit.thenS]
  refine wpS_cond (t := false) (by simp [Act.eval, Array.replicate]) ?_
  simp only [Bool.false_eq_true, if_false]
  refine wpS_of_wp (wp_skip ?_)
  cases c₀
  simp_all [bodyPostS, results, Try.results80]

abbrev fvE (E : Env) : Value := .func (.func E.fk) #[] #[.pointer (some ⟨E.gb, 0, none⟩)]
abbrev E4 (E : Env) (w : World) : Env := { E with rb := w.heap.size + 1 + 1 }
theorem read_in {E : Env} {w : World} (hE : E.W = w) (h : Src E) (W : World) (hW : W = ((w.alloc (.cells #[.int .i64 0, .int .i64 0, .string ⟨#[]⟩, .slice none 0 0] 39)).alloc (.cells #[.bool false] 4)).alloc (.cells #[fvE E, .slice E.av E.H.A.length E.acap, .int .i64 100] 114)) :
    Rr (E4 E w) 100 W ∧ (∀ o, W.cell? ⟨w.heap.size, o, none⟩ = (#[.int .i64 0, .int .i64 0, .string ⟨#[]⟩, .slice none 0 0] : Array Value)[o]?) ∧ (∀ o, W.frozen? ⟨w.heap.size, o, none⟩ = false) ∧ (∀ o, W.cell? ⟨w.heap.size + 1, o, none⟩ = (#[.bool false] : Array Value)[o]?) ∧ (∀ o, W.frozen? ⟨w.heap.size + 1, o, none⟩ = false) ∧ W.heap.size = w.heap.size + 3 ∧ Below w.heap.size w W := by
  have s2 : (w.alloc (.cells #[.int .i64 0, .int .i64 0, .string ⟨#[]⟩, .slice none 0 0] 39)).heap.size = w.heap.size + 1 := by rw [World.size_alloc]
  have b2 : Below w.heap.size w (w.alloc (.cells #[.int .i64 0, .int .i64 0, .string ⟨#[]⟩, .slice none 0 0] 39)) := (Below.refl _ _).alloc (Nat.le_refl _) _
  have q2 : ∀ o, (w.alloc (.cells #[.int .i64 0, .int .i64 0, .string ⟨#[]⟩, .slice none 0 0] 39)).cell? ⟨w.heap.size, o, none⟩ = (#[.int .i64 0, .int .i64 0, .string ⟨#[]⟩, .slice none 0 0] : Array Value)[o]? := fun o => World.cell?_alloc_new w _ _ o
  have f2 : ∀ o, (w.alloc (.cells #[.int .i64 0, .int .i64 0, .string ⟨#[]⟩, .slice none 0 0] 39)).frozen? ⟨w.heap.size, o, none⟩ = false := fun o => World.frozen?_alloc_new w _ _ o
  generalize (w.alloc (.cells #[.int .i64 0, .int .i64 0, .string ⟨#[]⟩, .slice none 0 0] 39)) = w2 at *
  have s3 : (w2.alloc (.cells #[.bool false] 4)).heap.size = w.heap.size + 1 + 1 := by rw [World.size_alloc, s2]
  have b3 := b2.alloc (by omega) (.cells #[.bool false] 4)
  have k3 : Below w2.heap.size w2 (w2.alloc (.cells #[.bool false] 4)) := (Below.refl _ _).alloc (Nat.le_refl _) _
  have q3 : ∀ o, (w2.alloc (.cells #[.bool false] 4)).cell? ⟨w.heap.size + 1, o, none⟩ = (#[.bool false] : Array Value)[o]? := fun o => by rw [← s2]; exact World.cell?_alloc_new w2 _ _ o
  have f3 : ∀ o, (w2.alloc (.cells #[.bool false] 4)).frozen? ⟨w.heap.size + 1, o, none⟩ = false := fun o => by rw [← s2]; exact World.frozen?_alloc_new w2 _ _ o
  generalize (w2.alloc (.cells #[.bool false] 4)) = w3 at *
  have s4 : (w3.alloc (.cells #[fvE E, .slice E.av E.H.A.length E.acap, .int .i64 100] 114)).heap.size = w.heap.size + 3 := by rw [World.size_alloc, s3]
  have b4 := b3.alloc (by omega) (.cells #[fvE E, .slice E.av E.H.A.length E.acap, .int .i64 100] 114)
  have k4 : Below w3.heap.size w3 (w3.alloc (.cells #[fvE E, .slice E.av E.H.A.length E.acap, .int .i64 100] 114)) := (Below.refl _ _).alloc (Nat.le_refl _) _
  have q4 : ∀ o, (w3.alloc (.cells #[fvE E, .slice E.av E.H.A.length E.acap, .int .i64 100] 114)).cell? ⟨w.heap.size + 1 + 1, o, none⟩ = (#[fvE E, .slice E.av E.H.A.length E.acap, .int .i64 100] : Array Value)[o]? := fun o => by rw [← s3]; exact World.cell?_alloc_new w3 _ _ o
  have f4 : ∀ o, (w3.alloc (.cells #[fvE E, .slice E.av E.H.A.length E.acap, .int .i64 100] 114)).frozen? ⟨w.heap.size + 1 + 1, o, none⟩ = false := fun o => by rw [← s3]; exact World.frozen?_alloc_new w3 _ _ o
  generalize (w3.alloc (.cells #[fvE E, .slice E.av E.H.A.length E.acap, .int .i64 100] 114)) = W4 at *
  subst hW
  refine ⟨⟨q4 0, q4 1, q4 2, f4 2, h.ok, ⟨h.told.one, h.told.call, h.told.ws⟩, ?_, ?_, h.al, h.ats, h.big, h.txt⟩, fun o => ?_, fun o => ?_, fun o => ?_, fun o => ?_, s4, b4⟩
  · show Agr E.W _
    rw [hE]
    exact ⟨by omega, fun k hk => b4.block k hk⟩
  · show E.W.heap.size ≤ w.heap.size + 1 + 1
    rw [hE]; omega
  · rw [k4.cell (p := ⟨w.heap.size, o, none⟩) (by show w.heap.size < _; omega), k3.cell (p := ⟨w.heap.size, o, none⟩) (by show w.heap.size < _; omega)]; exact q2 o
  · rw [k4.frozen (p := ⟨w.heap.size, o, none⟩) (by show w.heap.size < _; omega), k3.frozen (p := ⟨w.heap.size, o, none⟩) (by show w.heap.size < _; omega)]; exact f2 o
  · rw [k4.cell (p := ⟨w.heap.size + 1, o, none⟩) (by show w.heap.size + 1 < _; omega)]; exact q3 o
  · rw [k4.frozen (p := ⟨w.heap.size + 1, o, none⟩) (by show w.heap.size + 1 < _; omega)]; exact f3 o
set_option maxHeartbeats 2000000 in
set_option maxRecDepth 100000 in
theorem readOff_any (E : Env) (w : World) (hE : E.W = w) (h : Src E) (x : Int) (hx : x ≤ 9223372036854775807) :
    Calls Try.prog 60 #[fvE E, .slice E.av E.H.A.length E.acap, .int .i64 x] w fun e w' => Below w.heap.size w w' ∧
      ((∃ t v, readT E.H x = some t ∧ e = .returned (.tuple #[v, .bool true]) ∧ OwE w' (w.heap.size) w'.heap.size t v) ∨ (readT E.H x = none ∧ e = .returned (.tuple #[zT, .bool false]))) := by
  have hmf : ∀ (fn : Fn) (first cap : Array Value) (w : World), (Instr.makeFunc fn first cap).run Try.prog w = .ok (.func fn first cap) w := fun _ _ _ _ => rfl
  have HS : Hid (Src E) := h
  have HEW : Hid (E.W = w) := hE
  have HX : Hid (x ≤ 9223372036854775807) := hx
  clear h hx hE
  go_enter_defers Try.func60, Try.ntmps60
  go_wp2_with fail
  generalize hW : ((w.alloc (.cells #[.int .i64 0, .int .i64 0, .string ⟨#[]⟩, .slice none 0 0] 39)).alloc (.cells #[.bool false] 4)).alloc (.cells #[fvE E, .slice E.av E.H.A.length E.acap, .int .i64 100] 114) = W
  obtain ⟨hr4, q1, f1, q2, f2, hz4, hb4⟩ := read_in HEW.out HS.out W hW.symm
  have HB4 : Hid (Below w.heap.size w W) := hb4
  clear hW hb4
  have hrt : ∀ o, rT true E.H 6 x 100 = o → readT E.H x = o.map Prod.fst := fun o h => by rw [readT, h]
  cases hq : rT true E.H 6 x 100 with
  | none =>
    have HN : Hid (readT E.H x = none) := hrt _ hq
    refine (term_no (E := E4 E w) (term_all _ 6 (Nat.le_refl _)) hr4 (by decide) HX.out hq).mono ?_
    rintro e w5 ⟨rfl, ht5⟩
    obtain ⟨q15, f15⟩ := ht5.keep (by show w.heap.size + 1 + 1 ≠ _; omega) (by omega) q1 f1
    obtain ⟨q25, f25⟩ := ht5.keep (by show w.heap.size + 1 + 1 ≠ _; omega) (by omega) q2 f2
    have HB5 : Hid (Below w.heap.size w w5) := Turn.below HB4.out (by omega) ht5 (by show _ ≤ w.heap.size + 1 + 1; omega)
    clear hr4 q1 f1 q2 f2 hrt hq ht5
    go_wp2_with fail
    refine leaves_cons (f := 80) (args := #[.pointer (some ⟨w.heap.size, 0, none⟩), .pointer (some ⟨w.heap.size + 1, 0, none⟩)]) (by simp) (by simp [go_sem]) ?_
    refine (catch_read (w.heap.size) (w.heap.size + 1) (.bool false) _ [] _ _ _ rfl q15 f15 (q25 0) (f25 0) (by omega)).mono ?_
    rintro e u' w'' ⟨rfl, rfl, rfl⟩
    simp only [settle, List.dropWhile, Leaves]
    refine ⟨.tuple #[zT, .bool false], by simp [results, Try.results60, go_sem, q15, q25, lay4], ?_⟩
    exact ⟨(lay4_below HB5.out (by omega) _ _ _ _).setCell (by show _ ≤ w.heap.size + 1; omega) _, .inr ⟨HN.out, rfl⟩⟩
  | some ty =>
    obtain ⟨t, y⟩ := ty
    have HN : Hid (readT E.H x = some t) := hrt _ hq
    refine (term_yes (E := E4 E w) (term_all _ 6 (Nat.le_refl _)) hr4 (by decide) HX.out hq).mono ?_
    rintro e w5 ⟨va, vb, vc, vd, ve, vf, rfl, ht5, hv5, hr5⟩
    obtain ⟨q15, f15⟩ := ht5.keep (by show w.heap.size + 1 + 1 ≠ _; omega) (by omega) q1 f1
    obtain ⟨q25, f25⟩ := ht5.keep (by show w.heap.size + 1 + 1 ≠ _; omega) (by omega) q2 f2
    have HB5 : Hid (Below w.heap.size w w5) := Turn.below HB4.out (by omega) ht5 (by show _ ≤ w.heap.size + 1 + 1; omega)
    have HV5 : Hid (OwE w5 (w.heap.size + 3) w5.heap.size t (.agg #[.int .i64 va, .int .i64 vb, .string vc, .slice vd ve vf])) := by rw [hz4] at hv5; exact hv5
    clear hr4 q1 f1 q2 f2 hrt hq ht5 hv5 hr5
    go_wp2_with fail
    refine leaves_cons (f := 80) (args := #[.pointer (some ⟨w.heap.size, 0, none⟩), .pointer (some ⟨w.heap.size + 1, 0, none⟩)]) (by simp) (by simp [go_sem]) ?_
    refine (catch_idle _ _ _).mono ?_
    rintro e u' w'' ⟨rfl, rfl, rfl⟩
    simp only [settle, Leaves]
    refine ⟨.tuple #[.agg #[.int .i64 va, .int .i64 vb, .string vc, .slice vd ve vf], .bool true], by simp [results, Try.results60, go_sem, q15, q25], ?_⟩
    refine ⟨(lay4_below HB5.out (by omega) _ _ _ _).setCell (by show _ ≤ w.heap.size + 1; omega) _, .inl ⟨t, _, HN.out, rfl, (OwE.keep (fun b' h1 h2 hbl => ?_) HV5.out).mono (by omega) (Nat.le_of_eq ?_)⟩⟩
    · rw [Below.heap_setCell _ ⟨w.heap.size + 1, 0, none⟩ _ b' (by show b' ≠ w.heap.size + 1; omega)]
      exact lay4_heap (by omega)
    · rw [World.size_setCell, World.size_setCell, World.size_setCell, World.size_setCell, World.size_setCell]
end Go.Proofs.Ytabgfaafpgholaa.Gn

namespace Go.Proofs.Ytabgfaafpgholaa.Gn
open Go.RowKit
set_option linter.unusedVariables false

theorem heapFrom_any (wv : Option Addr) (N cap : Nat) (w : World) : Calls Try.prog 59 #[.agg #[.slice wv N cap]] w fun e w' => e = .returned (.func (.func 78) #[] #[.pointer (some ⟨w.heap.size, 0, none⟩)]) ∧ w' = w.alloc (.cells #[.slice wv N cap] 32) := by
  have hmf : ∀ (fn : Fn) (first cap : Array Value) (w : World), (Instr.makeFunc fn first cap).run Try.prog w = .ok (.func fn first cap) w := fun _ _ _ _ => rfl
  go_enter Try.func59, Try.ntmps59
  go_wp2_with fail
  go_ret
  exact ⟨rfl, rfl⟩
/-! ### A heap -/
/-- The heap E, told by the function value whose variable stands in the block gb of W. -/
abbrev ofHeap (E : Ytabgfaafpgholaa.Env) (W : World) (gb : Nat) : Env := ⟨flat E.H, W, 0, 78, gb, fun _ => E.b, fun p => E.o + p, E.av, E.ab, E.ao, E.acap⟩
theorem ofHeap_src {E : Ytabgfaafpgholaa.Env} {W : World} {gb : Nat} (h : Ytabgfaafpgholaa.Src E W) (hl : Lst E.wv E.b E.o E.H.N E.cap) (hc : W.cell? ⟨gb, 0, none⟩ = some (.slice E.wv E.H.N E.cap)) : Src (ofHeap E W gb) := by
  refine ⟨flat_ok h.ok, ⟨.inl rfl, fun w p ha hp => ?_, fun p j hj => ?_⟩, h.al, h.ats, fun p j => h.big _, h.txt⟩
  · exact heapTells E.wv E.b E.o E.H.N E.cap p gb hl h.ok.n hp w (ha.cell hc)
  · have hj' : j < E.H.N - p := hj
    show W.cell? ⟨E.b, E.o + p + j, none⟩ = some (.int .i64 (E.H.f (p + j)))
    rw [Nat.add_assoc]
    exact h.ws (p + j) (by omega)
theorem off_form {o : Option Tm} {e : Ending} {w' : World} {lo : Nat} (h : (∃ t v, o = some t ∧ e = .returned (.tuple #[v, .bool true]) ∧ OwE w' lo w'.heap.size t v) ∨ (o = none ∧ e = .returned (.tuple #[zT, .bool false]))) :
    ∃ va vb vc vd ve vf ok, e = .returned (.tuple #[.agg #[.int .i64 va, .int .i64 vb, .string vc, .slice vd ve vf], .bool ok]) ∧ ((∃ t, o = some t ∧ ok = true ∧ OwE w' lo w'.heap.size t (.agg #[.int .i64 va, .int .i64 vb, .string vc, .slice vd ve vf])) ∨ (o = none ∧ ok = false ∧ (.agg #[.int .i64 va, .int .i64 vb, .string vc, .slice vd ve vf]) = zT)) := by
  rcases h with ⟨t, v, h1, rfl, h3⟩ | ⟨h1, rfl⟩
  · obtain ⟨va, vb, vc, vd, ve, vf, rfl⟩ := h3.form
    exact ⟨va, vb, vc, vd, ve, vf, true, rfl, .inl ⟨t, h1, rfl, h3⟩⟩
  · exact ⟨0, 0, _, _, _, _, false, rfl, .inr ⟨h1, rfl, rfl⟩⟩
set_option maxHeartbeats 2000000 in
set_option maxRecDepth 100000 in
theorem implRead_any (E : Ytabgfaafpgholaa.Env) (w : World) (h : Ytabgfaafpgholaa.Src E w) (hl : Lst E.wv E.b E.o E.H.N E.cap) (x : Int) (hx : x ≤ 9223372036854775807) :
    Calls Try.prog 28 #[.agg #[.slice E.wv E.H.N E.cap], .slice E.av E.H.A.length E.acap, .int .i64 x] w fun e w' => Below w.heap.size w w' ∧
      ((∃ t v, Ytabgfaafpgholaa.readT E.H x = some t ∧ e = .returned (.tuple #[v, .bool true]) ∧ OwE w' (w.heap.size) w'.heap.size t v) ∨ (Ytabgfaafpgholaa.readT E.H x = none ∧ e = .returned (.tuple #[zT, .bool false]))) := by
  have HS : Hid (Ytabgfaafpgholaa.Src E w) := h
  have HL : Hid (Lst E.wv E.b E.o E.H.N E.cap) := hl
  have HX : Hid (x ≤ 9223372036854775807) := hx
  clear h hl hx
  go_enter Try.func28, Try.ntmps28
  go_wp2_with fail
  refine (heapFrom_any _ _ _ _).mono ?_
  rintro e w1 ⟨rfl, hw1⟩
  obtain ⟨wa, hwa⟩ : ∃ wa, wa = w.alloc (.cells #[.slice E.wv E.H.N E.cap] 32) := ⟨_, rfl⟩
  have hsa : wa.heap.size = w.heap.size + 1 := by rw [hwa, World.size_alloc]
  have hba : Below w.heap.size w wa := by rw [hwa]; exact (Below.refl _ _).alloc (Nat.le_refl _) _
  rw [← hwa] at hw1 ⊢
  obtain ⟨wb, hwb⟩ : ∃ wb, wb = wa.alloc (.cells #[.int .i64 0, .int .i64 0, .string ⟨#[]⟩, .slice none 0 0] 39) := ⟨_, rfl⟩
  have hsb : wb.heap.size = w.heap.size + 2 := by rw [hwb, World.size_alloc, hsa]
  have hbb : Below w.heap.size w wb := by rw [hwb]; exact hba.alloc (by omega) _
  have qb : ∀ o, wb.cell? ⟨wa.heap.size, o, none⟩ = (#[.int .i64 0, .int .i64 0, .string ⟨#[]⟩, .slice none 0 0] : Array Value)[o]? := fun o => by rw [hwb]; exact World.cell?_alloc_new wa _ _ o
  have fb : ∀ o, wb.frozen? ⟨wa.heap.size, o, none⟩ = false := fun o => by rw [hwb]; exact World.frozen?_alloc_new wa _ _ o
  rw [← hwb] at hw1 ⊢
  have hs1 : w1.heap.size = w.heap.size + 3 := by rw [hw1, World.size_alloc, hsb]
  have hb1 : Below w.heap.size w w1 := by rw [hw1]; exact hbb.alloc (by omega) _
  have kb1 : Below wb.heap.size wb w1 := by rw [hw1]; exact (Below.refl _ _).alloc (Nat.le_refl _) _
  have q1 : ∀ o, w1.cell? ⟨wa.heap.size, o, none⟩ = (#[.int .i64 0, .int .i64 0, .string ⟨#[]⟩, .slice none 0 0] : Array Value)[o]? := fun o => by rw [kb1.cell (p := ⟨wa.heap.size, o, none⟩) (by show wa.heap.size < _; omega)]; exact qb o
  have f1 : ∀ o, w1.frozen? ⟨wa.heap.size, o, none⟩ = false := fun o => by rw [kb1.frozen (p := ⟨wa.heap.size, o, none⟩) (by show wa.heap.size < _; omega)]; exact fb o
  have HSR : Hid (Src (ofHeap E w1 wb.heap.size)) := ofHeap_src (HS.out.below hb1) HL.out (by rw [hw1]; exact World.cell?_alloc_new wb _ _ 0)
  have HB1 : Hid (Below w.heap.size w w1) := hb1
  clear hw1 hwb hwa qb fb kb1 hb1 hbb hba
  have HC : Hid (Calls Try.prog 60 #[.func (.func 78) #[] #[.pointer (some ⟨wb.heap.size, 0, none⟩)], .slice E.av E.H.A.length E.acap, .int .i64 x] w1 fun e w5 => ∃ va vb vc vd ve vf ok, e = .returned (.tuple #[.agg #[.int .i64 va, .int .i64 vb, .string vc, .slice vd ve vf], .bool ok]) ∧ Below w1.heap.size w1 w5 ∧ ((∃ t, Ytabgfaafpgholaa.readT E.H x = some t ∧ ok = true ∧ OwE w5 w1.heap.size w5.heap.size t (.agg #[.int .i64 va, .int .i64 vb, .string vc, .slice vd ve vf])) ∨ (Ytabgfaafpgholaa.readT E.H x = none ∧ ok = false ∧ (.agg #[.int .i64 va, .int .i64 vb, .string vc, .slice vd ve vf]) = zT)) ∧ (∀ o, w5.cell? ⟨w.heap.size + 1, o, none⟩ = (#[.int .i64 0, .int .i64 0, .string ⟨#[]⟩, .slice none 0 0] : Array Value)[o]?) ∧ (∀ o, w5.frozen? ⟨w.heap.size + 1, o, none⟩ = false)) := by
    refine Calls.mono (readOff_any (ofHeap E w1 wb.heap.size) w1 rfl HSR.out x HX.out) ?_
    rintro e w5 ⟨hb5, hh5⟩
    obtain ⟨va, vb, vc, vd, ve, vf, ok, rfl, hh6⟩ := off_form hh5
    refine ⟨va, vb, vc, vd, ve, vf, ok, rfl, hb5, ?_, fun o => ?_, fun o => ?_⟩
    · rw [← flat_readT]; exact hh6
    · rw [← hsa, hb5.cell (p := ⟨wa.heap.size, o, none⟩) (by show wa.heap.size < _; omega)]; exact q1 o
    · rw [← hsa, hb5.frozen (p := ⟨wa.heap.size, o, none⟩) (by show wa.heap.size < _; omega)]; exact f1 o
  have HZ : Hid (wa.heap.size = w.heap.size + 1 ∧ wb.heap.size = w.heap.size + 2 ∧ w1.heap.size = w.heap.size + 3) := ⟨hsa, hsb, hs1⟩
  clear q1 f1 hsa hsb hs1
  go_wp2_with (go_at_call 60; refine HC.out.mono ?_; rintro e w5 ⟨va, vb, vc, vd, ve, vf, ok, rfl, hb5, hh5, q5, f5⟩; have HB5 : Hid (Below w1.heap.size w1 w5) := hb5; have HH6 : Hid (((∃ t, Ytabgfaafpgholaa.readT E.H x = some t ∧ ok = true ∧ OwE w5 w1.heap.size w5.heap.size t (.agg #[.int .i64 va, .int .i64 vb, .string vc, .slice vd ve vf])) ∨ (Ytabgfaafpgholaa.readT E.H x = none ∧ ok = false ∧ (.agg #[.int .i64 va, .int .i64 vb, .string vc, .slice vd ve vf]) = zT))) := hh5; clear hb5 hh5)
  obtain ⟨hsa, hsb, hs1⟩ := HZ.out
  have hb6 : Below w.heap.size w w5 := HB1.out.trans (HB5.out.mono HB1.out.size)
  have hpost : Below w.heap.size w (lay4 w5 (w.heap.size + 1) (.int .i64 va) (.int .i64 vb) (.string vc) (.slice vd ve vf)) ∧ ((∃ t v, Ytabgfaafpgholaa.readT E.H x = some t ∧ Ending.returned (.tuple #[.agg #[.int .i64 va, .int .i64 vb, .string vc, .slice vd ve vf], .bool ok]) = .returned (.tuple #[v, .bool true]) ∧ OwE (lay4 w5 (w.heap.size + 1) (.int .i64 va) (.int .i64 vb) (.string vc) (.slice vd ve vf)) w.heap.size (lay4 w5 (w.heap.size + 1) (.int .i64 va) (.int .i64 vb) (.string vc) (.slice vd ve vf)).heap.size t v) ∨ (Ytabgfaafpgholaa.readT E.H x = none ∧ Ending.returned (.tuple #[.agg #[.int .i64 va, .int .i64 vb, .string vc, .slice vd ve vf], .bool ok]) = .returned (.tuple #[zT, .bool false]))) := by
    refine ⟨lay4_below hb6 (by omega) _ _ _ _, ?_⟩
    rcases HH6.out with ⟨t, h1, rfl, h3⟩ | ⟨h1, rfl, h3⟩
    · refine .inl ⟨t, _, h1, rfl, ((OwE.keep (fun b' h1 h2 hbl => ?_) h3).mono (by omega) (Nat.le_of_eq ?_))⟩
      · exact lay4_heap (by omega)
      · exact lay4_size.symm
    · exact .inr ⟨h1, by rw [h3]⟩
  exact bodyPost_ret (v := .tuple #[.agg #[.int .i64 va, .int .i64 vb, .string vc, .slice vd ve vf], .bool ok]) (by simp [results, Try.results28, go_sem, q5]) rfl hpost

/-! ### Two lists -/
/-- Both lists, their mark, and the atoms: where they stand. -/
structure GE where
  N : Nat
  f : Nat → Int
  wv : Option Addr
  b : Nat
  o : Nat
  cap : Nat
  M : Nat
  g : Nat → Int
  yv : Option Addr
  yb : Nat
  yo : Nat
  ycap : Nat
  mark : Int
  A : List ByteArray
  av : Option Addr
  ab : Nat
  ao : Nat
  acap : Nat
def GE.len (G : GE) (p : Nat) : Nat := if p < 100000 then G.N - p else G.M - (p - 100000)
def GE.w (G : GE) (p j : Nat) : Int := if p < 100000 then G.f (p + j) else G.g (p - 100000 + j)
def GE.H (G : GE) : Hp := ⟨G.len, G.w, G.A⟩
structure GSrc (G : GE) (w : World) : Prop where
  n : G.N ≤ 1048576
  m : G.M ≤ 1048576
  a : G.A.length ≤ 1048576
  ol : Lst G.wv G.b G.o G.N G.cap
  yl : Lst G.yv G.yb G.yo G.M G.ycap
  al : G.A.length ≠ 0 → G.av = some ⟨G.ab, G.ao, none⟩
  ws : ∀ j, j < G.N → w.cell? ⟨G.b, G.o + j, none⟩ = some (.int .i64 (G.f j))
  ys : ∀ j, j < G.M → w.cell? ⟨G.yb, G.yo + j, none⟩ = some (.int .i64 (G.g j))
  ats : Txt w G.ab G.ao G.A
  big : ∀ j, G.f j ≤ 9223372036854775807
  bigy : ∀ j, G.g j ≤ 9223372036854775807
  txt : ∀ s, s ∈ G.A → s.size ≤ 1048576
theorem GSrc.below {E : GE} {w w' : World} (h : GSrc E w) (hb : Below w.heap.size w w') : GSrc E w' := by
  have e : ∀ b o v, w.cell? ⟨b, o, none⟩ = some v → w'.cell? ⟨b, o, none⟩ = some v := fun b o v hc => by
    rw [hb.cell (p := ⟨b, o, none⟩) (World.block_lt_of_cell? w _ hc)]; exact hc
  exact ⟨h.n, h.m, h.a, h.ol, h.yl, h.al, fun j hj => e _ _ _ (h.ws j hj), fun j hj => e _ _ _ (h.ys j hj), h.ats.below hb, h.big, h.bigy, h.txt⟩
theorem GE.ok {G : GE} (n : G.N ≤ 1048576) (m : G.M ≤ 1048576) (a : G.A.length ≤ 1048576) : G.H.ok := by
  refine ⟨fun p => ?_, fun p hp => ?_, a⟩
  · show G.len p ≤ _
    unfold GE.len
    split <;> omega
  · have hp' : G.len p ≠ 0 := hp
    unfold GE.len at hp'
    split at hp' <;> omega
end Go.Proofs.Ytabgfaafpgholaa.Gn

namespace Go.Proofs.Ytabgfaafpgholaa
open Go.RowKit
set_option linter.unusedVariables false

/-- The roots R stand in the block rb from ro on. -/
def Roots (w : World) (rv : Option Addr) (R : List Int) : Prop := R.length ≠ 0 → ∃ b o, rv = some ⟨b, o, none⟩ ∧ ∀ j (h : j < R.length), w.cell? ⟨b, o + j, none⟩ = some (.int .i64 R[j])
theorem Roots.below {w w' : World} {rv : Option Addr} {R : List Int} (h : Roots w rv R) (hb : Below w.heap.size w w') : Roots w' rv R := fun hn => by
  obtain ⟨b, o, e, hc⟩ := h hn
  exact ⟨b, o, e, fun j hj => by rw [hb.cell (p := ⟨b, o + j, none⟩) (World.block_lt_of_cell? w _ (hc j hj))]; exact hc j hj⟩
theorem take_in {R : List Int} {P : Int → Prop} {m : Nat} (h : m < R.length) (ha : ∀ x ∈ R.take m, P x) (hx : P R[m]) : ∀ x ∈ R.take (m + 1), P x := by
  intro x hm
  rw [List.take_add_one, List.getElem?_eq_getElem h] at hm
  rcases List.mem_append.1 hm with hm | hm
  · exact ha x hm
  · obtain rfl : x = R[m] := by simpa using hm
    exact hx
namespace Gn
theorem Agr.trans {a b c : World} (h : Agr a b) (k : Agr b c) : Agr a c := ⟨Nat.le_trans h.1 k.1, fun i hi => (k.2 i (Nat.lt_of_lt_of_le hi h.1)).trans (h.2 i hi)⟩
theorem Agr.below {w w' : World} (h : Below w.heap.size w w') : Agr w w' := ⟨h.size, fun k hk => h.block k hk⟩
/-- The same, behind a call that writes nothing old. -/
abbrev Env.at (E : Env) (w : World) : Env := { E with W := w }
theorem Src.move {E : Env} {w : World} (h : Src E) (ha : Agr E.W w) : Src (E.at w) := by
  refine ⟨h.ok, ⟨h.told.one, fun w' p hw hp => h.told.call w' p (ha.trans hw) hp, fun p j hj => ha.cell (h.told.ws p j hj)⟩, h.al, fun j hj => ha.cell (h.ats j hj), h.big, h.txt⟩
def allB (H : Hp) (R : List Int) : Bool := R.all fun x => (readT H x).isSome
theorem allB_no {H : Hp} {R : List Int} {x : Int} (hm : x ∈ R) (h : readT H x = none) : allB H R = false := by
  unfold allB
  rw [List.all_eq_false]
  exact ⟨x, hm, by rw [h]; simp⟩
set_option maxHeartbeats 2000000 in
set_option maxRecDepth 100000 in
theorem allRead_any (E : Env) (w : World) (hE : E.W = w) (h : Src E) (rv : Option Addr) (rcap : Nat) (R : List Int) (hr : Roots w rv R) (hR : R.length ≤ 1048576) (hb : ∀ x ∈ R, x ≤ 9223372036854775807) :
    Calls Try.prog 58 #[fvE E, .slice E.av E.H.A.length E.acap, .slice rv R.length rcap] w fun e w' => e = .returned (.bool (allB E.H R)) ∧ Below w.heap.size w w' := by
  have HS : Hid (Src E) := h
  have HEW : Hid (E.W = w) := hE
  have HR : Hid (Roots w rv R) := hr
  have HBR : Hid (∀ x ∈ R, x ≤ 9223372036854775807) := hb
  have HRO : Hid (∀ w', Below w.heap.size w w' → ∀ x, x ≤ 9223372036854775807 → Calls Try.prog 60 #[fvE E, .slice E.av E.H.A.length E.acap, .int .i64 x] w' fun e w5 => ∃ va vb vc vd ve vf, e = .returned (.tuple #[.agg #[.int .i64 va, .int .i64 vb, .string vc, .slice vd ve vf], .bool (readT E.H x).isSome]) ∧ Below w'.heap.size w' w5) := fun w' hb' x hx => by
    refine Calls.mono (readOff_any (E.at w') w' rfl (HS.out.move (by rw [HEW.out]; exact Agr.below hb')) x hx) ?_
    rintro e w5 ⟨hb5, hh5⟩
    obtain ⟨va, vb, vc, vd, ve, vf, ok, rfl, hh6⟩ := off_form hh5
    refine ⟨va, vb, vc, vd, ve, vf, ?_, hb5⟩
    rcases hh6 with ⟨t, h1, rfl, _⟩ | ⟨h1, rfl, _⟩
    · have h1' : readT E.H x = some t := h1
      rw [h1']; rfl
    · have h1' : readT E.H x = none := h1
      rw [h1']; rfl
  clear h hr hb hE HS HEW
  generalize E.H.A.length = AL at *
  generalize hfv : fvE E = FV at *
  clear hfv
  go_enter Try.func58, Try.ntmps58
  go_wp2_with fail
  go_loopw [13] (fun i wr => ∃ m : Nat, m ≤ R.length ∧ i = .int .i64 m ∧ (∀ x ∈ R.take m, (readT E.H x).isSome = true) ∧ Below w.heap.size w wr) (fun i _ => R.length - (intOf i).toNat)
  case atStart => exact ⟨0, Nat.zero_le _, rfl, by simp, Below.refl _ _⟩
  case round =>
    obtain ⟨m, hm, rfl, hall, hbr⟩ := hrel
    have HALL : Hid (∀ x ∈ R.take m, (readT E.H x).isSome = true) := hall
    have HBW : Hid (Below w.heap.size w wr) := hbr
    clear hall hbr
    by_cases hlt : m < R.length
    · obtain ⟨b, o, rfl, hcs⟩ := (HR.out.below HBW.out) (by omega)
      have q := hcs m hlt
      have HX : Hid (R[m] ≤ 9223372036854775807) := HBR.out _ (List.getElem_mem hlt)
      have HM : Hid (R[m] ∈ R) := List.getElem_mem hlt
      have HT : Hid ((readT E.H R[m]).isSome = true → ∀ x ∈ R.take (m + 1), (readT E.H x).isSome = true) := fun h => take_in hlt HALL.out h
      clear hcs
      generalize R[m] = x at *
      cases hrd : readT E.H x with
      | none =>
        have HRD : Hid (readT E.H x = none) := hrd
        have HE : Hid (allB E.H R = false) := allB_no HM.out hrd
        clear hrd
        go_wp2_with (go_at_call 60; refine (HRO.out _ HBW.out x HX.out).mono ?_; rintro e w5 ⟨va, vb, vc, vd, ve, vf, rfl, hb5⟩; rw [HRD.out]; have HB5 : Hid (Below w.heap.size w w5) := HBW.out.trans (hb5.mono HBW.out.size); clear hb5)
        go_ret
        exact ⟨ret_bool HE.out.symm, HB5.out.alloc HB5.out.size _⟩
      | some t =>
        have HRD : Hid (readT E.H x = some t) := hrd
        have HE : Hid (∀ x ∈ R.take (m + 1), (readT E.H x).isSome = true) := HT.out (by rw [hrd]; rfl)
        clear hrd
        go_wp2_with (go_at_call 60; refine (HRO.out _ HBW.out x HX.out).mono ?_; rintro e w5 ⟨va, vb, vc, vd, ve, vf, rfl, hb5⟩; rw [HRD.out]; have HB5 : Hid (Below w.heap.size w w5) := HBW.out.trans (hb5.mono HBW.out.size); clear hb5)
        go_roundw
        case rel => exact ⟨m + 1, by omega, by go_num, HE.out, HB5.out.alloc HB5.out.size _⟩
        case measure => simp [intOf]; omega
    · have HE : Hid (allB E.H R = true) := by
        show _ = _
        unfold allB
        rw [List.all_eq_true]
        exact fun x hx => HALL.out x (by rw [List.take_of_length_le (by omega)]; exact hx)
      go_wp2_with fail
      go_ret
      exact ⟨ret_bool HE.out.symm, HBW.out⟩
end Gn
end Go.Proofs.Ytabgfaafpgholaa
