/-
  The closure that puts a term, walked: a list; all terms.
-/
import Derived.Test.YtabgfaafpgholaaW41
namespace Go.Proofs.Ytabgfaafpgholaa
open Go.RowKit
set_option linter.unusedVariables false

/-- How a list's cells follow one another while it is put. -/
theorem lis_next (f : Nat → Int) (a b J : Nat) (W ns u v : List Int) (hJ : J = a + W.length) (h : J + 2 ≤ b) (x y : Int) :
    ovr (ovr (ovr (ovr f a W) b ns) J [x]) (J + 1) [y] = ovr (ovr f a (W ++ [x, y])) b ns := by
  rw [ovr_next f a b J W ns [x] hJ (by simp only [List.length_cons, List.length_nil]; omega), ovr_next f a b (J + 1) (W ++ [x]) ns [y] (by rw [List.length_append, hJ]; simp; omega) (by simp only [List.length_cons, List.length_nil]; omega), List.append_assoc]
  rfl
set_option maxHeartbeats 8000000 in
set_option maxRecDepth 100000 in
theorem putK_5 (Z : PZp) (n : Int) (s : ByteArray) (l : List Tm) (ih : ∀ t, t ∈ l → PutK Z t) : PutK Z (.mk 5 n s l) := by
  intro w f next A v hp hk hv hg hx hb hA
  obtain ⟨ao, cap, rfl, hs, hlc, hcm, hr⟩ := hv
  rw [goodT] at hg
  have HGL : Hid (goodL l) := hg.2
  have IH : Hid (∀ t, t ∈ l → PutK Z t) := ih
  have hnd : ndT (.mk 5 n s l) = 2 * l.length + ndL l := by simp [ndT, ndO]
  have hnt : nT (.mk 5 n s l) = 1 + nL l := by rw [nT]
  rw [hnd] at hx
  rw [hnt] at hA
  obtain ⟨T, hT⟩ : ∃ T, T = l.length := ⟨_, rfl⟩
  rw [← hT] at hx hlc ⊢
  have HTL : Hid (T = l.length) := hT
  have HX : Hid (next + (2 * T + ndL l) ≤ Z.n ∧ Z.base + Z.n ≤ 3000000) := ⟨hx, hb⟩
  have HAN : Hid (A.length + (1 + nL l) ≤ 1048577) := hA
  have HF : Hid (∀ o, Calls Try.prog 83 #[.agg #[.int .i64 5, .int .i64 n, .string s, .slice ao T cap]] (w.alloc o) fun e w' => e = .returned (.iface 139 (.slice ao T cap)) ∧ Below w.heap.size w w') := fun o => formP 5 n s ao T cap w _ ((Below.refl _ _).alloc (Nat.le_refl _) o)
  have HP : Hid (PP Z w f next A) := hp
  have HK : Hid (PK Z w) := hk
  have HRL : Hid (RpL (fun b => b < Z.lo) w l ao) := hr
  have HLO : Hid (Z.lo ≤ Z.pb ∧ Z.lo ≤ Z.wb) := ⟨hp.lp, hp.lw⟩
  have q1 := assert_84_83
  have q2 := assert_84_84
  have e1 : IntKind.i64.wrap (2 * (T : Int)) = ((2 * T : Nat) : Int) := by rw [IntKind.wrap_i64]; omega
  have e2 : IntKind.i64.wrap ((Z.base : Int) + (next : Int)) = ((Z.base + next : Nat) : Int) := by rw [IntKind.wrap_i64]; omega
  have hti : (T : Int) ≤ 3000000 := by omega
  have hni : (next : Int) ≤ 3000000 := by omega
  have HT : Hid (∀ wq, Below w.heap.size w wq → Calls Try.prog 97 #[.pointer (some ⟨Z.pb, 0, none⟩), .int .i64 ((2 * T : Nat) : Int)] wq fun e w' => e = .returned (.int .i64 (next : Int)) ∧ PP Z w' f (next + 2 * T) A ∧ PF Z wq w') := fun wq hb9 => (hp.below hb9).tail (by omega)
  clear hp hk hg hx hb hA hs hlc hcm hr hnd hnt hT ih
  go_enter Try.func96, Try.ntmps96
  go_wp2_with (first
    | (go_at_call 83; refine (HF.out _).mono ?_; rintro e w1 ⟨rfl, hb1⟩; have HB1 : Hid (Below w.heap.size w w1) := hb1; have HK1 : Hid (PK Z w1) := HK.out.go (PF.below hb1); have r1 := HK1.out.k1; clear hb1)
    | (go_at_call 97; refine (HT.out _ HB1.out).mono ?_; rintro e w2 ⟨rfl, hp2, hf2⟩; have HP2 : Hid (PP Z w2 f (next + 2 * T) A) := hp2; have HF2 : Hid (PF Z w w2) := (PF.below HB1.out).trans hf2; have HK2 : Hid (PK Z w2) := HK1.out.go hf2; have r2 := HK2.out.k1; clear hp2 hf2))
  have HF2 : Hid (PF Z w w2) := HF2.out
  clear HK1 HK2 r1 r2 q1 q2
  go_loopw [73] (fun i wr => ∃ (k : Nat) (ws ns : List Int) (A' : List ByteArray), i = .int .i64 k ∧ k ≤ l.length ∧ ws.length = k ∧ ns.length = ndL (l.take k) ∧ A'.length ≤ A.length + nL (l.take k) ∧ ptL (l.take k) (Z.base + next + 2 * l.length) A = some (ws, ns, A') ∧ PP Z wr (ovr (ovr f next (consR T ws (Z.base + next))) (next + 2 * T) ns) (next + 2 * T + ns.length) A' ∧ PF Z w wr) (fun i _ => l.length - (intOf i).toNat)
  case atStart => exact ⟨0, [], [], A, rfl, Nat.zero_le _, rfl, by simp [ndL], by omega, by simp [ptL], by rw [consR, ovr_nil, ovr_nil]; exact HP2.out, HF2.out⟩
  case round =>
    obtain ⟨k, ws, ns, A', rfl, hk, hwl, hnl, hal, hpl, hp, hf⟩ := hrel
    have HPR : Hid (PP Z wr (ovr (ovr f next (consR T ws (Z.base + next))) (next + 2 * T) ns) (next + 2 * T + ns.length) A') := hp
    have HFR : Hid (PF Z w wr) := hf
    have HKR : Hid (PK Z wr) := HK.out.go hf
    have HWN : Hid (ws.length = k ∧ ns.length = ndL (l.take k) ∧ A'.length ≤ A.length + nL (l.take k) ∧ ptL (l.take k) (Z.base + next + 2 * l.length) A = some (ws, ns, A')) := ⟨hwl, hnl, hal, hpl⟩
    clear HP2 HF2
    by_cases hlt : k < l.length
    · have hltT : (k : Int) < (T : Int) := by have := HTL.out; omega
      have hkT : k < T := by have := HTL.out; omega
      obtain ⟨b, off, a1, a2, a3, a4, a5, a6, rfl, c0, c1, c2, c3, hv⟩ := elemP HRL.out hf HLO.out.1 HLO.out.2 k hlt
      have HV : Hid (RpV (fun b => b < Z.lo) wr l[k] (.agg #[.int .i64 a1, .int .i64 a2, .string a3, .slice a4 a5 a6])) := hv
      have HT9 : Hid (PutK Z l[k]) := IH.out _ (List.getElem_mem hlt)
      have HG9 : Hid (goodT l[k]) := goodL_at l HGL.out k hlt
      obtain ⟨N, hN⟩ : ∃ N, N = next + 2 * T + ns.length := ⟨_, rfl⟩
      obtain ⟨F, hF⟩ : ∃ F, F = ovr (ovr f next (consR T ws (Z.base + next))) (next + 2 * T) ns := ⟨_, rfl⟩
      rw [← hN, ← hF] at HPR
      have e3 := ndL_take l k hlt
      have e4 := ndL_le l (k + 1)
      have e5 := nL_take l k hlt
      have e6 := nL_le l (k + 1)
      have HB1 : Hid (N + ndT l[k] ≤ Z.n ∧ A'.length + nT l[k] ≤ 1048577) := by
        have e7 := HX.out
        have e8 := HAN.out
        have e9 := HTL.out
        exact ⟨by omega, by omega⟩
      obtain ⟨J, hJ⟩ : ∃ J, J = next + 2 * k := ⟨_, rfl⟩
      have hJn : J < Z.n := by have := HX.out; omega
      have v1 : IntKind.i64.wrap (2 * (k : Int)) = 2 * (k : Int) := by rw [IntKind.wrap_i64]; omega
      have v2 : IntKind.i64.wrap ((next : Int) + 2 * (k : Int)) = (J : Int) := by rw [IntKind.wrap_i64]; omega
      have v3 : IntKind.i64.wrap ((k : Int) + 1) = ((k + 1 : Nat) : Int) := by rw [IntKind.wrap_i64]; omega
      obtain ⟨wa, hwa⟩ : ∃ wa, wa = wr.alloc (.cells #[.int .i64 a1, .int .i64 a2, .string a3, .slice a4 a5 a6] 39) := ⟨_, rfl⟩
      have hba : Below wr.heap.size wr wa := by rw [hwa]; exact (Below.refl _ _).alloc (Nat.le_refl _) _
      have t0 : ∀ j, wa.cell? ⟨wr.heap.size, j, none⟩ = (#[.int .i64 a1, .int .i64 a2, .string a3, .slice a4 a5 a6] : Array Value)[j]? := fun j => by rw [hwa, World.cell?_alloc_new]
      have HPA : Hid (PP Z wa F N A') := HPR.out.below hba
      have HKA : Hid (PK Z wa) := HKR.out.go (PF.below hba)
      have HCL : Hid (Calls Try.prog 96 #[.agg #[.int .i64 a1, .int .i64 a2, .string a3, .slice a4 a5 a6], .pointer (some ⟨Z.pa, 0, none⟩), .pointer (some ⟨Z.qa, 0, none⟩)] wa.drew (PAns Z wa.drew F N (ptT l[k] (Z.base + N) A'))) :=
        HT9.out wa.drew F N A' _ HPA.out.drew (HKA.out.go (PF.refl _ _).drew) (((PF.below hba).drew.moves HLO.out.1 HLO.out.2).repV HV.out) HG9.out HB1.out.1 HX.out.2 HB1.out.2
      have p1 := HKA.out.k1
      have p2 := HKA.out.k2
      have p3 := HPA.out.c0
      have HWA : Hid (PF Z w wa) := HFR.out.trans (PF.below hba)
      have HNQ : Hid (Z.base + N = Z.base + next + 2 * l.length + ns.length) := by show _ = _; have := HTL.out; omega
      have HJ : Hid (J = next + 2 * k) := hJ
      have HNN : Hid (N = next + 2 * T + ns.length) := hN
      have HFF : Hid (F = ovr (ovr f next (consR T ws (Z.base + next))) (next + 2 * T) ns) := hF
      clear hp hf hv hba hJ hN hF e3 e4 e5 e6 hwl hnl hal hpl
      go_wp2_with fail
      rw [← hwa]
      clear hwa c0 c1 c2 c3
      have HSA : Hid (∀ wc F' N' B', PP Z wc F' N' B' → PF Z wa wc → wc.cell? ⟨Z.pa, 0, none⟩ = some (.pointer (some ⟨Z.pb, 0, none⟩)) ∧ wc.cell? ⟨Z.qa, 0, none⟩ = some (.func (.func 96) #[] #[.pointer (some ⟨Z.pa, 0, none⟩), .pointer (some ⟨Z.qa, 0, none⟩)]) ∧ wc.cell? ⟨Z.pb, 0, none⟩ = some (.slice (some ⟨Z.wb, 0, none⟩) Z.n Z.n) ∧ wc.cell? ⟨wr.heap.size, 0, none⟩ = some (.int .i64 a1) ∧ wc.cell? ⟨wr.heap.size, 1, none⟩ = some (.int .i64 a2) ∧ wc.cell? ⟨wr.heap.size, 2, none⟩ = some (.string a3) ∧ wc.cell? ⟨wr.heap.size, 3, none⟩ = some (.slice a4 a5 a6)) := fun wc F' N' B' g1 g2 => by
        have g3 := HKA.out.go g2
        have hw1 := HPR.out.pl
        have hw2 := HPR.out.sw
        exact ⟨g3.k1, g3.k2, g1.c0, g2.cell (by omega) (by omega) (t0 0), g2.cell (by omega) (by omega) (t0 1), g2.cell (by omega) (by omega) (t0 2), g2.cell (by omega) (by omega) (t0 3)⟩
      have S0 := HSA.out wa.drew _ _ _ HPA.out.drew (PF.refl _ _).drew
      clear t0 p1 p2 p3
      cases hq : ptT l[k] (Z.base + N) A' with
      | none =>
        have HNO : Hid (ptT (.mk 5 n s l) (Z.base + next) A = none) := by
          show _ = _
          rw [ptT_5 _ _ _ _ _ (by omega), ptL_no hlt HWN.out.2.2.2 (by rw [HNQ.out] at hq; exact hq)]
        rw [hq] at HCL
        clear hq
        obtain ⟨p1, p2, p3, t0, t1, t2, t3⟩ := S0
        go_region_dies
        all_goals
          refine HCL.out.mono ?_
          rintro e w5 ⟨hf5, hr5⟩
          have he : e = .panicked PN := by
            rcases hr5 with ⟨_, _, _, e0, _⟩ | ⟨_, e0⟩
            · cases e0
            · exact e0
          subst he
          have HFZ : Hid (PF Z w w5) := HWA.out.trans hf5.undrew
          clear hf5 hr5
          first | exact ⟨rfl, HFZ.out, .inr ⟨HNO.out, rfl⟩⟩ | (go_simp; exact ⟨rfl, HFZ.out, .inr ⟨HNO.out, rfl⟩⟩) | fail "NONE"
      | some r =>
        obtain ⟨ns2, A2, x⟩ := r
        have HQ : Hid (ptT l[k] (Z.base + N) A' = some (ns2, A2, x)) := hq
        rw [hq] at HCL
        clear hq
        go_region_held3 (fun wc => wc.cell? ⟨Z.pa, 0, none⟩ = some (.pointer (some ⟨Z.pb, 0, none⟩)) ∧ wc.cell? ⟨Z.qa, 0, none⟩ = some (.func (.func 96) #[] #[.pointer (some ⟨Z.pa, 0, none⟩), .pointer (some ⟨Z.qa, 0, none⟩)]) ∧ wc.cell? ⟨Z.pb, 0, none⟩ = some (.slice (some ⟨Z.wb, 0, none⟩) Z.n Z.n) ∧ wc.cell? ⟨wr.heap.size, 0, none⟩ = some (.int .i64 a1) ∧ wc.cell? ⟨wr.heap.size, 1, none⟩ = some (.int .i64 a2) ∧ wc.cell? ⟨wr.heap.size, 2, none⟩ = some (.string a3) ∧ wc.cell? ⟨wr.heap.size, 3, none⟩ = some (.slice a4 a5 a6)) (first | (refine HSA.out _ _ _ _ HPA.out.drew ?_; first | exact PF.refl _ _ | exact (PF.refl _ _).drew; done) | (refine HSA.out _ _ _ _ HP5.out ?_; exact HF5.out; done) | (refine HSA.out _ _ _ _ (HP5.out.word hJn _) ?_; exact HF5.out.trans (PF.setW _ _); done) | go_keep) (first
          | (go_at_call 96; refine HCL.out.mono ?_; rintro e w5 ⟨hf5, hr5⟩; (obtain ⟨he, hp5⟩ : e = .returned (.int .i64 x) ∧ PP Z w5 (ovr F N ns2) (N + ns2.length) A2 := by (rcases hr5 with ⟨ns9, A9, x9, e0, e1, e2⟩ | ⟨e0, _⟩; (simp only [Option.some.injEq, Prod.mk.injEq] at e0; obtain ⟨rfl, rfl, rfl⟩ := e0; exact ⟨e1, e2⟩); cases e0)); subst he; have HF5 : Hid (PF Z wa w5) := hf5.undrew; have HP5 : Hid (PP Z w5 (ovr F N ns2) (N + ns2.length) A2) := hp5; have s1 := hp5.ws J hJn; have s2 := hp5.wf J; clear hf5 hr5 hp5))
        obtain ⟨wB, hwB⟩ : ∃ wB, wB = w5.setCell ⟨Z.wb, J, none⟩ (.int .i64 x) := ⟨_, rfl⟩
        have HPB : Hid (PP Z wB (ovr (ovr F N ns2) J [x]) (N + ns2.length) A2) := by rw [hwB]; exact HP5.out.word hJn x
        have HFB : Hid (PF Z wa wB) := by rw [hwB]; exact HF5.out.trans (PF.setW _ _)
        obtain ⟨J2, hJ2⟩ : ∃ J2, J2 = J + 1 := ⟨_, rfl⟩
        obtain ⟨P, hP⟩ : ∃ P, P = Z.base + next := ⟨_, rfl⟩
        obtain ⟨P2, hP2⟩ : ∃ P2, P2 = P + 2 * k := ⟨_, rfl⟩
        obtain ⟨P3, hP3⟩ : ∃ P3, P3 = P2 + 2 := ⟨_, rfl⟩
        obtain ⟨D, hD⟩ : ∃ D, D = T - k := ⟨_, rfl⟩
        obtain ⟨D2, hD2⟩ : ∃ D2, D2 = D - 1 := ⟨_, rfl⟩
        have HXX := HX.out
        have HJJ := HJ.out
        have hJ2n : J2 < Z.n := by omega
        have u1 : IntKind.i64.wrap ((J : Int) + 1) = (J2 : Int) := by rw [IntKind.wrap_i64]; omega
        have u2 : IntKind.i64.wrap ((Z.base : Int) + (next : Int)) = (P : Int) := by rw [IntKind.wrap_i64]; omega
        have u3 : IntKind.i64.wrap ((P : Int) + 2 * (k : Int)) = (P2 : Int) := by rw [IntKind.wrap_i64]; omega
        have u4 : IntKind.i64.wrap ((P2 : Int) + 2) = (P3 : Int) := by rw [IntKind.wrap_i64]; omega
        have u5 : IntKind.i64.wrap ((T : Int) - (k : Int)) = (D : Int) := by rw [IntKind.wrap_i64]; omega
        have u6 : IntKind.i64.wrap ((D : Int) - 1) = (D2 : Int) := by rw [IntKind.wrap_i64]; omega
        obtain ⟨y, hy⟩ : ∃ y, y = (if D2 = 0 then 3 else mkw 5 (P3 : Int)) := ⟨_, rfl⟩
        have HLW : Hid (∀ wq, Calls Try.prog 99 #[.int .i64 (P3 : Int), .int .i64 (D2 : Int)] wq fun e w' => e = .returned (.int .i64 y) ∧ w' = wq) := fun wq => by rw [hy]; exact listWord_any _ _ wq
        have HCR : Hid (consR T (ws ++ [x]) (Z.base + next) = consR T ws (Z.base + next) ++ [x, y]) := by
          show _ = _
          rw [consR_snoc, hy]
          have g1 := HWN.out.1
          by_cases h9 : T - ws.length = 1
          · rw [if_pos h9, if_pos (by omega)]
          · rw [if_neg h9, if_neg (by omega)]
            congr 4
            omega
        have HPW : Hid (∀ wz, PP Z wz (ovr (ovr (ovr F N ns2) J [x]) J2 [y]) (N + ns2.length) A2 → PP Z wz (ovr (ovr f next (consR T (ws ++ [x]) (Z.base + next))) (next + 2 * T) (ns ++ ns2)) (next + 2 * T + (ns ++ ns2).length) A2) := fun wz h9 => by
          have g1 := HWN.out.1
          rw [HFF.out, ovr_app _ _ _ _ _ HNN.out, hJ2, lis_next f next (next + 2 * T) J (consR T ws (Z.base + next)) (ns ++ ns2) [] [] (by rw [consR_len]; omega) (by omega), HNN.out, ← HCR.out] at h9
          rw [Nat.add_assoc (next + 2 * T)] at h9
          rw [List.length_append]
          exact h9
        have u7 := HPB.out.ws J2 hJ2n
        have u8 := HPB.out.wf J2
        have S1 : wB.drew.cell? ⟨Z.pa, 0, none⟩ = some (.pointer (some ⟨Z.pb, 0, none⟩)) ∧ wB.drew.cell? ⟨Z.pb, 0, none⟩ = some (.slice (some ⟨Z.wb, 0, none⟩) Z.n Z.n) ∧ wB.drew.cell? ⟨Z.pb, 2, none⟩ = some (.int .i64 (Z.base : Int)) := ⟨(HKA.out.go HFB.out).k1, HPB.out.c0, HPB.out.c2⟩
        have HSB : Hid (∀ wc F' N' B', PP Z wc F' N' B' → PF Z wa wc → wc.cell? ⟨Z.pa, 0, none⟩ = some (.pointer (some ⟨Z.pb, 0, none⟩)) ∧ wc.cell? ⟨Z.pb, 0, none⟩ = some (.slice (some ⟨Z.wb, 0, none⟩) Z.n Z.n) ∧ wc.cell? ⟨Z.pb, 2, none⟩ = some (.int .i64 (Z.base : Int))) := fun wc F' N' B' g1 g2 => ⟨(HKA.out.go g2).k1, g1.c0, g1.c2⟩
        clear e2 s1 s2 hJ2 hP hP2 hP3 hD hD2 HXX HJJ hy v1
        have v1 : IntKind.i64.wrap (2 * (k : Int)) = 2 * (k : Int) := by rw [IntKind.wrap_i64]; omega
        go_wp2_with fail
        rw [← hwB]
        clear hwB
        go_region_held3 (fun wc => wc.cell? ⟨Z.pa, 0, none⟩ = some (.pointer (some ⟨Z.pb, 0, none⟩)) ∧ wc.cell? ⟨Z.pb, 0, none⟩ = some (.slice (some ⟨Z.wb, 0, none⟩) Z.n Z.n) ∧ wc.cell? ⟨Z.pb, 2, none⟩ = some (.int .i64 (Z.base : Int))) (first | (refine HSB.out _ _ _ _ HPB.out.drew ?_; first | exact HFB.out.drew | exact HFB.out; done) | (refine HSB.out _ _ _ _ (HPB.out.drew.word hJ2n _) ?_; exact HFB.out.drew.trans (PF.setW _ _); done) | go_keep) (first
          | (go_at_call 99; refine (HLW.out _).mono ?_; rintro e w6 ⟨rfl, hw6⟩; obtain rfl := hw6.symm))
        all_goals
          have HNX : Hid ((ws ++ [x]).length = k + 1 ∧ (ns ++ ns2).length = ndL (l.take (k + 1)) ∧ A2.length ≤ A.length + nL (l.take (k + 1)) ∧ ptL (l.take (k + 1)) (Z.base + next + 2 * l.length) A = some (ws ++ [x], ns ++ ns2, A2)) := by
            have hq9 := HQ.out
            obtain ⟨g1, g2, g3, g4⟩ := HWN.out
            have h1 := ptT_len l[k] _ A' ns2 A2 x (goodK HG9.out) hq9
            have h2 := ptT_cnt l[k] _ A' ns2 A2 x hq9
            have h3 := ndL_take l k hlt
            have h4 := nL_take l k hlt
            rw [HNQ.out] at hq9
            exact ⟨by simp [g1], by rw [List.length_append]; omega, by omega, ptL_yes hlt g4 hq9⟩
          have HFW : Hid (PF Z w (wB.drew.setCell ⟨Z.wb, J2, none⟩ (.int .i64 y))) := (HWA.out.trans HFB.out).drew.trans (PF.setW _ _)
          have HPX : Hid (PP Z (wB.drew.setCell ⟨Z.wb, J2, none⟩ (.int .i64 y)) (ovr (ovr f next (consR T (ws ++ [x]) (Z.base + next))) (next + 2 * T) (ns ++ ns2)) (next + 2 * T + (ns ++ ns2).length) A2) := HPW.out _ (HPB.out.drew.word hJ2n y)
          go_wp2_with fail
          go_roundw
          case rel => exact ⟨k + 1, ws ++ [x], ns ++ ns2, A2, by go_num, by omega, HNX.out.1, HNX.out.2.1, HNX.out.2.2.1, HNX.out.2.2.2, HPX.out, HFW.out⟩
          case measure => simp [intOf]; omega
    · have hke : k = l.length := by omega
      have hltT : ¬ (k : Int) < (T : Int) := by have := HTL.out; omega
      obtain ⟨P, hP⟩ : ∃ P, P = Z.base + next := ⟨_, rfl⟩
      have u2 : IntKind.i64.wrap ((Z.base : Int) + (next : Int)) = (P : Int) := by have := HX.out; rw [IntKind.wrap_i64]; omega
      obtain ⟨y, hy⟩ : ∃ y, y = (if T = 0 then 3 else mkw 5 (P : Int)) := ⟨_, rfl⟩
      have HWE : Hid (ptT (.mk 5 n s l) (Z.base + next) A = some ((consR T ws (Z.base + next)) ++ ns, A', y)) := by
        rw [hy]
        have h9 := HWN.out.2.2.2
        have g1 := HWN.out.1
        have g2 := HTL.out
        rw [hke, List.take_length] at h9
        show _ = _
        by_cases h0 : T = 0
        · have hl : l = [] := List.eq_nil_of_length_eq_zero (by omega)
          subst hl
          rw [ptL] at h9
          simp only [Option.some.injEq, Prod.mk.injEq] at h9
          obtain ⟨rfl, rfl, rfl⟩ := h9
          rw [ptT_50, if_pos h0]
          rfl
        · rw [ptT_5 _ _ _ _ _ (by omega), h9, if_neg h0, hP]
          rw [show T = ws.length by omega, consR_all]
      have HPE : Hid (PP Z wr (ovr f next ((consR T ws (Z.base + next)) ++ ns)) (next + ((consR T ws (Z.base + next)) ++ ns).length) A') := by
        have h9 := HPR.out
        have g1 := HWN.out.1
        have g2 := HTL.out
        rw [ovr_app _ _ _ _ _ (by rw [consR_len]; omega)] at h9
        rw [show next + ((consR T ws (Z.base + next)) ++ ns).length = next + 2 * T + ns.length by rw [List.length_append, consR_len]; omega]
        exact h9
      have HLW : Hid (∀ wq, Calls Try.prog 99 #[.int .i64 (P : Int), .int .i64 (T : Int)] wq fun e w' => e = .returned (.int .i64 y) ∧ w' = wq) := fun wq => by rw [hy]; exact listWord_any _ _ wq
      have p1 := HKR.out.k1
      have p2 := hp.c2
      clear hp hf hke hwl hnl hal hpl hP e2 hy
      go_wp2_with (go_at_call 99; refine (HLW.out _).mono ?_; rintro e w' ⟨rfl, hw'⟩; obtain rfl := hw'.symm)
      go_ret
      exact ⟨HFR.out, .inl ⟨_, _, _, HWE.out, rfl, HPE.out⟩⟩
theorem putK_all (Z : PZp) : ∀ t, PutK Z t := Tm.ind fun k n s l ih => by
  intro w f next A v hp hk hv hg hx hb hA
  have hs := hg
  rw [goodT] at hs
  rcases shape_k hs.1 with ⟨h1 | h1 | h1 | h1, _⟩ | h1 | h1
  · subst h1; exact putK_1 Z n s l w f next A v hp hk hv hg hx hb hA
  · subst h1; exact putK_2 Z n s l w f next A v hp hk hv hg hx hb hA
  · subst h1; exact putK_3 Z n s l w f next A v hp hk hv hg hx hb hA
  · subst h1; exact putK_6 Z n s l w f next A v hp hk hv hg hx hb hA
  · subst h1; exact putK_4 Z n s l ih w f next A v hp hk hv hg hx hb hA
  · subst h1; exact putK_5 Z n s l ih w f next A v hp hk hv hg hx hb hA
end Go.Proofs.Ytabgfaafpgholaa
