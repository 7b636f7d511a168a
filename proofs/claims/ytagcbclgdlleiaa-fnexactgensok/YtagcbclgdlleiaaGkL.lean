/-
  The specification's GensOk.
  The law over GensOk is walked.
-/
import Derived.Test.YtagcbclgdlleiaaGkJ
import Derived.Test.YtagcbclgdlleiaaInn
import Derived.Test.YtagcbclgdlleiaaSlK
import Derived.Test.YtagcbclgdlleiaaXgS
import Derived.Deep.RegionLaw
namespace Go.Proofs.Ytagcbclgdlleiaa.Gn
open Go.RowKit Go.Maps
set_option linter.unusedVariables false

theorem keep4m {wr w5 : World} {a b c d : Value} {t : TypeId} (hb : Below (wr.alloc (.cells #[a, b, c, d] t)).drew.heap.size (wr.alloc (.cells #[a, b, c, d] t)).drew w5) :
    (∀ o, w5.cell? ⟨wr.heap.size, o, none⟩ = (#[a, b, c, d] : Array Value)[o]?) ∧ (∀ o, w5.frozen? ⟨wr.heap.size, o, none⟩ = false) := by
  have hs : (wr.alloc (.cells #[a, b, c, d] t)).drew.heap.size = wr.heap.size + 1 := World.size_alloc _ _
  refine ⟨fun o => ?_, fun o => ?_⟩
  · rw [hb.cell (p := ⟨wr.heap.size, o, none⟩) (by show wr.heap.size < _; omega)]
    exact World.cell?_alloc_new wr _ _ o
  · rw [hb.frozen (p := ⟨wr.heap.size, o, none⟩) (by show wr.heap.size < _; omega)]
    exact World.frozen?_alloc_new wr _ _ o
theorem below_set4m {w3 wr w5 : World} (h : Below w3.heap.size w3 w5) (hr : w3.heap.size ≤ wr.heap.size) (a b c d : Value) :
    Below w3.heap.size w3 ((((w5.setCell ⟨wr.heap.size, 0, none⟩ a).setCell ⟨wr.heap.size, 1, none⟩ b).setCell ⟨wr.heap.size, 2, none⟩ c).setCell ⟨wr.heap.size, 3, none⟩ d) :=
  (((h.setCell hr _).setCell hr _).setCell hr _).setCell hr _
def rootP (G : GE) (x : Int) : Prop := (readT G.H x).isSome = true ∧ ∀ y, Rch G.H x y → leadsW y = true → Eok G.H G.mark y
theorem gensP_of {G : GE} {R : List Int} (h1 : szB G = true) (h2 : atomsB G.A = true) : gensP G R ↔ ∀ x ∈ R, rootP G x := by
  unfold gensP allB rootP
  rw [List.all_eq_true]
  exact ⟨fun h x hx => ⟨h.2.2.1 x hx, h.2.2.2 x hx⟩, fun h => ⟨h1, h2, fun x hx => (h x hx).1, fun x hx => (h x hx).2⟩⟩
theorem root_fin {G : GE} {x : Int} (h : (readT G.H x).isSome = true) : FinW G.H 612 x := all_fin (R := [x]) (by unfold allB; simp [h]) x (by simp)
theorem lk_root {G : GE} (hs : szB G = true) {x : Int} (h : (readT G.H x).isSome = true) : lkB G.H G.mark 612 x 200000 = true ↔ rootP G x := by
  obtain ⟨h1, h2, h3, h4⟩ := sz_lt hs
  have k := lk_iff (H := G.H) h3 (by omega) (fun p hp => by
    have e : G.H.len p = G.len p := rfl
    rw [e] at hp
    unfold GE.len at hp
    split at hp <;> omega) 612 x 2 (root_fin h) (Nat.le_refl _)
  have e : limW G.mark 2 = 200000 := rfl
  rw [e] at k
  rw [k]
  have ag : agW G.mark x ≤ 2 := by unfold agW; split <;> (try split) <;> omega
  exact ⟨fun q => ⟨h, q.2⟩, fun q => ⟨fun _ => ag, q.2⟩⟩
theorem sz_of {G : GE} (h1 : G.N ≤ 1000) (h2 : G.M ≤ 1000) : szB G = inB G.mark 0 G.M := by
  simp [szB, lstB, h1, h2, inB]
set_option maxHeartbeats 8000000 in
set_option maxRecDepth 100000 in
theorem specGensOk_any {G : GE} {w : World} (hs : GSrc G w) (R : List Int) (rv : Option Addr) (rcap : Nat) (hr : Roots w rv R) (hR : R.length ≤ 1048576) (hb : ∀ x ∈ R, x ≤ 9223372036854775807) :
    Calls Try.prog 6 #[.agg #[.slice G.wv G.N G.cap, .slice G.yv G.M G.ycap, .int .i64 G.mark], .slice G.av G.A.length G.acap, .slice rv R.length rcap] w (GoP G R w) := by
  have HS : Hid (GSrc G w) := hs
  have HR : Hid (Roots w rv R) := hr
  have HBR : Hid (∀ x ∈ R, x ≤ 9223372036854775807) := hb
  have hN := hs.n
  have hM := hs.m
  have q0 : ∀ o, (w.alloc (.cells #[.slice G.wv G.N G.cap, .slice G.yv G.M G.ycap, .int .i64 G.mark] 29)).cell? ⟨w.heap.size, o, none⟩ = (#[.slice G.wv G.N G.cap, .slice G.yv G.M G.ycap, .int .i64 G.mark] : Array Value)[o]? := fun o => World.cell?_alloc_new w _ _ o
  have HB : Hid (Below w.heap.size w (w.alloc (.cells #[.slice G.wv G.N G.cap, .slice G.yv G.M G.ycap, .int .i64 G.mark] 29))) := below3 w _
  have HIN : Hid (∀ w1, Calls Try.prog 15 #[.int .i64 G.mark, .int .i64 0, .int .i64 G.M] w1 fun e w' => e = .returned (.bool (inB G.mark 0 G.M)) ∧ w' = w1) := fun w1 => in_any _ _ _ w1
  have HAT : Hid (∀ w', Below w.heap.size w w' → Calls Try.prog 16 #[.slice G.av G.A.length G.acap] w' fun e w'' => e = .returned (.bool (atomsB G.A)) ∧ w'' = w') := fun w' hb' => by
    have s := HS.out.below hb'
    exact specAtoms_any G.ab G.ao G.acap G.av G.A w' s.al s.ats s.a s.txt
  clear hs hr hb
  by_cases h1 : G.N ≤ 1000
  case neg =>
    have hd : decide ((1000 : Int) < (G.N : Int)) = true := by simp; omega
    have HNO : Hid (¬ gensP G R) := gensP_sz (by simp [szB, lstB, h1])
    clear h1
    go_enter Try.func6, Try.ntmps6
    go_wp2_with fail
    go_ret
    exact ⟨false, rfl, ⟨fun h => (by cases h), fun h => absurd h HNO.out⟩, HB.out⟩
  case pos =>
    have hd : decide ((1000 : Int) < (G.N : Int)) = false := by simp; omega
    by_cases h2 : G.M ≤ 1000
    case neg =>
      have hd2 : decide ((1000 : Int) < (G.M : Int)) = true := by simp; omega
      have HNO : Hid (¬ gensP G R) := gensP_sz (by simp [szB, lstB, h2])
      clear h1 h2
      go_enter Try.func6, Try.ntmps6
      go_wp2_with fail
      go_ret
      exact ⟨false, rfl, ⟨fun h => (by cases h), fun h => absurd h HNO.out⟩, HB.out⟩
    case pos =>
      have hd2 : decide ((1000 : Int) < (G.M : Int)) = false := by simp; omega
      have HSZ : Hid (szB G = inB G.mark 0 G.M) := sz_of h1 h2
      have HNM : Hid (G.N ≤ 1000 ∧ G.M ≤ 1000) := ⟨h1, h2⟩
      clear h1 h2
      cases hi : inB G.mark 0 G.M with
      | false =>
        have HI : Hid (inB G.mark 0 G.M = false) := hi
        have HNO : Hid (¬ gensP G R) := gensP_sz (by rw [HSZ.out, hi])
        clear hi
        go_enter Try.func6, Try.ntmps6
        go_wp2_with (first
          | (go_at_call 15; refine (HIN.out _).mono ?_; rintro e w' ⟨rfl, hw'⟩; obtain rfl := hw'.symm; rw [HI.out]))
        go_ret
        exact ⟨false, rfl, ⟨fun h => (by cases h), fun h => absurd h HNO.out⟩, HB.out⟩
      | true =>
        have HI : Hid (inB G.mark 0 G.M = true) := hi
        have HSB : Hid (szB G = true) := by show _ = _; rw [HSZ.out, hi]
        clear hi
        cases ha : atomsB G.A with
        | false =>
          have HA : Hid (atomsB G.A = false) := ha
          have HNO : Hid (¬ gensP G R) := gensP_at ha
          clear ha
          go_enter Try.func6, Try.ntmps6
          go_wp2_with (first
            | (go_at_call 15; refine (HIN.out _).mono ?_; rintro e w' ⟨rfl, hw'⟩; obtain rfl := hw'.symm; rw [HI.out])
            | (go_at_call 16; refine (HAT.out _ HB.out).mono ?_; rintro e w2 ⟨rfl, hw2⟩; obtain rfl := hw2.symm; rw [HA.out]))
          go_ret
          exact ⟨false, rfl, ⟨fun h => (by cases h), fun h => absurd h HNO.out⟩, HB.out⟩
        | true =>
          have HA : Hid (atomsB G.A = true) := ha
          have HGP : Hid (gensP G R ↔ ∀ x ∈ R, rootP G x) := gensP_of HSB.out ha
          have HLK : Hid (∀ (w' : World) (x : Int), GSrc G w' → x ≤ 9223372036854775807 → (readT G.H x).isSome = true → Calls Try.prog 18 #[.agg #[.slice G.wv G.N G.cap, .slice G.yv G.M G.ycap, .int .i64 G.mark], .int .i64 x, .int .i64 200000] w' fun e w'' => e = .returned (.bool (lkB G.H G.mark 612 x 200000)) ∧ Below w'.heap.size w' w'') := fun w' x hs' hx' hx2 => lkT_all G (sz_lt HSB.out).2.2.1 (by have := sz_lt HSB.out; omega) 612 x 200000 w' (root_fin hx2) hx' hs'
          clear ha
          go_enter Try.func6, Try.ntmps6
          go_wp2_with (first
            | (go_at_call 15; refine (HIN.out _).mono ?_; rintro e w' ⟨rfl, hw'⟩; obtain rfl := hw'.symm; rw [HI.out])
            | (go_at_call 16; refine (HAT.out _ HB.out).mono ?_; rintro e w2 ⟨rfl, hw2⟩; obtain rfl := hw2.symm; rw [HA.out]))
          generalize w.alloc (.cells #[.slice G.wv G.N G.cap, .slice G.yv G.M G.ycap, .int .i64 G.mark] 29) = W at HB q0 ⊢
          generalize w.heap.size = X at q0 ⊢
          have HQ0 : Hid (∀ o, W.cell? ⟨X, o, none⟩ = (#[.slice G.wv G.N G.cap, .slice G.yv G.M G.ycap, .int .i64 G.mark] : Array Value)[o]?) := q0
          go_loopw [7] (fun i wr => ∃ m : Nat, i = .int .i64 m ∧ m ≤ R.length ∧ (∀ x ∈ R.take m, rootP G x) ∧ Below W.heap.size W wr) (fun i _ => R.length - (intOf i).toNat)
          case atStart => exact ⟨0, rfl, Nat.zero_le _, by simp, Below.refl _ _⟩
          case round =>
            obtain ⟨m, rfl, hm, hall, hbe⟩ := hrel
            have c4 : ∀ o, wr.cell? ⟨X, o, none⟩ = (#[.slice G.wv G.N G.cap, .slice G.yv G.M G.ycap, .int .i64 G.mark] : Array Value)[o]? := keep3 hbe q0
            have HBW : Hid (Below w.heap.size w wr ∧ Below W.heap.size W wr) := ⟨HB.out.trans (hbe.mono HB.out.size), hbe⟩
            have HALL : Hid (∀ x ∈ R.take m, rootP G x) := hall
            clear hall hbe q0
            by_cases hlt : m < R.length
            case neg =>
              have hlti : ¬ (m : Int) < (R.length : Int) := by omega
              go_wp2_with fail
              go_ret
              refine ⟨true, rfl, ⟨fun _ => HGP.out.2 ?_, fun _ => rfl⟩, HBW.out.1⟩
              have h := HALL.out
              rw [List.take_of_length_le (by omega)] at h
              exact h
            case pos =>
              have hlti : (m : Int) < (R.length : Int) := by omega
              obtain ⟨rb, ro, hrv, hcs⟩ := HR.out (by omega)
              subst hrv
              have r0 := hcs m hlt
              obtain ⟨x, hx⟩ : ∃ x, R[m] = x := ⟨_, rfl⟩
              have HTX : Hid (R.take (m + 1) = R.take m ++ [x] ∧ x ∈ R) := ⟨by rw [take_snoc hlt, hx], by rw [← hx]; exact List.getElem_mem hlt⟩
              rw [hx] at r0
              have r4 := (HBW.out.1.cell (p := ⟨rb, ro + m, none⟩) (World.block_lt_of_cell? _ _ r0)).trans r0
              have HX : Hid (x ≤ 9223372036854775807) := HBR.out x HTX.out.2
              have e0 : wr.cell? ⟨X, 0, none⟩ = some (.slice G.wv G.N G.cap) := c4 0
              have hXl : X < wr.heap.size := World.block_lt_of_cell? _ _ e0
              have hGl : rb < wr.heap.size := World.block_lt_of_cell? _ _ r4
              have c4a : ∀ o, (wr.alloc (.cells #[.int .i64 0, .int .i64 0, .string ⟨#[]⟩, .slice none 0 0] 42)).cell? ⟨X, o, none⟩ = (#[.slice G.wv G.N G.cap, .slice G.yv G.M G.ycap, .int .i64 G.mark] : Array Value)[o]? := keep3 (below3 wr _) c4
              have r4a : (wr.alloc (.cells #[.int .i64 0, .int .i64 0, .string ⟨#[]⟩, .slice none 0 0] 42)).cell? ⟨rb, ro + m, none⟩ = some (.int .i64 x) := by rw [World.cell?_alloc_lt (h := hGl)]; exact r4
              have nX : ¬ X = wr.heap.size := by omega
              have nG : ¬ rb = wr.heap.size := by omega
              have HKR : Hid (∀ w', Below W.heap.size W w' → w'.cell? ⟨rb, ro + m, none⟩ = some (.int .i64 x) ∧ ∀ o, w'.cell? ⟨X, o, none⟩ = (#[.slice G.wv G.N G.cap, .slice G.yv G.M G.ycap, .int .i64 G.mark] : Array Value)[o]?) := fun w' hb' => ⟨((HB.out.trans (hb'.mono HB.out.size)).cell (p := ⟨rb, ro + m, none⟩) (World.block_lt_of_cell? _ _ r0)).trans r0, keep3 hb' HQ0.out⟩
              have KW : Hid (Below W.heap.size W wr.drew ∧ Below W.heap.size W (wr.alloc (.cells #[.int .i64 0, .int .i64 0, .string ⟨#[]⟩, .slice none 0 0] 42)).drew) := ⟨HBW.out.2.drew, (HBW.out.2.alloc HBW.out.2.size _).drew⟩
              have HRJ : Hid (∀ w', Below W.heap.size W w' → Calls Try.prog 17 #[.agg #[.slice G.wv G.N G.cap, .slice G.yv G.M G.ycap, .int .i64 G.mark], .slice G.av G.A.length G.acap, .int .i64 x] w' fun e w'' => ∃ a b c d' e' f, e = .returned (.tuple #[.agg #[.int .i64 a, .int .i64 b, .string c, .slice d' e' f], .bool (readT G.H x).isSome]) ∧ Below w'.heap.size w' w'') := fun w' hb' => by
                refine (specGensRead_any G w' (HS.out.below (HB.out.trans (hb'.mono HB.out.size))) x HX.out).mono ?_
                rintro e w'' ⟨a, b, c, d', e', f, rfl, hb, _⟩
                exact ⟨a, b, c, d', e', f, rfl, hb⟩
              clear r0 hcs hx e0 hXl hGl
              go_wp2_with fail
              go_cut [8, 9] from 40 to 49 (fun v8 v9 wx => ∃ k : Nat, v8 = .pointer (some ⟨k, 0, none⟩) ∧ v9 = .bool (readT G.H x).isSome ∧ Below W.heap.size W wx)
              case first =>
                go_region_law (go_simp; go_wp2_with (
                  (go_at_call 17; first
                    | ((conv in (World.alloc wr (.cells #[.int .i64 0, .int .i64 0, .string ⟨#[]⟩, .slice none 0 0] 42)) => skip); refine (HRJ.out _ KW.out.2).mono ?_; rintro e w5 ⟨a5, b5, cc5, d5, e5, f5, rfl, hb5⟩; obtain ⟨q5, z5⟩ := keep4m hb5; have HB5 : Hid (Below W.heap.size W w5) := KW.out.2.trans (hb5.mono KW.out.2.size); clear hb5)
                    | (refine (HRJ.out _ KW.out.1).mono ?_; rintro e w5 ⟨a5, b5, cc5, d5, e5, f5, rfl, hb5⟩; have HB5 : Hid (Below W.heap.size W w5) := KW.out.1.trans (hb5.mono KW.out.1.size); clear hb5))))
                all_goals
                  go_wp2_with fail
                  go_meet
                  case rel =>
                    refine ⟨_, rfl, rfl, ?_⟩
                    first
                      | exact HB5.out.alloc HB5.out.size _
                      | exact below_set4m HB5.out HBW.out.2.size _ _ _ _
              case rest =>
                obtain ⟨k, rfl, rfl, hwx⟩ := hcut
                have HWX : Hid (Below W.heap.size W wc) := hwx
                obtain ⟨r9, c9⟩ := HKR.out wc hwx
                have d0 : wc.cell? ⟨X, 0, none⟩ = some (.slice G.wv G.N G.cap) := c9 0
                have d1 : wc.cell? ⟨X, 1, none⟩ = some (.slice G.yv G.M G.ycap) := c9 1
                have d2 : wc.cell? ⟨X, 2, none⟩ = some (.int .i64 G.mark) := c9 2
                have k0 := Inn.keep d0
                have k1 := Inn.keep d1
                have k2 := Inn.keep d2
                have k3 := Inn.keep r9
                haveI := inn_ne wc
                clear c4 c4a r4 r4a nX nG KW HRJ HKR hwx c9
                cases hrd : (readT G.H x).isSome with
                | false =>
                  have HNO : Hid (¬ gensP G R) := fun h => by have := ((HGP.out.1 h) x HTX.out.2).1; rw [hrd] at this; cases this
                  clear hrd
                  go_wp2_with fail
                  refine wp_region_inn ?_ ?_ ?_
                  · kernel_rfl
                  · kernel_rfl
                  repeat (go_big_quiet_step (fail))
                  refine wpQuiet_nil ?_
                  rintro w1 ⟨y1, h1⟩
                  have hb1 : Below wc.heap.size wc w1 := by rw [h1]; exact y1.bel
                  have HB1 : Hid (Below W.heap.size W w1) := HWX.out.trans (hb1.mono HWX.out.size)
                  clear h1 hb1 y1 k0 k1 k2 k3 d0 d1 d2 r9
                  go_wp2_with fail
                  go_ret
                  exact ⟨false, rfl, ⟨fun h => (by cases h), fun h => absurd h HNO.out⟩, HB.out.trans (HB1.out.mono HB.out.size)⟩
                | true =>
                  have HRD : Hid ((readT G.H x).isSome = true) := hrd
                  have hlk := lk_root HSB.out hrd
                  have HLE : Hid (∀ y : Inn wc, Calls Try.prog 18 #[.agg #[.slice G.wv G.N G.cap, .slice G.yv G.M G.ycap, .int .i64 G.mark], .int .i64 x, .int .i64 200000] y.val fun e w' => e = .returned (.bool (lkB G.H G.mark 612 x 200000)) ∧ Below y.val.heap.size y.val w') := fun y => HLK.out y.val x (HS.out.below ((HB.out.trans (HWX.out.mono HB.out.size)).trans (y.bel.mono (HB.out.trans (HWX.out.mono HB.out.size)).size))) HX.out HRD.out
                  generalize lkB G.H G.mark 612 x 200000 = bl at hlk HLE
                  have HL : Hid (bl = true ↔ rootP G x) := hlk
                  clear hrd hlk
                  cases bl with
                  | false =>
                    have HNO : Hid (¬ gensP G R) := fun h => by have := HL.out.2 ((HGP.out.1 h) x HTX.out.2); cases this
                    go_wp2_with fail
                    refine wp_region_inn ?_ ?_ ?_
                    · kernel_rfl
                    · kernel_rfl
                    repeat (go_big_quiet_step (first
                      | (go_at_call 18; exact calls_inn (HLE.out _))))
                    refine wpQuiet_nil ?_
                    rintro w1 ⟨y1, h1⟩
                    have hb1 : Below wc.heap.size wc w1 := by rw [h1]; exact y1.bel
                    have HB1 : Hid (Below W.heap.size W w1) := HWX.out.trans (hb1.mono HWX.out.size)
                    clear h1 hb1 y1 k0 k1 k2 k3 d0 d1 d2 r9 HLE
                    go_wp2_with fail
                    go_ret
                    exact ⟨false, rfl, ⟨fun h => (by cases h), fun h => absurd h HNO.out⟩, HB.out.trans (HB1.out.mono HB.out.size)⟩
                  | true =>
                    go_wp2_with fail
                    refine wp_region_inn ?_ ?_ ?_
                    · kernel_rfl
                    · kernel_rfl
                    repeat (go_big_quiet_step (first
                      | (go_at_call 18; exact calls_inn (HLE.out _))))
                    refine wpQuiet_nil ?_
                    rintro w1 ⟨y1, h1⟩
                    have hb1 : Below wc.heap.size wc w1 := by rw [h1]; exact y1.bel
                    have HB1 : Hid (Below W.heap.size W w1) := HWX.out.trans (hb1.mono HWX.out.size)
                    clear h1 hb1 y1 k0 k1 k2 k3 d0 d1 d2 r9 HLE
                    have V1 : IntKind.i64.wrap ((m : Int) + 1) = (m : Int) + 1 := by rw [IntKind.wrap_i64]; omega
                    go_wp2_with fail
                    go_roundw
                    case rel =>
                      refine ⟨m + 1, by congr 1, by omega, ?_, HB1.out⟩
                      rw [HTX.out.1]
                      exact all_snoc HALL.out (HL.out.1 (by first | rfl | trivial))
                    case measure => simp [intOf]; omega
end Go.Proofs.Ytagcbclgdlleiaa.Gn

namespace Go.Proofs.Ytagcbclgdlleiaa
open Go.RowKit
set_option linter.unusedVariables false

/-- What the copies are read from. -/
abbrev geO (N : Nat) (f : Nat → Int) (M : Nat) (h : Nat → Int) (mk : Int) (L : List ByteArray) (g y s : Nat) : Gn.GE := ⟨N, f, some ⟨g, 0, none⟩, g, 0, N, M, h, some ⟨y, 0, none⟩, y, 0, M, mk, L, some ⟨s, 0, none⟩, s, 0, L.length⟩
theorem gsrcO {w : World} {N M : Nat} {f h : Nat → Int} {mk : Int} {L : List ByteArray} {g y s : Nat} (hi : IG w g y N M f h) (ht : Txt w s 0 L) (hF : Few N M) (hL : L.length ≤ 1048576) (hf : ∀ j, f j ≤ 9223372036854775807) (hh : ∀ j, h j ≤ 9223372036854775807) (hs : ∀ x ∈ L, x.size ≤ maxLen) : Gn.GSrc (geO N f M h mk L g y s) w :=
  ⟨hF.1, hF.2.1, hL, .inl ⟨rfl, Nat.le_refl _⟩, .inl ⟨rfl, Nat.le_refl _⟩, fun _ => rfl, fun j hj => hi.o.cell j hj, fun j hj => hi.i.cell j hj, ht, hf, hh, hs⟩
theorem gRoots_of {w : World} {n r : Nat} {g : Nat → Int} (hi : Ints w r 0 n g) : Roots w (some ⟨r, 0, none⟩) (rootsOf n g) := fun _ => ⟨r, 0, rfl, fun j hj => by
  have hj' : j < n := by rw [roots_len] at hj; exact hj
  have e : (rootsOf n g)[j] = g j := by simp [rootsOf]
  rw [e]
  exact hi.cell j hj'⟩
theorem gRoots_big {n : Nat} {g : Nat → Int} (h : ∀ j, g j ≤ 9223372036854775807) : ∀ x ∈ rootsOf n g, x ≤ 9223372036854775807 := fun x hx => by
  obtain ⟨j, _, rfl⟩ := List.mem_map.1 hx
  exact h j
theorem same_bool {a b : Bool} {P Q : Prop} (h : a = true ↔ P) (k : b = true ↔ Q) (e : P ↔ Q) : a = b := by
  have : a = true ↔ b = true := h.trans (e.trans k.symm)
  cases a <;> cases b <;> simp_all
set_option maxHeartbeats 4000000 in
set_option maxRecDepth 100000 in
theorem gensOk_law (ao : Option Addr) (N cap : Nat) (f : Nat → Int) (yo : Option Addr) (M ycap : Nat) (fy : Nat → Int) (mk : Int) (av : Option Addr) (acap : Nat) (L : List ByteArray) (rv : Option Addr) (rN rcap : Nat) (g : Nat → Int) (w : World)
    (hr : RdG w ao N f yo M fy) (hN : N ≤ maxLen) (hM : M ≤ maxLen) (hf : ∀ j, f j ≤ 9223372036854775807) (hfy : ∀ j, fy j ≤ 9223372036854775807) (hT : RdT w av L) (hL : L.length ≤ maxLen) (hs : ∀ x ∈ L, x.size ≤ maxLen) (hg : RdI w rv rN g) (hgb : ∀ j, g j ≤ 9223372036854775807) (hR : rN ≤ maxLen) :
    Calls Try.prog 3 #[.agg #[.slice ao N cap, .slice yo M ycap, .int .i64 mk], .slice av L.length acap, .slice rv rN rcap] w fun e w' => e = .returned (.bool true) ∧ Below w.heap.size w w' := by
  have HR : Hid (RdG w ao N f yo M fy) := hr
  have HM : Hid (M ≤ maxLen) := hM
  have HFY : Hid (∀ j, fy j ≤ 9223372036854775807) := hfy
  have HN : Hid (N ≤ maxLen) := hN
  have HF : Hid (∀ j, f j ≤ 9223372036854775807) := hf
  have HT : Hid (RdT w av L) := hT
  have HL : Hid (L.length ≤ maxLen) := hL
  have HS : Hid (∀ x ∈ L, x.size ≤ maxLen) := hs
  have HG : Hid (RdI w rv rN g) := hg
  have HGB : Hid (∀ j, g j ≤ 9223372036854775807) := hgb
  clear hr hN hf hT hL hs hg hgb hM hfy
  unfold maxLen at hR
  by_cases hrb : rN ≤ 1048576
  case neg =>
    go_enter Try.func3, Try.ntmps3
    go_wp2_with fail
    go_ret
    exact ⟨rfl, (Below.refl _ _).alloc (Nat.le_refl _) _⟩
  case pos =>
    have HRB : Hid (rN ≤ 1048576) := hrb
    go_enter Try.func3, Try.ntmps3
    go_wp2_with fail
    generalize hW1 : w.alloc (.cells #[.slice ao N cap, .slice yo M ycap, .int .i64 mk] 24) = w1
    have hb1 : Below w.heap.size w w1 := by rw [← hW1]; exact (Below.refl _ _).alloc (Nat.le_refl _) _
    have q1 : ∀ o, w1.cell? ⟨w.heap.size, o, none⟩ = (#[.slice ao N cap, .slice yo M ycap, .int .i64 mk] : Array Value)[o]? := fun o => by rw [← hW1]; exact World.cell?_alloc_new w _ _ o
    have HB1 : Hid (Below w.heap.size w w1) := hb1
    have HQ1 : Hid (∀ o, w1.cell? ⟨w.heap.size, o, none⟩ = (#[.slice ao N cap, .slice yo M ycap, .int .i64 mk] : Array Value)[o]?) := q1
    have HR1 : Hid (RdG w1 ao N f yo M fy) := HR.out.below hb1
    have HT1 : Hid (RdT w1 av L) := HT.out.below hb1
    have HG1 : Hid (RdI w1 rv rN g) := HG.out.below hb1
    clear hW1 hb1 HR HT HG
    refine (szGens_any ao N cap yo M ycap mk 1048576 HN.out HM.out rfl _).mono ?_
    rintro e w2 ⟨y, rfl, hb2, hy1, hys⟩
    have q2 := keep3 hb2 HQ1.out
    have HB2 : Hid (Below w1.heap.size w1 w2) := hb2
    clear hb2 q1
    have HYS : Hid (0 ≤ y → Few N M ∧ y ≤ 1048576) := hys
    clear hys
    by_cases hy0 : 0 ≤ y
    case neg =>
      have e : y = -1 := by omega
      subst e
      go_wp2_with fail
      go_ret
      exact ⟨rfl, HB1.out.trans (HB2.out.mono HB1.out.size)⟩
    case pos =>
      have HNS : Hid (Few N M) := (HYS.out hy0).1
      have hy2 := (HYS.out hy0).2
      have HY0 : Hid (0 ≤ y) := hy0
      have HY2 : Hid (y ≤ 1048576) := hy2
      go_wp2_with fail
      refine (szStr2_any av acap L w2 (HT1.out.below HB2.out) HL.out HS.out y HY0.out HY2.out).mono ?_
      rintro e w3 ⟨z, rfl, hw3, hz, hzl⟩
      obtain rfl := hw3.symm
      by_cases hz0 : 0 ≤ z
      case neg =>
        have e : z = -1 := by omega
        subst e
        go_wp2_with fail
        go_ret
        exact ⟨rfl, HB1.out.trans (HB2.out.mono HB1.out.size)⟩
      case pos =>
        have HLS : Hid (L.length ≤ 1048576) := hzl hz0
        clear hzl
        go_wp2_with fail
        -- the specification's answer
        refine (toGens_any ao N cap f yo M ycap fy mk w2 (HR1.out.below HB2.out) HNS.out).mono ?_
        rintro e w4 ⟨g4, y4, rfl, hg4, hi4, hl4, hb4⟩
        have HI4 : Hid (IG w4 g4 y4 N M f fy) := hi4
        have hgl4 : y4 < w4.heap.size := hl4
        have HB4 : Hid (Below w1.heap.size w1 w4) := HB2.out.trans (hb4.mono HB2.out.size)
        have q4 := keep3 hb4 q2
        clear hi4 hl4 hb4
        go_wp2_with fail
        refine (toStr_any av acap L w4 (HT1.out.below HB4.out) HLS.out).mono ?_
        rintro e w5 ⟨rfl, hi5, hl5, hb5⟩
        have HT5 : Hid (Txt w5 w4.heap.size 0 L) := hi5.txt
        have HI5 : Hid (IG w5 g4 y4 N M f fy) := HI4.out.below hb5 hgl4
        have HB5 : Hid (Below w1.heap.size w1 w5) := HB4.out.trans (hb5.mono HB4.out.size)
        have q5 := keep3 hb5 q4
        have hl5' : w4.heap.size < w5.heap.size := hl5
        clear hi5 hl5 hb5
        go_wp2_with fail
        refine (toIntS_any rv rN rcap g w5 (HG1.out.below HB5.out) HRB.out).mono ?_
        rintro e w6 ⟨rfl, hi6, hl6, hb6⟩
        have HI6 : Hid (Ints w6 w5.heap.size 0 rN g) := hi6
        have HT6 : Hid (Txt w6 w4.heap.size 0 L) := HT5.out.below hb6
        have HJ6 : Hid (IG w6 g4 y4 N M f fy) := HI5.out.below hb6 (by omega)
        have HB6 : Hid (Below w1.heap.size w1 w6) := HB5.out.trans (hb6.mono HB5.out.size)
        have q6 := keep3 hb6 q5
        clear hi6 hl6 hb6
        have SP := Gn.specGensOk_any (G := geO N f M fy mk L g4 y4 w4.heap.size) (w := w6) (gsrcO HJ6.out HT6.out HNS.out HLS.out HF.out HFY.out HS.out) (rootsOf rN g) (some ⟨w5.heap.size, 0, none⟩) rN (gRoots_of HI6.out) (by rw [roots_len]; exact HRB.out) (gRoots_big HGB.out)
        rw [roots_len] at SP
        have HSP : Hid (Calls Try.prog 6 #[.agg #[.slice (some ⟨g4, 0, none⟩) N N, .slice (some ⟨y4, 0, none⟩) M M, .int .i64 mk], .slice (some ⟨w4.heap.size, 0, none⟩) L.length L.length, .slice (some ⟨w5.heap.size, 0, none⟩) rN rN] w6 (Gn.GoP (geO N f M fy mk L g4 y4 w4.heap.size) (rootsOf rN g) w6)) := SP
        clear SP
        go_wp2_with fail
        refine HSP.out.mono ?_
        rintro e w7 ⟨A, rfl, hA, hb7⟩
        have HB7 : Hid (Below w1.heap.size w1 w7) := HB6.out.trans (hb7.mono HB6.out.size)
        have q7 := keep3 hb7 q6
        clear hb7 HSP q2 q4 q5 q6
        have HA : Hid (A = true ↔ Gn.gensP (geO N f M fy mk L g4 y4 w4.heap.size) (rootsOf rN g)) := hA
        clear hA
        -- the program's
        go_wp2_with fail
        refine (toGens_any ao N cap f yo M ycap fy mk w7 (HR1.out.below HB7.out) HNS.out).mono ?_
        rintro e w8 ⟨g8, y8, rfl, hg8, hi8, hl8, hb8⟩
        have HI8 : Hid (IG w8 g8 y8 N M f fy) := hi8
        have hgl8 : y8 < w8.heap.size := hl8
        have HB8 : Hid (Below w1.heap.size w1 w8) := HB7.out.trans (hb8.mono HB7.out.size)
        have q8 := keep3 hb8 q7
        clear hi8 hl8 hb8
        go_wp2_with fail
        generalize hW9 : w8.alloc (.cells #[.slice (some ⟨g8, 0, none⟩) N N, .slice (some ⟨y8, 0, none⟩) M M, .int .i64 mk] 29) = w9
        have hb9 : Below w8.heap.size w8 w9 := by rw [← hW9]; exact (Below.refl _ _).alloc (Nat.le_refl _) _
        have x9 : ∀ o, w9.cell? ⟨w8.heap.size, o, none⟩ = (#[.slice (some ⟨g8, 0, none⟩) N N, .slice (some ⟨y8, 0, none⟩) M M, .int .i64 mk] : Array Value)[o]? := fun o => by rw [← hW9]; exact World.cell?_alloc_new w8 _ _ o
        have HI9 : Hid (IG w9 g8 y8 N M f fy) := HI8.out.below hb9 hgl8
        have hgl9 : y8 < w9.heap.size := Nat.lt_of_lt_of_le hgl8 hb9.size
        have HB9 : Hid (Below w1.heap.size w1 w9) := HB8.out.trans (hb9.mono HB8.out.size)
        have q9 := keep3 hb9 q8
        clear hW9 hb9 q7 q8
        refine (toStr_any av acap L w9 (HT1.out.below HB9.out) HLS.out).mono ?_
        rintro e w10 ⟨rfl, hi10, hl10, hb10⟩
        have HT10 : Hid (Txt w10 w9.heap.size 0 L) := hi10.txt
        have HI10 : Hid (IG w10 g8 y8 N M f fy) := HI9.out.below hb10 hgl9
        have hgl10 : y8 < w10.heap.size := Nat.lt_of_lt_of_le hgl9 hb10.size
        have HB10 : Hid (Below w1.heap.size w1 w10) := HB9.out.trans (hb10.mono HB9.out.size)
        have q10 := keep3 hb10 q9
        have x10 := keep3 hb10 x9
        clear hi10 hl10 hb10
        go_wp2_with fail
        refine (toIntS_any rv rN rcap g w10 (HG1.out.below HB10.out) HRB.out).mono ?_
        rintro e w11 ⟨rfl, hi11, hl11, hb11⟩
        have HR11 : Hid (Ints w11 w10.heap.size 0 rN g) := hi11
        have hrl11 : w10.heap.size < w11.heap.size := hl11
        have HT11 : Hid (Txt w11 w9.heap.size 0 L) := HT10.out.below hb11
        have HI11 : Hid (IG w11 g8 y8 N M f fy) := HI10.out.below hb11 hgl10
        have hgl11 : y8 < w11.heap.size := Nat.lt_of_lt_of_le hgl10 hb11.size
        have HB11 : Hid (Below w1.heap.size w1 w11) := HB10.out.trans (hb11.mono HB10.out.size)
        have q11 := keep3 hb11 q10
        have x11 := keep3 hb11 x10
        clear hi11 hl11 hb11 q9 q10 x9 x10
        have IM := Gn.implGensOk_any (G := geO N f M fy mk L g8 y8 w9.heap.size) (w := w11) (gsrcO HI11.out HT11.out HNS.out HLS.out HF.out HFY.out HS.out) (rootsOf rN g) (some ⟨w10.heap.size, 0, none⟩) rN (gRoots_of HR11.out) (by rw [roots_len]; exact HRB.out) (gRoots_big HGB.out)
        rw [roots_len] at IM
        have HIM : Hid (Calls Try.prog 10 #[.agg #[.slice (some ⟨g8, 0, none⟩) N N, .slice (some ⟨y8, 0, none⟩) M M, .int .i64 mk], .slice (some ⟨w9.heap.size, 0, none⟩) L.length L.length, .slice (some ⟨w10.heap.size, 0, none⟩) rN rN] w11 (Gn.GoP (geO N f M fy mk L g8 y8 w9.heap.size) (rootsOf rN g) w11)) := IM
        clear IM
        go_wp2_with fail
        refine HIM.out.mono ?_
        rintro e w12 ⟨A', rfl, hA', hb12⟩
        obtain rfl : A' = A := same_bool hA' HA.out Iff.rfl
        clear hA'
        have HR12 : Hid (Ints w12 w10.heap.size 0 rN g) := HR11.out.below hb12 hrl11
        have HT12 : Hid (Txt w12 w9.heap.size 0 L) := HT11.out.below hb12
        have HI12 : Hid (IG w12 g8 y8 N M f fy) := HI11.out.below hb12 hgl11
        have hgl12 : y8 < w12.heap.size := Nat.lt_of_lt_of_le hgl11 hb12.size
        have hrl12 : w10.heap.size < w12.heap.size := Nat.lt_of_lt_of_le hrl11 hb12.size
        have HB12 : Hid (Below w1.heap.size w1 w12) := HB11.out.trans (hb12.mono HB11.out.size)
        have q12 := keep3 hb12 q11
        have x12 := keep3 hb12 x11
        clear hb12 q11 x11 HIM
        go_wp2_with fail
        go_region_law (go_simp; go_wp2_with (first
          | (go_at_call 7; refine (toGens_any ao N cap f yo M ycap fy mk _ (HR1.out.below HB12.out.drew) HNS.out).mono ?_; rintro e w13 ⟨g13, y13, rfl, hg13, hi13, hl13, hb13⟩; have HC13 : Hid (Below w12.heap.size w12 w13) := bundrew2 hb13; have HI13 : Hid (IG w13 g13 y13 N M f fy ∧ IG w13 g8 y8 N M f fy) := ⟨hi13, HI12.out.below HC13.out hgl12⟩; have x13 := keep3 HC13.out x12; have q13 := keep3 HC13.out q12; clear hg13 hi13 hl13 hb13)
          | (go_at_call 11; refine (eqGens_same _ _ _ _ N N N M M M f fy mk w13 HI13.out.2.o.rdI HI13.out.1.o.rdI HI13.out.2.i.rdI HI13.out.1.i.rdI HNS.out).mono ?_; rintro e w14 ⟨rfl, hb14⟩; have HC14 : Hid (Below w12.heap.size w12 w14) := HC13.out.trans (hb14.mono HC13.out.size); clear hb14)))
        all_goals
          have HT14 : Hid (Txt w14 w9.heap.size 0 L) := HT12.out.below HC14.out
          have HR14 : Hid (Ints w14 w10.heap.size 0 rN g) := HR12.out.below HC14.out hrl12
          have HB14 : Hid (Below w1.heap.size w1 w14) := HB12.out.trans (HC14.out.mono HB12.out.size)
          have hrl14 : w10.heap.size < w14.heap.size := Nat.lt_of_lt_of_le hrl12 HC14.out.size
          go_wp2_with fail
          refine (toStr_any av acap L w14 (HT1.out.below HB14.out) HLS.out).mono ?_
          rintro e w15 ⟨rfl, hi15, hl15, hb15⟩
          have HS15 : Hid (Txt w15 w14.heap.size 0 L) := hi15.txt
          have HT15 : Hid (Txt w15 w9.heap.size 0 L) := HT14.out.below hb15
          have HR15 : Hid (Ints w15 w10.heap.size 0 rN g) := HR14.out.below hb15 hrl14
          have hrl15 : w10.heap.size < w15.heap.size := Nat.lt_of_lt_of_le hrl14 hb15.size
          have HB15 : Hid (Below w1.heap.size w1 w15) := HB14.out.trans (hb15.mono HB14.out.size)
          clear hi15 hl15 hb15
          go_wp2_with fail
          refine (eqStr_same (some ⟨w9.heap.size, 0, none⟩) (some ⟨w14.heap.size, 0, none⟩) L.length L.length L w15 HT15.out.rd HS15.out.rd (by have := HLS.out; omega)).mono ?_
          rintro e w16 ⟨rfl, hb16⟩
          have HR16 : Hid (Ints w16 w10.heap.size 0 rN g) := HR15.out.below hb16 hrl15
          have hrl16 : w10.heap.size < w16.heap.size := Nat.lt_of_lt_of_le hrl15 hb16.size
          have HB16 : Hid (Below w1.heap.size w1 w16) := HB15.out.trans (hb16.mono HB15.out.size)
          clear hb16
          go_wp2_with fail
          refine (toIntS_any rv rN rcap g w16 (HG1.out.below HB16.out) HRB.out).mono ?_
          rintro e w17 ⟨rfl, hi17, hl17, hb17⟩
          have HI17 : Hid (Ints w17 w16.heap.size 0 rN g) := hi17
          have HR17 : Hid (Ints w17 w10.heap.size 0 rN g) := HR16.out.below hb17 hrl16
          have HB17 : Hid (Below w1.heap.size w1 w17) := HB16.out.trans (hb17.mono HB16.out.size)
          clear hi17 hl17 hb17
          go_wp2_with fail
          refine (eqIntS_same _ _ rN rN rN g g w17 HR17.out.rdI HI17.out.rdI (fun _ _ => rfl) HRB.out).mono ?_
          rintro e w18 ⟨rfl, hb18⟩
          have HB18 : Hid (Below w1.heap.size w1 w18) := HB17.out.trans (hb18.mono HB17.out.size)
          clear hb18
          go_wp2_with fail
          go_ret
          exact ⟨rfl, HB1.out.trans (HB18.out.mono HB1.out.size)⟩
end Go.Proofs.Ytagcbclgdlleiaa
