/-
  Putting, the program's: what it begins with.
-/
import Derived.Test.YtabgfaafpgholaaW44
import Derived.Test.YtabgfaafpgholaaW14
namespace Go.Proofs.Ytabgfaafpgholaa
open Go.RowKit
set_option linter.unusedVariables false

mutual
theorem nT_one : ∀ t : Tm, ntL [t] = nT t
  | .mk k n s l => by rw [ntL, nT, ntL_nL l]; simp [ntL]
theorem ntL_nL : ∀ l : List Tm, ntL l = nL l
  | [] => by rw [ntL, nL]
  | t :: r => by
    have h1 := nT_one t
    have h2 := ntL_nL r
    obtain ⟨k, n, s, l⟩ := t
    rw [ntL, ntL] at h1
    rw [ntL, nL]
    omega
end
/-- What putting is to answer. -/
def PtB (t : Tm) (xs : List Int) (base most : Nat) (A : List ByteArray) : Option (List Int × List ByteArray × Int) := if (look t 6 100).isSome = true ∧ xs.length + ndT t ≤ most then ptT t (base + xs.length) A else none
/-- Where words and atoms stand ahead of putting. -/
structure SP (w w' : World) (xs : List Int) (A : List ByteArray) (n g : Nat) (av : Value) : Prop where
  ws : Ints w' g 0 n (ovr (fun _ => 0) 0 xs)
  lo : w.heap.size ≤ g
  lt : g < w'.heap.size
  at' : ∃ ga c, av = .slice (some ⟨ga, 0, none⟩) A.length c ∧ w'.ownsRow (g + 1) 9 1 (.slice (some ⟨ga, 0, none⟩) A.length c) A.length (A.map Value.string)
  be : Below w.heap.size w w'
mutual
theorem rpT_size {w : World} : ∀ (t : Tm) (b o : Nat), RepT 0 w t b o → RpT (fun x => x < w.heap.size) w t b o
  | .mk k n s l, b, o, h => by
    rw [RepT] at h
    rw [RpT]
    obtain ⟨h0, h1, h2, hs, ao, cap, h3, hl, hc, hr⟩ := h
    exact ⟨h0, h1, h2, hs, ao, cap, h3, hl, hc, rpL_size l ao hr⟩
theorem rpL_size {w : World} : ∀ (l : List Tm) (ao : Option Addr), RepL 0 w l ao → RpL (fun x => x < w.heap.size) w l ao
  | [], _, _ => by rw [RpL]; trivial
  | t :: r, ao, h => by
    rw [RepL] at h
    rw [RpL]
    obtain ⟨b, off, e, _, ht, hr⟩ := h
    have h1 := rpT_size t b off ht
    obtain ⟨v, hv⟩ := h1.head
    exact ⟨b, off, e, World.block_lt_of_cell? w _ hv, h1, rpL_size r _ hr⟩
end
theorem OsV.size {w : World} {bs : List Nat} {t : Tm} {v : Value} (h : OsV w bs t v) : RpV (fun x => x < w.heap.size) w t v := by
  have h2 := h.rep
  obtain ⟨k, n, s, l⟩ := t
  obtain ⟨ao, cap, e, h3, h4, h5, h6⟩ := h2
  exact ⟨ao, cap, e, h3, h4, h5, rpL_size l ao h6⟩
theorem WV.behind {w w' : World} {v : Value} {xs : List Int} (h : WV w w.heap.size v xs) (hb : Below w.heap.size w w') : WV w' w'.heap.size v xs := by
  rcases h with h | ⟨b, c, e1, e2, e3⟩
  · exact .inl h
  · exact .inr ⟨b, c, e1, Nat.lt_of_lt_of_le e2 hb.size, fun j hj => by rw [hb.cell (p := ⟨b, j, none⟩) e2]; exact e3 j hj⟩
set_option maxHeartbeats 4000000 in
set_option maxRecDepth 100000 in
theorem startPut_any (w : World) (hp : Option Addr × Nat × Nat) (xs : List Int) (base most : Nat) (ab ao ac : Nat) (A : List ByteArray) (bs : List Nat) (t : Tm) (v : Value)
    (hW : WV w w.heap.size (.slice hp.1 hp.2.1 hp.2.2) xs) (hA : Txt w ab ao A) (hO : OsV w bs t v) (hnd : bs.Nodup) (hxl : xs.length ≤ 1048576) (hal : A.length ≤ 1048576) (hm : most ≤ 200000) :
    Calls Try.prog 71 #[.slice hp.1 hp.2.1 hp.2.2, .int .i64 (base : Int), .int .i64 (most : Int), .slice (some ⟨ab, ao, none⟩) A.length ac, v] w fun e w' =>
      (¬ ((look t 6 100).isSome = true ∧ xs.length + ndT t ≤ most) ∧ e = .panicked PN ∧ Below w.heap.size w w') ∨
      ((look t 6 100).isSome = true ∧ xs.length + ndT t ≤ most ∧ ∃ g av, e = .returned (.agg #[.slice (some ⟨g, 0, none⟩) (xs.length + ndT t) (xs.length + ndT t), .int .i64 (xs.length : Int), .int .i64 (base : Int), av]) ∧ SP w w' xs A (xs.length + ndT t) g av) := by
  obtain ⟨k, n, s, l⟩ := t
  obtain ⟨ax, cap, rfl, hs, hlc, hcm, hr⟩ := hO
  obtain ⟨p, q, r⟩ := hp
  have hq : q = xs.length := by
    rcases hW with ⟨e1, e2⟩ | ⟨b, c, e1, e2, e3⟩
    · injection e1 with _ e1; rw [e2]; exact e1
    · injection e1 with _ e1
  dsimp only at hW ⊢
  subst hq
  have HO : Hid (∀ w', Below w.heap.size w w' → OsV w' bs (.mk k n s l) (.agg #[.int .i64 k, .int .i64 n, .string s, .slice ax l.length cap])) := fun w' hb => OsV.below hb ⟨ax, cap, rfl, hs, hlc, hcm, hr⟩
  have HW : Hid (∀ w', Below w.heap.size w w' → WV w' w'.heap.size (.slice p xs.length r) xs) := fun w' hb => hW.behind hb
  have HA : Hid (∀ w', Below w.heap.size w w' → Txt w' ab ao A) := fun w' hb => hA.below hb
  obtain ⟨W, hWd⟩ : ∃ W, W = (w.alloc (.cells #[.int .i64 k, .int .i64 n, .string s, .slice ax l.length cap] 39)).alloc (.cells #[.slice none 0 0, .int .i64 0, .int .i64 0, .slice none 0 0] 103) := ⟨_, rfl⟩
  have HBW : Hid (Below w.heap.size w W) := by rw [hWd]; exact ((Below.refl _ _).alloc (Nat.le_refl _) _).alloc (by simp) _
  have q0 : ∀ o, W.cell? ⟨w.heap.size, o, none⟩ = (#[.int .i64 k, .int .i64 n, .string s, .slice ax l.length cap] : Array Value)[o]? := fun o => by rw [hWd, World.cell?_alloc_past (hn := by simp), World.cell?_alloc_at (hn := rfl)]
  have p0 : ∀ o, W.cell? ⟨w.heap.size + 1, o, none⟩ = (#[.slice none 0 0, .int .i64 0, .int .i64 0, .slice none 0 0] : Array Value)[o]? := fun o => by rw [hWd, World.cell?_alloc_at (hn := by simp)]
  have f0 : ∀ o, W.frozen? ⟨w.heap.size + 1, o, none⟩ = false := fun o => by rw [hWd, World.frozen?_alloc_at (hn := by simp)]
  have HQ : Hid (∀ w', Below W.heap.size W w' → (∀ o, w'.cell? ⟨w.heap.size, o, none⟩ = (#[.int .i64 k, .int .i64 n, .string s, .slice ax l.length cap] : Array Value)[o]?) ∧ (∀ o, w'.cell? ⟨w.heap.size + 1, o, none⟩ = (#[.slice none 0 0, .int .i64 0, .int .i64 0, .slice none 0 0] : Array Value)[o]?) ∧ (∀ o, w'.frozen? ⟨w.heap.size + 1, o, none⟩ = false)) := fun w' hb => by
    have hz : W.heap.size = w.heap.size + 1 + 1 := by rw [hWd]; simp
    exact ⟨fun o => by rw [hb.cell (p := ⟨w.heap.size, o, none⟩) (by show w.heap.size < _; omega)]; exact q0 o, fun o => by rw [hb.cell (p := ⟨w.heap.size + 1, o, none⟩) (by show w.heap.size + 1 < _; omega)]; exact p0 o, fun o => by rw [hb.frozen (p := ⟨w.heap.size + 1, o, none⟩) (by show w.heap.size + 1 < _; omega)]; exact f0 o⟩
  have HSZ : Hid (W.heap.size = w.heap.size + 1 + 1) := by show _ = _; rw [hWd]; simp
  have HX : Hid (xs.length ≤ 1048576 ∧ A.length ≤ 1048576 ∧ most ≤ 200000) := ⟨hxl, hal, hm⟩
  have HND : Hid (bs.Nodup) := hnd
  clear hW hA hnd hxl hal hm hs hlc hcm hr f0 p0 q0
  cases hlk : (look (.mk k n s l) 6 100).isSome with
  | false =>
    have HLK : Hid ((look (.mk k n s l) 6 100).isSome = false) := hlk
    clear hlk
    go_enter Try.func71, Try.ntmps71
    go_wp2_with (go_at_call 94; fail)
    rw [← hWd]
    clear hWd
    refine (implOk_any (.mk k n s l) 0 W _ (HO.out W HBW.out).rep).mono ?_
    rintro e w1 ⟨rfl, hb1⟩
    rw [HLK.out]
    have HB1 : Hid (Below w.heap.size w w1) := HBW.out.trans (hb1.mono HBW.out.size)
    clear hb1
    go_wp2_with (go_at_call 93; refine (insist_no _).mono ?_; rintro e w' ⟨rfl, hw'⟩; obtain rfl := hw'.symm)
    exact ⟨rfl, .inl ⟨(fun h => by cases h.1), rfl, HB1.out⟩⟩
  | true =>
    have HLK : Hid ((look (.mk k n s l) 6 100).isSome = true) := hlk
    obtain ⟨b1, b2, b3⟩ := look_b hlk
    have hone := nT_one (.mk k n s l)
    have HK : Hid (AllK (.mk k n s l) ∧ ndT (.mk k n s l) ≤ 1000000 ∧ ntL [.mk k n s l] ≤ 1000000) := ⟨goodK b1, by omega, by omega⟩
    obtain ⟨y, hy⟩ : ∃ y, y = ndT (.mk k n s l) := ⟨_, rfl⟩
    have HY : Hid (y = ndT (.mk k n s l)) := hy
    rw [← hy]
    obtain ⟨N, hN⟩ : ∃ N, N = xs.length + y := ⟨_, rfl⟩
    have HN : Hid (N = xs.length + y) := hN
    rw [← hN]
    have hxx := HX.out
    have e1 : IntKind.i64.wrap ((xs.length : Int) + (y : Int)) = (N : Int) := by rw [IntKind.wrap_i64]; omega
    clear hlk b1 b2 b3 hone hy hN
    by_cases hle : N ≤ most
    · have hli : (N : Int) ≤ (most : Int) := by omega
      have HNM : Hid (N ≤ 1048576) := by show _ ≤ _; omega
      have hmk := fun W => run_ints N HNM.out W
      clear hxx
      go_enter Try.func71, Try.ntmps71
      go_wp2_with (go_at_call 94; fail)
      rw [← hWd]
      clear hWd
      refine (implOk_any (.mk k n s l) 0 W _ (HO.out W HBW.out).rep).mono ?_
      rintro e w1 ⟨rfl, hb1⟩
      rw [HLK.out]
      have HB1 : Hid (Below W.heap.size W w1) := hb1
      obtain ⟨q1, _, _⟩ := HQ.out w1 hb1
      clear hb1
      have HFI : Hid (∀ wz, Below W.heap.size W wz → ∃ w3, (Builtin.copy_ #[22, 22] 3 #[.slice (some ⟨wz.heap.size, 0, none⟩) N N, .slice p xs.length r]).run Try.prog (wz.alloc (.cells (madeCells #[.int .i64 0] N) 3)) = .ok (.int .i64 (xs.length : Int)) w3 ∧ Ints w3 wz.heap.size 0 N (ovr (fun _ => 0) 0 xs) ∧ Below W.heap.size W w3 ∧ wz.heap.size < w3.heap.size) := fun wz hb => by
        have hbz : Below W.heap.size W (wz.alloc (.cells (madeCells #[.int .i64 0] N) 3)) := hb.alloc hb.size _
        refine run_fillI _ W W.heap.size wz.heap.size N r p xs (heap_alloc_new wz _) (fun hne => ?_) hbz hb.size (by have := HN.out; omega)
        rcases HW.out _ (HBW.out.trans (hbz.mono HBW.out.size)) with ⟨_, e2⟩ | ⟨b, c, e1, e2, e3⟩
        · exact absurd e2 hne
        · injection e1 with e1
          exact ⟨b, e1, e3⟩
      go_wp2_with (first
        | (go_at_call 93; refine (insist_yes _).mono ?_; rintro e w' ⟨rfl, hw'⟩; obtain rfl := hw'.symm)
        | (go_at_call 95; refine (implNeed_any k n s l ax cap bs w1 (HO.out w1 (HBW.out.trans (HB1.out.mono HBW.out.size))) HND.out HK.out.1 HK.out.2.1 HK.out.2.2).mono ?_; rintro e w2 ⟨rfl, hb2⟩; rw [← HY.out]; have HB2 : Hid (Below W.heap.size W w2) := HB1.out.trans (hb2.mono HB1.out.size); obtain ⟨w3, hcp, hin, hb3, hl3⟩ := HFI.out w2 HB2.out; have HI3 : Hid (Ints w3 w2.heap.size 0 N (ovr (fun _ => 0) 0 xs) ∧ Below W.heap.size W w3 ∧ w2.heap.size < w3.heap.size) := ⟨hin, hb3, hl3⟩; clear hb2 hin hb3 hl3)
        | (go_at_call 70; refine (cloneT_any ab ao ac A w3 (HA.out w3 (HBW.out.trans (HI3.out.2.1.mono HBW.out.size))) HX.out.2.1).mono ?_; rintro e w4 ⟨u, rfl, ⟨ga, ca, rfl, ho4⟩, hb4⟩; have HB4 : Hid (Below W.heap.size W w4) := HI3.out.2.1.trans (hb4.mono HI3.out.2.1.size); have HO4 : Hid (w4.ownsRow w3.heap.size 9 1 (.slice (some ⟨ga, 0, none⟩) A.length ca) A.length (A.map Value.string) ∧ Below w3.heap.size w3 w4) := ⟨ho4, hb4⟩; obtain ⟨_, q4, f4⟩ := HQ.out w4 HB4.out; clear ho4 hb4))
      have l1 := HB2.out.size
      have l2 := HBW.out.size
      have l3 := HI3.out.2.2
      have hz : W.heap.size = w.heap.size + 1 + 1 := HSZ.out
      have hbk : ∀ b, b ≠ w.heap.size + 1 → ((((w4.setCell ⟨w.heap.size + 1, 0, none⟩ (.slice (some ⟨w2.heap.size, 0, none⟩) N N)).setCell ⟨w.heap.size + 1, 1, none⟩ (.int .i64 (xs.length : Int))).setCell ⟨w.heap.size + 1, 2, none⟩ (.int .i64 (base : Int))).setCell ⟨w.heap.size + 1, 3, none⟩ (.slice (some ⟨ga, 0, none⟩) A.length ca)).heap[b]? = w4.heap[b]? := fun b hb => by
        rw [Below.heap_setCell _ _ _ _ (by show b ≠ w.heap.size + 1; omega), Below.heap_setCell _ _ _ _ (by show b ≠ w.heap.size + 1; omega), Below.heap_setCell _ _ _ _ (by show b ≠ w.heap.size + 1; omega), Below.heap_setCell _ _ _ _ (by show b ≠ w.heap.size + 1; omega)]
      have HFI : Hid (SP w ((((w4.setCell ⟨w.heap.size + 1, 0, none⟩ (.slice (some ⟨w2.heap.size, 0, none⟩) N N)).setCell ⟨w.heap.size + 1, 1, none⟩ (.int .i64 (xs.length : Int))).setCell ⟨w.heap.size + 1, 2, none⟩ (.int .i64 (base : Int))).setCell ⟨w.heap.size + 1, 3, none⟩ (.slice (some ⟨ga, 0, none⟩) A.length ca)) xs A N w2.heap.size (.slice (some ⟨ga, 0, none⟩) A.length ca)) := by
        have g1 := HO4.out.2
        have g2 := HO4.out.1
        refine ⟨⟨fun j hj => ?_, fun x => ?_⟩, by omega, ?_, ⟨ga, ca, rfl, ?_⟩, ?_⟩
        · rw [World.cell?_of_block (w := w4) (hbk w2.heap.size (by omega)), g1.cell (p := ⟨w2.heap.size, 0 + j, none⟩) l3]
          exact HI3.out.1.cell j hj
        · rw [World.frozen?_of_block (w := w4) (hbk w2.heap.size (by omega)), g1.frozen (p := ⟨w2.heap.size, x, none⟩) l3]
          exact HI3.out.1.free x
        · simp only [World.size_setCell]
          have := g1.size
          omega
        · have g3 := own_low (base' := w2.heap.size + 1) g2 (by omega)
          have g9 := (g2.lt ga rfl).1
          exact own_other (own_other (own_other (own_other g3 (by omega) _) (by omega) _) (by omega) _) (by omega) _
        · have g4 : Below w.heap.size w w4 := HBW.out.trans (HB4.out.mono HBW.out.size)
          exact (((g4.setCell (by show _ ≤ w.heap.size + 1; omega) _).setCell (by show _ ≤ w.heap.size + 1; omega) _).setCell (by show _ ≤ w.heap.size + 1; omega) _).setCell (by show _ ≤ w.heap.size + 1; omega) _
      refine bodyPost_ret (v := .agg #[.slice (some ⟨w2.heap.size, 0, none⟩) N N, .int .i64 (xs.length : Int), .int .i64 (base : Int), .slice (some ⟨ga, 0, none⟩) A.length ca]) (by simp [results, Try.results71, go_sem, q4]) rfl (.inr ⟨trivial, hle, w2.heap.size, _, rfl, HFI.out⟩)
    · have hli : ¬ (N : Int) ≤ (most : Int) := by omega
      clear hxx
      go_enter Try.func71, Try.ntmps71
      go_wp2_with (go_at_call 94; fail)
      rw [← hWd]
      clear hWd
      refine (implOk_any (.mk k n s l) 0 W _ (HO.out W HBW.out).rep).mono ?_
      rintro e w1 ⟨rfl, hb1⟩
      rw [HLK.out]
      have HB1 : Hid (Below W.heap.size W w1) := hb1
      obtain ⟨q1, _, _⟩ := HQ.out w1 hb1
      clear hb1
      go_wp2_with (first
        | (go_at_call 93; refine (insist_yes _).mono ?_; rintro e w' ⟨rfl, hw'⟩; obtain rfl := hw'.symm)
        | (go_at_call 93; refine (insist_no _).mono ?_; rintro e w' ⟨rfl, hw'⟩; obtain rfl := hw'.symm)
        | (go_at_call 95; refine (implNeed_any k n s l ax cap bs w1 (HO.out w1 (HBW.out.trans (HB1.out.mono HBW.out.size))) HND.out HK.out.1 HK.out.2.1 HK.out.2.2).mono ?_; rintro e w2 ⟨rfl, hb2⟩; rw [← HY.out]; have HB2 : Hid (Below W.heap.size W w2) := HB1.out.trans (hb2.mono HB1.out.size); clear hb2))
      exact ⟨rfl, .inl ⟨fun h => hle h.2, rfl, HBW.out.trans (HB2.out.mono HBW.out.size)⟩⟩
end Go.Proofs.Ytabgfaafpgholaa
