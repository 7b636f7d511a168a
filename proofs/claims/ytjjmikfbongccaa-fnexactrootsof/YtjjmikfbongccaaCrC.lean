/-
  The law of the roots of a cell.
-/
import Derived.Test.YtjjmikfbongccaaCrB
namespace Go.Proofs.Ytjjmikfbongccaa.fnExactRootsOf
open Go.RowKit Go.Proofs.Ytjjmikfbongccaa
set_option linter.unusedVariables false

/-- What the law has in hand all the way: its argument's box, and the argument. -/
structure Rw (w wc : World) (c : Ce) (h : Cw) (cs : Array Value) : Prop where
  be : Below w.heap.size w wc
  bx : ∀ o, wc.cell? ⟨w.heap.size, o, none⟩ = cs[o]?
  lt : w.heap.size < wc.heap.size
  rd : CeR wc c h
theorem Rw.next {w wc w' : World} {c : Ce} {h : Cw} {cs : Array Value} (x : Rw w wc c h cs) (hb : Below wc.heap.size wc w') : Rw w w' c h cs :=
  ⟨x.be.trans (hb.mono x.be.size), fun o => by rw [hb.cell (p := ⟨w.heap.size, o, none⟩) x.lt]; exact x.bx o, Nat.lt_of_lt_of_le x.lt hb.size, x.rd.below hb⟩
/-- Behind a call that turned nothing below hi. -/
theorem Rw.turn {w wc w' : World} {c : Ce} {h : Cw} {cs : Array Value} (x : Rw w wc c h cs) (h0 : CeR w c h) (os : w'.os = wc.os) (tape : w'.tape = wc.tape) (output : w'.output = wc.output) (size : wc.heap.size ≤ w'.heap.size) (hk : ∀ b, b < w.heap.size + 1 → w'.heap[b]? = wc.heap[b]?) : Rw w w' c h cs := by
  have hb : Below w.heap.size w w' := ⟨os.trans x.be.os, tape.trans x.be.tape, output.trans x.be.output, Nat.le_trans x.be.size size, fun k hk' => (hk k (by omega)).trans (x.be.block k hk')⟩
  exact ⟨hb, fun o => by rw [World.cell?_of_block (w := wc) (hk w.heap.size (by omega))]; exact x.bx o, Nat.lt_of_lt_of_le x.lt size, h0.below hb⟩
/-- The copy that the program is handed: its box and its lists. -/
structure Xw (wc : World) (B0 : Nat) (c : Ce) (x y z : Nat) (cs : Array Value) : Prop where
  bx : ∀ o, wc.cell? ⟨B0, o, none⟩ = cs[o]?
  ci : CI wc c x y z
  zb : z < B0
  lt : B0 < wc.heap.size
theorem Xw.next {wc w' : World} {B0 : Nat} {c : Ce} {x y z : Nat} {cs : Array Value} (h : Xw wc B0 c x y z cs) (hb : Below wc.heap.size wc w') : Xw w' B0 c x y z cs :=
  ⟨fun o => by rw [hb.cell (p := ⟨B0, o, none⟩) h.lt]; exact h.bx o, h.ci.below (Nat.lt_trans h.zb h.lt) hb, h.zb, Nat.lt_of_lt_of_le h.lt hb.size⟩
theorem rts_small {c : Ce} (h : CeS c) : (rts c).length ≤ 1048576 := by rw [rts_len]; unfold CeS at h; omega

set_option maxHeartbeats 4000000 in
set_option maxRecDepth 100000 in
theorem walk (c : Ce) (h : Cw) (w : World) (hr : CeR w c h) (h1 : c.R ≤ maxLen) (h2 : c.B ≤ maxLen) (h3 : c.N ≤ maxLen) :
    Calls Try.prog 3 #[ceV c h] w fun e w' => e = .returned (.bool true) ∧ Below w.heap.size w w' := by
  obtain ⟨pid, pc, R, r, B, b, N, f, ha⟩ := c
  obtain ⟨ra, rc, ba, bc, la, lc⟩ := h
  show Calls Try.prog 3 #[.agg #[.int .i64 pid, .int .i64 pc, .slice ra R rc, .slice ba B bc, .slice la N lc, .int .i64 ha]] w _
  generalize hC : (⟨pid, pc, R, r, B, b, N, f, ha⟩ : Ce) = C at *
  generalize hH : (⟨ra, rc, ba, bc, la, lc⟩ : Cw) = H at *
  have HR : Hid (CeR w C H) := hr
  have W0 : Rw w (w.alloc (.cells #[.int .i64 pid, .int .i64 pc, .slice ra R rc, .slice ba B bc, .slice la N lc, .int .i64 ha] 24)) C H #[.int .i64 pid, .int .i64 pc, .slice ra R rc, .slice ba B bc, .slice la N lc, .int .i64 ha] :=
    ⟨(Below.refl _ _).alloc (Nat.le_refl _) _, fun o => World.cell?_alloc_new w _ _ o, by simp, hr.below ((Below.refl _ _).alloc (Nat.le_refl _) _)⟩
  have HW0 : Hid (Rw w (w.alloc (.cells #[.int .i64 pid, .int .i64 pc, .slice ra R rc, .slice ba B bc, .slice la N lc, .int .i64 ha] 24)) C H #[.int .i64 pid, .int .i64 pc, .slice ra R rc, .slice ba B bc, .slice la N lc, .int .i64 ha]) := W0
  have HSZ : Hid (∀ wc, Rw w wc C H #[.int .i64 pid, .int .i64 pc, .slice ra R rc, .slice ba B bc, .slice la N lc, .int .i64 ha] → Calls Try.prog 5 #[.agg #[.int .i64 pid, .int .i64 pc, .slice ra R rc, .slice ba B bc, .slice la N lc, .int .i64 ha], .int .i64 1048576] wc fun e w' => (∃ r : Int, e = .returned (.int .i64 r) ∧ -1 ≤ r ∧ r ≤ 1048576 ∧ (0 ≤ r → CeS C)) ∧ Rw w w' C H #[.int .i64 pid, .int .i64 pc, .slice ra R rc, .slice ba B bc, .slice la N lc, .int .i64 ha]) := fun wc x => by
    have := szCell_any C H 1048576 wc h1 h2 h3 (by decide) (by decide)
    rw [← hC, ← hH] at this
    rw [← hC] at x ⊢
    rw [← hH] at x ⊢
    exact this.mono fun e w' ⟨h1, h2⟩ => ⟨h1, x.next h2⟩
  have HTO : Hid (CeS C → ∀ wc, Rw w wc C H #[.int .i64 pid, .int .i64 pc, .slice ra R rc, .slice ba B bc, .slice la N lc, .int .i64 ha] → Calls Try.prog 7 #[.agg #[.int .i64 pid, .int .i64 pc, .slice ra R rc, .slice ba B bc, .slice la N lc, .int .i64 ha]] wc fun e w' => ∃ x y z, e = .returned (.agg #[.int .i64 pid, .int .i64 pc, .slice (some ⟨x, 0, none⟩) R R, .slice (some ⟨y, 0, none⟩) B B, .slice (some ⟨z, 0, none⟩) N N, .int .i64 ha]) ∧ wc.heap.size ≤ x ∧ z < w'.heap.size ∧ CI w' C x y z ∧ Rw w w' C H #[.int .i64 pid, .int .i64 pc, .slice ra R rc, .slice ba B bc, .slice la N lc, .int .i64 ha] ∧ Below wc.heap.size wc w') := fun hs wc x => by
    have := toCell_any C H wc x.rd hs
    rw [← hC, ← hH] at this
    rw [← hC] at x ⊢
    rw [← hH] at x ⊢
    exact this.mono fun e w' ⟨x', y, z, h1, h2, h3, h4, h5⟩ => ⟨x', y, z, h1, h2, h3, h4, x.next h5, h5⟩
  have HSP : Hid (CeS C → ∀ wc x y z, Rw w wc C H #[.int .i64 pid, .int .i64 pc, .slice ra R rc, .slice ba B bc, .slice la N lc, .int .i64 ha] → CI wc C x y z → Calls Try.prog 6 #[.agg #[.int .i64 pid, .int .i64 pc, .slice (some ⟨x, 0, none⟩) R R, .slice (some ⟨y, 0, none⟩) B B, .slice (some ⟨z, 0, none⟩) N N, .int .i64 ha]] wc fun e w' => ∃ ao cap, e = .returned (.slice ao (rts C).length cap) ∧ Ls w' wc.heap.size w'.heap.size ao (rts C).length (nth (rts C)) ∧ Rw w w' C H #[.int .i64 pid, .int .i64 pc, .slice ra R rc, .slice ba B bc, .slice la N lc, .int .i64 ha] ∧ Below wc.heap.size wc w') := fun hs wc x y z k ci => by
    have := specRoots_any C _ x 0 y 0 wc ci.cat hs
    rw [← hC] at this k ⊢
    refine this.mono fun e w' ⟨v, h1, h2, h3⟩ => ?_
    obtain ⟨ao, cap, rfl, hl⟩ := h2.form
    exact ⟨ao, cap, h1, hl, k.next h3, h3⟩
  have HIM : Hid (CeS C → ∀ wc x y z, Rw w wc C H #[.int .i64 pid, .int .i64 pc, .slice ra R rc, .slice ba B bc, .slice la N lc, .int .i64 ha] → CI wc C x y z → Calls Try.prog 8 #[.agg #[.int .i64 pid, .int .i64 pc, .slice (some ⟨x, 0, none⟩) R R, .slice (some ⟨y, 0, none⟩) B B, .slice (some ⟨z, 0, none⟩) N N, .int .i64 ha]] wc fun e w' => ∃ ao cap, e = .returned (.slice ao (rts C).length cap) ∧ Ls w' wc.heap.size w'.heap.size ao (rts C).length (nth (rts C)) ∧ Rw w w' C H #[.int .i64 pid, .int .i64 pc, .slice ra R rc, .slice ba B bc, .slice la N lc, .int .i64 ha] ∧ Below wc.heap.size wc w') := fun hs wc x y z k ci => by
    have := implRoots_any C _ x 0 y 0 wc ci.cat hs
    rw [← hC] at this k ⊢
    refine this.mono fun e w' ⟨v, h1, h2, h3⟩ => ?_
    obtain ⟨ao, cap, rfl, hl⟩ := h2.form
    exact ⟨ao, cap, h1, hl, k.next h3, h3⟩
  have HEC : Hid (CeS C → ∀ wc x y z x' y' z', Rw w wc C H #[.int .i64 pid, .int .i64 pc, .slice ra R rc, .slice ba B bc, .slice la N lc, .int .i64 ha] → CI wc C x y z → CI wc C x' y' z' → Calls Try.prog 10 #[.agg #[.int .i64 pid, .int .i64 pc, .slice (some ⟨x, 0, none⟩) R R, .slice (some ⟨y, 0, none⟩) B B, .slice (some ⟨z, 0, none⟩) N N, .int .i64 ha], .agg #[.int .i64 pid, .int .i64 pc, .slice (some ⟨x', 0, none⟩) R R, .slice (some ⟨y', 0, none⟩) B B, .slice (some ⟨z', 0, none⟩) N N, .int .i64 ha]] wc fun e w' => e = .returned (.bool true) ∧ Rw w w' C H #[.int .i64 pid, .int .i64 pc, .slice ra R rc, .slice ba B bc, .slice la N lc, .int .i64 ha] ∧ Below wc.heap.size wc w') := fun hs wc x y z x' y' z' k ci ci' => by
    have := eqCell_same C _ _ wc (ci.rd C.R C.B C.N) (ci'.rd C.R C.B C.N) hs
    rw [← hC] at this k ⊢
    exact this.mono fun e w' ⟨h1, h2⟩ => ⟨h1, k.next h2, h2⟩
  have HMC : Hid (CeS C → ∀ wc x y z, CI wc C x y z → z < wc.heap.size → Calls Try.prog 11 #[.agg #[.int .i64 pid, .int .i64 pc, .slice (some ⟨x, 0, none⟩) R R, .slice (some ⟨y, 0, none⟩) B B, .slice (some ⟨z, 0, none⟩) N N, .int .i64 ha], .int .i64 1] wc fun e w' => e = .returned (.int .i64 (1 + (R : Int) + B + N)) ∧ MkC wc w' C x y z 1) := fun hs wc x y z ci hz => by
    have := markCell_any C x y z C.R C.B C.N wc ci hs hz
    rw [← hC] at this ⊢
    exact this
  have HEI : Hid (CeS C → ∀ wc ao bo ca cb, RdI wc ao (rts C).length (nth (rts C)) → RdI wc bo (rts C).length (nth (rts C)) → Calls Try.prog 9 #[.slice ao (rts C).length ca, .slice bo (rts C).length cb] wc fun e w' => e = .returned (.bool true) ∧ Below wc.heap.size wc w') := fun hs wc ao bo ca cb k k' =>
    eqIntS_same ao bo _ ca cb _ _ wc k k' (fun _ _ => rfl) (rts_small hs)
  have HLN : Hid (CeS C → (rts C).length ≤ 1048576) := rts_small
  clear W0 hr h1 h2 h3 hC hH
  go_enter Try.func3, Try.ntmps3
  go_wp2_with (go_at_call 5; fail)
  refine (HSZ.out _ HW0.out).mono ?_
  rintro e w1 ⟨⟨r0, rfl, hr0, hr1, hrs⟩, hw1⟩
  have HW1 : Hid (Rw w w1 C H #[.int .i64 pid, .int .i64 pc, .slice ra R rc, .slice ba B bc, .slice la N lc, .int .i64 ha]) := hw1
  have HSS : Hid (0 ≤ r0 → CeS C) := hrs
  have q1 := hw1.bx
  clear hw1 hrs
  by_cases h0 : r0 < 0
  · clear q1
    go_wp2
    go_ret
    exact ⟨rfl, HW1.out.be⟩
  have HS : Hid (CeS C) := HSS.out (by omega)
  clear HSS hr0 hr1
  go_wp2_with (go_at_call 7; fail)
  refine (HTO.out HS.out _ HW1.out).mono ?_
  rintro e w2 ⟨x2, y2, z2, rfl, hx2, hz2, hc2, hw2, hb2⟩
  have HW2 : Hid (Rw w w2 C H #[.int .i64 pid, .int .i64 pc, .slice ra R rc, .slice ba B bc, .slice la N lc, .int .i64 ha] ∧ CI w2 C x2 y2 z2) := ⟨hw2, hc2⟩
  clear hw2 hc2 hb2 hx2 hz2 q1
  go_wp2_with (go_at_call 6; fail)
  refine (HSP.out HS.out _ x2 y2 z2 HW2.out.1 HW2.out.2).mono ?_
  rintro e w3 ⟨so, sc, rfl, hl3, hw3, hb3⟩
  have q3 := hw3.bx
  have HW3 : Hid (Rw w w3 C H #[.int .i64 pid, .int .i64 pc, .slice ra R rc, .slice ba B bc, .slice la N lc, .int .i64 ha]) := hw3
  have HL3 : Hid (Ls w3 w2.heap.size w3.heap.size so (rts C).length (nth (rts C))) := hl3
  have HZ3 : Hid (w.heap.size < w2.heap.size ∧ w2.heap.size ≤ w3.heap.size) := ⟨HW2.out.1.lt, hb3.size⟩
  clear hl3 hw3 hb3 HW2
  go_wp2_with (go_at_call 7; fail)
  refine (HTO.out HS.out _ HW3.out).mono ?_
  rintro e w4 ⟨x, y, z, rfl, hx4, hz4, hc4, hw4, hb4⟩
  obtain ⟨W4, hW4⟩ : ∃ W4, W4 = w4.alloc (.cells #[.int .i64 pid, .int .i64 pc, .slice (some ⟨x, 0, none⟩) R R, .slice (some ⟨y, 0, none⟩) B B, .slice (some ⟨z, 0, none⟩) N N, .int .i64 ha] 27) := ⟨_, rfl⟩
  have hbW : Below w4.heap.size w4 W4 := by rw [hW4]; exact (Below.refl _ _).alloc (Nat.le_refl _) _
  have HW4 : Hid (Rw w W4 C H #[.int .i64 pid, .int .i64 pc, .slice ra R rc, .slice ba B bc, .slice la N lc, .int .i64 ha]) := hw4.next hbW
  have HX4 : Hid (Xw W4 w4.heap.size C x y z #[.int .i64 pid, .int .i64 pc, .slice (some ⟨x, 0, none⟩) R R, .slice (some ⟨y, 0, none⟩) B B, .slice (some ⟨z, 0, none⟩) N N, .int .i64 ha]) := ⟨fun o => by rw [hW4]; exact World.cell?_alloc_new w4 _ _ o, hc4.below hz4 hbW, hz4, by rw [hW4]; simp⟩
  have HL4 : Hid (Ls W4 w2.heap.size w3.heap.size so (rts C).length (nth (rts C))) := (HL3.out.below (Nat.le_refl _) hb4).below (hb4.size) hbW
  have HO4 : Hid (w3.heap.size ≤ x ∧ z < w4.heap.size) := ⟨hx4, hz4⟩
  have q4 := HX4.out.bx
  clear hx4 hz4 hc4 hw4 hb4 hbW q3
  go_wp2_with (go_at_call 8; fail)
  rw [← hW4]
  clear hW4 q4
  refine (HIM.out HS.out _ x y z HW4.out HX4.out.ci).mono ?_
  rintro e w5 ⟨go, gc, rfl, hl5, hw5, hb5⟩
  have HW5 : Hid (Rw w w5 C H #[.int .i64 pid, .int .i64 pc, .slice ra R rc, .slice ba B bc, .slice la N lc, .int .i64 ha]) := hw5
  have HX5 : Hid (Xw w5 w4.heap.size C x y z #[.int .i64 pid, .int .i64 pc, .slice (some ⟨x, 0, none⟩) R R, .slice (some ⟨y, 0, none⟩) B B, .slice (some ⟨z, 0, none⟩) N N, .int .i64 ha]) := HX4.out.next hb5
  have HZ5 : Hid (w4.heap.size < W4.heap.size ∧ w3.heap.size ≤ W4.heap.size ∧ W4.heap.size ≤ w5.heap.size) := ⟨HX4.out.lt, by have := HO4.out; have := HX4.out.lt; have := HX4.out.ci.xy; have := HX4.out.ci.yz; omega, hb5.size⟩
  have HS5 : Hid (Ls w5 w2.heap.size w3.heap.size so (rts C).length (nth (rts C))) := HL4.out.below HZ5.out.2.1 hb5
  have HG5 : Hid (Ls w5 W4.heap.size w5.heap.size go (rts C).length (nth (rts C))) := hl5
  clear hl5 hw5 hb5 HL4 HL3 HX4
  go_wp2_with (go_at_call 9; fail)
  refine (HEI.out HS.out _ _ _ _ _ HG5.out.rd HS5.out.rd).mono ?_
  rintro e w6 ⟨rfl, hb6⟩
  obtain ⟨G5, hG5⟩ : ∃ G5, G5 = w5.heap.size := ⟨_, rfl⟩
  have HW6 : Hid (Rw w w6 C H #[.int .i64 pid, .int .i64 pc, .slice ra R rc, .slice ba B bc, .slice la N lc, .int .i64 ha] ∧ Xw w6 w4.heap.size C x y z #[.int .i64 pid, .int .i64 pc, .slice (some ⟨x, 0, none⟩) R R, .slice (some ⟨y, 0, none⟩) B B, .slice (some ⟨z, 0, none⟩) N N, .int .i64 ha]) := ⟨HW5.out.next hb6, HX5.out.next hb6⟩
  have HZ6 : Hid (G5 ≤ w6.heap.size ∧ w3.heap.size ≤ W4.heap.size ∧ W4.heap.size ≤ G5) := ⟨by rw [hG5]; exact hb6.size, HZ5.out.2.1, by rw [hG5]; exact HZ5.out.2.2⟩
  have HL6 : Hid (Ls w6 w2.heap.size w3.heap.size so (rts C).length (nth (rts C)) ∧ Ls w6 W4.heap.size G5 go (rts C).length (nth (rts C))) := ⟨HS5.out.below (by have := HZ6.out; omega) hb6, by rw [hG5]; exact HG5.out.below (Nat.le_refl _) hb6⟩
  have q6 := HW6.out.1.bx
  have q6x := HW6.out.2.bx
  clear hb6 hG5 HS5 HG5 HX5 HW5
  go_wp2_with fail
  have HD6 : Hid (Rw w w6.drew C H #[.int .i64 pid, .int .i64 pc, .slice ra R rc, .slice ba B bc, .slice la N lc, .int .i64 ha] ∧ Xw w6.drew w4.heap.size C x y z #[.int .i64 pid, .int .i64 pc, .slice (some ⟨x, 0, none⟩) R R, .slice (some ⟨y, 0, none⟩) B B, .slice (some ⟨z, 0, none⟩) N N, .int .i64 ha]) := ⟨HW6.out.1.next (Below.refl _ _).drew, HW6.out.2.next (Below.refl _ _).drew⟩
  go_region_with (first
    | (go_at_call 7; refine (HTO.out HS.out w6.drew HD6.out.1).mono ?_; rintro e w7 ⟨x7, y7, z7, rfl, hx7, hz7, hc7, hw7, hb7⟩; have hx7b := HD6.out.2.next hb7; have q7 := hx7b.bx)
    | (go_at_call 10; refine (HEC.out HS.out w7 x y z x7 y7 z7 hw7 hx7b.ci hc7).mono ?_; rintro e w8 ⟨rfl, hw8, hb8⟩))
  all_goals
    have HW8 : Hid (Rw w w8 C H #[.int .i64 pid, .int .i64 pc, .slice ra R rc, .slice ba B bc, .slice la N lc, .int .i64 ha] ∧ Xw w8 w4.heap.size C x y z #[.int .i64 pid, .int .i64 pc, .slice (some ⟨x, 0, none⟩) R R, .slice (some ⟨y, 0, none⟩) B B, .slice (some ⟨z, 0, none⟩) N N, .int .i64 ha]) := ⟨hw8, hx7b.next hb8⟩
    have HB8 : Hid (Below w6.heap.size w6 w8) := ((Below.refl _ _).drew.trans (hb7.mono (Nat.le_refl _))).trans (hb8.mono hb7.size)
    have HL8 : Hid (Ls w8 w2.heap.size w3.heap.size so (rts C).length (nth (rts C)) ∧ Ls w8 W4.heap.size G5 go (rts C).length (nth (rts C)) ∧ w6.heap.size ≤ w8.heap.size) := ⟨HL6.out.1.below (by have := HZ6.out; omega) HB8.out, HL6.out.2.below HZ6.out.1 HB8.out, HB8.out.size⟩
    clear hw8 hb8 hx7b q7 hw7 hb7 hc7 hz7 hx7 q6 q6x HB8
    have q8 := HW8.out.2.bx
    go_wp2_with (go_at_call 11; fail)
    refine (HMC.out HS.out _ x y z HW8.out.2.ci (Nat.lt_trans HW8.out.2.zb HW8.out.2.lt)).mono ?_
    rintro e w9 ⟨rfl, hm9⟩
    have z0 := HZ3.out
    have z1 := HO4.out
    have z2 := HZ5.out
    have z3 := HZ6.out
    have z4 := HL8.out.2.2
    have z5 := HW8.out.2.ci.xy
    have z6 := HW8.out.2.ci.yz
    have z7 := HW8.out.2.lt
    have HW9 : Hid (Rw w w9 C H #[.int .i64 pid, .int .i64 pc, .slice ra R rc, .slice ba B bc, .slice la N lc, .int .i64 ha]) := HW8.out.1.turn HR.out hm9.os hm9.tape hm9.output hm9.size (fun k hk => hm9.block k (by omega) (by omega) (by omega) (by omega))
    have HL9 : Hid (Ls w9 w2.heap.size w3.heap.size so (rts C).length (nth (rts C)) ∧ Ls w9 W4.heap.size G5 go (rts C).length (nth (rts C)) ∧ G5 ≤ w9.heap.size) := ⟨HL8.out.1.keep (fun k h1 h2 => hm9.block k (by omega) (by omega) (by omega) (by omega)), HL8.out.2.1.keep (fun k h1 h2 => hm9.block k (by omega) (by omega) (by omega) (by omega)), by have := hm9.size; omega⟩
    clear hm9 z0 z1 z2 z3 z4 z5 z6 z7 q8
    have hk0 : ¬ (1 + (R : Int) + B + N < 0) := by omega
    go_wp2_with (go_at_call 9; fail)
    refine (HEI.out HS.out _ _ _ _ _ HL9.out.2.1.rd HL9.out.1.rd).mono ?_
    rintro e wA ⟨rfl, hbA⟩
    have HWA : Hid (Rw w wA C H #[.int .i64 pid, .int .i64 pc, .slice ra R rc, .slice ba B bc, .slice la N lc, .int .i64 ha]) := HW9.out.next hbA
    have z0 := HZ3.out
    have z2 := HZ5.out
    have z3 := HZ6.out
    have HLA : Hid (Ls wA w2.heap.size w3.heap.size so (rts C).length (nth (rts C)) ∧ Ls wA W4.heap.size G5 go (rts C).length (nth (rts C)) ∧ G5 ≤ wA.heap.size) := ⟨HL9.out.1.below (by have := HL9.out.2.2; omega) hbA, HL9.out.2.1.below HL9.out.2.2 hbA, Nat.le_trans HL9.out.2.2 hbA.size⟩
    clear hbA HL9 HW9 HW8 HL8 hk0 z0 z2 z3
    go_wp2_with (go_at_call 12; fail)
    refine (markIntS_L go gc _ W4.heap.size G5 _ wA HLA.out.2.1 (HLN.out HS.out)).mono ?_
    rintro e wB ⟨rfl, hmB, hlB⟩
    have z0 := HZ3.out
    have z2 := HZ5.out
    have z3 := HZ6.out
    have z4 := HLA.out.2.2
    have z5 := HO4.out
    have HWB : Hid (Rw w wB C H #[.int .i64 pid, .int .i64 pc, .slice ra R rc, .slice ba B bc, .slice la N lc, .int .i64 ha]) := HWA.out.turn HR.out hmB.os hmB.tape hmB.output hmB.size (fun k hk => hmB.block k (by omega) (by omega))
    have HLB : Hid (Ls wB w2.heap.size w3.heap.size so (rts C).length (nth (rts C)) ∧ Ls wB W4.heap.size G5 go (rts C).length (mkd 1) ∧ G5 ≤ wB.heap.size) := ⟨HLA.out.1.keep (fun k h1 h2 => hmB.block k (by omega) (by omega)), hlB, by have := hmB.size; omega⟩
    clear hmB hlB HLA HWA z0 z2 z3 z4 z5
    go_wp2_with (go_at_call 13; fail)
    refine (heldIntS_L go gc _ wB HLB.out.2.1.rd (HLN.out HS.out)).mono ?_
    rintro e wC ⟨rfl, hwC⟩
    obtain rfl := hwC.symm
    have hn0 : ¬ (1 + ((rts C).length : Int) < 0) := by omega
    have q9 := HWB.out.bx
    go_wp2_with (go_at_call 7; fail)
    refine (HTO.out HS.out _ HWB.out).mono ?_
    rintro e wD ⟨x9, y9, z9, rfl, hx9, hz9, hc9, hw9, hb9⟩
    have HWD : Hid (Rw w wD C H #[.int .i64 pid, .int .i64 pc, .slice ra R rc, .slice ba B bc, .slice la N lc, .int .i64 ha] ∧ CI wD C x9 y9 z9) := ⟨hw9, hc9⟩
    have z0 := HZ3.out
    have z2 := HZ5.out
    have z3 := HZ6.out
    have HLD : Hid (Ls wD w2.heap.size w3.heap.size so (rts C).length (nth (rts C)) ∧ Ls wD W4.heap.size G5 go (rts C).length (mkd 1) ∧ G5 ≤ wD.heap.size) := ⟨HLB.out.1.below (by have := HLB.out.2.2; omega) hb9, HLB.out.2.1.below HLB.out.2.2 hb9, Nat.le_trans HLB.out.2.2 hb9.size⟩
    clear hx9 hz9 hc9 hw9 hb9 q9 HLB HWB z0 z2 z3
    go_wp2_with (go_at_call 8; fail)
    refine (HIM.out HS.out _ x9 y9 z9 HWD.out.1 HWD.out.2).mono ?_
    rintro e wE ⟨ho, hoc, rfl, hlE, hwE, hbE⟩
    have z0 := HZ3.out
    have z2 := HZ5.out
    have z3 := HZ6.out
    have HWE : Hid (Rw w wE C H #[.int .i64 pid, .int .i64 pc, .slice ra R rc, .slice ba B bc, .slice la N lc, .int .i64 ha]) := hwE
    have HLE : Hid (Ls wE w2.heap.size w3.heap.size so (rts C).length (nth (rts C)) ∧ Ls wE W4.heap.size G5 go (rts C).length (mkd 1) ∧ G5 ≤ wE.heap.size ∧ RdI wE ho (rts C).length (nth (rts C))) := ⟨HLD.out.1.below (by have := HLD.out.2.2; omega) hbE, HLD.out.2.1.below HLD.out.2.2 hbE, Nat.le_trans HLD.out.2.2 hbE.size, hlE.rd⟩
    clear hlE hwE hbE HLD HWD z0 z2 z3
    go_wp2_with (go_at_call 9; fail)
    refine (HEI.out HS.out _ _ _ _ _ HLE.out.2.2.2 HLE.out.1.rd).mono ?_
    rintro e wF ⟨rfl, hbF⟩
    have HWF : Hid (Rw w wF C H #[.int .i64 pid, .int .i64 pc, .slice ra R rc, .slice ba B bc, .slice la N lc, .int .i64 ha] ∧ Ls wF W4.heap.size G5 go (rts C).length (mkd 1)) := ⟨HWE.out.next hbF, HLE.out.2.1.below HLE.out.2.2.1 hbF⟩
    clear hbF HWE HLE
    go_wp2_with (go_at_call 13; fail)
    refine (heldIntS_L go gc _ wF HWF.out.2.rd (HLN.out HS.out)).mono ?_
    rintro e wG ⟨rfl, hwG⟩
    obtain rfl := hwG.symm
    go_wp2_with fail
    go_ret
    exact ⟨rfl, HWF.out.1.be⟩
end Go.Proofs.Ytjjmikfbongccaa.fnExactRootsOf
