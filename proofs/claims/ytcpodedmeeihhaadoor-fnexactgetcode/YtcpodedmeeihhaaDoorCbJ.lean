/-
  What the law FnExactGetCode does.
-/
import Derived.Test.YtcpodedmeeihhaaDoorCbI
import Derived.Test.YtcpodedmeeihhaaDoorCbG
import Derived.Test.YtcpodedmeeihhaaDoorCbD
namespace Go.Proofs.YtcpodedmeeihhaaDoor.Cb
open Go.RowKit
open Go.Proofs.YtcpodedmeeihhaaDoor.By
open Go.Proofs.YtcpodedmeeihhaaDoor.Code (I codeB specOk RowI SmI Bx6 RowF mk6 zeroI insL)
set_option linter.unusedVariables false

/-- The list that GetCode answers, and whether it is one. -/
def listC (L : List UInt8) : List I := (getC L).getD []
theorem listC_len (L : List UInt8) : (listC L).length ≤ 200 := by
  unfold listC
  cases h : getC L with
  | none => simp
  | some l =>
    unfold getC getCm at h
    cases hg : getB L 0 with
    | none => rw [hg] at h; cases h
    | some p =>
      rw [hg] at h
      simp only at h
      by_cases hn : 1 ≤ p.1 ∧ p.1 ≤ 200
      · rw [if_pos hn] at h
        exact (codeB_len (okC_some h).2).2
      · rw [if_neg hn] at h; cases h
/-- The specification's row, wherever it lies behind W. -/
def SpR (W : Nat) (w' : World) (va : Option Addr) (l : List I) : Prop := l = [] ∨ ∃ b, va = some ⟨b, 0, none⟩ ∧ W ≤ b ∧ b < w'.heap.size ∧ ∀ j (hj : j < l.length), Bx6 w' b (j * 6) l[j]
theorem SpR.row {W : Nat} {w' : World} {va : Option Addr} {l : List I} (h : SpR W w' va l) : RowI w' va l := by
  rcases h with h | ⟨b, e, _, _, hr⟩
  · exact .inl h
  · exact .inr ⟨b, 0, e, fun j hj => by rw [Nat.zero_add]; exact hr j hj⟩
theorem SpR.below {W : Nat} {w w' : World} {va : Option Addr} {l : List I} (h : SpR W w va l) (hb : Below w.heap.size w w') : SpR W w' va l := by
  rcases h with h | ⟨b, e, h1, h2, hr⟩
  · exact .inl h
  · exact .inr ⟨b, e, h1, Nat.lt_of_lt_of_le h2 hb.size, fun j hj => (hr j hj).below hb⟩
theorem bx_turn {cb : Nat} {w w' : World} {b o : Nat} {x : I} (h : Bx6 w b o x) (t : Turn cb w w') (hn : b ≠ cb) : Bx6 w' b o x :=
  ⟨t.cell hn h.c0, t.cell hn h.c1, t.cell hn h.c2, t.cell hn h.c3, t.cell hn h.c4, t.cell hn h.c5⟩
theorem specGetC2 (ao : Option Addr) (cap : Nat) (L : List UInt8) (w : World) (hr : RdB w ao L) (hN : L.length ≤ 1048600) (hcap : L.length ≤ cap) (hlow : ∀ b o, ao = some ⟨b, o, none⟩ → b < w.heap.size) :
    Calls Tryd.prog 14 #[.slice ao L.length cap] w fun e w' => ∃ va vc, e = .returned (.tuple #[.slice va (listC L).length vc, .bool (getC L).isSome]) ∧ SpR w.heap.size w' va (listC L) ∧ Below w.heap.size w w' := by
  refine (specGetC_any ao cap L w hr hN hcap hlow).mono ?_
  rintro e w' ⟨⟨l, v, hg, rfl, hrow⟩ | ⟨hg, g, rfl⟩, hb⟩
  · obtain ⟨va, vc, rfl, _, _⟩ := hrow.slice
    have hl : listC L = l := by unfold listC; rw [hg]; rfl
    rw [hl, hg]
    refine ⟨va, vc, rfl, ?_, hb⟩
    by_cases hnil : l = []
    · exact .inl hnil
    · rcases hrow.2 with ⟨_, h0⟩ | ⟨g, cp, cur, hv, hB, hgg, _⟩
      · exact absurd (List.length_eq_zero_iff.1 h0) hnil
      · injection hv with hv
        subst hv
        rcases hrow.row with h | ⟨b, o, e, hrw⟩
        · exact absurd h hnil
        · injection e with e
          injection e with e1 e2
          subst e1
          subst e2
          exact .inr ⟨g, rfl, hB, (Array.getElem?_eq_some_iff.1 hgg).1, fun j hj => by have := hrw j hj; rw [Nat.zero_add] at this; exact this⟩
  · have hl : listC L = [] := by unfold listC; rw [hg]; rfl
    rw [hl, hg]
    exact ⟨_, _, rfl, .inl rfl, hb⟩
/-- The program's row: nothing, or instructions that may be written. -/
def ImR (W : Nat) (w' : World) (g : Nat) (n : Nat) (f : Nat → I) : Prop := n = 0 ∨ (RowF w' g n f ∧ W ≤ g)
theorem ImR.below {W : Nat} {w w' : World} {g n : Nat} {f : Nat → I} (h : ImR W w g n f) (hb : Below w.heap.size w w') : ImR W w' g n f := by
  rcases h with h | ⟨h, h1⟩
  · exact .inl h
  · exact .inr ⟨h.below hb, h1⟩
theorem ImR.row {W : Nat} {w : World} {g : Nat} {l : List I} (h : ImR W w g l.length (lfI l)) : RowI w (some ⟨g, 0, none⟩) l := by
  rcases h with h | ⟨h, _⟩
  · exact .inl (List.length_eq_zero_iff.1 h)
  · exact rowI_of h
theorem implGetC2 (ao : Option Addr) (cap : Nat) (L : List UInt8) (w : World) (hr : RdB w ao L) (hN : L.length ≤ 1048600) (hcap : L.length ≤ cap) (hS : Code.Shp w) (hP : Code.Pow w) (hE : Es.Ety w) :
    Calls Tryd.prog 16 #[.slice ao L.length cap] w fun e w' => ∃ g, e = .returned (.tuple #[.slice (some ⟨g, 0, none⟩) (listC L).length (listC L).length, .bool (getC L).isSome]) ∧ ImR w.heap.size w' g (listC L).length (lfI (listC L)) ∧ Below w.heap.size w w' := by
  refine (implGetC_any ao cap L w hr hN hcap hS hP hE).mono ?_
  rintro e w' (⟨l, g, hg, rfl, hf⟩ | ⟨hg, g, rfl, hb⟩)
  · have hl : listC L = l := by unfold listC; rw [hg]; rfl
    rw [hl, hg]
    refine ⟨g, rfl, .inr ⟨⟨hf.lt, hf.free, fun j hj => ?_⟩, hf.ge⟩, hf.below⟩
    have := hf.rep j hj
    unfold lfI
    rw [List.getD_eq_getElem?_getD, List.getElem?_eq_getElem hj]; exact this
  · have hl : listC L = [] := by unfold listC; rw [hg]; rfl
    rw [hl, hg]
    exact ⟨g, rfl, .inl rfl, hb⟩
theorem markNil (ao : Option Addr) (cap : Nat) (q : Int) (w : World) :
    Calls Tryd.prog 11 #[.slice ao 0 cap, .int .i64 q] w fun e w' => e = .returned (.int .i64 q) ∧ w' = w := by
  go_enter Tryd.func11, Tryd.ntmps11
  go_wp2_with fail
  go_loopw [1, 5] (fun kv iv wr => iv = .int .i64 0 ∧ kv = .int .i64 q ∧ wr = w) (fun kv iv wr => 0)
  case atStart => exact ⟨rfl, rfl, rfl⟩
  case round =>
    obtain ⟨rfl, rfl, rfl⟩ := hrel
    go_wp2_with fail
    go_ret
    exact ⟨rfl, rfl⟩
theorem heldNil (ao : Option Addr) (cap : Nat) (q : Int) (w : World) :
    Calls Tryd.prog 17 #[.slice ao 0 cap, .int .i64 q] w fun e w' => e = .returned (.int .i64 q) ∧ w' = w := by
  go_enter Tryd.func17, Tryd.ntmps17
  go_wp2_with fail
  go_loopw [1, 5] (fun kv iv wr => iv = .int .i64 0 ∧ kv = .int .i64 q ∧ wr = w) (fun kv iv wr => 0)
  case atStart => exact ⟨rfl, rfl, rfl⟩
  case round =>
    obtain ⟨rfl, rfl, rfl⟩ := hrel
    go_wp2_with fail
    go_ret
    exact ⟨rfl, rfl⟩

/-- What the law has in hand: the specification's row at va, the argument's copy at g3, the program's row at g4. -/
structure AxG (w wx : World) (N : Nat) (l : List I) (va : Option Addr) (g3 g4 : Nat) (F3 : Nat → Int) (f4 : Nat → I) : Prop where
  below : Below w.heap.size w wx
  sp : l = [] ∨ ∃ b, va = some ⟨b, 0, none⟩ ∧ b < g3 ∧ ∀ j (hj : j < l.length), Bx6 wx b (j * 6) l[j]
  xw : Bys wx g3 N F3
  im : l.length = 0 ∨ (RowF wx g4 l.length f4 ∧ g3 < g4)
  l0 : w.heap.size ≤ g3
  l3 : g3 < wx.heap.size
theorem AxG.call {w wx wy : World} {N : Nat} {l : List I} {va : Option Addr} {g3 g4 : Nat} {F3 : Nat → Int} {f4 : Nat → I} (s : AxG w wx N l va g3 g4 F3 f4) (hb : Below wx.heap.size wx wy) : AxG w wy N l va g3 g4 F3 f4 := by
  refine ⟨join8 s.below hb, ?_, s.xw.below hb s.l3, ?_, s.l0, Nat.lt_of_lt_of_le s.l3 hb.size⟩
  · rcases s.sp with h | ⟨b, e, h1, hr⟩
    · exact .inl h
    · exact .inr ⟨b, e, h1, fun j hj => (hr j hj).below hb⟩
  · rcases s.im with h | ⟨h, h1⟩
    · exact .inl h
    · exact .inr ⟨h.below hb, h1⟩
theorem AxG.markX {w wx wy : World} {N : Nat} {l : List I} {va : Option Addr} {g3 g4 : Nat} {F3 G : Nat → Int} {f4 : Nat → I} (s : AxG w wx N l va g3 g4 F3 f4) (ht : Turn g3 wx wy) (hi : Bys wy g3 N G) : AxG w wy N l va g3 g4 G f4 := by
  refine ⟨Turn.below s.below s.below.size ht s.l0, ?_, hi, ?_, s.l0, Nat.lt_of_lt_of_le s.l3 ht.size⟩
  · rcases s.sp with h | ⟨b, e, h1, hr⟩
    · exact .inl h
    · exact .inr ⟨b, e, h1, fun j hj => bx_turn (hr j hj) ht (by omega)⟩
  · rcases s.im with h | ⟨h, h1⟩
    · exact .inl h
    · exact .inr ⟨h.same ht.size (ht.block g4 h.hlt (by omega)), h1⟩
theorem AxG.row {w wx : World} {N : Nat} {l : List I} {va : Option Addr} {g3 g4 : Nat} {F3 : Nat → Int} {f4 : Nat → I} (s : AxG w wx N l va g3 g4 F3 f4) : RowI wx va l := by
  rcases s.sp with h | ⟨b, e, _, hr⟩
  · exact .inl h
  · exact .inr ⟨b, 0, e, fun j hj => by rw [Nat.zero_add]; exact hr j hj⟩
theorem AxG.imRow {w wx : World} {N : Nat} {l : List I} {va : Option Addr} {g3 g4 : Nat} {F3 : Nat → Int} (s : AxG w wx N l va g3 g4 F3 (lfI l)) : RowI wx (some ⟨g4, 0, none⟩) l := by
  rcases s.im with h | ⟨h, _⟩
  · exact .inl (List.length_eq_zero_iff.1 h)
  · exact rowI_of h
theorem AxG.mark {w wx : World} {N : Nat} {l : List I} {va : Option Addr} {g3 g4 c4 : Nat} {F3 : Nat → Int} (s : AxG w wx N l va g3 g4 F3 (lfI l)) (hl : l.length ≤ 200) :
    Calls Tryd.prog 11 #[.slice (some ⟨g4, 0, none⟩) l.length c4, .int .i64 1] wx fun e w' => e = .returned (.int .i64 ((1 + 6 * l.length : Nat) : Int)) ∧ AxG w w' N l va g3 g4 F3 (mk6 1) := by
  rcases s.im with h | ⟨h, h1⟩
  · rw [h]
    refine (markNil _ c4 1 wx).mono ?_
    rintro e w' ⟨rfl, rfl⟩
    exact ⟨rfl, s.below, s.sp, s.xw, .inl h, s.l0, s.l3⟩
  · refine (Code.mark_any g4 l.length c4 1 (lfI l) (by omega) (by decide) (by decide) wx h).mono ?_
    rintro e w' ⟨rfl, hf, ht⟩
    have a0 := s.l0
    refine ⟨rfl, Turn.below s.below s.below.size ht (by omega), ?_, s.xw.turn ht (by omega) s.l3, .inr ⟨hf, h1⟩, s.l0, Nat.lt_of_lt_of_le s.l3 ht.size⟩
    rcases s.sp with h | ⟨b, e, h2, hr⟩
    · exact .inl h
    · exact .inr ⟨b, e, h2, fun j hj => bx_turn (hr j hj) ht (by omega)⟩
theorem AxG.held {w wx : World} {N : Nat} {l : List I} {va : Option Addr} {g3 g4 c4 : Nat} {F3 : Nat → Int} (s : AxG w wx N l va g3 g4 F3 (mk6 1)) (hl : l.length ≤ 200) :
    Calls Tryd.prog 17 #[.slice (some ⟨g4, 0, none⟩) l.length c4, .int .i64 1] wx fun e w' => e = .returned (.int .i64 ((1 + 6 * l.length : Nat) : Int)) ∧ AxG w w' N l va g3 g4 F3 (mk6 1) := by
  rcases s.im with h | ⟨h, h1⟩
  · rw [h]
    refine (heldNil _ c4 1 wx).mono ?_
    rintro e w' ⟨rfl, rfl⟩
    exact ⟨rfl, s.below, s.sp, s.xw, .inl h, s.l0, s.l3⟩
  · refine (Code.held_any g4 l.length c4 1 (by omega) (by decide) (by decide) wx h).mono ?_
    rintro e w' ⟨rfl, hb⟩
    exact ⟨rfl, s.call hb⟩

set_option maxHeartbeats 2000000 in
set_option maxRecDepth 100000 in
theorem getC_law (ao : Option Addr) (cap : Nat) (L : List UInt8) (w : World) (hr : RdB w ao L) (hN : L.length ≤ maxLen) (hS : Code.Shp w) (hP : Code.Pow w) (hE : Es.Ety w) :
    Calls Tryd.prog 4 #[.slice ao L.length cap] w fun e w' => e = .returned (.bool true) ∧ Below w.heap.size w w' := by
  have HR : Hid (RdB w ao L) := hr
  have HG : Hid (Code.Shp w ∧ Code.Pow w ∧ Es.Ety w) := ⟨hS, hP, hE⟩
  clear hr hS hP hE
  unfold maxLen at hN
  by_cases hbig : 1048576 < L.length
  · go_enter Tryd.func4, Tryd.ntmps4
    go_wp2_with fail
    go_ret
    exact ⟨rfl, Below.refl _ _⟩
  · have HBL : Hid (L.length ≤ 1048576) := by show _ ≤ _; omega
    obtain ⟨l, hl⟩ : ∃ l, listC L = l := ⟨_, rfl⟩
    obtain ⟨bb, hbb⟩ : ∃ bb, (getC L).isSome = bb := ⟨_, rfl⟩
    have HL : Hid (listC L = l ∧ (getC L).isSome = bb) := ⟨hl, hbb⟩
    have hll : l.length ≤ 200 := by rw [← hl]; exact listC_len L
    have HLL : Hid (l.length ≤ 200) := hll
    clear hl hbb
    go_enter Tryd.func4, Tryd.ntmps4
    go_wp2_with fail
    refine (toB_any ao cap L w HR.out HBL.out).mono ?_
    rintro e w1 ⟨rfl, hi1, hl1, hb1⟩
    have HI1 : Hid (BAt w1 w.heap.size 0 L) := hi1.at
    have HB1 : Hid (Below w.heap.size w w1 ∧ w.heap.size < w1.heap.size) := ⟨hb1, hl1⟩
    clear hi1 hl1 hb1
    go_wp2_with fail
    refine (specGetC2 (some ⟨w.heap.size, 0, none⟩) L.length L w1 HI1.out.rd (by have := HBL.out; omega) (Nat.le_refl _) (fun b o e => by injection e with e; injection e with e; have := HB1.out.2; omega)).mono ?_
    rw [HL.out.1, HL.out.2]
    rintro e w2 ⟨va, vc, rfl, hs2, hb2⟩
    have HB2 : Hid (Below w.heap.size w w2 ∧ SpR w1.heap.size w2 va l) := ⟨join8 HB1.out.1 hb2, hs2⟩
    clear hs2 hb2 HI1
    go_wp2_with fail
    refine (toB_any ao cap L w2 (HR.out.below HB2.out.1) HBL.out).mono ?_
    rintro e w3 ⟨rfl, hi3, hl3, hb3⟩
    have HI3 : Hid (BAt w3 w2.heap.size 0 L) := hi3.at
    have HB3 : Hid (Below w.heap.size w w3 ∧ SpR w1.heap.size w2 va l ∧ SpR w1.heap.size w3 va l ∧ Bys w3 w2.heap.size L.length (bf L) ∧ w2.heap.size < w3.heap.size) := ⟨join8 HB2.out.1 hb3, HB2.out.2, HB2.out.2.below hb3, hi3, hl3⟩
    clear hi3 hl3 hb3
    go_wp2_with fail
    refine (implGetC2 (some ⟨w2.heap.size, 0, none⟩) L.length L w3 HI3.out.rd (by have := HBL.out; omega) (Nat.le_refl _) (HG.out.1.below HB3.out.1) (HG.out.2.1.below HB3.out.1) (HG.out.2.2.below HB3.out.1)).mono ?_
    rw [HL.out.1, HL.out.2]
    rintro e w4 ⟨g4, rfl, hm4, hb4⟩
    have hax : AxG w w4 L.length l va w2.heap.size g4 (bf L) (lfI l) := by
      have a2 := HB3.out.2.2.2
      refine ⟨join8 HB3.out.1 hb4, ?_, a2.1.below hb4 a2.2, ?_, HB2.out.1.size, Nat.lt_of_lt_of_le a2.2 hb4.size⟩
      · rcases HB3.out.2.1 with h | ⟨b, e, h1, h2, _⟩
        · exact .inl h
        · rcases HB3.out.2.2.1 with h | ⟨b', e', _, _, hr⟩
          · exact .inl h
          · rw [e] at e'
            injection e' with e'
            injection e' with e'
            subst e'
            exact .inr ⟨b, e, h2, fun j hj => (hr j hj).below hb4⟩
      · rcases hm4 with h | ⟨h, h1⟩
        · exact .inl h
        · exact .inr ⟨h, by omega⟩
    have HA4 : Hid (AxG w w4 L.length l va w2.heap.size g4 (bf L) (lfI l)) := hax
    clear hm4 hb4 hax HB3 HI3 HB2 HB1
    generalize w2.heap.size = g3 at *
    go_wp2_with fail
    refine (Code.eqInsS_same l (some ⟨g4, 0, none⟩) va l.length vc w4 HA4.out.imRow HA4.out.row (by have := HLL.out; omega)).mono ?_
    rintro e w5 ⟨rfl, hb5⟩
    have HA5 : Hid (AxG w w5 L.length l va g3 g4 (bf L) (lfI l)) := HA4.out.call hb5
    clear hb5 HA4
    go_wp2_with fail
    refine (toB_any ao cap L w5 (HR.out.below HA5.out.below) HBL.out).mono ?_
    rintro e w6 ⟨rfl, hi6, hl6, hb6⟩
    have HA6 : Hid (AxG w w6 L.length l va g3 g4 (bf L) (lfI l) ∧ BAt w6 w5.heap.size 0 L) := ⟨HA5.out.call hb6, hi6.at⟩
    clear hi6 hl6 hb6 HA5
    go_wp2_with fail
    refine (eqB_same (some ⟨g3, 0, none⟩) (some ⟨w5.heap.size, 0, none⟩) L.length L.length L w6 HA6.out.1.xw.at.rd HA6.out.2.rd (by have := HBL.out; omega)).mono ?_
    rintro e w7 ⟨rfl, hb7⟩
    have HA7 : Hid (AxG w w7 L.length l va g3 g4 (bf L) (lfI l)) := HA6.out.1.call hb7
    clear hb7 HA6
    go_wp2_with fail
    refine (markB_any g3 L.length L.length (bf L) w7 HA7.out.xw HA7.out.l3 (by have := HBL.out; omega)).mono ?_
    rintro e w8 ⟨rfl, ht8, hi8⟩
    have HA8 : Hid (AxG w w8 L.length l va g3 g4 mkB (lfI l)) := HA7.out.markX ht8 hi8
    clear ht8 hi8 HA7
    go_wp2_with (go_at_call 10; refine (Code.eqInsS_same l (some ⟨g4, 0, none⟩) va l.length vc w8 HA8.out.imRow HA8.out.row (Nat.le_trans HLL.out (by decide))).mono ?_; rintro e w9 ⟨rfl, hb9⟩; have HA9 : Hid (AxG w w9 L.length l va g3 g4 mkB (lfI l)) := HA8.out.call hb9; clear hb9)
    clear HA8
    refine (HA9.out.mark (c4 := l.length) HLL.out).mono ?_
    rintro e w10 ⟨rfl, ha10⟩
    have HA10 : Hid (AxG w w10 L.length l va g3 g4 mkB (mk6 1)) := ha10
    clear ha10 HA9
    go_wp2_with fail
    refine (HA10.out.held (c4 := l.length) HLL.out).mono ?_
    rintro e w11 ⟨rfl, ha11⟩
    have HA11 : Hid (AxG w w11 L.length l va g3 g4 mkB (mk6 1)) := ha11
    clear ha11 HA10
    go_wp2_with fail
    refine (toB_any ao cap L w11 (HR.out.below HA11.out.below) HBL.out).mono ?_
    rintro e w12 ⟨rfl, hi12, hl12, hb12⟩
    have HA12 : Hid (AxG w w12 L.length l va g3 g4 mkB (mk6 1) ∧ BAt w12 w11.heap.size 0 L) := ⟨HA11.out.call hb12, hi12.at⟩
    clear hi12 hl12 hb12 HA11
    go_wp2_with fail
    refine (implGetC2 (some ⟨w11.heap.size, 0, none⟩) L.length L w12 HA12.out.2.rd (by have := HBL.out; omega) (Nat.le_refl _) (HG.out.1.below HA12.out.1.below) (HG.out.2.1.below HA12.out.1.below) (HG.out.2.2.below HA12.out.1.below)).mono ?_
    rw [HL.out.1, HL.out.2]
    rintro e w13 ⟨g13, rfl, hm13, hb13⟩
    have HA13 : Hid (AxG w w13 L.length l va g3 g4 mkB (mk6 1) ∧ RowI w13 (some ⟨g13, 0, none⟩) l) := ⟨HA12.out.1.call hb13, hm13.row⟩
    clear hm13 hb13 HA12
    go_wp2_with fail
    refine (Code.eqInsS_same l (some ⟨g13, 0, none⟩) va l.length vc w13 HA13.out.2 HA13.out.1.row (by have := HLL.out; omega)).mono ?_
    rintro e w14 ⟨rfl, hb14⟩
    have HA14 : Hid (AxG w w14 L.length l va g3 g4 mkB (mk6 1)) := HA13.out.1.call hb14
    clear hb14 HA13
    go_wp2_with fail
    refine (HA14.out.held (c4 := l.length) HLL.out).mono ?_
    rintro e w15 ⟨rfl, ha15⟩
    have HB15 : Hid (Below w.heap.size w w15) := ha15.below
    clear ha15 HA14
    go_wp2_with fail
    go_ret
    exact ⟨rfl, HB15.out⟩
end Go.Proofs.YtcpodedmeeihhaaDoor.Cb
