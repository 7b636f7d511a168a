/-
  What the law FnExactPutCode does.
-/
import Derived.Test.YtcpodedmeeihhaaDoorCbC
import Derived.Test.YtcpodedmeeihhaaDoorMkI
namespace Go.Proofs.YtcpodedmeeihhaaDoor.Cb
open Go.RowKit
open Go.Proofs.YtcpodedmeeihhaaDoor.By
open Go.Proofs.YtcpodedmeeihhaaDoor.Code (I codeB specOk RowI SmI Bx6 RowF Made6 mk6 zeroI)
set_option linter.unusedVariables false

def lfI (l : List I) : Nat → I := fun j => l.getD j zeroI
theorem rowF_of {w w' : World} {g : Nat} {l : List I} (h : Made6 w w' g l l.length) : RowF w' g l.length (lfI l) :=
  ⟨h.lt, h.free, fun j hj => by
    have := h.rep j hj hj
    unfold lfI
    rw [List.getD_eq_getElem?_getD, List.getElem?_eq_getElem hj]; exact this⟩
theorem rowI_of {w : World} {g : Nat} {l : List I} (h : RowF w g l.length (lfI l)) : RowI w (some ⟨g, 0, none⟩) l :=
  .inr ⟨g, 0, rfl, fun j hj => by
    have := h.rows j hj
    unfold lfI at this
    rw [List.getD_eq_getElem?_getD, List.getElem?_eq_getElem hj] at this
    rw [Nat.zero_add]; exact this⟩

/-- What the law has in hand: the specification's bytes at gs, the argument's copy at g3, the program's bytes at g4. -/
structure AxC (w wx : World) (N : Nat) (M : List UInt8) (gs g3 g4 : Nat) (F3 : Nat → I) (F4 : Nat → Int) : Prop where
  below : Below w.heap.size w wx
  sp : BAt wx gs 0 M
  xw : RowF wx g3 N F3
  im : Bys wx g4 M.length F4
  l0 : w.heap.size ≤ gs
  l1 : gs < g3
  l2 : g3 < g4
  l3 : g4 < wx.heap.size
theorem AxC.call {w wx wy : World} {N : Nat} {M : List UInt8} {gs g3 g4 : Nat} {F3 : Nat → I} {F4 : Nat → Int} (s : AxC w wx N M gs g3 g4 F3 F4) (hb : Below wx.heap.size wx wy) : AxC w wy N M gs g3 g4 F3 F4 := by
  have a3 := s.l3
  exact ⟨join8 s.below hb, s.sp.below hb, s.xw.below hb, s.im.below hb a3, s.l0, s.l1, s.l2, Nat.lt_of_lt_of_le a3 hb.size⟩
theorem AxC.markX {w wx wy : World} {N : Nat} {M : List UInt8} {gs g3 g4 : Nat} {F3 G : Nat → I} {F4 : Nat → Int} (s : AxC w wx N M gs g3 g4 F3 F4) (ht : Turn g3 wx wy) (hi : RowF wy g3 N G) : AxC w wy N M gs g3 g4 G F4 := by
  have a0 := s.l0
  have a1 := s.l1
  have a2 := s.l2
  have a3 := s.l3
  exact ⟨Turn.below s.below s.below.size ht (by omega), s.sp.turn ht (by omega), hi, s.im.turn ht (by omega) (by omega), a0, a1, a2, Nat.lt_of_lt_of_le a3 ht.size⟩
theorem AxC.markI {w wx wy : World} {N : Nat} {M : List UInt8} {gs g3 g4 : Nat} {F3 : Nat → I} {F4 G : Nat → Int} (s : AxC w wx N M gs g3 g4 F3 F4) (ht : Turn g4 wx wy) (hi : Bys wy g4 M.length G) : AxC w wy N M gs g3 g4 F3 G := by
  have a0 := s.l0
  have a1 := s.l1
  have a2 := s.l2
  have a3 := s.l3
  exact ⟨Turn.below s.below s.below.size ht (by omega), s.sp.turn ht (by omega), s.xw.same ht.size (ht.block g3 (by omega) (by omega)), hi, a0, a1, a2, Nat.lt_of_lt_of_le a3 ht.size⟩

set_option maxHeartbeats 2000000 in
set_option maxRecDepth 100000 in
theorem putC_law (l : List I) (ao : Option Addr) (cap : Nat) (w : World) (hr : RowI w ao l) (hs : SmI maxLen l) (hl : l.length ≤ maxLen) (hS : Code.Shp w) (hP : Code.Pow w) (hE : Es.Ety w) :
    Calls Tryd.prog 3 #[.slice ao l.length cap] w fun e w' => e = .returned (.bool true) ∧ Below w.heap.size w w' := by
  have HSZ : Hid (∀ w', w' = w → Calls Tryd.prog 5 #[.slice ao l.length cap, .int .i64 1048576] w' fun e w'' => (∃ r : Int, e = .returned (.int .i64 r) ∧ (0 ≤ r → l.length ≤ 1048576 ∧ SmI 1048576 l)) ∧ Below w'.heap.size w' w'') := fun w' h => by
    subst h; exact Code.szInsS_any l ao cap w' hr hs hl
  have HR : Hid (RowI w ao l) := hr
  have HSM : Hid (SmI maxLen l) := hs
  have HG : Hid (Code.Shp w ∧ Code.Pow w ∧ Es.Ety w) := ⟨hS, hP, hE⟩
  clear hr hs hS hP hE
  unfold maxLen at hl
  obtain ⟨M, hMM⟩ : ∃ M, putC l = M := ⟨_, rfl⟩
  have HM : Hid (putC l = M) := hMM
  have HML : Hid (M.length ≤ 7204) := by show _ ≤ _; rw [← hMM]; exact putC_len l
  clear hMM
  go_enter Tryd.func3, Tryd.ntmps3
  go_wp2_with fail
  refine (HSZ.out _ rfl).mono ?_
  rintro e w1 ⟨⟨r, rfl, hr⟩, hb1⟩
  have HB1 : Hid (Below w.heap.size w w1) := hb1
  clear hb1 HSZ
  by_cases h0 : r < 0
  · clear hr
    go_wp2_with fail
    go_ret
    exact ⟨rfl, HB1.out⟩
  · have HLE : Hid (l.length ≤ 1048576) := (hr (by omega)).1
    clear hr
    go_wp2_with fail
    refine (Code.toInsS_any l ao cap w1 (HR.out.below HB1.out) HLE.out).mono ?_
    rintro e w2 ⟨⟨g2, hg2, rfl, hr2⟩, hb2⟩
    have HR2 : Hid (RowI w2 (some ⟨g2, 0, none⟩) l) := hr2
    have HB2 : Hid (Below w.heap.size w w2) := join8 HB1.out hb2
    clear hb2 hr2 hg2
    go_wp2_with fail
    refine (specPutC_any l (some ⟨g2, 0, none⟩) l.length w2 HR2.out HSM.out (by have := HLE.out; omega)).mono ?_
    rintro e w3 ⟨gs, cs, rfl, ho3, hb3⟩
    rw [HM.out] at ho3 ⊢
    obtain ⟨ha3, hg3, hl3, hf3⟩ := ho3.at
    have HB3 : Hid (Below w.heap.size w w3 ∧ BAt w3 gs 0 M ∧ w.heap.size ≤ gs ∧ gs < w3.heap.size) := ⟨join8 HB2.out hb3, ha3, Nat.le_trans HB2.out.size hg3, hl3⟩
    clear ho3 hb3 ha3 hg3 hl3 hf3 HR2 HB2 HB1
    go_wp2_with fail
    refine (Code.toInsS_made l ao cap w3 (HR.out.below HB3.out.1) HLE.out).mono ?_
    rintro e w4 ⟨rfl, hm4⟩
    have hb4 := hm4.below
    have HB4 : Hid (Below w.heap.size w w4 ∧ BAt w4 gs 0 M ∧ RowF w4 w3.heap.size l.length (lfI l) ∧ w3.heap.size < w4.heap.size) := ⟨join8 HB3.out.1 hb4, HB3.out.2.1.below hb4, rowF_of hm4, hm4.lt⟩
    clear hb4 hm4
    go_wp2_with fail
    refine (implPutC_any l (some ⟨w3.heap.size, 0, none⟩) l.length w4 (rowI_of HB4.out.2.2.1) HSM.out (by have := HLE.out; omega) (HG.out.1.below HB4.out.1) (HG.out.2.1.below HB4.out.1) (HG.out.2.2.below HB4.out.1)).mono ?_
    rintro e w5 ⟨g5, c5, rfl, ho5, hb5⟩
    rw [HM.out] at ho5 ⊢
    obtain ⟨ha5, hg5, hl5, hf5⟩ := ho5.at
    have hax : AxC w w5 l.length M gs w3.heap.size g5 (lfI l) (bf M) := by
      have a1 := HB3.out.2.2
      have a2 := HB4.out.2.2
      exact ⟨join8 HB4.out.1 hb5, HB4.out.2.1.below hb5, a2.1.below hb5, ha5.bys hf5, by omega, by omega, by omega, hl5⟩
    have HA5 : Hid (AxC w w5 l.length M gs w3.heap.size g5 (lfI l) (bf M)) := hax
    clear ho5 hb5 ha5 hg5 hl5 hf5 hax HB4 HB3
    generalize w3.heap.size = g3 at *
    go_wp2_with fail
    refine (eqB_same (some ⟨g5, 0, none⟩) (some ⟨gs, 0, none⟩) c5 cs M w5 HA5.out.im.at.rd HA5.out.sp.rd (by have := HML.out; omega)).mono ?_
    rintro e w6 ⟨rfl, hb6⟩
    have HA6 : Hid (AxC w w6 l.length M gs g3 g5 (lfI l) (bf M)) := HA5.out.call hb6
    clear hb6 HA5
    go_wp2_with fail
    refine (Code.toInsS_any l ao cap w6 (HR.out.below HA6.out.below) HLE.out).mono ?_
    rintro e w7 ⟨⟨g7, hg7, rfl, hr7⟩, hb7⟩
    have HA7 : Hid (AxC w w7 l.length M gs g3 g5 (lfI l) (bf M) ∧ RowI w7 (some ⟨g7, 0, none⟩) l) := ⟨HA6.out.call hb7, hr7⟩
    clear hb7 hr7 hg7 HA6
    go_wp2_with fail
    refine (Code.eqInsS_same l (some ⟨g3, 0, none⟩) (some ⟨g7, 0, none⟩) l.length l.length w7 (rowI_of HA7.out.1.xw) HA7.out.2 HLE.out).mono ?_
    rintro e w8 ⟨rfl, hb8⟩
    have HA8 : Hid (AxC w w8 l.length M gs g3 g5 (lfI l) (bf M)) := HA7.out.1.call hb8
    clear hb8 HA7
    go_wp2_with fail
    refine (Code.mark_any g3 l.length l.length 1 (lfI l) (by have := HLE.out; omega) (by decide) (by decide) w8 HA8.out.xw).mono ?_
    rintro e w9 ⟨rfl, hf9, ht9⟩
    have HA9 : Hid (AxC w w9 l.length M gs g3 g5 (mk6 1) (bf M)) := HA8.out.markX ht9 hf9
    clear hf9 ht9 HA8
    go_wp2_with (go_at_call 9; refine (eqB_same (some ⟨g5, 0, none⟩) (some ⟨gs, 0, none⟩) c5 cs M w9 HA9.out.im.at.rd HA9.out.sp.rd (Nat.le_trans HML.out (by decide))).mono ?_; rintro e w10 ⟨rfl, hb10⟩; have HA10 : Hid (AxC w w10 l.length M gs g3 g5 (mk6 1) (bf M)) := HA9.out.call hb10; clear hb10)
    clear HA9
    refine (markB_any g5 M.length c5 (bf M) w10 HA10.out.im HA10.out.l3 (by have := HML.out; omega)).mono ?_
    rintro e w11 ⟨rfl, ht11, hi11⟩
    have HA11 : Hid (AxC w w11 l.length M gs g3 g5 (mk6 1) mkB) := HA10.out.markI ht11 hi11
    clear ht11 hi11 HA10
    go_wp2_with fail
    refine (heldB_any g5 M.length c5 w11 HA11.out.im (by have := HML.out; omega)).mono ?_
    rintro e w12 ⟨rfl, hb12⟩
    have HA12 : Hid (AxC w w12 l.length M gs g3 g5 (mk6 1) mkB) := HA11.out.call hb12
    clear hb12 HA11
    go_wp2_with fail
    refine (Code.toInsS_any l ao cap w12 (HR.out.below HA12.out.below) HLE.out).mono ?_
    rintro e w13 ⟨⟨g13, hg13, rfl, hr13⟩, hb13⟩
    have HA13 : Hid (AxC w w13 l.length M gs g3 g5 (mk6 1) mkB ∧ RowI w13 (some ⟨g13, 0, none⟩) l) := ⟨HA12.out.call hb13, hr13⟩
    clear hb13 hr13 hg13 HA12
    go_wp2_with fail
    refine (implPutC_any l (some ⟨g13, 0, none⟩) l.length w13 HA13.out.2 HSM.out (by have := HLE.out; omega) (HG.out.1.below HA13.out.1.below) (HG.out.2.1.below HA13.out.1.below) (HG.out.2.2.below HA13.out.1.below)).mono ?_
    rintro e w14 ⟨g14, c14, rfl, ho14, hb14⟩
    rw [HM.out] at ho14 ⊢
    have HA14 : Hid (AxC w w14 l.length M gs g3 g5 (mk6 1) mkB ∧ BAt w14 g14 0 M) := ⟨HA13.out.1.call hb14, ho14.at.1⟩
    clear hb14 ho14 HA13
    go_wp2_with fail
    refine (eqB_same (some ⟨g14, 0, none⟩) (some ⟨gs, 0, none⟩) c14 cs M w14 HA14.out.2.rd HA14.out.1.sp.rd (by have := HML.out; omega)).mono ?_
    rintro e w15 ⟨rfl, hb15⟩
    have HA15 : Hid (AxC w w15 l.length M gs g3 g5 (mk6 1) mkB) := HA14.out.1.call hb15
    clear hb15 HA14
    go_wp2_with fail
    refine (heldB_any g5 M.length c5 w15 HA15.out.im (by have := HML.out; omega)).mono ?_
    rintro e w16 ⟨rfl, hb16⟩
    have HB16 : Hid (Below w.heap.size w w16) := join8 HA15.out.below hb16
    clear hb16 HA15
    go_wp2_with fail
    go_ret
    exact ⟨rfl, HB16.out⟩
end Go.Proofs.YtcpodedmeeihhaaDoor.Cb
