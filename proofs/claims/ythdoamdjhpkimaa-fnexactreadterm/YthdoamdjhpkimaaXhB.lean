/-
  The law over HeapOk is walked.
-/
import Derived.Test.YthdoamdjhpkimaaXhA
import Derived.Deep.RegionLaw
namespace Go.Proofs.Ythdoamdjhpkimaa
open Go.RowKit
set_option linter.unusedVariables false

/-- What the copies are read from. -/
abbrev envOf (N : Nat) (f : Nat → Int) (L : List ByteArray) (g s : Nat) : Env := { H := ⟨N, f, L⟩, rb := 0, wv := some ⟨g, 0, none⟩, b := g, o := 0, cap := N, av := some ⟨s, 0, none⟩, ab := s, ao := 0, acap := L.length }
theorem src_of {w : World} {N : Nat} {f : Nat → Int} {L : List ByteArray} {g s : Nat} (hi : Ints w g 0 N f) (ht : Txt w s 0 L) (hN : N ≤ 1048576) (hL : L.length ≤ 1048576) (hf : ∀ j, f j ≤ 9223372036854775807) (hs : ∀ x ∈ L, x.size ≤ 1048576) : Src (envOf N f L g s) w :=
  ⟨⟨hN, hL⟩, fun _ => rfl, fun _ => rfl, fun j hj => hi.cell j hj, ht, Nat.le_refl _, hf, hs⟩
def rootsOf (n : Nat) (g : Nat → Int) : List Int := (List.range n).map g
theorem roots_len (n : Nat) (g : Nat → Int) : (rootsOf n g).length = n := by simp [rootsOf]
theorem roots_of {w : World} {n r : Nat} {g : Nat → Int} (hi : Ints w r 0 n g) : Roots w (some ⟨r, 0, none⟩) (rootsOf n g) := fun _ => ⟨r, 0, rfl, fun j hj => by
  have hj' : j < n := by rw [roots_len] at hj; exact hj
  have e : (rootsOf n g)[j] = g j := by simp [rootsOf]
  rw [e]
  exact hi.cell j hj'⟩
theorem roots_big {n : Nat} {g : Nat → Int} (h : ∀ j, g j ≤ 9223372036854775807) : ∀ x ∈ rootsOf n g, x ≤ 9223372036854775807 := fun x hx => by
  obtain ⟨j, _, rfl⟩ := List.mem_map.1 hx
  exact h j
theorem keep0 {w w' : World} (h : Below w.heap.size w w') {b o : Nat} {v : Value} (hc : w.cell? ⟨b, o, none⟩ = some v) : w'.cell? ⟨b, o, none⟩ = some v := by
  rw [h.cell (p := ⟨b, o, none⟩) (World.block_lt_of_cell? w _ hc)]; exact hc
theorem bundrew2 {W w3 : World} (hb : Below W.drew.heap.size W.drew w3) : Below W.heap.size W w3 := ⟨hb.os, hb.tape, hb.output, hb.size, hb.block⟩

set_option maxHeartbeats 4000000 in
set_option maxRecDepth 100000 in
theorem heapOk_law (ao : Option Addr) (N cap : Nat) (f : Nat → Int) (av : Option Addr) (acap : Nat) (L : List ByteArray) (rv : Option Addr) (rN rcap : Nat) (g : Nat → Int) (w : World)
    (hr : RdI w ao N f) (hN : N ≤ maxLen) (hf : ∀ j, f j ≤ 9223372036854775807) (hT : RdT w av L) (hL : L.length ≤ maxLen) (hs : ∀ x ∈ L, x.size ≤ maxLen) (hg : RdI w rv rN g) (hgb : ∀ j, g j ≤ 9223372036854775807) (hR : rN ≤ maxLen) :
    Calls Try.prog 6 #[.agg #[.slice ao N cap], .slice av L.length acap, .slice rv rN rcap] w fun e w' => e = .returned (.bool true) ∧ Below w.heap.size w w' := by
  have HR : Hid (RdI w ao N f) := hr
  have HN : Hid (N ≤ maxLen) := hN
  have HF : Hid (∀ j, f j ≤ 9223372036854775807) := hf
  have HT : Hid (RdT w av L) := hT
  have HL : Hid (L.length ≤ maxLen) := hL
  have HS : Hid (∀ x ∈ L, x.size ≤ maxLen) := hs
  have HG : Hid (RdI w rv rN g) := hg
  have HGB : Hid (∀ j, g j ≤ 9223372036854775807) := hgb
  clear hr hN hf hT hL hs hg hgb
  unfold maxLen at hR
  by_cases hrb : rN ≤ 1048576
  case neg =>
    go_enter Try.func6, Try.ntmps6
    go_wp2_with fail
    go_ret
    exact ⟨rfl, (Below.refl _ _).alloc (Nat.le_refl _) _⟩
  case pos =>
    have HRB : Hid (rN ≤ 1048576) := hrb
    go_enter Try.func6, Try.ntmps6
    go_wp2_with fail
    generalize hW1 : w.alloc (.cells #[.slice ao N cap] 39) = w1
    have hb1 : Below w.heap.size w w1 := by rw [← hW1]; exact (Below.refl _ _).alloc (Nat.le_refl _) _
    have q1 : w1.cell? ⟨w.heap.size, 0, none⟩ = some (.slice ao N cap) := by rw [← hW1, World.cell?_alloc_new]; rfl
    have HB1 : Hid (Below w.heap.size w w1) := hb1
    have HQ1 : Hid (w1.cell? ⟨w.heap.size, 0, none⟩ = some (.slice ao N cap)) := q1
    have HR1 : Hid (RdI w1 ao N f) := HR.out.below hb1
    have HT1 : Hid (RdT w1 av L) := HT.out.below hb1
    have HG1 : Hid (RdI w1 rv rN g) := HG.out.below hb1
    clear hW1 hb1 HR HT HG
    refine (szHeap_any ao N cap 1048576 HN.out (by decide) _).mono ?_
    rintro e w2 ⟨rfl, hb2⟩
    have q2 := keep0 hb2 HQ1.out
    have HB2 : Hid (Below w1.heap.size w1 w2) := hb2
    clear hb2 q1
    obtain ⟨y, hy⟩ : ∃ y, szI N 1048576 = y := ⟨_, rfl⟩
    have hy1 := szI_ge N 1048576
    rw [hy] at hy1 ⊢
    by_cases hy0 : 0 ≤ y
    case neg =>
      have e : y = -1 := by omega
      subst e
      clear hy
      go_wp2_with fail
      go_ret
      exact ⟨rfl, HB1.out.trans (HB2.out.mono HB1.out.size)⟩
    case pos =>
      have hNs : N ≤ 1048576 ∧ y ≤ 1048576 := by unfold szI at hy; split at hy <;> omega
      have HNS : Hid (N ≤ 1048576) := hNs.1
      have hy2 := hNs.2
      clear hy hNs
      have HY0 : Hid (0 ≤ y) := hy0
      have HY2 : Hid (y ≤ 1048576) := hy2
      go_wp2_with fail
      refine (szStr2_any av acap L w2 (HT1.out.below HB2.out) HL.out HS.out y HY0.out HY2.out).mono ?_
      rintro e w3 ⟨z, rfl, hw3, hz, hzl⟩
      obtain rfl := hw3.symm
      by_cases hz0 : 0 ≤ z
      case neg =>
        have e : z = -1 := by omega
        subst e
        go_wp2_with fail
        go_ret
        exact ⟨rfl, HB1.out.trans (HB2.out.mono HB1.out.size)⟩
      case pos =>
        have HLS : Hid (L.length ≤ 1048576) := (hzl hz0).1
        have HSB : Hid (∀ x ∈ L, x.size ≤ 1048576) := (hzl hz0).2
        clear hzl
        go_wp2_with fail
        -- the specification's answer
        refine (toHeap_any ao N cap f w2 (HR1.out.below HB2.out) HNS.out).mono ?_
        rintro e w4 ⟨g4, rfl, hg4, hi4, hl4, hb4⟩
        have HI4 : Hid (Ints w4 g4 0 N f) := hi4
        have hgl4 : g4 < w4.heap.size := hl4
        have HB4 : Hid (Below w1.heap.size w1 w4) := HB2.out.trans (hb4.mono HB2.out.size)
        have q4 := keep0 hb4 q2
        clear hi4 hl4 hb4
        go_wp2_with fail
        refine (toStr_any av acap L w4 (HT1.out.below HB4.out) HLS.out).mono ?_
        rintro e w5 ⟨rfl, hi5, hl5, hb5⟩
        have HT5 : Hid (Txt w5 w4.heap.size 0 L) := hi5.txt
        have HI5 : Hid (Ints w5 g4 0 N f) := HI4.out.below hb5 hgl4
        have HB5 : Hid (Below w1.heap.size w1 w5) := HB4.out.trans (hb5.mono HB4.out.size)
        have q5 := keep0 hb5 q4
        have hl5' : w4.heap.size < w5.heap.size := hl5
        clear hi5 hl5 hb5
        go_wp2_with fail
        refine (toIntS_any rv rN rcap g w5 (HG1.out.below HB5.out) HRB.out).mono ?_
        rintro e w6 ⟨rfl, hi6, hl6, hb6⟩
        have HI6 : Hid (Ints w6 w5.heap.size 0 rN g) := hi6
        have HT6 : Hid (Txt w6 w4.heap.size 0 L) := HT5.out.below hb6
        have HJ6 : Hid (Ints w6 g4 0 N f) := HI5.out.below hb6 (by omega)
        have HB6 : Hid (Below w1.heap.size w1 w6) := HB5.out.trans (hb6.mono HB5.out.size)
        have q6 := keep0 hb6 q5
        clear hi6 hl6 hb6
        have SP := specHeapOk_any (envOf N f L g4 w4.heap.size) w6 (src_of HJ6.out HT6.out HNS.out HLS.out HF.out HSB.out) (some ⟨w5.heap.size, 0, none⟩) rN (rootsOf rN g) (roots_of HI6.out) (by rw [roots_len]; exact HRB.out) (roots_big HGB.out)
        rw [roots_len] at SP
        have HSP : Hid (Calls Try.prog 17 #[.agg #[.slice (some ⟨g4, 0, none⟩) N N], .slice (some ⟨w4.heap.size, 0, none⟩) L.length L.length, .slice (some ⟨w5.heap.size, 0, none⟩) rN rN] w6 fun e w' => e = .returned (.bool (heapB ⟨N, f, L⟩ (rootsOf rN g))) ∧ Below w6.heap.size w6 w') := SP
        clear SP
        go_wp2_with fail
        refine HSP.out.mono ?_
        rintro e w7 ⟨rfl, hb7⟩
        have HB7 : Hid (Below w1.heap.size w1 w7) := HB6.out.trans (hb7.mono HB6.out.size)
        have q7 := keep0 hb7 q6
        clear hb7 HSP q2 q4 q5 q6
        obtain ⟨A, hA⟩ : ∃ A, heapB ⟨N, f, L⟩ (rootsOf rN g) = A := ⟨_, rfl⟩
        rw [hA]
        have HA : Hid (heapB ⟨N, f, L⟩ (rootsOf rN g) = A) := hA
        clear hA
        -- the program's
        go_wp2_with fail
        refine (toHeap_any ao N cap f w7 (HR1.out.below HB7.out) HNS.out).mono ?_
        rintro e w8 ⟨g8, rfl, hg8, hi8, hl8, hb8⟩
        have HI8 : Hid (Ints w8 g8 0 N f) := hi8
        have hgl8 : g8 < w8.heap.size := hl8
        have HB8 : Hid (Below w1.heap.size w1 w8) := HB7.out.trans (hb8.mono HB7.out.size)
        have q8 := keep0 hb8 q7
        clear hi8 hl8 hb8
        go_wp2_with fail
        generalize hW9 : w8.alloc (.cells #[.slice (some ⟨g8, 0, none⟩) N N] 26) = w9
        have hb9 : Below w8.heap.size w8 w9 := by rw [← hW9]; exact (Below.refl _ _).alloc (Nat.le_refl _) _
        have x9 : w9.cell? ⟨w8.heap.size, 0, none⟩ = some (.slice (some ⟨g8, 0, none⟩) N N) := by rw [← hW9, World.cell?_alloc_new]; rfl
        have HI9 : Hid (Ints w9 g8 0 N f) := HI8.out.below hb9 hgl8
        have hgl9 : g8 < w9.heap.size := Nat.lt_of_lt_of_le hgl8 hb9.size
        have HB9 : Hid (Below w1.heap.size w1 w9) := HB8.out.trans (hb9.mono HB8.out.size)
        have q9 := keep0 hb9 q8
        clear hW9 hb9 q7 q8
        refine (toStr_any av acap L w9 (HT1.out.below HB9.out) HLS.out).mono ?_
        rintro e w10 ⟨rfl, hi10, hl10, hb10⟩
        have HT10 : Hid (Txt w10 w9.heap.size 0 L) := hi10.txt
        have HI10 : Hid (Ints w10 g8 0 N f) := HI9.out.below hb10 hgl9
        have hgl10 : g8 < w10.heap.size := Nat.lt_of_lt_of_le hgl9 hb10.size
        have HB10 : Hid (Below w1.heap.size w1 w10) := HB9.out.trans (hb10.mono HB9.out.size)
        have q10 := keep0 hb10 q9
        have x10 := keep0 hb10 x9
        clear hi10 hl10 hb10
        go_wp2_with fail
        refine (toIntS_any rv rN rcap g w10 (HG1.out.below HB10.out) HRB.out).mono ?_
        rintro e w11 ⟨rfl, hi11, hl11, hb11⟩
        have HR11 : Hid (Ints w11 w10.heap.size 0 rN g) := hi11
        have hrl11 : w10.heap.size < w11.heap.size := hl11
        have HT11 : Hid (Txt w11 w9.heap.size 0 L) := HT10.out.below hb11
        have HI11 : Hid (Ints w11 g8 0 N f) := HI10.out.below hb11 hgl10
        have hgl11 : g8 < w11.heap.size := Nat.lt_of_lt_of_le hgl10 hb11.size
        have HB11 : Hid (Below w1.heap.size w1 w11) := HB10.out.trans (hb11.mono HB10.out.size)
        have q11 := keep0 hb11 q10
        have x11 := keep0 hb11 x10
        clear hi11 hl11 hb11 q9 q10 x9 x10
        have IM := implHeapOk_any (envOf N f L g8 w9.heap.size) w11 (src_of HI11.out HT11.out HNS.out HLS.out HF.out HSB.out) (.inl ⟨rfl, Nat.le_refl _⟩) (some ⟨w10.heap.size, 0, none⟩) rN (rootsOf rN g) (roots_of HR11.out) (by rw [roots_len]; exact HRB.out) (roots_big HGB.out)
        rw [roots_len] at IM
        have HIM : Hid (Calls Try.prog 16 #[.agg #[.slice (some ⟨g8, 0, none⟩) N N], .slice (some ⟨w9.heap.size, 0, none⟩) L.length L.length, .slice (some ⟨w10.heap.size, 0, none⟩) rN rN] w11 fun e w' => e = .returned (.bool (heapB ⟨N, f, L⟩ (rootsOf rN g))) ∧ Below w11.heap.size w11 w') := IM
        clear IM
        go_wp2_with fail
        refine HIM.out.mono ?_
        rintro e w12 ⟨rfl, hb12⟩
        rw [HA.out]
        have HR12 : Hid (Ints w12 w10.heap.size 0 rN g) := HR11.out.below hb12 hrl11
        have HT12 : Hid (Txt w12 w9.heap.size 0 L) := HT11.out.below hb12
        have HI12 : Hid (Ints w12 g8 0 N f) := HI11.out.below hb12 hgl11
        have hgl12 : g8 < w12.heap.size := Nat.lt_of_lt_of_le hgl11 hb12.size
        have hrl12 : w10.heap.size < w12.heap.size := Nat.lt_of_lt_of_le hrl11 hb12.size
        have HB12 : Hid (Below w1.heap.size w1 w12) := HB11.out.trans (hb12.mono HB11.out.size)
        have q12 := keep0 hb12 q11
        have x12 := keep0 hb12 x11
        clear hb12 q11 x11 HIM
        go_wp2_with fail
        go_region_law (go_simp; go_wp2_with (first
          | (go_at_call 20; refine (toHeap_any ao N cap f _ (HR1.out.below HB12.out.drew) HNS.out).mono ?_; rintro e w13 ⟨g13, rfl, hg13, hi13, hl13, hb13⟩; have HC13 : Hid (Below w12.heap.size w12 w13) := bundrew2 hb13; have HI13 : Hid (Ints w13 g13 0 N f) := hi13; have x13 := keep0 HC13.out x12; have q13 := keep0 HC13.out q12; clear hg13 hi13 hl13 hb13)
          | (go_at_call 23; refine (eqHeap_same _ _ N N N f f w13 (Ints.rdI (HI12.out.below HC13.out hgl12)) HI13.out.rdI (fun _ _ => rfl) HNS.out).mono ?_; rintro e w14 ⟨rfl, hb14⟩; have HC14 : Hid (Below w12.heap.size w12 w14) := HC13.out.trans (hb14.mono HC13.out.size); clear hb14)))
        all_goals
          have HT14 : Hid (Txt w14 w9.heap.size 0 L) := HT12.out.below HC14.out
          have HR14 : Hid (Ints w14 w10.heap.size 0 rN g) := HR12.out.below HC14.out hrl12
          have HB14 : Hid (Below w1.heap.size w1 w14) := HB12.out.trans (HC14.out.mono HB12.out.size)
          have hrl14 : w10.heap.size < w14.heap.size := Nat.lt_of_lt_of_le hrl12 HC14.out.size
          go_wp2_with fail
          refine (toStr_any av acap L w14 (HT1.out.below HB14.out) HLS.out).mono ?_
          rintro e w15 ⟨rfl, hi15, hl15, hb15⟩
          have HS15 : Hid (Txt w15 w14.heap.size 0 L) := hi15.txt
          have HT15 : Hid (Txt w15 w9.heap.size 0 L) := HT14.out.below hb15
          have HR15 : Hid (Ints w15 w10.heap.size 0 rN g) := HR14.out.below hb15 hrl14
          have hrl15 : w10.heap.size < w15.heap.size := Nat.lt_of_lt_of_le hrl14 hb15.size
          have HB15 : Hid (Below w1.heap.size w1 w15) := HB14.out.trans (hb15.mono HB14.out.size)
          clear hi15 hl15 hb15
          go_wp2_with fail
          refine (eqStr_same (some ⟨w9.heap.size, 0, none⟩) (some ⟨w14.heap.size, 0, none⟩) L.length L.length L w15 HT15.out.rd HS15.out.rd (by have := HLS.out; omega)).mono ?_
          rintro e w16 ⟨rfl, hb16⟩
          have HR16 : Hid (Ints w16 w10.heap.size 0 rN g) := HR15.out.below hb16 hrl15
          have hrl16 : w10.heap.size < w16.heap.size := Nat.lt_of_lt_of_le hrl15 hb16.size
          have HB16 : Hid (Below w1.heap.size w1 w16) := HB15.out.trans (hb16.mono HB15.out.size)
          clear hb16
          go_wp2_with fail
          refine (toIntS_any rv rN rcap g w16 (HG1.out.below HB16.out) HRB.out).mono ?_
          rintro e w17 ⟨rfl, hi17, hl17, hb17⟩
          have HI17 : Hid (Ints w17 w16.heap.size 0 rN g) := hi17
          have HR17 : Hid (Ints w17 w10.heap.size 0 rN g) := HR16.out.below hb17 hrl16
          have HB17 : Hid (Below w1.heap.size w1 w17) := HB16.out.trans (hb17.mono HB16.out.size)
          clear hi17 hl17 hb17
          go_wp2_with fail
          refine (eqIntS_same _ _ rN rN rN g g w17 HR17.out.rdI HI17.out.rdI (fun _ _ => rfl) HRB.out).mono ?_
          rintro e w18 ⟨rfl, hb18⟩
          have HB18 : Hid (Below w1.heap.size w1 w18) := HB17.out.trans (hb18.mono HB17.out.size)
          clear hb18
          go_wp2_with fail
          go_ret
          exact ⟨rfl, HB1.out.trans (HB18.out.mono HB1.out.size)⟩
end Go.Proofs.Ythdoamdjhpkimaa
