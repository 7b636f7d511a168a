/-
  The law over PutTerm, walked.
-/
import Derived.Test.YtabgfaafpgholaaV11
import Derived.Deep.RegionHeld3
import Derived.Deep.RegionWith
namespace Go.Proofs.Ytabgfaafpgholaa.fnExactPutTerm
open Go.RowKit
set_option linter.unusedVariables false

set_option maxHeartbeats 16000000 in
set_option maxRecDepth 100000 in
theorem walk (ao : Option Addr) (N cap : Nat) (f : Nat → Int) (av : Option Addr) (acap : Nat) (L : List ByteArray) (t : Tm) (v : Value) (w : World)
    (hr : RdI w ao N f) (hN : N ≤ maxLen) (hT : RdT w av L) (hL : L.length ≤ maxLen) (hsz : ∀ x ∈ L, x.size ≤ maxLen) (hrep : RepV 0 w t v) :
    Calls Try.prog 3 #[.agg #[.slice ao N cap], .slice av L.length acap, v] w fun e w' => e = .returned (.bool true) ∧ Below w.heap.size w w' := by
  obtain ⟨k, n, s, l⟩ := t
  have HREP0 : Hid (∀ wc, Below w.heap.size w wc → RepV 0 wc (.mk k n s l) v) := fun wc hb => (Keeps.below hb 0).repV hrep
  obtain ⟨xo, xcap, rfl, hs, hl, hc, hrl⟩ := hrep
  obtain ⟨t, ht⟩ : ∃ t, t = Tm.mk k n s l := ⟨_, rfl⟩
  rw [← ht] at HREP0
  have HT : Hid (t = Tm.mk k n s l) := ht
  obtain ⟨W0, hW0⟩ : ∃ W0, W0 = (w.alloc (.cells #[.slice ao N cap] 24)).alloc (.cells #[.int .i64 k, .int .i64 n, .string s, .slice xo l.length xcap] 28) := ⟨_, rfl⟩
  have hb0 : Below w.heap.size w W0 := by rw [hW0]; exact ((Below.refl _ _).alloc (Nat.le_refl _) _).alloc (by simp) _
  have hz0 : W0.heap.size = w.heap.size + 2 := by rw [hW0]; simp
  have q3 : W0.cell? ⟨w.heap.size, 0, none⟩ = some (.slice ao N cap) := by rw [hW0, World.cell?_alloc_past (hn := by simp), World.cell?_alloc_at (hn := rfl)]; rfl
  have q5 : ∀ o, W0.cell? ⟨w.heap.size + 1, o, none⟩ = (#[.int .i64 k, .int .i64 n, .string s, .slice xo l.length xcap] : Array Value)[o]? := fun o => by rw [hW0, World.cell?_alloc_at (hn := by simp)]
  have HQ : Hid (∀ wc, Below W0.heap.size W0 wc → wc.cell? ⟨w.heap.size, 0, none⟩ = some (.slice ao N cap) ∧ (∀ o, wc.cell? ⟨w.heap.size + 1, o, none⟩ = (#[.int .i64 k, .int .i64 n, .string s, .slice xo l.length xcap] : Array Value)[o]?)) := fun wc hb =>
    ⟨by rw [hb.cell (p := ⟨w.heap.size, 0, none⟩) (by show w.heap.size < _; omega)]; exact q3, fun o => by rw [hb.cell (p := ⟨w.heap.size + 1, o, none⟩) (by show w.heap.size + 1 < _; omega)]; exact q5 o⟩
  have HB0 : Hid (Below w.heap.size w W0 ∧ W0.heap.size = w.heap.size + 2) := ⟨hb0, hz0⟩
  have HRI : Hid (∀ wc, Below w.heap.size w wc → RdI wc ao N f) := fun wc hb => hr.below hb
  have HRT : Hid (∀ wc, Below w.heap.size w wc → RdT wc av L) := fun wc hb => hT.below hb
  have HSS : Hid (∀ x ∈ L, x.size ≤ maxLen) := hsz
  have HNL : Hid (N ≤ maxLen ∧ L.length ≤ maxLen) := ⟨hN, hL⟩
  clear hr hN hT hL hsz hs hl hc hrl ht hb0 hz0 q3 q5
  go_enter Try.func3, Try.ntmps3
  go_wp2_with (go_at_call 6; fail)
  rw [← hW0]
  clear hW0
  refine (szHeap_any ao N cap 1048576 HNL.out.1 (by decide) W0).mono ?_
  rintro e w1 ⟨rfl, hb1⟩
  have HB1 : Hid (Below W0.heap.size W0 w1) := hb1
  obtain ⟨z1, hz1⟩ : ∃ z1, z1 = szI N 1048576 := ⟨_, rfl⟩
  have HZ1 : Hid (0 ≤ z1 → N ≤ 1048576 ∧ z1 = 1048576 - (N : Int)) := fun h => by
    rw [hz1] at h ⊢
    unfold szI at h ⊢
    split at h
    · omega
    · rename_i h9
      rw [if_neg h9]
      exact ⟨by omega, rfl⟩
  rw [← hz1]
  have hw1 : Below w.heap.size w w1 := HB0.out.1.trans (hb1.mono HB0.out.1.size)
  have HW1 : Hid (Below w.heap.size w w1) := hw1
  clear hb1 hz1 hw1
  by_cases hn1 : z1 < 0
  · go_wp2_with fail
    go_ret
    exact ⟨rfl, HW1.out⟩
  have HZN : Hid (N ≤ 1048576 ∧ z1 = 1048576 - (N : Int)) := HZ1.out (by omega)
  clear HZ1
  go_wp2_with (go_at_call 7; fail)
  refine (szStrP_any av acap L w1 (HRT.out w1 HW1.out) HNL.out.2 HSS.out z1 (by omega) (by have := HZN.out.2; omega)).mono ?_
  rintro e w2 ⟨z2, rfl, hw2, hz2, hz2'⟩
  obtain rfl := hw2.symm
  have HZ2 : Hid (0 ≤ z2 → z2 ≤ z1 - L.length ∧ ∀ x ∈ L, x.size ≤ 1048576) := hz2'
  clear hw2 hz2'
  by_cases hn2 : z2 < 0
  · go_wp2_with fail
    go_ret
    exact ⟨rfl, HW1.out⟩
  have HZL : Hid (z2 ≤ z1 - L.length ∧ ∀ x ∈ L, x.size ≤ 1048576) := HZ2.out (by omega)
  clear HZ2
  obtain ⟨y3, y5⟩ := HQ.out w1 HB1.out
  go_wp2_with (go_at_call 8; fail)
  refine (szT_all t 0 w1 _ z2 (HREP0.out w1 HW1.out) (by omega) (by have h1 := HZL.out.1; have h2 := HZN.out; omega)).mono ?_
  rintro e w3 ⟨rfl, hb3⟩
  have HB3 : Hid (Below W0.heap.size W0 w3) := HB1.out.trans (hb3.mono HB1.out.size)
  have HW3 : Hid (Below w.heap.size w w3) := HW1.out.trans (hb3.mono HW1.out.size)
  clear hb3 y3 y5
  obtain ⟨z3, hz3⟩ : ∃ z3, z3 = szT t z2 := ⟨_, rfl⟩
  have HZ3 : Hid (0 ≤ z3 → StS t ∧ N + L.length + ntL l ≤ 1048576) := fun h => by
    have h1 := HZL.out.1
    have h2 := HZN.out
    rw [hz3] at h
    refine ⟨sz_sts t z2 (by omega) (by omega) h, ?_⟩
    have h3 := szT_nt k n s l z2 (by omega) (by rw [← HT.out]; exact h)
    omega
  rw [← hz3]
  clear hz3
  by_cases hn3 : z3 < 0
  · go_wp2_with fail
    go_ret
    exact ⟨rfl, HW3.out⟩
  have HZT : Hid (StS t ∧ N + L.length + ntL l ≤ 1048576) := HZ3.out (by omega)
  clear HZ3 hn1 hn2
  have HTH : Hid (∀ wc, Below w.heap.size w wc → Calls Try.prog 10 #[.agg #[.slice ao N cap]] wc fun e w' => ∃ g, e = .returned (.agg #[.slice (some ⟨g, 0, none⟩) N N]) ∧ wc.heap.size ≤ g ∧ Ints w' g 0 N f ∧ g < w'.heap.size ∧ Below wc.heap.size wc w') := fun wc hb => toHeap_any ao N cap f wc (HRI.out wc hb) HZN.out.1
  have hLL : L.length ≤ 1048576 := by have := HZT.out.2; omega
  have HTS : Hid (∀ wc, Below w.heap.size w wc → Calls Try.prog 11 #[.slice av L.length acap] wc fun e w' => ∃ g, e = .returned (.slice (some ⟨g, 0, none⟩) L.length L.length) ∧ wc.heap.size ≤ g ∧ Sts w' g L.length (lf L) ∧ g < w'.heap.size ∧ Below wc.heap.size wc w') := fun wc hb => (toStr_any av acap L wc (HRT.out wc hb) hLL).mono fun e w' ⟨h1, h2, h3, h4⟩ => ⟨wc.heap.size, h1, Nat.le_refl _, h2, h3, h4⟩
  have HTO : Hid (∀ wc, Below w.heap.size w wc → Calls Try.prog 12 #[.agg #[.int .i64 k, .int .i64 n, .string s, .slice xo l.length xcap]] wc fun e w' => ∃ xa xc bs, e = .returned (.agg #[.int .i64 k, .int .i64 n, .string s, .slice xa l.length xc]) ∧ Below wc.heap.size wc w' ∧ OsV w' bs t (.agg #[.int .i64 k, .int .i64 n, .string s, .slice xa l.length xc]) ∧ OsL w' l bs xa ∧ l.length ≤ xc ∧ xc ≤ maxLen ∧ bs.Nodup ∧ ∀ b ∈ bs, wc.heap.size ≤ b) := fun wc hb => by
    refine (toOT_all t HZT.out.1 0 wc _ (HREP0.out wc hb)).mono ?_
    rintro e w' ⟨v', bs, h1, h2, h3, h4, h5⟩
    have h6 := h3
    rw [HT.out] at h6
    obtain ⟨xa, xc, rfl, _, h7, h8, h9⟩ := h6
    exact ⟨xa, xc, bs, h1, h2, h3, h9, h7, h8, h4, h5⟩
  have hnt : L.length + nT t ≤ 1048577 := by
    rw [HT.out, nT, ← ntL_nL]
    have := HZT.out.2
    omega
  obtain ⟨R, hR⟩ : ∃ R, R = PtR t (rowF N f) L := ⟨_, rfl⟩
  have HOF : Hid (∀ Y B x ok, OutR (rowF N f) L R Y B x ok → Y.length ≤ 1048576 ∧ B.length ≤ 1048577) := fun Y B x ok h => OutR.few (by rw [← hR]; exact h) (by rw [rowF_len]; exact HZN.out.1) hnt
  have HWV : Hid (∀ wc g, Ints wc g 0 N f → g < wc.heap.size → WV wc wc.heap.size (.slice (some ⟨g, 0, none⟩) N N) (rowF N f)) := fun wc g h1 h2 => .inr ⟨g, N, by rw [rowF_len], h2, fun j hj => by
    have hj' : j < N := by rw [rowF_len] at hj; exact hj
    have h9 := h1.cell j hj'
    rw [Nat.zero_add] at h9
    rw [h9, rowF_get]⟩
  have HSP : Hid (∀ wc g a bs va, Ints wc g 0 N f → g < wc.heap.size → Sts wc a L.length (lf L) → a < wc.heap.size → OsV wc bs t va → bs.Nodup → Calls Try.prog 9 #[.agg #[.slice (some ⟨g, 0, none⟩) N N], .slice (some ⟨a, 0, none⟩) L.length L.length, va] wc fun e w' => ∃ g' c' a' ca Y B x ok, e = .returned (.tuple #[.agg #[.slice (some ⟨g', 0, none⟩) Y.length c'], .slice (some ⟨a', 0, none⟩) B.length ca, .int .i64 x, .bool ok]) ∧ OutR (rowF N f) L R Y B x ok ∧ Ints w' g' 0 Y.length (lfI Y) ∧ Sts w' a' B.length (lf B) ∧ (wc.heap.size ≤ g' ∧ g' < w'.heap.size) ∧ (wc.heap.size ≤ a' ∧ a' < w'.heap.size) ∧ Below wc.heap.size wc w') := fun wc g a bs va h1 h2 h3 h4 h5 h6 => by
    refine (putTerm_anyN wc _ (rowF N f) a 0 L.length L t va (HWV.out wc g h1 h2) h3.txt h4 (OsV.size h5) (by rw [rowF_len]; exact HZN.out.1) hLL (fun _ => hnt)).mono ?_
    rintro e w' ⟨g', c', a', ca, Y, B, x, ok, rfl, hpa, hor⟩
    obtain ⟨i1, i2, i3⟩ := own_ints hpa.wr
    obtain ⟨t1, t2, t3, t4⟩ := own_txt hpa.ar
    refine ⟨g', c', a', ca, Y, B, x, ok, rfl, ?_, i1, txt_stsP t1 t4, ⟨i2, i3⟩, ⟨t2, t3⟩, hpa.be⟩
    rw [hR]
    rcases hor with ⟨e1, e2, e3, e4, e5⟩ | ⟨e1, ⟨ns, e2, e3⟩, _, _⟩
    · exact .inr ⟨e1, e4, e2, e3, e5⟩
    · exact .inl ⟨e1, ns, e3, e2⟩
  have HIP : Hid (∀ wc g a bs va, Ints wc g 0 N f → g < wc.heap.size → Sts wc a L.length (lf L) → a < wc.heap.size → OsV wc bs t va → bs.Nodup → Calls Try.prog 13 #[.agg #[.slice (some ⟨g, 0, none⟩) N N], .slice (some ⟨a, 0, none⟩) L.length L.length, va] wc fun e w' => ∃ g' c' a' ca Y B x ok, e = .returned (.tuple #[.agg #[.slice (some ⟨g', 0, none⟩) Y.length c'], .slice (some ⟨a', 0, none⟩) B.length ca, .int .i64 x, .bool ok]) ∧ OutR (rowF N f) L R Y B x ok ∧ Ints w' g' 0 Y.length (lfI Y) ∧ Sts w' a' B.length (lf B) ∧ (wc.heap.size ≤ g' ∧ g' < w'.heap.size) ∧ (wc.heap.size ≤ a' ∧ a' < w'.heap.size) ∧ g' ≠ a' ∧ Below wc.heap.size wc w') := fun wc g a bs va h1 h2 h3 h4 h5 h6 => by
    refine (implPut_any wc (some ⟨g, 0, none⟩, N, N) (rowF N f) a 0 L.length L bs t va (HWV.out wc g h1 h2) h3.txt h5 h6 (by rw [rowF_len]; exact HZN.out.1) hLL (fun _ => hnt) _ rfl).mono ?_
    rintro e w' ⟨so, c', a', ca, Y, B, x, ok, rfl, hpe, hor⟩
    obtain ⟨g', rfl, e2, e3, e4, e5⟩ := hpe.wr (.inr (fun h => by cases h))
    exact ⟨g', c', a', ca, Y, B, x, ok, rfl, by rw [hR]; exact hor, e5, hpe.ar, ⟨e2, e3⟩, ⟨hpe.al, hpe.at'⟩, e4, hpe.be⟩
  have HNT : Hid (L.length + nT t ≤ 1048577 ∧ cL l ≤ 3145728) := ⟨hnt, by have h1 := HZT.out.2; have h2 := cL_ntP l; omega⟩
  clear hR hLL hnt HREP0 HRI HRT HSS HNL
  have HBX1 : Hid (Below w.heap.size w w3) := HW3.out
  have HQX1 : Hid (∀ wc, Below w3.heap.size w3 wc → wc.cell? ⟨w.heap.size, 0, none⟩ = some (.slice ao N cap) ∧ (∀ o, wc.cell? ⟨w.heap.size + 1, o, none⟩ = (#[.int .i64 k, .int .i64 n, .string s, .slice xo l.length xcap] : Array Value)[o]?)) := fun wc hb => HQ.out wc (HB3.out.trans (hb.mono HB3.out.size))
  go_wp2_with fail
  have belW1 : Hid (∀ wc, Below w3.heap.size w3 wc → Below w.heap.size w wc) := fun wc hb => HBX1.out.trans (hb.mono HBX1.out.size)
  have HQS1 : Hid (∀ wc, Below w3.heap.size w3 wc → wc.cell? ⟨w.heap.size, 0, none⟩ = some (.slice ao N cap) ∧ wc.cell? ⟨w.heap.size + 1, 0, none⟩ = some (.int .i64 k) ∧ wc.cell? ⟨w.heap.size + 1, 1, none⟩ = some (.int .i64 n) ∧ wc.cell? ⟨w.heap.size + 1, 2, none⟩ = some (.string s) ∧ wc.cell? ⟨w.heap.size + 1, 3, none⟩ = some (.slice xo l.length xcap)) := fun wc hb => by
    obtain ⟨h1, h2⟩ := HQX1.out wc hb
    exact ⟨h1, h2 0, h2 1, h2 2, h2 3⟩
  have HK01 : Hid (Below w3.heap.size w3 w3.drew) := (Below.refl _ _).drew
  have HK0z1 : Hid (Below w3.heap.size w3 (w3.alloc (.cells #[.slice none 0 0] 32)).drew) := ((Below.refl _ _).alloc (Nat.le_refl _) _).drew
  have S01 := HQS1.out w3.drew HK01.out
  go_cut [8, 9, 10, 11] from 41 to 52 (fun v8 v9 v10 v11 wx => ∃ (b8 g8 c8 a8 ca8 : Nat) (Y : List Int) (B : List ByteArray) (x : Int) (ok : Bool), v8 = .pointer (some ⟨b8, 0, none⟩) ∧ v9 = .slice (some ⟨a8, 0, none⟩) B.length ca8 ∧ v10 = .int .i64 x ∧ v11 = .bool ok ∧ OutR (rowF N f) L R Y B x ok ∧ Below w3.heap.size w3 wx ∧ GX wx b8 g8 c8 a8 Y.length B.length (lfI Y) (lf B))
  case first =>
    go_region_held3 (fun wc => wc.cell? ⟨w.heap.size, 0, none⟩ = some (.slice ao N cap) ∧ wc.cell? ⟨w.heap.size + 1, 0, none⟩ = some (.int .i64 k) ∧ wc.cell? ⟨w.heap.size + 1, 1, none⟩ = some (.int .i64 n) ∧ wc.cell? ⟨w.heap.size + 1, 2, none⟩ = some (.string s) ∧ wc.cell? ⟨w.heap.size + 1, 3, none⟩ = some (.slice xo l.length xcap)) (first | (refine HQS1.out _ ?_; first | with_reducible exact HKD1.out | with_reducible exact HKC1.out | with_reducible exact HKB1.out | with_reducible exact HKA1.out | with_reducible exact HK01.out | with_reducible exact HK0z1.out | with_reducible exact belAl HKD1.out _ | with_reducible exact belAl HKC1.out _ | with_reducible exact belAl HKB1.out _ | with_reducible exact belAl HKA1.out _ | with_reducible exact belAl HK01.out _ | with_reducible exact HSET1.out _; done) | go_keep) (first
      | (go_at_call 10; (refine (HTH.out _ ?_).mono ?_); (focus (first | with_reducible exact belW1.out _ HK01.out | with_reducible exact belW1.out _ (belAl HK01.out _) | with_reducible exact belW1.out _ HK0z1.out)); rintro e wA1 ⟨gA1, rfl, hA1, hA2, hA3, hA4⟩; have HKA1 : Hid (Below w3.heap.size w3 wA1) := hidP (by first | with_reducible exact belJn HK01.out hA4 | with_reducible exact belJn (belAl HK01.out _) hA4 | with_reducible exact belJn HK0z1.out hA4); have HA1 : Hid (Ints wA1 gA1 0 N f ∧ gA1 < wA1.heap.size) := ⟨hA2, hA3⟩; (first | (have HZA1 : Hid (Zc w3.heap.size wA1 w3.heap.size) := Zc.below (Zc.newd w3 (Nat.le_refl _)) hA4) | skip); clear hA1 hA2 hA3 hA4)
      | (go_at_call 11; (refine (HTS.out _ ?_).mono ?_); (focus (first | with_reducible exact belW1.out _ HKA1.out | with_reducible exact belW1.out _ (belAl HKA1.out _) | with_reducible exact belW1.out _ HK0z1.out)); rintro e wB1 ⟨aB1, rfl, hA1, hA2, hA3, hA4⟩; have HKB1 : Hid (Below w3.heap.size w3 wB1) := hidP (by first | with_reducible exact belJn HKA1.out hA4 | with_reducible exact belJn (belAl HKA1.out _) hA4 | with_reducible exact belJn HK0z1.out hA4); have HBB1 : Hid (Ints wB1 gA1 0 N f ∧ gA1 < wB1.heap.size ∧ Sts wB1 aB1 L.length (lf L) ∧ aB1 < wB1.heap.size) := ⟨intsN HA1.out.1 hA4 HA1.out.2 (by first | exact .inl rfl | exact .inr ⟨_, rfl⟩), ltN hA4 HA1.out.2 (by first | exact .inl rfl | exact .inr ⟨_, rfl⟩), hA2, hA3⟩; (first | (have HZB1 : Hid (Zc w3.heap.size wB1 wA1.heap.size) := Zc.below (Zc.new wA1 HKA1.out.size) hA4) | (have HZB1 := hidP (Zc.below HZA1.out hA4)) | skip); clear hA1 hA2 hA3 hA4)
      | (go_at_call 12; (refine (HTO.out _ ?_).mono ?_); (focus (first | with_reducible exact belW1.out _ HKB1.out | with_reducible exact belW1.out _ (belAl HKB1.out _) | with_reducible exact belW1.out _ HK0z1.out)); rintro e wC1 ⟨ya1, yc1, bsC1, rfl, hA4, hA5, _, _, _, hA6, _⟩; have HKC1 : Hid (Below w3.heap.size w3 wC1) := hidP (by first | with_reducible exact belJn HKB1.out hA4 | with_reducible exact belJn (belAl HKB1.out _) hA4 | with_reducible exact belJn HK0z1.out hA4); have HCC1 : Hid (Ints wC1 gA1 0 N f ∧ gA1 < wC1.heap.size ∧ Sts wC1 aB1 L.length (lf L) ∧ aB1 < wC1.heap.size ∧ OsV wC1 bsC1 t (.agg #[.int .i64 k, .int .i64 n, .string s, .slice ya1 l.length yc1]) ∧ bsC1.Nodup) := ⟨intsN HBB1.out.1 hA4 HBB1.out.2.1 (by first | exact .inl rfl | exact .inr ⟨_, rfl⟩), ltN hA4 HBB1.out.2.1 (by first | exact .inl rfl | exact .inr ⟨_, rfl⟩), stsN HBB1.out.2.2.1 hA4 HBB1.out.2.2.2 (by first | exact .inl rfl | exact .inr ⟨_, rfl⟩), ltN hA4 HBB1.out.2.2.2 (by first | exact .inl rfl | exact .inr ⟨_, rfl⟩), hA5, hA6⟩; (first | (have HZC1 : Hid (Zc w3.heap.size wC1 wB1.heap.size) := Zc.below (Zc.new wB1 HKB1.out.size) hA4) | (have HZC1 := hidP (Zc.below HZB1.out hA4)) | skip); clear hA4 hA5 hA6)
      | (go_at_call 9; (first | (with_reducible refine (HSP.out wC1 gA1 aB1 bsC1 _ HCC1.out.1 HCC1.out.2.1 HCC1.out.2.2.1 HCC1.out.2.2.2.1 HCC1.out.2.2.2.2.1 HCC1.out.2.2.2.2.2).mono ?_) | (have HCX := al5 (.cells #[.slice none 0 0] 32) HCC1.out.1 HCC1.out.2.1 HCC1.out.2.2.1 HCC1.out.2.2.2.1 HCC1.out.2.2.2.2.1; with_reducible refine (HSP.out _ gA1 aB1 bsC1 _ HCX.1 HCX.2.1 HCX.2.2.1 HCX.2.2.2.1 HCX.2.2.2.2 HCC1.out.2.2.2.2.2).mono ?_)); rintro e wD1 ⟨g8, c8, a8, ca8, Y, B, x, ok, rfl, hor, hi8, hs8, hg8, ha8, hA4⟩; have HKD1 : Hid (Below w3.heap.size w3 wD1) := hidP (by first | with_reducible exact belJn HKC1.out hA4 | with_reducible exact belJn (belAl HKC1.out _) hA4 | with_reducible exact belJn HK0z1.out hA4); have HDD1 : Hid (OutR (rowF N f) L R Y B x ok ∧ Ints wD1 g8 0 Y.length (lfI Y) ∧ Sts wD1 a8 B.length (lf B) ∧ g8 < wD1.heap.size ∧ a8 < wD1.heap.size) := ⟨hor, hi8, hs8, hg8.2, ha8.2⟩; (first | (have HZD1 := hidP (zlast (Zc.new wC1 HKC1.out.size) hA4 hg8.1 ha8.1); obtain ⟨⟨zc, zf, zl, zg⟩, _⟩ := HZD1.out; have HSET1 := hidP (zset HZD1.out.1 HKD1.out)) | (have HZD1 := hidP (zlast HZC1.out hA4 hg8.1 ha8.1); obtain ⟨⟨zc, zf, zl, zg⟩, _⟩ := HZD1.out; have HSET1 := hidP (zset HZD1.out.1 HKD1.out)) | skip); clear hor hi8 hs8 hg8 ha8 hA4))
    all_goals
      go_wp2_with fail
      go_meet
      case rel =>
        first
          | exact ⟨_, g8, c8, a8, ca8, Y, B, x, ok, rfl, rfl, rfl, rfl, HDD1.out.1, belAl HKD1.out _, gx_new HDD1.out.2.1 HDD1.out.2.2.1 HDD1.out.2.2.2.1 HDD1.out.2.2.2.2 _⟩
          | exact ⟨_, g8, c8, a8, ca8, Y, B, x, ok, rfl, rfl, rfl, rfl, HDD1.out.1, HSET1.out _, gx_set HZD1.out.1 HDD1.out.2.1 HDD1.out.2.2.1 ⟨HZD1.out.2.1, HDD1.out.2.2.2.1⟩ ⟨HZD1.out.2.2, HDD1.out.2.2.2.2⟩⟩
  case rest =>
    obtain ⟨b8, g8, c8, a8, ca8, Y, B, x, ok, rfl, rfl, rfl, rfl, hor, hbe, hgx⟩ := hcut
    obtain ⟨WA, hWA⟩ : ∃ WA, WA = wc := ⟨_, rfl⟩
    obtain rfl := hWA
    have HOR : Hid (OutR (rowF N f) L R Y B x ok) := hor
    have HYB : Hid (Y.length ≤ 1048576 ∧ B.length ≤ 1048577) := HOF.out _ _ _ _ hor
    obtain ⟨M, hM⟩ : ∃ M, M = WA.heap.size := ⟨_, rfl⟩
    have HLP : Hid (LP w WA (.slice ao N cap) #[.int .i64 k, .int .i64 n, .string s, .slice xo l.length xcap] b8 g8 c8 a8 Y B M) := by
      have h1 := HQX1.out WA hbe
      have h2 := hbe.size
      have h3 := HB3.out.size
      have h4 := HB0.out.2
      exact ⟨HBX1.out.trans (hbe.mono HBX1.out.size), h1.1, h1.2, hgx.q, hgx.r, hgx.s, by omega, by rw [hM]; exact hgx.lb, by rw [hM]; exact hgx.lg, by rw [hM]; exact hgx.la, by omega⟩
    have HMM : Hid (M = WA.heap.size) := hM
    have HPI : Hid (∀ wc g a bs va, Ints wc g 0 N f → g < wc.heap.size → Sts wc a L.length (lf L) → a < wc.heap.size → OsV wc bs t va → bs.Nodup → Calls Try.prog 13 #[.agg #[.slice (some ⟨g, 0, none⟩) N N], .slice (some ⟨a, 0, none⟩) L.length L.length, va] wc fun e w' => ∃ g' c' a' ca, e = .returned (.tuple #[.agg #[.slice (some ⟨g', 0, none⟩) Y.length c'], .slice (some ⟨a', 0, none⟩) B.length ca, .int .i64 x, .bool ok]) ∧ Ints w' g' 0 Y.length (lfI Y) ∧ Sts w' a' B.length (lf B) ∧ (wc.heap.size ≤ g' ∧ g' < w'.heap.size) ∧ (wc.heap.size ≤ a' ∧ a' < w'.heap.size) ∧ g' ≠ a' ∧ Below wc.heap.size wc w') := fun wc g a bs va h1 h2 h3 h4 h5 h6 => by
      refine (HIP.out wc g a bs va h1 h2 h3 h4 h5 h6).mono ?_
      rintro e w' ⟨g', c', a', ca, Y', B', x', ok', rfl, ho, r1, r2, r3, r4, r5, r6⟩
      obtain ⟨rfl, rfl, rfl, rfl⟩ := OutR.one HOR.out ho
      exact ⟨g', c', a', ca, rfl, r1, r2, r3, r4, r5, r6⟩
    have HEH : Hid (∀ wc ga ca, LP w wc (.slice ao N cap) #[.int .i64 k, .int .i64 n, .string s, .slice xo l.length xcap] b8 g8 c8 a8 Y B M → Ints wc ga 0 Y.length (lfI Y) → Calls Try.prog 14 #[.agg #[.slice (some ⟨ga, 0, none⟩) Y.length ca], .agg #[.slice (some ⟨g8, 0, none⟩) Y.length c8]] wc fun e w' => e = .returned (.bool true) ∧ Below wc.heap.size wc w') := fun wc ga ca h1 h2 => eqHeap_same _ _ Y.length ca c8 _ _ wc h2.rdI h1.r8.rdI (fun _ _ => rfl) HYB.out.1
    have HES : Hid (∀ wc aa ca, LP w wc (.slice ao N cap) #[.int .i64 k, .int .i64 n, .string s, .slice xo l.length xcap] b8 g8 c8 a8 Y B M → Sts wc aa B.length (lf B) → Calls Try.prog 15 #[.slice (some ⟨aa, 0, none⟩) B.length ca, .slice (some ⟨a8, 0, none⟩) B.length ca8] wc fun e w' => e = .returned (.bool true) ∧ Below wc.heap.size wc w') := fun wc aa ca h1 h2 => eqStr_same _ _ ca ca8 B wc h2.txt.rd h1.s8.txt.rd HYB.out.2
    have hxx : (x != x) = false := by simp
    have hok : (ok != ok) = false := by simp
    have q3 := HLP.out.q3
    clear hor hbe hgx hM
    go_wp2_with (go_at_call 10; fail)
    refine (HTH.out WA HLP.out.bel).mono ?_
    rintro e w5 ⟨g12, rfl, h1, h2, h3, h4⟩
    obtain ⟨b12, hb12⟩ : ∃ b12, b12 = w5.heap.size := ⟨_, rfl⟩
    obtain ⟨W5, hW5⟩ : ∃ W5, W5 = w5.alloc (.cells #[.slice (some ⟨g12, 0, none⟩) N N] 32) := ⟨_, rfl⟩
    have hbW5 : Below WA.heap.size WA W5 := by rw [hW5]; exact h4.alloc h4.size _
    have HLP5 : Hid (LP w W5 (.slice ao N cap) #[.int .i64 k, .int .i64 n, .string s, .slice xo l.length xcap] b8 g8 c8 a8 Y B M) := HLP.out.call hbW5
    have HX5 : Hid (Ints W5 g12 0 N f ∧ W5.cell? ⟨b12, 0, none⟩ = some (.slice (some ⟨g12, 0, none⟩) N N) ∧ M ≤ g12 ∧ g12 < b12 ∧ b12 < W5.heap.size) := by
      have := HMM.out
      rw [hW5, hb12]
      exact ⟨h2.heap (Below.heap_alloc _ _ _ h3), by rw [World.cell?_alloc_at (hn := rfl)]; rfl, by omega, h3, by rw [World.size_alloc]; omega⟩
    clear h1 h2 h3 h4 hbW5 q3
    go_wp2_with (go_at_call 11; fail)
    rw [← hW5, ← hb12]
    refine (HTS.out W5 HLP5.out.bel).mono ?_
    rintro e w6 ⟨a13, rfl, h1, h2, h3, h4⟩
    have HLP6 : Hid (LP w w6 (.slice ao N cap) #[.int .i64 k, .int .i64 n, .string s, .slice xo l.length xcap] b8 g8 c8 a8 Y B M) := HLP5.out.call h4
    have HXG6 : Hid (GX w6 b12 g12 N a13 N L.length f (lf L)) := by
      obtain ⟨e1, e2, e3, e4, e5⟩ := HX5.out
      exact ⟨by rw [h4.cell (p := ⟨b12, 0, none⟩) e5]; exact e2, e1.heap (h4.block g12 (by omega)), h2, Nat.lt_of_lt_of_le e5 h4.size, by have := h4.size; omega, h3⟩
    have HO6 : Hid (M ≤ g12 ∧ g12 < b12 ∧ b12 < a13 ∧ a13 < w6.heap.size) := by obtain ⟨e1, e2, e3, e4, e5⟩ := HX5.out; exact ⟨e3, e4, by omega, h3⟩
    have q5 := HLP6.out.q5
    clear h1 h2 h3 h4 hW5 hb12 HX5
    go_wp2_with (go_at_call 12; fail)
    refine (HTO.out w6 HLP6.out.bel).mono ?_
    rintro e w7 ⟨xa, xc, bsx, rfl, h4, hv7, ho7, hx1, hx2, hnx, hlx⟩
    obtain ⟨b14, hb14⟩ : ∃ b14, b14 = w7.heap.size := ⟨_, rfl⟩
    obtain ⟨W7, hW7⟩ : ∃ W7, W7 = w7.alloc (.cells #[.int .i64 k, .int .i64 n, .string s, .slice xa l.length xc] 39) := ⟨_, rfl⟩
    have hb77 : Below w7.heap.size w7 W7 := by rw [hW7]; exact (Below.refl _ _).alloc (Nat.le_refl _) _
    have hbW7 : Below w6.heap.size w6 W7 := h4.trans (hb77.mono h4.size)
    have HLP7 : Hid (LP w W7 (.slice ao N cap) #[.int .i64 k, .int .i64 n, .string s, .slice xo l.length xcap] b8 g8 c8 a8 Y B M) := HLP6.out.call hbW7
    have HXG7 : Hid (GX W7 b12 g12 N a13 N L.length f (lf L)) := HXG6.out.call hbW7
    have HTX7 : Hid (TX W7 b14 #[.int .i64 k, .int .i64 n, .string s, .slice xa l.length xc] l bsx xa) := ⟨fun o => by rw [hW7, hb14, World.cell?_alloc_at (hn := rfl)], OsL.below hb77 ho7, by rw [hW7, hb14, World.size_alloc]; omega⟩
    have HV7 : Hid (OsV W7 bsx t (.agg #[.int .i64 k, .int .i64 n, .string s, .slice xa l.length xc])) := OsV.below hb77 hv7
    have HXC : Hid (l.length ≤ xc ∧ xc ≤ maxLen ∧ bsx.Nodup) := ⟨hx1, hx2, hnx⟩
    have HO7 : Hid ((∀ b ∈ bsx, a13 < b ∧ b < b14) ∧ a13 < b14 ∧ b14 < W7.heap.size) := ⟨fun b hb => ⟨by have := hlx b hb; have := HO6.out.2.2.2; omega, by rw [hb14]; exact OsL.lt _ _ _ ho7 b hb⟩, by have := HO6.out.2.2.2; have := h4.size; omega, by rw [hW7, hb14, World.size_alloc]; omega⟩
    have q12 := (HXG6.out.call h4).q
    have hlt12 : b12 < w7.heap.size := (HXG6.out.call h4).lb
    have hne12 : ¬ b12 = w7.heap.size := by omega
    clear h4 hv7 ho7 hx1 hx2 hnx hlx hb77 hbW7 q5
    go_wp2_with (go_at_call 13; fail)
    rw [← hW7, ← hb14]
    refine (HPI.out W7 g12 a13 bsx _ HXG7.out.r HXG7.out.lg HXG7.out.s HXG7.out.la HV7.out HXC.out.2.2).mono ?_
    rintro e w8 ⟨g15, c15, a15, ca15, rfl, r1, r2, r3, r4, r5, hb8⟩
    obtain ⟨b15, hb15⟩ : ∃ b15, b15 = w8.heap.size := ⟨_, rfl⟩
    obtain ⟨W8, hW8⟩ : ∃ W8, W8 = w8.alloc (.cells #[.slice (some ⟨g15, 0, none⟩) Y.length c15] 32) := ⟨_, rfl⟩
    have hb88 : Below w8.heap.size w8 W8 := by rw [hW8]; exact (Below.refl _ _).alloc (Nat.le_refl _) _
    have hbW8 : Below W7.heap.size W7 W8 := hb8.trans (hb88.mono hb8.size)
    have HLP8 : Hid (LP w W8 (.slice ao N cap) #[.int .i64 k, .int .i64 n, .string s, .slice xo l.length xcap] b8 g8 c8 a8 Y B M) := HLP7.out.call hbW8
    have HXG8 : Hid (GX W8 b12 g12 N a13 N L.length f (lf L)) := HXG7.out.call hbW8
    have HTX8 : Hid (TX W8 b14 #[.int .i64 k, .int .i64 n, .string s, .slice xa l.length xc] l bsx xa) := HTX7.out.call hbW8
    have HV8 : Hid (OsV W8 bsx t (.agg #[.int .i64 k, .int .i64 n, .string s, .slice xa l.length xc])) := OsV.below hbW8 HV7.out
    have HPG8 : Hid (GX W8 b15 g15 c15 a15 Y.length B.length (lfI Y) (lf B)) := by rw [hW8, hb15]; exact gx_new r1 r2 r3.2 r4.2 _
    have HO8 : Hid (b14 < g15 ∧ b14 < a15 ∧ g15 < b15 ∧ a15 < b15 ∧ g15 ≠ a15) := ⟨by have := HO7.out.2.2; omega, by have := HO7.out.2.2; omega, by omega, by omega, r5⟩
    have q8 := HLP7.out.q8
    have q8' := (HLP7.out.call hb8).q8
    have hlt8 : b8 < w8.heap.size := by have := (HLP7.out.call hb8).l2; have := (HLP7.out.call hb8).l5; omega
    have hne8 : ¬ b8 = w8.heap.size := by omega
    clear r1 r2 r3 r4 r5 hb8 hb88 hbW8 hW7 hb14 q12 hlt12 hne12 q8
    go_wp2_with (go_at_call 14; fail)
    rw [← hW8, ← hb15]
    refine (HEH.out W8 g15 c15 HLP8.out HPG8.out.r).mono ?_
    rintro e w9 ⟨rfl, h4⟩
    have HLP9 : Hid (LP w w9 (.slice ao N cap) #[.int .i64 k, .int .i64 n, .string s, .slice xo l.length xcap] b8 g8 c8 a8 Y B M) := HLP8.out.call h4
    have HXG9 : Hid (GX w9 b12 g12 N a13 N L.length f (lf L)) := HXG8.out.call h4
    have HTX9 : Hid (TX w9 b14 #[.int .i64 k, .int .i64 n, .string s, .slice xa l.length xc] l bsx xa) := HTX8.out.call h4
    have HV9 : Hid (OsV w9 bsx t (.agg #[.int .i64 k, .int .i64 n, .string s, .slice xa l.length xc])) := OsV.below h4 HV8.out
    have HPG9 : Hid (GX w9 b15 g15 c15 a15 Y.length B.length (lfI Y) (lf B)) := HPG8.out.call h4
    clear h4 hW8 hb15 q8' hlt8 hne8
    go_wp2_with (go_at_call 15; fail)
    refine (HES.out w9 a15 ca15 HLP9.out HPG9.out.s).mono ?_
    rintro e w10 ⟨rfl, h4⟩
    have HLPa : Hid (LP w w10 (.slice ao N cap) #[.int .i64 k, .int .i64 n, .string s, .slice xo l.length xcap] b8 g8 c8 a8 Y B M) := HLP9.out.call h4
    have HXGa : Hid (GX w10 b12 g12 N a13 N L.length f (lf L)) := HXG9.out.call h4
    have HTXa : Hid (TX w10 b14 #[.int .i64 k, .int .i64 n, .string s, .slice xa l.length xc] l bsx xa) := HTX9.out.call h4
    have HVa : Hid (OsV w10 bsx t (.agg #[.int .i64 k, .int .i64 n, .string s, .slice xa l.length xc])) := OsV.below h4 HV9.out
    have HPGa : Hid (GX w10 b15 g15 c15 a15 Y.length B.length (lfI Y) (lf B)) := HPG9.out.call h4
    clear h4
    have q12 := HXGa.out.q
    have q3 := HLPa.out.q3
    have HKa : Hid (Below w10.heap.size w10 w10.drew) := (Below.refl _ _).drew
    have HQ18 : Hid (∀ wc, Below w10.heap.size w10 wc → wc.cell? ⟨b12, 0, none⟩ = some (.slice (some ⟨g12, 0, none⟩) N N) ∧ wc.cell? ⟨w.heap.size, 0, none⟩ = some (.slice ao N cap)) := fun wc hb => ⟨(HXGa.out.call hb).q, (HLPa.out.call hb).q3⟩
    have S18 := HQ18.out w10.drew HKa.out
    go_wp2_with fail
    go_region_held3 (fun wc => wc.cell? ⟨b12, 0, none⟩ = some (.slice (some ⟨g12, 0, none⟩) N N) ∧ wc.cell? ⟨w.heap.size, 0, none⟩ = some (.slice ao N cap)) (first | (refine HQ18.out _ ?_; first | with_reducible exact HKa.out | with_reducible exact HE1.out.1 | with_reducible exact HE2.out; done) | go_keep) (first
      | (go_at_call 10; (with_reducible refine (HTH.out w10.drew HLPa.out.bel.drew).mono ?_); rintro e wE ⟨gE, rfl, h1, h2, h3, h4⟩; have HE1 : Hid (Below w10.heap.size w10 wE ∧ Ints wE gE 0 N f) := ⟨belJn HKa.out h4, h2⟩; clear h1 h2 h3 h4)
      | (go_at_call 14; (with_reducible refine (eqHeap_same _ _ N N N f f wE (HXGa.out.call HE1.out.1).r.rdI HE1.out.2.rdI (fun _ _ => rfl) HZN.out.1).mono ?_); rintro e wF ⟨rfl, h4⟩; have HE2 : Hid (Below w10.heap.size w10 wF) := belJn HE1.out.1 h4; clear h4))
    all_goals
      have h4 := HE2.out
      have HLPb : Hid (LP w wF (.slice ao N cap) #[.int .i64 k, .int .i64 n, .string s, .slice xo l.length xcap] b8 g8 c8 a8 Y B M) := HLPa.out.call h4
      have HXGb : Hid (GX wF b12 g12 N a13 N L.length f (lf L)) := HXGa.out.call h4
      have HTXb : Hid (TX wF b14 #[.int .i64 k, .int .i64 n, .string s, .slice xa l.length xc] l bsx xa) := HTXa.out.call h4
      have HVb : Hid (OsV wF bsx t (.agg #[.int .i64 k, .int .i64 n, .string s, .slice xa l.length xc])) := OsV.below h4 HVa.out
      have HPGb : Hid (GX wF b15 g15 c15 a15 Y.length B.length (lfI Y) (lf B)) := HPGa.out.call h4
      clear h4 q12 q3 S18
      go_wp2_with (go_at_call 11; fail)
      refine (HTS.out wF HLPb.out.bel).mono ?_
      rintro e w11 ⟨aE, rfl, h1, h2, h3, h4⟩
      have HE3 : Hid (Sts w11 aE L.length (lf L) ∧ Below wF.heap.size wF w11) := ⟨h2, h4⟩
      clear h1 h2 h3 h4
      go_wp2_with (go_at_call 15; fail)
      refine (eqStr_same _ _ L.length L.length L w11 (HXGb.out.call HE3.out.2).s.txt.rd HE3.out.1.txt.rd (by have := HZT.out.2; omega)).mono ?_
      rintro e w12 ⟨rfl, h5⟩
      have h4 := belJn HE3.out.2 h5
      have HLPc : Hid (LP w w12 (.slice ao N cap) #[.int .i64 k, .int .i64 n, .string s, .slice xo l.length xcap] b8 g8 c8 a8 Y B M) := HLPb.out.call h4
      have HXGc : Hid (GX w12 b12 g12 N a13 N L.length f (lf L)) := HXGb.out.call h4
      have HTXc : Hid (TX w12 b14 #[.int .i64 k, .int .i64 n, .string s, .slice xa l.length xc] l bsx xa) := HTXb.out.call h4
      have HVc : Hid (OsV w12 bsx t (.agg #[.int .i64 k, .int .i64 n, .string s, .slice xa l.length xc])) := OsV.below h4 HVb.out
      have HPGc : Hid (GX w12 b15 g15 c15 a15 Y.length B.length (lfI Y) (lf B)) := HPGb.out.call h4
      have HKc : Hid (Below w12.heap.size w12 w12.drew) := (Below.refl _ _).drew
      have HQ22 : Hid (∀ wc, Below w12.heap.size w12 wc → wc.cell? ⟨b14, 0, none⟩ = some (.int .i64 k) ∧ wc.cell? ⟨b14, 1, none⟩ = some (.int .i64 n) ∧ wc.cell? ⟨b14, 2, none⟩ = some (.string s) ∧ wc.cell? ⟨b14, 3, none⟩ = some (.slice xa l.length xc) ∧ wc.cell? ⟨w.heap.size + 1, 0, none⟩ = some (.int .i64 k) ∧ wc.cell? ⟨w.heap.size + 1, 1, none⟩ = some (.int .i64 n) ∧ wc.cell? ⟨w.heap.size + 1, 2, none⟩ = some (.string s) ∧ wc.cell? ⟨w.heap.size + 1, 3, none⟩ = some (.slice xo l.length xcap)) := fun wc hb => by
        have t1 := (HTXc.out.call hb).q
        have t2 := (HLPc.out.call hb).q5
        exact ⟨t1 0, t1 1, t1 2, t1 3, t2 0, t2 1, t2 2, t2 3⟩
      have S22 := HQ22.out w12.drew HKc.out
      have HEQT : Hid (∀ wc va vb, RepV 0 wc t va → RepV 0 wc t vb → Calls Try.prog 16 #[va, vb] wc fun e w' => e = .returned (.bool true) ∧ Below wc.heap.size wc w') := fun wc va vb h1 h2 => eqT_all t 0 wc va vb h1 h2
      clear h4 h5
      go_wp2_with fail
      go_region_held3 (fun wc => wc.cell? ⟨b14, 0, none⟩ = some (.int .i64 k) ∧ wc.cell? ⟨b14, 1, none⟩ = some (.int .i64 n) ∧ wc.cell? ⟨b14, 2, none⟩ = some (.string s) ∧ wc.cell? ⟨b14, 3, none⟩ = some (.slice xa l.length xc) ∧ wc.cell? ⟨w.heap.size + 1, 0, none⟩ = some (.int .i64 k) ∧ wc.cell? ⟨w.heap.size + 1, 1, none⟩ = some (.int .i64 n) ∧ wc.cell? ⟨w.heap.size + 1, 2, none⟩ = some (.string s) ∧ wc.cell? ⟨w.heap.size + 1, 3, none⟩ = some (.slice xo l.length xcap)) (first | (refine HQ22.out _ ?_; first | with_reducible exact HKc.out | with_reducible exact HE4.out.1 | with_reducible exact HE5.out; done) | go_keep) (first
        | (go_at_call 12; (with_reducible refine (HTO.out w12.drew HLPc.out.bel.drew).mono ?_); rintro e wG ⟨ya, yc, bsy, rfl, h4, h5, _, _, _, _, _⟩; have HE4 : Hid (Below w12.heap.size w12 wG ∧ OsV wG bsy t (.agg #[.int .i64 k, .int .i64 n, .string s, .slice ya l.length yc])) := ⟨belJn HKc.out h4, h5⟩; clear h4 h5)
        | (go_at_call 16; (with_reducible refine (HEQT.out wG _ _ (OsV.below HE4.out.1 HVc.out).rep HE4.out.2.rep).mono ?_); rintro e wH ⟨rfl, h6⟩; have HE5 : Hid (Below w12.heap.size w12 wH) := belJn HE4.out.1 h6; clear h6))
      all_goals
        have h4 := HE5.out
        have HLPd : Hid (LP w wH (.slice ao N cap) #[.int .i64 k, .int .i64 n, .string s, .slice xo l.length xcap] b8 g8 c8 a8 Y B M) := HLPc.out.call h4
        have HXGd : Hid (GX wH b12 g12 N a13 N L.length f (lf L)) := HXGc.out.call h4
        have HTXd : Hid (TX wH b14 #[.int .i64 k, .int .i64 n, .string s, .slice xa l.length xc] l bsx xa) := HTXc.out.call h4
        have HPGd : Hid (GX wH b15 g15 c15 a15 Y.length B.length (lfI Y) (lf B)) := HPGc.out.call h4
        clear h4 S22
        have q12 := HXGd.out.q
        obtain ⟨K1, hK1⟩ : ∃ K1 : Nat, K1 = 1 + N := ⟨_, rfl⟩
        obtain ⟨K2, hK2⟩ : ∃ K2 : Nat, K2 = K1 + L.length := ⟨_, rfl⟩
        obtain ⟨K3, hK3⟩ : ∃ K3 : Nat, K3 = K2 + cL l := ⟨_, rfl⟩
        have HKK : Hid (K1 = 1 + N ∧ K2 = K1 + L.length ∧ K3 = K2 + cL l) := ⟨hK1, hK2, hK3⟩
        have HM1 : Hid (Calls Try.prog 17 #[.agg #[.slice (some ⟨g12, 0, none⟩) N N], .int .i64 1] wH fun e w' => e = .returned (.int .i64 (K1 : Int)) ∧ Turn g12 wH w') := (markHeap_any g12 0 N N f wH HXGd.out.r 1 (by decide) HZN.out.1 HXGd.out.lg).mono fun e w' ⟨h1, h2, _⟩ => ⟨by rw [h1, hK1]; exact ret_int (by omega), h2⟩
        clear hK1 hK2 hK3
        go_wp2_with (go_at_call 17; fail)
        refine HM1.out.mono ?_
        rintro e w13 ⟨rfl, ht⟩
        have HLPe : Hid (LP w w13 (.slice ao N cap) #[.int .i64 k, .int .i64 n, .string s, .slice xo l.length xcap] b8 g8 c8 a8 Y B M) := HLPd.out.next (turnM ht HLPd.out.l5 HO6.out.1)
        have HS13 : Hid (Sts w13 a13 L.length (lf L) ∧ a13 < w13.heap.size) := ⟨HXGd.out.s.turn9 ht HXGd.out.la (by have := HO6.out; omega), Nat.lt_of_lt_of_le HXGd.out.la ht.size⟩
        have HTXe : Hid (TX w13 b14 #[.int .i64 k, .int .i64 n, .string s, .slice xa l.length xc] l bsx xa) := HTXd.out.turn ht (by have := HO6.out; have := HO7.out.2.1; omega) (fun h => by have := (HO7.out.1 _ h).1; have := HO6.out; omega)
        have HPGe : Hid (GX w13 b15 g15 c15 a15 Y.length B.length (lfI Y) (lf B)) := HPGd.out.turn ht (by have := HO6.out; have := HO7.out.2; have := HO8.out; omega) (by have := HO6.out; have := HO7.out.2; have := HO8.out; omega) (by have := HO6.out; have := HO7.out.2; have := HO8.out; omega)
        clear ht q12
        go_wp2_with (go_at_call 18; fail)
        refine (markStr2_any a13 L.length L.length (lf L) w13 HS13.out.1 HS13.out.2 (by have := HZT.out.2; omega) K1 (by have := HKK.out.1; omega) (by have := HKK.out.1; have := HZN.out.1; omega)).mono ?_
        rintro e w14 ⟨rfl, ht, _⟩
        have e2 : (K1 : Int) + (L.length : Int) = (K2 : Int) := by have := HKK.out.2.1; omega
        rw [e2]
        clear e2
        have HLPf : Hid (LP w w14 (.slice ao N cap) #[.int .i64 k, .int .i64 n, .string s, .slice xo l.length xcap] b8 g8 c8 a8 Y B M) := HLPe.out.next (turnM ht HLPe.out.l5 (by have := HO6.out; omega))
        have HTXf : Hid (TX w14 b14 #[.int .i64 k, .int .i64 n, .string s, .slice xa l.length xc] l bsx xa) := HTXe.out.turn ht (by have := HO7.out.2.1; omega) (fun h => by have := (HO7.out.1 _ h).1; omega)
        have HPGf : Hid (GX w14 b15 g15 c15 a15 Y.length B.length (lfI Y) (lf B)) := HPGe.out.turn ht (by have := HO7.out.2; have := HO8.out; omega) (by have := HO7.out.2; have := HO8.out; omega) (by have := HO7.out.2; have := HO8.out; omega)
        have q14 := HTXf.out.q
        clear ht
        go_wp2_with (go_at_call 19; fail)
        refine (markTermK_any k n s l xa xc bsx w14 HTXf.out.os HXC.out.2.2 HXC.out.1 HXC.out.2.1 K2 (by have := HKK.out; omega) (by have := HKK.out; have := HZT.out.2; have := HNT.out.2; omega)).mono ?_
        rintro e w15 ⟨rfl, _, ho⟩
        rw [← HKK.out.2.2]
        have HLPg : Hid (LP w w15 (.slice ao N cap) #[.int .i64 k, .int .i64 n, .string s, .slice xo l.length xcap] b8 g8 c8 a8 Y B M) := HLPf.out.next (outM ho HLPf.out.l5 (fun b hb => by have := (HO7.out.1 b hb).1; have := HO6.out; omega))
        have HPGg : Hid (GX w15 b15 g15 c15 a15 Y.length B.length (lfI Y) (lf B)) := HPGf.out.out ho (fun h => by have := (HO7.out.1 _ h).2; have := HO8.out; omega) (fun h => by have := (HO7.out.1 _ h).2; have := HO8.out; omega) (fun h => by have := (HO7.out.1 _ h).2; have := HO8.out; omega)
        clear ho q14
        have hK30 : ¬ (K3 : Int) < 0 := by omega
        have q15 := HPGg.out.q
        have q8 := HLPg.out.q8
        go_wp2_with (go_at_call 14; fail)
        refine (HEH.out w15 g15 c15 HLPg.out HPGg.out.r).mono ?_
        rintro e w16 ⟨rfl, h4⟩
        have HLPh : Hid (LP w w16 (.slice ao N cap) #[.int .i64 k, .int .i64 n, .string s, .slice xo l.length xcap] b8 g8 c8 a8 Y B M) := HLPg.out.call h4
        have HPGh : Hid (GX w16 b15 g15 c15 a15 Y.length B.length (lfI Y) (lf B)) := HPGg.out.call h4
        clear h4 q15 q8
        go_wp2_with (go_at_call 15; fail)
        refine (HES.out w16 a15 ca15 HLPh.out HPGh.out.s).mono ?_
        rintro e w17 ⟨rfl, h4⟩
        have HLPi : Hid (LP w w17 (.slice ao N cap) #[.int .i64 k, .int .i64 n, .string s, .slice xo l.length xcap] b8 g8 c8 a8 Y B M) := HLPh.out.call h4
        have HPGi : Hid (GX w17 b15 g15 c15 a15 Y.length B.length (lfI Y) (lf B)) := HPGh.out.call h4
        clear h4
        have q15 := HPGi.out.q
        obtain ⟨K4, hK4⟩ : ∃ K4 : Nat, K4 = 1 + Y.length := ⟨_, rfl⟩
        obtain ⟨K5, hK5⟩ : ∃ K5 : Nat, K5 = K4 + B.length := ⟨_, rfl⟩
        have HK4 : Hid (K4 = 1 + Y.length ∧ K5 = K4 + B.length) := ⟨hK4, hK5⟩
        have HM4 : Hid (Calls Try.prog 17 #[.agg #[.slice (some ⟨g15, 0, none⟩) Y.length c15], .int .i64 1] w17 fun e w' => e = .returned (.int .i64 (K4 : Int)) ∧ Turn g15 w17 w' ∧ Ints w' g15 0 Y.length (fun j => 1 + j)) := (markHeap_any g15 0 Y.length c15 (lfI Y) w17 HPGi.out.r 1 (by decide) HYB.out.1 HPGi.out.lg).mono fun e w' ⟨h1, h2, h3⟩ => ⟨by rw [h1, hK4]; exact ret_int (by omega), h2, h3⟩
        have HH4 : Hid (∀ wc, Ints wc g15 0 Y.length (fun j => 1 + j) → g15 < wc.heap.size → Calls Try.prog 20 #[.agg #[.slice (some ⟨g15, 0, none⟩) Y.length c15], .int .i64 1] wc fun e w' => e = .returned (.int .i64 (K4 : Int)) ∧ Below wc.heap.size wc w') := fun wc h1 h2 => (heldHeapP_any g15 0 Y.length c15 wc 1 h1 (by decide) HYB.out.1 h2).mono fun e w' ⟨h1, h2⟩ => ⟨by rw [h1, hK4]; exact ret_int (by omega), h2⟩
        have HH5 : Hid (∀ wc, Sts wc a15 B.length (fun j => mkT (K4 + j)) → a15 < wc.heap.size → Calls Try.prog 21 #[.slice (some ⟨a15, 0, none⟩) B.length ca15, .int .i64 (K4 : Int)] wc fun e w' => e = .returned (.int .i64 (K5 : Int)) ∧ Below wc.heap.size wc w') := fun wc h1 h2 => (heldStrK_any a15 B.length ca15 K4 wc (by omega) (by have := HYB.out.1; omega) h1 h2 HYB.out.2).mono fun e w' ⟨h1, h2⟩ => ⟨by rw [h1, hK5]; exact ret_int (by omega), h2⟩
        clear hK4 hK5
        go_wp2_with (go_at_call 17; fail)
        refine HM4.out.mono ?_
        rintro e w18 ⟨rfl, ht, hi⟩
        have HLPj : Hid (LP w w18 (.slice ao N cap) #[.int .i64 k, .int .i64 n, .string s, .slice xo l.length xcap] b8 g8 c8 a8 Y B M) := HLPi.out.next (turnM ht HLPi.out.l5 (by have := HO6.out; have := HO7.out.2; have := HO8.out; omega))
        have HPGj : Hid (GX w18 b15 g15 c15 a15 Y.length B.length (fun j => 1 + (j : Int)) (lf B)) := ⟨by rw [World.cell?_of_block (w := w17) (ht.block b15 HPGi.out.lb (by have := HO8.out; omega))]; exact HPGi.out.q, hi, HPGi.out.s.turn9 ht HPGi.out.la (by have := HO8.out; omega), Nat.lt_of_lt_of_le HPGi.out.lb ht.size, Nat.lt_of_lt_of_le HPGi.out.lg ht.size, Nat.lt_of_lt_of_le HPGi.out.la ht.size⟩
        clear ht hi q15
        go_wp2_with (go_at_call 18; fail)
        refine (markStr2_any a15 B.length ca15 (lf B) w18 HPGj.out.s HPGj.out.la HYB.out.2 K4 (by have := HK4.out.1; omega) (by have := HK4.out.1; have := HYB.out.1; omega)).mono ?_
        rintro e w19 ⟨rfl, ht, hi⟩
        have e2 : (K4 : Int) + (B.length : Int) = (K5 : Int) := by have := HK4.out.2; omega
        rw [e2]
        clear e2
        have HLPk : Hid (LP w w19 (.slice ao N cap) #[.int .i64 k, .int .i64 n, .string s, .slice xo l.length xcap] b8 g8 c8 a8 Y B M) := HLPj.out.next (turnM ht HLPj.out.l5 (by have := HO6.out; have := HO7.out.2; have := HO8.out; omega))
        have HPGk : Hid (GX w19 b15 g15 c15 a15 Y.length B.length (fun j => 1 + (j : Int)) (fun j => mkT (K4 + j))) := ⟨by rw [World.cell?_of_block (w := w18) (ht.block b15 HPGj.out.lb (by have := HO8.out; omega))]; exact HPGj.out.q, HPGj.out.r.heap (ht.block g15 HPGj.out.lg (by have := HO8.out; omega)), hi, Nat.lt_of_lt_of_le HPGj.out.lb ht.size, Nat.lt_of_lt_of_le HPGj.out.lg ht.size, Nat.lt_of_lt_of_le HPGj.out.la ht.size⟩
        clear ht hi
        have q15 := HPGk.out.q
        have hK40 : ¬ (K4 : Int) < 0 := by omega
        have hK50 : ¬ (K5 : Int) < 0 := by omega
        have hKK : ((K5 : Int) != (K5 : Int)) = false := by simp
        go_wp2_with (go_at_call 20; fail)
        refine (HH4.out w19 HPGk.out.r HPGk.out.lg).mono ?_
        rintro e w20 ⟨rfl, h4⟩
        have HLPl : Hid (LP w w20 (.slice ao N cap) #[.int .i64 k, .int .i64 n, .string s, .slice xo l.length xcap] b8 g8 c8 a8 Y B M) := HLPk.out.call h4
        have HPGl : Hid (GX w20 b15 g15 c15 a15 Y.length B.length (fun j => 1 + (j : Int)) (fun j => mkT (K4 + j))) := HPGk.out.call h4
        clear h4 q15
        go_wp2_with (go_at_call 21; fail)
        refine (HH5.out w20 HPGl.out.s HPGl.out.la).mono ?_
        rintro e w40 ⟨rfl, h4⟩
        have HLPm : Hid (LP w w40 (.slice ao N cap) #[.int .i64 k, .int .i64 n, .string s, .slice xo l.length xcap] b8 g8 c8 a8 Y B M) := HLPl.out.call h4
        have HPGm : Hid (GX w40 b15 g15 c15 a15 Y.length B.length (fun j => 1 + (j : Int)) (fun j => mkT (K4 + j))) := HPGl.out.call h4
        clear h4
        have HBX2 : Hid (Below w.heap.size w w40) := HLPm.out.bel
        have HQX2 : Hid (∀ wc, Below w40.heap.size w40 wc → wc.cell? ⟨w.heap.size, 0, none⟩ = some (.slice ao N cap) ∧ (∀ o, wc.cell? ⟨w.heap.size + 1, o, none⟩ = (#[.int .i64 k, .int .i64 n, .string s, .slice xo l.length xcap] : Array Value)[o]?)) := fun wc hb => ⟨(HLPm.out.call hb).q3, (HLPm.out.call hb).q5⟩
        go_wp2_with fail
        have belW2 : Hid (∀ wc, Below w40.heap.size w40 wc → Below w.heap.size w wc) := fun wc hb => HBX2.out.trans (hb.mono HBX2.out.size)
        have HQS2 : Hid (∀ wc, Below w40.heap.size w40 wc → wc.cell? ⟨w.heap.size, 0, none⟩ = some (.slice ao N cap) ∧ wc.cell? ⟨w.heap.size + 1, 0, none⟩ = some (.int .i64 k) ∧ wc.cell? ⟨w.heap.size + 1, 1, none⟩ = some (.int .i64 n) ∧ wc.cell? ⟨w.heap.size + 1, 2, none⟩ = some (.string s) ∧ wc.cell? ⟨w.heap.size + 1, 3, none⟩ = some (.slice xo l.length xcap)) := fun wc hb => by
          obtain ⟨h1, h2⟩ := HQX2.out wc hb
          exact ⟨h1, h2 0, h2 1, h2 2, h2 3⟩
        have HK02 : Hid (Below w40.heap.size w40 w40.drew) := (Below.refl _ _).drew
        have HK0z2 : Hid (Below w40.heap.size w40 (w40.alloc (.cells #[.slice none 0 0] 32)).drew) := ((Below.refl _ _).alloc (Nat.le_refl _) _).drew
        have S02 := HQS2.out w40.drew HK02.out
        go_cut [22, 23, 24, 25] from 155 to 166 (fun v8 v9 v10 v11 wx => ∃ (b8 g8 c8 a8 ca8 : Nat) (Y : List Int) (B : List ByteArray) (x : Int) (ok : Bool), v8 = .pointer (some ⟨b8, 0, none⟩) ∧ v9 = .slice (some ⟨a8, 0, none⟩) B.length ca8 ∧ v10 = .int .i64 x ∧ v11 = .bool ok ∧ OutR (rowF N f) L R Y B x ok ∧ Below w40.heap.size w40 wx ∧ GX wx b8 g8 c8 a8 Y.length B.length (lfI Y) (lf B))
        case first =>
          go_region_held3 (fun wc => wc.cell? ⟨w.heap.size, 0, none⟩ = some (.slice ao N cap) ∧ wc.cell? ⟨w.heap.size + 1, 0, none⟩ = some (.int .i64 k) ∧ wc.cell? ⟨w.heap.size + 1, 1, none⟩ = some (.int .i64 n) ∧ wc.cell? ⟨w.heap.size + 1, 2, none⟩ = some (.string s) ∧ wc.cell? ⟨w.heap.size + 1, 3, none⟩ = some (.slice xo l.length xcap)) (first | (refine HQS2.out _ ?_; first | with_reducible exact HKD2.out | with_reducible exact HKC2.out | with_reducible exact HKB2.out | with_reducible exact HKA2.out | with_reducible exact HK02.out | with_reducible exact HK0z2.out | with_reducible exact belAl HKD2.out _ | with_reducible exact belAl HKC2.out _ | with_reducible exact belAl HKB2.out _ | with_reducible exact belAl HKA2.out _ | with_reducible exact belAl HK02.out _ | with_reducible exact HSET2.out _; done) | go_keep) (first
            | (go_at_call 10; (refine (HTH.out _ ?_).mono ?_); (focus (first | with_reducible exact belW2.out _ HK02.out | with_reducible exact belW2.out _ (belAl HK02.out _) | with_reducible exact belW2.out _ HK0z2.out)); rintro e wA2 ⟨gA2, rfl, hA1, hA2, hA3, hA4⟩; have HKA2 : Hid (Below w40.heap.size w40 wA2) := hidP (by first | with_reducible exact belJn HK02.out hA4 | with_reducible exact belJn (belAl HK02.out _) hA4 | with_reducible exact belJn HK0z2.out hA4); have HA2 : Hid (Ints wA2 gA2 0 N f ∧ gA2 < wA2.heap.size) := ⟨hA2, hA3⟩; (first | (have HZA2 : Hid (Zc w40.heap.size wA2 w40.heap.size) := Zc.below (Zc.newd w40 (Nat.le_refl _)) hA4) | skip); clear hA1 hA2 hA3 hA4)
            | (go_at_call 11; (refine (HTS.out _ ?_).mono ?_); (focus (first | with_reducible exact belW2.out _ HKA2.out | with_reducible exact belW2.out _ (belAl HKA2.out _) | with_reducible exact belW2.out _ HK0z2.out)); rintro e wB2 ⟨aB2, rfl, hA1, hA2, hA3, hA4⟩; have HKB2 : Hid (Below w40.heap.size w40 wB2) := hidP (by first | with_reducible exact belJn HKA2.out hA4 | with_reducible exact belJn (belAl HKA2.out _) hA4 | with_reducible exact belJn HK0z2.out hA4); have HBB2 : Hid (Ints wB2 gA2 0 N f ∧ gA2 < wB2.heap.size ∧ Sts wB2 aB2 L.length (lf L) ∧ aB2 < wB2.heap.size) := ⟨intsN HA2.out.1 hA4 HA2.out.2 (by first | exact .inl rfl | exact .inr ⟨_, rfl⟩), ltN hA4 HA2.out.2 (by first | exact .inl rfl | exact .inr ⟨_, rfl⟩), hA2, hA3⟩; (first | (have HZB2 : Hid (Zc w40.heap.size wB2 wA2.heap.size) := Zc.below (Zc.new wA2 HKA2.out.size) hA4) | (have HZB2 := hidP (Zc.below HZA2.out hA4)) | skip); clear hA1 hA2 hA3 hA4)
            | (go_at_call 12; (refine (HTO.out _ ?_).mono ?_); (focus (first | with_reducible exact belW2.out _ HKB2.out | with_reducible exact belW2.out _ (belAl HKB2.out _) | with_reducible exact belW2.out _ HK0z2.out)); rintro e wC2 ⟨ya2, yc2, bsC2, rfl, hA4, hA5, _, _, _, hA6, _⟩; have HKC2 : Hid (Below w40.heap.size w40 wC2) := hidP (by first | with_reducible exact belJn HKB2.out hA4 | with_reducible exact belJn (belAl HKB2.out _) hA4 | with_reducible exact belJn HK0z2.out hA4); have HCC2 : Hid (Ints wC2 gA2 0 N f ∧ gA2 < wC2.heap.size ∧ Sts wC2 aB2 L.length (lf L) ∧ aB2 < wC2.heap.size ∧ OsV wC2 bsC2 t (.agg #[.int .i64 k, .int .i64 n, .string s, .slice ya2 l.length yc2]) ∧ bsC2.Nodup) := ⟨intsN HBB2.out.1 hA4 HBB2.out.2.1 (by first | exact .inl rfl | exact .inr ⟨_, rfl⟩), ltN hA4 HBB2.out.2.1 (by first | exact .inl rfl | exact .inr ⟨_, rfl⟩), stsN HBB2.out.2.2.1 hA4 HBB2.out.2.2.2 (by first | exact .inl rfl | exact .inr ⟨_, rfl⟩), ltN hA4 HBB2.out.2.2.2 (by first | exact .inl rfl | exact .inr ⟨_, rfl⟩), hA5, hA6⟩; (first | (have HZC2 : Hid (Zc w40.heap.size wC2 wB2.heap.size) := Zc.below (Zc.new wB2 HKB2.out.size) hA4) | (have HZC2 := hidP (Zc.below HZB2.out hA4)) | skip); clear hA4 hA5 hA6)
            | (go_at_call 13; (first | (with_reducible refine (HIP.out wC2 gA2 aB2 bsC2 _ HCC2.out.1 HCC2.out.2.1 HCC2.out.2.2.1 HCC2.out.2.2.2.1 HCC2.out.2.2.2.2.1 HCC2.out.2.2.2.2.2).mono ?_) | (have HCX := al5 (.cells #[.slice none 0 0] 32) HCC2.out.1 HCC2.out.2.1 HCC2.out.2.2.1 HCC2.out.2.2.2.1 HCC2.out.2.2.2.2.1; with_reducible refine (HIP.out _ gA2 aB2 bsC2 _ HCX.1 HCX.2.1 HCX.2.2.1 HCX.2.2.2.1 HCX.2.2.2.2 HCC2.out.2.2.2.2.2).mono ?_)); rintro e wD2 ⟨g8, c8, a8, ca8, Y, B, x, ok, rfl, hor, hi8, hs8, hg8, ha8, hne8, hA4⟩; have HKD2 : Hid (Below w40.heap.size w40 wD2) := hidP (by first | with_reducible exact belJn HKC2.out hA4 | with_reducible exact belJn (belAl HKC2.out _) hA4 | with_reducible exact belJn HK0z2.out hA4); have HDD2 : Hid (OutR (rowF N f) L R Y B x ok ∧ Ints wD2 g8 0 Y.length (lfI Y) ∧ Sts wD2 a8 B.length (lf B) ∧ g8 < wD2.heap.size ∧ a8 < wD2.heap.size) := ⟨hor, hi8, hs8, hg8.2, ha8.2⟩; (first | (have HZD2 := hidP (zlast (Zc.new wC2 HKC2.out.size) hA4 hg8.1 ha8.1); obtain ⟨⟨zc, zf, zl, zg⟩, _⟩ := HZD2.out; have HSET2 := hidP (zset HZD2.out.1 HKD2.out)) | (have HZD2 := hidP (zlast HZC2.out hA4 hg8.1 ha8.1); obtain ⟨⟨zc, zf, zl, zg⟩, _⟩ := HZD2.out; have HSET2 := hidP (zset HZD2.out.1 HKD2.out)) | skip); clear hor hi8 hs8 hg8 ha8 hA4))
          all_goals
            go_wp2_with fail
            go_meet
            case rel =>
              first
                | exact ⟨_, g8, c8, a8, ca8, Y, B, x, ok, rfl, rfl, rfl, rfl, HDD2.out.1, belAl HKD2.out _, gx_new HDD2.out.2.1 HDD2.out.2.2.1 HDD2.out.2.2.2.1 HDD2.out.2.2.2.2 _⟩
                | exact ⟨_, g8, c8, a8, ca8, Y, B, x, ok, rfl, rfl, rfl, rfl, HDD2.out.1, HSET2.out _, gx_set HZD2.out.1 HDD2.out.2.1 HDD2.out.2.2.1 ⟨HZD2.out.2.1, HDD2.out.2.2.2.1⟩ ⟨HZD2.out.2.2, HDD2.out.2.2.2.2⟩⟩
        case rest =>
          obtain ⟨b22, g22, c22, a22, ca22, Y', B', x', ok', rfl, rfl, rfl, rfl, hor, hbe, hgx⟩ := hcut
          obtain ⟨rfl, rfl, rfl, rfl⟩ := OutR.one HOR.out hor
          obtain ⟨WB, hWB⟩ : ∃ WB, WB = wc := ⟨_, rfl⟩
          obtain rfl := hWB
          have HLPn : Hid (LP w WB (.slice ao N cap) #[.int .i64 k, .int .i64 n, .string s, .slice xo l.length xcap] b8 g8 c8 a8 Y' B' M) := HLPm.out.call hbe
          have HPGn : Hid (GX WB b15 g15 c15 a15 Y'.length B'.length (fun j => 1 + (j : Int)) (fun j => mkT (K4 + j))) := HPGm.out.call hbe
          have HG22 : Hid (Ints WB g22 0 Y'.length (lfI Y') ∧ Sts WB a22 B'.length (lf B') ∧ a22 < WB.heap.size) := ⟨hgx.r, hgx.s, hgx.la⟩
          have q22 := hgx.q
          have q8 := HLPn.out.q8
          clear hor hbe hgx
          go_wp2_with (go_at_call 14; fail)
          refine (HEH.out WB g22 c22 HLPn.out HG22.out.1).mono ?_
          rintro e w41 ⟨rfl, h4⟩
          have HLPo : Hid (LP w w41 (.slice ao N cap) #[.int .i64 k, .int .i64 n, .string s, .slice xo l.length xcap] b8 g8 c8 a8 Y' B' M) := HLPn.out.call h4
          have HPGo : Hid (GX w41 b15 g15 c15 a15 Y'.length B'.length (fun j => 1 + (j : Int)) (fun j => mkT (K4 + j))) := HPGn.out.call h4
          have HG23 : Hid (Sts w41 a22 B'.length (lf B')) := HG22.out.2.1.below h4 HG22.out.2.2
          clear h4 q22 q8
          go_wp2_with (go_at_call 15; fail)
          refine (HES.out w41 a22 ca22 HLPo.out HG23.out).mono ?_
          rintro e w42 ⟨rfl, h4⟩
          have HLPp : Hid (LP w w42 (.slice ao N cap) #[.int .i64 k, .int .i64 n, .string s, .slice xo l.length xcap] b8 g8 c8 a8 Y' B' M) := HLPo.out.call h4
          have HPGp : Hid (GX w42 b15 g15 c15 a15 Y'.length B'.length (fun j => 1 + (j : Int)) (fun j => mkT (K4 + j))) := HPGo.out.call h4
          clear h4
          have q15 := HPGp.out.q
          go_wp2_with (go_at_call 20; fail)
          refine (HH4.out w42 HPGp.out.r HPGp.out.lg).mono ?_
          rintro e w43 ⟨rfl, h4⟩
          have HLPq : Hid (LP w w43 (.slice ao N cap) #[.int .i64 k, .int .i64 n, .string s, .slice xo l.length xcap] b8 g8 c8 a8 Y' B' M) := HLPp.out.call h4
          have HPGq : Hid (GX w43 b15 g15 c15 a15 Y'.length B'.length (fun j => 1 + (j : Int)) (fun j => mkT (K4 + j))) := HPGp.out.call h4
          clear h4 q15
          go_wp2_with (go_at_call 21; fail)
          refine (HH5.out w43 HPGq.out.s HPGq.out.la).mono ?_
          rintro e w44 ⟨rfl, h4⟩
          have HFI : Hid (Below w.heap.size w w44) := (HLPq.out.call h4).bel
          clear h4
          go_wp2_with fail
          go_ret
          exact ⟨rfl, HFI.out⟩
end Go.Proofs.Ytabgfaafpgholaa.fnExactPutTerm
