/-
  The law over GensPut, walked.
-/
import Derived.Test.YtabgfaafpgholaaY18
import Derived.Deep.RegionHeld3
import Derived.Deep.RegionWith
namespace Go.Proofs.Ytabgfaafpgholaa.fnExactGensPut
open Go.RowKit
set_option linter.unusedVariables false

set_option maxHeartbeats 16000000 in
set_option maxRecDepth 100000 in
theorem walk (ao : Option Addr) (N cap : Nat) (f : Nat → Int) (yo : Option Addr) (V ycap : Nat) (fy : Nat → Int) (mk : Int) (av : Option Addr) (acap : Nat) (L : List ByteArray) (t : Tm) (v : Value) (w : World)
    (hr : RdI w ao N f) (hry : RdI w yo V fy) (hN : N ≤ maxLen) (hV : V ≤ maxLen) (hT : RdT w av L) (hL : L.length ≤ maxLen) (hsz : ∀ x ∈ L, x.size ≤ maxLen) (hrep : RepV 0 w t v) :
    Calls Try.prog 5 #[.agg #[.slice ao N cap, .slice yo V ycap, .int .i64 mk], .slice av L.length acap, v] w fun e w' => e = .returned (.bool true) ∧ Below w.heap.size w w' := by
  obtain ⟨k, n, s, l⟩ := t
  have HREP0 : Hid (∀ wc, Below w.heap.size w wc → RepV 0 wc (.mk k n s l) v) := fun wc hb => (Keeps.below hb 0).repV hrep
  obtain ⟨xo, xcap, rfl, hs, hl, hc, hrl⟩ := hrep
  obtain ⟨t, ht⟩ : ∃ t, t = Tm.mk k n s l := ⟨_, rfl⟩
  rw [← ht] at HREP0
  have HT : Hid (t = Tm.mk k n s l) := ht
  obtain ⟨W0, hW0⟩ : ∃ W0, W0 = (w.alloc (.cells #[.slice ao N cap, .slice yo V ycap, .int .i64 mk] 58)).alloc (.cells #[.int .i64 k, .int .i64 n, .string s, .slice xo l.length xcap] 28) := ⟨_, rfl⟩
  have hb0 : Below w.heap.size w W0 := by rw [hW0]; exact ((Below.refl _ _).alloc (Nat.le_refl _) _).alloc (by simp) _
  have hz0 : W0.heap.size = w.heap.size + 2 := by rw [hW0]; simp
  have q3 : ∀ o, W0.cell? ⟨w.heap.size, o, none⟩ = (#[.slice ao N cap, .slice yo V ycap, .int .i64 mk] : Array Value)[o]? := fun o => by rw [hW0, World.cell?_alloc_past (hn := by simp), World.cell?_alloc_at (hn := rfl)]
  have q5 : ∀ o, W0.cell? ⟨w.heap.size + 1, o, none⟩ = (#[.int .i64 k, .int .i64 n, .string s, .slice xo l.length xcap] : Array Value)[o]? := fun o => by rw [hW0, World.cell?_alloc_at (hn := by simp)]
  have HQ : Hid (∀ wc, Below W0.heap.size W0 wc → (∀ o, wc.cell? ⟨w.heap.size, o, none⟩ = (#[.slice ao N cap, .slice yo V ycap, .int .i64 mk] : Array Value)[o]?) ∧ (∀ o, wc.cell? ⟨w.heap.size + 1, o, none⟩ = (#[.int .i64 k, .int .i64 n, .string s, .slice xo l.length xcap] : Array Value)[o]?)) := fun wc hb =>
    ⟨fun o => by rw [hb.cell (p := ⟨w.heap.size, o, none⟩) (by show w.heap.size < _; omega)]; exact q3 o, fun o => by rw [hb.cell (p := ⟨w.heap.size + 1, o, none⟩) (by show w.heap.size + 1 < _; omega)]; exact q5 o⟩
  have HB0 : Hid (Below w.heap.size w W0 ∧ W0.heap.size = w.heap.size + 2) := ⟨hb0, hz0⟩
  have HRI : Hid (∀ wc, Below w.heap.size w wc → RdG wc ao N f yo V fy) := fun wc hb => ⟨hr.below hb, hry.below hb⟩
  have HRT : Hid (∀ wc, Below w.heap.size w wc → RdT wc av L) := fun wc hb => hT.below hb
  have HSS : Hid (∀ x ∈ L, x.size ≤ maxLen) := hsz
  have HNL : Hid (N ≤ maxLen ∧ V ≤ maxLen ∧ L.length ≤ maxLen) := ⟨hN, hV, hL⟩
  clear hr hry hN hV hT hL hsz hs hl hc hrl ht hb0 hz0 q3 q5
  go_enter Try.func5, Try.ntmps5
  go_wp2_with (go_at_call 30; fail)
  rw [← hW0]
  clear hW0
  refine (szGens_L ao N cap yo V ycap mk 1048576 HNL.out.1 HNL.out.2.1 (by decide) W0).mono ?_
  rintro e w1 ⟨z1, rfl, hb1, hz1m, hz1⟩
  have HB1 : Hid (Below W0.heap.size W0 w1) := hb1
  have HZ1 : Hid (0 ≤ z1 → FewQ N V ∧ z1 + N + V ≤ 1048576) := hz1
  have hw1 : Below w.heap.size w w1 := HB0.out.1.trans (hb1.mono HB0.out.1.size)
  have HW1 : Hid (Below w.heap.size w w1) := hw1
  clear hb1 hz1 hw1 hz1m
  by_cases hn1 : z1 < 0
  · go_wp2_with fail
    go_ret
    exact ⟨rfl, HW1.out⟩
  have HZN : Hid (FewQ N V ∧ z1 + N + V ≤ 1048576) := HZ1.out (by omega)
  clear HZ1
  go_wp2_with (go_at_call 7; fail)
  refine (szStrP_any av acap L w1 (HRT.out w1 HW1.out) HNL.out.2.2 HSS.out z1 (by omega) (by have := HZN.out.2; omega)).mono ?_
  rintro e w2 ⟨z2, rfl, hw2, hz2, hz2'⟩
  obtain rfl := hw2.symm
  have HZ2 : Hid (0 ≤ z2 → z2 ≤ z1 - L.length ∧ ∀ x ∈ L, x.size ≤ 1048576) := hz2'
  clear hw2 hz2'
  by_cases hn2 : z2 < 0
  · go_wp2_with fail
    go_ret
    exact ⟨rfl, HW1.out⟩
  have HZL : Hid (z2 ≤ z1 - L.length ∧ ∀ x ∈ L, x.size ≤ 1048576) := HZ2.out (by omega)
  clear HZ2
  obtain ⟨y3, y5⟩ := HQ.out w1 HB1.out
  go_wp2_with (go_at_call 8; fail)
  refine (szT_all t 0 w1 _ z2 (HREP0.out w1 HW1.out) (by omega) (by have h1 := HZL.out.1; have h2 := HZN.out.2; omega)).mono ?_
  rintro e w3 ⟨rfl, hb3⟩
  have HB3 : Hid (Below W0.heap.size W0 w3) := HB1.out.trans (hb3.mono HB1.out.size)
  have HW3 : Hid (Below w.heap.size w w3) := HW1.out.trans (hb3.mono HW1.out.size)
  clear hb3 y3 y5
  obtain ⟨z3, hz3⟩ : ∃ z3, z3 = szT t z2 := ⟨_, rfl⟩
  have HZ3 : Hid (0 ≤ z3 → StS t ∧ N + V + L.length + ntL l ≤ 1048576) := fun h => by
    have h1 := HZL.out.1
    have h2 := HZN.out.2
    rw [hz3] at h
    refine ⟨sz_sts t z2 (by omega) (by omega) h, ?_⟩
    have h3 := szT_nt k n s l z2 (by omega) (by rw [← HT.out]; exact h)
    omega
  rw [← hz3]
  clear hz3
  by_cases hn3 : z3 < 0
  · go_wp2_with fail
    go_ret
    exact ⟨rfl, HW3.out⟩
  have HZT : Hid (StS t ∧ N + V + L.length + ntL l ≤ 1048576) := HZ3.out (by omega)
  clear HZ3 hn1 hn2
  have HFW : Hid (FewQ N V) := HZN.out.1
  have HTH : Hid (∀ wc, Below w.heap.size w wc → Calls Try.prog 32 #[.agg #[.slice ao N cap, .slice yo V ycap, .int .i64 mk]] wc fun e w' => ∃ g y, e = .returned (.agg #[.slice (some ⟨g, 0, none⟩) N N, .slice (some ⟨y, 0, none⟩) V V, .int .i64 mk]) ∧ (wc.heap.size ≤ g ∧ g < y ∧ y < w'.heap.size) ∧ Ints w' g 0 N f ∧ Ints w' y 0 V fy ∧ Below wc.heap.size wc w') := fun wc hb => (toGens_any ao N cap f yo V ycap fy mk wc (HRI.out wc hb) HFW.out).mono fun e w' ⟨g, y, h1, h2, h3, h4, h5⟩ => ⟨g, y, h1, ⟨h2, h3.lt, h4⟩, h3.o, h3.i, h5⟩
  have hLL : L.length ≤ 1048576 := by have := HZT.out.2; omega
  have HTS : Hid (∀ wc, Below w.heap.size w wc → Calls Try.prog 11 #[.slice av L.length acap] wc fun e w' => ∃ g, e = .returned (.slice (some ⟨g, 0, none⟩) L.length L.length) ∧ wc.heap.size ≤ g ∧ Sts w' g L.length (lf L) ∧ g < w'.heap.size ∧ Below wc.heap.size wc w') := fun wc hb => (toStr_any av acap L wc (HRT.out wc hb) hLL).mono fun e w' ⟨h1, h2, h3, h4⟩ => ⟨wc.heap.size, h1, Nat.le_refl _, h2, h3, h4⟩
  have HTO : Hid (∀ wc, Below w.heap.size w wc → Calls Try.prog 12 #[.agg #[.int .i64 k, .int .i64 n, .string s, .slice xo l.length xcap]] wc fun e w' => ∃ xa xc bs, e = .returned (.agg #[.int .i64 k, .int .i64 n, .string s, .slice xa l.length xc]) ∧ Below wc.heap.size wc w' ∧ OsV w' bs t (.agg #[.int .i64 k, .int .i64 n, .string s, .slice xa l.length xc]) ∧ OsL w' l bs xa ∧ l.length ≤ xc ∧ xc ≤ maxLen ∧ bs.Nodup ∧ ∀ b ∈ bs, wc.heap.size ≤ b) := fun wc hb => by
    refine (toOT_all t HZT.out.1 0 wc _ (HREP0.out wc hb)).mono ?_
    rintro e w' ⟨v', bs, h1, h2, h3, h4, h5⟩
    have h6 := h3
    rw [HT.out] at h6
    obtain ⟨xa, xc, rfl, _, h7, h8, h9⟩ := h6
    exact ⟨xa, xc, bs, h1, h2, h3, h9, h7, h8, h4, h5⟩
  have hnt : L.length + nT t ≤ 1048577 := by
    rw [HT.out, nT, ← ntL_nL]
    have := HZT.out.2
    omega
  obtain ⟨R, hR⟩ : ∃ R, R = PtB t (rowF V fy) 100000 1000 L := ⟨_, rfl⟩
  have HOF : Hid (∀ Y B x ok, OutR (rowF V fy) L R Y B x ok → Y.length ≤ 1048576 ∧ B.length ≤ 1048577 ∧ N + Y.length ≤ 1049576) := fun Y B x ok h => OutR.fewB (by rw [← hR]; exact h) (by rw [rowF_len]; have := HZT.out.2; omega) hnt
  have HWV : Hid (∀ wc g n (f : Nat → Int), Ints wc g 0 n f → g < wc.heap.size → WV wc wc.heap.size (.slice (some ⟨g, 0, none⟩) n n) (rowF n f)) := fun wc g n f h1 h2 => .inr ⟨g, n, by rw [rowF_len], h2, fun j hj => by
    have hj' : j < n := by rw [rowF_len] at hj; exact hj
    have h9 := h1.cell j hj'
    rw [Nat.zero_add] at h9
    rw [h9, rowF_get]⟩
  have HLI : Hid (∀ wc g n (f : Nat → Int), Ints wc g 0 (rowF n f).length (lfI (rowF n f)) → Ints wc g 0 n f) := fun wc g n f h => by
    rw [rowF_len] at h
    exact h.congr (fun j hj => lfI_row n f j hj)
  have HSP : Hid (∀ wc g y a bs va, Ints wc g 0 N f → Ints wc y 0 V fy → g < wc.heap.size → y < wc.heap.size → Sts wc a L.length (lf L) → a < wc.heap.size → OsV wc bs t va → bs.Nodup → Calls Try.prog 31 #[(.agg #[.slice (some ⟨g, 0, none⟩) N N, .slice (some ⟨y, 0, none⟩) V V, .int .i64 mk]), .slice (some ⟨a, 0, none⟩) L.length L.length, va] wc fun e w' => ∃ g' c' y' cy' a' ca Y B x ok, e = .returned (.tuple #[.agg #[.slice (some ⟨g', 0, none⟩) N c', .slice (some ⟨y', 0, none⟩) Y.length cy', .int .i64 mk], .slice (some ⟨a', 0, none⟩) B.length ca, .int .i64 x, .bool ok]) ∧ OutR (rowF V fy) L R Y B x ok ∧ Ints w' g' 0 N f ∧ Ints w' y' 0 Y.length (lfI Y) ∧ Sts w' a' B.length (lf B) ∧ (wc.heap.size ≤ g' ∧ g' < w'.heap.size) ∧ (wc.heap.size ≤ y' ∧ y' < w'.heap.size) ∧ (wc.heap.size ≤ a' ∧ a' < w'.heap.size) ∧ Below wc.heap.size wc w') := fun wc g y a bs va h1 h1y h2 h2y h3 h4 h5 h6 => by
    refine (gensPut_any wc _ _ (rowF N f) (rowF V fy) mk a 0 L.length L t va (HWV.out wc g N f h1 h2) (HWV.out wc y V fy h1y h2y) h3.txt h4 (OsV.size h5) (by rw [rowF_len]; exact HFW.out.1) (by rw [rowF_len]; exact HFW.out.2) hLL (fun _ => hnt)).mono ?_
    rintro e w' ⟨g', c', y', cy', a', ca, Y, B, x, ok, rfl, hpa, hor⟩
    obtain ⟨i1, i2, i3⟩ := own_intsP hpa.ow
    obtain ⟨j1, j2, j3⟩ := own_intsP hpa.yw
    obtain ⟨t1, t2, t3, t4⟩ := own_txt hpa.ar
    refine ⟨g', c', y', cy', a', ca, Y, B, x, ok, by rw [rowF_len], ?_, HLI.out w' g' N f i1, j1, txt_stsP t1 t4, ⟨i2, i3⟩, ⟨j2, j3⟩, ⟨t2, t3⟩, hpa.be⟩
    rw [hR]
    rcases hor with ⟨e1, e2, e3, e4, e5⟩ | ⟨e1, ⟨ns, e2, e3⟩, _, _⟩
    · exact .inr ⟨e1, e4, e2, e3, e5⟩
    · exact .inl ⟨e1, ns, e3, e2⟩
  have HIP : Hid (∀ wc g y a bs va, Ints wc g 0 N f → Ints wc y 0 V fy → g < wc.heap.size → y < wc.heap.size → Sts wc a L.length (lf L) → a < wc.heap.size → OsV wc bs t va → bs.Nodup → Calls Try.prog 33 #[(.agg #[.slice (some ⟨g, 0, none⟩) N N, .slice (some ⟨y, 0, none⟩) V V, .int .i64 mk]), .slice (some ⟨a, 0, none⟩) L.length L.length, va] wc fun e w' => ∃ g' c' y' cy' a' ca Y B x ok, e = .returned (.tuple #[.agg #[.slice (some ⟨g', 0, none⟩) N c', .slice (some ⟨y', 0, none⟩) Y.length cy', .int .i64 mk], .slice (some ⟨a', 0, none⟩) B.length ca, .int .i64 x, .bool ok]) ∧ OutR (rowF V fy) L R Y B x ok ∧ Ints w' g' 0 N f ∧ Ints w' y' 0 Y.length (lfI Y) ∧ Sts w' a' B.length (lf B) ∧ (wc.heap.size ≤ g' ∧ g' < w'.heap.size) ∧ (wc.heap.size ≤ y' ∧ y' < w'.heap.size) ∧ (wc.heap.size ≤ a' ∧ a' < w'.heap.size) ∧ (g' ≠ y' ∧ g' ≠ a' ∧ y' ≠ a') ∧ Below wc.heap.size wc w') := fun wc g y a bs va h1 h1y h2 h2y h3 h4 h5 h6 => by
    refine (implGens_any wc _ _ (rowF N f) (rowF V fy) mk a 0 L.length L bs t va (HWV.out wc g N f h1 h2) (HWV.out wc y V fy h1y h2y) (fun h => by cases h) (fun h => by cases h) h3.txt h5 h6 (by rw [rowF_len]; exact HFW.out.1) (by rw [rowF_len]; exact HFW.out.2) hLL (fun _ => hnt)).mono ?_
    rintro e w' ⟨g', c', y', cy', a', ca, Y, B, x, ok, rfl, i1, j1, s1, l1, l2, l3, ne, hb, hor⟩
    exact ⟨g', c', y', cy', a', ca, Y, B, x, ok, by rw [rowF_len], by rw [hR]; exact hor, HLI.out w' g' N f i1, j1, s1, l1, l2, l3, ne, hb⟩
  have HNT : Hid (L.length + nT t ≤ 1048577 ∧ cL l ≤ 3145728) := ⟨hnt, by have h1 := HZT.out.2; have h2 := cL_ntP l; omega⟩
  clear hR hLL hnt HREP0 HRI HRT HSS HNL HWV HLI
  have HBX1 : Hid (Below w.heap.size w w3) := HW3.out
  have HQX1 : Hid (∀ wc, Below w3.heap.size w3 wc → (∀ o, wc.cell? ⟨w.heap.size, o, none⟩ = (#[.slice ao N cap, .slice yo V ycap, .int .i64 mk] : Array Value)[o]?) ∧ (∀ o, wc.cell? ⟨w.heap.size + 1, o, none⟩ = (#[.int .i64 k, .int .i64 n, .string s, .slice xo l.length xcap] : Array Value)[o]?)) := fun wc hb => HQ.out wc (HB3.out.trans (hb.mono HB3.out.size))
  go_wp2_with fail
  have belW1 : Hid (∀ wc, Below w3.heap.size w3 wc → Below w.heap.size w wc) := fun wc hb => HBX1.out.trans (hb.mono HBX1.out.size)
  have HQS1 : Hid (∀ wc, Below w3.heap.size w3 wc → wc.cell? ⟨w.heap.size, 0, none⟩ = some (.slice ao N cap) ∧ wc.cell? ⟨w.heap.size, 1, none⟩ = some (.slice yo V ycap) ∧ wc.cell? ⟨w.heap.size, 2, none⟩ = some (.int .i64 mk) ∧ wc.cell? ⟨w.heap.size + 1, 0, none⟩ = some (.int .i64 k) ∧ wc.cell? ⟨w.heap.size + 1, 1, none⟩ = some (.int .i64 n) ∧ wc.cell? ⟨w.heap.size + 1, 2, none⟩ = some (.string s) ∧ wc.cell? ⟨w.heap.size + 1, 3, none⟩ = some (.slice xo l.length xcap)) := fun wc hb => by
    obtain ⟨h1, h2⟩ := HQX1.out wc hb
    exact ⟨h1 0, h1 1, h1 2, h2 0, h2 1, h2 2, h2 3⟩
  have HK01 : Hid (Below w3.heap.size w3 w3.drew) := (Below.refl _ _).drew
  have HK0z1 : Hid (Below w3.heap.size w3 (w3.alloc (.cells #[.slice none 0 0, .slice none 0 0, .int .i64 0] 60)).drew) := ((Below.refl _ _).alloc (Nat.le_refl _) _).drew
  have S01 := HQS1.out w3.drew HK01.out
  go_cut [8, 9, 10, 11] from 41 to 52 (fun v8 v9 v10 v11 wx => ∃ (b8 g8 c8 y8 cy8 a8 ca8 : Nat) (Y : List Int) (B : List ByteArray) (x : Int) (ok : Bool), v8 = .pointer (some ⟨b8, 0, none⟩) ∧ v9 = .slice (some ⟨a8, 0, none⟩) B.length ca8 ∧ v10 = .int .i64 x ∧ v11 = .bool ok ∧ OutR (rowF V fy) L R Y B x ok ∧ Below w3.heap.size w3 wx ∧ GZ wx b8 g8 y8 a8 (.slice (some ⟨g8, 0, none⟩) N c8) (.slice (some ⟨y8, 0, none⟩) Y.length cy8) (.int .i64 mk) N Y.length B.length f (lfI Y) (lf B))
  case first =>
    go_region_held3 (fun wc => wc.cell? ⟨w.heap.size, 0, none⟩ = some (.slice ao N cap) ∧ wc.cell? ⟨w.heap.size, 1, none⟩ = some (.slice yo V ycap) ∧ wc.cell? ⟨w.heap.size, 2, none⟩ = some (.int .i64 mk) ∧ wc.cell? ⟨w.heap.size + 1, 0, none⟩ = some (.int .i64 k) ∧ wc.cell? ⟨w.heap.size + 1, 1, none⟩ = some (.int .i64 n) ∧ wc.cell? ⟨w.heap.size + 1, 2, none⟩ = some (.string s) ∧ wc.cell? ⟨w.heap.size + 1, 3, none⟩ = some (.slice xo l.length xcap)) (first | (refine HQS1.out _ ?_; first | with_reducible exact HKD1.out | with_reducible exact HKC1.out | with_reducible exact HKB1.out | with_reducible exact HKA1.out | with_reducible exact HK01.out | with_reducible exact HK0z1.out | with_reducible exact belAl HKD1.out _ | with_reducible exact belAl HKC1.out _ | with_reducible exact belAl HKB1.out _ | with_reducible exact belAl HKA1.out _ | with_reducible exact belAl HK01.out _ | with_reducible exact HSET1.out _ _ _; done) | go_keep) (first
      | (go_at_call 32; (refine (HTH.out _ ?_).mono ?_); (focus (first | with_reducible exact belW1.out _ HK01.out | with_reducible exact belW1.out _ (belAl HK01.out _) | with_reducible exact belW1.out _ HK0z1.out)); rintro e wA1 ⟨gA1, yA1, rfl, hA1, hA2, hA3, hA4⟩; have HKA1 : Hid (Below w3.heap.size w3 wA1) := hidP (by first | with_reducible exact belJn HK01.out hA4 | with_reducible exact belJn (belAl HK01.out _) hA4 | with_reducible exact belJn HK0z1.out hA4); have HA1 : Hid (Ints wA1 gA1 0 N f ∧ Ints wA1 yA1 0 V fy ∧ gA1 < wA1.heap.size ∧ yA1 < wA1.heap.size) := ⟨hA2, hA3, Nat.lt_trans hA1.2.1 hA1.2.2, hA1.2.2⟩; (first | (have HZA1 : Hid (Zg w3.heap.size wA1 w3.heap.size) := Zg.below (Zg.newd w3 (Nat.le_refl _)) hA4) | skip); clear hA1 hA2 hA3 hA4)
      | (go_at_call 11; (refine (HTS.out _ ?_).mono ?_); (focus (first | with_reducible exact belW1.out _ HKA1.out | with_reducible exact belW1.out _ (belAl HKA1.out _) | with_reducible exact belW1.out _ HK0z1.out)); rintro e wB1 ⟨aB1, rfl, hA1, hA2, hA3, hA4⟩; have HKB1 : Hid (Below w3.heap.size w3 wB1) := hidP (by first | with_reducible exact belJn HKA1.out hA4 | with_reducible exact belJn (belAl HKA1.out _) hA4 | with_reducible exact belJn HK0z1.out hA4); have HBB1 : Hid (Ints wB1 gA1 0 N f ∧ Ints wB1 yA1 0 V fy ∧ gA1 < wB1.heap.size ∧ yA1 < wB1.heap.size ∧ Sts wB1 aB1 L.length (lf L) ∧ aB1 < wB1.heap.size) := ⟨intsN HA1.out.1 hA4 HA1.out.2.2.1 (by first | exact .inl rfl | exact .inr ⟨_, rfl⟩), intsN HA1.out.2.1 hA4 HA1.out.2.2.2 (by first | exact .inl rfl | exact .inr ⟨_, rfl⟩), ltN hA4 HA1.out.2.2.1 (by first | exact .inl rfl | exact .inr ⟨_, rfl⟩), ltN hA4 HA1.out.2.2.2 (by first | exact .inl rfl | exact .inr ⟨_, rfl⟩), hA2, hA3⟩; (first | (have HZB1 : Hid (Zg w3.heap.size wB1 wA1.heap.size) := Zg.below (Zg.new wA1 HKA1.out.size) hA4) | (have HZB1 := hidP (Zg.below HZA1.out hA4)) | skip); clear hA1 hA2 hA3 hA4)
      | (go_at_call 12; (refine (HTO.out _ ?_).mono ?_); (focus (first | with_reducible exact belW1.out _ HKB1.out | with_reducible exact belW1.out _ (belAl HKB1.out _) | with_reducible exact belW1.out _ HK0z1.out)); rintro e wC1 ⟨ya1, yc1, bsC1, rfl, hA4, hA5, _, _, _, hA6, _⟩; have HKC1 : Hid (Below w3.heap.size w3 wC1) := hidP (by first | with_reducible exact belJn HKB1.out hA4 | with_reducible exact belJn (belAl HKB1.out _) hA4 | with_reducible exact belJn HK0z1.out hA4); have HCC1 : Hid (Ints wC1 gA1 0 N f ∧ Ints wC1 yA1 0 V fy ∧ gA1 < wC1.heap.size ∧ yA1 < wC1.heap.size ∧ Sts wC1 aB1 L.length (lf L) ∧ aB1 < wC1.heap.size ∧ OsV wC1 bsC1 t (.agg #[.int .i64 k, .int .i64 n, .string s, .slice ya1 l.length yc1]) ∧ bsC1.Nodup) := ⟨intsN HBB1.out.1 hA4 HBB1.out.2.2.1 (by first | exact .inl rfl | exact .inr ⟨_, rfl⟩), intsN HBB1.out.2.1 hA4 HBB1.out.2.2.2.1 (by first | exact .inl rfl | exact .inr ⟨_, rfl⟩), ltN hA4 HBB1.out.2.2.1 (by first | exact .inl rfl | exact .inr ⟨_, rfl⟩), ltN hA4 HBB1.out.2.2.2.1 (by first | exact .inl rfl | exact .inr ⟨_, rfl⟩), stsN HBB1.out.2.2.2.2.1 hA4 HBB1.out.2.2.2.2.2 (by first | exact .inl rfl | exact .inr ⟨_, rfl⟩), ltN hA4 HBB1.out.2.2.2.2.2 (by first | exact .inl rfl | exact .inr ⟨_, rfl⟩), hA5, hA6⟩; (first | (have HZC1 : Hid (Zg w3.heap.size wC1 wB1.heap.size) := Zg.below (Zg.new wB1 HKB1.out.size) hA4) | (have HZC1 := hidP (Zg.below HZB1.out hA4)) | skip); clear hA4 hA5 hA6)
      | (go_at_call 31; (first | (with_reducible refine (HSP.out wC1 gA1 yA1 aB1 bsC1 _ HCC1.out.1 HCC1.out.2.1 HCC1.out.2.2.1 HCC1.out.2.2.2.1 HCC1.out.2.2.2.2.1 HCC1.out.2.2.2.2.2.1 HCC1.out.2.2.2.2.2.2.1 HCC1.out.2.2.2.2.2.2.2).mono ?_) | (have HCX := al6 (.cells #[.slice none 0 0, .slice none 0 0, .int .i64 0] 60) HCC1.out.1 HCC1.out.2.1 HCC1.out.2.2.1 HCC1.out.2.2.2.1 HCC1.out.2.2.2.2.1 HCC1.out.2.2.2.2.2.1 HCC1.out.2.2.2.2.2.2.1; with_reducible refine (HSP.out _ gA1 yA1 aB1 bsC1 _ HCX.1 HCX.2.1 HCX.2.2.1 HCX.2.2.2.1 HCX.2.2.2.2.1 HCX.2.2.2.2.2.1 HCX.2.2.2.2.2.2 HCC1.out.2.2.2.2.2.2.2).mono ?_)); rintro e wD1 ⟨g8, c8, y8, cy8, a8, ca8, Y, B, x, ok, rfl, hor, ho8, hi8, hs8, hg8, hy8, ha8, hA4⟩; have HKD1 : Hid (Below w3.heap.size w3 wD1) := hidP (by first | with_reducible exact belJn HKC1.out hA4 | with_reducible exact belJn (belAl HKC1.out _) hA4 | with_reducible exact belJn HK0z1.out hA4); have HDD1 : Hid (OutR (rowF V fy) L R Y B x ok ∧ Ints wD1 g8 0 N f ∧ Ints wD1 y8 0 Y.length (lfI Y) ∧ Sts wD1 a8 B.length (lf B) ∧ g8 < wD1.heap.size ∧ y8 < wD1.heap.size ∧ a8 < wD1.heap.size) := ⟨hor, ho8, hi8, hs8, hg8.2, hy8.2, ha8.2⟩; (first | (have HZD1 := hidP (zlastG (Zg.new wC1 HKC1.out.size) hA4 hg8.1 hy8.1 ha8.1); obtain ⟨⟨zc0, zc1, zc2, zf, zl, zg⟩, _⟩ := HZD1.out; have HSET1 := hidP (zsetG HZD1.out.1 HKD1.out)) | (have HZD1 := hidP (zlastG HZC1.out hA4 hg8.1 hy8.1 ha8.1); obtain ⟨⟨zc0, zc1, zc2, zf, zl, zg⟩, _⟩ := HZD1.out; have HSET1 := hidP (zsetG HZD1.out.1 HKD1.out)) | skip); clear hor ho8 hi8 hs8 hg8 hy8 ha8 hA4))
    all_goals
      go_wp2_with fail
      go_meet
      case rel =>
        first
          | exact ⟨_, g8, c8, y8, cy8, a8, ca8, Y, B, x, ok, rfl, rfl, rfl, rfl, HDD1.out.1, belAl HKD1.out _, gz_new HDD1.out.2.1 HDD1.out.2.2.1 HDD1.out.2.2.2.1 HDD1.out.2.2.2.2.1 HDD1.out.2.2.2.2.2.1 HDD1.out.2.2.2.2.2.2 _⟩
          | exact ⟨_, g8, c8, y8, cy8, a8, ca8, Y, B, x, ok, rfl, rfl, rfl, rfl, HDD1.out.1, HSET1.out _ _ _, gz_set HZD1.out.1 HDD1.out.2.1 HDD1.out.2.2.1 HDD1.out.2.2.2.1 ⟨HZD1.out.2.1, HDD1.out.2.2.2.2.1⟩ ⟨HZD1.out.2.2.1, HDD1.out.2.2.2.2.2.1⟩ ⟨HZD1.out.2.2.2, HDD1.out.2.2.2.2.2.2⟩⟩
  case rest =>
    obtain ⟨b8, g8, c8, y8, cy8, a8, ca8, Y, B, x, ok, rfl, rfl, rfl, rfl, hor, hbe, hgx⟩ := hcut
    obtain ⟨WA, hWA⟩ : ∃ WA, WA = wc := ⟨_, rfl⟩
    obtain rfl := hWA
    have HOR : Hid (OutR (rowF V fy) L R Y B x ok) := hor
    have HYB : Hid (Y.length ≤ 1048576 ∧ B.length ≤ 1048577 ∧ N + Y.length ≤ 1049576) := HOF.out _ _ _ _ hor
    obtain ⟨M, hM⟩ : ∃ M, M = WA.heap.size := ⟨_, rfl⟩
    have HLP : Hid (LG w WA #[.slice ao N cap, .slice yo V ycap, .int .i64 mk] #[.int .i64 k, .int .i64 n, .string s, .slice xo l.length xcap] (.slice (some ⟨g8, 0, none⟩) N c8) (.slice (some ⟨y8, 0, none⟩) Y.length cy8) (.int .i64 mk) b8 g8 y8 a8 N f Y B M) := by
      have h1 := HQX1.out WA hbe
      have h2 := hbe.size
      have h3 := HB3.out.size
      have h4 := HB0.out.2
      exact ⟨HBX1.out.trans (hbe.mono HBX1.out.size), h1.1, h1.2, hgx.q0, hgx.q1, hgx.q2, hgx.o, hgx.r, hgx.s, by omega, by rw [hM]; exact hgx.lb, by rw [hM]; exact hgx.lg, by rw [hM]; exact hgx.ly, by rw [hM]; exact hgx.la, by omega⟩
    have HMM : Hid (M = WA.heap.size) := hM
    have HPI : Hid (∀ wc g y a bs va, Ints wc g 0 N f → Ints wc y 0 V fy → g < wc.heap.size → y < wc.heap.size → Sts wc a L.length (lf L) → a < wc.heap.size → OsV wc bs t va → bs.Nodup → Calls Try.prog 33 #[(.agg #[.slice (some ⟨g, 0, none⟩) N N, .slice (some ⟨y, 0, none⟩) V V, .int .i64 mk]), .slice (some ⟨a, 0, none⟩) L.length L.length, va] wc fun e w' => ∃ g' c' y' cy' a' ca, e = .returned (.tuple #[.agg #[.slice (some ⟨g', 0, none⟩) N c', .slice (some ⟨y', 0, none⟩) Y.length cy', .int .i64 mk], .slice (some ⟨a', 0, none⟩) B.length ca, .int .i64 x, .bool ok]) ∧ Ints w' g' 0 N f ∧ Ints w' y' 0 Y.length (lfI Y) ∧ Sts w' a' B.length (lf B) ∧ (wc.heap.size ≤ g' ∧ g' < w'.heap.size) ∧ (wc.heap.size ≤ y' ∧ y' < w'.heap.size) ∧ (wc.heap.size ≤ a' ∧ a' < w'.heap.size) ∧ (g' ≠ y' ∧ g' ≠ a' ∧ y' ≠ a') ∧ Below wc.heap.size wc w') := fun wc g y a bs va h1 h1y h2 h2y h3 h4 h5 h6 => by
      refine (HIP.out wc g y a bs va h1 h1y h2 h2y h3 h4 h5 h6).mono ?_
      rintro e w' ⟨g', c', y', cy', a', ca, Y', B', x', ok', rfl, ho, r0, r1, r2, r3, ry, r4, r5, r6⟩
      obtain ⟨rfl, rfl, rfl, rfl⟩ := OutR.one HOR.out ho
      exact ⟨g', c', y', cy', a', ca, rfl, r0, r1, r2, r3, ry, r4, r5, r6⟩
    have HEH : Hid (∀ wc ga ca ya cy, LG w wc #[.slice ao N cap, .slice yo V ycap, .int .i64 mk] #[.int .i64 k, .int .i64 n, .string s, .slice xo l.length xcap] (.slice (some ⟨g8, 0, none⟩) N c8) (.slice (some ⟨y8, 0, none⟩) Y.length cy8) (.int .i64 mk) b8 g8 y8 a8 N f Y B M → Ints wc ga 0 N f → Ints wc ya 0 Y.length (lfI Y) → Calls Try.prog 34 #[.agg #[.slice (some ⟨ga, 0, none⟩) N ca, .slice (some ⟨ya, 0, none⟩) Y.length cy, .int .i64 mk], .agg #[.slice (some ⟨g8, 0, none⟩) N c8, .slice (some ⟨y8, 0, none⟩) Y.length cy8, .int .i64 mk]] wc fun e w' => e = .returned (.bool true) ∧ Below wc.heap.size wc w') := fun wc ga ca ya cy h1 h2 h3 => eqGens_same _ _ _ _ N ca c8 Y.length cy cy8 _ _ mk wc h2.rdI h1.o8.rdI h3.rdI h1.r8.rdI ⟨HFW.out.1, HYB.out.1⟩
    have HES : Hid (∀ wc aa ca, LG w wc #[.slice ao N cap, .slice yo V ycap, .int .i64 mk] #[.int .i64 k, .int .i64 n, .string s, .slice xo l.length xcap] (.slice (some ⟨g8, 0, none⟩) N c8) (.slice (some ⟨y8, 0, none⟩) Y.length cy8) (.int .i64 mk) b8 g8 y8 a8 N f Y B M → Sts wc aa B.length (lf B) → Calls Try.prog 15 #[.slice (some ⟨aa, 0, none⟩) B.length ca, .slice (some ⟨a8, 0, none⟩) B.length ca8] wc fun e w' => e = .returned (.bool true) ∧ Below wc.heap.size wc w') := fun wc aa ca h1 h2 => eqStr_same _ _ ca ca8 B wc h2.txt.rd h1.s8.txt.rd HYB.out.2.1
    have hxx : (x != x) = false := by simp
    have hok : (ok != ok) = false := by simp
    have q3 := HLP.out.q3
    clear hor hbe hgx hM
    go_wp2_with (go_at_call 32; fail)
    refine (HTH.out WA HLP.out.bel).mono ?_
    rintro e w5 ⟨g12, y12, rfl, ⟨h1, h1y, h3⟩, h2, h2y, h4⟩
    obtain ⟨b12, hb12⟩ : ∃ b12, b12 = w5.heap.size := ⟨_, rfl⟩
    obtain ⟨W5, hW5⟩ : ∃ W5, W5 = w5.alloc (.cells #[.slice (some ⟨g12, 0, none⟩) N N, .slice (some ⟨y12, 0, none⟩) V V, .int .i64 mk] 60) := ⟨_, rfl⟩
    have hbW5 : Below WA.heap.size WA W5 := by rw [hW5]; exact h4.alloc h4.size _
    have HLP5 : Hid (LG w W5 #[.slice ao N cap, .slice yo V ycap, .int .i64 mk] #[.int .i64 k, .int .i64 n, .string s, .slice xo l.length xcap] (.slice (some ⟨g8, 0, none⟩) N c8) (.slice (some ⟨y8, 0, none⟩) Y.length cy8) (.int .i64 mk) b8 g8 y8 a8 N f Y B M) := HLP.out.call hbW5
    have HX5 : Hid (Ints W5 g12 0 N f ∧ (∀ o, W5.cell? ⟨b12, o, none⟩ = (#[.slice (some ⟨g12, 0, none⟩) N N, .slice (some ⟨y12, 0, none⟩) V V, .int .i64 mk] : Array Value)[o]?) ∧ M ≤ g12 ∧ g12 < b12 ∧ b12 < W5.heap.size ∧ Ints W5 y12 0 V fy ∧ g12 < y12 ∧ y12 < b12) := by
      have := HMM.out
      rw [hW5, hb12]
      exact ⟨h2.heap (Below.heap_alloc _ _ _ (by omega)), fun o => by rw [World.cell?_alloc_at (hn := rfl)], by omega, by omega, by rw [World.size_alloc]; omega, h2y.heap (Below.heap_alloc _ _ _ h3), h1y, h3⟩
    clear h1 h1y h2 h2y h3 h4 hbW5 q3
    go_wp2_with (go_at_call 11; fail)
    rw [← hW5, ← hb12]
    refine (HTS.out W5 HLP5.out.bel).mono ?_
    rintro e w6 ⟨a13, rfl, h1, h2, h3, h4⟩
    have HLP6 : Hid (LG w w6 #[.slice ao N cap, .slice yo V ycap, .int .i64 mk] #[.int .i64 k, .int .i64 n, .string s, .slice xo l.length xcap] (.slice (some ⟨g8, 0, none⟩) N c8) (.slice (some ⟨y8, 0, none⟩) Y.length cy8) (.int .i64 mk) b8 g8 y8 a8 N f Y B M) := HLP5.out.call h4
    have HXG6 : Hid (GY w6 b12 g12 y12 a13 #[.slice (some ⟨g12, 0, none⟩) N N, .slice (some ⟨y12, 0, none⟩) V V, .int .i64 mk] N V L.length f fy (lf L)) := by
      obtain ⟨e1, e2, e3, e4, e5, e6, e7, e8⟩ := HX5.out
      have := h4.size
      exact ⟨fun o => by rw [h4.cell (p := ⟨b12, o, none⟩) e5]; exact e2 o, e1.heap (h4.block g12 (by omega)), e6.heap (h4.block y12 (by omega)), h2, by omega, by omega, by omega, h3⟩
    have HO6 : Hid (M ≤ g12 ∧ g12 < b12 ∧ b12 < a13 ∧ a13 < w6.heap.size ∧ g12 < y12 ∧ y12 < b12) := by obtain ⟨e1, e2, e3, e4, e5, e6, e7, e8⟩ := HX5.out; exact ⟨e3, e4, by omega, h3, e7, e8⟩
    have q5 := HLP6.out.q5
    clear h1 h2 h3 h4 hW5 hb12 HX5
    go_wp2_with (go_at_call 12; fail)
    refine (HTO.out w6 HLP6.out.bel).mono ?_
    rintro e w7 ⟨xa, xc, bsx, rfl, h4, hv7, ho7, hx1, hx2, hnx, hlx⟩
    obtain ⟨b14, hb14⟩ : ∃ b14, b14 = w7.heap.size := ⟨_, rfl⟩
    obtain ⟨W7, hW7⟩ : ∃ W7, W7 = w7.alloc (.cells #[.int .i64 k, .int .i64 n, .string s, .slice xa l.length xc] 39) := ⟨_, rfl⟩
    have hb77 : Below w7.heap.size w7 W7 := by rw [hW7]; exact (Below.refl _ _).alloc (Nat.le_refl _) _
    have hbW7 : Below w6.heap.size w6 W7 := h4.trans (hb77.mono h4.size)
    have HLP7 : Hid (LG w W7 #[.slice ao N cap, .slice yo V ycap, .int .i64 mk] #[.int .i64 k, .int .i64 n, .string s, .slice xo l.length xcap] (.slice (some ⟨g8, 0, none⟩) N c8) (.slice (some ⟨y8, 0, none⟩) Y.length cy8) (.int .i64 mk) b8 g8 y8 a8 N f Y B M) := HLP6.out.call hbW7
    have HXG7 : Hid (GY W7 b12 g12 y12 a13 #[.slice (some ⟨g12, 0, none⟩) N N, .slice (some ⟨y12, 0, none⟩) V V, .int .i64 mk] N V L.length f fy (lf L)) := HXG6.out.call hbW7
    have HTX7 : Hid (TX W7 b14 #[.int .i64 k, .int .i64 n, .string s, .slice xa l.length xc] l bsx xa) := ⟨fun o => by rw [hW7, hb14, World.cell?_alloc_at (hn := rfl)], OsL.below hb77 ho7, by rw [hW7, hb14, World.size_alloc]; omega⟩
    have HV7 : Hid (OsV W7 bsx t (.agg #[.int .i64 k, .int .i64 n, .string s, .slice xa l.length xc])) := OsV.below hb77 hv7
    have HXC : Hid (l.length ≤ xc ∧ xc ≤ maxLen ∧ bsx.Nodup) := ⟨hx1, hx2, hnx⟩
    have HO7 : Hid ((∀ b ∈ bsx, a13 < b ∧ b < b14) ∧ a13 < b14 ∧ b14 < W7.heap.size) := ⟨fun b hb => ⟨by have := hlx b hb; have := HO6.out.2.2.2.1; omega, by rw [hb14]; exact OsL.lt _ _ _ ho7 b hb⟩, by have := HO6.out.2.2.2.1; have := h4.size; omega, by rw [hW7, hb14, World.size_alloc]; omega⟩
    have q12 := (HXG6.out.call h4).q
    have hlt12 : b12 < w7.heap.size := (HXG6.out.call h4).lb
    have hne12 : ¬ b12 = w7.heap.size := by omega
    clear h4 hv7 ho7 hx1 hx2 hnx hlx hb77 hbW7 q5
    go_wp2_with (go_at_call 33; fail)
    rw [← hW7, ← hb14]
    refine (HPI.out W7 g12 y12 a13 bsx _ HXG7.out.o HXG7.out.r HXG7.out.lg HXG7.out.ly HXG7.out.s HXG7.out.la HV7.out HXC.out.2.2).mono ?_
    rintro e w8 ⟨g15, c15, y15, cy15, a15, ca15, rfl, r0, r1, r2, r3, ry, r4, r5, hb8⟩
    obtain ⟨b15, hb15⟩ : ∃ b15, b15 = w8.heap.size := ⟨_, rfl⟩
    obtain ⟨W8, hW8⟩ : ∃ W8, W8 = w8.alloc (.cells #[.slice (some ⟨g15, 0, none⟩) N c15, .slice (some ⟨y15, 0, none⟩) Y.length cy15, .int .i64 mk] 60) := ⟨_, rfl⟩
    have hb88 : Below w8.heap.size w8 W8 := by rw [hW8]; exact (Below.refl _ _).alloc (Nat.le_refl _) _
    have hbW8 : Below W7.heap.size W7 W8 := hb8.trans (hb88.mono hb8.size)
    have HLP8 : Hid (LG w W8 #[.slice ao N cap, .slice yo V ycap, .int .i64 mk] #[.int .i64 k, .int .i64 n, .string s, .slice xo l.length xcap] (.slice (some ⟨g8, 0, none⟩) N c8) (.slice (some ⟨y8, 0, none⟩) Y.length cy8) (.int .i64 mk) b8 g8 y8 a8 N f Y B M) := HLP7.out.call hbW8
    have HXG8 : Hid (GY W8 b12 g12 y12 a13 #[.slice (some ⟨g12, 0, none⟩) N N, .slice (some ⟨y12, 0, none⟩) V V, .int .i64 mk] N V L.length f fy (lf L)) := HXG7.out.call hbW8
    have HTX8 : Hid (TX W8 b14 #[.int .i64 k, .int .i64 n, .string s, .slice xa l.length xc] l bsx xa) := HTX7.out.call hbW8
    have HV8 : Hid (OsV W8 bsx t (.agg #[.int .i64 k, .int .i64 n, .string s, .slice xa l.length xc])) := OsV.below hbW8 HV7.out
    have HPG8 : Hid (GY W8 b15 g15 y15 a15 #[.slice (some ⟨g15, 0, none⟩) N c15, .slice (some ⟨y15, 0, none⟩) Y.length cy15, .int .i64 mk] N Y.length B.length f (lfI Y) (lf B)) := by rw [hW8, hb15]; exact gy_new r0 r1 r2 r3.2 ry.2 r4.2 _
    have HO8 : Hid (b14 < g15 ∧ b14 < a15 ∧ g15 < b15 ∧ a15 < b15 ∧ g15 ≠ a15 ∧ b14 < y15 ∧ y15 < b15 ∧ g15 ≠ y15 ∧ y15 ≠ a15) := ⟨by have := HO7.out.2.2; omega, by have := HO7.out.2.2; omega, by omega, by omega, r5.2.1, by have := HO7.out.2.2; omega, by omega, r5.1, r5.2.2⟩
    have q80 := HLP7.out.q80
    have q81 := HLP7.out.q81
    have q82 := HLP7.out.q82
    have q80' := (HLP7.out.call hb8).q80
    have q81' := (HLP7.out.call hb8).q81
    have q82' := (HLP7.out.call hb8).q82
    have hlt8 : b8 < w8.heap.size := by have := (HLP7.out.call hb8).l2; have := (HLP7.out.call hb8).l5; omega
    have hne8 : ¬ b8 = w8.heap.size := by omega
    clear r0 r1 r2 r3 ry r4 r5 hb8 hb88 hbW8 hW7 hb14 q12 hlt12 hne12 q80 q81 q82
    go_wp2_with (go_at_call 34; fail)
    rw [← hW8, ← hb15]
    refine (HEH.out W8 g15 c15 y15 cy15 HLP8.out HPG8.out.o HPG8.out.r).mono ?_
    rintro e w9 ⟨rfl, h4⟩
    have HLP9 : Hid (LG w w9 #[.slice ao N cap, .slice yo V ycap, .int .i64 mk] #[.int .i64 k, .int .i64 n, .string s, .slice xo l.length xcap] (.slice (some ⟨g8, 0, none⟩) N c8) (.slice (some ⟨y8, 0, none⟩) Y.length cy8) (.int .i64 mk) b8 g8 y8 a8 N f Y B M) := HLP8.out.call h4
    have HXG9 : Hid (GY w9 b12 g12 y12 a13 #[.slice (some ⟨g12, 0, none⟩) N N, .slice (some ⟨y12, 0, none⟩) V V, .int .i64 mk] N V L.length f fy (lf L)) := HXG8.out.call h4
    have HTX9 : Hid (TX w9 b14 #[.int .i64 k, .int .i64 n, .string s, .slice xa l.length xc] l bsx xa) := HTX8.out.call h4
    have HV9 : Hid (OsV w9 bsx t (.agg #[.int .i64 k, .int .i64 n, .string s, .slice xa l.length xc])) := OsV.below h4 HV8.out
    have HPG9 : Hid (GY w9 b15 g15 y15 a15 #[.slice (some ⟨g15, 0, none⟩) N c15, .slice (some ⟨y15, 0, none⟩) Y.length cy15, .int .i64 mk] N Y.length B.length f (lfI Y) (lf B)) := HPG8.out.call h4
    clear h4 hW8 hb15 q80' q81' q82' hlt8 hne8
    go_wp2_with (go_at_call 15; fail)
    refine (HES.out w9 a15 ca15 HLP9.out HPG9.out.s).mono ?_
    rintro e w10 ⟨rfl, h4⟩
    have HLPa : Hid (LG w w10 #[.slice ao N cap, .slice yo V ycap, .int .i64 mk] #[.int .i64 k, .int .i64 n, .string s, .slice xo l.length xcap] (.slice (some ⟨g8, 0, none⟩) N c8) (.slice (some ⟨y8, 0, none⟩) Y.length cy8) (.int .i64 mk) b8 g8 y8 a8 N f Y B M) := HLP9.out.call h4
    have HXGa : Hid (GY w10 b12 g12 y12 a13 #[.slice (some ⟨g12, 0, none⟩) N N, .slice (some ⟨y12, 0, none⟩) V V, .int .i64 mk] N V L.length f fy (lf L)) := HXG9.out.call h4
    have HTXa : Hid (TX w10 b14 #[.int .i64 k, .int .i64 n, .string s, .slice xa l.length xc] l bsx xa) := HTX9.out.call h4
    have HVa : Hid (OsV w10 bsx t (.agg #[.int .i64 k, .int .i64 n, .string s, .slice xa l.length xc])) := OsV.below h4 HV9.out
    have HPGa : Hid (GY w10 b15 g15 y15 a15 #[.slice (some ⟨g15, 0, none⟩) N c15, .slice (some ⟨y15, 0, none⟩) Y.length cy15, .int .i64 mk] N Y.length B.length f (lfI Y) (lf B)) := HPG9.out.call h4
    clear h4
    have q12 := HXGa.out.q
    have q3 := HLPa.out.q3
    have HKa : Hid (Below w10.heap.size w10 w10.drew) := (Below.refl _ _).drew
    have HQ18 : Hid (∀ wc, Below w10.heap.size w10 wc → wc.cell? ⟨b12, 0, none⟩ = some (.slice (some ⟨g12, 0, none⟩) N N) ∧ wc.cell? ⟨b12, 1, none⟩ = some (.slice (some ⟨y12, 0, none⟩) V V) ∧ wc.cell? ⟨b12, 2, none⟩ = some (.int .i64 mk) ∧ wc.cell? ⟨w.heap.size, 0, none⟩ = some (.slice ao N cap) ∧ wc.cell? ⟨w.heap.size, 1, none⟩ = some (.slice yo V ycap) ∧ wc.cell? ⟨w.heap.size, 2, none⟩ = some (.int .i64 mk)) := fun wc hb => ⟨(HXGa.out.call hb).q 0, (HXGa.out.call hb).q 1, (HXGa.out.call hb).q 2, (HLPa.out.call hb).q3 0, (HLPa.out.call hb).q3 1, (HLPa.out.call hb).q3 2⟩
    have S18 := HQ18.out w10.drew HKa.out
    go_wp2_with fail
    go_region_held3 (fun wc => wc.cell? ⟨b12, 0, none⟩ = some (.slice (some ⟨g12, 0, none⟩) N N) ∧ wc.cell? ⟨b12, 1, none⟩ = some (.slice (some ⟨y12, 0, none⟩) V V) ∧ wc.cell? ⟨b12, 2, none⟩ = some (.int .i64 mk) ∧ wc.cell? ⟨w.heap.size, 0, none⟩ = some (.slice ao N cap) ∧ wc.cell? ⟨w.heap.size, 1, none⟩ = some (.slice yo V ycap) ∧ wc.cell? ⟨w.heap.size, 2, none⟩ = some (.int .i64 mk)) (first | (refine HQ18.out _ ?_; first | with_reducible exact HKa.out | with_reducible exact HE1.out.1 | with_reducible exact HE2.out; done) | go_keep) (first
      | (go_at_call 32; (with_reducible refine (HTH.out w10.drew HLPa.out.bel.drew).mono ?_); rintro e wE ⟨gE, yE, rfl, h1, h2, h3, h4⟩; have HE1 : Hid (Below w10.heap.size w10 wE ∧ Ints wE gE 0 N f ∧ Ints wE yE 0 V fy) := ⟨belJn HKa.out h4, h2, h3⟩; clear h1 h2 h3 h4)
      | (go_at_call 34; (with_reducible refine (eqGens_same _ _ _ _ N N N V V V f fy mk wE (HXGa.out.call HE1.out.1).o.rdI HE1.out.2.1.rdI (HXGa.out.call HE1.out.1).r.rdI HE1.out.2.2.rdI HFW.out).mono ?_); rintro e wF ⟨rfl, h4⟩; have HE2 : Hid (Below w10.heap.size w10 wF) := belJn HE1.out.1 h4; clear h4))
    all_goals
      have h4 := HE2.out
      have HLPb : Hid (LG w wF #[.slice ao N cap, .slice yo V ycap, .int .i64 mk] #[.int .i64 k, .int .i64 n, .string s, .slice xo l.length xcap] (.slice (some ⟨g8, 0, none⟩) N c8) (.slice (some ⟨y8, 0, none⟩) Y.length cy8) (.int .i64 mk) b8 g8 y8 a8 N f Y B M) := HLPa.out.call h4
      have HXGb : Hid (GY wF b12 g12 y12 a13 #[.slice (some ⟨g12, 0, none⟩) N N, .slice (some ⟨y12, 0, none⟩) V V, .int .i64 mk] N V L.length f fy (lf L)) := HXGa.out.call h4
      have HTXb : Hid (TX wF b14 #[.int .i64 k, .int .i64 n, .string s, .slice xa l.length xc] l bsx xa) := HTXa.out.call h4
      have HVb : Hid (OsV wF bsx t (.agg #[.int .i64 k, .int .i64 n, .string s, .slice xa l.length xc])) := OsV.below h4 HVa.out
      have HPGb : Hid (GY wF b15 g15 y15 a15 #[.slice (some ⟨g15, 0, none⟩) N c15, .slice (some ⟨y15, 0, none⟩) Y.length cy15, .int .i64 mk] N Y.length B.length f (lfI Y) (lf B)) := HPGa.out.call h4
      clear h4 q12 q3 S18
      go_wp2_with (go_at_call 11; fail)
      refine (HTS.out wF HLPb.out.bel).mono ?_
      rintro e w11 ⟨aE, rfl, h1, h2, h3, h4⟩
      have HE3 : Hid (Sts w11 aE L.length (lf L) ∧ Below wF.heap.size wF w11) := ⟨h2, h4⟩
      clear h1 h2 h3 h4
      go_wp2_with (go_at_call 15; fail)
      refine (eqStr_same _ _ L.length L.length L w11 (HXGb.out.call HE3.out.2).s.txt.rd HE3.out.1.txt.rd (by have := HZT.out.2; omega)).mono ?_
      rintro e w12 ⟨rfl, h5⟩
      have h4 := belJn HE3.out.2 h5
      have HLPc : Hid (LG w w12 #[.slice ao N cap, .slice yo V ycap, .int .i64 mk] #[.int .i64 k, .int .i64 n, .string s, .slice xo l.length xcap] (.slice (some ⟨g8, 0, none⟩) N c8) (.slice (some ⟨y8, 0, none⟩) Y.length cy8) (.int .i64 mk) b8 g8 y8 a8 N f Y B M) := HLPb.out.call h4
      have HXGc : Hid (GY w12 b12 g12 y12 a13 #[.slice (some ⟨g12, 0, none⟩) N N, .slice (some ⟨y12, 0, none⟩) V V, .int .i64 mk] N V L.length f fy (lf L)) := HXGb.out.call h4
      have HTXc : Hid (TX w12 b14 #[.int .i64 k, .int .i64 n, .string s, .slice xa l.length xc] l bsx xa) := HTXb.out.call h4
      have HVc : Hid (OsV w12 bsx t (.agg #[.int .i64 k, .int .i64 n, .string s, .slice xa l.length xc])) := OsV.below h4 HVb.out
      have HPGc : Hid (GY w12 b15 g15 y15 a15 #[.slice (some ⟨g15, 0, none⟩) N c15, .slice (some ⟨y15, 0, none⟩) Y.length cy15, .int .i64 mk] N Y.length B.length f (lfI Y) (lf B)) := HPGb.out.call h4
      have HKc : Hid (Below w12.heap.size w12 w12.drew) := (Below.refl _ _).drew
      have HQ22 : Hid (∀ wc, Below w12.heap.size w12 wc → wc.cell? ⟨b14, 0, none⟩ = some (.int .i64 k) ∧ wc.cell? ⟨b14, 1, none⟩ = some (.int .i64 n) ∧ wc.cell? ⟨b14, 2, none⟩ = some (.string s) ∧ wc.cell? ⟨b14, 3, none⟩ = some (.slice xa l.length xc) ∧ wc.cell? ⟨w.heap.size + 1, 0, none⟩ = some (.int .i64 k) ∧ wc.cell? ⟨w.heap.size + 1, 1, none⟩ = some (.int .i64 n) ∧ wc.cell? ⟨w.heap.size + 1, 2, none⟩ = some (.string s) ∧ wc.cell? ⟨w.heap.size + 1, 3, none⟩ = some (.slice xo l.length xcap)) := fun wc hb => by
        have t1 := (HTXc.out.call hb).q
        have t2 := (HLPc.out.call hb).q5
        exact ⟨t1 0, t1 1, t1 2, t1 3, t2 0, t2 1, t2 2, t2 3⟩
      have S22 := HQ22.out w12.drew HKc.out
      have HEQT : Hid (∀ wc va vb, RepV 0 wc t va → RepV 0 wc t vb → Calls Try.prog 16 #[va, vb] wc fun e w' => e = .returned (.bool true) ∧ Below wc.heap.size wc w') := fun wc va vb h1 h2 => eqT_all t 0 wc va vb h1 h2
      clear h4 h5
      go_wp2_with fail
      go_region_held3 (fun wc => wc.cell? ⟨b14, 0, none⟩ = some (.int .i64 k) ∧ wc.cell? ⟨b14, 1, none⟩ = some (.int .i64 n) ∧ wc.cell? ⟨b14, 2, none⟩ = some (.string s) ∧ wc.cell? ⟨b14, 3, none⟩ = some (.slice xa l.length xc) ∧ wc.cell? ⟨w.heap.size + 1, 0, none⟩ = some (.int .i64 k) ∧ wc.cell? ⟨w.heap.size + 1, 1, none⟩ = some (.int .i64 n) ∧ wc.cell? ⟨w.heap.size + 1, 2, none⟩ = some (.string s) ∧ wc.cell? ⟨w.heap.size + 1, 3, none⟩ = some (.slice xo l.length xcap)) (first | (refine HQ22.out _ ?_; first | with_reducible exact HKc.out | with_reducible exact HE4.out.1 | with_reducible exact HE5.out; done) | go_keep) (first
        | (go_at_call 12; (with_reducible refine (HTO.out w12.drew HLPc.out.bel.drew).mono ?_); rintro e wG ⟨ya, yc, bsy, rfl, h4, h5, _, _, _, _, _⟩; have HE4 : Hid (Below w12.heap.size w12 wG ∧ OsV wG bsy t (.agg #[.int .i64 k, .int .i64 n, .string s, .slice ya l.length yc])) := ⟨belJn HKc.out h4, h5⟩; clear h4 h5)
        | (go_at_call 16; (with_reducible refine (HEQT.out wG _ _ (OsV.below HE4.out.1 HVc.out).rep HE4.out.2.rep).mono ?_); rintro e wH ⟨rfl, h6⟩; have HE5 : Hid (Below w12.heap.size w12 wH) := belJn HE4.out.1 h6; clear h6))
      all_goals
        have h4 := HE5.out
        have HLPd : Hid (LG w wH #[.slice ao N cap, .slice yo V ycap, .int .i64 mk] #[.int .i64 k, .int .i64 n, .string s, .slice xo l.length xcap] (.slice (some ⟨g8, 0, none⟩) N c8) (.slice (some ⟨y8, 0, none⟩) Y.length cy8) (.int .i64 mk) b8 g8 y8 a8 N f Y B M) := HLPc.out.call h4
        have HXGd : Hid (GY wH b12 g12 y12 a13 #[.slice (some ⟨g12, 0, none⟩) N N, .slice (some ⟨y12, 0, none⟩) V V, .int .i64 mk] N V L.length f fy (lf L)) := HXGc.out.call h4
        have HTXd : Hid (TX wH b14 #[.int .i64 k, .int .i64 n, .string s, .slice xa l.length xc] l bsx xa) := HTXc.out.call h4
        have HPGd : Hid (GY wH b15 g15 y15 a15 #[.slice (some ⟨g15, 0, none⟩) N c15, .slice (some ⟨y15, 0, none⟩) Y.length cy15, .int .i64 mk] N Y.length B.length f (lfI Y) (lf B)) := HPGc.out.call h4
        clear h4 S22
        have q12 := HXGd.out.q
        obtain ⟨K1, hK1⟩ : ∃ K1 : Nat, K1 = 1 + N + V := ⟨_, rfl⟩
        obtain ⟨K2, hK2⟩ : ∃ K2 : Nat, K2 = K1 + L.length := ⟨_, rfl⟩
        obtain ⟨K3, hK3⟩ : ∃ K3 : Nat, K3 = K2 + cL l := ⟨_, rfl⟩
        have HKK : Hid (K1 = 1 + N + V ∧ K2 = K1 + L.length ∧ K3 = K2 + cL l) := ⟨hK1, hK2, hK3⟩
        have HM1 : Hid (Calls Try.prog 35 #[(.agg #[.slice (some ⟨g12, 0, none⟩) N N, .slice (some ⟨y12, 0, none⟩) V V, .int .i64 mk]), .int .i64 1] wH fun e w' => e = .returned (.int .i64 (K1 : Int)) ∧ OutB [g12, y12] wH w') := (markGQ g12 y12 N V N V f fy mk wH HXGd.out.o HXGd.out.r (by have := HO6.out; omega) HXGd.out.lg HXGd.out.ly HFW.out.1 HFW.out.2).mono fun e w' ⟨h1, h2⟩ => ⟨by rw [h1, hK1]; exact ret_int (by omega), h2.outB⟩
        clear hK1 hK2 hK3
        go_wp2_with (go_at_call 35; fail)
        refine HM1.out.mono ?_
        rintro e w13 ⟨rfl, ht⟩
        have HLPe : Hid (LG w w13 #[.slice ao N cap, .slice yo V ycap, .int .i64 mk] #[.int .i64 k, .int .i64 n, .string s, .slice xo l.length xcap] (.slice (some ⟨g8, 0, none⟩) N c8) (.slice (some ⟨y8, 0, none⟩) Y.length cy8) (.int .i64 mk) b8 g8 y8 a8 N f Y B M) := HLPd.out.next (outM ht HLPd.out.l5 (fun b hb => by have := HO6.out; simp only [List.mem_cons, List.not_mem_nil, or_false] at hb; omega))
        have HS13 : Hid (Sts w13 a13 L.length (lf L) ∧ a13 < w13.heap.size) := ⟨HXGd.out.s.heap (ht.block a13 HXGd.out.la (fun hb => by have := HO6.out; simp only [List.mem_cons, List.not_mem_nil, or_false] at hb; omega)), Nat.lt_of_lt_of_le HXGd.out.la ht.size⟩
        have HTXe : Hid (TX w13 b14 #[.int .i64 k, .int .i64 n, .string s, .slice xa l.length xc] l bsx xa) := HTXd.out.out ht (fun hb => by have := HO6.out; have := HO7.out.2.1; simp only [List.mem_cons, List.not_mem_nil, or_false] at hb; omega) (fun z hz h => by have := (HO7.out.1 _ h).1; have := HO6.out; simp only [List.mem_cons, List.not_mem_nil, or_false] at hz; omega)
        have HPGe : Hid (GY w13 b15 g15 y15 a15 #[.slice (some ⟨g15, 0, none⟩) N c15, .slice (some ⟨y15, 0, none⟩) Y.length cy15, .int .i64 mk] N Y.length B.length f (lfI Y) (lf B)) := HPGd.out.out ht (fun hb => by have := HO6.out; have := HO7.out.2; have := HO8.out; simp only [List.mem_cons, List.not_mem_nil, or_false] at hb; omega) (fun hb => by have := HO6.out; have := HO7.out.2; have := HO8.out; simp only [List.mem_cons, List.not_mem_nil, or_false] at hb; omega) (fun hb => by have := HO6.out; have := HO7.out.2; have := HO8.out; simp only [List.mem_cons, List.not_mem_nil, or_false] at hb; omega) (fun hb => by have := HO6.out; have := HO7.out.2; have := HO8.out; simp only [List.mem_cons, List.not_mem_nil, or_false] at hb; omega)
        clear ht q12
        go_wp2_with (go_at_call 18; fail)
        refine (markStr2_any a13 L.length L.length (lf L) w13 HS13.out.1 HS13.out.2 (by have := HZT.out.2; omega) K1 (by have := HKK.out.1; omega) (by have := HKK.out.1; have := HFW.out.1; have := HFW.out.2; omega)).mono ?_
        rintro e w14 ⟨rfl, ht, _⟩
        have e2 : (K1 : Int) + (L.length : Int) = (K2 : Int) := by have := HKK.out.2.1; omega
        rw [e2]
        clear e2
        have HLPf : Hid (LG w w14 #[.slice ao N cap, .slice yo V ycap, .int .i64 mk] #[.int .i64 k, .int .i64 n, .string s, .slice xo l.length xcap] (.slice (some ⟨g8, 0, none⟩) N c8) (.slice (some ⟨y8, 0, none⟩) Y.length cy8) (.int .i64 mk) b8 g8 y8 a8 N f Y B M) := HLPe.out.next (turnM ht HLPe.out.l5 (by have := HO6.out; omega))
        have HTXf : Hid (TX w14 b14 #[.int .i64 k, .int .i64 n, .string s, .slice xa l.length xc] l bsx xa) := HTXe.out.turn ht (by have := HO7.out.2.1; omega) (fun h => by have := (HO7.out.1 _ h).1; omega)
        have HPGf : Hid (GY w14 b15 g15 y15 a15 #[.slice (some ⟨g15, 0, none⟩) N c15, .slice (some ⟨y15, 0, none⟩) Y.length cy15, .int .i64 mk] N Y.length B.length f (lfI Y) (lf B)) := HPGe.out.turn ht (by have := HO7.out.2; have := HO8.out; omega) (by have := HO7.out.2; have := HO8.out; omega) (by have := HO7.out.2; have := HO8.out; omega) (by have := HO7.out.2; have := HO8.out; omega)
        have q14 := HTXf.out.q
        clear ht
        go_wp2_with (go_at_call 19; fail)
        refine (markTermK_any k n s l xa xc bsx w14 HTXf.out.os HXC.out.2.2 HXC.out.1 HXC.out.2.1 K2 (by have := HKK.out; omega) (by have := HKK.out; have := HZT.out.2; have := HNT.out.2; omega)).mono ?_
        rintro e w15 ⟨rfl, _, ho⟩
        rw [← HKK.out.2.2]
        have HLPg : Hid (LG w w15 #[.slice ao N cap, .slice yo V ycap, .int .i64 mk] #[.int .i64 k, .int .i64 n, .string s, .slice xo l.length xcap] (.slice (some ⟨g8, 0, none⟩) N c8) (.slice (some ⟨y8, 0, none⟩) Y.length cy8) (.int .i64 mk) b8 g8 y8 a8 N f Y B M) := HLPf.out.next (outM ho HLPf.out.l5 (fun b hb => by have := (HO7.out.1 b hb).1; have := HO6.out; omega))
        have HPGg : Hid (GY w15 b15 g15 y15 a15 #[.slice (some ⟨g15, 0, none⟩) N c15, .slice (some ⟨y15, 0, none⟩) Y.length cy15, .int .i64 mk] N Y.length B.length f (lfI Y) (lf B)) := HPGf.out.out ho (fun h => by have := (HO7.out.1 _ h).2; have := HO8.out; omega) (fun h => by have := (HO7.out.1 _ h).2; have := HO8.out; omega) (fun h => by have := (HO7.out.1 _ h).2; have := HO8.out; omega) (fun h => by have := (HO7.out.1 _ h).2; have := HO8.out; omega)
        clear ho q14
        have hK30 : ¬ (K3 : Int) < 0 := by omega
        have q15 := HPGg.out.q
        have q80 := HLPg.out.q80
        have q81 := HLPg.out.q81
        have q82 := HLPg.out.q82
        go_wp2_with (go_at_call 34; fail)
        refine (HEH.out w15 g15 c15 y15 cy15 HLPg.out HPGg.out.o HPGg.out.r).mono ?_
        rintro e w16 ⟨rfl, h4⟩
        have HLPh : Hid (LG w w16 #[.slice ao N cap, .slice yo V ycap, .int .i64 mk] #[.int .i64 k, .int .i64 n, .string s, .slice xo l.length xcap] (.slice (some ⟨g8, 0, none⟩) N c8) (.slice (some ⟨y8, 0, none⟩) Y.length cy8) (.int .i64 mk) b8 g8 y8 a8 N f Y B M) := HLPg.out.call h4
        have HPGh : Hid (GY w16 b15 g15 y15 a15 #[.slice (some ⟨g15, 0, none⟩) N c15, .slice (some ⟨y15, 0, none⟩) Y.length cy15, .int .i64 mk] N Y.length B.length f (lfI Y) (lf B)) := HPGg.out.call h4
        clear h4 q15 q80 q81 q82
        go_wp2_with (go_at_call 15; fail)
        refine (HES.out w16 a15 ca15 HLPh.out HPGh.out.s).mono ?_
        rintro e w17 ⟨rfl, h4⟩
        have HLPi : Hid (LG w w17 #[.slice ao N cap, .slice yo V ycap, .int .i64 mk] #[.int .i64 k, .int .i64 n, .string s, .slice xo l.length xcap] (.slice (some ⟨g8, 0, none⟩) N c8) (.slice (some ⟨y8, 0, none⟩) Y.length cy8) (.int .i64 mk) b8 g8 y8 a8 N f Y B M) := HLPh.out.call h4
        have HPGi : Hid (GY w17 b15 g15 y15 a15 #[.slice (some ⟨g15, 0, none⟩) N c15, .slice (some ⟨y15, 0, none⟩) Y.length cy15, .int .i64 mk] N Y.length B.length f (lfI Y) (lf B)) := HPGh.out.call h4
        clear h4
        have q15 := HPGi.out.q
        obtain ⟨K4, hK4⟩ : ∃ K4 : Nat, K4 = 1 + N + Y.length := ⟨_, rfl⟩
        obtain ⟨K5, hK5⟩ : ∃ K5 : Nat, K5 = K4 + B.length := ⟨_, rfl⟩
        have HK4 : Hid (K4 = 1 + N + Y.length ∧ K5 = K4 + B.length) := ⟨hK4, hK5⟩
        have HM4 : Hid (Calls Try.prog 35 #[.agg #[.slice (some ⟨g15, 0, none⟩) N c15, .slice (some ⟨y15, 0, none⟩) Y.length cy15, .int .i64 mk], .int .i64 1] w17 fun e w' => e = .returned (.int .i64 (K4 : Int)) ∧ MkQ w17 w' g15 y15 N Y.length) := (markGQ g15 y15 N Y.length c15 cy15 f (lfI Y) mk w17 HPGi.out.o HPGi.out.r HO8.out.2.2.2.2.2.2.2.1 HPGi.out.lg HPGi.out.ly HFW.out.1 HYB.out.1).mono fun e w' ⟨h1, h2⟩ => ⟨by rw [h1, hK4]; exact ret_int (by omega), h2⟩
        have HH4 : Hid (∀ wc, Ints wc g15 0 N (fun j => 1 + (j : Int)) → Ints wc y15 0 Y.length (fun j => 1 + (N : Int) + j) → g15 < wc.heap.size → y15 < wc.heap.size → Calls Try.prog 36 #[.agg #[.slice (some ⟨g15, 0, none⟩) N c15, .slice (some ⟨y15, 0, none⟩) Y.length cy15, .int .i64 mk], .int .i64 1] wc fun e w' => e = .returned (.int .i64 (K4 : Int)) ∧ Below wc.heap.size wc w') := fun wc h1 h1y h2 h2y => (heldGQ g15 y15 N Y.length c15 cy15 mk wc h1 h1y h2 h2y HFW.out.1 HYB.out.1).mono fun e w' ⟨h1, h2⟩ => ⟨by rw [h1, hK4]; exact ret_int (by omega), h2⟩
        have HH5 : Hid (∀ wc, Sts wc a15 B.length (fun j => mkT (K4 + j)) → a15 < wc.heap.size → Calls Try.prog 21 #[.slice (some ⟨a15, 0, none⟩) B.length ca15, .int .i64 (K4 : Int)] wc fun e w' => e = .returned (.int .i64 (K5 : Int)) ∧ Below wc.heap.size wc w') := fun wc h1 h2 => (heldStrK_any a15 B.length ca15 K4 wc (by omega) (by have := HYB.out.2.2; omega) h1 h2 HYB.out.2.1).mono fun e w' ⟨h1, h2⟩ => ⟨by rw [h1, hK5]; exact ret_int (by omega), h2⟩
        clear hK4 hK5
        go_wp2_with (go_at_call 35; fail)
        refine HM4.out.mono ?_
        rintro e w18 ⟨rfl, ht⟩
        have HLPj : Hid (LG w w18 #[.slice ao N cap, .slice yo V ycap, .int .i64 mk] #[.int .i64 k, .int .i64 n, .string s, .slice xo l.length xcap] (.slice (some ⟨g8, 0, none⟩) N c8) (.slice (some ⟨y8, 0, none⟩) Y.length cy8) (.int .i64 mk) b8 g8 y8 a8 N f Y B M) := HLPi.out.next (outM ht.outB HLPi.out.l5 (fun b hb => by have := HO6.out; have := HO7.out.2; have := HO8.out; simp only [List.mem_cons, List.not_mem_nil, or_false] at hb; omega))
        have HPGj : Hid (GY w18 b15 g15 y15 a15 #[.slice (some ⟨g15, 0, none⟩) N c15, .slice (some ⟨y15, 0, none⟩) Y.length cy15, .int .i64 mk] N Y.length B.length (fun j => 1 + (j : Int)) (fun j => 1 + (N : Int) + j) (lf B)) := ⟨fun o => by rw [World.cell?_of_block (w := w17) (ht.block b15 HPGi.out.lb (by have := HO8.out; omega) (by have := HO8.out; omega))]; exact HPGi.out.q o, ht.i1, ht.i2, HPGi.out.s.heap (ht.block a15 HPGi.out.la (by have := HO8.out; omega) (by have := HO8.out; omega)), Nat.lt_of_lt_of_le HPGi.out.lb ht.size, Nat.lt_of_lt_of_le HPGi.out.lg ht.size, Nat.lt_of_lt_of_le HPGi.out.ly ht.size, Nat.lt_of_lt_of_le HPGi.out.la ht.size⟩
        clear ht q15
        go_wp2_with (go_at_call 18; fail)
        refine (markStr2_any a15 B.length ca15 (lf B) w18 HPGj.out.s HPGj.out.la HYB.out.2.1 K4 (by have := HK4.out.1; omega) (by have := HK4.out.1; have := HYB.out.2.2; omega)).mono ?_
        rintro e w19 ⟨rfl, ht, hi⟩
        have e2 : (K4 : Int) + (B.length : Int) = (K5 : Int) := by have := HK4.out.2; omega
        rw [e2]
        clear e2
        have HLPk : Hid (LG w w19 #[.slice ao N cap, .slice yo V ycap, .int .i64 mk] #[.int .i64 k, .int .i64 n, .string s, .slice xo l.length xcap] (.slice (some ⟨g8, 0, none⟩) N c8) (.slice (some ⟨y8, 0, none⟩) Y.length cy8) (.int .i64 mk) b8 g8 y8 a8 N f Y B M) := HLPj.out.next (turnM ht HLPj.out.l5 (by have := HO6.out; have := HO7.out.2; have := HO8.out; omega))
        have HPGk : Hid (GY w19 b15 g15 y15 a15 #[.slice (some ⟨g15, 0, none⟩) N c15, .slice (some ⟨y15, 0, none⟩) Y.length cy15, .int .i64 mk] N Y.length B.length (fun j => 1 + (j : Int)) (fun j => 1 + (N : Int) + j) (fun j => mkT (K4 + j))) := ⟨fun o => by rw [World.cell?_of_block (w := w18) (ht.block b15 HPGj.out.lb (by have := HO8.out; omega))]; exact HPGj.out.q o, HPGj.out.o.heap (ht.block g15 HPGj.out.lg (by have := HO8.out; omega)), HPGj.out.r.heap (ht.block y15 HPGj.out.ly (by have := HO8.out; omega)), hi, Nat.lt_of_lt_of_le HPGj.out.lb ht.size, Nat.lt_of_lt_of_le HPGj.out.lg ht.size, Nat.lt_of_lt_of_le HPGj.out.ly ht.size, Nat.lt_of_lt_of_le HPGj.out.la ht.size⟩
        clear ht hi
        have q15 := HPGk.out.q
        have hK40 : ¬ (K4 : Int) < 0 := by omega
        have hK50 : ¬ (K5 : Int) < 0 := by omega
        have hKK : ((K5 : Int) != (K5 : Int)) = false := by simp
        go_wp2_with (go_at_call 36; fail)
        refine (HH4.out w19 HPGk.out.o HPGk.out.r HPGk.out.lg HPGk.out.ly).mono ?_
        rintro e w20 ⟨rfl, h4⟩
        have HLPl : Hid (LG w w20 #[.slice ao N cap, .slice yo V ycap, .int .i64 mk] #[.int .i64 k, .int .i64 n, .string s, .slice xo l.length xcap] (.slice (some ⟨g8, 0, none⟩) N c8) (.slice (some ⟨y8, 0, none⟩) Y.length cy8) (.int .i64 mk) b8 g8 y8 a8 N f Y B M) := HLPk.out.call h4
        have HPGl : Hid (GY w20 b15 g15 y15 a15 #[.slice (some ⟨g15, 0, none⟩) N c15, .slice (some ⟨y15, 0, none⟩) Y.length cy15, .int .i64 mk] N Y.length B.length (fun j => 1 + (j : Int)) (fun j => 1 + (N : Int) + j) (fun j => mkT (K4 + j))) := HPGk.out.call h4
        clear h4 q15
        go_wp2_with (go_at_call 21; fail)
        refine (HH5.out w20 HPGl.out.s HPGl.out.la).mono ?_
        rintro e w40 ⟨rfl, h4⟩
        have HLPm : Hid (LG w w40 #[.slice ao N cap, .slice yo V ycap, .int .i64 mk] #[.int .i64 k, .int .i64 n, .string s, .slice xo l.length xcap] (.slice (some ⟨g8, 0, none⟩) N c8) (.slice (some ⟨y8, 0, none⟩) Y.length cy8) (.int .i64 mk) b8 g8 y8 a8 N f Y B M) := HLPl.out.call h4
        have HPGm : Hid (GY w40 b15 g15 y15 a15 #[.slice (some ⟨g15, 0, none⟩) N c15, .slice (some ⟨y15, 0, none⟩) Y.length cy15, .int .i64 mk] N Y.length B.length (fun j => 1 + (j : Int)) (fun j => 1 + (N : Int) + j) (fun j => mkT (K4 + j))) := HPGl.out.call h4
        clear h4
        have HBX2 : Hid (Below w.heap.size w w40) := HLPm.out.bel
        have HQX2 : Hid (∀ wc, Below w40.heap.size w40 wc → (∀ o, wc.cell? ⟨w.heap.size, o, none⟩ = (#[.slice ao N cap, .slice yo V ycap, .int .i64 mk] : Array Value)[o]?) ∧ (∀ o, wc.cell? ⟨w.heap.size + 1, o, none⟩ = (#[.int .i64 k, .int .i64 n, .string s, .slice xo l.length xcap] : Array Value)[o]?)) := fun wc hb => ⟨(HLPm.out.call hb).q3, (HLPm.out.call hb).q5⟩
        go_wp2_with fail
        have belW2 : Hid (∀ wc, Below w40.heap.size w40 wc → Below w.heap.size w wc) := fun wc hb => HBX2.out.trans (hb.mono HBX2.out.size)
        have HQS2 : Hid (∀ wc, Below w40.heap.size w40 wc → wc.cell? ⟨w.heap.size, 0, none⟩ = some (.slice ao N cap) ∧ wc.cell? ⟨w.heap.size, 1, none⟩ = some (.slice yo V ycap) ∧ wc.cell? ⟨w.heap.size, 2, none⟩ = some (.int .i64 mk) ∧ wc.cell? ⟨w.heap.size + 1, 0, none⟩ = some (.int .i64 k) ∧ wc.cell? ⟨w.heap.size + 1, 1, none⟩ = some (.int .i64 n) ∧ wc.cell? ⟨w.heap.size + 1, 2, none⟩ = some (.string s) ∧ wc.cell? ⟨w.heap.size + 1, 3, none⟩ = some (.slice xo l.length xcap)) := fun wc hb => by
          obtain ⟨h1, h2⟩ := HQX2.out wc hb
          exact ⟨h1 0, h1 1, h1 2, h2 0, h2 1, h2 2, h2 3⟩
        have HK02 : Hid (Below w40.heap.size w40 w40.drew) := (Below.refl _ _).drew
        have HK0z2 : Hid (Below w40.heap.size w40 (w40.alloc (.cells #[.slice none 0 0, .slice none 0 0, .int .i64 0] 60)).drew) := ((Below.refl _ _).alloc (Nat.le_refl _) _).drew
        have S02 := HQS2.out w40.drew HK02.out
        go_cut [22, 23, 24, 25] from 155 to 166 (fun v8 v9 v10 v11 wx => ∃ (b8 g8 c8 y8 cy8 a8 ca8 : Nat) (Y : List Int) (B : List ByteArray) (x : Int) (ok : Bool), v8 = .pointer (some ⟨b8, 0, none⟩) ∧ v9 = .slice (some ⟨a8, 0, none⟩) B.length ca8 ∧ v10 = .int .i64 x ∧ v11 = .bool ok ∧ OutR (rowF V fy) L R Y B x ok ∧ Below w40.heap.size w40 wx ∧ GZ wx b8 g8 y8 a8 (.slice (some ⟨g8, 0, none⟩) N c8) (.slice (some ⟨y8, 0, none⟩) Y.length cy8) (.int .i64 mk) N Y.length B.length f (lfI Y) (lf B))
        case first =>
          go_region_held3 (fun wc => wc.cell? ⟨w.heap.size, 0, none⟩ = some (.slice ao N cap) ∧ wc.cell? ⟨w.heap.size, 1, none⟩ = some (.slice yo V ycap) ∧ wc.cell? ⟨w.heap.size, 2, none⟩ = some (.int .i64 mk) ∧ wc.cell? ⟨w.heap.size + 1, 0, none⟩ = some (.int .i64 k) ∧ wc.cell? ⟨w.heap.size + 1, 1, none⟩ = some (.int .i64 n) ∧ wc.cell? ⟨w.heap.size + 1, 2, none⟩ = some (.string s) ∧ wc.cell? ⟨w.heap.size + 1, 3, none⟩ = some (.slice xo l.length xcap)) (first | (refine HQS2.out _ ?_; first | with_reducible exact HKD2.out | with_reducible exact HKC2.out | with_reducible exact HKB2.out | with_reducible exact HKA2.out | with_reducible exact HK02.out | with_reducible exact HK0z2.out | with_reducible exact belAl HKD2.out _ | with_reducible exact belAl HKC2.out _ | with_reducible exact belAl HKB2.out _ | with_reducible exact belAl HKA2.out _ | with_reducible exact belAl HK02.out _ | with_reducible exact HSET2.out _ _ _; done) | go_keep) (first
            | (go_at_call 32; (refine (HTH.out _ ?_).mono ?_); (focus (first | with_reducible exact belW2.out _ HK02.out | with_reducible exact belW2.out _ (belAl HK02.out _) | with_reducible exact belW2.out _ HK0z2.out)); rintro e wA2 ⟨gA2, yA2, rfl, hA1, hA2, hA3, hA4⟩; have HKA2 : Hid (Below w40.heap.size w40 wA2) := hidP (by first | with_reducible exact belJn HK02.out hA4 | with_reducible exact belJn (belAl HK02.out _) hA4 | with_reducible exact belJn HK0z2.out hA4); have HA2 : Hid (Ints wA2 gA2 0 N f ∧ Ints wA2 yA2 0 V fy ∧ gA2 < wA2.heap.size ∧ yA2 < wA2.heap.size) := ⟨hA2, hA3, Nat.lt_trans hA1.2.1 hA1.2.2, hA1.2.2⟩; (first | (have HZA2 : Hid (Zg w40.heap.size wA2 w40.heap.size) := Zg.below (Zg.newd w40 (Nat.le_refl _)) hA4) | skip); clear hA1 hA2 hA3 hA4)
            | (go_at_call 11; (refine (HTS.out _ ?_).mono ?_); (focus (first | with_reducible exact belW2.out _ HKA2.out | with_reducible exact belW2.out _ (belAl HKA2.out _) | with_reducible exact belW2.out _ HK0z2.out)); rintro e wB2 ⟨aB2, rfl, hA1, hA2, hA3, hA4⟩; have HKB2 : Hid (Below w40.heap.size w40 wB2) := hidP (by first | with_reducible exact belJn HKA2.out hA4 | with_reducible exact belJn (belAl HKA2.out _) hA4 | with_reducible exact belJn HK0z2.out hA4); have HBB2 : Hid (Ints wB2 gA2 0 N f ∧ Ints wB2 yA2 0 V fy ∧ gA2 < wB2.heap.size ∧ yA2 < wB2.heap.size ∧ Sts wB2 aB2 L.length (lf L) ∧ aB2 < wB2.heap.size) := ⟨intsN HA2.out.1 hA4 HA2.out.2.2.1 (by first | exact .inl rfl | exact .inr ⟨_, rfl⟩), intsN HA2.out.2.1 hA4 HA2.out.2.2.2 (by first | exact .inl rfl | exact .inr ⟨_, rfl⟩), ltN hA4 HA2.out.2.2.1 (by first | exact .inl rfl | exact .inr ⟨_, rfl⟩), ltN hA4 HA2.out.2.2.2 (by first | exact .inl rfl | exact .inr ⟨_, rfl⟩), hA2, hA3⟩; (first | (have HZB2 : Hid (Zg w40.heap.size wB2 wA2.heap.size) := Zg.below (Zg.new wA2 HKA2.out.size) hA4) | (have HZB2 := hidP (Zg.below HZA2.out hA4)) | skip); clear hA1 hA2 hA3 hA4)
            | (go_at_call 12; (refine (HTO.out _ ?_).mono ?_); (focus (first | with_reducible exact belW2.out _ HKB2.out | with_reducible exact belW2.out _ (belAl HKB2.out _) | with_reducible exact belW2.out _ HK0z2.out)); rintro e wC2 ⟨ya2, yc2, bsC2, rfl, hA4, hA5, _, _, _, hA6, _⟩; have HKC2 : Hid (Below w40.heap.size w40 wC2) := hidP (by first | with_reducible exact belJn HKB2.out hA4 | with_reducible exact belJn (belAl HKB2.out _) hA4 | with_reducible exact belJn HK0z2.out hA4); have HCC2 : Hid (Ints wC2 gA2 0 N f ∧ Ints wC2 yA2 0 V fy ∧ gA2 < wC2.heap.size ∧ yA2 < wC2.heap.size ∧ Sts wC2 aB2 L.length (lf L) ∧ aB2 < wC2.heap.size ∧ OsV wC2 bsC2 t (.agg #[.int .i64 k, .int .i64 n, .string s, .slice ya2 l.length yc2]) ∧ bsC2.Nodup) := ⟨intsN HBB2.out.1 hA4 HBB2.out.2.2.1 (by first | exact .inl rfl | exact .inr ⟨_, rfl⟩), intsN HBB2.out.2.1 hA4 HBB2.out.2.2.2.1 (by first | exact .inl rfl | exact .inr ⟨_, rfl⟩), ltN hA4 HBB2.out.2.2.1 (by first | exact .inl rfl | exact .inr ⟨_, rfl⟩), ltN hA4 HBB2.out.2.2.2.1 (by first | exact .inl rfl | exact .inr ⟨_, rfl⟩), stsN HBB2.out.2.2.2.2.1 hA4 HBB2.out.2.2.2.2.2 (by first | exact .inl rfl | exact .inr ⟨_, rfl⟩), ltN hA4 HBB2.out.2.2.2.2.2 (by first | exact .inl rfl | exact .inr ⟨_, rfl⟩), hA5, hA6⟩; (first | (have HZC2 : Hid (Zg w40.heap.size wC2 wB2.heap.size) := Zg.below (Zg.new wB2 HKB2.out.size) hA4) | (have HZC2 := hidP (Zg.below HZB2.out hA4)) | skip); clear hA4 hA5 hA6)
            | (go_at_call 33; (first | (with_reducible refine (HIP.out wC2 gA2 yA2 aB2 bsC2 _ HCC2.out.1 HCC2.out.2.1 HCC2.out.2.2.1 HCC2.out.2.2.2.1 HCC2.out.2.2.2.2.1 HCC2.out.2.2.2.2.2.1 HCC2.out.2.2.2.2.2.2.1 HCC2.out.2.2.2.2.2.2.2).mono ?_) | (have HCX := al6 (.cells #[.slice none 0 0, .slice none 0 0, .int .i64 0] 60) HCC2.out.1 HCC2.out.2.1 HCC2.out.2.2.1 HCC2.out.2.2.2.1 HCC2.out.2.2.2.2.1 HCC2.out.2.2.2.2.2.1 HCC2.out.2.2.2.2.2.2.1; with_reducible refine (HIP.out _ gA2 yA2 aB2 bsC2 _ HCX.1 HCX.2.1 HCX.2.2.1 HCX.2.2.2.1 HCX.2.2.2.2.1 HCX.2.2.2.2.2.1 HCX.2.2.2.2.2.2 HCC2.out.2.2.2.2.2.2.2).mono ?_)); rintro e wD2 ⟨g8, c8, y8, cy8, a8, ca8, Y, B, x, ok, rfl, hor, ho8, hi8, hs8, hg8, hy8, ha8, hne8, hA4⟩; have HKD2 : Hid (Below w40.heap.size w40 wD2) := hidP (by first | with_reducible exact belJn HKC2.out hA4 | with_reducible exact belJn (belAl HKC2.out _) hA4 | with_reducible exact belJn HK0z2.out hA4); have HDD2 : Hid (OutR (rowF V fy) L R Y B x ok ∧ Ints wD2 g8 0 N f ∧ Ints wD2 y8 0 Y.length (lfI Y) ∧ Sts wD2 a8 B.length (lf B) ∧ g8 < wD2.heap.size ∧ y8 < wD2.heap.size ∧ a8 < wD2.heap.size) := ⟨hor, ho8, hi8, hs8, hg8.2, hy8.2, ha8.2⟩; (first | (have HZD2 := hidP (zlastG (Zg.new wC2 HKC2.out.size) hA4 hg8.1 hy8.1 ha8.1); obtain ⟨⟨zc0, zc1, zc2, zf, zl, zg⟩, _⟩ := HZD2.out; have HSET2 := hidP (zsetG HZD2.out.1 HKD2.out)) | (have HZD2 := hidP (zlastG HZC2.out hA4 hg8.1 hy8.1 ha8.1); obtain ⟨⟨zc0, zc1, zc2, zf, zl, zg⟩, _⟩ := HZD2.out; have HSET2 := hidP (zsetG HZD2.out.1 HKD2.out)) | skip); clear hor ho8 hi8 hs8 hg8 hy8 ha8 hA4))
          all_goals
            go_wp2_with fail
            go_meet
            case rel =>
              first
                | exact ⟨_, g8, c8, y8, cy8, a8, ca8, Y, B, x, ok, rfl, rfl, rfl, rfl, HDD2.out.1, belAl HKD2.out _, gz_new HDD2.out.2.1 HDD2.out.2.2.1 HDD2.out.2.2.2.1 HDD2.out.2.2.2.2.1 HDD2.out.2.2.2.2.2.1 HDD2.out.2.2.2.2.2.2 _⟩
                | exact ⟨_, g8, c8, y8, cy8, a8, ca8, Y, B, x, ok, rfl, rfl, rfl, rfl, HDD2.out.1, HSET2.out _ _ _, gz_set HZD2.out.1 HDD2.out.2.1 HDD2.out.2.2.1 HDD2.out.2.2.2.1 ⟨HZD2.out.2.1, HDD2.out.2.2.2.2.1⟩ ⟨HZD2.out.2.2.1, HDD2.out.2.2.2.2.2.1⟩ ⟨HZD2.out.2.2.2, HDD2.out.2.2.2.2.2.2⟩⟩
        case rest =>
          obtain ⟨b22, g22, c22, y22, cy22, a22, ca22, Y', B', x', ok', rfl, rfl, rfl, rfl, hor, hbe, hgx⟩ := hcut
          obtain ⟨rfl, rfl, rfl, rfl⟩ := OutR.one HOR.out hor
          obtain ⟨WB, hWB⟩ : ∃ WB, WB = wc := ⟨_, rfl⟩
          obtain rfl := hWB
          have HLPn : Hid (LG w WB #[.slice ao N cap, .slice yo V ycap, .int .i64 mk] #[.int .i64 k, .int .i64 n, .string s, .slice xo l.length xcap] (.slice (some ⟨g8, 0, none⟩) N c8) (.slice (some ⟨y8, 0, none⟩) Y'.length cy8) (.int .i64 mk) b8 g8 y8 a8 N f Y' B' M) := HLPm.out.call hbe
          have HPGn : Hid (GY WB b15 g15 y15 a15 #[.slice (some ⟨g15, 0, none⟩) N c15, .slice (some ⟨y15, 0, none⟩) Y'.length cy15, .int .i64 mk] N Y'.length B'.length (fun j => 1 + (j : Int)) (fun j => 1 + (N : Int) + j) (fun j => mkT (K4 + j))) := HPGm.out.call hbe
          have HG22 : Hid (Ints WB g22 0 N f ∧ Ints WB y22 0 Y'.length (lfI Y') ∧ Sts WB a22 B'.length (lf B') ∧ a22 < WB.heap.size) := ⟨hgx.o, hgx.r, hgx.s, hgx.la⟩
          have q220 := hgx.q0
          have q221 := hgx.q1
          have q222 := hgx.q2
          have q80 := HLPn.out.q80
          have q81 := HLPn.out.q81
          have q82 := HLPn.out.q82
          clear hor hbe hgx
          go_wp2_with (go_at_call 34; fail)
          refine (HEH.out WB g22 c22 y22 cy22 HLPn.out HG22.out.1 HG22.out.2.1).mono ?_
          rintro e w41 ⟨rfl, h4⟩
          have HLPo : Hid (LG w w41 #[.slice ao N cap, .slice yo V ycap, .int .i64 mk] #[.int .i64 k, .int .i64 n, .string s, .slice xo l.length xcap] (.slice (some ⟨g8, 0, none⟩) N c8) (.slice (some ⟨y8, 0, none⟩) Y'.length cy8) (.int .i64 mk) b8 g8 y8 a8 N f Y' B' M) := HLPn.out.call h4
          have HPGo : Hid (GY w41 b15 g15 y15 a15 #[.slice (some ⟨g15, 0, none⟩) N c15, .slice (some ⟨y15, 0, none⟩) Y'.length cy15, .int .i64 mk] N Y'.length B'.length (fun j => 1 + (j : Int)) (fun j => 1 + (N : Int) + j) (fun j => mkT (K4 + j))) := HPGn.out.call h4
          have HG23 : Hid (Sts w41 a22 B'.length (lf B')) := HG22.out.2.2.1.below h4 HG22.out.2.2.2
          clear h4 q220 q221 q222 q80 q81 q82
          go_wp2_with (go_at_call 15; fail)
          refine (HES.out w41 a22 ca22 HLPo.out HG23.out).mono ?_
          rintro e w42 ⟨rfl, h4⟩
          have HLPp : Hid (LG w w42 #[.slice ao N cap, .slice yo V ycap, .int .i64 mk] #[.int .i64 k, .int .i64 n, .string s, .slice xo l.length xcap] (.slice (some ⟨g8, 0, none⟩) N c8) (.slice (some ⟨y8, 0, none⟩) Y'.length cy8) (.int .i64 mk) b8 g8 y8 a8 N f Y' B' M) := HLPo.out.call h4
          have HPGp : Hid (GY w42 b15 g15 y15 a15 #[.slice (some ⟨g15, 0, none⟩) N c15, .slice (some ⟨y15, 0, none⟩) Y'.length cy15, .int .i64 mk] N Y'.length B'.length (fun j => 1 + (j : Int)) (fun j => 1 + (N : Int) + j) (fun j => mkT (K4 + j))) := HPGo.out.call h4
          clear h4
          have q15 := HPGp.out.q
          go_wp2_with (go_at_call 36; fail)
          refine (HH4.out w42 HPGp.out.o HPGp.out.r HPGp.out.lg HPGp.out.ly).mono ?_
          rintro e w43 ⟨rfl, h4⟩
          have HLPq : Hid (LG w w43 #[.slice ao N cap, .slice yo V ycap, .int .i64 mk] #[.int .i64 k, .int .i64 n, .string s, .slice xo l.length xcap] (.slice (some ⟨g8, 0, none⟩) N c8) (.slice (some ⟨y8, 0, none⟩) Y'.length cy8) (.int .i64 mk) b8 g8 y8 a8 N f Y' B' M) := HLPp.out.call h4
          have HPGq : Hid (GY w43 b15 g15 y15 a15 #[.slice (some ⟨g15, 0, none⟩) N c15, .slice (some ⟨y15, 0, none⟩) Y'.length cy15, .int .i64 mk] N Y'.length B'.length (fun j => 1 + (j : Int)) (fun j => 1 + (N : Int) + j) (fun j => mkT (K4 + j))) := HPGp.out.call h4
          clear h4 q15
          go_wp2_with (go_at_call 21; fail)
          refine (HH5.out w43 HPGq.out.s HPGq.out.la).mono ?_
          rintro e w44 ⟨rfl, h4⟩
          have HFI : Hid (Below w.heap.size w w44) := (HLPq.out.call h4).bel
          clear h4
          go_wp2_with fail
          go_ret
          exact ⟨rfl, HFI.out⟩
end Go.Proofs.Ytabgfaafpgholaa.fnExactGensPut
