/-
  The law FnExactActorNew, walked.
-/
import Derived.Test.YtgccbpjdkeoclaaAnF
namespace Go.Proofs.Ytgccbpjdkeoclaa.fnExactActorNew
open Go.RowKit Atom
set_option linter.unusedVariables false

set_option maxHeartbeats 4000000 in
set_option maxRecDepth 100000 in
theorem walk (pid pc : Int) (t : Tm) (v : Value) (w : World) (hv : RepV 0 w t v) :
    Calls Try.prog 3 #[.int .i64 pid, .int .i64 pc, v] w fun e w' => e = .returned (.bool true) ∧ Below w.heap.size w w' := by
  have hrep := hv
  obtain ⟨k, n, s, l⟩ := t
  obtain ⟨ao, cap, rfl, hs, hl, hc, hr⟩ := hv
  obtain ⟨t, ht⟩ : ∃ t, t = Tm.mk k n s l := ⟨_, rfl⟩
  rw [← ht] at hrep
  have HREP : Hid (∀ wc, Below w.heap.size w wc → RepV 0 wc t (.agg #[.int .i64 k, .int .i64 n, .string s, .slice ao l.length cap])) := fun wc hb => (Keeps.below hb 0).repV hrep
  obtain ⟨W0, hW0⟩ : ∃ W0, W0 = w.alloc (.cells #[.int .i64 k, .int .i64 n, .string s, .slice ao l.length cap] 24) := ⟨_, rfl⟩
  have hb0 : Below w.heap.size w W0 := by rw [hW0]; exact (Below.refl _ _).alloc (Nat.le_refl _) _
  have hz0 : W0.heap.size = w.heap.size + 1 := by rw [hW0]; simp
  have q0 : ∀ o, W0.cell? ⟨w.heap.size, o, none⟩ = (#[.int .i64 k, .int .i64 n, .string s, .slice ao l.length cap] : Array Value)[o]? := fun o => by rw [hW0, World.cell?_alloc_new]
  have HSZ : Hid (Calls Try.prog 4 #[.agg #[.int .i64 k, .int .i64 n, .string s, .slice ao l.length cap], .int .i64 1048576] W0 fun e w' => e = .returned (.int .i64 (szT t 1048576)) ∧ Below W0.heap.size W0 w') := szT_all t 0 W0 _ 1048576 (HREP.out W0 hb0) (by omega) (by omega)
  have HB0 : Hid (Below w.heap.size w W0 ∧ W0.heap.size = w.heap.size + 1) := ⟨hb0, hz0⟩
  have HQ0 : Hid (∀ wc, Below W0.heap.size W0 wc → ∀ o, wc.cell? ⟨w.heap.size, o, none⟩ = (#[.int .i64 k, .int .i64 n, .string s, .slice ao l.length cap] : Array Value)[o]?) := fun wc hb o => by rw [hb.cell (p := ⟨w.heap.size, o, none⟩) (by show w.heap.size < _; omega)]; exact q0 o
  have HSM : Hid (0 ≤ szT t 1048576 → StS t ∧ ntL l ≤ 1048576 ∧ ntL [t] ≤ 4194304) := fun h => by
    have h1 := sz_sts t 1048576 (by omega) (by omega) h
    have h2 : (ntL l : Int) ≤ 1048576 := szT_nt k n s l 1048576 (by omega) (by rw [← ht]; exact h)
    refine ⟨h1, by omega, ?_⟩
    rw [ht, ntL, ntL]; omega
  have HT : Hid (t = Tm.mk k n s l) := ht
  clear hrep hs hl hc hr hb0 hz0 q0 ht
  go_enter Try.func3, Try.ntmps3
  go_wp2_with (go_at_call 4; fail)
  rw [← hW0]
  clear hW0
  refine HSZ.out.mono ?_
  rintro e w1 ⟨rfl, hb1⟩
  have q1 := HQ0.out w1 hb1
  have HB1 : Hid (Below W0.heap.size W0 w1) := hb1
  have HW1 : Hid (Below w.heap.size w w1) := HB0.out.1.trans (hb1.mono HB0.out.1.size)
  clear hb1
  generalize szT t 1048576 = z at HSM
  by_cases hz : z < 0
  · go_wp2_with fail
    go_ret
    exact ⟨rfl, HW1.out⟩
  have HSS : Hid (StS t ∧ ntL l ≤ 1048576 ∧ ntL [t] ≤ 4194304) := HSM.out (by omega)
  have HTO : Hid (∀ wc, Below w.heap.size w wc → Calls Try.prog 6 #[.agg #[.int .i64 k, .int .i64 n, .string s, .slice ao l.length cap]] wc fun e w' => ∃ xa xc bs, e = .returned (.agg #[.int .i64 k, .int .i64 n, .string s, .slice xa l.length xc]) ∧ Below wc.heap.size wc w' ∧ OsV w' bs t (.agg #[.int .i64 k, .int .i64 n, .string s, .slice xa l.length xc]) ∧ OsL w' l bs xa ∧ l.length ≤ xc ∧ xc ≤ maxLen ∧ bs.Nodup ∧ ∀ b ∈ bs, wc.heap.size ≤ b) := fun wc hb => by
    refine (toOT_all t HSS.out.1 0 wc _ (HREP.out wc hb)).mono ?_
    rintro e w' ⟨v', bs, h1, h2, h3, h4, h5⟩
    have h6 := h3
    rw [HT.out] at h6
    obtain ⟨xa, xc, rfl, _, h7, h8, h9⟩ := h6
    exact ⟨xa, xc, bs, h1, h2, h3, h9, h7, h8, h4, h5⟩
  clear HSM HSZ
  go_wp2_with (go_at_call 6; fail)
  refine (HTO.out w1 HW1.out).mono ?_
  rintro e w2 ⟨xa2, xc2, bs2, rfl, hb2, hv2, _, _, _, _, _⟩
  have HB2 : Hid (Below W0.heap.size W0 w2) := HB1.out.trans (hb2.mono HB1.out.size)
  have HSP : Hid (Calls Try.prog 5 #[.int .i64 pid, .int .i64 pc, .agg #[.int .i64 k, .int .i64 n, .string s, .slice xa2 l.length xc2]] w2 fun e w' => ∃ ra rc, e = .returned (.agg #[.int .i64 (nwI pid pc t pid), .int .i64 (nwI pid pc t pc), .slice ra (nwR pid pc t).length rc, .slice none 0 0, .slice none 0 0]) ∧ (nwR pid pc t).length ≤ rc ∧ rc ≤ maxLen ∧ RpL (fun b => w2.heap.size ≤ b) w' (nwR pid pc t) ra ∧ Below w2.heap.size w2 w') := specNew_any9 pid pc t _ w2 hv2.rep HSS.out.1
  obtain ⟨R, hR⟩ : ∃ R, R = nwR pid pc t := ⟨_, rfl⟩
  obtain ⟨P, hP⟩ : ∃ P, P = nwI pid pc t pid := ⟨_, rfl⟩
  obtain ⟨Q, hQ⟩ : ∃ Q, Q = nwI pid pc t pc := ⟨_, rfl⟩
  have HCB : Hid (1 + cL R ≤ 8999990 ∧ 1 + cL l ≤ 8999990) := by
    have h1 := HSS.out.2.1
    have h2 : ntL R ≤ 1048584 := by
      rw [hR]
      unfold nwR
      split
      · rw [HT.out, ntL, nt_seven]; omega
      · rw [ntL]; omega
    exact ⟨by rw [cL_nt]; omega, by rw [cL_nt]; omega⟩
  have HNEW : Hid (∀ wc v' bs, OsV wc bs t v' → bs.Nodup → Calls Try.prog 7 #[.int .i64 pid, .int .i64 pc, v'] wc fun e w' => ∃ ra rc bs', e = .returned (.agg #[.int .i64 P, .int .i64 Q, .slice ra R.length rc, .slice none 0 0, .slice none 0 0]) ∧ R.length ≤ rc ∧ rc ≤ maxLen ∧ OsL w' R bs' ra ∧ bs'.Nodup ∧ (∀ b ∈ bs', wc.heap.size ≤ b) ∧ Below wc.heap.size wc w') := fun wc v' bs h1 h2 => by
    rw [hR, hP, hQ]; exact implNew_any pid pc t bs v' wc h1 h2 HSS.out.2.2
  rw [← hR, ← hP, ← hQ] at HSP
  clear hR hP hQ hv2 hb2 q1
  go_wp2_with (go_at_call 5; fail)
  refine HSP.out.mono ?_
  rintro e w3 ⟨ra, rc, rfl, hrc1, hrc2, hr3, hb3⟩
  have HRC : Hid (R.length ≤ rc ∧ rc ≤ maxLen) := ⟨hrc1, hrc2⟩
  have hb3' : Below W0.heap.size W0 w3 := HB2.out.trans (hb3.mono HB2.out.size)
  have hw3 : Below w.heap.size w w3 := HB0.out.1.trans (hb3'.mono HB0.out.1.size)
  obtain ⟨W3, hW3⟩ : ∃ W3, W3 = w3.alloc (.cells #[.int .i64 P, .int .i64 Q, .slice ra R.length rc, .slice none 0 0, .slice none 0 0] 29) := ⟨_, rfl⟩
  have hbW3 : Below w3.heap.size w3 W3 := by rw [hW3]; exact (Below.refl _ _).alloc (Nat.le_refl _) _
  have hzW3 : W3.heap.size = w3.heap.size + 1 := by rw [hW3]; simp
  have S3 : Hid (S1 w W3 #[.int .i64 k, .int .i64 n, .string s, .slice ao l.length cap] w3.heap.size W3.heap.size #[.int .i64 P, .int .i64 Q, .slice ra R.length rc, .slice none 0 0, .slice none 0 0] R ra) := by
    have hq := HQ0.out W3 (hb3'.trans (hbW3.mono hb3'.size))
    have hzw := hw3.size
    refine ⟨hw3.trans (hbW3.mono hw3.size), hq, fun o => by rw [hW3, World.cell?_alloc_new], rp_keep (w := w3) (fun b _ hl => hbW3.block b hl) ?_, by omega, by omega, Nat.le_refl _⟩
    refine Moves.repL (S := fun b => w2.heap.size ≤ b) (fun b o' v' hb' hv' => ⟨⟨?_, ?_⟩, hv'⟩) _ _ hr3
    · have h1 := HB2.out.size
      have h2 := HB0.out.1.size
      have hb'' : w2.heap.size ≤ b := hb'
      omega
    · have : b < w3.heap.size := World.block_lt_of_cell? w3 _ hv'
      omega
  have q5 := HQ0.out w3 hb3'
  have hlt5 : w.heap.size < w3.heap.size := by have := hb3'.size; have := HB0.out.2; omega
  have hne5 : ¬ w.heap.size = w3.heap.size := by omega
  clear hr3 hb3 hb3' hrc1 hrc2 hbW3 hzW3
  go_wp2_with (go_at_call 6; fail)
  rw [← hW3]
  refine (HTO.out W3 S3.out.bel).mono ?_
  rintro e w4 ⟨xa, xc, bsx, rfl, hb4, hv4, ho4, hx1, hx2, hnx, hlx⟩
  have HXC : Hid (l.length ≤ xc ∧ xc ≤ maxLen ∧ bsx.Nodup ∧ ∀ b ∈ bsx, W3.heap.size ≤ b ∧ b < w4.heap.size) := ⟨hx1, hx2, hnx, fun b hb => ⟨hlx b hb, OsL.lt _ _ _ ho4 b hb⟩⟩
  obtain ⟨W4, hW4⟩ : ∃ W4, W4 = w4.alloc (.cells #[.int .i64 k, .int .i64 n, .string s, .slice xa l.length xc] 32) := ⟨_, rfl⟩
  have hbW4 : Below w4.heap.size w4 W4 := by rw [hW4]; exact (Below.refl _ _).alloc (Nat.le_refl _) _
  have hz34 := hb4.size
  have hbB4 : Below W3.heap.size W3 W4 := hb4.trans (hbW4.mono hb4.size)
  have S4 : Hid (S1 w W4 #[.int .i64 k, .int .i64 n, .string s, .slice ao l.length cap] w3.heap.size W3.heap.size #[.int .i64 P, .int .i64 Q, .slice ra R.length rc, .slice none 0 0, .slice none 0 0] R ra) := S3.out.next hbB4
  have X4 : Hid (Xp W4 w4.heap.size #[.int .i64 k, .int .i64 n, .string s, .slice xa l.length xc] l bsx xa) := ⟨fun o => by rw [hW4, World.cell?_alloc_new], by rw [hW4]; simp, OsL.below hbW4 ho4⟩
  have HV4 : Hid (OsV W4 bsx t (.agg #[.int .i64 k, .int .i64 n, .string s, .slice xa l.length xc])) := OsV.below hbW4 hv4
  have HZ4 : Hid (W4.heap.size = w4.heap.size + 1 ∧ W3.heap.size ≤ w4.heap.size) := ⟨by rw [hW4]; simp, hz34⟩
  clear hb4 hv4 ho4 hx1 hx2 hnx hlx hbW4 hbB4 hz34 q5 hlt5 hne5 hW3
  have q9 := X4.out.q
  go_wp2_with (go_at_call 7; fail)
  rw [← hW4]
  refine (HNEW.out W4 _ bsx HV4.out HXC.out.2.2.1).mono ?_
  rintro e w5 ⟨rg, rgc, bsg, rfl, hg1, hg2, ho5, hng, hlg, hb5⟩
  have HGC : Hid (R.length ≤ rgc ∧ rgc ≤ maxLen ∧ bsg.Nodup ∧ ∀ b ∈ bsg, W4.heap.size ≤ b ∧ b < w5.heap.size) := ⟨hg1, hg2, hng, fun b hb => ⟨hlg b hb, OsL.lt _ _ _ ho5 b hb⟩⟩
  obtain ⟨W5, hW5⟩ : ∃ W5, W5 = w5.alloc (.cells #[.int .i64 P, .int .i64 Q, .slice rg R.length rgc, .slice none 0 0, .slice none 0 0] 29) := ⟨_, rfl⟩
  have hbW5 : Below w5.heap.size w5 W5 := by rw [hW5]; exact (Below.refl _ _).alloc (Nat.le_refl _) _
  have hbB5 : Below W4.heap.size W4 W5 := hb5.trans (hbW5.mono hb5.size)
  have hz45 := hb5.size
  have S5 : Hid (S1 w W5 #[.int .i64 k, .int .i64 n, .string s, .slice ao l.length cap] w3.heap.size W3.heap.size #[.int .i64 P, .int .i64 Q, .slice ra R.length rc, .slice none 0 0, .slice none 0 0] R ra) := S4.out.next hbB5
  have X5 : Hid (Xp W5 w4.heap.size #[.int .i64 k, .int .i64 n, .string s, .slice xa l.length xc] l bsx xa) := X4.out.next hbB5
  have G5 : Hid (Xp W5 w5.heap.size #[.int .i64 P, .int .i64 Q, .slice rg R.length rgc, .slice none 0 0, .slice none 0 0] R bsg rg) := ⟨fun o => by rw [hW5, World.cell?_alloc_new], by rw [hW5]; simp, OsL.below hbW5 ho5⟩
  have HV5 : Hid (OsV W5 bsx t (.agg #[.int .i64 k, .int .i64 n, .string s, .slice xa l.length xc])) := OsV.below hbB5 HV4.out
  have HAP : Hid (w5.heap.size ∉ bsx ∧ w5.heap.size ∉ bsg ∧ (∀ b ∈ bsg, b ∉ bsx) ∧ (∀ b ∈ bsx, W3.heap.size ≤ b) ∧ (∀ b ∈ bsg, W3.heap.size ≤ b)) := by
    have h1 := HXC.out.2.2.2
    have h2 := HGC.out.2.2.2
    have h3 := HZ4.out
    refine ⟨fun h => by have := h1 _ h; omega, fun h => by have := h2 _ h; omega, fun b hb hm => by have := h1 _ hm; have := h2 _ hb; omega, fun b hb => (h1 b hb).1, fun b hb => by have := h2 b hb; omega⟩
  have q8 := (S4.out.next hb5).q8
  have hlt8 : w3.heap.size < w5.heap.size := by have h1 := S4.out.l8; have h2 := S4.out.lM; omega
  have hne8 : ¬ w3.heap.size = w5.heap.size := by omega
  clear ho5 hg1 hg2 hng hlg hb5 hbW5 hbB5 hz45 q9 hW4
  have HEQ : Hid (∀ wc ga gc, S1 w wc #[.int .i64 k, .int .i64 n, .string s, .slice ao l.length cap] w3.heap.size W3.heap.size #[.int .i64 P, .int .i64 Q, .slice ra R.length rc, .slice none 0 0, .slice none 0 0] R ra → RepL 0 wc R ga → R.length ≤ gc → gc ≤ maxLen → Calls Try.prog 8 #[.agg #[.int .i64 P, .int .i64 Q, .slice ga R.length gc, .slice none 0 0, .slice none 0 0], .agg #[.int .i64 P, .int .i64 Q, .slice ra R.length rc, .slice none 0 0, .slice none 0 0]] wc fun e w' => e = .returned (.bool true) ∧ Below wc.heap.size wc w') := fun wc ga gc h1 h2 h3 h4 =>
    eqN h2 h3 h4 (RpL.rep _ _ h1.r8) HRC.out.1 HRC.out.2
  go_wp2_with (go_at_call 8; fail)
  rw [← hW5]
  refine (HEQ.out W5 rg rgc S5.out (OsL.rep _ _ _ G5.out.os) HGC.out.1 HGC.out.2.1).mono ?_
  rintro e w6 ⟨rfl, hb6⟩
  have S6 : Hid (S1 w w6.drew #[.int .i64 k, .int .i64 n, .string s, .slice ao l.length cap] w3.heap.size W3.heap.size #[.int .i64 P, .int .i64 Q, .slice ra R.length rc, .slice none 0 0, .slice none 0 0] R ra) := S5.out.next hb6.drew
  have X6 : Hid (Xp w6.drew w4.heap.size #[.int .i64 k, .int .i64 n, .string s, .slice xa l.length xc] l bsx xa) := X5.out.next hb6.drew
  have G6 : Hid (Xp w6.drew w5.heap.size #[.int .i64 P, .int .i64 Q, .slice rg R.length rgc, .slice none 0 0, .slice none 0 0] R bsg rg) := G5.out.next hb6.drew
  have HV6 : Hid (OsV w6.drew bsx t (.agg #[.int .i64 k, .int .i64 n, .string s, .slice xa l.length xc])) := OsV.below hb6.drew HV5.out
  have q5 := (S5.out.next hb6).q5
  have q9 := (X5.out.next hb6).q
  clear hb6 hW5 q8 hlt8 hne8 S5 X5 G5 HV5 S4 X4 HV4 S3 HZ4
  generalize w3.heap.size = B8 at *
  generalize W3.heap.size = M at *
  generalize w4.heap.size = B9 at *
  generalize w5.heap.size = B10 at *
  go_wp2_with fail
  go_region_with (first
    | (go_at_call 6; refine (HTO.out w6.drew S6.out.bel).mono ?_; rintro e wT ⟨ya, yc, bsy, rfl, hbT, hvT, _, _, _, _, _⟩; have qT := (X6.out.next hbT).q)
    | (go_at_call 9; refine (eqT_all t 0 wT _ _ ?_ ?_).mono ?_; exact (OsV.below hbT HV6.out).rep; exact hvT.rep; rintro e wU ⟨rfl, hbU⟩))
  all_goals
    have hbTU : Below w6.drew.heap.size w6.drew wU := hbT.trans (hbU.mono hbT.size)
    have S7 : Hid (S1 w wU #[.int .i64 k, .int .i64 n, .string s, .slice ao l.length cap] B8 M #[.int .i64 P, .int .i64 Q, .slice ra R.length rc, .slice none 0 0, .slice none 0 0] R ra) := S6.out.next hbTU
    have X7 : Hid (Xp wU B9 #[.int .i64 k, .int .i64 n, .string s, .slice xa l.length xc] l bsx xa) := X6.out.next hbTU
    have G7 : Hid (Xp wU B10 #[.int .i64 P, .int .i64 Q, .slice rg R.length rgc, .slice none 0 0, .slice none 0 0] R bsg rg) := G6.out.next hbTU
    clear hbT hbU hvT qT hbTU q5 q9
    have q9 := X7.out.q
    go_wp2_with (go_at_call 10; fail)
    refine (markTermB_any k n s l xa xc bsx wU X7.out.os HXC.out.2.2.1 HXC.out.1 HXC.out.2.1 HCB.out.2).mono ?_
    rintro e w8 ⟨rfl, _, ho8⟩
    have S8 : Hid (S1 w w8 #[.int .i64 k, .int .i64 n, .string s, .slice ao l.length cap] B8 M #[.int .i64 P, .int .i64 Q, .slice ra R.length rc, .slice none 0 0, .slice none 0 0] R ra) := S7.out.out ho8 HAP.out.2.2.2.1
    have G8 : Hid (Xp w8 B10 #[.int .i64 P, .int .i64 Q, .slice rg R.length rgc, .slice none 0 0, .slice none 0 0] R bsg rg) := G7.out.out ho8 HAP.out.1 HAP.out.2.2.1
    clear ho8 q9
    have hK : ¬ ((1 + cL l : Nat) : Int) < 0 := by omega
    generalize ((1 + cL l : Nat) : Int) = K1 at hK
    have q8 := S8.out.q8
    have q10 := G8.out.q
    go_wp2_with (go_at_call 8; fail)
    refine (HEQ.out w8 rg rgc S8.out (OsL.rep _ _ _ G8.out.os) HGC.out.1 HGC.out.2.1).mono ?_
    rintro e w9 ⟨rfl, hb9⟩
    have S9 : Hid (S1 w w9 #[.int .i64 k, .int .i64 n, .string s, .slice ao l.length cap] B8 M #[.int .i64 P, .int .i64 Q, .slice ra R.length rc, .slice none 0 0, .slice none 0 0] R ra) := S8.out.next hb9
    have G9 : Hid (Xp w9 B10 #[.int .i64 P, .int .i64 Q, .slice rg R.length rgc, .slice none 0 0, .slice none 0 0] R bsg rg) := G8.out.next hb9
    clear hb9 q8 q10
    have q10 := G9.out.q
    go_wp2_with (go_at_call 11; fail)
    refine (markActorB_any P Q R rg rgc bsg w9 G9.out.os HGC.out.2.2.1 HGC.out.1 HGC.out.2.1 HCB.out.1).mono ?_
    rintro e w10 ⟨rfl, hm10, ho10⟩
    have S10 : Hid (S1 w w10 #[.int .i64 k, .int .i64 n, .string s, .slice ao l.length cap] B8 M #[.int .i64 P, .int .i64 Q, .slice ra R.length rc, .slice none 0 0, .slice none 0 0] R ra) := S9.out.out ho10 HAP.out.2.2.2.2
    have G10 : Hid (Xp w10 B10 #[.int .i64 P, .int .i64 Q, .slice rg R.length rgc, .slice none 0 0, .slice none 0 0] (mrL R 1) bsg rg) := G9.out.mark ho10 HAP.out.2.1 hm10
    have HHE : Hid (∀ wc, RepL 0 wc (mrL R 1) rg → Calls Try.prog 12 #[.agg #[.int .i64 P, .int .i64 Q, .slice rg R.length rgc, .slice none 0 0, .slice none 0 0], .int .i64 1] wc fun e w' => e = .returned (.int .i64 ((1 + cL R : Nat) : Int)) ∧ Below wc.heap.size wc w') := fun wc h => heldActorB_any P Q R rg rgc wc h HGC.out.1 HGC.out.2.1 HCB.out.1
    clear hm10 ho10 q10
    have hK2 : ¬ ((1 + cL R : Nat) : Int) < 0 := by omega
    generalize ((1 + cL R : Nat) : Int) = K2 at hK2 HHE
    have q10 := G10.out.q
    go_wp2_with (go_at_call 12; fail)
    refine (HHE.out w10 (OsL.rep _ _ _ G10.out.os)).mono ?_
    rintro e w11 ⟨rfl, hb11⟩
    have S11 : Hid (S1 w w11 #[.int .i64 k, .int .i64 n, .string s, .slice ao l.length cap] B8 M #[.int .i64 P, .int .i64 Q, .slice ra R.length rc, .slice none 0 0, .slice none 0 0] R ra) := S10.out.next hb11
    have G11 : Hid (Xp w11 B10 #[.int .i64 P, .int .i64 Q, .slice rg R.length rgc, .slice none 0 0, .slice none 0 0] (mrL R 1) bsg rg) := G10.out.next hb11
    have hKK : (K2 != K2) = false := by simp
    clear hb11 q10
    have q5 := S11.out.q5
    go_wp2_with (go_at_call 6; fail)
    refine (HTO.out w11 S11.out.bel).mono ?_
    rintro e w12 ⟨za, zc, bsz, rfl, hb12, hv12, _, _, _, hnz, _⟩
    have S12 : Hid (S1 w w12 #[.int .i64 k, .int .i64 n, .string s, .slice ao l.length cap] B8 M #[.int .i64 P, .int .i64 Q, .slice ra R.length rc, .slice none 0 0, .slice none 0 0] R ra) := S11.out.next hb12
    have G12 : Hid (Xp w12 B10 #[.int .i64 P, .int .i64 Q, .slice rg R.length rgc, .slice none 0 0, .slice none 0 0] (mrL R 1) bsg rg) := G11.out.next hb12
    have HV12 : Hid (OsV w12 bsz t (.agg #[.int .i64 k, .int .i64 n, .string s, .slice za l.length zc]) ∧ bsz.Nodup) := ⟨hv12, hnz⟩
    clear hb12 hv12 hnz q5
    go_wp2_with (go_at_call 7; fail)
    refine (HNEW.out w12 _ bsz HV12.out.1 HV12.out.2).mono ?_
    rintro e w13 ⟨rh, rhc, bsh, rfl, hh1, hh2, ho13, _, _, hb13⟩
    have S13 : Hid (S1 w w13 #[.int .i64 k, .int .i64 n, .string s, .slice ao l.length cap] B8 M #[.int .i64 P, .int .i64 Q, .slice ra R.length rc, .slice none 0 0, .slice none 0 0] R ra) := S12.out.next hb13
    have G13 : Hid (Xp w13 B10 #[.int .i64 P, .int .i64 Q, .slice rg R.length rgc, .slice none 0 0, .slice none 0 0] (mrL R 1) bsg rg) := G12.out.next hb13
    have HH13 : Hid (OsL w13 R bsh rh ∧ R.length ≤ rhc ∧ rhc ≤ maxLen) := ⟨ho13, hh1, hh2⟩
    clear hb13 ho13 hh1 hh2
    obtain ⟨W13, hW13⟩ : ∃ W13, W13 = w13.alloc (.cells #[.int .i64 P, .int .i64 Q, .slice rh R.length rhc, .slice none 0 0, .slice none 0 0] 29) := ⟨_, rfl⟩
    have hbW13 : Below w13.heap.size w13 W13 := by rw [hW13]; exact (Below.refl _ _).alloc (Nat.le_refl _) _
    have S14 : Hid (S1 w W13 #[.int .i64 k, .int .i64 n, .string s, .slice ao l.length cap] B8 M #[.int .i64 P, .int .i64 Q, .slice ra R.length rc, .slice none 0 0, .slice none 0 0] R ra) := S13.out.next hbW13
    have G14 : Hid (Xp W13 B10 #[.int .i64 P, .int .i64 Q, .slice rg R.length rgc, .slice none 0 0, .slice none 0 0] (mrL R 1) bsg rg) := G13.out.next hbW13
    have HH14 : Hid (OsL W13 R bsh rh) := OsL.below hbW13 HH13.out.1
    have q8 := S13.out.q8
    have hlt8 : B8 < w13.heap.size := by have h1 := S13.out.l8; have h2 := S13.out.lM; omega
    have hne8 : ¬ B8 = w13.heap.size := by omega
    clear hbW13
    go_wp2_with (go_at_call 8; fail)
    rw [← hW13]
    refine (HEQ.out W13 rh rhc S14.out (OsL.rep _ _ _ HH14.out) HH13.out.2.1 HH13.out.2.2).mono ?_
    rintro e w15 ⟨rfl, hb15⟩
    have S15 : Hid (Below w.heap.size w w15) := (S14.out.next hb15).bel
    have G15 : Hid (Xp w15 B10 #[.int .i64 P, .int .i64 Q, .slice rg R.length rgc, .slice none 0 0, .slice none 0 0] (mrL R 1) bsg rg) := G14.out.next hb15
    clear hb15 hW13 q8 hlt8 hne8
    have q10 := G15.out.q
    go_wp2_with (go_at_call 12; fail)
    refine (HHE.out w15 (OsL.rep _ _ _ G15.out.os)).mono ?_
    rintro e w16 ⟨rfl, hb16⟩
    have S16 : Hid (Below w.heap.size w w16) := S15.out.trans (hb16.mono S15.out.size)
    clear hb16 q10
    go_wp2_with fail
    go_ret
    exact ⟨rfl, S16.out⟩
end Go.Proofs.Ytgccbpjdkeoclaa.fnExactActorNew
