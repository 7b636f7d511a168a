/-
  The law over HomeNeed, walked.
-/
import Derived.Test.YtpklgbhclfgccaaXgS
namespace Go.Proofs.Ytpklgbhclfgccaa
open Go.RowKit
set_option linter.unusedVariables false

set_option maxRecDepth 100000 in
theorem specHomeNeed_any (g y N M cn cm : Nat) (mk : Int) (hF : Few N M) (w : World) :
    Calls Try.prog 39 #[.agg #[.slice (some ⟨g, 0, none⟩) N cn, .slice (some ⟨y, 0, none⟩) M cm, .int .i64 mk]] w fun e w' => e = .returned (.int .i64 ((3 : Int) + N + M)) ∧ Below w.heap.size w w' := by
  have h1 : N ≤ 1048576 := hF.1
  have h2 : M ≤ 1048576 := hF.2.1
  have HB : Hid (∀ o, Below w.heap.size w (w.alloc o)) := fun o => (Below.refl _ _).alloc (Nat.le_refl _) o
  have e1 : IntKind.i64.wrap ((3 : Int) + N) = (3 : Int) + N := by rw [IntKind.wrap_i64]; omega
  have e2 : IntKind.i64.wrap ((3 : Int) + N + M) = (3 : Int) + N + M := by rw [IntKind.wrap_i64]; omega
  clear hF
  go_enter Try.func39, Try.ntmps39
  go_wp2_with fail
  go_ret
  exact ⟨rfl, HB.out _⟩
set_option maxRecDepth 100000 in
theorem implHomeNeed_any (g y N M cn cm : Nat) (mk : Int) (hF : Few N M) (w : World) :
    Calls Try.prog 41 #[.agg #[.slice (some ⟨g, 0, none⟩) N cn, .slice (some ⟨y, 0, none⟩) M cm, .int .i64 mk]] w fun e w' => e = .returned (.int .i64 ((3 : Int) + N + M)) ∧ Below w.heap.size w w' := by
  have h1 : N ≤ 1048576 := hF.1
  have h2 : M ≤ 1048576 := hF.2.1
  have HB : Hid (∀ o, Below w.heap.size w (w.alloc o)) := fun o => (Below.refl _ _).alloc (Nat.le_refl _) o
  have e1 : IntKind.i64.wrap ((3 : Int) + N) = (3 : Int) + N := by rw [IntKind.wrap_i64]; omega
  have e2 : IntKind.i64.wrap ((3 : Int) + N + M) = (3 : Int) + N + M := by rw [IntKind.wrap_i64]; omega
  clear hF
  go_enter Try.func41, Try.ntmps41
  go_wp2_with fail
  go_ret
  exact ⟨rfl, HB.out _⟩
set_option maxHeartbeats 4000000 in
set_option maxRecDepth 100000 in
theorem homeNeed_law (ao : Option Addr) (N cap : Nat) (f : Nat → Int) (yo : Option Addr) (M ycap : Nat) (fy : Nat → Int) (mk : Int) (w : World)
    (hr : RdG w ao N f yo M fy) (hN : N ≤ maxLen) (hM : M ≤ maxLen) :
    Calls Try.prog 7 #[.agg #[.slice ao N cap, .slice yo M ycap, .int .i64 mk]] w fun e w' => e = .returned (.bool true) ∧ Below w.heap.size w w' := by
  have HR : Hid (RdG w ao N f yo M fy) := hr
  have HM : Hid (M ≤ maxLen) := hM
  have HN : Hid (N ≤ maxLen) := hN
  clear hr hN hM
  go_enter Try.func7, Try.ntmps7
  go_wp2_with fail
  generalize hW1 : w.alloc (.cells #[.slice ao N cap, .slice yo M ycap, .int .i64 mk] 61) = w1
  have hb1 : Below w.heap.size w w1 := by rw [← hW1]; exact (Below.refl _ _).alloc (Nat.le_refl _) _
  have q1 : ∀ o, w1.cell? ⟨w.heap.size, o, none⟩ = (#[.slice ao N cap, .slice yo M ycap, .int .i64 mk] : Array Value)[o]? := fun o => by rw [← hW1]; exact World.cell?_alloc_new w _ _ o
  have HB1 : Hid (Below w.heap.size w w1) := hb1
  have HQ1 : Hid (∀ o, w1.cell? ⟨w.heap.size, o, none⟩ = (#[.slice ao N cap, .slice yo M ycap, .int .i64 mk] : Array Value)[o]?) := q1
  have HR1 : Hid (RdG w1 ao N f yo M fy) := HR.out.below hb1
  clear hW1 hb1 HR
  refine (szGens_any ao N cap yo M ycap mk 1048576 HN.out HM.out rfl _).mono ?_
  rintro e w2 ⟨y, rfl, hb2, hy1, hys⟩
  have q2 := keep3 hb2 HQ1.out
  have HB2 : Hid (Below w1.heap.size w1 w2) := hb2
  clear hb2 q1
  have HYS : Hid (0 ≤ y → Few N M ∧ y ≤ 1048576) := hys
  clear hys
  by_cases hy0 : 0 ≤ y
  case neg =>
    have e : y = -1 := by omega
    subst e
    go_wp2_with fail
    go_ret
    exact ⟨rfl, HB1.out.trans (HB2.out.mono HB1.out.size)⟩
  case pos =>
    have HNS : Hid (Few N M) := (HYS.out hy0).1
    go_wp2_with fail
    refine (toGens_any ao N cap f yo M ycap fy mk w2 (HR1.out.below HB2.out) HNS.out).mono ?_
    rintro e w4 ⟨g4, y4, rfl, hg4, hi4, hl4, hb4⟩
    have HB4 : Hid (Below w1.heap.size w1 w4) := HB2.out.trans (hb4.mono HB2.out.size)
    have q4 := keep3 hb4 q2
    clear hi4 hl4 hb4 hg4
    go_wp2_with fail
    refine (specHomeNeed_any g4 y4 N M N M mk HNS.out w4).mono ?_
    rintro e w5 ⟨rfl, hb5⟩
    have HB5 : Hid (Below w1.heap.size w1 w5) := HB4.out.trans (hb5.mono HB4.out.size)
    have q5 := keep3 hb5 q4
    clear hb5 q4
    go_wp2_with fail
    refine (toGens_any ao N cap f yo M ycap fy mk w5 (HR1.out.below HB5.out) HNS.out).mono ?_
    rintro e w6 ⟨g6, y6, rfl, hg6, hi6, hl6, hb6⟩
    have HB6 : Hid (Below w1.heap.size w1 w6) := HB5.out.trans (hb6.mono HB5.out.size)
    have HI6 : Hid (IG w6 g6 y6 N M f fy) := hi6
    have HL6 : Hid (y6 < w6.heap.size) := hl6
    have q6 := keep3 hb6 q5
    clear hb6 q5 hg6 hi6 hl6
    go_wp2_with fail
    generalize hW7 : w6.alloc (.cells #[.slice (some ⟨g6, 0, none⟩) N N, .slice (some ⟨y6, 0, none⟩) M M, .int .i64 mk] 64) = w7
    have hb7 : Below w6.heap.size w6 w7 := by rw [← hW7]; exact (Below.refl _ _).alloc (Nat.le_refl _) _
    have p7 : ∀ o, w7.cell? ⟨w6.heap.size, o, none⟩ = (#[.slice (some ⟨g6, 0, none⟩) N N, .slice (some ⟨y6, 0, none⟩) M M, .int .i64 mk] : Array Value)[o]? := fun o => by rw [← hW7]; exact World.cell?_alloc_new w6 _ _ o
    have HI7 : Hid (IG w7 g6 y6 N M f fy) := HI6.out.below hb7 HL6.out
    have hl7 : w6.heap.size < w7.heap.size := by rw [← hW7, World.size_alloc]; omega
    have HL7 : Hid (y6 < w7.heap.size) := by show _ < _; have := HL6.out; omega
    have HB7 : Hid (Below w1.heap.size w1 w7) := HB6.out.trans (hb7.mono HB6.out.size)
    have q7 := keep3 hb7 q6
    clear hb7 hW7 hl7 q6
    refine (implHomeNeed_any g6 y6 N M N M mk HNS.out w7).mono ?_
    rintro e w8 ⟨rfl, hb8⟩
    have HB8 : Hid (Below w1.heap.size w1 w8) := HB7.out.trans (hb8.mono HB7.out.size)
    have HI8 : Hid (IG w8 g6 y6 N M f fy) := HI7.out.below hb8 HL7.out
    have HL8 : Hid (y6 < w8.heap.size) := by show _ < _; have := HL7.out; have := hb8.size; omega
    have q8 := keep3 hb8 q7
    have p8 := keep3 hb8 p7
    have hne : (((3 : Int) + N + M) != ((3 : Int) + N + M)) = false := by simp
    clear hb8 q7 p7
    go_wp2_with fail
    go_region_law (go_simp; go_wp2_with (first
      | (go_at_call 40; refine (toGens_any ao N cap f yo M ycap fy mk _ (HR1.out.below HB8.out.drew) HNS.out).mono ?_; rintro e w9 ⟨g9, y9, rfl, hg9, hi9, hl9, hb9⟩; have HB9 : Hid (Below w1.heap.size w1 w9) := HB8.out.drew.trans (hb9.mono HB8.out.drew.size); have HI9 : Hid (IG w9 g9 y9 N M f fy ∧ IG w9 g6 y6 N M f fy) := ⟨hi9, HI8.out.below (bundrew2 hb9) HL8.out⟩; have q9 := keep3 (bundrew2 hb9) q8; have p9 := keep3 (bundrew2 hb9) p8; clear hg9 hi9 hl9 hb9)
      | (go_at_call 42; refine (eqGens_same _ _ _ _ N N N M M M f fy mk w9 HI9.out.2.o.rdI HI9.out.1.o.rdI HI9.out.2.i.rdI HI9.out.1.i.rdI HNS.out).mono ?_; rintro e w10 ⟨rfl, hb10⟩; have HB10 : Hid (Below w1.heap.size w1 w10) := HB9.out.trans (hb10.mono HB9.out.size); clear hb10)))
    all_goals
      go_wp2_with fail
      go_ret
      exact ⟨rfl, HB1.out.trans (HB10.out.mono HB1.out.size)⟩
end Go.Proofs.Ytpklgbhclfgccaa
