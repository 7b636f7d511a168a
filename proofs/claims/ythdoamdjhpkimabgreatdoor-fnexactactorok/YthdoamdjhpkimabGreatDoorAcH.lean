/-
  The law FnExactActorOk, walked.
-/
import Derived.Test.YthdoamdjhpkimabGreatDoorCkD
import Derived.Test.YthdoamdjhpkimabGreatDoorAcE
import Derived.Test.YthdoamdjhpkimabGreatDoorAcF
import Derived.Test.YthdoamdjhpkimabGreatDoorAcG
namespace Go.Proofs.YthdoamdjhpkimabGreatDoor.fnExactActorOk
open Go.RowKit Atom
open Go.Proofs.YthdoamdjhpkimabGreatDoor.Code
set_option linter.unusedVariables false

/-- What the walk holds of every world on its way: the arguments, and the box. -/
structure Way (l : List I) (ao : Option Addr) (a : Ac) (h : Wh) (w wc : World) : Prop where
  bel : Below w.heap.size w wc
  sz : w.heap.size + 1 ≤ wc.heap.size
  q : ∀ o, wc.cell? ⟨w.heap.size, o, none⟩ = (#[.int .i64 a.pid, .int .i64 a.pc, .slice h.ra a.regs.length h.rc, .slice h.ba a.box.length h.bc, .slice h.la a.N h.lc] : Array Value)[o]?
  row : RowI wc ao l
  ac : AcR wc a h
theorem Way.next {l : List I} {ao : Option Addr} {a : Ac} {h : Wh} {w wc w' : World} (x : Way l ao a h w wc) (hb : Below wc.heap.size wc w') : Way l ao a h w w' :=
  ⟨x.bel.trans (hb.mono x.bel.size), Nat.le_trans x.sz hb.size, fun o => by have := x.sz; rw [hb.cell (p := ⟨w.heap.size, o, none⟩) (by show w.heap.size < _; omega)]; exact x.q o, x.row.below hb, x.ac.below hb⟩
theorem Way.drew {l : List I} {ao : Option Addr} {a : Ac} {h : Wh} {w wc : World} (x : Way l ao a h w wc) : Way l ao a h w wc.drew := x.next ((Below.refl _ _).drew)

set_option maxHeartbeats 4000000 in
set_option maxRecDepth 100000 in
theorem walk (l : List I) (ao : Option Addr) (cap : Nat) (a : Ac) (h : Wh) (w : World) (hr : RowI w ao l) (hs : SmI maxLen l) (hl : l.length ≤ maxLen) (ha : AcR w a h) (hS : Shp w) (hP : Pow w) (hE : Es.Ety w) :
    Calls Tryz.prog 3 #[.slice ao l.length cap, acV a h] w fun e w' => e = .returned (.bool true) ∧ Below w.heap.size w w' := by
  obtain ⟨A, hA⟩ : ∃ A, A = a := ⟨_, rfl⟩
  obtain ⟨G, hG⟩ : ∃ G, G = h := ⟨_, rfl⟩
  obtain ⟨pid, pc, regs, box, N, f⟩ := a
  obtain ⟨ra, rc, ba, bc, la, lc⟩ := h
  have HTAB : Hid (Shp w ∧ Pow w ∧ Es.Ety w) := ⟨hS, hP, hE⟩
  have W0 : Way l ao A G w (w.alloc (.cells #[.int .i64 pid, .int .i64 pc, .slice ra regs.length rc, .slice ba box.length bc, .slice la N lc] 26)) := by
    have hb : Below w.heap.size w (w.alloc (.cells #[.int .i64 pid, .int .i64 pc, .slice ra regs.length rc, .slice ba box.length bc, .slice la N lc] 26)) := (Below.refl _ _).alloc (Nat.le_refl _) _
    refine ⟨hb, by simp, fun o => ?_, hr.below hb, ?_⟩
    · rw [World.cell?_alloc_new, hA, hG]
    · rw [hA, hG]; exact ha.below hb
  have HW0 : Hid (Way l ao A G w (w.alloc (.cells #[.int .i64 pid, .int .i64 pc, .slice ra regs.length rc, .slice ba box.length bc, .slice la N lc] 26))) := W0
  have HQ : Hid (∀ wc, Way l ao A G w wc → ∀ o, wc.cell? ⟨w.heap.size, o, none⟩ = (#[.int .i64 pid, .int .i64 pc, .slice ra regs.length rc, .slice ba box.length bc, .slice la N lc] : Array Value)[o]?) := fun wc x o => by
    have := x.q o; rw [hA, hG] at this; exact this
  have HSZ : Hid (∀ wc, Way l ao A G w wc → Calls Tryz.prog 4 #[.slice ao l.length cap, .int .i64 1048576] wc fun e w' => (∃ r : Int, e = .returned (.int .i64 r) ∧ r ≤ 1048576 ∧ (0 ≤ r → l.length ≤ 1048576 ∧ SmI 1048576 l)) ∧ Way l ao A G w w') := fun wc x =>
    (szInsS_le l ao cap wc x.row hs hl).mono fun e w' ⟨h1, h2⟩ => ⟨h1, x.next h2⟩
  have HSA : Hid (∀ wc, Way l ao A G w wc → ∀ r : Int, 0 ≤ r → r ≤ 1048576 → Calls Tryz.prog 5 #[.agg #[.int .i64 pid, .int .i64 pc, .slice ra regs.length rc, .slice ba box.length bc, .slice la N lc], .int .i64 r] wc fun e w' => (∃ r : Int, e = .returned (.int .i64 r) ∧ r ≤ 1048576 ∧ (0 ≤ r → AcS A)) ∧ Way l ao A G w w') := fun wc x r h0 h1 => by
    have := szActor_any A G r wc x.ac h0 h1
    rw [hA, hG] at this ⊢
    rw [hA, hG] at x
    exact this.mono fun e w' ⟨h1, h2⟩ => ⟨h1, x.next h2⟩
  have HTI : Hid (l.length ≤ 1048576 → ∀ wc, Way l ao A G w wc → Calls Tryz.prog 7 #[.slice ao l.length cap] wc fun e w' => (∃ g : Nat, e = .returned (.slice (some ⟨g, 0, none⟩) l.length l.length) ∧ RowI w' (some ⟨g, 0, none⟩) l) ∧ Way l ao A G w w' ∧ Below wc.heap.size wc w') := fun hl wc x =>
    (toInsS_any l ao cap wc x.row hl).mono fun e w' ⟨⟨g, _, h1, h2⟩, h3⟩ => ⟨⟨g, h1, h2⟩, x.next h3, h3⟩
  have HTA : Hid (AcS A → ∀ wc, Way l ao A G w wc → Calls Tryz.prog 8 #[.agg #[.int .i64 pid, .int .i64 pc, .slice ra regs.length rc, .slice ba box.length bc, .slice la N lc]] wc fun e w' => (∃ g : Wh, e = .returned (.agg #[.int .i64 pid, .int .i64 pc, .slice g.ra regs.length g.rc, .slice g.ba box.length g.bc, .slice g.la N g.lc]) ∧ AcR w' A g) ∧ Way l ao A G w w' ∧ Below wc.heap.size wc w') := fun hs wc x => by
    have := toActor_any A G wc x.ac hs
    rw [hA, hG] at this ⊢
    rw [hA, hG] at x
    exact this.mono fun e w' ⟨g, h1, h2, h3⟩ => ⟨⟨g, h1, h2⟩, x.next h3, h3⟩
  have HSP : Hid (l.length ≤ 1048576 → AcS A → ∀ wc g i, Way l ao A G w wc → AcR wc A i → RowI wc (some ⟨g, 0, none⟩) l → Calls Tryz.prog 6 #[.slice (some ⟨g, 0, none⟩) l.length l.length, .agg #[.int .i64 pid, .int .i64 pc, .slice i.ra regs.length i.rc, .slice i.ba box.length i.bc, .slice i.la N i.lc]] wc fun e w' => e = .returned (.bool (acB l A)) ∧ Way l ao A G w w' ∧ Below wc.heap.size wc w') := fun hl hs2 wc g i x hi hrow => by
    have := specActorOk_any l (some ⟨g, 0, none⟩) l.length A i wc hrow hs hl hi hs2.2.2
    rw [hA] at this ⊢
    rw [hA] at x
    exact this.mono fun e w' ⟨h1, h2⟩ => ⟨h1, x.next h2, h2⟩
  have HIM : Hid (l.length ≤ 1048576 → AcS A → ∀ wc g i, Way l ao A G w wc → AcR wc A i → RowI wc (some ⟨g, 0, none⟩) l → Calls Tryz.prog 9 #[.slice (some ⟨g, 0, none⟩) l.length l.length, .agg #[.int .i64 pid, .int .i64 pc, .slice i.ra regs.length i.rc, .slice i.ba box.length i.bc, .slice i.la N i.lc]] wc fun e w' => e = .returned (.bool (acB l A)) ∧ Way l ao A G w w' ∧ Below wc.heap.size wc w') := fun hl hs2 wc g i x hi hrow => by
    have := implActorOk_any l (some ⟨g, 0, none⟩) l.length A i wc hrow hs hl hi hs2.2.2 (hS.below x.bel) (hP.below x.bel) (hE.below x.bel)
    rw [hA] at this ⊢
    rw [hA] at x
    exact this.mono fun e w' ⟨h1, h2⟩ => ⟨h1, x.next h2, h2⟩
  have HEQ : Hid (AcS A → ∀ wc i j, Way l ao A G w wc → AcR wc A i → AcR wc A j → Calls Tryz.prog 11 #[.agg #[.int .i64 pid, .int .i64 pc, .slice i.ra regs.length i.rc, .slice i.ba box.length i.bc, .slice i.la N i.lc], .agg #[.int .i64 pid, .int .i64 pc, .slice j.ra regs.length j.rc, .slice j.ba box.length j.bc, .slice j.la N j.lc]] wc fun e w' => e = .returned (.bool true) ∧ Way l ao A G w w') := fun hs2 wc i j x hi hj => by
    have := eqActor_same A i j wc hi hj hs2.2.2
    rw [hA] at this ⊢
    rw [hA] at x
    exact this.mono fun e w' ⟨h1, h2⟩ => ⟨h1, x.next h2⟩
  clear W0 hr hs ha hS hP hE hA hG
  unfold maxLen at hl
  go_enter Tryz.func3, Tryz.ntmps3
  go_wp2_with (go_at_call 4; fail)
  refine (HSZ.out _ HW0.out).mono ?_
  rintro e w1 ⟨⟨r, rfl, hr1, hr2⟩, hw1⟩
  have HW1 : Hid (Way l ao A G w w1) := hw1
  have HLE : Hid (0 ≤ r → l.length ≤ 1048576) := fun h => (hr2 h).1
  have q1 := HQ.out w1 hw1
  clear hw1 hr2
  by_cases h0 : r < 0
  · clear q1
    go_wp2
    go_ret
    exact ⟨rfl, HW1.out.bel⟩
  go_wp2_with (go_at_call 5; fail)
  refine (HSA.out _ HW1.out r (by omega) (by omega)).mono ?_
  rintro e w2 ⟨⟨r2, rfl, hr3, hr4⟩, hw2⟩
  have HW2 : Hid (Way l ao A G w w2) := hw2
  have HAS : Hid (0 ≤ r2 → AcS A) := hr4
  clear q1
  have q2 := HQ.out w2 hw2
  clear hw2 hr4
  by_cases h1 : r2 < 0
  · clear q2
    go_wp2
    go_ret
    exact ⟨rfl, HW2.out.bel⟩
  have HLL : Hid (l.length ≤ 1048576) := HLE.out (by omega)
  have HSS : Hid (AcS A) := HAS.out (by omega)
  clear HLE HAS h0 hr1 hr3
  go_wp2_with fail
  obtain ⟨bb, hbb⟩ : ∃ bb, bb = acB l A := ⟨_, rfl⟩
  have HBB : Hid (bb = acB l A) := hbb
  clear hbb
  have HD2 : Hid (Way l ao A G w w2.drew) := HW2.out.drew
  go_region_with (first
    | (go_at_call 7; first
        | (with_reducible refine (HTI.out HLL.out w2.drew HD2.out).mono ?_; rintro e wI ⟨⟨gi, rfl, hrI⟩, hwI, hbI⟩; have qI := HQ.out wI hwI)
        | (with_reducible refine (HTI.out HLL.out wA hwA).mono ?_; rintro e wI ⟨⟨gi, rfl, hrI⟩, hwI, hbI⟩; have hacI := hac.below hbI))
    | (go_at_call 8; first
        | (with_reducible refine (HTA.out HSS.out w2.drew HD2.out).mono ?_; rintro e wA ⟨⟨gA, rfl, hac⟩, hwA, hbA⟩)
        | (with_reducible refine (HTA.out HSS.out wI hwI).mono ?_; rintro e wA ⟨⟨gA, rfl, hac⟩, hwA, hbA⟩; have hrA := hrI.below hbA))
    | (go_at_call 6; first
        | (with_reducible refine (HSP.out HLL.out HSS.out wA gi gA hwA hac hrA).mono ?_; rintro e w4 ⟨he, hw4, hb4⟩; rw [← HBB.out] at he; subst he)
        | (with_reducible refine (HSP.out HLL.out HSS.out wI gi gA hwI hacI hrI).mono ?_; rintro e w4 ⟨he, hw4, hb4⟩; rw [← HBB.out] at he; subst he)))
  all_goals
    have HW4 : Hid (Way l ao A G w w4) := hw4
    clear hrI hwI hbI qI hwA hbA hac hrA hw4 hb4 q2 h1
    go_wp2_with (go_at_call 7; fail)
    refine (HTI.out HLL.out _ HW4.out).mono ?_
    rintro e w5 ⟨⟨g5, rfl, hr5⟩, hw5, hb5⟩
    have HW5 : Hid (Way l ao A G w w5 ∧ RowI w5 (some ⟨g5, 0, none⟩) l) := ⟨hw5, hr5⟩
    have q5 := HQ.out w5 hw5
    clear hw5 hb5 hr5
    go_wp2_with (go_at_call 8; fail)
    refine (HTA.out HSS.out _ HW5.out.1).mono ?_
    rintro e w6 ⟨⟨g6, rfl, hac6⟩, hw6, hb6⟩
    have HW6 : Hid (Way l ao A G w w6 ∧ RowI w6 (some ⟨g5, 0, none⟩) l ∧ AcR w6 A g6) := ⟨hw6, HW5.out.2.below hb6, hac6⟩
    clear hw6 hb6 hac6 q5
    obtain ⟨ra6, rc6, ba6, bc6, la6, lc6⟩ := g6
    obtain ⟨B6, hB6⟩ : ∃ B6, B6 = w6.heap.size := ⟨_, rfl⟩
    have KB : Below w6.heap.size w6 (w6.alloc (.cells #[.int .i64 pid, .int .i64 pc, .slice ra6 regs.length rc6, .slice ba6 box.length bc6, .slice la6 N lc6] 34)) := (Below.refl _ _).alloc (Nat.le_refl _) _
    have HW6b : Hid (Way l ao A G w (w6.alloc (.cells #[.int .i64 pid, .int .i64 pc, .slice ra6 regs.length rc6, .slice ba6 box.length bc6, .slice la6 N lc6] 34)) ∧ RowI (w6.alloc (.cells #[.int .i64 pid, .int .i64 pc, .slice ra6 regs.length rc6, .slice ba6 box.length bc6, .slice la6 N lc6] 34)) (some ⟨g5, 0, none⟩) l ∧ AcR (w6.alloc (.cells #[.int .i64 pid, .int .i64 pc, .slice ra6 regs.length rc6, .slice ba6 box.length bc6, .slice la6 N lc6] 34)) A ⟨ra6, rc6, ba6, bc6, la6, lc6⟩) := ⟨HW6.out.1.next KB, HW6.out.2.1.below KB, HW6.out.2.2.below KB⟩
    have HBX : Hid (∀ w7, Below (w6.alloc (.cells #[.int .i64 pid, .int .i64 pc, .slice ra6 regs.length rc6, .slice ba6 box.length bc6, .slice la6 N lc6] 34)).heap.size (w6.alloc (.cells #[.int .i64 pid, .int .i64 pc, .slice ra6 regs.length rc6, .slice ba6 box.length bc6, .slice la6 N lc6] 34)) w7 → ∀ o, w7.cell? ⟨w6.heap.size, o, none⟩ = (#[.int .i64 pid, .int .i64 pc, .slice ra6 regs.length rc6, .slice ba6 box.length bc6, .slice la6 N lc6] : Array Value)[o]?) := fun w7 hb o => by
      rw [hb.cell (p := ⟨w6.heap.size, o, none⟩) (by show w6.heap.size < _; simp), World.cell?_alloc_new]
    clear KB hB6
    go_wp2_with (go_at_call 9; fail)
    refine (HIM.out HLL.out HSS.out _ g5 ⟨ra6, rc6, ba6, bc6, la6, lc6⟩ HW6b.out.1 HW6b.out.2.2 HW6b.out.2.1).mono ?_
    rintro e w7 ⟨he, hw7, hb7⟩
    rw [← HBB.out] at he
    subst he
    have HW7 : Hid (Way l ao A G w w7 ∧ RowI w7 (some ⟨g5, 0, none⟩) l ∧ AcR w7 A ⟨ra6, rc6, ba6, bc6, la6, lc6⟩) := ⟨hw7, HW6b.out.2.1.below hb7, HW6b.out.2.2.below hb7⟩
    have HB7 : Hid (Below (w6.alloc (.cells #[.int .i64 pid, .int .i64 pc, .slice ra6 regs.length rc6, .slice ba6 box.length bc6, .slice la6 N lc6] 34)).heap.size (w6.alloc (.cells #[.int .i64 pid, .int .i64 pc, .slice ra6 regs.length rc6, .slice ba6 box.length bc6, .slice la6 N lc6] 34)) w7) := hb7
    clear hw7 hb7
    have hne : (bb != bb) = false := by cases bb <;> rfl
    clear HBB
    go_wp2_with (go_at_call 7; fail)
    refine (HTI.out HLL.out _ HW7.out.1).mono ?_
    rintro e w8 ⟨⟨g8, rfl, hr8⟩, hw8, hb8⟩
    have HW8 : Hid (Way l ao A G w w8 ∧ RowI w8 (some ⟨g5, 0, none⟩) l ∧ RowI w8 (some ⟨g8, 0, none⟩) l ∧ AcR w8 A ⟨ra6, rc6, ba6, bc6, la6, lc6⟩) := ⟨hw8, HW7.out.2.1.below hb8, hr8, HW7.out.2.2.below hb8⟩
    have HB8 : Hid (Below (w6.alloc (.cells #[.int .i64 pid, .int .i64 pc, .slice ra6 regs.length rc6, .slice ba6 box.length bc6, .slice la6 N lc6] 34)).heap.size (w6.alloc (.cells #[.int .i64 pid, .int .i64 pc, .slice ra6 regs.length rc6, .slice ba6 box.length bc6, .slice la6 N lc6] 34)) w8) := HB7.out.trans (hb8.mono HB7.out.size)
    clear hw8 hb8 hr8
    go_wp2_with (go_at_call 10; fail)
    refine (eqInsS_same l (some ⟨g5, 0, none⟩) (some ⟨g8, 0, none⟩) l.length l.length _ HW8.out.2.1 HW8.out.2.2.1 HLL.out).mono ?_
    rintro e w9 ⟨rfl, hb9⟩
    have HW9 : Hid (Way l ao A G w w9 ∧ AcR w9 A ⟨ra6, rc6, ba6, bc6, la6, lc6⟩) := ⟨HW8.out.1.next hb9, HW8.out.2.2.2.below hb9⟩
    have HB9 : Hid (Below (w6.alloc (.cells #[.int .i64 pid, .int .i64 pc, .slice ra6 regs.length rc6, .slice ba6 box.length bc6, .slice la6 N lc6] 34)).heap.size (w6.alloc (.cells #[.int .i64 pid, .int .i64 pc, .slice ra6 regs.length rc6, .slice ba6 box.length bc6, .slice la6 N lc6] 34)) w9) := HB8.out.trans (hb9.mono HB8.out.size)
    clear hb9
    have q9 := HQ.out w9 HW9.out.1
    have qb9 := HBX.out w9 HB9.out
    have HD9 : Hid (Way l ao A G w w9.drew ∧ AcR w9.drew A ⟨ra6, rc6, ba6, bc6, la6, lc6⟩) := ⟨HW9.out.1.drew, HW9.out.2.below ((Below.refl _ _).drew)⟩
    have HX9 : Hid (∀ wT, Below w9.drew.heap.size w9.drew wT → ∀ o, wT.cell? ⟨w6.heap.size, o, none⟩ = (#[.int .i64 pid, .int .i64 pc, .slice ra6 regs.length rc6, .slice ba6 box.length bc6, .slice la6 N lc6] : Array Value)[o]?) := fun wT hb o => HBX.out wT (HB9.out.drew.trans (hb.mono HB9.out.size)) o
    go_wp2_with fail
    go_region_with (first
      | (go_at_call 8; refine (HTA.out HSS.out w9.drew HD9.out.1).mono ?_; rintro e wT ⟨⟨gT, rfl, hacT⟩, hwT, hbT⟩; have qT := HX9.out wT hbT; have hac9 := HD9.out.2.below hbT)
      | (go_at_call 11; refine (HEQ.out HSS.out wT ⟨ra6, rc6, ba6, bc6, la6, lc6⟩ gT hwT hac9 hacT).mono ?_; rintro e wU ⟨rfl, hwU⟩))
    all_goals
      have HWU : Hid (Below w.heap.size w wU) := hwU.bel
      clear hwU hacT hwT hbT qT hac9 q9 qb9
      go_wp2_with fail
      go_ret
      exact ⟨rfl, HWU.out⟩
end Go.Proofs.YthdoamdjhpkimabGreatDoor.fnExactActorOk
