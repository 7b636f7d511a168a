/-
  Actors compared.
-/
import Derived.Test.YtjibnlpjpbileaaGreatDoorAcC
namespace Go.Proofs.YtjibnlpjpbileaaGreatDoor
open Go.RowKit Atom
set_option linter.unusedVariables false

set_option maxHeartbeats 1000000 in
set_option maxRecDepth 100000 in
theorem eqActor_same (a : Ac) (g h : Wh) (w : World) (hg : AcR w a g) (hh : AcR w a h) (hN : a.N ≤ 1048576) :
    Calls Tryz.prog 78 #[acV a g, acV a h] w fun e w' => e = .returned (.bool true) ∧ Below w.heap.size w w' := by
  obtain ⟨pid, pc, regs, box, N, f⟩ := a
  obtain ⟨ra, rc, ba, bc, la, lc⟩ := g
  obtain ⟨ra', rc', ba', bc', la', lc'⟩ := h
  have HG : Hid (AcR w ⟨pid, pc, regs, box, N, f⟩ ⟨ra, rc, ba, bc, la, lc⟩) := hg
  have HH : Hid (AcR w ⟨pid, pc, regs, box, N, f⟩ ⟨ra', rc', ba', bc', la', lc'⟩) := hh
  have HN : Hid (N ≤ 1048576) := hN
  clear hg hh hN
  obtain ⟨w0, hw0⟩ : ∃ w0, w0 = (w.alloc (.cells #[.int .i64 pid, .int .i64 pc, .slice ra regs.length rc, .slice ba box.length bc, .slice la N lc] 61)).alloc (.cells #[.int .i64 pid, .int .i64 pc, .slice ra' regs.length rc', .slice ba' box.length bc', .slice la' N lc'] 61) := ⟨_, rfl⟩
  have HB0 : Hid (Below w.heap.size w w0) := by rw [hw0]; exact ((Below.refl _ _).alloc (Nat.le_refl _) _).alloc (by simp) _
  have hq : ∀ j (v : Value), (#[.int .i64 pid, .int .i64 pc, .slice ra regs.length rc, .slice ba box.length bc, .slice la N lc] : Array Value)[j]? = some v → w0.cell? ⟨w.heap.size, j, none⟩ = some v := fun j v hv => by
    rw [hw0]
    refine keepA ((Below.refl _ _).alloc (Nat.le_refl _) _) ?_
    rw [World.cell?_alloc_new]; exact hv
  have hq' : ∀ j (v : Value), (#[.int .i64 pid, .int .i64 pc, .slice ra' regs.length rc', .slice ba' box.length bc', .slice la' N lc'] : Array Value)[j]? = some v → w0.cell? ⟨w.heap.size + 1, j, none⟩ = some v := fun j v hv => by
    rw [hw0]
    have e : (w.alloc (.cells #[.int .i64 pid, .int .i64 pc, .slice ra regs.length rc, .slice ba box.length bc, .slice la N lc] 61)).heap.size = w.heap.size + 1 := by simp
    rw [← e, World.cell?_alloc_new]; exact hv
  have HC : Hid (∀ w1, Below w0.heap.size w0 w1 → w1.cell? ⟨w.heap.size, 3, none⟩ = some (.slice ba box.length bc) ∧ w1.cell? ⟨w.heap.size, 4, none⟩ = some (.slice la N lc) ∧ w1.cell? ⟨w.heap.size + 1, 3, none⟩ = some (.slice ba' box.length bc') ∧ w1.cell? ⟨w.heap.size + 1, 4, none⟩ = some (.slice la' N lc')) := fun w1 hb =>
    ⟨keepA hb (hq 3 _ rfl), keepA hb (hq 4 _ rfl), keepA hb (hq' 3 _ rfl), keepA hb (hq' 4 _ rfl)⟩
  clear hq hq'
  go_enter Tryz.func78, Tryz.ntmps78
  go_wp2_with fail
  rw [← hw0]
  clear hw0
  refine (eqL_any regs ra ra' rc rc' w0 (HG.out.below HB0.out).regs (HH.out.below HB0.out).regs HG.out.r1 HG.out.r2 HH.out.r1 HH.out.r2).mono ?_
  rintro e w1 ⟨rfl, hb1⟩
  have HB1 : Hid (Below w0.heap.size w0 w1) := hb1
  have HX1 : Hid (Below w.heap.size w w1) := HB0.out.trans (hb1.mono HB0.out.size)
  obtain ⟨d3, _, d3', _⟩ := HC.out w1 hb1
  clear hb1
  go_wp2_with fail
  refine (eqL_any box ba ba' bc bc' w1 (HG.out.below HX1.out).box (HH.out.below HX1.out).box HG.out.b1 HG.out.b2 HH.out.b1 HH.out.b2).mono ?_
  rintro e w2 ⟨rfl, hb2⟩
  have HB2 : Hid (Below w0.heap.size w0 w2) := HB1.out.trans (hb2.mono HB1.out.size)
  have HX2 : Hid (Below w.heap.size w w2) := HX1.out.trans (hb2.mono HX1.out.size)
  obtain ⟨_, d4, _, d4'⟩ := HC.out w2 HB2.out
  clear hb2 d3 d3'
  go_wp2_with fail
  refine (eqIntS_same la la' N lc lc' f f w2 (HG.out.below HX2.out).links (HH.out.below HX2.out).links (fun _ _ => rfl) HN.out).mono ?_
  rintro e w3 ⟨rfl, hb3⟩
  have HX3 : Hid (Below w.heap.size w w3) := HX2.out.trans (hb3.mono HX2.out.size)
  clear hb3 d4 d4'
  go_wp2_with fail
  go_ret
  exact ⟨rfl, HX3.out⟩

end Go.Proofs.YtjibnlpjpbileaaGreatDoor
