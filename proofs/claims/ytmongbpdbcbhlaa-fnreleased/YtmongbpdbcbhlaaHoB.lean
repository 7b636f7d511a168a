/-
  What the specification's l2Copy and WriteWord answer at an arena of any length.
-/
import Derived.Test.YtmongbpdbcbhlaaHoA
import Derived.Deep.Upon
namespace Go.Proofs.Ytmongbpdbcbhlaa
open Go.RowKit
set_option linter.unusedVariables false

theorem run_app0 (W : World) (g b o cap : Nat) : (Builtin.append_ #[24, 24] 24 #[.slice (some ⟨g, 0, none⟩) 0 0, .slice (some ⟨b, o, none⟩) 0 cap]).run Try.prog W = .ok (.slice (some ⟨g, 0, none⟩) 0 0) W := by
  obtain ⟨i0, hi, hz0, hz1, hz2⟩ := info_parts infoInt
  exact run_append_nothing W 24 24 24 3 i0 undInts hi _ 0 0 (Nat.le_refl _) _ (Src.ofSlice W undInts ⟨b, o, none⟩ 0 cap [] (by simp) (fun j u h => by simp at h) (fun u h => by cases h))

set_option maxHeartbeats 2000000 in
set_option maxRecDepth 100000 in
theorem copy_none (b o cap : Nat) (w : World) :
    Calls Try.prog 34 #[.agg #[.slice (some ⟨b, o, none⟩) 0 cap]] w fun e w' => ∃ g, e = .returned (.agg #[.slice (some ⟨g, 0, none⟩) 0 0]) ∧ Below w.heap.size w w' := by
  go_enter Try.func34, Try.ntmps34
  go_wp2_with (at_builtin; refine Go.Lib.wpList_append_run _ rfl _ _ 24 24 rfl _ _ rfl rfl _ _ (run_app0 _ _ _ _ _) ?_)
  exact bodyPost_ret (v := .agg #[.slice (some ⟨w.heap.size + 1 + 1, 0, none⟩) 0 0]) (by simp [results, Try.results34, go_sem]) rfl ⟨w.heap.size + 1 + 1, rfl, (((Below.refl w.heap.size w).alloc (Nat.le_refl _) _).alloc (by simp) _).alloc (by simp; omega) _⟩

theorem copy_all (b o N cap : Nat) (f : Nat → Int) (w : World) (hr : Rd w (some ⟨b, o, none⟩) N f) (hN : N ≤ 4000) :
    Calls Try.prog 34 #[.agg #[.slice (some ⟨b, o, none⟩) N cap]] w fun e w' => ∃ g cc, e = .returned (.agg #[.slice (some ⟨g, 0, none⟩) N cc]) ∧ Below w.heap.size w w' ∧ (0 < N → w.heap.size + 2 ≤ g ∧ Ints w' g 0 N f) := by
  by_cases h : N = 0
  · subst h
    exact (copy_none b o cap w).mono fun e w' ⟨g, h1, h2⟩ => ⟨g, 0, h1, h2, fun h => absurd h (by omega)⟩
  · obtain ⟨b', o', e', hc⟩ := hr (by omega)
    cases e'
    exact (copy_any b o N cap f w hc (by omega) hN).mono fun e w' ⟨g, cc, h1, h2, h3, h4, h5⟩ => ⟨g, cc, h1, h3, fun _ => ⟨h2, h4⟩⟩

end Go.Proofs.Ytmongbpdbcbhlaa
