/-
  What the specification's l2Copy and WriteWord answer at an arena of any length.
-/
import Derived.Test.YtejhfoahpopeoaaHoA
import Derived.Deep.Upon
namespace Go.Proofs.Ytejhfoahpopeoaa
open Go.RowKit
set_option linter.unusedVariables false

theorem run_app0 (W : World) (g b o cap : Nat) : (Builtin.append_ #[24, 24] 24 #[.slice (some ⟨g, 0, none⟩) 0 0, .slice (some ⟨b, o, none⟩) 0 cap]).run Try.prog W = .ok (.slice (some ⟨g, 0, none⟩) 0 0) W := by
  obtain ⟨i0, hi, hz0, hz1, hz2⟩ := info_parts infoInt
  exact run_append_nothing W 24 24 24 3 i0 undInts hi _ 0 0 (Nat.le_refl _) _ (Src.ofSlice W undInts ⟨b, o, none⟩ 0 cap [] (by simp) (fun j u h => by simp at h) (fun u h => by cases h))

set_option maxHeartbeats 2000000 in
set_option maxRecDepth 100000 in
theorem copy_none (b o cap : Nat) (w : World) :
    Calls Try.prog 55 #[.agg #[.slice (some ⟨b, o, none⟩) 0 cap]] w fun e w' => ∃ g, e = .returned (.agg #[.slice (some ⟨g, 0, none⟩) 0 0]) ∧ Below w.heap.size w w' := by
  go_enter Try.func55, Try.ntmps55
  go_wp2_with (at_builtin; refine Go.Lib.wpList_append_run _ rfl _ _ 24 24 rfl _ _ rfl rfl _ _ (run_app0 _ _ _ _ _) ?_)
  exact bodyPost_ret (v := .agg #[.slice (some ⟨w.heap.size + 1 + 1, 0, none⟩) 0 0]) (by simp [results, Try.results55, go_sem]) rfl ⟨w.heap.size + 1 + 1, rfl, (((Below.refl w.heap.size w).alloc (Nat.le_refl _) _).alloc (by simp) _).alloc (by simp; omega) _⟩

theorem copy_all (b o N cap : Nat) (f : Nat → Int) (w : World) (hr : Rd w (some ⟨b, o, none⟩) N f) (hN : N ≤ 4000) :
    Calls Try.prog 55 #[.agg #[.slice (some ⟨b, o, none⟩) N cap]] w fun e w' => ∃ g cc, e = .returned (.agg #[.slice (some ⟨g, 0, none⟩) N cc]) ∧ Below w.heap.size w w' ∧ (0 < N → w.heap.size + 2 ≤ g ∧ Ints w' g 0 N f) := by
  by_cases h : N = 0
  · subst h
    exact (copy_none b o cap w).mono fun e w' ⟨g, h1, h2⟩ => ⟨g, 0, h1, h2, fun h => absurd h (by omega)⟩
  · obtain ⟨b', o', e', hc⟩ := hr (by omega)
    cases e'
    exact (copy_any b o N cap f w hc (by omega) hN).mono fun e w' ⟨g, cc, h1, h2, h3, h4, h5⟩ => ⟨g, cc, h1, h3, fun _ => ⟨h2, h4⟩⟩

set_option maxHeartbeats 1000000 in
theorem specWrite_any (b o N cap : Nat) (f : Nat → Int) (x i v : Int) (w : World) (hr : Rd w (some ⟨b, o, none⟩) N f) (hN : N ≤ 4000) :
    Calls Try.prog 34 #[.agg #[.slice (some ⟨b, o, none⟩) N cap], .int .i64 x, .int .i64 i, .int .i64 v] w fun e w' => ∃ g cc, e = .returned (.tuple #[.agg #[.slice (some ⟨g, 0, none⟩) N cc], .bool (hol (blkI f N x) i)]) ∧ Below w.heap.size w w' := by
  have HR : Hid (Rd w (some ⟨b, o, none⟩) N f) := hr
  clear hr
  obtain ⟨y, hy⟩ : ∃ y, hol (blkI f N x) i = y := ⟨_, rfl⟩
  have HY : Hid (hol (blkI f N x) i = y) := hy
  have HX : Hid (y = true → ∃ p j : Nat, x = p ∧ i = j ∧ p + 2 + j < N) := fun e => by
    rw [e] at hy
    unfold blkI at hy
    split at hy
    · cases hy
    · rename_i hx
      cases hb : blkO f N x.toNat with
      | none => rw [hb] at hy; cases hy
      | some z =>
        obtain ⟨n, u⟩ := z
        rw [hb] at hy
        cases u with
        | false => cases hy
        | true =>
          have hi : 0 ≤ i ∧ i ≤ (n : Int) - 1 := by simpa [hol, inB] using hy
          have := (blkO_of hb).fit
          exact ⟨x.toNat, i.toNat, by omega, by omega, by omega⟩
  clear hy
  have hbA : Below w.heap.size w ((w.alloc (.cells #[.slice (some ⟨b, o, none⟩) N cap] 26)).alloc (.cells #[.slice none 0 0] 26)) := ((Below.refl _ w).alloc (Nat.le_refl _) _).alloc (by simp) _
  have q0 : ((w.alloc (.cells #[.slice (some ⟨b, o, none⟩) N cap] 26)).alloc (.cells #[.slice none 0 0] 26)).cell? ⟨w.heap.size, 0, none⟩ = some (.slice (some ⟨b, o, none⟩) N cap) := by
    have h0 := World.cell?_alloc_new w #[.slice (some ⟨b, o, none⟩) N cap] 26 0
    exact (((Below.refl _ (w.alloc (.cells #[.slice (some ⟨b, o, none⟩) N cap] 26))).alloc (Nat.le_refl _) (.cells #[.slice none 0 0] 26)).cell (p := ⟨w.heap.size, 0, none⟩) (World.block_lt_of_cell? _ _ h0)).trans h0
  have q1 : ((w.alloc (.cells #[.slice (some ⟨b, o, none⟩) N cap] 26)).alloc (.cells #[.slice none 0 0] 26)).cell? ⟨w.heap.size + 1, 0, none⟩ = some (.slice none 0 0) := by
    have a1 := World.cell?_alloc_new (w.alloc (.cells #[.slice (some ⟨b, o, none⟩) N cap] 26)) #[.slice none 0 0] 26 0
    rw [World.size_alloc] at a1
    exact a1
  have q2 : ((w.alloc (.cells #[.slice (some ⟨b, o, none⟩) N cap] 26)).alloc (.cells #[.slice none 0 0] 26)).frozen? ⟨w.heap.size + 1, 0, none⟩ = false := by
    have a2 := World.frozen?_alloc_new (w.alloc (.cells #[.slice (some ⟨b, o, none⟩) N cap] 26)) #[.slice none 0 0] 26 0
    rw [World.size_alloc] at a2
    exact a2
  have hz : ((w.alloc (.cells #[.slice (some ⟨b, o, none⟩) N cap] 26)).alloc (.cells #[.slice none 0 0] 26)).heap.size = w.heap.size + 2 := by simp
  have HQ : Hid (((w.alloc (.cells #[.slice (some ⟨b, o, none⟩) N cap] 26)).alloc (.cells #[.slice none 0 0] 26)).cell? ⟨w.heap.size, 0, none⟩ = some (.slice (some ⟨b, o, none⟩) N cap) ∧ ((w.alloc (.cells #[.slice (some ⟨b, o, none⟩) N cap] 26)).alloc (.cells #[.slice none 0 0] 26)).cell? ⟨w.heap.size + 1, 0, none⟩ = some (.slice none 0 0) ∧ ((w.alloc (.cells #[.slice (some ⟨b, o, none⟩) N cap] 26)).alloc (.cells #[.slice none 0 0] 26)).frozen? ⟨w.heap.size + 1, 0, none⟩ = false ∧ Below w.heap.size w ((w.alloc (.cells #[.slice (some ⟨b, o, none⟩) N cap] 26)).alloc (.cells #[.slice none 0 0] 26)) ∧ ((w.alloc (.cells #[.slice (some ⟨b, o, none⟩) N cap] 26)).alloc (.cells #[.slice none 0 0] 26)).heap.size = w.heap.size + 2) := ⟨q0, q1, q2, hbA, hz⟩
  clear q0 q1 q2 hbA hz
  go_enter Try.func34, Try.ntmps34
  go_wp2_with fail
  refine (copy_all b o N cap f _ (HR.out.below HQ.out.2.2.2.1) hN).mono ?_
  rintro e w1 ⟨g, cc, rfl, hb1, hI⟩
  obtain ⟨q0, q1, q2, hbA, hz⟩ := HQ.out
  have c0 := (hb1.cell (p := ⟨w.heap.size, 0, none⟩) (World.block_lt_of_cell? _ _ q0)).trans q0
  have c1 := (hb1.cell (p := ⟨w.heap.size + 1, 0, none⟩) (World.block_lt_of_cell? _ _ q1)).trans q1
  have c2 := (hb1.frozen (p := ⟨w.heap.size + 1, 0, none⟩) (World.block_lt_of_cell? _ _ q1)).trans q2
  rw [hz] at hI
  have hb2 := below_join hbA hb1
  clear q0 q1 q2 hz hbA hb1 HQ
  have hbC : Below w1.heap.size w1 (w1.alloc (.cells #[.slice (some ⟨g, 0, none⟩) N cc] 26)) := (Below.refl _ _).alloc (Nat.le_refl _) _
  have d0 := (hbC.cell (p := ⟨w.heap.size, 0, none⟩) (World.block_lt_of_cell? _ _ c0)).trans c0
  have d1 := (hbC.cell (p := ⟨w.heap.size + 1, 0, none⟩) (World.block_lt_of_cell? _ _ c1)).trans c1
  have d2 := (hbC.frozen (p := ⟨w.heap.size + 1, 0, none⟩) (World.block_lt_of_cell? _ _ c1)).trans c2
  have dB : (w1.alloc (.cells #[.slice (some ⟨g, 0, none⟩) N cc] 26)).cell? ⟨w1.heap.size, 0, none⟩ = some (.slice (some ⟨g, 0, none⟩) N cc) := World.cell?_alloc_new w1 _ _ 0
  have hI2 : 0 < N → w.heap.size + 2 + 2 ≤ g ∧ g < w1.heap.size ∧ Ints (w1.alloc (.cells #[.slice (some ⟨g, 0, none⟩) N cc] 26)) g 0 N f := fun h => ⟨(hI h).1, (hI h).2.lt h, (hI h).2.below hbC ((hI h).2.lt h)⟩
  have hb3 := below_join hb2 hbC
  have HB : Hid (Below w.heap.size w (w1.alloc (.cells #[.slice (some ⟨g, 0, none⟩) N cc] 26)) ∧ (0 < N → w.heap.size + 2 + 2 ≤ g ∧ g < w1.heap.size ∧ Ints (w1.alloc (.cells #[.slice (some ⟨g, 0, none⟩) N cc] 26)) g 0 N f) ∧ (w1.alloc (.cells #[.slice (some ⟨g, 0, none⟩) N cc] 26)).cell? ⟨w1.heap.size, 0, none⟩ = some (.slice (some ⟨g, 0, none⟩) N cc) ∧ (w1.alloc (.cells #[.slice (some ⟨g, 0, none⟩) N cc] 26)).cell? ⟨w.heap.size + 1, 0, none⟩ = some (.slice none 0 0) ∧ (w1.alloc (.cells #[.slice (some ⟨g, 0, none⟩) N cc] 26)).frozen? ⟨w.heap.size + 1, 0, none⟩ = false) := ⟨hb3, hI2, dB, d1, d2⟩
  clear hb2 hI c0 c1 c2 hbC d1 d2 dB hI2 hb3
  go_wp2_with fail
  refine (holds_any (some ⟨b, o, none⟩) N cap f x i _ (HR.out.below HB.out.1) (by omega)).mono ?_
  rintro e w4 ⟨rfl, hb4⟩
  rw [HY.out]
  obtain ⟨h1, h2, h6, h7, h8⟩ := HB.out
  have e6 := (hb4.cell (p := ⟨w1.heap.size, 0, none⟩) (World.block_lt_of_cell? _ _ h6)).trans h6
  have e7 := (hb4.cell (p := ⟨w.heap.size + 1, 0, none⟩) (World.block_lt_of_cell? _ _ h7)).trans h7
  have e8 := (hb4.frozen (p := ⟨w.heap.size + 1, 0, none⟩) (World.block_lt_of_cell? _ _ h7)).trans h8
  have hI4 : 0 < N → w.heap.size + 2 + 2 ≤ g ∧ g < w1.heap.size ∧ Ints w4 g 0 N f := fun h => by
    obtain ⟨j1, j2, j3⟩ := h2 h
    exact ⟨j1, j2, j3.below hb4 (j3.lt h)⟩
  have HD : Hid (Below w.heap.size w w4 ∧ (0 < N → w.heap.size + 2 + 2 ≤ g ∧ g < w1.heap.size ∧ Ints w4 g 0 N f)) := ⟨below_join h1 hb4, hI4⟩
  clear HB h1 h2 h6 h7 h8 hb4 hI4 d0
  cases y with
  | false =>
    go_wp2_with fail
    refine bodyPost_ret (v := .tuple #[.agg #[.slice (some ⟨g, 0, none⟩) N cc], .bool false]) (by simp [results, Try.results34, go_sem, e7]) rfl ⟨g, cc, ?_, HD.out.1.setCell (p := ⟨w.heap.size + 1, 0, none⟩) (by show w.heap.size ≤ w.heap.size + 1; omega) _⟩
    rw [HY.out]
  | true =>
    obtain ⟨p, j, rfl, rfl, hlt⟩ := HX.out rfl
    obtain ⟨k1, k2, k3⟩ := HD.out.2 (by omega)
    have hx := k3.cell (p + 2 + j) hlt
    rw [Nat.zero_add] at hx
    have hy := k3.free (p + 2 + j)
    have hn1 : g ≠ w1.heap.size := by omega
    have hn2 : g ≠ w.heap.size + 1 := by omega
    have V0 : IntKind.i64.wrap ((p : Int) + 2) = (p : Int) + 2 := by rw [IntKind.wrap_i64]; omega
    have V4 : IntKind.i64.wrap ((p : Int) + 2 + j) = (p : Int) + 2 + j := by rw [IntKind.wrap_i64]; omega
    have V1 : ((p : Int) + 2 + j).toNat = p + 2 + j := by omega
    have V2 : (0 : Int) ≤ (p : Int) + 2 + j := by omega
    have V3 : (p : Int) + 2 + j < N := by omega
    have HG : Hid (w.heap.size ≤ g) := by show _ ≤ _; omega
    clear k1 k2 k3
    go_wp2_with fail
    refine bodyPost_ret (v := .tuple #[.agg #[.slice (some ⟨g, 0, none⟩) N cc], .bool true]) (by simp [results, Try.results34, go_sem, e7]) rfl ⟨g, cc, ?_, (HD.out.1.setCell (p := ⟨g, p + 2 + j, none⟩) HG.out _).setCell (p := ⟨w.heap.size + 1, 0, none⟩) (by show w.heap.size ≤ w.heap.size + 1; omega) _⟩
    rw [HY.out]
end Go.Proofs.Ytejhfoahpopeoaa
