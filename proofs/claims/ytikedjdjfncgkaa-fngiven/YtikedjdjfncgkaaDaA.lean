/-
  What the laws over a drawn arena call: has, at, the draw; the used blocks by their number.
-/
import Derived.Test.YtikedjdjfncgkaaDwA
import Derived.Test.YtikedjdjfncgkaaGuB
namespace Go.Proofs.Ytikedjdjfncgkaa
open Go.RowKit
set_option linter.unusedVariables false

theorem has_yes (la : Option Addr) (L lc : Nat) (h : Nat → Int) (x : Int) (w : World) (hr : Rd w la L h) (hL : L ≤ 1048576) (hy : ∃ j, j < L ∧ h j = x) :
    Calls Try.prog 16 #[.slice la L lc, .int .i64 x] w fun e w' => e = .returned (.bool true) ∧ w' = w := by
  have HR : Hid (Rd w la L h) := hr
  have HY : Hid (∃ j, j < L ∧ h j = x) := hy
  clear hr hy
  go_enter Try.func16, Try.ntmps16
  go_wp2_with fail
  go_loop [5] (fun i => ∃ m : Nat, m ≤ L ∧ i = .int .i64 m ∧ ∀ j, j < m → h j ≠ x) (fun i => L - (intOf i).toNat)
  case atStart => exact ⟨0, Nat.zero_le _, by simp, fun j hj => absurd hj (Nat.not_lt_zero _)⟩
  case round =>
    obtain ⟨m, hm, rfl, hall⟩ := hrel
    have HALL : Hid (∀ j, j < m → h j ≠ x) := hall
    clear hall
    by_cases hlt : m < L
    · obtain ⟨b, o, rfl, hc⟩ := HR.out (by omega)
      have cm := hc m hlt
      clear hc
      by_cases hx : h m = x
      · rw [hx] at cm
        clear hx
        go_wp2_with fail
        go_ret
        exact ⟨rfl, rfl⟩
      · have hx' : (h m == x) = false := by simpa using hx
        have HX : Hid (h m ≠ x) := hx
        clear hx
        generalize hy : h m = y at *
        have HYM : Hid (h m = y) := hy
        clear hy
        go_wp2_with fail
        go_round
        case rel =>
          refine ⟨m + 1, by omega, by go_num, fun j hj => ?_⟩
          by_cases e : j = m
          · rw [e, HYM.out]; exact HX.out
          · exact HALL.out j (by omega)
        case measure => simp [intOf]; omega
    · exfalso
      obtain ⟨j, hj, hx⟩ := HY.out
      exact HALL.out j (by omega) hx
theorem has_no (la : Option Addr) (L lc : Nat) (h : Nat → Int) (x : Int) (w : World) (hr : Rd w la L h) (hL : L ≤ 1048576) (hn : ∀ j, j < L → h j ≠ x) :
    Calls Try.prog 16 #[.slice la L lc, .int .i64 x] w fun e w' => e = .returned (.bool false) ∧ w' = w := by
  have HR : Hid (Rd w la L h) := hr
  have HN : Hid (∀ j, j < L → h j ≠ x) := hn
  clear hr hn
  go_enter Try.func16, Try.ntmps16
  go_wp2_with fail
  go_loop [5] (fun i => ∃ m : Nat, m ≤ L ∧ i = .int .i64 m) (fun i => L - (intOf i).toNat)
  case atStart => exact ⟨0, Nat.zero_le _, by simp⟩
  case round =>
    obtain ⟨m, hm, rfl⟩ := hrel
    by_cases hlt : m < L
    · obtain ⟨b, o, rfl, hc⟩ := HR.out (by omega)
      have cm := hc m hlt
      have hx' : (h m == x) = false := by simpa using HN.out m hlt
      clear hc
      generalize h m = y at *
      go_wp2_with fail
      go_round
      case rel => exact ⟨m + 1, by omega, by go_num⟩
      case measure => simp [intOf]; omega
    · go_wp2_with fail
      go_ret
      exact ⟨rfl, rfl⟩

set_option maxHeartbeats 1000000 in
set_option maxRecDepth 100000 in
theorem drawArena_any (w : World) (ao : Option Addr) (len cap : Nat) (zs : List Int) (hr : IsRow w ao len cap zs) (hsm : len ≤ 1048576) :
    Calls Try.prog 38 #[.slice ao len cap] w fun e w' => ∃ g M cc, e = .returned (.agg #[.slice (some ⟨g, 0, none⟩) M cc]) ∧ 12 ≤ M ∧ M ≤ 80 ∧ M ≤ cc ∧ (∃ F, WInts w' g M F) ∧ w.heap.size ≤ g ∧ Below w.heap.size w w' := by
  have HR : Hid (IsRow w ao len cap zs) := hr
  clear hr
  go_enter Try.func38, Try.ntmps38
  go_wp2_with fail
  have hb0 := (Below.refl w.heap.size w).alloc (Nat.le_refl _) (.cells #[.slice none 0 0] 26)
  refine (new_any _ ao len cap zs (HR.out.below hb0) hsm).mono ?_
  rintro e w1 ⟨rfl, hc1, hb1, hz1⟩
  have hz : (w.alloc (.cells #[.slice none 0 0] 26)).heap.size = w.heap.size + 1 := World.size_alloc _ _
  have q1 : w1.cell? ⟨w.heap.size, 0, none⟩ = some (.slice none 0 0) := (hb1.cell (p := ⟨w.heap.size, 0, none⟩) (by rw [hz]; exact Nat.lt_succ_self _)).trans (World.cell?_alloc_new w _ _ 0)
  have f1 : w1.frozen? ⟨w.heap.size, 0, none⟩ = false := (hb1.frozen (p := ⟨w.heap.size, 0, none⟩) (by rw [hz]; exact Nat.lt_succ_self _)).trans (World.frozen?_alloc_new w _ _ 0)
  have HC1 : Hid (Cur (w.heap.size + 1) ao len cap zs w1) := by rw [hz] at hc1; exact hc1
  have HB1 : Hid (Below w.heap.size w w1 ∧ w1.heap.size = w.heap.size + 2) := ⟨hb0.trans (hb1.mono (by omega)), by omega⟩
  clear hb0 hb1 hc1 hz1 hz
  go_wp2_with fail
  refine (l2Draw_any (w.heap.size + 1) ao len cap zs _ HC1.out (by have := HB1.out.2; omega)).mono ?_
  rintro e w2 ⟨g, M, cc, rfl, hM1, hM, hcc, hg, ⟨F, hF⟩, hd2⟩
  have hs1 := HB1.out.2
  have q2 := hd2.2.cell (by omega) q1
  have f2 : w2.frozen? ⟨w.heap.size, 0, none⟩ = false := (hd2.2.frozen (b := w.heap.size) (o := 0) (by omega) (by omega)).trans f1
  have HB2 : Hid (Below w.heap.size w w2) := Turn.below HB1.out.1 (by omega) hd2.2 (by omega)
  have HF2 : Hid (WInts w2 g M F) := hF
  have HG2 : Hid (w1.heap.size ≤ g) := hg
  clear hd2 hF hg q1 f1
  go_wp2_with fail
  have hg2 := HG2.out
  have hl2 := HF2.out.lt (by omega)
  exact bodyPost_ret (v := .agg #[.slice (some ⟨g, 0, none⟩) M cc]) (by simp [results, Try.results38, go_sem, q2]) rfl ⟨g, M, cc, rfl, hM1, hM, hcc, ⟨F, HF2.out.turn ((Turn.refl w.heap.size _).set 0 _) (by omega) hl2⟩, by omega, HB2.out.setCell (p := ⟨w.heap.size, 0, none⟩) (Nat.le_refl _) _⟩

/-- The used ones. -/
def ub (K : List (Nat × Nat × Bool)) : List (Nat × Nat × Bool) := K.filter (·.2.2)
theorem usd_ub (K : List (Nat × Nat × Bool)) : usd K = (ub K).map (·.1) := rfl
theorem ub_len (K : List (Nat × Nat × Bool)) : (usd K).length = (ub K).length := by rw [usd_ub, List.length_map]
theorem ub_nth (f : Nat → Int) (N m : Nat) (h : m < (ub (bk f N 0)).length) : ∃ p n, (usd (bk f N 0)).getD m 0 = p ∧ (p, n, true) ∈ bk f N 0 ∧ blkO f N p = some (n, true) ∧ fsum ((ub (bk f N 0)).take (m + 1)) = fsum ((ub (bk f N 0)).take m) + n ∧ n ≤ 4000 ∧ p + n + 3 ≤ N := by
  obtain ⟨q, h1, _⟩ := bk_all f N
  have hm := List.getElem_mem h
  obtain ⟨hm1, hm2⟩ := List.mem_filter.1 hm
  obtain ⟨_, _, h4⟩ := h1.mem _ hm1
  rw [hm2] at h4
  have e : (ub (bk f N 0))[m] = ((ub (bk f N 0))[m].1, (ub (bk f N 0))[m].2.1, true) := by rw [← hm2]
  refine ⟨(ub (bk f N 0))[m].1, (ub (bk f N 0))[m].2.1, ?_, by rw [← e]; exact hm1, blkO_some h4, ?_, h4.hn, h4.fit⟩
  · rw [usd_ub, List.getD_eq_getElem?_getD, List.getElem?_map, List.getElem?_eq_getElem h]; rfl
  · rw [List.take_succ_eq_append_getElem h]; unfold fsum; rw [List.map_append, List.sum_append]; simp
theorem seg_sum {f : Nat → Int} {N : Nat} : ∀ {L : List (Nat × Nat × Bool)} {p q : Nat}, Seg f N p L q → p + (fsum (L.filter isFree) + fsum (ub L) + 3 * L.length) = q
  | [], p, q, h => by cases h; simp [fsum, ub]
  | b :: L, p, q, ⟨h1, h2, h3⟩ => by
    have := seg_sum h3
    obtain ⟨b1, b2, b3⟩ := b
    dsimp only at this
    cases b3 <;> simp only [fsum, ub, List.filter_cons, isFree, Bool.not_false, Bool.not_true, if_true, Bool.false_eq_true, if_false, List.map_cons, List.sum_cons, List.length_cons] at this ⊢ <;> omega
end Go.Proofs.Ytikedjdjfncgkaa
