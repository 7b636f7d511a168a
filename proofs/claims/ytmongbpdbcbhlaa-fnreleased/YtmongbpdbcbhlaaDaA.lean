/-
  What the laws over a drawn arena call: has, at, the draw; the used blocks by their number.
-/
import Derived.Test.YtmongbpdbcbhlaaDwA
import Derived.Test.YtmongbpdbcbhlaaGuB
namespace Go.Proofs.Ytmongbpdbcbhlaa
open Go.RowKit
set_option linter.unusedVariables false

theorem has_yes (la : Option Addr) (L lc : Nat) (h : Nat → Int) (x : Int) (w : World) (hr : Rd w la L h) (hL : L ≤ 1048576) (hy : ∃ j, j < L ∧ h j = x) :
    Calls Try.prog 14 #[.slice la L lc, .int .i64 x] w fun e w' => e = .returned (.bool true) ∧ w' = w := by
  have HR : Hid (Rd w la L h) := hr
  have HY : Hid (∃ j, j < L ∧ h j = x) := hy
  clear hr hy
  go_enter Try.func14, Try.ntmps14
  go_wp2_with fail
  go_loop [5] (fun i => ∃ m : Nat, m ≤ L ∧ i = .int .i64 m ∧ ∀ j, j < m → h j ≠ x) (fun i => L - (intOf i).toNat)
  case atStart => exact ⟨0, Nat.zero_le _, by simp, fun j hj => absurd hj (Nat.not_lt_zero _)⟩
  case round =>
    obtain ⟨m, hm, rfl, hall⟩ := hrel
    have HALL : Hid (∀ j, j < m → h j ≠ x) := hall
    clear hall
    by_cases hlt : m < L
    · obtain ⟨b, o, rfl, hc⟩ := HR.out (by omega)
      have cm := hc m hlt
      clear hc
      by_cases hx : h m = x
      · rw [hx] at cm
        clear hx
        go_wp2_with fail
        go_ret
        exact ⟨rfl, rfl⟩
      · have hx' : (h m == x) = false := by simpa using hx
        have HX : Hid (h m ≠ x) := hx
        clear hx
        generalize hy : h m = y at *
        have HYM : Hid (h m = y) := hy
        clear hy
        go_wp2_with fail
        go_round
        case rel =>
          refine ⟨m + 1, by omega, by go_num, fun j hj => ?_⟩
          by_cases e : j = m
          · rw [e, HYM.out]; exact HX.out
          · exact HALL.out j (by omega)
        case measure => simp [intOf]; omega
    · exfalso
      obtain ⟨j, hj, hx⟩ := HY.out
      exact HALL.out j (by omega) hx
theorem has_no (la : Option Addr) (L lc : Nat) (h : Nat → Int) (x : Int) (w : World) (hr : Rd w la L h) (hL : L ≤ 1048576) (hn : ∀ j, j < L → h j ≠ x) :
    Calls Try.prog 14 #[.slice la L lc, .int .i64 x] w fun e w' => e = .returned (.bool false) ∧ w' = w := by
  have HR : Hid (Rd w la L h) := hr
  have HN : Hid (∀ j, j < L → h j ≠ x) := hn
  clear hr hn
  go_enter Try.func14, Try.ntmps14
  go_wp2_with fail
  go_loop [5] (fun i => ∃ m : Nat, m ≤ L ∧ i = .int .i64 m) (fun i => L - (intOf i).toNat)
  case atStart => exact ⟨0, Nat.zero_le _, by simp⟩
  case round =>
    obtain ⟨m, hm, rfl⟩ := hrel
    by_cases hlt : m < L
    · obtain ⟨b, o, rfl, hc⟩ := HR.out (by omega)
      have cm := hc m hlt
      have hx' : (h m == x) = false := by simpa using HN.out m hlt
      clear hc
      generalize h m = y at *
      go_wp2_with fail
      go_round
      case rel => exact ⟨m + 1, by omega, by go_num⟩
      case measure => simp [intOf]; omega
    · go_wp2_with fail
      go_ret
      exact ⟨rfl, rfl⟩

/-- The used ones. -/
def ub (K : List (Nat × Nat × Bool)) : List (Nat × Nat × Bool) := K.filter (·.2.2)
theorem usd_ub (K : List (Nat × Nat × Bool)) : usd K = (ub K).map (·.1) := rfl
theorem ub_len (K : List (Nat × Nat × Bool)) : (usd K).length = (ub K).length := by rw [usd_ub, List.length_map]
theorem ub_nth (f : Nat → Int) (N m : Nat) (h : m < (ub (bk f N 0)).length) : ∃ p n, (usd (bk f N 0)).getD m 0 = p ∧ (p, n, true) ∈ bk f N 0 ∧ blkO f N p = some (n, true) ∧ fsum ((ub (bk f N 0)).take (m + 1)) = fsum ((ub (bk f N 0)).take m) + n ∧ n ≤ 4000 ∧ p + n + 3 ≤ N := by
  obtain ⟨q, h1, _⟩ := bk_all f N
  have hm := List.getElem_mem h
  obtain ⟨hm1, hm2⟩ := List.mem_filter.1 hm
  obtain ⟨_, _, h4⟩ := h1.mem _ hm1
  rw [hm2] at h4
  have e : (ub (bk f N 0))[m] = ((ub (bk f N 0))[m].1, (ub (bk f N 0))[m].2.1, true) := by rw [← hm2]
  refine ⟨(ub (bk f N 0))[m].1, (ub (bk f N 0))[m].2.1, ?_, by rw [← e]; exact hm1, blkO_some h4, ?_, h4.hn, h4.fit⟩
  · rw [usd_ub, List.getD_eq_getElem?_getD, List.getElem?_map, List.getElem?_eq_getElem h]; rfl
  · rw [List.take_succ_eq_append_getElem h]; unfold fsum; rw [List.map_append, List.sum_append]; simp
theorem seg_sum {f : Nat → Int} {N : Nat} : ∀ {L : List (Nat × Nat × Bool)} {p q : Nat}, Seg f N p L q → p + (fsum (L.filter isFree) + fsum (ub L) + 3 * L.length) = q
  | [], p, q, h => by cases h; simp [fsum, ub]
  | b :: L, p, q, ⟨h1, h2, h3⟩ => by
    have := seg_sum h3
    obtain ⟨b1, b2, b3⟩ := b
    dsimp only at this
    cases b3 <;> simp only [fsum, ub, List.filter_cons, isFree, Bool.not_false, Bool.not_true, if_true, Bool.false_eq_true, if_false, List.map_cons, List.sum_cons, List.length_cons] at this ⊢ <;> omega
end Go.Proofs.Ytmongbpdbcbhlaa
