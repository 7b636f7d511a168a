/-
  The function values that tell the words of a heap, and of both lists.
-/
import Derived.Test.YtpklgbhclfgccaaRgA
import Derived.Laws.EntriesVeiled
namespace Go.Proofs.Ytpklgbhclfgccaa.Gn
open Go.RowKit
set_option linter.unusedVariables false

/-- A list of words is there: from o on in the block b, or nothing at all. -/
def Lst (wv : Option Addr) (b o N cap : Nat) : Prop := (wv = some ⟨b, o, none⟩ ∧ N ≤ cap) ∨ (wv = none ∧ N = 0 ∧ cap = 0)
set_option maxRecDepth 100000 in
theorem wordsFrom_any (wv : Option Addr) (b o N cap p : Nat) (h : Lst wv b o N cap) (hN : N ≤ 1048576) (hp : p ≤ 4000001) (w : World) :
    Calls Try.prog 87 #[.slice wv N cap, .int .i64 p] w fun e w' => ∃ a c, e = .returned (.slice a (N - p) c) ∧ (N - p ≠ 0 → a = some ⟨b, o + p, none⟩) ∧ N - p ≤ c ∧ w' = w := by
  rcases h with ⟨rfl, hc⟩ | ⟨rfl, rfl, rfl⟩
  · by_cases h1 : p < N
    · have hm : min (p : Int) (N : Int) = p := by omega
      have hd : decide ((N : Int) < (p : Int)) = false := by simp; omega
      have hcp : ¬ p = cap := by omega
      go_enter Try.func87, Try.ntmps87
      go_wp2_with fail
      go_ret
      exact ⟨_, _, ret_sl (by omega) rfl, fun _ => rfl, by omega, rfl⟩
    · have hm : min (p : Int) (N : Int) = N := by omega
      by_cases h2 : N = cap
      · subst h2
        go_enter Try.func87, Try.ntmps87
        go_wp2_with fail
        all_goals (go_ret; exact ⟨_, _, ret_sl (by omega) rfl, fun h => by omega, by omega, rfl⟩)
      · go_enter Try.func87, Try.ntmps87
        go_wp2_with fail
        all_goals (go_ret; exact ⟨_, _, ret_sl (by omega) rfl, fun h => by omega, by omega, rfl⟩)
  · have hm : min (p : Int) ((0 : Nat) : Int) = 0 := by omega
    have hm' : min (p : Int) 0 = 0 := by omega
    go_enter Try.func87, Try.ntmps87
    go_wp2_with fail
    all_goals (go_ret; exact ⟨⟨_, _, rfl⟩, rfl⟩)


set_option maxRecDepth 100000 in
theorem heapTells (wv : Option Addr) (b o N cap p gb : Nat) (h : Lst wv b o N cap) (hN : N ≤ 1048576) (hp : p ≤ 4000001) (w : World) (hc : w.cell? ⟨gb, 0, none⟩ = some (.slice wv N cap)) :
    Calls Try.prog 86 #[.int .i64 p, .pointer (some ⟨gb, 0, none⟩)] w fun e w' => ∃ a c, e = .returned (.slice a (N - p) c) ∧ (N - p ≠ 0 → a = some ⟨b, o + p, none⟩) ∧ N - p ≤ c ∧ w' = w := by
  have HL : Hid (Lst wv b o N cap) := h
  have HN : Hid (N ≤ 1048576) := hN
  have HP : Hid (p ≤ 4000001) := hp
  clear h hN hp
  go_enter Try.func86, Try.ntmps86
  go_wp2_with (go_at_call 87; refine (wordsFrom_any wv b o N cap p HL.out HN.out HP.out _).mono ?_; rintro e w' ⟨a, c, rfl, ha, hc', rfl⟩)
  go_ret
  exact ⟨a, c, rfl, ha, hc', rfl⟩

end Go.Proofs.Ytpklgbhclfgccaa.Gn
