/-
  The function values that tell the words of a heap, and of both lists.
-/
import Derived.Test.YtjjmikfbongccaaGreatDoorUB
import Derived.Laws.EntriesVeiled
namespace Go.Proofs.YtjjmikfbongccaaGreatDoor.Gn
open Go.RowKit
set_option linter.unusedVariables false

/-- A list of words is there: from o on in the block b, or nothing at all. -/
def Lst (wv : Option Addr) (b o N cap : Nat) : Prop := (wv = some ⟨b, o, none⟩ ∧ N ≤ cap) ∨ (wv = none ∧ N = 0 ∧ cap = 0)
set_option maxRecDepth 100000 in
theorem wordsFrom_any (wv : Option Addr) (b o N cap p : Nat) (h : Lst wv b o N cap) (hN : N ≤ 1048576) (hp : p ≤ 4000001) (w : World) :
    Calls Tryz.prog 73 #[.slice wv N cap, .int .i64 p] w fun e w' => ∃ a c, e = .returned (.slice a (N - p) c) ∧ (N - p ≠ 0 → a = some ⟨b, o + p, none⟩) ∧ N - p ≤ c ∧ w' = w := by
  rcases h with ⟨rfl, hc⟩ | ⟨rfl, rfl, rfl⟩
  · by_cases h1 : p < N
    · have hm : min (p : Int) (N : Int) = p := by omega
      have hd : decide ((N : Int) < (p : Int)) = false := by simp; omega
      have hcp : ¬ p = cap := by omega
      go_enter Tryz.func73, Tryz.ntmps73
      go_wp2_with fail
      go_ret
      exact ⟨_, _, ret_sl (by omega) rfl, fun _ => rfl, by omega, rfl⟩
    · have hm : min (p : Int) (N : Int) = N := by omega
      by_cases h2 : N = cap
      · subst h2
        go_enter Tryz.func73, Tryz.ntmps73
        go_wp2_with fail
        all_goals (go_ret; exact ⟨_, _, ret_sl (by omega) rfl, fun h => by omega, by omega, rfl⟩)
      · go_enter Tryz.func73, Tryz.ntmps73
        go_wp2_with fail
        all_goals (go_ret; exact ⟨_, _, ret_sl (by omega) rfl, fun h => by omega, by omega, rfl⟩)
  · have hm : min (p : Int) ((0 : Nat) : Int) = 0 := by omega
    have hm' : min (p : Int) 0 = 0 := by omega
    go_enter Tryz.func73, Tryz.ntmps73
    go_wp2_with fail
    all_goals (go_ret; exact ⟨⟨_, _, rfl⟩, rfl⟩)


set_option maxRecDepth 100000 in
theorem gensTells (wv : Option Addr) (b o N cap : Nat) (yv : Option Addr) (yb yo M ycap p gb : Nat) (h : Lst wv b o N cap) (hy : Lst yv yb yo M ycap) (hN : N ≤ 1048576) (hM : M ≤ 1048576) (hp : p ≤ 4000001) (w : World) (hc : w.cell? ⟨gb, 0, none⟩ = some (.slice wv N cap)) (hd : w.cell? ⟨gb, 1, none⟩ = some (.slice yv M ycap)) :
    Calls Tryz.prog 72 #[.int .i64 p, .pointer (some ⟨gb, 0, none⟩)] w fun e w' => ∃ a c, e = .returned (.slice a (if p < 100000 then N - p else M - (p - 100000)) c) ∧ ((if p < 100000 then N - p else M - (p - 100000)) ≠ 0 → a = some ⟨if p < 100000 then b else yb, if p < 100000 then o + p else yo + (p - 100000), none⟩) ∧ (if p < 100000 then N - p else M - (p - 100000)) ≤ c ∧ w' = w := by
  have HL : Hid (Lst wv b o N cap) := h
  have HLY : Hid (Lst yv yb yo M ycap) := hy
  have HN : Hid (N ≤ 1048576) := hN
  have HM : Hid (M ≤ 1048576) := hM
  have HP : Hid (p ≤ 4000001) := hp
  have hpi : (p : Int) ≤ 4000001 := by omega
  clear h hy hN hM hp
  by_cases h1 : p < 100000
  · simp only [if_pos h1]
    have hlt : (p : Int) < 100000 := by omega
    clear h1
    go_enter Tryz.func72, Tryz.ntmps72
    go_wp2_with (go_at_call 73; refine (wordsFrom_any wv b o N cap p HL.out HN.out HP.out _).mono ?_; rintro e w' ⟨a, c, rfl, ha, hc', rfl⟩)
    go_ret
    exact ⟨a, c, rfl, ha, hc', rfl⟩
  · simp only [if_neg h1]
    obtain ⟨q, rfl⟩ : ∃ q, p = 100000 + q := ⟨p - 100000, by omega⟩
    have HQ : Hid (q ≤ 4000001) := by show _ ≤ _; have := HP.out; omega
    have HE : Hid (((100000 + q : Nat) : Int) - 100000 = q) := by show _ = _; omega
    rw [show 100000 + q - 100000 = q by omega]
    obtain ⟨P, hP⟩ : ∃ P : Int, ((100000 + q : Nat) : Int) = P := ⟨_, rfl⟩
    rw [hP] at hpi HE ⊢
    have hge : 100000 ≤ P := by omega
    clear h1 hP HP
    go_enter Tryz.func72, Tryz.ntmps72
    go_wp2_with (go_at_call 73; (try rw [HE.out]); refine (wordsFrom_any yv yb yo M ycap q HLY.out HM.out HQ.out _).mono ?_; rintro e w' ⟨a, c, rfl, ha, hc', rfl⟩)
    go_ret
    exact ⟨a, c, rfl, ha, hc', rfl⟩
end Go.Proofs.YtjjmikfbongccaaGreatDoor.Gn
