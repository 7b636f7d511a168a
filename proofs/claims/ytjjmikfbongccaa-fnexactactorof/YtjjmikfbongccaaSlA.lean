/-
  How the specification reads off both lists: the words at a place; how many stand where a word leads.
-/
import Derived.Test.YtjjmikfbongccaaRgJ
import Derived.Test.YtjjmikfbongccaaSpC
import Derived.Deep.RegionLaw
namespace Go.Proofs.Ytjjmikfbongccaa.Gn
open Go.RowKit
set_option linter.unusedVariables false

def GE.sb (G : GE) (p : Nat) : Nat := if p < 100000 then G.b else G.yb
def GE.so (G : GE) (p : Nat) : Nat := if p < 100000 then G.o + p else G.yo + (p - 100000)
abbrev GE.v (G : GE) : Value := .agg #[.slice G.wv G.N G.cap, .slice G.yv G.M G.ycap, .int .i64 G.mark]
theorem GSrc.at {G : GE} {w : World} (h : GSrc G w) (p j : Nat) (hj : j < G.len p) : w.cell? ⟨G.sb p, G.so p + j, none⟩ = some (.int .i64 (G.w p j)) := by
  unfold GE.len at hj
  unfold GE.sb GE.so GE.w
  by_cases h1 : p < 100000
  · rw [if_pos h1] at hj ⊢
    rw [if_pos h1, if_pos h1, Nat.add_assoc]
    exact h.ws (p + j) (by omega)
  · rw [if_neg h1] at hj ⊢
    rw [if_neg h1, if_neg h1, Nat.add_assoc]
    exact h.ys (p - 100000 + j) (by omega)
theorem ret_tsl {a : Option Addr} {n n' c c' : Nat} {x : Bool} (h : n = n') (k : c = c') : Ending.returned (.tuple #[.slice a n c, .bool x]) = .returned (.tuple #[.slice a n' c', .bool x]) := by rw [h, k]
set_option maxHeartbeats 1000000 in
set_option maxRecDepth 100000 in
theorem l6Words_yes {G : GE} {w : World} (h : GSrc G w) (p n : Nat) (hn : n ≤ G.len p) (h0 : n ≠ 0) :
    Calls Try.prog 57 #[G.v, .int .i64 p, .int .i64 n] w fun e w' => ∃ c, e = .returned (.tuple #[.slice (some ⟨G.sb p, G.so p, none⟩) n c, .bool true]) ∧ Below w.heap.size w w' := by
  have hN := h.n
  have hM := h.m
  have ol := h.ol
  have yl := h.yl
  unfold GE.len at hn
  unfold GE.sb GE.so GE.v
  have HB : Hid (Below w.heap.size w (w.alloc (.cells #[.slice G.wv G.N G.cap, .slice G.yv G.M G.ycap, .int .i64 G.mark] 44))) := (Below.refl _ _).alloc (Nat.le_refl _) _
  clear h
  obtain ⟨N, f, wv, b, o, cap, M, g, yv, yb, yo, ycap, mark, A, av, ab, ao, acap⟩ := G
  simp only at *
  by_cases h1 : p < 100000
  · rw [if_pos h1] at hn ⊢
    rw [if_pos h1]
    rcases ol with ⟨rfl, hc⟩ | ⟨rfl, rfl, rfl⟩
    · have hlt : decide ((100000 : Int) ≤ (p : Int)) = false := by simp; omega
      have HI1 : Hid (inB (p : Int) 0 (N : Int) = true) := by show _ = _; unfold inB; simp; omega
      have HI2 : Hid (inB (n : Int) 0 ((N : Int) - p) = true) := by show _ = _; unfold inB; simp; omega
      have hpc : ¬ p = cap := by omega
      clear yl h1
      go_enter Try.func57, Try.ntmps57
      go_wp2_with (first | (go_at_call 59; refine (in_any _ _ _ _).mono ?_; rintro e w' ⟨rfl, rfl⟩; first | rw [HI1.out] | rw [HI2.out]))
      go_ret2
      exact ⟨_, ret_tsl (by omega) rfl, HB.out⟩
    · omega
  · rw [if_neg h1] at hn ⊢
    rw [if_neg h1]
    obtain ⟨q, rfl⟩ : ∃ q, p = 100000 + q := ⟨p - 100000, by omega⟩
    rw [show 100000 + q - 100000 = q by omega] at hn ⊢
    rcases yl with ⟨rfl, hc⟩ | ⟨rfl, rfl, rfl⟩
    · obtain ⟨P, hP⟩ : ∃ P : Int, ((100000 + q : Nat) : Int) = P := ⟨_, rfl⟩
      have HE : Hid (P - 100000 = q) := by show _ = _; omega
      rw [hP]
      have hge : 100000 ≤ P := by omega
      have hle : P ≤ 2000000 := by omega
      have HI1 : Hid (inB (q : Int) 0 (M : Int) = true) := by show _ = _; unfold inB; simp; omega
      have HI2 : Hid (inB (n : Int) 0 ((M : Int) - q) = true) := by show _ = _; unfold inB; simp; omega
      have hpc : ¬ q = ycap := by omega
      have hps := HE.out
      clear ol h1 hP
      go_enter Try.func57, Try.ntmps57
      go_wp2_with (first | (go_at_call 59; refine (in_any _ _ _ _).mono ?_; rintro e w' ⟨rfl, rfl⟩; first | rw [HI1.out] | rw [HI2.out]))
      go_ret2
      exact ⟨_, ret_tsl (by omega) rfl, HB.out⟩
    · omega
set_option maxHeartbeats 1000000 in
set_option maxRecDepth 100000 in
theorem l6Words_no {G : GE} {w : World} (h : GSrc G w) (p n : Nat) (hn : ¬ n ≤ G.len p) (hp : p ≤ 9223372036854775000) :
    Calls Try.prog 57 #[G.v, .int .i64 p, .int .i64 n] w fun e w' => (∃ g, e = .returned (.tuple #[.slice (some ⟨g, 0, none⟩) 0 0, .bool false])) ∧ Below w.heap.size w w' := by
  have hN := h.n
  have hM := h.m
  unfold GE.len at hn
  unfold GE.v
  have HB : Hid (Below w.heap.size w ((w.alloc (.cells #[.slice G.wv G.N G.cap, .slice G.yv G.M G.ycap, .int .i64 G.mark] 44)).alloc (.cells #[] 3))) := ((Below.refl _ _).alloc (Nat.le_refl _) _).alloc (by rw [World.size_alloc]; omega) _
  clear h
  obtain ⟨N, f, wv, b, o, cap, M, g, yv, yb, yo, ycap, mark, A, av, ab, ao, acap⟩ := G
  simp only at *
  by_cases h1 : p < 100000
  · rw [if_pos h1] at hn
    have hlt : decide ((100000 : Int) ≤ (p : Int)) = false := by simp; omega
    by_cases h2 : p ≤ N
    · have HI1 : Hid (inB (p : Int) 0 (N : Int) = true) := by show _ = _; unfold inB; simp; omega
      have HI2 : Hid (inB (n : Int) 0 ((N : Int) - p) = false) := by show _ = _; unfold inB; simp; omega
      clear h1
      go_enter Try.func57, Try.ntmps57
      go_wp2_with (first | (go_at_call 59; refine (in_any _ _ _ _).mono ?_; rintro e w' ⟨rfl, rfl⟩; first | rw [HI1.out] | rw [HI2.out]))
      go_ret2
      exact ⟨⟨_, rfl⟩, HB.out⟩
    · have HI1 : Hid (inB (p : Int) 0 (N : Int) = false) := by show _ = _; unfold inB; simp; omega
      clear h1
      go_enter Try.func57, Try.ntmps57
      go_wp2_with (first | (go_at_call 59; refine (in_any _ _ _ _).mono ?_; rintro e w' ⟨rfl, rfl⟩; first | rw [HI1.out]))
      go_ret2
      exact ⟨⟨_, rfl⟩, HB.out⟩
  · rw [if_neg h1] at hn
    obtain ⟨q, rfl⟩ : ∃ q, p = 100000 + q := ⟨p - 100000, by omega⟩
    rw [show 100000 + q - 100000 = q by omega] at hn
    obtain ⟨P, hP⟩ : ∃ P : Int, ((100000 + q : Nat) : Int) = P := ⟨_, rfl⟩
    have hps : P - 100000 = q := by omega
    rw [hP]
    have hge : 100000 ≤ P := by omega
    have hle : P ≤ 9223372036854775000 := by omega
    by_cases h2 : q ≤ M
    · have HI1 : Hid (inB (q : Int) 0 (M : Int) = true) := by show _ = _; unfold inB; simp; omega
      have HI2 : Hid (inB (n : Int) 0 ((M : Int) - q) = false) := by show _ = _; unfold inB; simp; omega
      clear h1 hP hp
      go_enter Try.func57, Try.ntmps57
      go_wp2_with (first | (go_at_call 59; refine (in_any _ _ _ _).mono ?_; rintro e w' ⟨rfl, rfl⟩; first | rw [HI1.out] | rw [HI2.out]))
      go_ret2
      exact ⟨⟨_, rfl⟩, HB.out⟩
    · have HI1 : Hid (inB (q : Int) 0 (M : Int) = false) := by show _ = _; unfold inB; simp; omega
      clear h1 hP hp
      go_enter Try.func57, Try.ntmps57
      go_wp2_with (first | (go_at_call 59; refine (in_any _ _ _ _).mono ?_; rintro e w' ⟨rfl, rfl⟩; first | rw [HI1.out]))
      go_ret2
      exact ⟨⟨_, rfl⟩, HB.out⟩
end Go.Proofs.Ytjjmikfbongccaa.Gn
