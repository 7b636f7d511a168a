/-
  The law of the roots of a cell, walked.
-/
import Derived.Test.YtjjmikfbongccaaCrA
import Derived.Deep.RegionWith
namespace Go.Proofs.Ytjjmikfbongccaa
open Go.RowKit
set_option linter.unusedVariables false

/-- A list in a block between lo and hi, or nothing. -/
def Ls (w : World) (lo hi : Nat) (ao : Option Addr) (n : Nat) (f : Nat → Int) : Prop := n ≠ 0 → ∃ g, ao = some ⟨g, 0, none⟩ ∧ lo ≤ g ∧ g < hi ∧ Ints w g 0 n f
theorem Ls.rd {w : World} {lo hi : Nat} {ao : Option Addr} {n : Nat} {f : Nat → Int} (h : Ls w lo hi ao n f) : RdI w ao n f := fun hn => by
  obtain ⟨g, e, _, _, hi⟩ := h hn
  exact ⟨g, 0, e, hi.cell⟩
theorem Ints.blk {w w' : World} {g o n : Nat} {f : Nat → Int} (h : Ints w g o n f) (hb : w'.heap[g]? = w.heap[g]?) : Ints w' g o n f :=
  ⟨fun j hj => by rw [World.cell?_of_block (w := w) hb]; exact h.cell j hj, fun x => by rw [World.frozen?_of_block (w := w) hb]; exact h.free x⟩
theorem Ls.keep {w w' : World} {lo hi : Nat} {ao : Option Addr} {n : Nat} {f : Nat → Int} (h : Ls w lo hi ao n f) (hk : ∀ b, lo ≤ b → b < hi → w'.heap[b]? = w.heap[b]?) : Ls w' lo hi ao n f := fun hn => by
  obtain ⟨g, e, h1, h2, hi⟩ := h hn
  exact ⟨g, e, h1, h2, hi.blk (hk g h1 h2)⟩
theorem Ls.below {w w' : World} {lo hi : Nat} {ao : Option Addr} {n : Nat} {f : Nat → Int} (h : Ls w lo hi ao n f) (hh : hi ≤ w.heap.size) (hb : Below w.heap.size w w') : Ls w' lo hi ao n f := h.keep fun b _ h2 => hb.block b (by omega)
/-- The numbers of a list. -/
def nth (xs : List Int) : Nat → Int := fun j => xs.getD j 0
theorem OwI.form {w : World} {B : Nat} {v : Value} {xs : List Int} (h : OwI w B v xs) : ∃ ao cap, v = .slice ao xs.length cap ∧ Ls w B w.heap.size ao xs.length (nth xs) := by
  obtain ⟨hl, ⟨rfl, h0⟩ | ⟨g, cap, cur, rfl, hg, hh, hn, hc, hs, ht⟩⟩ := h
  · exact ⟨none, 0, by rw [h0], fun hn => absurd h0 hn⟩
  · refine ⟨some ⟨g, 0, none⟩, cap, rfl, fun _ => ⟨g, rfl, hg, ?_, fun j hj => ?_, fun x => by simp [World.frozen?, hh]⟩⟩
    · rcases Nat.lt_or_ge g w.heap.size with h | h
      · exact h
      · rw [Array.getElem?_eq_none h] at hh; cases hh
    · rw [Nat.zero_add]
      have e1 : w.cell? ⟨g, j, none⟩ = cur[j]? := by simp [World.cell?, hh]
      have e2 : (xs.map (Value.int .i64))[j]? = some (.int .i64 (nth xs j)) := by
        rw [List.getElem?_map, List.getElem?_eq_getElem hj]
        simp [nth, List.getD, List.getElem?_eq_getElem hj]
      rw [e1, ← Array.getElem?_toList]
      rw [← ht, List.getElem?_take] at e2
      split at e2
      · exact e2
      · cases e2

theorem markIntS_no (ao : Option Addr) (cap : Nat) (K : Int) (w : World) : Calls Try.prog 12 #[.slice ao 0 cap, .int .i64 K] w fun e w' => e = .returned (.int .i64 K) ∧ w' = w := by
  go_enter Try.func12, Try.ntmps12
  go_wp2_with fail
  go_loop [1, 5] (fun a i => a = .int .i64 K ∧ i = .int .i64 0) (fun _ _ => 0)
  case atStart => exact ⟨rfl, rfl⟩
  case round =>
    obtain ⟨rfl, rfl⟩ := hrel
    go_wp2_with fail
    go_ret
    exact ⟨rfl, rfl⟩
/-- Marks are laid; no block turned but those between lo and hi. -/
structure MkL (w w' : World) (lo hi : Nat) : Prop where
  os : w'.os = w.os
  tape : w'.tape = w.tape
  output : w'.output = w.output
  size : w.heap.size ≤ w'.heap.size
  block : ∀ b, b < w.heap.size → b < lo ∨ hi ≤ b → w'.heap[b]? = w.heap[b]?
theorem markIntS_L (ao : Option Addr) (cap n lo hi : Nat) (f : Nat → Int) (w : World) (h : Ls w lo hi ao n f) (hn : n ≤ 1048576) :
    Calls Try.prog 12 #[.slice ao n cap, .int .i64 1] w fun e w' => e = .returned (.int .i64 (1 + n)) ∧ MkL w w' lo hi ∧ Ls w' lo hi ao n (mkd 1) := by
  by_cases h0 : n = 0
  · subst h0
    refine (markIntS_no ao cap 1 w).mono ?_
    rintro e w' ⟨rfl, rfl⟩
    exact ⟨rfl, ⟨rfl, rfl, rfl, Nat.le_refl _, fun _ _ _ => rfl⟩, fun h => absurd rfl h⟩
  · obtain ⟨g, rfl, h1, h2, hi'⟩ := h h0
    refine (markIntS_C g 0 n cap f w hi' 1 (by decide) hn).mono ?_
    rintro e w' ⟨rfl, ht, hm⟩
    exact ⟨rfl, ⟨ht.os, ht.tape, ht.output, ht.size, fun b hb hx => ht.block b hb (by omega)⟩, fun _ => ⟨g, rfl, h1, h2, hm⟩⟩
set_option maxHeartbeats 1000000 in
theorem heldIntS_L (ao : Option Addr) (cap n : Nat) (w : World) (h : RdI w ao n (mkd 1)) (hn : n ≤ 1048576) :
    Calls Try.prog 13 #[.slice ao n cap, .int .i64 1] w fun e w' => e = .returned (.int .i64 (1 + n)) ∧ w' = w := by
  have HR : Hid (RdI w ao n (mkd 1)) := h
  clear h
  go_enter Try.func13, Try.ntmps13
  go_wp2_with fail
  go_loop [1, 5] (fun a i => ∃ m : Nat, m ≤ n ∧ i = .int .i64 m ∧ a = .int .i64 (1 + m)) (fun _ i => n - (intOf i).toNat)
  case atStart => exact ⟨0, Nat.zero_le _, by simp, by simp⟩
  case round =>
    obtain ⟨m, hm, rfl, rfl⟩ := hrel
    by_cases hlt : m < n
    · obtain ⟨b, o, rfl, hc⟩ := HR.out (by omega)
      have q := hc m hlt
      unfold mkd at q
      clear hc
      have hw : IntKind.i64.wrap (1 + (m : Int)) = 1 + m := by rw [IntKind.wrap_i64]; omega
      go_wp2_with fail
      go_round
      case rel => exact ⟨m + 1, by omega, by go_num, by go_num⟩
      case measure => simp [intOf]; omega
    · have e : m = n := by omega
      subst e
      go_wp2_with fail
      go_ret
      exact ⟨rfl, rfl⟩
end Go.Proofs.Ytjjmikfbongccaa
