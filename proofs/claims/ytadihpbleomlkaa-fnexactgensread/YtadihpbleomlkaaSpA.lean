/-
  How the specification reads words: the reader, the words at a place, how many there are.
-/
import Derived.Test.YtadihpbleomlkaaReA
namespace Go.Proofs.Ytadihpbleomlkaa
open Go.RowKit
set_option linter.unusedVariables false

structure Sr (E : Env) (left : Int) (bad : Bool) (w : World) : Prop where
  c0 : w.cell? ⟨E.rb, 0, none⟩ = some (.slice E.wv E.H.N E.cap)
  c1 : w.cell? ⟨E.rb, 1, none⟩ = some (.slice E.av E.H.A.length E.acap)
  c2 : w.cell? ⟨E.rb, 2, none⟩ = some (.int .i64 left)
  c3 : w.cell? ⟨E.rb, 3, none⟩ = some (.bool bad)
  fr : ∀ o, w.frozen? ⟨E.rb, o, none⟩ = false
  src : Src E w
  wn : E.H.N ≠ 0 → E.b ≠ E.rb
  an : E.H.A.length ≠ 0 → E.ab ≠ E.rb
theorem Sr.lt {E : Env} {left : Int} {bad : Bool} {w : World} (h : Sr E left bad w) : E.rb < w.heap.size := World.block_lt_of_cell? w _ h.c0
theorem Src.same {E : Env} {w w1 w2 : World} (h0 : Src E w) (h : Src E w1) (hk : ∀ k, k < w.heap.size → w2.heap[k]? = w1.heap[k]?) : Src E w2 := by
  have e : ∀ b o, b < w.heap.size → w2.cell? ⟨b, o, none⟩ = w1.cell? ⟨b, o, none⟩ := fun b o hb => World.cell?_of_block (w := w1) (hk b hb)
  exact ⟨h.ok, h.wl, h.al, fun j hj => by rw [e _ _ (World.block_lt_of_cell? w _ (h0.ws j hj))]; exact h.ws j hj, fun j hj => by rw [e _ _ (World.block_lt_of_cell? w _ (h0.ats j hj))]; exact h.ats j hj, h.cp, h.big, h.txt⟩
theorem Sr.same {E : Env} {l0 left : Int} {b0 bad : Bool} {w w1 w2 : World} (h0 : Sr E l0 b0 w) (h : Sr E left bad w1) (hk : ∀ k, k < w.heap.size → w2.heap[k]? = w1.heap[k]?) : Sr E left bad w2 := by
  have e : ∀ b o, b < w.heap.size → w2.cell? ⟨b, o, none⟩ = w1.cell? ⟨b, o, none⟩ := fun b o hb => World.cell?_of_block (w := w1) (hk b hb)
  have hr := h0.lt
  exact ⟨by rw [e _ _ hr]; exact h.c0, by rw [e _ _ hr]; exact h.c1, by rw [e _ _ hr]; exact h.c2, by rw [e _ _ hr]; exact h.c3, fun o => by rw [World.frozen?_of_block (w := w1) (hk E.rb hr)]; exact h.fr o, h0.src.same h.src hk, h.wn, h.an⟩
theorem Sr.below {E : Env} {left : Int} {bad : Bool} {w w' : World} (h : Sr E left bad w) (hb : Below w.heap.size w w') : Sr E left bad w' := h.same h (fun k hk => hb.block k hk)
theorem Src.set {E : Env} {w : World} (h : Src E w) (wn : E.H.N ≠ 0 → E.b ≠ E.rb) (an : E.H.A.length ≠ 0 → E.ab ≠ E.rb) (o : Nat) (v : Value) : Src E (w.setCell ⟨E.rb, o, none⟩ v) := by
  have e : ∀ b o', b ≠ E.rb → (w.setCell ⟨E.rb, o, none⟩ v).cell? ⟨b, o', none⟩ = w.cell? ⟨b, o', none⟩ := fun b o' hn => by
    rw [World.cell?_setCell_other (h := fun e => by simp only [Addr.mk.injEq] at e; exact hn e.1.symm)]
  exact ⟨h.ok, h.wl, h.al, fun j hj => by rw [e _ _ (wn (by omega))]; exact h.ws j hj, fun j hj => by rw [e _ _ (an (by omega))]; exact h.ats j hj, h.cp, h.big, h.txt⟩
theorem Sr.setL {E : Env} {left : Int} {bad : Bool} {w : World} (h : Sr E left bad w) (x : Int) : Sr E x bad (w.setCell ⟨E.rb, 2, none⟩ (.int .i64 x)) := by
  have e : ∀ o, o ≠ 2 → (w.setCell ⟨E.rb, 2, none⟩ (.int .i64 x)).cell? ⟨E.rb, o, none⟩ = w.cell? ⟨E.rb, o, none⟩ := fun o hn => by
    rw [World.cell?_setCell_other (h := fun e => by simp only [Addr.mk.injEq] at e; omega)]
  exact ⟨by rw [e _ (by omega)]; exact h.c0, by rw [e _ (by omega)]; exact h.c1, World.cell?_setCell_same w _ _ h.c2, by rw [e _ (by omega)]; exact h.c3, fun o => by rw [World.frozen?_setCell]; exact h.fr o, h.src.set h.wn h.an 2 _, h.wn, h.an⟩
theorem Sr.setB {E : Env} {left : Int} {bad : Bool} {w : World} (h : Sr E left bad w) (x : Bool) : Sr E left x (w.setCell ⟨E.rb, 3, none⟩ (.bool x)) := by
  have e : ∀ o, o ≠ 3 → (w.setCell ⟨E.rb, 3, none⟩ (.bool x)).cell? ⟨E.rb, o, none⟩ = w.cell? ⟨E.rb, o, none⟩ := fun o hn => by
    rw [World.cell?_setCell_other (h := fun e => by simp only [Addr.mk.injEq] at e; omega)]
  exact ⟨by rw [e _ (by omega)]; exact h.c0, by rw [e _ (by omega)]; exact h.c1, by rw [e _ (by omega)]; exact h.c2, World.cell?_setCell_same w _ _ h.c3, fun o => by rw [World.frozen?_setCell]; exact h.fr o, h.src.set h.wn h.an 3 _, h.wn, h.an⟩

theorem words_yes {E : Env} {left : Int} {w : World} (h : Sr E left false w) (p n : Nat) (hpn : p + n ≤ E.H.N) (h1 : E.H.N ≠ 0) :
    Calls Try.prog 132 #[.pointer (some ⟨E.rb, 0, none⟩), .int .i64 p, .int .i64 n] w fun e w' => (∃ o', e = .returned (.slice (some ⟨E.b, o', none⟩) n (E.cap - p)) ∧ (n ≠ 0 → o' = E.o + p)) ∧ w' = w := by
  have hN := h.src.ok.n
  have hc := h.src.cp
  have q0 := h.c0
  have q3 := h.c3
  rw [h.src.wl h1] at q0
  obtain ⟨H, rb, wv, b, o, cap, av, ab, ao, acap⟩ := E
  clear h
  simp only at *
  generalize H.N = N at *
  have hi1 : inB (p : Int) 0 (N : Int) = true := by unfold inB; simp; omega
  have hi2 : inB (n : Int) 0 ((N : Int) - p) = true := by unfold inB; simp; omega
  have HI1 : Hid (inB (p : Int) 0 (N : Int) = true) := hi1
  have HI2 : Hid (inB (n : Int) 0 ((N : Int) - p) = true) := hi2
  clear hi1 hi2
  by_cases hcp : p = cap
  · have hn0 : n = 0 := by omega
    subst hn0
    subst hcp
    have HI3 : Hid (inB 0 0 ((N : Int) - p) = true) := HI2.out
    go_enter Try.func132, Try.ntmps132
    go_wp2_with (first | (go_at_call 68; refine (in_any _ _ _ _).mono ?_; rintro e w' ⟨rfl, rfl⟩; first | rw [HI1.out] | rw [HI3.out] | rw [HI2.out]))
    go_ret
    exact ⟨⟨_, ret_sl rfl (by omega), fun h => absurd rfl h⟩, rfl⟩
  · go_enter Try.func132, Try.ntmps132
    go_wp2_with (first | (go_at_call 68; refine (in_any _ _ _ _).mono ?_; rintro e w' ⟨rfl, rfl⟩; first | rw [HI1.out] | rw [HI2.out]))
    go_ret
    exact ⟨⟨_, ret_sl (by omega) rfl, fun _ => rfl⟩, rfl⟩
set_option maxHeartbeats 1000000 in
theorem words_no {E : Env} {left : Int} {bad : Bool} {w : World} (h : Sr E left bad w) (p n : Nat) (hp : p ≤ 9223372036854775000) (hpn : bad = true ∨ ¬ p + n ≤ E.H.N) :
    Calls Try.prog 132 #[.pointer (some ⟨E.rb, 0, none⟩), .int .i64 p, .int .i64 n] w fun e w' => (∃ g, e = .returned (.slice (some ⟨g, 0, none⟩) 0 0)) ∧ Turn E.rb w w' ∧ Sr E left true w' := by
  have HS : Hid (Sr E left true ((w.setCell ⟨E.rb, 3, none⟩ (.bool true)).alloc (.cells #[] 3))) := (h.setB true).below ((Below.refl _ _).alloc (Nat.le_refl _) _)
  have HT : Hid (Turn E.rb w ((w.setCell ⟨E.rb, 3, none⟩ (.bool true)).alloc (.cells #[] 3))) := ((Turn.refl _ _).set 3 _).alloc _
  have hN := h.src.ok.n
  have q0 := h.c0
  have q3 := h.c3
  have qf := h.fr
  clear h
  generalize E.H.N = N at *
  cases bad with
  | true =>
    go_enter Try.func132, Try.ntmps132
    go_wp2_with fail
    go_ret
    exact ⟨⟨_, rfl⟩, HT.out, HS.out⟩
  | false =>
    have hpn' : ¬ p + n ≤ N := by rcases hpn with h | h; cases h; exact h
    by_cases h1 : p ≤ N
    · have HI1 : Hid (inB (p : Int) 0 (N : Int) = true) := by show _ = _; unfold inB; simp; omega
      have HI2 : Hid (inB (n : Int) 0 ((N : Int) - p) = false) := by show _ = _; unfold inB; simp; omega
      go_enter Try.func132, Try.ntmps132
      go_wp2_with (first | (go_at_call 68; refine (in_any _ _ _ _).mono ?_; rintro e w' ⟨rfl, rfl⟩; first | rw [HI1.out] | rw [HI2.out]))
      go_ret
      exact ⟨⟨_, rfl⟩, HT.out, HS.out⟩
    · have HI1 : Hid (inB (p : Int) 0 (N : Int) = false) := by show _ = _; unfold inB; simp; omega
      go_enter Try.func132, Try.ntmps132
      go_wp2_with (first | (go_at_call 68; refine (in_any _ _ _ _).mono ?_; rintro e w' ⟨rfl, rfl⟩; first | rw [HI1.out]))
      go_ret
      exact ⟨⟨_, rfl⟩, HT.out, HS.out⟩
end Go.Proofs.Ytadihpbleomlkaa
