/-
  How the program reads words: what gives up; a word; the words at a place.
-/
import Derived.Test.YtpfknaaepdbobabRdA
import Derived.Test.YtpfknaaepdbobabSgA
import Derived.Test.YtpfknaaepdbobabArA
import Derived.Test.YtpfknaaepdbobabDrB
import Derived.WalkLawsBesides
import Derived.Defers
import Derived.Recover
namespace Go.Proofs.Ytpfknaaepdbobab
open Go.RowKit
set_option linter.unusedVariables false

/-- What giving up throws. -/
def PN : List PanicEntry := [{ v := .iface 9 (.string ⟨#[110, 111, 32, 116, 101, 114, 109]⟩), recovered := false }]
theorem insist_yes (w : World) : Calls Try.prog 35 #[.bool true] w fun e w' => e = .returned (.tuple #[]) ∧ w' = w := by
  go_enter Try.func35, Try.ntmps35
  go_wp2
  go_end0
  exact ⟨rfl, rfl⟩
theorem insist_no (w : World) : Calls Try.prog 35 #[.bool false] w fun e w' => e = .panicked PN ∧ w' = w := by
  go_enter Try.func35, Try.ntmps35
  go_wp2
  exact ⟨rfl, rfl, rfl⟩

theorem isWord_any (x : Int) (hx : x ≤ 9223372036854775807) (w : World) :
    Calls Try.prog 36 #[.int .i64 x] w fun e w' => e = .returned (.bool (isW x)) ∧ w' = w := by
  have HW : Hid (isW x = decide (mkw (tagW x) (valW x) = x)) := by show _ = _; rfl
  have HX : Hid (x ≤ 9223372036854775807) := hx
  clear hx
  go_enter Try.func36, Try.ntmps36
  go_wp2_with (first | (go_at_call 50; refine (implTag_any x HX.out _).mono ?_; rintro e w' ⟨rfl, rfl⟩) | (go_at_call 51; refine (implVal_any x HX.out _).mono ?_; rintro e w' ⟨rfl, rfl⟩) | (go_at_call 49; refine (implMake_any _ _ _).mono ?_; rintro e w' ⟨rfl, rfl⟩))
  go_ret
  refine ⟨ret_bool ?_, rfl⟩
  rw [HW.out]
  first | rfl | simp

/-- What is read from: the words H.f in the block b from o on, the atoms H.A in the block ab from ao on; both are named by the three cells of rb. -/
structure Env where
  H : Hp
  rb : Nat
  wv : Option Addr
  b : Nat
  o : Nat
  cap : Nat
  av : Option Addr
  ab : Nat
  ao : Nat
  acap : Nat
structure Rr (E : Env) (left : Nat) (w : World) : Prop where
  c0 : w.cell? ⟨E.rb, 0, none⟩ = some (.slice E.wv E.H.N E.cap)
  c1 : w.cell? ⟨E.rb, 1, none⟩ = some (.slice E.av E.H.A.length E.acap)
  c2 : w.cell? ⟨E.rb, 2, none⟩ = some (.int .i64 left)
  fr : w.frozen? ⟨E.rb, 2, none⟩ = false
  ok : E.H.ok
  wl : E.H.N ≠ 0 → E.wv = some ⟨E.b, E.o, none⟩
  al : E.H.A.length ≠ 0 → E.av = some ⟨E.ab, E.ao, none⟩
  ws : ∀ j, j < E.H.N → w.cell? ⟨E.b, E.o + j, none⟩ = some (.int .i64 (E.H.f j))
  ats : Txt w E.ab E.ao E.H.A
  wn : E.H.N ≠ 0 → E.b ≠ E.rb
  an : E.H.A.length ≠ 0 → E.ab ≠ E.rb
  cp : E.H.N ≤ E.cap
  big : ∀ j, E.H.f j ≤ 9223372036854775807
  txt : ∀ s, s ∈ E.H.A → s.size ≤ maxLen
theorem Rr.lt {E : Env} {left : Nat} {w : World} (h : Rr E left w) : E.rb < w.heap.size := World.block_lt_of_cell? w _ h.c0
/-- A world that differs in nothing that was there. -/
theorem Rr.below {E : Env} {left : Nat} {w w' : World} (h : Rr E left w) (hb : Below w.heap.size w w') : Rr E left w' := by
  have e : ∀ b o v, w.cell? ⟨b, o, none⟩ = some v → w'.cell? ⟨b, o, none⟩ = some v := fun b o v hc => by
    rw [hb.cell (p := ⟨b, o, none⟩) (World.block_lt_of_cell? w _ hc)]; exact hc
  exact ⟨e _ _ _ h.c0, e _ _ _ h.c1, e _ _ _ h.c2, by rw [hb.frozen (p := ⟨E.rb, 2, none⟩) h.lt]; exact h.fr, h.ok, h.wl, h.al, fun j hj => e _ _ _ (h.ws j hj), h.ats.below hb, h.wn, h.an, h.cp, h.big, h.txt⟩
theorem Rr.set {E : Env} {left : Nat} {w : World} (h : Rr E left w) (x : Nat) : Rr E x (w.setCell ⟨E.rb, 2, none⟩ (.int .i64 x)) := by
  have e : ∀ b o, b ≠ E.rb ∨ o ≠ 2 → (w.setCell ⟨E.rb, 2, none⟩ (.int .i64 x)).cell? ⟨b, o, none⟩ = w.cell? ⟨b, o, none⟩ := fun b o hn => by
    rw [World.cell?_setCell_other (h := fun e => by simp at e; omega)]
  exact ⟨by rw [e _ _ (.inr (by omega))]; exact h.c0, by rw [e _ _ (.inr (by omega))]; exact h.c1, World.cell?_setCell_same w _ _ h.c2, by rw [World.frozen?_setCell]; exact h.fr, h.ok, h.wl, h.al,
    fun j hj => by rw [e _ _ (.inl (h.wn (by omega)))]; exact h.ws j hj, fun j hj => by rw [e _ _ (.inl (h.an (by omega)))]; exact h.ats j hj, h.wn, h.an, h.cp, h.big, h.txt⟩

theorem ret_sl {a : Option Addr} {n n' c c' : Nat} (h : n = n') (k : c = c') : Ending.returned (.slice a n c) = .returned (.slice a n' c') := by rw [h, k]
/-- The n words at a place, if they are there. -/
theorem at_yes {E : Env} {left : Nat} {w : World} (h : Rr E left w) (p n : Nat) (hpn : p + n ≤ E.H.N) (h1 : E.H.N ≠ 0) :
    Calls Try.prog 64 #[.pointer (some ⟨E.rb, 0, none⟩), .int .i64 p, .int .i64 n] w fun e w' => (∃ o', e = .returned (.slice (some ⟨E.b, o', none⟩) n (E.cap - p)) ∧ (n ≠ 0 → o' = E.o + p)) ∧ w' = w := by
  have hN := h.ok.n
  have hc := h.cp
  have q0 := h.c0
  rw [h.wl h1] at q0
  obtain ⟨H, rb, wv, b, o, cap, av, ab, ao, acap⟩ := E
  clear h
  simp only at *
  generalize H.N = N at *
  have hd : decide ((n : Int) ≤ (N : Int) - p) = true := by simp; omega
  have hp1 : p ≤ N := by omega
  by_cases hcp : p = cap
  · have hn0 : n = 0 := by omega
    subst hn0
    go_enter Try.func64, Try.ntmps64
    go_wp2_with (first | (go_at_call 35; refine (insist_yes _).mono ?_; rintro e w' ⟨rfl, rfl⟩))
    go_ret
    exact ⟨⟨_, ret_sl rfl (by omega), fun h => absurd rfl h⟩, rfl⟩
  · go_enter Try.func64, Try.ntmps64
    go_wp2_with (first | (go_at_call 35; refine (insist_yes _).mono ?_; rintro e w' ⟨rfl, rfl⟩))
    go_ret
    exact ⟨⟨_, ret_sl (by omega) rfl, fun _ => rfl⟩, rfl⟩
theorem at_no {E : Env} {left : Nat} {w : World} (h : Rr E left w) (p n : Nat) (hpn : ¬ p + n ≤ E.H.N) (hp : p ≤ 4000001) (hn : n ≤ 4000000) :
    Calls Try.prog 64 #[.pointer (some ⟨E.rb, 0, none⟩), .int .i64 p, .int .i64 n] w fun e w' => e = .panicked PN ∧ w' = w := by
  have hN := h.ok.n
  have q0 := h.c0
  obtain ⟨H, rb, wv, b, o, cap, av, ab, ao, acap⟩ := E
  clear h
  simp only at *
  generalize H.N = N at *
  by_cases h1 : p ≤ N
  · have hd : decide ((n : Int) ≤ (N : Int) - p) = false := by simp; omega
    go_enter Try.func64, Try.ntmps64
    go_wp2_with (first | (go_at_call 35; refine (insist_no _).mono ?_; rintro e w' ⟨rfl, rfl⟩))
    exact ⟨rfl, rfl, rfl⟩
  · go_enter Try.func64, Try.ntmps64
    go_wp2_with (first | (go_at_call 35; refine (insist_no _).mono ?_; rintro e w' ⟨rfl, rfl⟩))
    exact ⟨rfl, rfl, rfl⟩
end Go.Proofs.Ytpfknaaepdbobab
