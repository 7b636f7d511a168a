/-
  How the program reads words that a function value tells: one term.
-/
import Derived.Test.YtadihpbleomlkaaRgC
import Derived.Test.YtadihpbleomlkaaTmF
namespace Go.Proofs.Ytadihpbleomlkaa.Gn
open Go.RowKit
set_option linter.unusedVariables false

theorem terms_yes {E : Env} {d : Nat} (ih : TermC E d) {w : World} {left : Nat} (h : Rr E left w) (hl : left ≤ 100) (V p n o' cap' : Nat) (ho : n ≠ 0 → o' = E.so V + p) (hpn : p + n ≤ E.H.len V) (hn8 : n ≤ 8) {l : List Tm} {y : Nat} (he : rTs (E.H.w V) (rT true E.H d) n p left = some (l, y)) :
    Calls Try.prog 134 #[.pointer (some ⟨E.rb, 0, none⟩), .slice (some ⟨E.sb V, o', none⟩) n cap', .int .i64 d] w fun e w' => ∃ ao cap, e = .returned (.slice ao l.length cap) ∧ Turn E.rb w w' ∧ l.length ≤ cap ∧ cap ≤ maxLen ∧ OwL w' l (w.heap.size) w'.heap.size ao ∧ Rr E y w' := by
  refine (terms_any ih h hl V p n o' cap' ho hpn hn8).mono ?_
  rintro e w' ⟨ht, ⟨l', y', v, hh, rfl, ⟨ao, cap, rfl, h1, h2, h3⟩, hrr⟩ | ⟨hh, rfl⟩⟩
  · rw [he] at hh
    simp only [Option.some.injEq, Prod.mk.injEq] at hh
    obtain ⟨rfl, rfl⟩ := hh
    exact ⟨ao, cap, rfl, ht, h1, h2, h3, hrr⟩
  · rw [he] at hh; cases hh
theorem terms_no {E : Env} {d : Nat} (ih : TermC E d) {w : World} {left : Nat} (h : Rr E left w) (hl : left ≤ 100) (V p n o' cap' : Nat) (ho : n ≠ 0 → o' = E.so V + p) (hpn : p + n ≤ E.H.len V) (hn8 : n ≤ 8) (he : rTs (E.H.w V) (rT true E.H d) n p left = none) :
    Calls Try.prog 134 #[.pointer (some ⟨E.rb, 0, none⟩), .slice (some ⟨E.sb V, o', none⟩) n cap', .int .i64 d] w fun e w' => e = .panicked PN ∧ Turn E.rb w w' := by
  refine (terms_any ih h hl V p n o' cap' ho hpn hn8).mono ?_
  rintro e w' ⟨ht, ⟨l', y', v, hh, rfl, ⟨ao, cap, rfl, h1, h2, h3⟩, hrr⟩ | ⟨hh, rfl⟩⟩
  · rw [he] at hh; cases hh
  · exact ⟨rfl, ht⟩
theorem list_yes {E : Env} {d : Nat} (ih : TermC E d) {w : World} {left : Nat} (h : Rr E left w) (hl : left ≤ 100) (x : Int) (hx : x ≤ 9223372036854775807) {l : List Tm} {y : Nat} (he : rL E.H (rT true E.H d) left x left = some (l, y)) :
    Calls Try.prog 137 #[.pointer (some ⟨E.rb, 0, none⟩), .int .i64 x, .int .i64 d] w fun e w' => ∃ ao cap, e = .returned (.slice ao l.length cap) ∧ Turn E.rb w w' ∧ l.length ≤ cap ∧ cap ≤ maxLen ∧ OwL w' l (w.heap.size) w'.heap.size ao ∧ Rr E y w' := by
  refine (list_any ih h hl x hx).mono ?_
  rintro e w' ⟨ht, ⟨l', y', v, hh, rfl, ⟨ao, cap, rfl, h1, h2, h3⟩, hrr⟩ | ⟨hh, rfl⟩⟩
  · rw [he] at hh
    simp only [Option.some.injEq, Prod.mk.injEq] at hh
    obtain ⟨rfl, rfl⟩ := hh
    exact ⟨ao, cap, rfl, ht, h1, h2, h3, hrr⟩
  · rw [he] at hh; cases hh
theorem list_no {E : Env} {d : Nat} (ih : TermC E d) {w : World} {left : Nat} (h : Rr E left w) (hl : left ≤ 100) (x : Int) (hx : x ≤ 9223372036854775807) (he : rL E.H (rT true E.H d) left x left = none) :
    Calls Try.prog 137 #[.pointer (some ⟨E.rb, 0, none⟩), .int .i64 x, .int .i64 d] w fun e w' => e = .panicked PN ∧ Turn E.rb w w' := by
  refine (list_any ih h hl x hx).mono ?_
  rintro e w' ⟨ht, ⟨l', y', v, hh, rfl, ⟨ao, cap, rfl, h1, h2, h3⟩, hrr⟩ | ⟨hh, rfl⟩⟩
  · rw [he] at hh; cases hh
  · exact ⟨rfl, ht⟩
theorem box_in {E : Env} {left : Nat} {w w1 : World} (h : Rr E left w) (c : Array Value) (t : TypeId) (e : w1 = w.alloc (.cells c t)) :
    w1.heap.size = w.heap.size + 1 ∧ (∀ o, w1.cell? ⟨w.heap.size, o, none⟩ = c[o]?) ∧ (∀ o, w1.frozen? ⟨w.heap.size, o, none⟩ = false) ∧ Turn E.rb w w1 ∧ Rr E left w1 ∧ E.rb ≠ w.heap.size := by
  subst e
  have hb : Below w.heap.size w (w.alloc (.cells c t)) := (Below.refl _ _).alloc (Nat.le_refl _) _
  have := h.lt
  exact ⟨World.size_alloc _ _, fun o => World.cell?_alloc_new w c t o, fun o => World.frozen?_alloc_new w _ _ o, Turn.of_below hb, h.below hb, by omega⟩
theorem box_out {E : Env} {left y : Nat} {w w5 : World} (h0 : Rr E left w) (ht : Turn E.rb w w5) (hz : w.heap.size + 1 ≤ w5.heap.size) (hr : Rr E y w5) {t : Tm} {v : Value} (hv : OwV w5 (w.heap.size + 1) w5.heap.size t v) (a b c d : Value) :
    Turn E.rb w (lay4 w5 w.heap.size a b c d) ∧ OwV (lay4 w5 w.heap.size a b c d) (w.heap.size) (lay4 w5 w.heap.size a b c d).heap.size t v ∧ Rr E y (lay4 w5 w.heap.size a b c d) := by
  have hk : ∀ k, k < w.heap.size → (lay4 w5 w.heap.size a b c d).heap[k]? = w5.heap[k]? := fun k hk => lay4_heap (by omega)
  refine ⟨⟨ht.os, ht.tape, ht.output, by rw [lay4_size]; exact ht.size, fun k hkl hkn => (hk k hkl).trans (ht.block k hkl hkn)⟩, ?_, h0.same hr hk⟩
  rw [lay4_size]
  exact (hv.keep (fun b' h1 h2 hbl => lay4_heap (by omega))).mono (by omega) (Nat.le_refl _)
theorem rp_leaf {w : World} {lo hi : Nat} (k n : Int) (s : ByteArray) (hs : s.size ≤ maxLen) : OwV w lo hi (.mk k n s []) (.agg #[.int .i64 k, .int .i64 n, .string s, .slice none 0 0]) :=
  ⟨none, 0, rfl, hs, Nat.le_refl _, Nat.zero_le _, by rw [OwL]; trivial⟩
/-- What termOf answers. -/
def TofC (E : Env) (d : Nat) (w : World) (left : Nat) (x : Int) : Prop :=
  Calls Try.prog 120 #[.pointer (some ⟨E.rb, 0, none⟩), .int .i64 x, .int .i64 d] w fun e w' => Turn E.rb w w' ∧
    ((∃ t y v, raw true E.H (rT true E.H d) x left = some (t, y) ∧ e = .returned v ∧ OwV w' (w.heap.size) w'.heap.size t v ∧ Rr E y w') ∨ (raw true E.H (rT true E.H d) x left = none ∧ e = .panicked PN))
set_option maxHeartbeats 2000000 in
set_option maxRecDepth 100000 in
theorem termOf_0 {E : Env} {d : Nat} {w : World} {left : Nat} (h : Rr E left w) (x : Int) (hw : isW x = true) (ht : tagW x = 0) : TofC E d w left x := by
  obtain ⟨p, hp⟩ : ∃ p : Nat, valW x = p := ⟨(valW x).toNat, by have := valW_ge x; omega⟩
  have HP : Hid (valW x = p) := hp
  have HX : Hid (x ≤ 9223372036854775807) := isW_big hw
  have HT : Hid (tagW x = 0) := ht
  have hpb : (p : Int) ≤ 4000000 := by have := isW_val hw; omega
  have HR : Hid (Rr E left w) := h
  unfold TofC
  rw [show raw true E.H (rT true E.H d) x left = some (.mk 1 ((p : Int) - 1000000) ByteArray.empty [], left) by unfold raw; rw [if_pos ht, if_neg (by simp), hp]]
  clear hp hw ht h
  go_enter Try.func120, Try.ntmps120
  go_wp2_with fail
  refine (implVal_any x HX.out _).mono ?_
  rintro e w1 ⟨rfl, hw1⟩
  rw [HP.out]
  obtain ⟨hz1, q1, f1, ht1, hr1, hne⟩ := box_in HR.out _ _ hw1
  have HT1 : Hid (Turn E.rb w w1) := ht1
  have HR1 : Hid (Rr E left w1) := hr1
  clear hw1 ht1 hr1
  go_wp2_with (first | (go_at_call 124; refine (implTag_any x HX.out _).mono ?_; rintro e w' ⟨rfl, rfl⟩; rw [HT.out]))
  obtain ⟨a1, a2, a3⟩ := box_out HR.out HT1.out (by omega) HR1.out (rp_leaf 1 ((p : Int) - 1000000) ByteArray.empty (Nat.zero_le _)) (.int .i64 1) (.int .i64 ((p : Int) - 1000000)) (.string ⟨#[]⟩) (.slice none 0 0)
  exact bodyPost_ret (v := .agg #[.int .i64 1, .int .i64 ((p : Int) - 1000000), .string ⟨#[]⟩, .slice none 0 0]) (by simp [results, Try.results120, go_sem, q1]) rfl ⟨a1, .inl ⟨_, _, _, rfl, rfl, a2, a3⟩⟩
end Go.Proofs.Ytadihpbleomlkaa.Gn
