/-
  How the program reads words: one term, and all within it.
-/
import Derived.Test.YtpfknaaepdbobabRiC
import Derived.Test.YtpfknaaepdbobabTmF
namespace Go.Proofs.Ytpfknaaepdbobab
open Go.RowKit
set_option linter.unusedVariables false

theorem terms_yes {E : Env} {d : Nat} (ih : TermC E d) {w : World} {left : Nat} (h : Rr E left w) (hl : left ≤ 100) (p n o' cap' : Nat) (ho : n ≠ 0 → o' = E.o + p) (hpn : p + n ≤ E.H.N) (hn8 : n ≤ 8) {l : List Tm} {y : Nat} (he : rTs E.H (rT true E.H d) n p left = some (l, y)) :
    Calls Try.prog 52 #[.pointer (some ⟨E.rb, 0, none⟩), .slice (some ⟨E.b, o', none⟩) n cap', .int .i64 d] w fun e w' => ∃ ao cap, e = .returned (.slice ao l.length cap) ∧ Turn E.rb w w' ∧ l.length ≤ cap ∧ cap ≤ maxLen ∧ RpL (fun b => w.heap.size ≤ b) w' l ao ∧ Rr E y w' := by
  refine (terms_any ih h hl p n o' cap' ho hpn hn8).mono ?_
  rintro e w' ⟨ht, ⟨l', y', v, hh, rfl, ⟨ao, cap, rfl, h1, h2, h3⟩, hrr⟩ | ⟨hh, rfl⟩⟩
  · rw [he] at hh
    simp only [Option.some.injEq, Prod.mk.injEq] at hh
    obtain ⟨rfl, rfl⟩ := hh
    exact ⟨ao, cap, rfl, ht, h1, h2, h3, hrr⟩
  · rw [he] at hh; cases hh
theorem terms_no {E : Env} {d : Nat} (ih : TermC E d) {w : World} {left : Nat} (h : Rr E left w) (hl : left ≤ 100) (p n o' cap' : Nat) (ho : n ≠ 0 → o' = E.o + p) (hpn : p + n ≤ E.H.N) (hn8 : n ≤ 8) (he : rTs E.H (rT true E.H d) n p left = none) :
    Calls Try.prog 52 #[.pointer (some ⟨E.rb, 0, none⟩), .slice (some ⟨E.b, o', none⟩) n cap', .int .i64 d] w fun e w' => e = .panicked PN ∧ Turn E.rb w w' := by
  refine (terms_any ih h hl p n o' cap' ho hpn hn8).mono ?_
  rintro e w' ⟨ht, ⟨l', y', v, hh, rfl, ⟨ao, cap, rfl, h1, h2, h3⟩, hrr⟩ | ⟨hh, rfl⟩⟩
  · rw [he] at hh; cases hh
  · exact ⟨rfl, ht⟩
theorem list_yes {E : Env} {d : Nat} (ih : TermC E d) {w : World} {left : Nat} (h : Rr E left w) (hl : left ≤ 100) (x : Int) (hx : x ≤ 9223372036854775807) {l : List Tm} {y : Nat} (he : rL E.H (rT true E.H d) left x left = some (l, y)) :
    Calls Try.prog 55 #[.pointer (some ⟨E.rb, 0, none⟩), .int .i64 x, .int .i64 d] w fun e w' => ∃ ao cap, e = .returned (.slice ao l.length cap) ∧ Turn E.rb w w' ∧ l.length ≤ cap ∧ cap ≤ maxLen ∧ RpL (fun b => w.heap.size ≤ b) w' l ao ∧ Rr E y w' := by
  refine (list_any ih h hl x hx).mono ?_
  rintro e w' ⟨ht, ⟨l', y', v, hh, rfl, ⟨ao, cap, rfl, h1, h2, h3⟩, hrr⟩ | ⟨hh, rfl⟩⟩
  · rw [he] at hh
    simp only [Option.some.injEq, Prod.mk.injEq] at hh
    obtain ⟨rfl, rfl⟩ := hh
    exact ⟨ao, cap, rfl, ht, h1, h2, h3, hrr⟩
  · rw [he] at hh; cases hh
theorem list_no {E : Env} {d : Nat} (ih : TermC E d) {w : World} {left : Nat} (h : Rr E left w) (hl : left ≤ 100) (x : Int) (hx : x ≤ 9223372036854775807) (he : rL E.H (rT true E.H d) left x left = none) :
    Calls Try.prog 55 #[.pointer (some ⟨E.rb, 0, none⟩), .int .i64 x, .int .i64 d] w fun e w' => e = .panicked PN ∧ Turn E.rb w w' := by
  refine (list_any ih h hl x hx).mono ?_
  rintro e w' ⟨ht, ⟨l', y', v, hh, rfl, ⟨ao, cap, rfl, h1, h2, h3⟩, hrr⟩ | ⟨hh, rfl⟩⟩
  · rw [he] at hh; cases hh
  · exact ⟨rfl, ht⟩
theorem text_yes (b p cap : Nat) (l : List Int) (w : World) (hc : ∀ j (hj : j < l.length), w.cell? ⟨b, p + j, none⟩ = some (.int .i64 l[j])) (hl : l.length ≤ 40) (he : l.all isByte = true) :
    Calls Try.prog 54 #[.slice (some ⟨b, p, none⟩) l.length cap] w fun e w' => e = .returned (.string (txtB l)) ∧ Below w.heap.size w w' := by
  refine (textOf_any b p cap l w hc hl).mono ?_
  rintro e w' ⟨⟨_, rfl⟩ | ⟨hh, rfl⟩, hb⟩
  · exact ⟨rfl, hb⟩
  · rw [he] at hh; cases hh
theorem text_no (b p cap : Nat) (l : List Int) (w : World) (hc : ∀ j (hj : j < l.length), w.cell? ⟨b, p + j, none⟩ = some (.int .i64 l[j])) (hl : l.length ≤ 40) (he : l.all isByte = false) :
    Calls Try.prog 54 #[.slice (some ⟨b, p, none⟩) l.length cap] w fun e w' => e = .panicked PN ∧ Below w.heap.size w w' := by
  refine (textOf_any b p cap l w hc hl).mono ?_
  rintro e w' ⟨⟨hh, rfl⟩ | ⟨_, rfl⟩, hb⟩
  · rw [he] at hh; cases hh
  · exact ⟨rfl, hb⟩

/-! ### The box of what is answered -/
def lay4 (w : World) (B : Nat) (a b c d : Value) : World := (((w.setCell ⟨B, 0, none⟩ a).setCell ⟨B, 1, none⟩ b).setCell ⟨B, 2, none⟩ c).setCell ⟨B, 3, none⟩ d
theorem lay4_heap {w : World} {B : Nat} {a b c d : Value} {k : Nat} (h : k ≠ B) : (lay4 w B a b c d).heap[k]? = w.heap[k]? := by
  unfold lay4
  rw [Below.heap_setCell _ ⟨B, 3, none⟩ _ k h, Below.heap_setCell _ ⟨B, 2, none⟩ _ k h, Below.heap_setCell _ ⟨B, 1, none⟩ _ k h, Below.heap_setCell _ ⟨B, 0, none⟩ _ k h]
theorem lay4_cell {w : World} {B : Nat} {a b c d : Value} {k o : Nat} (h : k ≠ B) : (lay4 w B a b c d).cell? ⟨k, o, none⟩ = w.cell? ⟨k, o, none⟩ := World.cell?_of_block (w := w) (lay4_heap h)
theorem lay4_size {w : World} {B : Nat} {a b c d : Value} : (lay4 w B a b c d).heap.size = w.heap.size := by
  unfold lay4
  rw [World.size_setCell, World.size_setCell, World.size_setCell, World.size_setCell]
theorem box_in {E : Env} {left : Nat} {w w1 : World} (h : Rr E left w) (c : Array Value) (t : TypeId) (e : w1 = w.alloc (.cells c t)) :
    w1.heap.size = w.heap.size + 1 ∧ (∀ o, w1.cell? ⟨w.heap.size, o, none⟩ = c[o]?) ∧ (∀ o, w1.frozen? ⟨w.heap.size, o, none⟩ = false) ∧ Turn E.rb w w1 ∧ Rr E left w1 ∧ E.rb ≠ w.heap.size := by
  subst e
  have hb : Below w.heap.size w (w.alloc (.cells c t)) := (Below.refl _ _).alloc (Nat.le_refl _) _
  have := h.lt
  exact ⟨World.size_alloc _ _, fun o => World.cell?_alloc_new w c t o, fun o => World.frozen?_alloc_new w _ _ o, Turn.of_below hb, h.below hb, by omega⟩
theorem Turn.keep {cb W : Nat} {w1 w2 : World} {c : Array Value} (t : Turn cb w1 w2) (hn : cb ≠ W) (hlt : W < w1.heap.size) (hq : ∀ o, w1.cell? ⟨W, o, none⟩ = c[o]?) (hf : ∀ o, w1.frozen? ⟨W, o, none⟩ = false) :
    (∀ o, w2.cell? ⟨W, o, none⟩ = c[o]?) ∧ (∀ o, w2.frozen? ⟨W, o, none⟩ = false) :=
  ⟨fun o => by rw [World.cell?_of_block (w := w1) (t.block W hlt (Ne.symm hn))]; exact hq o, fun o => by rw [World.frozen?_of_block (w := w1) (t.block W hlt (Ne.symm hn))]; exact hf o⟩
theorem box_out {E : Env} {left y : Nat} {w w5 : World} (h0 : Rr E left w) (ht : Turn E.rb w w5) (hz : w.heap.size + 1 ≤ w5.heap.size) (hr : Rr E y w5) {t : Tm} {v : Value} (hv : RpV (fun b => w.heap.size + 1 ≤ b) w5 t v) (a b c d : Value) :
    Turn E.rb w (lay4 w5 w.heap.size a b c d) ∧ RpV (fun b => w.heap.size ≤ b) (lay4 w5 w.heap.size a b c d) t v ∧ Rr E y (lay4 w5 w.heap.size a b c d) := by
  have hk : ∀ k, k < w.heap.size → (lay4 w5 w.heap.size a b c d).heap[k]? = w5.heap[k]? := fun k hk => lay4_heap (by omega)
  refine ⟨⟨ht.os, ht.tape, ht.output, by rw [lay4_size]; exact ht.size, fun k hkl hkn => (hk k hkl).trans (ht.block k hkl hkn)⟩, Moves.repV (S := fun b => w.heap.size + 1 ≤ b) (fun b' o' v' hb' hc' => ⟨by omega, ?_⟩) hv, h0.same hr hk⟩
  have hb'' : w.heap.size + 1 ≤ b' := hb'
  rw [lay4_cell (by omega)]
  exact hc'
theorem rp_leaf {S : Nat → Prop} {w : World} (k n : Int) (s : ByteArray) (hs : s.size ≤ maxLen) : RpV S w (.mk k n s []) (.agg #[.int .i64 k, .int .i64 n, .string s, .slice none 0 0]) :=
  ⟨none, 0, rfl, hs, Nat.le_refl _, Nat.zero_le _, by rw [RpL]; trivial⟩
theorem isW_big {x : Int} (h : isW x = true) : x ≤ 9223372036854775807 := by
  have h0 := isW_ge h
  have hv := isW_val h
  rw [valW_of h0] at hv
  omega
theorem wordsAt_len (H : Hp) (p n : Nat) : (wordsAt H p n).length = n := by simp [wordsAt]
theorem wordsAt_get (H : Hp) (p n j : Nat) (h : j < (wordsAt H p n).length) : (wordsAt H p n)[j] = H.f (p + j) := by simp [wordsAt]

/-- What termOf answers. -/
def TofC (E : Env) (d : Nat) (w : World) (left : Nat) (x : Int) : Prop :=
  Calls Try.prog 37 #[.pointer (some ⟨E.rb, 0, none⟩), .int .i64 x, .int .i64 d] w fun e w' => Turn E.rb w w' ∧
    ((∃ t y v, raw true E.H (rT true E.H d) x left = some (t, y) ∧ e = .returned v ∧ RpV (fun b => w.heap.size ≤ b) w' t v ∧ Rr E y w') ∨ (raw true E.H (rT true E.H d) x left = none ∧ e = .panicked PN))

set_option maxHeartbeats 2000000 in
set_option maxRecDepth 100000 in
theorem termOf_0 {E : Env} {d : Nat} {w : World} {left : Nat} (h : Rr E left w) (x : Int) (hw : isW x = true) (ht : tagW x = 0) : TofC E d w left x := by
  obtain ⟨p, hp⟩ : ∃ p : Nat, valW x = p := ⟨(valW x).toNat, by have := valW_ge x; omega⟩
  have HP : Hid (valW x = p) := hp
  have HX : Hid (x ≤ 9223372036854775807) := isW_big hw
  have HT : Hid (tagW x = 0) := ht
  have hpb : (p : Int) ≤ 4000000 := by have := isW_val hw; omega
  have HR : Hid (Rr E left w) := h
  unfold TofC
  rw [show raw true E.H (rT true E.H d) x left = some (.mk 1 ((p : Int) - 1000000) ByteArray.empty [], left) by unfold raw; rw [if_pos ht, if_neg (by simp), hp]]
  clear hp hw ht h
  go_enter Try.func37, Try.ntmps37
  go_wp2_with fail
  refine (implVal_any x HX.out _).mono ?_
  rintro e w1 ⟨rfl, hw1⟩
  rw [HP.out]
  obtain ⟨hz1, q1, f1, ht1, hr1, hne⟩ := box_in HR.out _ _ hw1
  have HT1 : Hid (Turn E.rb w w1) := ht1
  have HR1 : Hid (Rr E left w1) := hr1
  clear hw1 ht1 hr1
  go_wp2_with (first | (go_at_call 50; refine (implTag_any x HX.out _).mono ?_; rintro e w' ⟨rfl, rfl⟩; rw [HT.out]))
  obtain ⟨a1, a2, a3⟩ := box_out HR.out HT1.out (by omega) HR1.out (rp_leaf 1 ((p : Int) - 1000000) ByteArray.empty (Nat.zero_le _)) (.int .i64 1) (.int .i64 ((p : Int) - 1000000)) (.string ⟨#[]⟩) (.slice none 0 0)
  exact bodyPost_ret (v := .agg #[.int .i64 1, .int .i64 ((p : Int) - 1000000), .string ⟨#[]⟩, .slice none 0 0]) (by simp [results, Try.results37, go_sem, q1]) rfl ⟨a1, .inl ⟨_, _, _, rfl, rfl, a2, a3⟩⟩
end Go.Proofs.Ytpfknaaepdbobab
