/-
  How the specification reads words: the reader, the words at a place, how many there are.
  How the specification reads words: how many there are; bytes.
  How the specification reads words: terms that are gathered in a variable; a tuple.
-/
import Derived.Test.YtjjmikfbongccaaReA
import Derived.Deep.RegionLaw
namespace Go.Proofs.Ytjjmikfbongccaa
open Go.RowKit
set_option linter.unusedVariables false

structure Sr (E : Env) (left : Int) (bad : Bool) (w : World) : Prop where
  c0 : w.cell? ⟨E.rb, 0, none⟩ = some (.slice E.wv E.H.N E.cap)
  c1 : w.cell? ⟨E.rb, 1, none⟩ = some (.slice E.av E.H.A.length E.acap)
  c2 : w.cell? ⟨E.rb, 2, none⟩ = some (.int .i64 left)
  c3 : w.cell? ⟨E.rb, 3, none⟩ = some (.bool bad)
  fr : ∀ o, w.frozen? ⟨E.rb, o, none⟩ = false
  src : Src E w
  wn : E.H.N ≠ 0 → E.b ≠ E.rb
  an : E.H.A.length ≠ 0 → E.ab ≠ E.rb
theorem Sr.lt {E : Env} {left : Int} {bad : Bool} {w : World} (h : Sr E left bad w) : E.rb < w.heap.size := World.block_lt_of_cell? w _ h.c0
theorem Src.same {E : Env} {w w1 w2 : World} (h0 : Src E w) (h : Src E w1) (hk : ∀ k, k < w.heap.size → w2.heap[k]? = w1.heap[k]?) : Src E w2 := by
  have e : ∀ b o, b < w.heap.size → w2.cell? ⟨b, o, none⟩ = w1.cell? ⟨b, o, none⟩ := fun b o hb => World.cell?_of_block (w := w1) (hk b hb)
  exact ⟨h.ok, h.wl, h.al, fun j hj => by rw [e _ _ (World.block_lt_of_cell? w _ (h0.ws j hj))]; exact h.ws j hj, fun j hj => by rw [e _ _ (World.block_lt_of_cell? w _ (h0.ats j hj))]; exact h.ats j hj, h.cp, h.big, h.txt⟩
theorem Sr.same {E : Env} {l0 left : Int} {b0 bad : Bool} {w w1 w2 : World} (h0 : Sr E l0 b0 w) (h : Sr E left bad w1) (hk : ∀ k, k < w.heap.size → w2.heap[k]? = w1.heap[k]?) : Sr E left bad w2 := by
  have e : ∀ b o, b < w.heap.size → w2.cell? ⟨b, o, none⟩ = w1.cell? ⟨b, o, none⟩ := fun b o hb => World.cell?_of_block (w := w1) (hk b hb)
  have hr := h0.lt
  exact ⟨by rw [e _ _ hr]; exact h.c0, by rw [e _ _ hr]; exact h.c1, by rw [e _ _ hr]; exact h.c2, by rw [e _ _ hr]; exact h.c3, fun o => by rw [World.frozen?_of_block (w := w1) (hk E.rb hr)]; exact h.fr o, h0.src.same h.src hk, h.wn, h.an⟩
theorem Sr.below {E : Env} {left : Int} {bad : Bool} {w w' : World} (h : Sr E left bad w) (hb : Below w.heap.size w w') : Sr E left bad w' := h.same h (fun k hk => hb.block k hk)
theorem Src.set {E : Env} {w : World} (h : Src E w) (wn : E.H.N ≠ 0 → E.b ≠ E.rb) (an : E.H.A.length ≠ 0 → E.ab ≠ E.rb) (o : Nat) (v : Value) : Src E (w.setCell ⟨E.rb, o, none⟩ v) := by
  have e : ∀ b o', b ≠ E.rb → (w.setCell ⟨E.rb, o, none⟩ v).cell? ⟨b, o', none⟩ = w.cell? ⟨b, o', none⟩ := fun b o' hn => by
    rw [World.cell?_setCell_other (h := fun e => by simp only [Addr.mk.injEq] at e; exact hn e.1.symm)]
  exact ⟨h.ok, h.wl, h.al, fun j hj => by rw [e _ _ (wn (by omega))]; exact h.ws j hj, fun j hj => by rw [e _ _ (an (by omega))]; exact h.ats j hj, h.cp, h.big, h.txt⟩
theorem Sr.setL {E : Env} {left : Int} {bad : Bool} {w : World} (h : Sr E left bad w) (x : Int) : Sr E x bad (w.setCell ⟨E.rb, 2, none⟩ (.int .i64 x)) := by
  have e : ∀ o, o ≠ 2 → (w.setCell ⟨E.rb, 2, none⟩ (.int .i64 x)).cell? ⟨E.rb, o, none⟩ = w.cell? ⟨E.rb, o, none⟩ := fun o hn => by
    rw [World.cell?_setCell_other (h := fun e => by simp only [Addr.mk.injEq] at e; omega)]
  exact ⟨by rw [e _ (by omega)]; exact h.c0, by rw [e _ (by omega)]; exact h.c1, World.cell?_setCell_same w _ _ h.c2, by rw [e _ (by omega)]; exact h.c3, fun o => by rw [World.frozen?_setCell]; exact h.fr o, h.src.set h.wn h.an 2 _, h.wn, h.an⟩
theorem Sr.setB {E : Env} {left : Int} {bad : Bool} {w : World} (h : Sr E left bad w) (x : Bool) : Sr E left x (w.setCell ⟨E.rb, 3, none⟩ (.bool x)) := by
  have e : ∀ o, o ≠ 3 → (w.setCell ⟨E.rb, 3, none⟩ (.bool x)).cell? ⟨E.rb, o, none⟩ = w.cell? ⟨E.rb, o, none⟩ := fun o hn => by
    rw [World.cell?_setCell_other (h := fun e => by simp only [Addr.mk.injEq] at e; omega)]
  exact ⟨by rw [e _ (by omega)]; exact h.c0, by rw [e _ (by omega)]; exact h.c1, by rw [e _ (by omega)]; exact h.c2, World.cell?_setCell_same w _ _ h.c3, fun o => by rw [World.frozen?_setCell]; exact h.fr o, h.src.set h.wn h.an 3 _, h.wn, h.an⟩

theorem words_yes {E : Env} {left : Int} {w : World} (h : Sr E left false w) (p n : Nat) (hpn : p + n ≤ E.H.N) (h1 : E.H.N ≠ 0) :
    Calls Try.prog 68 #[.pointer (some ⟨E.rb, 0, none⟩), .int .i64 p, .int .i64 n] w fun e w' => (∃ o', e = .returned (.slice (some ⟨E.b, o', none⟩) n (E.cap - p)) ∧ (n ≠ 0 → o' = E.o + p)) ∧ w' = w := by
  have hN := h.src.ok.n
  have hc := h.src.cp
  have q0 := h.c0
  have q3 := h.c3
  rw [h.src.wl h1] at q0
  obtain ⟨H, rb, wv, b, o, cap, av, ab, ao, acap⟩ := E
  clear h
  simp only at *
  generalize H.N = N at *
  have hi1 : inB (p : Int) 0 (N : Int) = true := by unfold inB; simp; omega
  have hi2 : inB (n : Int) 0 ((N : Int) - p) = true := by unfold inB; simp; omega
  have HI1 : Hid (inB (p : Int) 0 (N : Int) = true) := hi1
  have HI2 : Hid (inB (n : Int) 0 ((N : Int) - p) = true) := hi2
  clear hi1 hi2
  by_cases hcp : p = cap
  · have hn0 : n = 0 := by omega
    subst hn0
    subst hcp
    have HI3 : Hid (inB 0 0 ((N : Int) - p) = true) := HI2.out
    go_enter Try.func68, Try.ntmps68
    go_wp2_with (first | (go_at_call 59; refine (in_any _ _ _ _).mono ?_; rintro e w' ⟨rfl, rfl⟩; first | rw [HI1.out] | rw [HI3.out] | rw [HI2.out]))
    go_ret
    exact ⟨⟨_, ret_sl rfl (by omega), fun h => absurd rfl h⟩, rfl⟩
  · go_enter Try.func68, Try.ntmps68
    go_wp2_with (first | (go_at_call 59; refine (in_any _ _ _ _).mono ?_; rintro e w' ⟨rfl, rfl⟩; first | rw [HI1.out] | rw [HI2.out]))
    go_ret
    exact ⟨⟨_, ret_sl (by omega) rfl, fun _ => rfl⟩, rfl⟩
set_option maxHeartbeats 1000000 in
theorem words_no {E : Env} {left : Int} {bad : Bool} {w : World} (h : Sr E left bad w) (p n : Nat) (hp : p ≤ 9223372036854775000) (hpn : bad = true ∨ ¬ p + n ≤ E.H.N) :
    Calls Try.prog 68 #[.pointer (some ⟨E.rb, 0, none⟩), .int .i64 p, .int .i64 n] w fun e w' => (∃ g, e = .returned (.slice (some ⟨g, 0, none⟩) 0 0)) ∧ Turn E.rb w w' ∧ Sr E left true w' := by
  have HS : Hid (Sr E left true ((w.setCell ⟨E.rb, 3, none⟩ (.bool true)).alloc (.cells #[] 3))) := (h.setB true).below ((Below.refl _ _).alloc (Nat.le_refl _) _)
  have HT : Hid (Turn E.rb w ((w.setCell ⟨E.rb, 3, none⟩ (.bool true)).alloc (.cells #[] 3))) := ((Turn.refl _ _).set 3 _).alloc _
  have hN := h.src.ok.n
  have q0 := h.c0
  have q3 := h.c3
  have qf := h.fr
  clear h
  generalize E.H.N = N at *
  cases bad with
  | true =>
    go_enter Try.func68, Try.ntmps68
    go_wp2_with fail
    go_ret
    exact ⟨⟨_, rfl⟩, HT.out, HS.out⟩
  | false =>
    have hpn' : ¬ p + n ≤ N := by rcases hpn with h | h; cases h; exact h
    by_cases h1 : p ≤ N
    · have HI1 : Hid (inB (p : Int) 0 (N : Int) = true) := by show _ = _; unfold inB; simp; omega
      have HI2 : Hid (inB (n : Int) 0 ((N : Int) - p) = false) := by show _ = _; unfold inB; simp; omega
      go_enter Try.func68, Try.ntmps68
      go_wp2_with (first | (go_at_call 59; refine (in_any _ _ _ _).mono ?_; rintro e w' ⟨rfl, rfl⟩; first | rw [HI1.out] | rw [HI2.out]))
      go_ret
      exact ⟨⟨_, rfl⟩, HT.out, HS.out⟩
    · have HI1 : Hid (inB (p : Int) 0 (N : Int) = false) := by show _ = _; unfold inB; simp; omega
      go_enter Try.func68, Try.ntmps68
      go_wp2_with (first | (go_at_call 59; refine (in_any _ _ _ _).mono ?_; rintro e w' ⟨rfl, rfl⟩; first | rw [HI1.out]))
      go_ret
      exact ⟨⟨_, rfl⟩, HT.out, HS.out⟩
end Go.Proofs.Ytjjmikfbongccaa

namespace Go.Proofs.Ytjjmikfbongccaa
open Go.RowKit
set_option linter.unusedVariables false

theorem count_yes {E : Env} {left : Int} {w : World} (h : Sr E left false w) (p : Nat) (most : Int) (h1 : p + 1 ≤ E.H.N) (h2 : inB (E.H.f p) 0 most = true) :
    Calls Try.prog 69 #[.pointer (some ⟨E.rb, 0, none⟩), .int .i64 p, .int .i64 most] w fun e w' => e = .returned (.int .i64 (E.H.f p)) ∧ w' = w := by
  have HS : Hid (Sr E left false w) := h
  have HA : Hid (p + 1 ≤ E.H.N) := h1
  have HA3 : Hid (E.H.N ≠ 0) := by show _ ≠ _; omega
  have q := h.src.ws p (by omega)
  have HI : Hid (inB (E.H.f p) 0 most = true) := h2
  clear h h1 h2
  generalize E.H.f p = x at *
  go_enter Try.func69, Try.ntmps69
  go_wp2_with fail
  refine (words_yes HS.out p 1 HA.out HA3.out).mono ?_
  rintro e w' ⟨⟨o', rfl, ho'⟩, rfl⟩
  obtain rfl := ho' (by decide)
  clear ho'
  go_wp2_with (first | (go_at_call 59; refine (in_any _ _ _ _).mono ?_; rintro e w' ⟨rfl, rfl⟩; rw [HI.out]))
  go_ret
  exact ⟨rfl, rfl⟩
theorem count_no {E : Env} {left : Int} {w : World} (h : Sr E left false w) (p : Nat) (most : Int) (hp : p ≤ 9223372036854775000) (h1 : p + 1 ≤ E.H.N → inB (E.H.f p) 0 most = false) :
    Calls Try.prog 69 #[.pointer (some ⟨E.rb, 0, none⟩), .int .i64 p, .int .i64 most] w fun e w' => e = .returned (.int .i64 0) ∧ Turn E.rb w w' ∧ Sr E left true w' := by
  have HS : Hid (Sr E left false w) := h
  have HP : Hid (p ≤ 9223372036854775000) := hp
  by_cases h2 : p + 1 ≤ E.H.N
  · have HA : Hid (p + 1 ≤ E.H.N) := h2
    have HA3 : Hid (E.H.N ≠ 0) := by show _ ≠ _; omega
    have q := h.src.ws p (by omega)
    have q3 := h.c3
    have qf := h.fr
    have HI : Hid (inB (E.H.f p) 0 most = false) := h1 h2
    have HB : Hid (Sr E left true (w.setCell ⟨E.rb, 3, none⟩ (.bool true))) := h.setB true
    clear h h1 h2 hp
    generalize E.H.f p = x at *
    go_enter Try.func69, Try.ntmps69
    go_wp2_with fail
    refine (words_yes HS.out p 1 HA.out HA3.out).mono ?_
    rintro e w' ⟨⟨o', rfl, ho'⟩, rfl⟩
    obtain rfl := ho' (by decide)
    clear ho'
    go_wp2_with (first | (go_at_call 59; refine (in_any _ _ _ _).mono ?_; rintro e w' ⟨rfl, rfl⟩; rw [HI.out]))
    go_ret
    exact ⟨rfl, (Turn.refl _ _).set 3 _, HB.out⟩
  · have HA : Hid (false = true ∨ ¬ p + 1 ≤ E.H.N) := .inr h2
    clear h h1 h2 hp
    go_enter Try.func69, Try.ntmps69
    go_wp2_with fail
    refine (words_no HS.out p 1 HP.out HA.out).mono ?_
    rintro e w1 ⟨⟨g, rfl⟩, ht1, hs1⟩
    have q3 := hs1.c3
    have qf := hs1.fr
    have HT1 : Hid (Turn E.rb w w1) := ht1
    have HB : Hid (Sr E left true (w1.setCell ⟨E.rb, 3, none⟩ (.bool true))) := hs1.setB true
    clear ht1 hs1
    go_wp2_with fail
    go_ret
    exact ⟨rfl, HT1.out.trans ((Turn.refl _ _).set 3 _), HB.out⟩

/-- What is kept of a number in a byte. -/
def u8w (x : Int) : Int := IntKind.u8.wrap x
theorem u8w_byte (x : Int) : isByte (u8w x) = true := by
  unfold isByte u8w
  rw [IntKind.wrap_u8]
  simp
  omega
theorem u8w_all {l : List Int} (h : l.all isByte = true) : l.map u8w = l := by
  induction l with
  | nil => rfl
  | cons x r ih =>
    simp only [List.all_cons, Bool.and_eq_true] at h
    rw [List.map_cons, ih h.2]
    unfold u8w
    rw [isByte_wrap h.1]
theorem inB_byte (x : Int) : inB x 0 255 = isByte x := rfl

theorem count_any {E : Env} {left : Int} {w : World} (h : Sr E left false w) (p : Nat) (most : Int) (hp : p ≤ 9223372036854775000) :
    Calls Try.prog 69 #[.pointer (some ⟨E.rb, 0, none⟩), .int .i64 p, .int .i64 most] w fun e w' => ∃ (c : Nat) (bad1 : Bool), e = .returned (.int .i64 c) ∧ Turn E.rb w w' ∧ Sr E left bad1 w' ∧ ((bad1 = false ∧ p + 1 ≤ E.H.N ∧ (c : Int) = E.H.f p ∧ (c : Int) ≤ most) ∨ (bad1 = true ∧ c = 0 ∧ ¬ (p + 1 ≤ E.H.N ∧ 0 ≤ E.H.f p ∧ E.H.f p ≤ most))) := by
  by_cases hc : p + 1 ≤ E.H.N ∧ 0 ≤ E.H.f p ∧ E.H.f p ≤ most
  · refine (count_yes h p most hc.1 (by unfold inB; simp; omega)).mono ?_
    rintro e w' ⟨rfl, rfl⟩
    exact ⟨(E.H.f p).toNat, false, ret_int (by omega), Turn.refl _ _, h, .inl ⟨rfl, hc.1, by omega, by omega⟩⟩
  · refine (count_no h p most hp (fun h1 => by unfold inB; simp; omega)).mono ?_
    rintro e w' ⟨rfl, ht, hs⟩
    exact ⟨0, true, rfl, ht, hs, .inr ⟨rfl, rfl, hc⟩⟩
theorem words_any {E : Env} {left : Int} {bad : Bool} {w : World} (h : Sr E left bad w) (p n : Nat) (hp : p ≤ 9223372036854775000) (hp0 : p ≠ 0) :
    Calls Try.prog 68 #[.pointer (some ⟨E.rb, 0, none⟩), .int .i64 p, .int .i64 n] w fun e w' => ∃ (g o' m cap' : Nat) (bad2 : Bool), e = .returned (.slice (some ⟨g, o', none⟩) m cap') ∧ Turn E.rb w w' ∧ Sr E left bad2 w' ∧
      ((bad = false ∧ p + n ≤ E.H.N ∧ bad2 = false ∧ m = n ∧ (n ≠ 0 → g = E.b ∧ o' = E.o + p)) ∨ ((bad = true ∨ ¬ p + n ≤ E.H.N) ∧ bad2 = true ∧ m = 0)) := by
  by_cases hc : bad = false ∧ p + n ≤ E.H.N
  · obtain ⟨rfl, h1⟩ := hc
    refine (words_yes h p n h1 (by omega)).mono ?_
    rintro e w' ⟨⟨o', rfl, ho⟩, rfl⟩
    exact ⟨E.b, o', n, _, false, rfl, Turn.refl _ _, h, .inl ⟨rfl, h1, rfl, rfl, fun hn => ⟨rfl, ho hn⟩⟩⟩
  · have hc' : bad = true ∨ ¬ p + n ≤ E.H.N := by
      cases bad with
      | true => exact .inl rfl
      | false => exact .inr (fun h => hc ⟨rfl, h⟩)
    refine (words_no h p n hp hc').mono ?_
    rintro e w' ⟨⟨g, rfl⟩, ht, hs⟩
    exact ⟨g, 0, 0, 0, true, rfl, ht, hs, .inr ⟨hc', rfl, rfl⟩⟩
/-- What stands behind the word that says how many. -/
def CW (E : Env) (p : Nat) (most : Int) (w : World) (g o' m : Nat) (bad : Bool) : Prop :=
  (∀ j, j < m → w.cell? ⟨g, o' + j, none⟩ = some (.int .i64 (E.H.f (p + 1 + j))) ∧ g ≠ E.rb) ∧ ((bad = false ∧ cnt E.H p most = some m ∧ (m : Int) ≤ most) ∨ (bad = true ∧ cnt E.H p most = none ∧ m = 0))
theorem cw_of {E : Env} {left : Int} {p c m g o' : Nat} {most : Int} {bad1 bad2 : Bool} {w2 : World} (hs : Sr E left bad2 w2)
    (h1 : (bad1 = false ∧ p + 1 ≤ E.H.N ∧ (c : Int) = E.H.f p ∧ (c : Int) ≤ most) ∨ (bad1 = true ∧ c = 0 ∧ ¬ (p + 1 ≤ E.H.N ∧ 0 ≤ E.H.f p ∧ E.H.f p ≤ most)))
    (h2 : (bad1 = false ∧ p + 1 + c ≤ E.H.N ∧ bad2 = false ∧ m = c ∧ (c ≠ 0 → g = E.b ∧ o' = E.o + (p + 1))) ∨ ((bad1 = true ∨ ¬ p + 1 + c ≤ E.H.N) ∧ bad2 = true ∧ m = 0)) : CW E p most w2 g o' m bad2 := by
  rcases h2 with ⟨hb, hn, rfl, rfl, ho⟩ | ⟨hb, rfl, rfl⟩
  · rcases h1 with ⟨_, ha, hf, hm⟩ | ⟨hb', _⟩
    · refine ⟨fun j hj => ?_, .inl ⟨rfl, ?_, hm⟩⟩
      · obtain ⟨rfl, rfl⟩ := ho (by omega)
        exact ⟨by rw [Nat.add_assoc]; exact hs.src.ws (p + 1 + j) (by omega), hs.wn (by omega)⟩
      · unfold cnt
        rw [Int.toNat_natCast, if_pos ⟨by omega, by omega, by omega, by omega⟩, ← hf]
        simp
    · rw [hb] at hb'; cases hb'
  · refine ⟨fun j hj => absurd hj (by omega), .inr ⟨rfl, ?_, rfl⟩⟩
    unfold cnt
    rw [Int.toNat_natCast]
    rcases h1 with ⟨hb', ha, hf, hm⟩ | ⟨hb', _, hx⟩
    · rw [if_neg]
      rintro ⟨_, _, _, h4⟩
      rcases hb with hb | hb
      · rw [hb'] at hb; cases hb
      · omega
    · rw [if_neg]
      rintro ⟨a1, a2, a3, _⟩
      exact hx ⟨by omega, a2, a3⟩

theorem grow_keep {E : Env} {l0 left : Int} {b0 bad : Bool} {w2 wr w5 : World} {o : Obj} {row : Option Nat} (h0 : Sr E l0 b0 w2) (ht : Turn E.rb w2 wr) (hs : Sr E left bad wr) (hgr : (wr.alloc o).grownBy w5 row) (hrow : ∀ k, row = some k → w2.heap.size ≤ k) : Turn E.rb w2 w5 ∧ Sr E left bad w5 := by
  have hz := ht.size
  have hs1 : (wr.alloc o).heap.size = wr.heap.size + 1 := World.size_alloc _ _
  have hk : ∀ k, k < w2.heap.size → w5.heap[k]? = wr.heap[k]? := fun k hk => by
    rw [hgr.block k (by rw [hs1]; omega) (fun e => by have := hrow k e.symm; omega)]
    show (wr.heap.push _)[k]? = _
    rw [Array.getElem?_push, if_neg (by omega)]
  exact ⟨⟨hgr.os.trans ht.os, hgr.tape.trans ht.tape, hgr.output.trans ht.output, by have := hgr.size; omega, fun k hkl hkn => (hk k hkl).trans (ht.block k hkl hkn)⟩, h0.same hs hk⟩
theorem src8s (w : World) (p : Addr) (v : Value) (x : Int) (t : TypeId) : ∀ j u, [Value.int .u8 x][j]? = some u → ((w.setCell p v).alloc (.cells #[.int .u8 x] t)).cell? ((⟨w.heap.size, 0, none⟩ : Addr).add j) = some u := fun j u hu => by
  have := src8 (w.setCell p v) x t j u hu
  rw [World.size_setCell] at this
  exact this
theorem take_all (l : List Int) (k : Nat) (h : k < l.length) : (l.take (k + 1)).all isByte = ((l.take k).all isByte && isByte l[k]) := by
  rw [List.take_add_one, List.getElem?_eq_getElem h, List.all_append]
  simp only [Option.toList, List.all_cons, List.all_nil, Bool.and_true]
theorem take_map (l : List Int) (k : Nat) (h : k < l.length) : (l.take (k + 1)).map u8w = (l.take k).map u8w ++ [u8w l[k]] := by
  rw [List.take_add_one, List.getElem?_eq_getElem h, List.map_append]
  rfl

set_option maxHeartbeats 4000000 in
set_option maxRecDepth 100000 in
theorem specBin_any {E : Env} {left : Int} {w : World} (h : Sr E left false w) (p : Nat) (hp : p ≤ 9223372036854774000) :
    Calls Try.prog 62 #[.pointer (some ⟨E.rb, 0, none⟩), .int .i64 p] w fun e w' => ∃ s, e = .returned (.agg #[.int .i64 6, .int .i64 0, .string s, .slice none 0 0]) ∧ s.size ≤ maxLen ∧ Turn E.rb w w' ∧
      ((∃ n, cnt E.H p 40 = some n ∧ txt (wordsAt E.H (p + 1) n) = some s ∧ Sr E left false w') ∨ ((∀ n, cnt E.H p 40 = some n → txt (wordsAt E.H (p + 1) n) = none) ∧ Sr E left true w')) := by
  have HS : Hid (Sr E left false w) := h
  have HP : Hid (p ≤ 9223372036854775000) := by show _ ≤ _; omega
  have HP1 : Hid (p + 1 ≤ 9223372036854775000) := by show _ ≤ _; omega
  have hpb : (p : Int) ≤ 9223372036854774000 := by omega
  have HQ : Hid ((p : Int) + 1 = ((p + 1 : Nat) : Int)) := by show _ = _; omega
  have hrl := h.lt
  clear h
  obtain ⟨i0, hi, hz0, hz1, hz2⟩ := infoParts infoU8
  have HI : Hid (Try.prog.info? 5 = some i0 ∧ i0.zero = some (.int .u8 0) ∧ i0.size = 1 ∧ i0.bytes = 1) := ⟨hi, hz0, hz1, hz2⟩
  clear hi hz0 hz1 hz2
  go_enter Try.func62, Try.ntmps62
  go_wp2_with fail
  have hbx : ∀ c T, Below w.heap.size w (w.alloc (.cells c T)) := fun c T => (Below.refl _ _).alloc (Nat.le_refl _) _
  refine (count_any (HS.out.below (hbx _ _)) p 40 HP.out).mono ?_
  rintro e w1 ⟨c, bad1, rfl, ht1, hs1, hr1⟩
  have hz1 : w.heap.size + 1 ≤ w1.heap.size := by have := ht1.size; rw [World.size_alloc] at this; exact this
  obtain ⟨q1, f1⟩ := ht1.keep (W := w.heap.size) (by omega) (by rw [World.size_alloc]; exact Nat.lt_succ_self _) (fun o => World.cell?_alloc_new w _ _ o) (fun o => World.frozen?_alloc_new w _ _ o)
  have HT1 : Hid (Turn E.rb w w1) := (Turn.of_below (hbx _ _)).trans ht1
  have HS1 : Hid (Sr E left bad1 w1) := hs1
  have HR1 : Hid ((bad1 = false ∧ p + 1 ≤ E.H.N ∧ (c : Int) = E.H.f p ∧ (c : Int) ≤ 40) ∨ (bad1 = true ∧ c = 0 ∧ ¬ (p + 1 ≤ E.H.N ∧ 0 ≤ E.H.f p ∧ E.H.f p ≤ 40))) := hr1
  clear hs1 hr1 ht1 hbx
  go_wp2_with (first | (go_at_call 68; rw [HQ.out]; refine (words_any HS1.out (p + 1) c HP1.out (Nat.succ_ne_zero p)).mono ?_; rintro e w2 ⟨g, o', m, cap', bad2, rfl, ht2, hs2, hr2⟩; have hcw : Hid (CW E p 40 w2 g o' m bad2) := (cw_of hs2 HR1.out hr2); obtain ⟨q2, f2⟩ := ht2.keep (W := w.heap.size) (by omega) (by omega) q1 f1; have HT2 : Hid (Turn E.rb w w2) := HT1.out.trans ht2; have HS2 : Hid (Sr E left bad2 w2) := hs2; have hz2 := ht2.size; clear ht2 hs2 hr2 q1 f1))
  have hm40 : m ≤ 40 := by
    rcases hcw.out.2 with ⟨_, _, h⟩ | ⟨_, _, h⟩
    · omega
    · omega
  obtain ⟨l, hl⟩ : ∃ l, wordsAt E.H (p + 1) m = l := ⟨_, rfl⟩
  have hlm : l.length = m := by rw [← hl, wordsAt_len]
  have HLM : Hid (l.length = m) := hlm
  have HW : Hid (wordsAt E.H (p + 1) m = l) := hl
  have HCE : Hid (∀ j (hj : j < l.length), w2.cell? ⟨g, o' + j, none⟩ = some (.int .i64 l[j]) ∧ g ≠ E.rb) := fun j hj => by
    have hj' : j < m := by rw [← HLM.out]; exact hj
    have e : l[j] = E.H.f (p + 1 + j) := by
      have := wordsAt_get E.H (p + 1) m j (by rw [wordsAt_len]; exact hj')
      simp only [HW.out] at this
      exact this
    rw [e]
    exact hcw.out.1 j hj'
  clear hl
  subst hlm
  go_loopw [7, 8] (fun v i wr => ∃ k : Nat, k ≤ l.length ∧ i = .int .i64 k ∧ Own8 wr w2.heap.size v ((l.take k).map u8w) ∧ Turn E.rb w2 wr ∧ Sr E left (bad2 || !(l.take k).all isByte) wr) (fun _ i _ => l.length - (intOf i).toNat)
  case atStart => exact ⟨0, Nat.zero_le _, rfl, own8_start w2, (Turn.refl _ _).alloc _, by simpa using HS2.out.below ((Below.refl _ _).alloc (Nat.le_refl _) _)⟩
  case round =>
    obtain ⟨k, hk, rfl, ho, ht, hs⟩ := hrel
    obtain ⟨g2, cc, rfl, hown⟩ := ho
    have hkl : ((l.take k).map u8w).length = k := by simp; omega
    rw [hkl] at hown ⊢
    have q3 := hs.c3
    have qf := hs.fr
    have hzr := ht.size
    have hr2 := HS2.out.lt
    have C3 : Hid (k + 1 ≤ maxLen) := by show _ ≤ _; unfold maxLen; omega
    have C4 : Hid ((k + 1) * 1 ≤ 140737488355328) := by show _ ≤ _; omega
    by_cases hlt : k < l.length
    · obtain ⟨hcl, hgn⟩ := HCE.out k hlt
      have q : wr.cell? ⟨g, o' + k, none⟩ = some (.int .i64 l[k]) := ht.cell hgn hcl
      have HTM : Hid ((l.take (k + 1)).map u8w = (l.take k).map u8w ++ [u8w l[k]]) := take_map l k hlt
      have HTA0 : Hid ((l.take (k + 1)).all isByte = ((l.take k).all isByte && isByte l[k])) := take_all l k hlt
      clear hcl hgn hkl
      generalize l[k] = x at *
      cases hx : isByte x with
      | true =>
        have HXB : Hid (inB x 0 255 = true) := hx
        have HTA : Hid ((bad2 || !(l.take (k + 1)).all isByte) = (bad2 || !(l.take k).all isByte)) := by show _ = _; rw [HTA0.out, hx, Bool.and_true]
        have HO : Hid (wr.ownsRow w2.heap.size 5 1 (.slice (some ⟨g2, 0, none⟩) k cc) k (((l.take k).map u8w).map (Value.int .u8))) := hown
        have HTR : Hid (Turn E.rb w2 wr) := ht
        have HSR : Hid (Sr E left (bad2 || !(l.take k).all isByte) wr) := hs
        have C5 : Hid (w2.heap.size ≤ (wr.alloc (.cells #[.int .u8 (IntKind.u8.wrap x)] 5)).heap.size) := by show _ ≤ _; rw [World.size_alloc]; omega
        clear hx hown ht hs
        go_wp2_with (first | (go_at_call 59; refine (in_any _ _ _ _).mono ?_; rintro e w' ⟨rfl, hw'⟩; obtain rfl := hw'.symm; rw [HXB.out]) | (at_builtin; refine wpList_append_own_at _ rfl _ _ 68 rfl w2.heap.size 5 i0 (.int .u8 0) 1 1 undU8s HI.out.1 HI.out.2.1 HI.out.2.2.1 HI.out.2.2.2 rfl Nat.zero_lt_one _ k _ rfl (HO.out.alloc _) ⟨_, 0, none⟩ 1 1 [.int .u8 (IntKind.u8.wrap x)] rfl rfl (src8 _ _ _) (one8 _) C3.out C4.out C5.out ?_; intro v5 w5 hown5 hgr5 hnn5 hat5))
        have hown6 := own8_of (xs := (l.take (k + 1)).map u8w) (n := k + 1) (by rw [HTM.out, List.map_append]; exact hown5) (fun e => by have := (hnn5.1 e).1; cases this)
        obtain ⟨ht6, hs6⟩ := grow_keep HS2.out HTR.out HSR.out hgr5 (fun j hj => (HO.out.lt j hj).1)
        have HO6 : Hid (Own8 w5 w2.heap.size v5 ((l.take (k + 1)).map u8w)) := hown6
        have HT6 : Hid (Turn E.rb w2 w5) := ht6
        have HS6 : Hid (Sr E left (bad2 || !(l.take (k + 1)).all isByte) w5) := by show Sr ..; rw [HTA.out]; exact hs6
        clear hown5 hgr5 hnn5 hat5 hown6 ht6 hs6
        go_roundw
        case rel => exact ⟨k + 1, by omega, by go_num, HO6.out, HT6.out, HS6.out⟩
        case measure => simp [intOf]; omega
      | false =>
        have HXB : Hid (inB x 0 255 = false) := hx
        have HTA : Hid ((bad2 || !(l.take (k + 1)).all isByte) = true) := by show _ = _; rw [HTA0.out, hx, Bool.and_false]; simp
        have HTM : Hid ((l.take (k + 1)).map u8w = (l.take k).map u8w ++ [x % 256]) := by show _ = _; rw [HTM.out]; unfold u8w; rw [IntKind.wrap_u8]
        have HO : Hid ((wr.setCell ⟨E.rb, 3, none⟩ (.bool true)).ownsRow w2.heap.size 5 1 (.slice (some ⟨g2, 0, none⟩) k cc) k (((l.take k).map u8w).map (Value.int .u8))) := ownsRow_setCell_below hown (by show E.rb < _; omega) _
        have HTR : Hid (Turn E.rb w2 (wr.setCell ⟨E.rb, 3, none⟩ (.bool true))) := ht.set 3 _
        have HSR : Hid (Sr E left true (wr.setCell ⟨E.rb, 3, none⟩ (.bool true))) := hs.setB true
        have C5 : Hid (w2.heap.size ≤ ((wr.setCell ⟨E.rb, 3, none⟩ (.bool true)).alloc (.cells #[.int .u8 (x % 256)] 5)).heap.size) := by show _ ≤ _; rw [World.size_alloc, World.size_setCell]; omega
        have q' : (wr.setCell ⟨E.rb, 3, none⟩ (.bool true)).cell? ⟨g, o' + k, none⟩ = some (.int .i64 x) := by
          rw [World.cell?_setCell_other (h := fun e => by simp only [Addr.mk.injEq] at e; exact (HCE.out k hlt).2 e.1.symm)]; exact q
        clear hx hown ht hs
        go_wp2_with (first | (go_at_call 59; refine (in_any _ _ _ _).mono ?_; rintro e w' ⟨rfl, hw'⟩; obtain rfl := hw'.symm; rw [HXB.out]) | (at_builtin; refine wpList_append_own_at _ rfl _ _ 68 rfl w2.heap.size 5 i0 (.int .u8 0) 1 1 undU8s HI.out.1 HI.out.2.1 HI.out.2.2.1 HI.out.2.2.2 rfl Nat.zero_lt_one _ k _ rfl (HO.out.alloc _) ⟨wr.heap.size, 0, none⟩ 1 1 [.int .u8 (x % 256)] rfl rfl (src8s _ _ _ _ _) (one8 _) C3.out C4.out C5.out ?_; intro v5 w5 hown5 hgr5 hnn5 hat5))
        have hown6 := own8_of (xs := (l.take (k + 1)).map u8w) (n := k + 1) (by rw [HTM.out, List.map_append]; exact hown5) (fun e => by have := (hnn5.1 e).1; cases this)
        obtain ⟨ht6, hs6⟩ := grow_keep HS2.out HTR.out HSR.out hgr5 (fun j hj => (HO.out.lt j hj).1)
        have HO6 : Hid (Own8 w5 w2.heap.size v5 ((l.take (k + 1)).map u8w)) := hown6
        have HT6 : Hid (Turn E.rb w2 w5) := ht6
        have HS6 : Hid (Sr E left (bad2 || !(l.take (k + 1)).all isByte) w5) := by show Sr ..; rw [HTA.out]; exact hs6
        clear hown5 hgr5 hnn5 hat5 hown6 ht6 hs6
        go_roundw
        case rel => exact ⟨k + 1, by omega, by go_num, HO6.out, HT6.out, HS6.out⟩
        case measure => simp [intOf]; omega
    · have hkl2 : k = l.length := by omega
      have htk : l.take k = l := by rw [hkl2]; simp
      rw [htk] at hown hs
      have HOW : Hid (wr.ownsRow w2.heap.size 5 1 (.slice (some ⟨g2, 0, none⟩) (l.map u8w).length cc) (l.map u8w).length ((l.map u8w).map (Value.int .u8))) := by
        show World.ownsRow ..
        rw [List.length_map, ← hkl2]; exact hown
      have hcv := conv8 HOW.out (fun y hy => by obtain ⟨z, _, rfl⟩ := List.mem_map.1 hy; exact u8w_byte z)
      rw [List.length_map, ← hkl2] at hcv
      obtain ⟨q4, f4⟩ := ht.keep (W := w.heap.size) (by omega) (by omega) q2 f2
      have HTR : Hid (Turn E.rb w wr) := HT2.out.trans ht
      have HSR : Hid (Sr E left (bad2 || !l.all isByte) wr) := hs
      have HSZ : Hid ((txtB (l.map u8w)).size ≤ maxLen) := by
        show _ ≤ _
        have e : (txtB (l.map u8w)).size = l.length := by simp [txtB, ByteArray.size]
        rw [e]; unfold maxLen; omega
      clear hown hs htk hkl2 hkl ht
      go_wp2_with fail
      have hkk : ∀ (a b c d : Value) k, k < w.heap.size → (lay4 wr w.heap.size a b c d).heap[k]? = wr.heap[k]? := fun a b c d k hk => lay4_heap (by omega)
      have hfin : ∀ a b c d, Turn E.rb w (lay4 wr w.heap.size a b c d) ∧ Sr E left (bad2 || !l.all isByte) (lay4 wr w.heap.size a b c d) := fun a b c d =>
        ⟨⟨HTR.out.os, HTR.out.tape, HTR.out.output, by rw [lay4_size]; exact HTR.out.size, fun k hkl hkn => (hkk a b c d k hkl).trans (HTR.out.block k hkl hkn)⟩, HS.out.same HSR.out (hkk a b c d)⟩
      obtain ⟨a1, a2⟩ := hfin (.int .i64 6) (.int .i64 0) (.string (txtB (l.map u8w))) (.slice none 0 0)
      refine bodyPost_ret (v := .agg #[.int .i64 6, .int .i64 0, .string (txtB (l.map u8w)), .slice none 0 0]) (by simp [results, Try.results62, go_sem, q4]) rfl ⟨_, rfl, HSZ.out, a1, ?_⟩
      rcases hcw.out.2 with ⟨hb, hc, _⟩ | ⟨hb, hc, _⟩
      · cases ha : l.all isByte with
        | true =>
          refine .inl ⟨_, hc, ?_, by rw [hb, ha] at a2; exact a2⟩
          rw [HW.out, txt, if_pos ha, u8w_all ha]
        | false =>
          refine .inr ⟨fun n hn => ?_, by rw [hb, ha] at a2; exact a2⟩
          rw [hc] at hn
          injection hn with hn
          rw [← hn, HW.out, txt, if_neg (by rw [ha]; simp)]
      · refine .inr ⟨fun n hn => (by rw [hc] at hn; cases hn), by rw [hb] at a2; exact a2⟩
end Go.Proofs.Ytjjmikfbongccaa

namespace Go.Proofs.Ytjjmikfbongccaa
open Go.RowKit
set_option linter.unusedVariables false

/-- A list that is gathered in the variable tb, while the terms in it are read. -/
structure GS (E : Env) (w wr : World) (tb : Nat) (K : Int) (l : List Tm) (u : Value) (xs : List Value) : Prop where
  turn : Turn E.rb w wr
  old : E.rb < w.heap.size
  up : w.heap.size < tb
  lt : tb < wr.heap.size
  t0 : wr.cell? ⟨tb, 0, none⟩ = some (.int .i64 K)
  t1 : wr.cell? ⟨tb, 1, none⟩ = some (.int .i64 0)
  t2 : wr.cell? ⟨tb, 2, none⟩ = some (.string ⟨#[]⟩)
  t3 : wr.cell? ⟨tb, 3, none⟩ = some u
  tf : ∀ o, wr.frozen? ⟨tb, o, none⟩ = false
  r : ∀ j, j < 4 → ∃ v, wr.cell? ⟨w.heap.size, j, none⟩ = some v
  rf : ∀ o, wr.frozen? ⟨w.heap.size, o, none⟩ = false
  own : wr.ownsRow (tb + 1) 64 4 u l.length xs
  row : Row (fun b => tb + 1 ≤ b ∧ u.ownBlock ≠ some b) wr l xs
theorem GS.call {E : Env} {w wr w1 : World} {tb : Nat} {K : Int} {l : List Tm} {u : Value} {xs : List Value} (h : GS E w wr tb K l u xs) (t : Turn E.rb wr w1) : GS E w w1 tb K l u xs := by
  have hne : tb ≠ E.rb := by have := h.old; have := h.up; omega
  have hnr : w.heap.size ≠ E.rb := by have := h.old; omega
  refine ⟨h.turn.trans t, h.old, h.up, Nat.lt_of_lt_of_le h.lt t.size, t.cell hne h.t0, t.cell hne h.t1, t.cell hne h.t2, t.cell hne h.t3, fun o => ?_, fun j hj => ?_, fun o => ?_, ?_, ?_⟩
  · rw [t.frozen hne h.lt]; exact h.tf o
  · obtain ⟨v, hv⟩ := h.r j hj
    exact ⟨v, t.cell hnr hv⟩
  · rw [t.frozen hnr (Nat.lt_trans h.up h.lt)]; exact h.rf o
  · refine h.own.kept t.grown (Or.inr (fun e => ?_))
    have := (h.own.lt _ e).1
    have := h.old; have := h.up; omega
  · exact ⟨h.row.1, fun i hi => (h.row.2 i hi).move (Moves.turn (fun b hb e => by have := h.old; have := h.up; have := hb.1; omega) t)⟩
/-- One more is read, laid down in a block, appended, and the variable turned. -/
theorem GS.more {E : Env} {w wr w1 w2 : World} {tb : Nat} {K : Int} {l : List Tm} {u : Value} {xs : List Value}
    (h : GS E w wr tb K l u xs) (hd : Turn E.rb wr w1) {t : Tm} {a b c d : Value} (hv : RpV (fun b => wr.heap.size ≤ b) w1 t (.agg #[a, b, c, d])) {o : Obj}
    {g cap' : Nat} (hown : w2.ownsRow (tb + 1) 64 4 (.slice (some ⟨g, 0, none⟩) (l.length + 1) cap') (l.length + 1) (xs ++ [a, b, c, d])) (hgrow : (w1.alloc o).grownBy w2 u.ownBlock) (hat : u.ownBlock = some g ∨ g = w1.heap.size + 1) (hlt : g < w2.heap.size) :
    GS E w (w2.setCell ⟨tb, 3, none⟩ (.slice (some ⟨g, 0, none⟩) (l.length + 1) cap')) tb K (l ++ [t]) (.slice (some ⟨g, 0, none⟩) (l.length + 1) cap') (xs ++ [a, b, c, d]) ∧ (∀ k, k < tb → (w2.setCell ⟨tb, 3, none⟩ (.slice (some ⟨g, 0, none⟩) (l.length + 1) cap')).heap[k]? = w1.heap[k]?) := by
  have h1 := h.call hd
  have hs1 : (w1.alloc o).heap.size = w1.heap.size + 1 := World.size_alloc _ _
  have hun : ∀ k, k < tb + 1 → some k ≠ u.ownBlock := fun k hk e => by have := (h.own.lt k e.symm).1; omega
  have hcell : ∀ p o' v, some p ≠ u.ownBlock → w1.cell? ⟨p, o', none⟩ = some v → w2.cell? ⟨p, o', none⟩ = some v := fun p o' v hp hc => by
    have hpl := World.block_lt_of_cell? w1 _ hc
    rw [hgrow.cell_far ⟨p, o', none⟩ (by rw [hs1]; exact Nat.lt_succ_of_lt hpl) hp, World.cell?_alloc_lt (h := hpl)]; exact hc
  have hfroz : ∀ p o', p < w1.heap.size → some p ≠ u.ownBlock → w2.frozen? ⟨p, o', none⟩ = w1.frozen? ⟨p, o', none⟩ := fun p o' hpl hp => by
    rw [hgrow.frozen_far ⟨p, o', none⟩ (by rw [hs1]; exact Nat.lt_succ_of_lt hpl) hp, World.frozen?_alloc_old (h := by show p ≠ _; omega)]
  have hset : ∀ p o' v, (p ≠ tb ∨ o' ≠ 3) → w2.cell? ⟨p, o', none⟩ = some v → (w2.setCell ⟨tb, 3, none⟩ (.slice (some ⟨g, 0, none⟩) (l.length + 1) cap')).cell? ⟨p, o', none⟩ = some v := fun p o' v hp hc => by
    rw [World.cell?_setCell_other (h := fun e => by simp at e; omega)]; exact hc
  have hgb : tb + 1 ≤ g := (hown.lt g rfl).1
  have hll : (l ++ [t]).length = l.length + 1 := by simp
  have hul : tb < w1.heap.size := h1.lt
  have hwl : w.heap.size < w1.heap.size := Nat.lt_trans h.up hul
  have hk : ∀ k, k < tb → (w2.setCell ⟨tb, 3, none⟩ (.slice (some ⟨g, 0, none⟩) (l.length + 1) cap')).heap[k]? = w1.heap[k]? := fun k hkt => by
    rw [Below.heap_setCell w2 ⟨tb, 3, none⟩ _ k (by show k ≠ tb; omega), hgrow.block k (by rw [hs1]; omega) (hun k (by omega))]
    show (w1.heap.push _)[k]? = _
    rw [Array.getElem?_push, if_neg (by omega)]
  have hsz : (w2.setCell ⟨tb, 3, none⟩ (.slice (some ⟨g, 0, none⟩) (l.length + 1) cap')).heap.size = w2.heap.size := World.size_setCell ..
  have hsz2 : w1.heap.size + 1 ≤ w2.heap.size := by rw [← hs1]; exact hgrow.size
  have htb : some tb ≠ u.ownBlock := hun tb (by omega)
  have hrb : some w.heap.size ≠ u.ownBlock := hun _ (by have := h.up; omega)
  have hup := h.up
  have hold := h.old
  have hmv : Moves (fun b => tb + 1 ≤ b ∧ u.ownBlock ≠ some b) (fun b => tb + 1 ≤ b ∧ (Value.slice (some ⟨g, 0, none⟩) (l.length + 1) cap').ownBlock ≠ some b) w1 (w2.setCell ⟨tb, 3, none⟩ (.slice (some ⟨g, 0, none⟩) (l.length + 1) cap')) := fun p o' v hp hc => by
    have hpl := World.block_lt_of_cell? w1 _ hc
    refine ⟨⟨hp.1, fun e => ?_⟩, hset p o' v (Or.inl (by have := hp.1; omega)) (hcell p o' v (fun e => hp.2 e.symm) hc)⟩
    simp only [Value.ownBlock, Option.some.injEq] at e
    subst e
    rcases hat with hat | hat
    · exact hp.2 hat
    · have : g < w1.heap.size := hpl
      omega
  have hmn : Moves (fun b => wr.heap.size ≤ b) (fun b => tb + 1 ≤ b ∧ (Value.slice (some ⟨g, 0, none⟩) (l.length + 1) cap').ownBlock ≠ some b) w1 (w2.setCell ⟨tb, 3, none⟩ (.slice (some ⟨g, 0, none⟩) (l.length + 1) cap')) := fun p o' v hp hc => by
    have hpl : p < w1.heap.size := World.block_lt_of_cell? w1 _ hc
    have hpo : some p ≠ u.ownBlock := fun e => by have := (h.own.lt p e.symm).2; omega
    refine ⟨⟨by have := h.lt; omega, fun e => ?_⟩, hset p o' v (Or.inl (by have := h.lt; omega)) (hcell p o' v hpo hc)⟩
    simp only [Value.ownBlock, Option.some.injEq] at e
    subst e
    rcases hat with hat | hat
    · exact hpo hat.symm
    · omega
  refine ⟨⟨?_, hold, hup, by rw [hsz]; omega, hset _ _ _ (Or.inr (by omega)) (hcell _ _ _ htb h1.t0), hset _ _ _ (Or.inr (by omega)) (hcell _ _ _ htb h1.t1), hset _ _ _ (Or.inr (by omega)) (hcell _ _ _ htb h1.t2), World.cell?_setCell_same w2 _ _ (hcell _ _ _ htb h1.t3), fun o' => ?_, fun j hj => ?_, fun o' => ?_, ?_, Row.snoc hmv h1.row (hmn.repV hv)⟩, hk⟩
  · have t := h1.turn
    exact ⟨hgrow.os.trans t.os, hgrow.tape.trans t.tape, hgrow.output.trans t.output, by rw [hsz]; omega, fun k hkl hkn => (hk k (by omega)).trans (t.block k hkl hkn)⟩
  · rw [World.frozen?_setCell, hfroz tb o' hul htb]; exact h1.tf o'
  · obtain ⟨v, hv'⟩ := h1.r j hj
    exact ⟨v, hset _ _ _ (Or.inl (by omega)) (hcell _ _ _ hrb hv')⟩
  · rw [World.frozen?_setCell, hfroz _ o' hwl hrb]; exact h1.rf o'
  · rw [hll]; exact ownsRow_setCell_below hown (by show tb < tb + 1; omega) _
theorem GS.grown {E : Env} {w w1 w2 : World} {tb : Nat} {K : Int} {l : List Tm} {u : Value} {xs : List Value} (h : GS E w w1 tb K l u xs) {o : Obj} (hgrow : (w1.alloc o).grownBy w2 u.ownBlock) : w2.cell? ⟨tb, 3, none⟩ = some u ∧ w2.frozen? ⟨tb, 3, none⟩ = false := by
  have hs1 : (w1.alloc o).heap.size = w1.heap.size + 1 := World.size_alloc _ _
  have hl := h.lt
  have hne : some tb ≠ u.ownBlock := fun e => by have := (h.own.lt tb e.symm).1; omega
  rw [hgrow.cell_far ⟨tb, 3, none⟩ (by rw [hs1]; exact Nat.lt_succ_of_lt hl) hne, hgrow.frozen_far ⟨tb, 3, none⟩ (by rw [hs1]; exact Nat.lt_succ_of_lt hl) hne, World.cell?_alloc_lt (h := hl), World.frozen?_alloc_old (h := by show tb ≠ _; omega)]
  exact ⟨h.t3, h.tf 3⟩
theorem GS.form {E : Env} {w wr : World} {tb : Nat} {K : Int} {l : List Tm} {u : Value} {xs : List Value} (h : GS E w wr tb K l u xs) : ∃ ua uc, u = .slice ua l.length uc := by
  rcases h.own.2 with ⟨rfl, h0⟩ | ⟨g, cap, cur, rfl, _⟩
  · exact ⟨none, 0, by rw [h0]⟩
  · exact ⟨_, _, rfl⟩
/-- The variable is new behind w3, the box of what is answered is new behind w. -/
theorem GS.start {E : Env} {w w3 : World} {c : Array Value} (ht : Turn E.rb w w3) (ho : E.rb < w.heap.size) (hz3 : w.heap.size + 1 ≤ w3.heap.size) (hc : c.size = 4)
    (q3 : ∀ o, w3.cell? ⟨w.heap.size, o, none⟩ = c[o]?) (f3 : ∀ o, w3.frozen? ⟨w.heap.size, o, none⟩ = false) (K : Int) :
    GS E w (w3.alloc (.cells #[.int .i64 K, .int .i64 0, .string ⟨#[]⟩, .slice none 0 0] 64)) w3.heap.size K [] (.slice none 0 0) [] := by
  refine ⟨ht.alloc _, ho, hz3, by rw [World.size_alloc]; omega, by rw [World.cell?_alloc_new]; rfl, by rw [World.cell?_alloc_new]; rfl, by rw [World.cell?_alloc_new]; rfl, by rw [World.cell?_alloc_new]; rfl, fun o => World.frozen?_alloc_new w3 _ _ o, fun j hj => ?_, fun o => ?_, ⟨rfl, Or.inl ⟨rfl, rfl⟩⟩, Row.nil _ _⟩
  · rw [World.cell?_alloc_lt (h := by show w.heap.size < _; omega), q3]
    exact ⟨c[j], by rw [Array.getElem?_eq_getElem (by omega)]⟩
  · rw [World.frozen?_alloc_old (h := by show w.heap.size ≠ _; omega)]; exact f3 o
/-- What is gathered is a term. -/
theorem GS.done {E : Env} {w wr : World} {tb : Nat} {K : Int} {l : List Tm} {u : Value} {xs : List Value} (h : GS E w wr tb K l u xs) (a b c d : Value) :
    RpV (fun b => w.heap.size ≤ b) (lay4 wr w.heap.size a b c d) (.mk K 0 ByteArray.empty l) (.agg #[.int .i64 K, .int .i64 0, .string ⟨#[]⟩, u]) ∧ Turn E.rb w (lay4 wr w.heap.size a b c d) ∧ (∀ k, k < w.heap.size → (lay4 wr w.heap.size a b c d).heap[k]? = wr.heap[k]?) := by
  obtain ⟨ao', cap', rfl, hl, hc, hr⟩ := h.row.repL (S' := fun b => tb + 1 ≤ b) (fun b hb => hb.1) h.own (fun g hg => (h.own.lt g hg).1)
  have hup := h.up
  have hk : ∀ k, k < w.heap.size → (lay4 wr w.heap.size a b c d).heap[k]? = wr.heap[k]? := fun k hk => lay4_heap (by omega)
  refine ⟨⟨ao', cap', rfl, Nat.zero_le _, hl, hc, Moves.repL (S := fun b => tb + 1 ≤ b) (fun b' o' v' hb' hv' => ?_) _ _ hr⟩, ⟨h.turn.os, h.turn.tape, h.turn.output, by rw [lay4_size]; exact h.turn.size, fun k hkl hkn => (hk k hkl).trans (h.turn.block k hkl hkn)⟩, hk⟩
  have : tb + 1 ≤ b' := hb'
  exact ⟨by omega, by rw [lay4_cell (by omega)]; exact hv'⟩

/-- What l5Read answers. -/
def ReadC (E : Env) (d : Nat) : Prop := ∀ (w : World) (left : Nat) (x : Int), Sr E left false w → left ≤ 100 → x ≤ 9223372036854775807 →
  Calls Try.prog 50 #[.pointer (some ⟨E.rb, 0, none⟩), .int .i64 x, .int .i64 d] w fun e w' => ∃ t v, e = .returned v ∧ RpV (fun b => w.heap.size ≤ b) w' t v ∧ Turn E.rb w w' ∧
    ((∃ y : Nat, rT false E.H d x left = some (t, y) ∧ Sr E y false w') ∨ (rT false E.H d x left = none ∧ ∃ z : Int, Sr E z true w'))
theorem Sr.drew {E : Env} {left : Int} {bad : Bool} {w : World} (h : Sr E left bad w) : Sr E left bad w.drew := h.same h (fun k _ => rfl)
theorem Turn.undrew {cb : Nat} {w w' : World} (h : Turn cb w.drew w') : Turn cb w w' := ⟨h.os, h.tape, h.output, h.size, h.block⟩
/-- How the reading of a list goes on. -/
def Goes (E : Env) (G : Option (List Tm × Nat)) (nx : Nat → Option (List Tm × Nat)) (l : List Tm) (wr : World) : Prop :=
  (∃ y : Nat, y ≤ 100 ∧ Sr E y false wr ∧ G = pre l (nx y)) ∨ (G = none ∧ ∃ z : Int, Sr E z true wr)
end Go.Proofs.Ytjjmikfbongccaa
