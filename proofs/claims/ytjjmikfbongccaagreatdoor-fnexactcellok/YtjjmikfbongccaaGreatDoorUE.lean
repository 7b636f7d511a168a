/-
  The specification's ReadTerm.
  Both kinds of HeapOk.
  (Ahead of it, in this text: How the specification reads words: the reader, the words at a place, how many there are.
  How the specification reads words: how many there are; bytes.
  How the specification reads words: terms that are gathered in a variable; a tuple. How the specification reads words: a tuple. How the specification reads words: a list, cell by cell. How the specification reads words: one term whole.)
-/
import Derived.Test.YtjjmikfbongccaaGreatDoorUT
import Derived.Deep.RegionLaw
import Derived.Test.YtjjmikfbongccaaGreatDoorTmI
namespace Go.Proofs.YtjjmikfbongccaaGreatDoor
open Go.RowKit
set_option linter.unusedVariables false

structure Sr (E : Env) (left : Int) (bad : Bool) (w : World) : Prop where
  c0 : w.cell? ⟨E.rb, 0, none⟩ = some (.slice E.wv E.H.N E.cap)
  c1 : w.cell? ⟨E.rb, 1, none⟩ = some (.slice E.av E.H.A.length E.acap)
  c2 : w.cell? ⟨E.rb, 2, none⟩ = some (.int .i64 left)
  c3 : w.cell? ⟨E.rb, 3, none⟩ = some (.bool bad)
  fr : ∀ o, w.frozen? ⟨E.rb, o, none⟩ = false
  src : Src E w
  wn : E.H.N ≠ 0 → E.b ≠ E.rb
  an : E.H.A.length ≠ 0 → E.ab ≠ E.rb
theorem Sr.lt {E : Env} {left : Int} {bad : Bool} {w : World} (h : Sr E left bad w) : E.rb < w.heap.size := World.block_lt_of_cell? w _ h.c0
theorem Src.same {E : Env} {w w1 w2 : World} (h0 : Src E w) (h : Src E w1) (hk : ∀ k, k < w.heap.size → w2.heap[k]? = w1.heap[k]?) : Src E w2 := by
  have e : ∀ b o, b < w.heap.size → w2.cell? ⟨b, o, none⟩ = w1.cell? ⟨b, o, none⟩ := fun b o hb => World.cell?_of_block (w := w1) (hk b hb)
  exact ⟨h.ok, h.wl, h.al, fun j hj => by rw [e _ _ (World.block_lt_of_cell? w _ (h0.ws j hj))]; exact h.ws j hj, fun j hj => by rw [e _ _ (World.block_lt_of_cell? w _ (h0.ats j hj))]; exact h.ats j hj, h.cp, h.big, h.txt⟩
theorem Sr.same {E : Env} {l0 left : Int} {b0 bad : Bool} {w w1 w2 : World} (h0 : Sr E l0 b0 w) (h : Sr E left bad w1) (hk : ∀ k, k < w.heap.size → w2.heap[k]? = w1.heap[k]?) : Sr E left bad w2 := by
  have e : ∀ b o, b < w.heap.size → w2.cell? ⟨b, o, none⟩ = w1.cell? ⟨b, o, none⟩ := fun b o hb => World.cell?_of_block (w := w1) (hk b hb)
  have hr := h0.lt
  exact ⟨by rw [e _ _ hr]; exact h.c0, by rw [e _ _ hr]; exact h.c1, by rw [e _ _ hr]; exact h.c2, by rw [e _ _ hr]; exact h.c3, fun o => by rw [World.frozen?_of_block (w := w1) (hk E.rb hr)]; exact h.fr o, h0.src.same h.src hk, h.wn, h.an⟩
theorem Sr.below {E : Env} {left : Int} {bad : Bool} {w w' : World} (h : Sr E left bad w) (hb : Below w.heap.size w w') : Sr E left bad w' := h.same h (fun k hk => hb.block k hk)
theorem Src.set {E : Env} {w : World} (h : Src E w) (wn : E.H.N ≠ 0 → E.b ≠ E.rb) (an : E.H.A.length ≠ 0 → E.ab ≠ E.rb) (o : Nat) (v : Value) : Src E (w.setCell ⟨E.rb, o, none⟩ v) := by
  have e : ∀ b o', b ≠ E.rb → (w.setCell ⟨E.rb, o, none⟩ v).cell? ⟨b, o', none⟩ = w.cell? ⟨b, o', none⟩ := fun b o' hn => by
    rw [World.cell?_setCell_other (h := fun e => by simp only [Addr.mk.injEq] at e; exact hn e.1.symm)]
  exact ⟨h.ok, h.wl, h.al, fun j hj => by rw [e _ _ (wn (by omega))]; exact h.ws j hj, fun j hj => by rw [e _ _ (an (by omega))]; exact h.ats j hj, h.cp, h.big, h.txt⟩
theorem Sr.setL {E : Env} {left : Int} {bad : Bool} {w : World} (h : Sr E left bad w) (x : Int) : Sr E x bad (w.setCell ⟨E.rb, 2, none⟩ (.int .i64 x)) := by
  have e : ∀ o, o ≠ 2 → (w.setCell ⟨E.rb, 2, none⟩ (.int .i64 x)).cell? ⟨E.rb, o, none⟩ = w.cell? ⟨E.rb, o, none⟩ := fun o hn => by
    rw [World.cell?_setCell_other (h := fun e => by simp only [Addr.mk.injEq] at e; omega)]
  exact ⟨by rw [e _ (by omega)]; exact h.c0, by rw [e _ (by omega)]; exact h.c1, World.cell?_setCell_same w _ _ h.c2, by rw [e _ (by omega)]; exact h.c3, fun o => by rw [World.frozen?_setCell]; exact h.fr o, h.src.set h.wn h.an 2 _, h.wn, h.an⟩
theorem Sr.setB {E : Env} {left : Int} {bad : Bool} {w : World} (h : Sr E left bad w) (x : Bool) : Sr E left x (w.setCell ⟨E.rb, 3, none⟩ (.bool x)) := by
  have e : ∀ o, o ≠ 3 → (w.setCell ⟨E.rb, 3, none⟩ (.bool x)).cell? ⟨E.rb, o, none⟩ = w.cell? ⟨E.rb, o, none⟩ := fun o hn => by
    rw [World.cell?_setCell_other (h := fun e => by simp only [Addr.mk.injEq] at e; omega)]
  exact ⟨by rw [e _ (by omega)]; exact h.c0, by rw [e _ (by omega)]; exact h.c1, by rw [e _ (by omega)]; exact h.c2, World.cell?_setCell_same w _ _ h.c3, fun o => by rw [World.frozen?_setCell]; exact h.fr o, h.src.set h.wn h.an 3 _, h.wn, h.an⟩

theorem words_yes {E : Env} {left : Int} {w : World} (h : Sr E left false w) (p n : Nat) (hpn : p + n ≤ E.H.N) (h1 : E.H.N ≠ 0) :
    Calls Tryz.prog 94 #[.pointer (some ⟨E.rb, 0, none⟩), .int .i64 p, .int .i64 n] w fun e w' => (∃ o', e = .returned (.slice (some ⟨E.b, o', none⟩) n (E.cap - p)) ∧ (n ≠ 0 → o' = E.o + p)) ∧ w' = w := by
  have hN := h.src.ok.n
  have hc := h.src.cp
  have q0 := h.c0
  have q3 := h.c3
  rw [h.src.wl h1] at q0
  obtain ⟨H, rb, wv, b, o, cap, av, ab, ao, acap⟩ := E
  clear h
  simp only at *
  generalize H.N = N at *
  have hi1 : inB (p : Int) 0 (N : Int) = true := by unfold inB; simp; omega
  have hi2 : inB (n : Int) 0 ((N : Int) - p) = true := by unfold inB; simp; omega
  have HI1 : Hid (inB (p : Int) 0 (N : Int) = true) := hi1
  have HI2 : Hid (inB (n : Int) 0 ((N : Int) - p) = true) := hi2
  clear hi1 hi2
  by_cases hcp : p = cap
  · have hn0 : n = 0 := by omega
    subst hn0
    subst hcp
    have HI3 : Hid (inB 0 0 ((N : Int) - p) = true) := HI2.out
    go_enter Tryz.func94, Tryz.ntmps94
    go_wp2_with (first | (go_at_call 21; refine (in_any _ _ _ _).mono ?_; rintro e w' ⟨rfl, rfl⟩; first | rw [HI1.out] | rw [HI3.out] | rw [HI2.out]))
    go_ret
    exact ⟨⟨_, ret_sl rfl (by omega), fun h => absurd rfl h⟩, rfl⟩
  · go_enter Tryz.func94, Tryz.ntmps94
    go_wp2_with (first | (go_at_call 21; refine (in_any _ _ _ _).mono ?_; rintro e w' ⟨rfl, rfl⟩; first | rw [HI1.out] | rw [HI2.out]))
    go_ret
    exact ⟨⟨_, ret_sl (by omega) rfl, fun _ => rfl⟩, rfl⟩
set_option maxHeartbeats 1000000 in
theorem words_no {E : Env} {left : Int} {bad : Bool} {w : World} (h : Sr E left bad w) (p n : Nat) (hp : p ≤ 9223372036854775000) (hpn : bad = true ∨ ¬ p + n ≤ E.H.N) :
    Calls Tryz.prog 94 #[.pointer (some ⟨E.rb, 0, none⟩), .int .i64 p, .int .i64 n] w fun e w' => (∃ g, e = .returned (.slice (some ⟨g, 0, none⟩) 0 0)) ∧ Turn E.rb w w' ∧ Sr E left true w' := by
  have HS : Hid (Sr E left true ((w.setCell ⟨E.rb, 3, none⟩ (.bool true)).alloc (.cells #[] 3))) := (h.setB true).below ((Below.refl _ _).alloc (Nat.le_refl _) _)
  have HT : Hid (Turn E.rb w ((w.setCell ⟨E.rb, 3, none⟩ (.bool true)).alloc (.cells #[] 3))) := ((Turn.refl _ _).set 3 _).alloc _
  have hN := h.src.ok.n
  have q0 := h.c0
  have q3 := h.c3
  have qf := h.fr
  clear h
  generalize E.H.N = N at *
  cases bad with
  | true =>
    go_enter Tryz.func94, Tryz.ntmps94
    go_wp2_with fail
    go_ret
    exact ⟨⟨_, rfl⟩, HT.out, HS.out⟩
  | false =>
    have hpn' : ¬ p + n ≤ N := by rcases hpn with h | h; cases h; exact h
    by_cases h1 : p ≤ N
    · have HI1 : Hid (inB (p : Int) 0 (N : Int) = true) := by show _ = _; unfold inB; simp; omega
      have HI2 : Hid (inB (n : Int) 0 ((N : Int) - p) = false) := by show _ = _; unfold inB; simp; omega
      go_enter Tryz.func94, Tryz.ntmps94
      go_wp2_with (first | (go_at_call 21; refine (in_any _ _ _ _).mono ?_; rintro e w' ⟨rfl, rfl⟩; first | rw [HI1.out] | rw [HI2.out]))
      go_ret
      exact ⟨⟨_, rfl⟩, HT.out, HS.out⟩
    · have HI1 : Hid (inB (p : Int) 0 (N : Int) = false) := by show _ = _; unfold inB; simp; omega
      go_enter Tryz.func94, Tryz.ntmps94
      go_wp2_with (first | (go_at_call 21; refine (in_any _ _ _ _).mono ?_; rintro e w' ⟨rfl, rfl⟩; first | rw [HI1.out]))
      go_ret
      exact ⟨⟨_, rfl⟩, HT.out, HS.out⟩
end Go.Proofs.YtjjmikfbongccaaGreatDoor

namespace Go.Proofs.YtjjmikfbongccaaGreatDoor
open Go.RowKit
set_option linter.unusedVariables false

theorem count_yes {E : Env} {left : Int} {w : World} (h : Sr E left false w) (p : Nat) (most : Int) (h1 : p + 1 ≤ E.H.N) (h2 : inB (E.H.f p) 0 most = true) :
    Calls Tryz.prog 95 #[.pointer (some ⟨E.rb, 0, none⟩), .int .i64 p, .int .i64 most] w fun e w' => e = .returned (.int .i64 (E.H.f p)) ∧ w' = w := by
  have HS : Hid (Sr E left false w) := h
  have HA : Hid (p + 1 ≤ E.H.N) := h1
  have HA3 : Hid (E.H.N ≠ 0) := by show _ ≠ _; omega
  have q := h.src.ws p (by omega)
  have HI : Hid (inB (E.H.f p) 0 most = true) := h2
  clear h h1 h2
  generalize E.H.f p = x at *
  go_enter Tryz.func95, Tryz.ntmps95
  go_wp2_with fail
  refine (words_yes HS.out p 1 HA.out HA3.out).mono ?_
  rintro e w' ⟨⟨o', rfl, ho'⟩, rfl⟩
  obtain rfl := ho' (by decide)
  clear ho'
  go_wp2_with (first | (go_at_call 21; refine (in_any _ _ _ _).mono ?_; rintro e w' ⟨rfl, rfl⟩; rw [HI.out]))
  go_ret
  exact ⟨rfl, rfl⟩
theorem count_no {E : Env} {left : Int} {w : World} (h : Sr E left false w) (p : Nat) (most : Int) (hp : p ≤ 9223372036854775000) (h1 : p + 1 ≤ E.H.N → inB (E.H.f p) 0 most = false) :
    Calls Tryz.prog 95 #[.pointer (some ⟨E.rb, 0, none⟩), .int .i64 p, .int .i64 most] w fun e w' => e = .returned (.int .i64 0) ∧ Turn E.rb w w' ∧ Sr E left true w' := by
  have HS : Hid (Sr E left false w) := h
  have HP : Hid (p ≤ 9223372036854775000) := hp
  by_cases h2 : p + 1 ≤ E.H.N
  · have HA : Hid (p + 1 ≤ E.H.N) := h2
    have HA3 : Hid (E.H.N ≠ 0) := by show _ ≠ _; omega
    have q := h.src.ws p (by omega)
    have q3 := h.c3
    have qf := h.fr
    have HI : Hid (inB (E.H.f p) 0 most = false) := h1 h2
    have HB : Hid (Sr E left true (w.setCell ⟨E.rb, 3, none⟩ (.bool true))) := h.setB true
    clear h h1 h2 hp
    generalize E.H.f p = x at *
    go_enter Tryz.func95, Tryz.ntmps95
    go_wp2_with fail
    refine (words_yes HS.out p 1 HA.out HA3.out).mono ?_
    rintro e w' ⟨⟨o', rfl, ho'⟩, rfl⟩
    obtain rfl := ho' (by decide)
    clear ho'
    go_wp2_with (first | (go_at_call 21; refine (in_any _ _ _ _).mono ?_; rintro e w' ⟨rfl, rfl⟩; rw [HI.out]))
    go_ret
    exact ⟨rfl, (Turn.refl _ _).set 3 _, HB.out⟩
  · have HA : Hid (false = true ∨ ¬ p + 1 ≤ E.H.N) := .inr h2
    clear h h1 h2 hp
    go_enter Tryz.func95, Tryz.ntmps95
    go_wp2_with fail
    refine (words_no HS.out p 1 HP.out HA.out).mono ?_
    rintro e w1 ⟨⟨g, rfl⟩, ht1, hs1⟩
    have q3 := hs1.c3
    have qf := hs1.fr
    have HT1 : Hid (Turn E.rb w w1) := ht1
    have HB : Hid (Sr E left true (w1.setCell ⟨E.rb, 3, none⟩ (.bool true))) := hs1.setB true
    clear ht1 hs1
    go_wp2_with fail
    go_ret
    exact ⟨rfl, HT1.out.trans ((Turn.refl _ _).set 3 _), HB.out⟩

/-- What is kept of a number in a byte. -/
def u8w (x : Int) : Int := IntKind.u8.wrap x
theorem u8w_byte (x : Int) : isByte (u8w x) = true := by
  unfold isByte u8w
  rw [IntKind.wrap_u8]
  simp
  omega
theorem u8w_all {l : List Int} (h : l.all isByte = true) : l.map u8w = l := by
  induction l with
  | nil => rfl
  | cons x r ih =>
    simp only [List.all_cons, Bool.and_eq_true] at h
    rw [List.map_cons, ih h.2]
    unfold u8w
    rw [isByte_wrap h.1]
theorem inB_byte (x : Int) : inB x 0 255 = isByte x := rfl

theorem count_any {E : Env} {left : Int} {w : World} (h : Sr E left false w) (p : Nat) (most : Int) (hp : p ≤ 9223372036854775000) :
    Calls Tryz.prog 95 #[.pointer (some ⟨E.rb, 0, none⟩), .int .i64 p, .int .i64 most] w fun e w' => ∃ (c : Nat) (bad1 : Bool), e = .returned (.int .i64 c) ∧ Turn E.rb w w' ∧ Sr E left bad1 w' ∧ ((bad1 = false ∧ p + 1 ≤ E.H.N ∧ (c : Int) = E.H.f p ∧ (c : Int) ≤ most) ∨ (bad1 = true ∧ c = 0 ∧ ¬ (p + 1 ≤ E.H.N ∧ 0 ≤ E.H.f p ∧ E.H.f p ≤ most))) := by
  by_cases hc : p + 1 ≤ E.H.N ∧ 0 ≤ E.H.f p ∧ E.H.f p ≤ most
  · refine (count_yes h p most hc.1 (by unfold inB; simp; omega)).mono ?_
    rintro e w' ⟨rfl, rfl⟩
    exact ⟨(E.H.f p).toNat, false, ret_int (by omega), Turn.refl _ _, h, .inl ⟨rfl, hc.1, by omega, by omega⟩⟩
  · refine (count_no h p most hp (fun h1 => by unfold inB; simp; omega)).mono ?_
    rintro e w' ⟨rfl, ht, hs⟩
    exact ⟨0, true, rfl, ht, hs, .inr ⟨rfl, rfl, hc⟩⟩
theorem words_any {E : Env} {left : Int} {bad : Bool} {w : World} (h : Sr E left bad w) (p n : Nat) (hp : p ≤ 9223372036854775000) (hp0 : p ≠ 0) :
    Calls Tryz.prog 94 #[.pointer (some ⟨E.rb, 0, none⟩), .int .i64 p, .int .i64 n] w fun e w' => ∃ (g o' m cap' : Nat) (bad2 : Bool), e = .returned (.slice (some ⟨g, o', none⟩) m cap') ∧ Turn E.rb w w' ∧ Sr E left bad2 w' ∧
      ((bad = false ∧ p + n ≤ E.H.N ∧ bad2 = false ∧ m = n ∧ (n ≠ 0 → g = E.b ∧ o' = E.o + p)) ∨ ((bad = true ∨ ¬ p + n ≤ E.H.N) ∧ bad2 = true ∧ m = 0)) := by
  by_cases hc : bad = false ∧ p + n ≤ E.H.N
  · obtain ⟨rfl, h1⟩ := hc
    refine (words_yes h p n h1 (by omega)).mono ?_
    rintro e w' ⟨⟨o', rfl, ho⟩, rfl⟩
    exact ⟨E.b, o', n, _, false, rfl, Turn.refl _ _, h, .inl ⟨rfl, h1, rfl, rfl, fun hn => ⟨rfl, ho hn⟩⟩⟩
  · have hc' : bad = true ∨ ¬ p + n ≤ E.H.N := by
      cases bad with
      | true => exact .inl rfl
      | false => exact .inr (fun h => hc ⟨rfl, h⟩)
    refine (words_no h p n hp hc').mono ?_
    rintro e w' ⟨⟨g, rfl⟩, ht, hs⟩
    exact ⟨g, 0, 0, 0, true, rfl, ht, hs, .inr ⟨hc', rfl, rfl⟩⟩
/-- What stands behind the word that says how many. -/
def CW (E : Env) (p : Nat) (most : Int) (w : World) (g o' m : Nat) (bad : Bool) : Prop :=
  (∀ j, j < m → w.cell? ⟨g, o' + j, none⟩ = some (.int .i64 (E.H.f (p + 1 + j))) ∧ g ≠ E.rb) ∧ ((bad = false ∧ cnt E.H p most = some m ∧ (m : Int) ≤ most) ∨ (bad = true ∧ cnt E.H p most = none ∧ m = 0))
theorem cw_of {E : Env} {left : Int} {p c m g o' : Nat} {most : Int} {bad1 bad2 : Bool} {w2 : World} (hs : Sr E left bad2 w2)
    (h1 : (bad1 = false ∧ p + 1 ≤ E.H.N ∧ (c : Int) = E.H.f p ∧ (c : Int) ≤ most) ∨ (bad1 = true ∧ c = 0 ∧ ¬ (p + 1 ≤ E.H.N ∧ 0 ≤ E.H.f p ∧ E.H.f p ≤ most)))
    (h2 : (bad1 = false ∧ p + 1 + c ≤ E.H.N ∧ bad2 = false ∧ m = c ∧ (c ≠ 0 → g = E.b ∧ o' = E.o + (p + 1))) ∨ ((bad1 = true ∨ ¬ p + 1 + c ≤ E.H.N) ∧ bad2 = true ∧ m = 0)) : CW E p most w2 g o' m bad2 := by
  rcases h2 with ⟨hb, hn, rfl, rfl, ho⟩ | ⟨hb, rfl, rfl⟩
  · rcases h1 with ⟨_, ha, hf, hm⟩ | ⟨hb', _⟩
    · refine ⟨fun j hj => ?_, .inl ⟨rfl, ?_, hm⟩⟩
      · obtain ⟨rfl, rfl⟩ := ho (by omega)
        exact ⟨by rw [Nat.add_assoc]; exact hs.src.ws (p + 1 + j) (by omega), hs.wn (by omega)⟩
      · unfold cnt
        rw [Int.toNat_natCast, if_pos ⟨by omega, by omega, by omega, by omega⟩, ← hf]
        simp
    · rw [hb] at hb'; cases hb'
  · refine ⟨fun j hj => absurd hj (by omega), .inr ⟨rfl, ?_, rfl⟩⟩
    unfold cnt
    rw [Int.toNat_natCast]
    rcases h1 with ⟨hb', ha, hf, hm⟩ | ⟨hb', _, hx⟩
    · rw [if_neg]
      rintro ⟨_, _, _, h4⟩
      rcases hb with hb | hb
      · rw [hb'] at hb; cases hb
      · omega
    · rw [if_neg]
      rintro ⟨a1, a2, a3, _⟩
      exact hx ⟨by omega, a2, a3⟩

theorem grow_keep {E : Env} {l0 left : Int} {b0 bad : Bool} {w2 wr w5 : World} {o : Obj} {row : Option Nat} (h0 : Sr E l0 b0 w2) (ht : Turn E.rb w2 wr) (hs : Sr E left bad wr) (hgr : (wr.alloc o).grownBy w5 row) (hrow : ∀ k, row = some k → w2.heap.size ≤ k) : Turn E.rb w2 w5 ∧ Sr E left bad w5 := by
  have hz := ht.size
  have hs1 : (wr.alloc o).heap.size = wr.heap.size + 1 := World.size_alloc _ _
  have hk : ∀ k, k < w2.heap.size → w5.heap[k]? = wr.heap[k]? := fun k hk => by
    rw [hgr.block k (by rw [hs1]; omega) (fun e => by have := hrow k e.symm; omega)]
    show (wr.heap.push _)[k]? = _
    rw [Array.getElem?_push, if_neg (by omega)]
  exact ⟨⟨hgr.os.trans ht.os, hgr.tape.trans ht.tape, hgr.output.trans ht.output, by have := hgr.size; omega, fun k hkl hkn => (hk k hkl).trans (ht.block k hkl hkn)⟩, h0.same hs hk⟩
theorem src8s (w : World) (p : Addr) (v : Value) (x : Int) (t : TypeId) : ∀ j u, [Value.int .u8 x][j]? = some u → ((w.setCell p v).alloc (.cells #[.int .u8 x] t)).cell? ((⟨w.heap.size, 0, none⟩ : Addr).add j) = some u := fun j u hu => by
  have := src8 (w.setCell p v) x t j u hu
  rw [World.size_setCell] at this
  exact this
theorem take_all (l : List Int) (k : Nat) (h : k < l.length) : (l.take (k + 1)).all isByte = ((l.take k).all isByte && isByte l[k]) := by
  rw [List.take_add_one, List.getElem?_eq_getElem h, List.all_append]
  simp only [Option.toList, List.all_cons, List.all_nil, Bool.and_true]
theorem take_map (l : List Int) (k : Nat) (h : k < l.length) : (l.take (k + 1)).map u8w = (l.take k).map u8w ++ [u8w l[k]] := by
  rw [List.take_add_one, List.getElem?_eq_getElem h, List.map_append]
  rfl

set_option maxHeartbeats 4000000 in
set_option maxRecDepth 100000 in
theorem specBin_any {E : Env} {left : Int} {w : World} (h : Sr E left false w) (p : Nat) (hp : p ≤ 9223372036854774000) :
    Calls Tryz.prog 83 #[.pointer (some ⟨E.rb, 0, none⟩), .int .i64 p] w fun e w' => ∃ s, e = .returned (.agg #[.int .i64 6, .int .i64 0, .string s, .slice none 0 0]) ∧ s.size ≤ maxLen ∧ Turn E.rb w w' ∧
      ((∃ n, cnt E.H p 40 = some n ∧ txt (wordsAt E.H (p + 1) n) = some s ∧ Sr E left false w') ∨ ((∀ n, cnt E.H p 40 = some n → txt (wordsAt E.H (p + 1) n) = none) ∧ Sr E left true w')) := by
  have HS : Hid (Sr E left false w) := h
  have HP : Hid (p ≤ 9223372036854775000) := by show _ ≤ _; omega
  have HP1 : Hid (p + 1 ≤ 9223372036854775000) := by show _ ≤ _; omega
  have hpb : (p : Int) ≤ 9223372036854774000 := by omega
  have HQ : Hid ((p : Int) + 1 = ((p + 1 : Nat) : Int)) := by show _ = _; omega
  have hrl := h.lt
  clear h
  obtain ⟨i0, hi, hz0, hz1, hz2⟩ := infoParts infoU8
  have HI : Hid (Tryz.prog.info? 5 = some i0 ∧ i0.zero = some (.int .u8 0) ∧ i0.size = 1 ∧ i0.bytes = 1) := ⟨hi, hz0, hz1, hz2⟩
  clear hi hz0 hz1 hz2
  go_enter Tryz.func83, Tryz.ntmps83
  go_wp2_with fail
  have hbx : ∀ c T, Below w.heap.size w (w.alloc (.cells c T)) := fun c T => (Below.refl _ _).alloc (Nat.le_refl _) _
  refine (count_any (HS.out.below (hbx _ _)) p 40 HP.out).mono ?_
  rintro e w1 ⟨c, bad1, rfl, ht1, hs1, hr1⟩
  have hz1 : w.heap.size + 1 ≤ w1.heap.size := by have := ht1.size; rw [World.size_alloc] at this; exact this
  obtain ⟨q1, f1⟩ := ht1.keep (W := w.heap.size) (by omega) (by rw [World.size_alloc]; exact Nat.lt_succ_self _) (fun o => World.cell?_alloc_new w _ _ o) (fun o => World.frozen?_alloc_new w _ _ o)
  have HT1 : Hid (Turn E.rb w w1) := (Turn.of_below (hbx _ _)).trans ht1
  have HS1 : Hid (Sr E left bad1 w1) := hs1
  have HR1 : Hid ((bad1 = false ∧ p + 1 ≤ E.H.N ∧ (c : Int) = E.H.f p ∧ (c : Int) ≤ 40) ∨ (bad1 = true ∧ c = 0 ∧ ¬ (p + 1 ≤ E.H.N ∧ 0 ≤ E.H.f p ∧ E.H.f p ≤ 40))) := hr1
  clear hs1 hr1 ht1 hbx
  go_wp2_with (first | (go_at_call 94; rw [HQ.out]; refine (words_any HS1.out (p + 1) c HP1.out (Nat.succ_ne_zero p)).mono ?_; rintro e w2 ⟨g, o', m, cap', bad2, rfl, ht2, hs2, hr2⟩; have hcw : Hid (CW E p 40 w2 g o' m bad2) := (cw_of hs2 HR1.out hr2); obtain ⟨q2, f2⟩ := ht2.keep (W := w.heap.size) (by omega) (by omega) q1 f1; have HT2 : Hid (Turn E.rb w w2) := HT1.out.trans ht2; have HS2 : Hid (Sr E left bad2 w2) := hs2; have hz2 := ht2.size; clear ht2 hs2 hr2 q1 f1))
  have hm40 : m ≤ 40 := by
    rcases hcw.out.2 with ⟨_, _, h⟩ | ⟨_, _, h⟩
    · omega
    · omega
  obtain ⟨l, hl⟩ : ∃ l, wordsAt E.H (p + 1) m = l := ⟨_, rfl⟩
  have hlm : l.length = m := by rw [← hl, wordsAt_len]
  have HLM : Hid (l.length = m) := hlm
  have HW : Hid (wordsAt E.H (p + 1) m = l) := hl
  have HCE : Hid (∀ j (hj : j < l.length), w2.cell? ⟨g, o' + j, none⟩ = some (.int .i64 l[j]) ∧ g ≠ E.rb) := fun j hj => by
    have hj' : j < m := by rw [← HLM.out]; exact hj
    have e : l[j] = E.H.f (p + 1 + j) := by
      have := wordsAt_get E.H (p + 1) m j (by rw [wordsAt_len]; exact hj')
      simp only [HW.out] at this
      exact this
    rw [e]
    exact hcw.out.1 j hj'
  clear hl
  subst hlm
  go_loopw [7, 8] (fun v i wr => ∃ k : Nat, k ≤ l.length ∧ i = .int .i64 k ∧ Own8 wr w2.heap.size v ((l.take k).map u8w) ∧ Turn E.rb w2 wr ∧ Sr E left (bad2 || !(l.take k).all isByte) wr) (fun _ i _ => l.length - (intOf i).toNat)
  case atStart => exact ⟨0, Nat.zero_le _, rfl, own8_start w2, (Turn.refl _ _).alloc _, by simpa using HS2.out.below ((Below.refl _ _).alloc (Nat.le_refl _) _)⟩
  case round =>
    obtain ⟨k, hk, rfl, ho, ht, hs⟩ := hrel
    obtain ⟨g2, cc, rfl, hown⟩ := ho
    have hkl : ((l.take k).map u8w).length = k := by simp; omega
    rw [hkl] at hown ⊢
    have q3 := hs.c3
    have qf := hs.fr
    have hzr := ht.size
    have hr2 := HS2.out.lt
    have C3 : Hid (k + 1 ≤ maxLen) := by show _ ≤ _; unfold maxLen; omega
    have C4 : Hid ((k + 1) * 1 ≤ 140737488355328) := by show _ ≤ _; omega
    by_cases hlt : k < l.length
    · obtain ⟨hcl, hgn⟩ := HCE.out k hlt
      have q : wr.cell? ⟨g, o' + k, none⟩ = some (.int .i64 l[k]) := ht.cell hgn hcl
      have HTM : Hid ((l.take (k + 1)).map u8w = (l.take k).map u8w ++ [u8w l[k]]) := take_map l k hlt
      have HTA0 : Hid ((l.take (k + 1)).all isByte = ((l.take k).all isByte && isByte l[k])) := take_all l k hlt
      clear hcl hgn hkl
      generalize l[k] = x at *
      cases hx : isByte x with
      | true =>
        have HXB : Hid (inB x 0 255 = true) := hx
        have HTA : Hid ((bad2 || !(l.take (k + 1)).all isByte) = (bad2 || !(l.take k).all isByte)) := by show _ = _; rw [HTA0.out, hx, Bool.and_true]
        have HO : Hid (wr.ownsRow w2.heap.size 5 1 (.slice (some ⟨g2, 0, none⟩) k cc) k (((l.take k).map u8w).map (Value.int .u8))) := hown
        have HTR : Hid (Turn E.rb w2 wr) := ht
        have HSR : Hid (Sr E left (bad2 || !(l.take k).all isByte) wr) := hs
        have C5 : Hid (w2.heap.size ≤ (wr.alloc (.cells #[.int .u8 (IntKind.u8.wrap x)] 5)).heap.size) := by show _ ≤ _; rw [World.size_alloc]; omega
        clear hx hown ht hs
        go_wp2_with (first | (go_at_call 21; refine (in_any _ _ _ _).mono ?_; rintro e w' ⟨rfl, hw'⟩; obtain rfl := hw'.symm; rw [HXB.out]) | (at_builtin; refine wpList_append_own_at _ rfl _ _ 121 rfl w2.heap.size 5 i0 (.int .u8 0) 1 1 undU8s HI.out.1 HI.out.2.1 HI.out.2.2.1 HI.out.2.2.2 rfl Nat.zero_lt_one _ k _ rfl (HO.out.alloc _) ⟨_, 0, none⟩ 1 1 [.int .u8 (IntKind.u8.wrap x)] rfl rfl (src8 _ _ _) (one8 _) C3.out C4.out C5.out ?_; intro v5 w5 hown5 hgr5 hnn5 hat5))
        have hown6 := own8_of (xs := (l.take (k + 1)).map u8w) (n := k + 1) (by rw [HTM.out, List.map_append]; exact hown5) (fun e => by have := (hnn5.1 e).1; cases this)
        obtain ⟨ht6, hs6⟩ := grow_keep HS2.out HTR.out HSR.out hgr5 (fun j hj => (HO.out.lt j hj).1)
        have HO6 : Hid (Own8 w5 w2.heap.size v5 ((l.take (k + 1)).map u8w)) := hown6
        have HT6 : Hid (Turn E.rb w2 w5) := ht6
        have HS6 : Hid (Sr E left (bad2 || !(l.take (k + 1)).all isByte) w5) := by show Sr ..; rw [HTA.out]; exact hs6
        clear hown5 hgr5 hnn5 hat5 hown6 ht6 hs6
        go_roundw
        case rel => exact ⟨k + 1, by omega, by go_num, HO6.out, HT6.out, HS6.out⟩
        case measure => simp [intOf]; omega
      | false =>
        have HXB : Hid (inB x 0 255 = false) := hx
        have HTA : Hid ((bad2 || !(l.take (k + 1)).all isByte) = true) := by show _ = _; rw [HTA0.out, hx, Bool.and_false]; simp
        have HTM : Hid ((l.take (k + 1)).map u8w = (l.take k).map u8w ++ [x % 256]) := by show _ = _; rw [HTM.out]; unfold u8w; rw [IntKind.wrap_u8]
        have HO : Hid ((wr.setCell ⟨E.rb, 3, none⟩ (.bool true)).ownsRow w2.heap.size 5 1 (.slice (some ⟨g2, 0, none⟩) k cc) k (((l.take k).map u8w).map (Value.int .u8))) := ownsRow_setCell_below hown (by show E.rb < _; omega) _
        have HTR : Hid (Turn E.rb w2 (wr.setCell ⟨E.rb, 3, none⟩ (.bool true))) := ht.set 3 _
        have HSR : Hid (Sr E left true (wr.setCell ⟨E.rb, 3, none⟩ (.bool true))) := hs.setB true
        have C5 : Hid (w2.heap.size ≤ ((wr.setCell ⟨E.rb, 3, none⟩ (.bool true)).alloc (.cells #[.int .u8 (x % 256)] 5)).heap.size) := by show _ ≤ _; rw [World.size_alloc, World.size_setCell]; omega
        have q' : (wr.setCell ⟨E.rb, 3, none⟩ (.bool true)).cell? ⟨g, o' + k, none⟩ = some (.int .i64 x) := by
          rw [World.cell?_setCell_other (h := fun e => by simp only [Addr.mk.injEq] at e; exact (HCE.out k hlt).2 e.1.symm)]; exact q
        clear hx hown ht hs
        go_wp2_with (first | (go_at_call 21; refine (in_any _ _ _ _).mono ?_; rintro e w' ⟨rfl, hw'⟩; obtain rfl := hw'.symm; rw [HXB.out]) | (at_builtin; refine wpList_append_own_at _ rfl _ _ 121 rfl w2.heap.size 5 i0 (.int .u8 0) 1 1 undU8s HI.out.1 HI.out.2.1 HI.out.2.2.1 HI.out.2.2.2 rfl Nat.zero_lt_one _ k _ rfl (HO.out.alloc _) ⟨wr.heap.size, 0, none⟩ 1 1 [.int .u8 (x % 256)] rfl rfl (src8s _ _ _ _ _) (one8 _) C3.out C4.out C5.out ?_; intro v5 w5 hown5 hgr5 hnn5 hat5))
        have hown6 := own8_of (xs := (l.take (k + 1)).map u8w) (n := k + 1) (by rw [HTM.out, List.map_append]; exact hown5) (fun e => by have := (hnn5.1 e).1; cases this)
        obtain ⟨ht6, hs6⟩ := grow_keep HS2.out HTR.out HSR.out hgr5 (fun j hj => (HO.out.lt j hj).1)
        have HO6 : Hid (Own8 w5 w2.heap.size v5 ((l.take (k + 1)).map u8w)) := hown6
        have HT6 : Hid (Turn E.rb w2 w5) := ht6
        have HS6 : Hid (Sr E left (bad2 || !(l.take (k + 1)).all isByte) w5) := by show Sr ..; rw [HTA.out]; exact hs6
        clear hown5 hgr5 hnn5 hat5 hown6 ht6 hs6
        go_roundw
        case rel => exact ⟨k + 1, by omega, by go_num, HO6.out, HT6.out, HS6.out⟩
        case measure => simp [intOf]; omega
    · have hkl2 : k = l.length := by omega
      have htk : l.take k = l := by rw [hkl2]; simp
      rw [htk] at hown hs
      have HOW : Hid (wr.ownsRow w2.heap.size 5 1 (.slice (some ⟨g2, 0, none⟩) (l.map u8w).length cc) (l.map u8w).length ((l.map u8w).map (Value.int .u8))) := by
        show World.ownsRow ..
        rw [List.length_map, ← hkl2]; exact hown
      have hcv := conv8 HOW.out (fun y hy => by obtain ⟨z, _, rfl⟩ := List.mem_map.1 hy; exact u8w_byte z)
      rw [List.length_map, ← hkl2] at hcv
      obtain ⟨q4, f4⟩ := ht.keep (W := w.heap.size) (by omega) (by omega) q2 f2
      have HTR : Hid (Turn E.rb w wr) := HT2.out.trans ht
      have HSR : Hid (Sr E left (bad2 || !l.all isByte) wr) := hs
      have HSZ : Hid ((txtB (l.map u8w)).size ≤ maxLen) := by
        show _ ≤ _
        have e : (txtB (l.map u8w)).size = l.length := by simp [txtB, ByteArray.size]
        rw [e]; unfold maxLen; omega
      clear hown hs htk hkl2 hkl ht
      go_wp2_with fail
      have hkk : ∀ (a b c d : Value) k, k < w.heap.size → (lay4 wr w.heap.size a b c d).heap[k]? = wr.heap[k]? := fun a b c d k hk => lay4_heap (by omega)
      have hfin : ∀ a b c d, Turn E.rb w (lay4 wr w.heap.size a b c d) ∧ Sr E left (bad2 || !l.all isByte) (lay4 wr w.heap.size a b c d) := fun a b c d =>
        ⟨⟨HTR.out.os, HTR.out.tape, HTR.out.output, by rw [lay4_size]; exact HTR.out.size, fun k hkl hkn => (hkk a b c d k hkl).trans (HTR.out.block k hkl hkn)⟩, HS.out.same HSR.out (hkk a b c d)⟩
      obtain ⟨a1, a2⟩ := hfin (.int .i64 6) (.int .i64 0) (.string (txtB (l.map u8w))) (.slice none 0 0)
      refine bodyPost_ret (v := .agg #[.int .i64 6, .int .i64 0, .string (txtB (l.map u8w)), .slice none 0 0]) (by simp [results, Tryz.results83, go_sem, q4]) rfl ⟨_, rfl, HSZ.out, a1, ?_⟩
      rcases hcw.out.2 with ⟨hb, hc, _⟩ | ⟨hb, hc, _⟩
      · cases ha : l.all isByte with
        | true =>
          refine .inl ⟨_, hc, ?_, by rw [hb, ha] at a2; exact a2⟩
          rw [HW.out, txt, if_pos ha, u8w_all ha]
        | false =>
          refine .inr ⟨fun n hn => ?_, by rw [hb, ha] at a2; exact a2⟩
          rw [hc] at hn
          injection hn with hn
          rw [← hn, HW.out, txt, if_neg (by rw [ha]; simp)]
      · refine .inr ⟨fun n hn => (by rw [hc] at hn; cases hn), by rw [hb] at a2; exact a2⟩
end Go.Proofs.YtjjmikfbongccaaGreatDoor

namespace Go.Proofs.YtjjmikfbongccaaGreatDoor
open Go.RowKit
set_option linter.unusedVariables false

/-- A list that is gathered in the variable tb, while the terms in it are read. -/
structure GS (E : Env) (w wr : World) (tb : Nat) (K : Int) (l : List Tm) (u : Value) (xs : List Value) : Prop where
  turn : Turn E.rb w wr
  old : E.rb < w.heap.size
  up : w.heap.size < tb
  lt : tb < wr.heap.size
  t0 : wr.cell? ⟨tb, 0, none⟩ = some (.int .i64 K)
  t1 : wr.cell? ⟨tb, 1, none⟩ = some (.int .i64 0)
  t2 : wr.cell? ⟨tb, 2, none⟩ = some (.string ⟨#[]⟩)
  t3 : wr.cell? ⟨tb, 3, none⟩ = some u
  tf : ∀ o, wr.frozen? ⟨tb, o, none⟩ = false
  r : ∀ j, j < 4 → ∃ v, wr.cell? ⟨w.heap.size, j, none⟩ = some v
  rf : ∀ o, wr.frozen? ⟨w.heap.size, o, none⟩ = false
  own : wr.ownsRow (tb + 1) 66 4 u l.length xs
  row : Row (fun b => tb + 1 ≤ b ∧ u.ownBlock ≠ some b) wr l xs
theorem GS.call {E : Env} {w wr w1 : World} {tb : Nat} {K : Int} {l : List Tm} {u : Value} {xs : List Value} (h : GS E w wr tb K l u xs) (t : Turn E.rb wr w1) : GS E w w1 tb K l u xs := by
  have hne : tb ≠ E.rb := by have := h.old; have := h.up; omega
  have hnr : w.heap.size ≠ E.rb := by have := h.old; omega
  refine ⟨h.turn.trans t, h.old, h.up, Nat.lt_of_lt_of_le h.lt t.size, t.cell hne h.t0, t.cell hne h.t1, t.cell hne h.t2, t.cell hne h.t3, fun o => ?_, fun j hj => ?_, fun o => ?_, ?_, ?_⟩
  · rw [t.frozen hne h.lt]; exact h.tf o
  · obtain ⟨v, hv⟩ := h.r j hj
    exact ⟨v, t.cell hnr hv⟩
  · rw [t.frozen hnr (Nat.lt_trans h.up h.lt)]; exact h.rf o
  · refine h.own.kept t.grown (Or.inr (fun e => ?_))
    have := (h.own.lt _ e).1
    have := h.old; have := h.up; omega
  · exact ⟨h.row.1, fun i hi => (h.row.2 i hi).move (Moves.turn (fun b hb e => by have := h.old; have := h.up; have := hb.1; omega) t)⟩
/-- One more is read, laid down in a block, appended, and the variable turned. -/
theorem GS.more {E : Env} {w wr w1 w2 : World} {tb : Nat} {K : Int} {l : List Tm} {u : Value} {xs : List Value}
    (h : GS E w wr tb K l u xs) (hd : Turn E.rb wr w1) {t : Tm} {a b c d : Value} (hv : RpV (fun b => wr.heap.size ≤ b) w1 t (.agg #[a, b, c, d])) {o : Obj}
    {g cap' : Nat} (hown : w2.ownsRow (tb + 1) 66 4 (.slice (some ⟨g, 0, none⟩) (l.length + 1) cap') (l.length + 1) (xs ++ [a, b, c, d])) (hgrow : (w1.alloc o).grownBy w2 u.ownBlock) (hat : u.ownBlock = some g ∨ g = w1.heap.size + 1) (hlt : g < w2.heap.size) :
    GS E w (w2.setCell ⟨tb, 3, none⟩ (.slice (some ⟨g, 0, none⟩) (l.length + 1) cap')) tb K (l ++ [t]) (.slice (some ⟨g, 0, none⟩) (l.length + 1) cap') (xs ++ [a, b, c, d]) ∧ (∀ k, k < tb → (w2.setCell ⟨tb, 3, none⟩ (.slice (some ⟨g, 0, none⟩) (l.length + 1) cap')).heap[k]? = w1.heap[k]?) := by
  have h1 := h.call hd
  have hs1 : (w1.alloc o).heap.size = w1.heap.size + 1 := World.size_alloc _ _
  have hun : ∀ k, k < tb + 1 → some k ≠ u.ownBlock := fun k hk e => by have := (h.own.lt k e.symm).1; omega
  have hcell : ∀ p o' v, some p ≠ u.ownBlock → w1.cell? ⟨p, o', none⟩ = some v → w2.cell? ⟨p, o', none⟩ = some v := fun p o' v hp hc => by
    have hpl := World.block_lt_of_cell? w1 _ hc
    rw [hgrow.cell_far ⟨p, o', none⟩ (by rw [hs1]; exact Nat.lt_succ_of_lt hpl) hp, World.cell?_alloc_lt (h := hpl)]; exact hc
  have hfroz : ∀ p o', p < w1.heap.size → some p ≠ u.ownBlock → w2.frozen? ⟨p, o', none⟩ = w1.frozen? ⟨p, o', none⟩ := fun p o' hpl hp => by
    rw [hgrow.frozen_far ⟨p, o', none⟩ (by rw [hs1]; exact Nat.lt_succ_of_lt hpl) hp, World.frozen?_alloc_old (h := by show p ≠ _; omega)]
  have hset : ∀ p o' v, (p ≠ tb ∨ o' ≠ 3) → w2.cell? ⟨p, o', none⟩ = some v → (w2.setCell ⟨tb, 3, none⟩ (.slice (some ⟨g, 0, none⟩) (l.length + 1) cap')).cell? ⟨p, o', none⟩ = some v := fun p o' v hp hc => by
    rw [World.cell?_setCell_other (h := fun e => by simp at e; omega)]; exact hc
  have hgb : tb + 1 ≤ g := (hown.lt g rfl).1
  have hll : (l ++ [t]).length = l.length + 1 := by simp
  have hul : tb < w1.heap.size := h1.lt
  have hwl : w.heap.size < w1.heap.size := Nat.lt_trans h.up hul
  have hk : ∀ k, k < tb → (w2.setCell ⟨tb, 3, none⟩ (.slice (some ⟨g, 0, none⟩) (l.length + 1) cap')).heap[k]? = w1.heap[k]? := fun k hkt => by
    rw [Below.heap_setCell w2 ⟨tb, 3, none⟩ _ k (by show k ≠ tb; omega), hgrow.block k (by rw [hs1]; omega) (hun k (by omega))]
    show (w1.heap.push _)[k]? = _
    rw [Array.getElem?_push, if_neg (by omega)]
  have hsz : (w2.setCell ⟨tb, 3, none⟩ (.slice (some ⟨g, 0, none⟩) (l.length + 1) cap')).heap.size = w2.heap.size := World.size_setCell ..
  have hsz2 : w1.heap.size + 1 ≤ w2.heap.size := by rw [← hs1]; exact hgrow.size
  have htb : some tb ≠ u.ownBlock := hun tb (by omega)
  have hrb : some w.heap.size ≠ u.ownBlock := hun _ (by have := h.up; omega)
  have hup := h.up
  have hold := h.old
  have hmv : Moves (fun b => tb + 1 ≤ b ∧ u.ownBlock ≠ some b) (fun b => tb + 1 ≤ b ∧ (Value.slice (some ⟨g, 0, none⟩) (l.length + 1) cap').ownBlock ≠ some b) w1 (w2.setCell ⟨tb, 3, none⟩ (.slice (some ⟨g, 0, none⟩) (l.length + 1) cap')) := fun p o' v hp hc => by
    have hpl := World.block_lt_of_cell? w1 _ hc
    refine ⟨⟨hp.1, fun e => ?_⟩, hset p o' v (Or.inl (by have := hp.1; omega)) (hcell p o' v (fun e => hp.2 e.symm) hc)⟩
    simp only [Value.ownBlock, Option.some.injEq] at e
    subst e
    rcases hat with hat | hat
    · exact hp.2 hat
    · have : g < w1.heap.size := hpl
      omega
  have hmn : Moves (fun b => wr.heap.size ≤ b) (fun b => tb + 1 ≤ b ∧ (Value.slice (some ⟨g, 0, none⟩) (l.length + 1) cap').ownBlock ≠ some b) w1 (w2.setCell ⟨tb, 3, none⟩ (.slice (some ⟨g, 0, none⟩) (l.length + 1) cap')) := fun p o' v hp hc => by
    have hpl : p < w1.heap.size := World.block_lt_of_cell? w1 _ hc
    have hpo : some p ≠ u.ownBlock := fun e => by have := (h.own.lt p e.symm).2; omega
    refine ⟨⟨by have := h.lt; omega, fun e => ?_⟩, hset p o' v (Or.inl (by have := h.lt; omega)) (hcell p o' v hpo hc)⟩
    simp only [Value.ownBlock, Option.some.injEq] at e
    subst e
    rcases hat with hat | hat
    · exact hpo hat.symm
    · omega
  refine ⟨⟨?_, hold, hup, by rw [hsz]; omega, hset _ _ _ (Or.inr (by omega)) (hcell _ _ _ htb h1.t0), hset _ _ _ (Or.inr (by omega)) (hcell _ _ _ htb h1.t1), hset _ _ _ (Or.inr (by omega)) (hcell _ _ _ htb h1.t2), World.cell?_setCell_same w2 _ _ (hcell _ _ _ htb h1.t3), fun o' => ?_, fun j hj => ?_, fun o' => ?_, ?_, Row.snoc hmv h1.row (hmn.repV hv)⟩, hk⟩
  · have t := h1.turn
    exact ⟨hgrow.os.trans t.os, hgrow.tape.trans t.tape, hgrow.output.trans t.output, by rw [hsz]; omega, fun k hkl hkn => (hk k (by omega)).trans (t.block k hkl hkn)⟩
  · rw [World.frozen?_setCell, hfroz tb o' hul htb]; exact h1.tf o'
  · obtain ⟨v, hv'⟩ := h1.r j hj
    exact ⟨v, hset _ _ _ (Or.inl (by omega)) (hcell _ _ _ hrb hv')⟩
  · rw [World.frozen?_setCell, hfroz _ o' hwl hrb]; exact h1.rf o'
  · rw [hll]; exact ownsRow_setCell_below hown (by show tb < tb + 1; omega) _
theorem GS.grown {E : Env} {w w1 w2 : World} {tb : Nat} {K : Int} {l : List Tm} {u : Value} {xs : List Value} (h : GS E w w1 tb K l u xs) {o : Obj} (hgrow : (w1.alloc o).grownBy w2 u.ownBlock) : w2.cell? ⟨tb, 3, none⟩ = some u ∧ w2.frozen? ⟨tb, 3, none⟩ = false := by
  have hs1 : (w1.alloc o).heap.size = w1.heap.size + 1 := World.size_alloc _ _
  have hl := h.lt
  have hne : some tb ≠ u.ownBlock := fun e => by have := (h.own.lt tb e.symm).1; omega
  rw [hgrow.cell_far ⟨tb, 3, none⟩ (by rw [hs1]; exact Nat.lt_succ_of_lt hl) hne, hgrow.frozen_far ⟨tb, 3, none⟩ (by rw [hs1]; exact Nat.lt_succ_of_lt hl) hne, World.cell?_alloc_lt (h := hl), World.frozen?_alloc_old (h := by show tb ≠ _; omega)]
  exact ⟨h.t3, h.tf 3⟩
theorem GS.form {E : Env} {w wr : World} {tb : Nat} {K : Int} {l : List Tm} {u : Value} {xs : List Value} (h : GS E w wr tb K l u xs) : ∃ ua uc, u = .slice ua l.length uc := by
  rcases h.own.2 with ⟨rfl, h0⟩ | ⟨g, cap, cur, rfl, _⟩
  · exact ⟨none, 0, by rw [h0]⟩
  · exact ⟨_, _, rfl⟩
/-- The variable is new behind w3, the box of what is answered is new behind w. -/
theorem GS.start {E : Env} {w w3 : World} {c : Array Value} (ht : Turn E.rb w w3) (ho : E.rb < w.heap.size) (hz3 : w.heap.size + 1 ≤ w3.heap.size) (hc : c.size = 4)
    (q3 : ∀ o, w3.cell? ⟨w.heap.size, o, none⟩ = c[o]?) (f3 : ∀ o, w3.frozen? ⟨w.heap.size, o, none⟩ = false) (K : Int) :
    GS E w (w3.alloc (.cells #[.int .i64 K, .int .i64 0, .string ⟨#[]⟩, .slice none 0 0] 66)) w3.heap.size K [] (.slice none 0 0) [] := by
  refine ⟨ht.alloc _, ho, hz3, by rw [World.size_alloc]; omega, by rw [World.cell?_alloc_new]; rfl, by rw [World.cell?_alloc_new]; rfl, by rw [World.cell?_alloc_new]; rfl, by rw [World.cell?_alloc_new]; rfl, fun o => World.frozen?_alloc_new w3 _ _ o, fun j hj => ?_, fun o => ?_, ⟨rfl, Or.inl ⟨rfl, rfl⟩⟩, Row.nil _ _⟩
  · rw [World.cell?_alloc_lt (h := by show w.heap.size < _; omega), q3]
    exact ⟨c[j], by rw [Array.getElem?_eq_getElem (by omega)]⟩
  · rw [World.frozen?_alloc_old (h := by show w.heap.size ≠ _; omega)]; exact f3 o
/-- What is gathered is a term. -/
theorem GS.done {E : Env} {w wr : World} {tb : Nat} {K : Int} {l : List Tm} {u : Value} {xs : List Value} (h : GS E w wr tb K l u xs) (a b c d : Value) :
    RpV (fun b => w.heap.size ≤ b) (lay4 wr w.heap.size a b c d) (.mk K 0 ByteArray.empty l) (.agg #[.int .i64 K, .int .i64 0, .string ⟨#[]⟩, u]) ∧ Turn E.rb w (lay4 wr w.heap.size a b c d) ∧ (∀ k, k < w.heap.size → (lay4 wr w.heap.size a b c d).heap[k]? = wr.heap[k]?) := by
  obtain ⟨ao', cap', rfl, hl, hc, hr⟩ := h.row.repL (S' := fun b => tb + 1 ≤ b) (fun b hb => hb.1) h.own (fun g hg => (h.own.lt g hg).1)
  have hup := h.up
  have hk : ∀ k, k < w.heap.size → (lay4 wr w.heap.size a b c d).heap[k]? = wr.heap[k]? := fun k hk => lay4_heap (by omega)
  refine ⟨⟨ao', cap', rfl, Nat.zero_le _, hl, hc, Moves.repL (S := fun b => tb + 1 ≤ b) (fun b' o' v' hb' hv' => ?_) _ _ hr⟩, ⟨h.turn.os, h.turn.tape, h.turn.output, by rw [lay4_size]; exact h.turn.size, fun k hkl hkn => (hk k hkl).trans (h.turn.block k hkl hkn)⟩, hk⟩
  have : tb + 1 ≤ b' := hb'
  exact ⟨by omega, by rw [lay4_cell (by omega)]; exact hv'⟩

/-- What l5Read answers. -/
def ReadC (E : Env) (d : Nat) : Prop := ∀ (w : World) (left : Nat) (x : Int), Sr E left false w → left ≤ 100 → x ≤ 9223372036854775807 →
  Calls Tryz.prog 64 #[.pointer (some ⟨E.rb, 0, none⟩), .int .i64 x, .int .i64 d] w fun e w' => ∃ t v, e = .returned v ∧ RpV (fun b => w.heap.size ≤ b) w' t v ∧ Turn E.rb w w' ∧
    ((∃ y : Nat, rT false E.H d x left = some (t, y) ∧ Sr E y false w') ∨ (rT false E.H d x left = none ∧ ∃ z : Int, Sr E z true w'))
theorem Sr.drew {E : Env} {left : Int} {bad : Bool} {w : World} (h : Sr E left bad w) : Sr E left bad w.drew := h.same h (fun k _ => rfl)
theorem Turn.undrew {cb : Nat} {w w' : World} (h : Turn cb w.drew w') : Turn cb w w' := ⟨h.os, h.tape, h.output, h.size, h.block⟩
/-- How the reading of a list goes on. -/
def Goes (E : Env) (G : Option (List Tm × Nat)) (nx : Nat → Option (List Tm × Nat)) (l : List Tm) (wr : World) : Prop :=
  (∃ y : Nat, y ≤ 100 ∧ Sr E y false wr ∧ G = pre l (nx y)) ∨ (G = none ∧ ∃ z : Int, Sr E z true wr)
end Go.Proofs.YtjjmikfbongccaaGreatDoor
namespace Go.Proofs.YtjjmikfbongccaaGreatDoor
open Go.RowKit
set_option linter.unusedVariables false

set_option maxHeartbeats 4000000 in
set_option maxRecDepth 100000 in
theorem specTuple_any {E : Env} {d' : Nat} (ih : ReadC E d') (hd' : d' ≤ 6) {w : World} {left : Nat} (h : Sr E left false w) (hl : left ≤ 100) (p : Nat) (hp : p ≤ 9223372036854774000) :
    Calls Tryz.prog 82 #[.pointer (some ⟨E.rb, 0, none⟩), .int .i64 p, .int .i64 ((d' + 1 : Nat) : Int)] w fun e w' => ∃ t v, e = .returned v ∧ RpV (fun b => w.heap.size ≤ b) w' t v ∧ Turn E.rb w w' ∧
      ((∃ y : Nat, rCnt E.H (rT false E.H d') p left = some (t, y) ∧ Sr E y false w') ∨ (rCnt E.H (rT false E.H d') p left = none ∧ ∃ z : Int, Sr E z true w')) := by
  have HS : Hid (Sr E left false w) := h
  have HL : Hid (left ≤ 100) := hl
  have HT : Hid (ReadC E d') := ih
  have HP : Hid (p ≤ 9223372036854775000) := by show _ ≤ _; omega
  have HP1 : Hid (p + 1 ≤ 9223372036854775000) := by show _ ≤ _; omega
  have hpb : (p : Int) ≤ 9223372036854774000 := by omega
  have HQ : Hid ((p : Int) + 1 = ((p + 1 : Nat) : Int)) := by show _ = _; omega
  have hrl := h.lt
  obtain ⟨D, hD⟩ : ∃ D : Int, D = ((d' + 1 : Nat) : Int) := ⟨_, rfl⟩
  rw [← hD]
  have HQD : Hid (D - 1 = d') := by show _ = _; omega
  have HWR : Hid (IntKind.i64.wrap (D - 1) = d') := by show _ = _; rw [IntKind.wrap_i64]; omega
  have hD0 : 1 ≤ D := by omega
  have hD6 : D ≤ 7 := by omega
  clear h hl ih hD
  obtain ⟨i0, hi, hzz0, hzz1, hzz2⟩ := infoParts infoTm
  generalize hGG : rCnt E.H (rT false E.H d') p left = GG
  have HGG : Hid (rCnt E.H (rT false E.H d') p left = GG) := hGG
  clear hGG
  go_enter Tryz.func82, Tryz.ntmps82
  go_wp2_with fail
  have hbx : ∀ c T, Below w.heap.size w (w.alloc (.cells c T)) := fun c T => (Below.refl _ _).alloc (Nat.le_refl _) _
  refine (count_any (HS.out.below (hbx _ _)) p 8 HP.out).mono ?_
  rintro e w1 ⟨c, bad1, rfl, ht1, hs1, hr1⟩
  have hz1 : w.heap.size + 1 ≤ w1.heap.size := by have := ht1.size; rw [World.size_alloc] at this; exact this
  obtain ⟨q1, f1⟩ := ht1.keep (W := w.heap.size) (by omega) (by rw [World.size_alloc]; exact Nat.lt_succ_self _) (fun o => World.cell?_alloc_new w _ _ o) (fun o => World.frozen?_alloc_new w _ _ o)
  have HT1 : Hid (Turn E.rb w w1) := (Turn.of_below (hbx _ _)).trans ht1
  have HS1 : Hid (Sr E left bad1 w1) := hs1
  have HR1 : Hid ((bad1 = false ∧ p + 1 ≤ E.H.N ∧ (c : Int) = E.H.f p ∧ (c : Int) ≤ 8) ∨ (bad1 = true ∧ c = 0 ∧ ¬ (p + 1 ≤ E.H.N ∧ 0 ≤ E.H.f p ∧ E.H.f p ≤ 8))) := hr1
  clear hs1 hr1 ht1 hbx
  go_wp2_with (first | (go_at_call 94; rw [HQ.out]; refine (words_any HS1.out (p + 1) c HP1.out (Nat.succ_ne_zero p)).mono ?_; rintro e w2 ⟨g, o', m, cap', bad2, rfl, ht2, hs2, hr2⟩; have hcw : Hid (CW E p 8 w2 g o' m bad2) := (cw_of hs2 HR1.out hr2); obtain ⟨q2, f2⟩ := ht2.keep (W := w.heap.size) (by omega) (by omega) q1 f1; have HT2 : Hid (Turn E.rb w w2) := HT1.out.trans ht2; have HS2 : Hid (Sr E left bad2 w2) := hs2; have hz2 := ht2.size; clear ht2 hs2 hr2 q1 f1))
  have hm8 : m ≤ 8 := by
    rcases hcw.out.2 with ⟨_, _, h⟩ | ⟨_, _, h⟩
    · omega
    · omega
  obtain ⟨G, hG⟩ : ∃ G, G = (if bad2 then none else rTs E.H (rT false E.H d') m (p + 1) left) := ⟨_, rfl⟩
  have HGT : Hid (GG = tup 4 G) := by
    show _ = _
    rw [← HGG.out, hG]
    unfold rCnt
    rw [Int.toNat_natCast]
    rcases hcw.out.2 with ⟨hb, hc, _⟩ | ⟨hb, hc, _⟩
    · rw [hb, hc]; rfl
    · rw [hb, hc]; rfl
  have HG0 : Hid (GS E w (w2.alloc (.cells #[.int .i64 4, .int .i64 0, .string ⟨#[]⟩, .slice none 0 0] 66)) w2.heap.size 4 [] (.slice none 0 0) []) := GS.start HT2.out hrl (by omega) rfl q2 f2 4
  have HGO : Hid (Goes E G (fun y => rTs E.H (rT false E.H d') (m - 0) (p + 1 + 0) y) [] (w2.alloc (.cells #[.int .i64 4, .int .i64 0, .string ⟨#[]⟩, .slice none 0 0] 66))) := by
    have hs := HS2.out.below ((Below.refl _ _).alloc (Nat.le_refl _) (.cells #[.int .i64 4, .int .i64 0, .string ⟨#[]⟩, .slice none 0 0] 66))
    cases bad2 with
    | true => exact .inr ⟨hG, _, hs⟩
    | false => exact .inl ⟨left, HL.out, hs, by rw [pre_nil, hG]; rfl⟩
  have HCE : Hid (∀ j, j < m → w2.cell? ⟨g, o' + j, none⟩ = some (.int .i64 (E.H.f (p + 1 + j))) ∧ g ≠ E.rb) := hcw.out.1
  have hCW2 : ∀ j, j < m → g < w2.heap.size := fun j hj => World.block_lt_of_cell? w2 _ (HCE.out j hj).1
  have HCW2 : Hid (∀ j, j < m → g < w2.heap.size) := hCW2
  obtain ⟨tb, htb⟩ : ∃ tb, tb = w2.heap.size := ⟨_, rfl⟩
  rw [← htb] at HG0 HCW2
  have HT3 : Hid (Turn E.rb w2 (w2.alloc (.cells #[.int .i64 4, .int .i64 0, .string ⟨#[]⟩, .slice none 0 0] 66))) := (Turn.refl _ _).alloc _
  clear hcw hG HGG hCW2 HR1 HS1 HT1
  rw [← htb]
  have htbz : w2.heap.size ≤ tb := by omega
  clear htb
  go_loopw [10] (fun i wr => ∃ (k : Nat) (l : List Tm) (u : Value) (xs : List Value), k ≤ m ∧ i = .int .i64 k ∧ GS E w wr tb 4 l u xs ∧ Turn E.rb w2 wr ∧ l.length ≤ k ∧ Goes E G (fun y => rTs E.H (rT false E.H d') (m - k) (p + 1 + k) y) l wr) (fun i _ => m - (intOf i).toNat)
  case atStart => exact ⟨0, [], _, _, Nat.zero_le _, rfl, HG0.out, HT3.out, Nat.zero_le _, HGO.out⟩
  case round =>
    obtain ⟨k, l, u, xs, hk, rfl, hg, htr, hlk, hgo⟩ := hrel
    obtain ⟨ua, uc, rfl⟩ := hg.form
    have HG : Hid (GS E w wr tb 4 l (.slice ua l.length uc) xs) := hg
    have HTR : Hid (Turn E.rb w2 wr) := htr
    have t0 := hg.t0
    have t1 := hg.t1
    have t2 := hg.t2
    have t3 := hg.t3
    have tf := hg.tf
    have htl := hg.lt
    have hup := hg.up
    obtain ⟨r0, hr0⟩ := hg.r 0 (by decide)
    obtain ⟨r1, hr1⟩ := hg.r 1 (by decide)
    obtain ⟨r2, hr2⟩ := hg.r 2 (by decide)
    obtain ⟨r3, hr3⟩ := hg.r 3 (by decide)
    have hrf := hg.rf
    clear hg htr
    rcases hgo with ⟨y, hy, hsy, hGy⟩ | ⟨hGn, z, hsz⟩
    · have c3 := hsy.c3
      have HSY : Hid (Sr E y false wr) := hsy
      have HY : Hid (y ≤ 100) := hy
      have HGY : Hid (G = pre l (rTs E.H (rT false E.H d') (m - k) (p + 1 + k) y)) := hGy
      clear hsy hy hGy
      by_cases hlt : k < m
      · obtain ⟨hcl, hgn⟩ := HCE.out k hlt
        have q : wr.cell? ⟨g, o' + k, none⟩ = some (.int .i64 (E.H.f (p + 1 + k))) := HTR.out.cell hgn hcl
        have HBG : Hid (E.H.f (p + 1 + k) ≤ 9223372036854775807) := HSY.out.src.big _
        have HC3 : Hid (l.length + 1 ≤ maxLen) := by show _ ≤ _; unfold maxLen; omega
        have HC4 : Hid ((l.length + 1) * 56 ≤ 140737488355328) := by show _ ≤ _; omega
        have HKK : Hid (m - k = (m - (k + 1)) + 1) := by show _ = _; omega
        obtain ⟨x, hx⟩ : ∃ x, E.H.f (p + 1 + k) = x := ⟨_, rfl⟩
        have HX : Hid (E.H.f (p + 1 + k) = x) := hx
        rw [hx] at q HBG
        clear hx hcl hgn
        go_wp2_with fail
        go_region_law (first
        | (refine step_append_lies _ rfl (.tmp 34) (.tmp 43) 64 rfl (tb + 1) 66 i0 (.agg #[.int .i64 0, .int .i64 0, .string ⟨#[]⟩, .slice none 0 0]) 4 56 undTms hi hzz0 hzz1 hzz2 rfl (by decide) (.slice ua l.length uc) l.length xs (by simp [Act.eval]) (HG1.out.own.alloc _) ⟨w5.heap.size, 0, none⟩ 1 1 [.int .i64 va, .int .i64 vb, .string vc, .slice vd ve vf] (by simp [Act.eval]) rfl four8 one4 (by decide) HC3.out HC4.out (by simp; omega) _ rfl ?_; intro g6 cap6 w6 hown6 hgrow6 hat6 hlt6; obtain ⟨t36, tf6⟩ := HG1.out.grown hgrow6)
        | (go_simp; go_wp2_with (go_at_call 64; (first | rw [HWR.out] | rw [HQD.out]); refine (HT.out _ y _ HSY.out.drew HY.out HBG.out).mono ?_; rintro e w5 ⟨tt, vv, rfl, hv5, ht5, hd5⟩; obtain ⟨va, vb, vc, vd, ve, vf, rfl⟩ := hv5.form; have HG1 : Hid (GS E w w5 tb 4 l (.slice ua l.length uc) xs) := HG.out.call ht5.undrew; have htl5 := HG1.out.lt; have t35 := HG1.out.t3; have tf5 := HG1.out.tf)))
        all_goals
          obtain ⟨hg6, hk6⟩ := HG.out.more ht5.undrew hv5 hown6 hgrow6 (by rw [World.size_alloc] at hat6; exact hat6) hlt6
          have HG6 : Hid (GS E w _ tb 4 _ _ _) := hg6
          have hgo6 : Goes E G (fun y => rTs E.H (rT false E.H d') (m - (k + 1)) (p + 1 + (k + 1)) y) (l ++ [tt]) (w6.setCell ⟨tb, 3, none⟩ (.slice (some ⟨g6, 0, none⟩) (l.length + 1) cap6)) := by
            rcases hd5 with ⟨y', hy', hs'⟩ | ⟨hn', z', hs'⟩
            · refine .inl ⟨y', by have := rT_lt _ _ _ _ _ _ _ hy'; have := HY.out; omega, HS.out.same hs' (fun j hj => hk6 j (by omega)), ?_⟩
              rw [HGY.out, HKK.out, rTs_some (by rw [HX.out]; exact hy'), pre_pre]
              rfl
            · refine .inr ⟨?_, z', HS.out.same hs' (fun j hj => hk6 j (by omega))⟩
              rw [HGY.out, HKK.out, rTs_none (by rw [HX.out]; exact hn')]
              rfl
          have htr6 : Turn E.rb w2 (w6.setCell ⟨tb, 3, none⟩ (.slice (some ⟨g6, 0, none⟩) (l.length + 1) cap6)) := ⟨hg6.turn.os.trans HT2.out.os.symm, hg6.turn.tape.trans HT2.out.tape.symm, hg6.turn.output.trans HT2.out.output.symm, by have := hg6.lt; omega, fun j hj hn => (hk6 j (by omega)).trans ((HTR.out.trans ht5.undrew).block j hj hn)⟩
          have HTR6 : Hid (Turn E.rb w2 _) := htr6
          have HGO6 : Hid (Goes E G _ (l ++ [tt]) _) := hgo6
          clear t36 tf6 hown6 hgrow6 hat6 hlt6 hv5 hd5 ht5 HG1 htl5 t35 tf5 hg6 hk6 hgo6 htr6
          go_wp2_with fail
          go_roundw
          case rel => exact ⟨k + 1, l ++ [tt], _, _, by omega, by go_num, HG6.out, HTR6.out, by rw [List.length_append]; simp only [List.length_cons, List.length_nil]; omega, HGO6.out⟩
          case measure => simp [intOf]; omega
      · have HE : Hid (G = some (l, y)) := by
          show _ = _
          rw [HGY.out, show m - k = 0 by omega, rTs, pre, List.append_nil]
        go_wp2_with fail
        obtain ⟨hv, hdd, hkk⟩ := HG.out.done (.int .i64 4) (.int .i64 0) (.string ⟨#[]⟩) (.slice ua l.length uc)
        exact bodyPost_ret (v := .agg #[.int .i64 4, .int .i64 0, .string ⟨#[]⟩, .slice ua l.length uc]) (by simp [results, Tryz.results82, go_sem, hr0, hr1, hr2, hr3]) rfl ⟨_, _, rfl, hv, hdd, .inl ⟨y, by rw [HGT.out, HE.out]; rfl, HS.out.same HSY.out hkk⟩⟩
    · have c3 := hsz.c3
      have HSZ : Hid (Sr E z true wr) := hsz
      have HGN : Hid (G = none) := hGn
      clear hsz hGn
      by_cases hlt : k < m
      all_goals
        go_wp2_with fail
        obtain ⟨hv, hdd, hkk⟩ := HG.out.done (.int .i64 4) (.int .i64 0) (.string ⟨#[]⟩) (.slice ua l.length uc)
        exact bodyPost_ret (v := .agg #[.int .i64 4, .int .i64 0, .string ⟨#[]⟩, .slice ua l.length uc]) (by simp [results, Tryz.results82, go_sem, hr0, hr1, hr2, hr3]) rfl ⟨_, _, rfl, hv, hdd, .inr ⟨by rw [HGT.out, HGN.out]; rfl, z, HS.out.same HSZ.out hkk⟩⟩
end Go.Proofs.YtjjmikfbongccaaGreatDoor
namespace Go.Proofs.YtjjmikfbongccaaGreatDoor
open Go.RowKit
set_option linter.unusedVariables false

def lenT (tb : Nat) (w : World) : Nat := match w.cell? ⟨tb, 3, none⟩ with | some (.slice _ n _) => n | _ => 0
theorem lenT_gs {E : Env} {w wr : World} {tb : Nat} {K : Int} {l : List Tm} {u : Value} {xs : List Value} (h : GS E w wr tb K l u xs) : lenT tb wr = l.length := by
  obtain ⟨ua, uc, rfl⟩ := h.form
  unfold lenT; rw [h.t3]
theorem GS.bad {E : Env} {w wr : World} {tb : Nat} {K : Int} {l : List Tm} {u : Value} {xs : List Value} (h : GS E w wr tb K l u xs) : GS E w (wr.setCell ⟨E.rb, 3, none⟩ (.bool true)) tb K l u xs := h.call ((Turn.refl _ _).set 3 _)
theorem rL_full {H : Hp} {g : Rd} {y : Nat} {x : Int} (h : x ≠ 3) : rL H g 0 x y = none := by rw [rL, if_neg h]

set_option maxHeartbeats 8000000 in
set_option maxRecDepth 100000 in
theorem specCons_any {E : Env} {d' : Nat} (ih : ReadC E d') (hd' : d' ≤ 6) {w : World} {left : Nat} (h : Sr E left false w) (hl : left ≤ 100) (x : Int) (hx : x ≤ 9223372036854775807) :
    Calls Tryz.prog 81 #[.pointer (some ⟨E.rb, 0, none⟩), .int .i64 x, .int .i64 ((d' + 1 : Nat) : Int)] w fun e w' => ∃ t v, e = .returned v ∧ RpV (fun b => w.heap.size ≤ b) w' t v ∧ Turn E.rb w w' ∧
      ((∃ y : Nat, tup 5 (rL E.H (rT false E.H d') 20 x left) = some (t, y) ∧ Sr E y false w') ∨ (tup 5 (rL E.H (rT false E.H d') 20 x left) = none ∧ ∃ z : Int, Sr E z true w')) := by
  have HS : Hid (Sr E left false w) := h
  have HL : Hid (left ≤ 100) := hl
  have HT : Hid (ReadC E d') := ih
  have HX0 : Hid (x ≤ 9223372036854775807) := hx
  have hrl := h.lt
  have HM3 : Hid (mkw 3 0 = 3) := by show _ = _; decide
  obtain ⟨D, hD⟩ : ∃ D : Int, D = ((d' + 1 : Nat) : Int) := ⟨_, rfl⟩
  rw [← hD]
  have HQD : Hid (D - 1 = d') := by show _ = _; omega
  have HWR : Hid (IntKind.i64.wrap (D - 1) = d') := by show _ = _; rw [IntKind.wrap_i64]; omega
  have hD0 : 1 ≤ D := by omega
  have hD6 : D ≤ 7 := by omega
  clear h hl ih hD hx
  obtain ⟨i0, hi, hzz0, hzz1, hzz2⟩ := infoParts infoTm
  generalize hGG : tup 5 (rL E.H (rT false E.H d') 20 x left) = GG
  obtain ⟨G, hG⟩ : ∃ G, G = rL E.H (rT false E.H d') 20 x left := ⟨_, rfl⟩
  have HGT : Hid (GG = tup 5 G) := by show _ = _; rw [hG]; exact hGG.symm
  have HG : Hid (G = rL E.H (rT false E.H d') 20 x left) := hG
  clear hGG hG
  go_enter Tryz.func81, Tryz.ntmps81
  go_wp2_with fail
  have hbx : Below w.heap.size w (w.alloc (.cells #[.int .i64 0, .int .i64 0, .string ⟨#[]⟩, .slice none 0 0] 66)) := (Below.refl _ _).alloc (Nat.le_refl _) _
  have HG0 : Hid (GS E w ((w.alloc (.cells #[.int .i64 0, .int .i64 0, .string ⟨#[]⟩, .slice none 0 0] 66)).alloc (.cells #[.int .i64 5, .int .i64 0, .string ⟨#[]⟩, .slice none 0 0] 66)) (w.heap.size + 1) 5 [] (.slice none 0 0) []) := by
    have := GS.start (w3 := w.alloc (.cells #[.int .i64 0, .int .i64 0, .string ⟨#[]⟩, .slice none 0 0] 66)) (Turn.of_below hbx) hrl (by rw [World.size_alloc]; exact Nat.le_refl _) rfl (fun o => World.cell?_alloc_new w _ _ o) (fun o => World.frozen?_alloc_new w _ _ o) 5
    rw [World.size_alloc] at this
    exact this
  have HS0 : Hid (Sr E left false ((w.alloc (.cells #[.int .i64 0, .int .i64 0, .string ⟨#[]⟩, .slice none 0 0] 66)).alloc (.cells #[.int .i64 5, .int .i64 0, .string ⟨#[]⟩, .slice none 0 0] 66))) := (HS.out.below hbx).below ((Below.refl _ _).alloc (Nat.le_refl _) _)
  obtain ⟨tb, htb⟩ : ∃ tb, tb = w.heap.size + 1 := ⟨_, rfl⟩
  rw [← htb] at HG0
  rw [← htb]
  have htb0 : w.heap.size < tb := by omega
  clear htb hbx
  go_loopw [1] (fun vx wr => ∃ (x : Int) (l : List Tm) (u : Value) (xs : List Value), vx = .int .i64 x ∧ x ≤ 9223372036854775807 ∧ GS E w wr tb 5 l u xs ∧ l.length ≤ 20 ∧ Goes E G (fun y => rL E.H (rT false E.H d') (20 - l.length) x y) l wr) (fun _ wr => 21 - lenT tb wr)
  case atStart => exact ⟨x, [], _, _, rfl, HX0.out, HG0.out, Nat.zero_le _, .inl ⟨left, HL.out, HS0.out, by rw [pre_nil]; exact HG.out⟩⟩
  case round =>
    clear HX0 HG HG0 HS0
    obtain ⟨x, l, u, xs, rfl, hx, hg, hlk, hgo⟩ := hrel
    have HX : Hid (x ≤ 9223372036854775807) := hx
    obtain ⟨ua, uc, rfl⟩ := hg.form
    have HG : Hid (GS E w wr tb 5 l (.slice ua l.length uc) xs) := hg
    have t0 := hg.t0
    have t1 := hg.t1
    have t2 := hg.t2
    have t3 := hg.t3
    have tf := hg.tf
    have htl := hg.lt
    obtain ⟨r0, hr0⟩ := hg.r 0 (by decide)
    obtain ⟨r1, hr1⟩ := hg.r 1 (by decide)
    obtain ⟨r2, hr2⟩ := hg.r 2 (by decide)
    obtain ⟨r3, hr3⟩ := hg.r 3 (by decide)
    have hrf := hg.rf
    have hrt : E.rb ≠ tb := by have := hg.old; omega
    have hrw : E.rb ≠ w.heap.size := by have := hg.old; omega
    clear hg
    rcases hgo with ⟨y, hy, hsy, hGy⟩ | ⟨hGn, z, hsz⟩
    · have c3 := hsy.c3
      have cf := hsy.fr
      have HSY : Hid (Sr E y false wr) := hsy
      have HY : Hid (y ≤ 100) := hy
      have HGY : Hid (G = pre l (rL E.H (rT false E.H d') (20 - l.length) x y)) := hGy
      clear hsy hy hGy
      by_cases h3 : x = 3
      · subst h3
        have HE : Hid (G = some (l, y)) := by
          show _ = _
          rw [HGY.out, rL_end, pre, List.append_nil]
        go_wp2_with (first | (go_at_call 80; refine (specMake_any 3 0 _).mono ?_; rintro e w' ⟨rfl, hw'⟩; obtain rfl := hw'.symm; rw [HM3.out]))
        obtain ⟨hv, hdd, hkk⟩ := HG.out.done (.int .i64 5) (.int .i64 0) (.string ⟨#[]⟩) (.slice ua l.length uc)
        exact bodyPost_ret (v := .agg #[.int .i64 5, .int .i64 0, .string ⟨#[]⟩, .slice ua l.length uc]) (by simp [results, Tryz.results81, go_sem, hr0, hr1, hr2, hr3]) rfl ⟨_, _, rfl, hv, hdd, .inl ⟨y, by rw [HGT.out, HE.out]; rfl, HS.out.same HSY.out hkk⟩⟩
      · have H3 : Hid (x ≠ 3) := h3
        have hne : (x != 3) = true := by simpa using h3
        clear h3
        obtain ⟨p, hp⟩ : ∃ p : Nat, valW x = p := ⟨(valW x).toNat, by have := valW_ge x; omega⟩
        have HPV : Hid (valW x = p) := hp
        have htn : (valW x).toNat = p := by rw [hp]; simp
        have HTN : Hid ((valW x).toNat = p) := htn
        have HPB : Hid (p ≤ 9223372036854775000) := by
          show _ ≤ _
          have h1 := HX.out
          by_cases hx0 : 0 ≤ x
          · rw [valW_of hx0] at hp; omega
          · have : valW x = 0 := by unfold valW; rw [if_pos (by omega)]
            omega
        have hpb : (p : Int) ≤ 9223372036854775000 := by have := HPB.out; omega
        have HSB : Hid (Sr E y true (wr.setCell ⟨E.rb, 3, none⟩ (.bool true))) := HSY.out.setB true
        have HGB : Hid (GS E w (wr.setCell ⟨E.rb, 3, none⟩ (.bool true)) tb 5 l (.slice ua l.length uc) xs) := HG.out.bad
        clear hp htn
        by_cases hw2 : p + 2 ≤ E.H.N
        · have HA : Hid (p + 2 ≤ E.H.N) := hw2
          have HA3 : Hid (E.H.N ≠ 0) := by show _ ≠ _; omega
          clear hw2
          by_cases h5 : tagW x = 5
          · have HTG : Hid (tagW x = 5) := h5
            have HC : Hid (consAt E.H x) := ⟨h5, by rw [HPV.out]; have := HA.out; omega⟩
            clear h5
            by_cases hl20 : l.length < 20
            · have hln : ((l.length : Int) == 20) = false := by simp; omega
              have q0 : wr.cell? ⟨E.b, E.o + p, none⟩ = some (.int .i64 (E.H.f p)) := HSY.out.src.ws p (by have := HA.out; omega)
              have HBG : Hid (E.H.f p ≤ 9223372036854775807) := HSY.out.src.big _
              have HBG1 : Hid (E.H.f (p + 1) ≤ 9223372036854775807) := HSY.out.src.big _
              have HC3 : Hid (l.length + 1 ≤ maxLen) := by show _ ≤ _; unfold maxLen; omega
              have HC4 : Hid ((l.length + 1) * 56 ≤ 140737488355328) := by show _ ≤ _; omega
              have HKK : Hid (20 - l.length = (20 - (l.length + 1)) + 1) := by show _ = _; omega
              obtain ⟨x0, hx0⟩ : ∃ x0, E.H.f p = x0 := ⟨_, rfl⟩
              have HXX : Hid (E.H.f p = x0) := hx0
              rw [hx0] at q0 HBG
              clear hx0
              go_wp2_with (first | (go_at_call 80; refine (specMake_any 3 0 _).mono ?_; rintro e w' ⟨rfl, hw'⟩; obtain rfl := hw'.symm; rw [HM3.out]) | (go_at_call 47; refine (specVal_any x HX.out _).mono ?_; rintro e w' ⟨rfl, hw'⟩; obtain rfl := hw'.symm; rw [HPV.out]) | (go_at_call 49; refine (specTag_any x _).mono ?_; rintro e w' ⟨rfl, hw'⟩; obtain rfl := hw'.symm; rw [HTG.out]) | (go_at_call 94; refine (words_yes HSY.out p 2 HA.out HA3.out).mono ?_; rintro e w' ⟨⟨o2, rfl, ho2⟩, hw'⟩; obtain rfl := hw'.symm; obtain rfl := ho2 (by decide); clear ho2))
              go_region_law (first
        | (refine step_append_lies _ rfl (.tmp 44) (.tmp 52) 64 rfl (tb + 1) 66 i0 (.agg #[.int .i64 0, .int .i64 0, .string ⟨#[]⟩, .slice none 0 0]) 4 56 undTms hi hzz0 hzz1 hzz2 rfl (by decide) (.slice ua l.length uc) l.length xs (by simp [Act.eval]) (HG1.out.own.alloc _) ⟨w5.heap.size, 0, none⟩ 1 1 [.int .i64 va, .int .i64 vb, .string vc, .slice vd ve vf] (by simp [Act.eval]) rfl four8 one4 (by decide) HC3.out HC4.out (by simp; omega) _ rfl ?_; intro g6 cap6 w6 hown6 hgrow6 hat6 hlt6; obtain ⟨t36, tf6⟩ := HG1.out.grown hgrow6)
        | (go_simp; go_wp2_with (go_at_call 64; (first | rw [HWR.out] | rw [HQD.out]); refine (HT.out _ y _ HSY.out.drew HY.out HBG.out).mono ?_; rintro e w5 ⟨tt, vv, rfl, hv5, ht5, hd5⟩; obtain ⟨va, vb, vc, vd, ve, vf, rfl⟩ := hv5.form; have HG1 : Hid (GS E w w5 tb 5 l (.slice ua l.length uc) xs) := HG.out.call ht5.undrew; have htl5 := HG1.out.lt; have t35 := HG1.out.t3; have tf5 := HG1.out.tf)))
              all_goals
                obtain ⟨hg6, hk6⟩ := HG.out.more ht5.undrew hv5 hown6 hgrow6 (by rw [World.size_alloc] at hat6; exact hat6) hlt6
                have HG6 : Hid (GS E w _ tb 5 _ _ _) := hg6
                have hgo6 : Goes E G (fun y => rL E.H (rT false E.H d') (20 - (l ++ [tt]).length) (E.H.f (p + 1)) y) (l ++ [tt]) (w6.setCell ⟨tb, 3, none⟩ (.slice (some ⟨g6, 0, none⟩) (l.length + 1) cap6)) := by
                  rcases hd5 with ⟨y', hy', hs'⟩ | ⟨hn', z', hs'⟩
                  · refine .inl ⟨y', by have := rT_lt _ _ _ _ _ _ _ hy'; have := HY.out; omega, HS.out.same hs' (fun j hj => hk6 j (by omega)), ?_⟩
                    rw [HGY.out, HKK.out, rL_some H3.out HC.out (by rw [HTN.out, HXX.out]; exact hy'), pre_pre, HTN.out, List.length_append]
                    rfl
                  · refine .inr ⟨?_, z', HS.out.same hs' (fun j hj => hk6 j (by omega))⟩
                    rw [HGY.out, rL_none H3.out (by rw [HTN.out, HXX.out]; exact hn')]
                    rfl
                have hsrc6 : Src E (w6.setCell ⟨tb, 3, none⟩ (.slice (some ⟨g6, 0, none⟩) (l.length + 1) cap6)) := by
                  rcases hgo6 with ⟨_, _, h, _⟩ | ⟨_, _, h⟩
                  · exact h.src
                  · exact h.src
                have q1 := hsrc6.ws (p + 1) (by have := HA.out; omega)
                rw [← Nat.add_assoc] at q1
                have HGO6 : Hid (Goes E G _ (l ++ [tt]) _) := hgo6
                have HLG : Hid ((l ++ [tt]).length = l.length + 1) := by show _ = _; rw [List.length_append]; rfl
                clear t36 tf6 hown6 hgrow6 hat6 hlt6 hv5 hd5 ht5 HG1 htl5 t35 tf5 hg6 hk6 hgo6 hsrc6
                go_wp2_with fail
                go_roundw
                case rel => exact ⟨_, l ++ [tt], _, _, rfl, HBG1.out, HG6.out, by rw [HLG.out]; omega, HGO6.out⟩
                case measure => rw [lenT_gs HG6.out, lenT_gs HG.out, HLG.out]; omega
            · have hll : l.length = 20 := by omega
              have HLL : Hid (l.length = 20) := hll
              have HGN : Hid (G = none) := by show _ = _; rw [HGY.out, hll, rL_full H3.out]; rfl
              have hln : ((l.length : Int) == 20) = true := by simp; omega
              clear hll
              go_wp2_with (first | (go_at_call 80; refine (specMake_any 3 0 _).mono ?_; rintro e w' ⟨rfl, hw'⟩; obtain rfl := hw'.symm; rw [HM3.out]) | (go_at_call 47; refine (specVal_any x HX.out _).mono ?_; rintro e w' ⟨rfl, hw'⟩; obtain rfl := hw'.symm; rw [HPV.out]) | (go_at_call 49; refine (specTag_any x _).mono ?_; rintro e w' ⟨rfl, hw'⟩; obtain rfl := hw'.symm; rw [HTG.out]) | (go_at_call 94; refine (words_yes HSY.out p 2 HA.out HA3.out).mono ?_; rintro e w' ⟨⟨o2, rfl, ho2⟩, hw'⟩; obtain rfl := hw'.symm; obtain rfl := ho2 (by decide); clear ho2))
              obtain ⟨hv, hdd, hkk⟩ := HGB.out.done (.int .i64 5) (.int .i64 0) (.string ⟨#[]⟩) (.slice ua l.length uc)
              exact bodyPost_ret (v := .agg #[.int .i64 5, .int .i64 0, .string ⟨#[]⟩, .slice ua l.length uc]) (by simp [results, Tryz.results81, go_sem, hr0, hr1, hr2, hr3]) rfl ⟨_, _, rfl, hv, hdd, .inr ⟨by rw [HGT.out, HGN.out]; rfl, y, HS.out.same HSB.out hkk⟩⟩
          · have hnt : (tagW x != 5) = true := by simpa using h5
            have HGN : Hid (G = none) := by show _ = _; rw [HGY.out, rL_off H3.out (fun hc => h5 hc.1)]; rfl
            obtain ⟨tg, htg⟩ : ∃ tg, tagW x = tg := ⟨_, rfl⟩
            rw [htg] at hnt
            have HTG : Hid (tagW x = tg) := htg
            clear h5 htg
            go_wp2_with (first | (go_at_call 80; refine (specMake_any 3 0 _).mono ?_; rintro e w' ⟨rfl, hw'⟩; obtain rfl := hw'.symm; rw [HM3.out]) | (go_at_call 47; refine (specVal_any x HX.out _).mono ?_; rintro e w' ⟨rfl, hw'⟩; obtain rfl := hw'.symm; rw [HPV.out]) | (go_at_call 49; refine (specTag_any x _).mono ?_; rintro e w' ⟨rfl, hw'⟩; obtain rfl := hw'.symm; rw [HTG.out]) | (go_at_call 94; refine (words_yes HSY.out p 2 HA.out HA3.out).mono ?_; rintro e w' ⟨⟨o2, rfl, ho2⟩, hw'⟩; obtain rfl := hw'.symm; obtain rfl := ho2 (by decide); clear ho2))
            obtain ⟨hv, hdd, hkk⟩ := HGB.out.done (.int .i64 5) (.int .i64 0) (.string ⟨#[]⟩) (.slice ua l.length uc)
            exact bodyPost_ret (v := .agg #[.int .i64 5, .int .i64 0, .string ⟨#[]⟩, .slice ua l.length uc]) (by simp [results, Tryz.results81, go_sem, hr0, hr1, hr2, hr3]) rfl ⟨_, _, rfl, hv, hdd, .inr ⟨by rw [HGT.out, HGN.out]; rfl, y, HS.out.same HSB.out hkk⟩⟩
        · have HA : Hid (false = true ∨ ¬ p + 2 ≤ E.H.N) := .inr hw2
          have HGN : Hid (G = none) := by show _ = _; rw [HGY.out, rL_off H3.out (fun hc => hw2 (by have := hc.2; rw [HPV.out] at this; omega))]; rfl
          clear hw2 HSB HGB
          go_wp2_with (first | (go_at_call 80; refine (specMake_any 3 0 _).mono ?_; rintro e w' ⟨rfl, hw'⟩; obtain rfl := hw'.symm; rw [HM3.out]) | (go_at_call 47; refine (specVal_any x HX.out _).mono ?_; rintro e w' ⟨rfl, hw'⟩; obtain rfl := hw'.symm; rw [HPV.out]) | (go_at_call 94; refine (words_no HSY.out p 2 HPB.out HA.out).mono ?_; rintro e w5 ⟨⟨g5, rfl⟩, ht5, hs5⟩; have c35 := hs5.c3; have cf5 := hs5.fr; have HG5 : Hid (GS E w w5 tb 5 l (.slice ua l.length uc) xs) := HG.out.call ht5; have HSB : Hid (Sr E y true (w5.setCell ⟨E.rb, 3, none⟩ (.bool true))) := hs5.setB true; have HGB : Hid (GS E w (w5.setCell ⟨E.rb, 3, none⟩ (.bool true)) tb 5 l (.slice ua l.length uc) xs) := HG5.out.bad; clear t0 t1 t2 t3 tf hrf hr0 hr1 hr2 hr3; have t0 := HG5.out.t0; have t1 := HG5.out.t1; have t2 := HG5.out.t2; have t3 := HG5.out.t3; have tf := HG5.out.tf; have hrf := HG5.out.rf; obtain ⟨r0', hr0⟩ := HG5.out.r 0 (by decide); obtain ⟨r1', hr1⟩ := HG5.out.r 1 (by decide); obtain ⟨r2', hr2⟩ := HG5.out.r 2 (by decide); obtain ⟨r3', hr3⟩ := HG5.out.r 3 (by decide); clear ht5 hs5))
          obtain ⟨hv, hdd, hkk⟩ := HGB.out.done (.int .i64 5) (.int .i64 0) (.string ⟨#[]⟩) (.slice ua l.length uc)
          exact bodyPost_ret (v := .agg #[.int .i64 5, .int .i64 0, .string ⟨#[]⟩, .slice ua l.length uc]) (by simp [results, Tryz.results81, go_sem, hr0, hr1, hr2, hr3]) rfl ⟨_, _, rfl, hv, hdd, .inr ⟨by rw [HGT.out, HGN.out]; rfl, y, HS.out.same HSB.out hkk⟩⟩
    · have c3 := hsz.c3
      have HSZ : Hid (Sr E z true wr) := hsz
      have HGN : Hid (G = none) := hGn
      clear hsz hGn
      go_wp2_with fail
      obtain ⟨hv, hdd, hkk⟩ := HG.out.done (.int .i64 5) (.int .i64 0) (.string ⟨#[]⟩) (.slice ua l.length uc)
      exact bodyPost_ret (v := .agg #[.int .i64 5, .int .i64 0, .string ⟨#[]⟩, .slice ua l.length uc]) (by simp [results, Tryz.results81, go_sem, hr0, hr1, hr2, hr3]) rfl ⟨_, _, rfl, hv, hdd, .inr ⟨by rw [HGT.out, HGN.out]; rfl, z, HS.out.same HSZ.out hkk⟩⟩
end Go.Proofs.YtjjmikfbongccaaGreatDoor
namespace Go.Proofs.YtjjmikfbongccaaGreatDoor
open Go.RowKit
set_option linter.unusedVariables false

theorem rp_leaf {S : Nat → Prop} {w : World} (k n : Int) (s : ByteArray) (hs : s.size ≤ maxLen) : RpV S w (.mk k n s []) (.agg #[.int .i64 k, .int .i64 n, .string s, .slice none 0 0]) :=
  ⟨none, 0, rfl, hs, Nat.le_refl _, Nat.zero_le _, by rw [RpL]; trivial⟩

theorem sbox_in {E : Env} {left : Int} {bad : Bool} {w w1 : World} (h : Sr E left bad w) (c : Array Value) (t : TypeId) (e : w1 = w.alloc (.cells c t)) :
    w1.heap.size = w.heap.size + 1 ∧ (∀ o, w1.cell? ⟨w.heap.size, o, none⟩ = c[o]?) ∧ (∀ o, w1.frozen? ⟨w.heap.size, o, none⟩ = false) ∧ Turn E.rb w w1 ∧ Sr E left bad w1 ∧ E.rb ≠ w.heap.size := by
  subst e
  have hb : Below w.heap.size w (w.alloc (.cells c t)) := (Below.refl _ _).alloc (Nat.le_refl _) _
  have := h.lt
  exact ⟨World.size_alloc _ _, fun o => World.cell?_alloc_new w c t o, fun o => World.frozen?_alloc_new w _ _ o, Turn.of_below hb, h.below hb, by omega⟩
theorem sbox_out {E : Env} {w w5 : World} (ht : Turn E.rb w w5) {t : Tm} {v : Value} (hv : RpV (fun b => w.heap.size + 1 ≤ b) w5 t v) (a b c d : Value) :
    Turn E.rb w (lay4 w5 w.heap.size a b c d) ∧ RpV (fun b => w.heap.size ≤ b) (lay4 w5 w.heap.size a b c d) t v ∧ (∀ k, k < w.heap.size → (lay4 w5 w.heap.size a b c d).heap[k]? = w5.heap[k]?) := by
  have hk : ∀ k, k < w.heap.size → (lay4 w5 w.heap.size a b c d).heap[k]? = w5.heap[k]? := fun k hk => lay4_heap (by omega)
  refine ⟨⟨ht.os, ht.tape, ht.output, by rw [lay4_size]; exact ht.size, fun k hkl hkn => (hk k hkl).trans (ht.block k hkl hkn)⟩, Moves.repV (S := fun b => w.heap.size + 1 ≤ b) (fun b' o' v' hb' hc' => ⟨by omega, ?_⟩) hv, hk⟩
  have hb'' : w.heap.size + 1 ≤ b' := hb'
  rw [lay4_cell (by omega)]
  exact hc'
/-- What l5Read answers at one word. -/
def RdAt (E : Env) (D : Int) (w : World) (x : Int) (R : Option (Tm × Nat)) : Prop :=
  Calls Tryz.prog 64 #[.pointer (some ⟨E.rb, 0, none⟩), .int .i64 x, .int .i64 D] w fun e w' => ∃ t v, e = .returned v ∧ RpV (fun b => w.heap.size ≤ b) w' t v ∧ Turn E.rb w w' ∧
    ((∃ y : Nat, R = some (t, y) ∧ Sr E y false w') ∨ (R = none ∧ ∃ z : Int, Sr E z true w'))

set_option maxHeartbeats 2000000 in
set_option maxRecDepth 100000 in
theorem read_refuse {E : Env} {left : Nat} (hl : left ≤ 100) {w : World} (h : Sr E left false w) (x : Int) (hx : x ≤ 9223372036854775807) (D : Int) (hD : 0 ≤ D ∧ D ≤ 7) (hr : x < 0 ∨ (0 ≤ x ∧ D < 1) ∨ (0 ≤ x ∧ 1 ≤ D ∧ left = 0)) : RdAt E D w x none := by
  have HS : Hid (Sr E left false w) := h
  have HX : Hid (x ≤ 9223372036854775807) := hx
  obtain ⟨p, hp⟩ : ∃ p : Nat, valW x = p := ⟨(valW x).toNat, by have := valW_ge x; omega⟩
  have HPV : Hid (valW x = p) := hp
  have hD0 := hD.1
  have hD7 := hD.2
  have hl1 : (left : Int) ≤ 100 := by omega
  clear hp hD h hx
  have key : ∀ w1 : World, Sr E left false w1 → w1.heap.size = w.heap.size + 1 → Turn E.rb w w1 → True := fun _ _ _ _ => trivial
  clear key
  rcases hr with hr | ⟨hr, hr2⟩ | ⟨hr, hr2, hr3⟩
  · unfold RdAt
    go_enter Tryz.func64, Tryz.ntmps64
    go_wp2_with fail
    refine (specVal_any x HX.out _).mono ?_
    rintro e w1 ⟨rfl, hw1⟩
    rw [HPV.out]
    obtain ⟨hz1, q1, f1, ht1, hs1, hne⟩ := sbox_in HS.out _ _ hw1
    have HT1 : Hid (Turn E.rb w w1) := ht1
    have c2 := hs1.c2
    have c3 := hs1.c3
    have cf := hs1.fr
    have HSB : Hid (Sr E ((left : Int) - 1) true ((w1.setCell ⟨E.rb, 2, none⟩ (.int .i64 ((left : Int) - 1))).setCell ⟨E.rb, 3, none⟩ (.bool true))) := (hs1.setL _).setB true
    have HTB : Hid (Turn E.rb w ((w1.setCell ⟨E.rb, 2, none⟩ (.int .i64 ((left : Int) - 1))).setCell ⟨E.rb, 3, none⟩ (.bool true))) := (ht1.set 2 _).set 3 _
    clear hw1 ht1 hs1
    go_wp2_with fail
    obtain ⟨a1, a2, a3⟩ := sbox_out HTB.out (rp_leaf 0 0 ByteArray.empty (Nat.zero_le _)) (.int .i64 0) (.int .i64 0) (.string ⟨#[]⟩) (.slice none 0 0)
    exact bodyPost_ret (v := .agg #[.int .i64 0, .int .i64 0, .string ⟨#[]⟩, .slice none 0 0]) (by simp [results, Tryz.results64, go_sem, q1]) rfl ⟨_, _, rfl, a2, a1, .inr ⟨trivial, _, HS.out.same HSB.out a3⟩⟩
  · unfold RdAt
    go_enter Tryz.func64, Tryz.ntmps64
    go_wp2_with fail
    refine (specVal_any x HX.out _).mono ?_
    rintro e w1 ⟨rfl, hw1⟩
    rw [HPV.out]
    obtain ⟨hz1, q1, f1, ht1, hs1, hne⟩ := sbox_in HS.out _ _ hw1
    have HT1 : Hid (Turn E.rb w w1) := ht1
    have c2 := hs1.c2
    have c3 := hs1.c3
    have cf := hs1.fr
    have HSB : Hid (Sr E ((left : Int) - 1) true ((w1.setCell ⟨E.rb, 2, none⟩ (.int .i64 ((left : Int) - 1))).setCell ⟨E.rb, 3, none⟩ (.bool true))) := (hs1.setL _).setB true
    have HTB : Hid (Turn E.rb w ((w1.setCell ⟨E.rb, 2, none⟩ (.int .i64 ((left : Int) - 1))).setCell ⟨E.rb, 3, none⟩ (.bool true))) := (ht1.set 2 _).set 3 _
    clear hw1 ht1 hs1
    go_wp2_with fail
    obtain ⟨a1, a2, a3⟩ := sbox_out HTB.out (rp_leaf 0 0 ByteArray.empty (Nat.zero_le _)) (.int .i64 0) (.int .i64 0) (.string ⟨#[]⟩) (.slice none 0 0)
    exact bodyPost_ret (v := .agg #[.int .i64 0, .int .i64 0, .string ⟨#[]⟩, .slice none 0 0]) (by simp [results, Tryz.results64, go_sem, q1]) rfl ⟨_, _, rfl, a2, a1, .inr ⟨trivial, _, HS.out.same HSB.out a3⟩⟩
  · subst hr3
    unfold RdAt
    go_enter Tryz.func64, Tryz.ntmps64
    go_wp2_with fail
    refine (specVal_any x HX.out _).mono ?_
    rintro e w1 ⟨rfl, hw1⟩
    rw [HPV.out]
    obtain ⟨hz1, q1, f1, ht1, hs1, hne⟩ := sbox_in HS.out _ _ hw1
    have HT1 : Hid (Turn E.rb w w1) := ht1
    have c2 := hs1.c2
    have c3 := hs1.c3
    have cf := hs1.fr
    have HSB : Hid (Sr E (-1) true ((w1.setCell ⟨E.rb, 2, none⟩ (.int .i64 (-1))).setCell ⟨E.rb, 3, none⟩ (.bool true))) := (hs1.setL (-1)).setB true
    have HTB : Hid (Turn E.rb w ((w1.setCell ⟨E.rb, 2, none⟩ (.int .i64 (-1))).setCell ⟨E.rb, 3, none⟩ (.bool true))) := (ht1.set 2 _).set 3 _
    clear hw1 ht1 hs1
    go_wp2_with fail
    obtain ⟨a1, a2, a3⟩ := sbox_out HTB.out (rp_leaf 0 0 ByteArray.empty (Nat.zero_le _)) (.int .i64 0) (.int .i64 0) (.string ⟨#[]⟩) (.slice none 0 0)
    exact bodyPost_ret (v := .agg #[.int .i64 0, .int .i64 0, .string ⟨#[]⟩, .slice none 0 0]) (by simp [results, Tryz.results64, go_sem, q1]) rfl ⟨_, _, rfl, a2, a1, .inr ⟨trivial, _, HS.out.same HSB.out a3⟩⟩
set_option maxHeartbeats 2000000 in
set_option maxRecDepth 100000 in
theorem read_0y {E : Env} {d' : Nat} {k : Nat} (hk : k ≤ 100) {w : World} (h : Sr E ((k + 1 : Nat) : Int) false w) (x : Int) (hx : x ≤ 9223372036854775807) (h0 : 0 ≤ x) (D : Int) (hD : 1 ≤ D ∧ D ≤ 7) (ht : tagW x = 0) (hv : ¬ 2000000 < valW x) : RdAt E D w x (raw false E.H (rT false E.H d') x k) := by
  have HS : Hid (Sr E ((k + 1 : Nat) : Int) false w) := h
  have hD1 := hD.1
  have hD7 := hD.2
  have HX : Hid (x ≤ 9223372036854775807) := hx
  obtain ⟨p, hp⟩ : ∃ p : Nat, valW x = p := ⟨(valW x).toNat, by have := valW_ge x; omega⟩
  have HPV : Hid (valW x = p) := hp
  have HTG : Hid (tagW x = 0) := ht
  have HPB : Hid (p ≤ 9223372036854774000) := by
    show _ ≤ _
    rw [valW_of h0] at hp; omega
  have hpb : (p : Int) ≤ 9223372036854774000 := by have := HPB.out; omega
  have hk1 : (k : Int) ≤ 100 := by omega
  rw [show raw false E.H (rT false E.H d') x k = some (.mk 1 ((p : Int) - 1000000) ByteArray.empty [], k) by unfold raw; rw [if_pos ht, if_neg (by simp; omega), hp]]
  have hvb : decide ((2000000 : Int) < (p : Int)) = false := by simp; omega
  clear hp h hx ht hD hv
  unfold RdAt
  go_enter Tryz.func64, Tryz.ntmps64
  go_wp2_with fail
  refine (specVal_any x HX.out _).mono ?_
  rintro e w1 ⟨rfl, hw1⟩
  rw [HPV.out]
  obtain ⟨hz1, q1, f1, ht1, hs1, hne⟩ := sbox_in HS.out _ _ hw1
  have HT1 : Hid (Turn E.rb w w1) := ht1
  have c2 := hs1.c2
  have c3 := hs1.c3
  have cf := hs1.fr
  have HS2 : Hid (Sr E k false (w1.setCell ⟨E.rb, 2, none⟩ (.int .i64 k))) := hs1.setL k
  have HT2 : Hid (Turn E.rb w (w1.setCell ⟨E.rb, 2, none⟩ (.int .i64 k))) := ht1.set 2 _
  have HZ2 : Hid ((w1.setCell ⟨E.rb, 2, none⟩ (.int .i64 k)).heap.size = w.heap.size + 1) := by show _ = _; rw [World.size_setCell]; exact hz1
  have c12 : (w1.setCell ⟨E.rb, 2, none⟩ (.int .i64 k)).cell? ⟨E.rb, 1, none⟩ = _ := HS2.out.c1
  have c32 : (w1.setCell ⟨E.rb, 2, none⟩ (.int .i64 k)).cell? ⟨E.rb, 3, none⟩ = _ := HS2.out.c3
  have q2 : ∀ o, (w1.setCell ⟨E.rb, 2, none⟩ (.int .i64 k)).cell? ⟨w.heap.size, o, none⟩ = (#[.int .i64 0, .int .i64 0, .string ⟨#[]⟩, .slice none 0 0] : Array Value)[o]? := fun o => by
    rw [World.cell?_setCell_other (h := fun e => by simp only [Addr.mk.injEq] at e; exact hne e.1)]; exact q1 o
  have f2 : ∀ o, (w1.setCell ⟨E.rb, 2, none⟩ (.int .i64 k)).frozen? ⟨w.heap.size, o, none⟩ = false := fun o => by rw [World.frozen?_setCell]; exact f1 o
  have g2 : ∀ o, (w1.setCell ⟨E.rb, 2, none⟩ (.int .i64 k)).frozen? ⟨E.rb, o, none⟩ = false := HS2.out.fr
  clear hw1 ht1 hs1
  have HS3 : Hid (Sr E k false ((w1.setCell ⟨E.rb, 2, none⟩ (.int .i64 k)).setCell ⟨E.rb, 3, none⟩ (.bool false))) := HS2.out.setB false
  have HT3 : Hid (Turn E.rb w ((w1.setCell ⟨E.rb, 2, none⟩ (.int .i64 k)).setCell ⟨E.rb, 3, none⟩ (.bool false))) := HT2.out.set 3 _
  go_wp2_with (first | (go_at_call 49; refine (specTag_any x _).mono ?_; rintro e w' ⟨rfl, hw'⟩; (first | (rw [HTG.out]; rw [hw']) | rw [HTG.out])))
  obtain ⟨a1, a2, a3⟩ := sbox_out HT3.out (rp_leaf 1 ((p : Int) - 1000000) ByteArray.empty (Nat.zero_le _)) (.int .i64 1) (.int .i64 ((p : Int) - 1000000)) (.string ⟨#[]⟩) (.slice none 0 0)
  exact bodyPost_ret (v := .agg #[.int .i64 1, .int .i64 ((p : Int) - 1000000), .string ⟨#[]⟩, .slice none 0 0]) (by simp [results, Tryz.results64, go_sem, q1]) rfl ⟨_, _, rfl, a2, a1, .inl ⟨k, rfl, HS.out.same HS3.out a3⟩⟩
set_option maxHeartbeats 2000000 in
set_option maxRecDepth 100000 in
theorem read_0n {E : Env} {d' : Nat} {k : Nat} (hk : k ≤ 100) {w : World} (h : Sr E ((k + 1 : Nat) : Int) false w) (x : Int) (hx : x ≤ 9223372036854775807) (h0 : 0 ≤ x) (D : Int) (hD : 1 ≤ D ∧ D ≤ 7) (ht : tagW x = 0) (hv : 2000000 < valW x) : RdAt E D w x (raw false E.H (rT false E.H d') x k) := by
  have HS : Hid (Sr E ((k + 1 : Nat) : Int) false w) := h
  have hD1 := hD.1
  have hD7 := hD.2
  have HX : Hid (x ≤ 9223372036854775807) := hx
  obtain ⟨p, hp⟩ : ∃ p : Nat, valW x = p := ⟨(valW x).toNat, by have := valW_ge x; omega⟩
  have HPV : Hid (valW x = p) := hp
  have HTG : Hid (tagW x = 0) := ht
  have HPB : Hid (p ≤ 9223372036854774000) := by
    show _ ≤ _
    rw [valW_of h0] at hp; omega
  have hpb : (p : Int) ≤ 9223372036854774000 := by have := HPB.out; omega
  have hk1 : (k : Int) ≤ 100 := by omega
  rw [show raw false E.H (rT false E.H d') x k = none by unfold raw; rw [if_pos ht, if_pos ⟨rfl, hv⟩]]
  have hvb : decide ((2000000 : Int) < (p : Int)) = true := by simp; omega
  clear hp h hx ht hD hv
  unfold RdAt
  go_enter Tryz.func64, Tryz.ntmps64
  go_wp2_with fail
  refine (specVal_any x HX.out _).mono ?_
  rintro e w1 ⟨rfl, hw1⟩
  rw [HPV.out]
  obtain ⟨hz1, q1, f1, ht1, hs1, hne⟩ := sbox_in HS.out _ _ hw1
  have HT1 : Hid (Turn E.rb w w1) := ht1
  have c2 := hs1.c2
  have c3 := hs1.c3
  have cf := hs1.fr
  have HS2 : Hid (Sr E k false (w1.setCell ⟨E.rb, 2, none⟩ (.int .i64 k))) := hs1.setL k
  have HT2 : Hid (Turn E.rb w (w1.setCell ⟨E.rb, 2, none⟩ (.int .i64 k))) := ht1.set 2 _
  have HZ2 : Hid ((w1.setCell ⟨E.rb, 2, none⟩ (.int .i64 k)).heap.size = w.heap.size + 1) := by show _ = _; rw [World.size_setCell]; exact hz1
  have c12 : (w1.setCell ⟨E.rb, 2, none⟩ (.int .i64 k)).cell? ⟨E.rb, 1, none⟩ = _ := HS2.out.c1
  have c32 : (w1.setCell ⟨E.rb, 2, none⟩ (.int .i64 k)).cell? ⟨E.rb, 3, none⟩ = _ := HS2.out.c3
  have q2 : ∀ o, (w1.setCell ⟨E.rb, 2, none⟩ (.int .i64 k)).cell? ⟨w.heap.size, o, none⟩ = (#[.int .i64 0, .int .i64 0, .string ⟨#[]⟩, .slice none 0 0] : Array Value)[o]? := fun o => by
    rw [World.cell?_setCell_other (h := fun e => by simp only [Addr.mk.injEq] at e; exact hne e.1)]; exact q1 o
  have f2 : ∀ o, (w1.setCell ⟨E.rb, 2, none⟩ (.int .i64 k)).frozen? ⟨w.heap.size, o, none⟩ = false := fun o => by rw [World.frozen?_setCell]; exact f1 o
  have g2 : ∀ o, (w1.setCell ⟨E.rb, 2, none⟩ (.int .i64 k)).frozen? ⟨E.rb, o, none⟩ = false := HS2.out.fr
  clear hw1 ht1 hs1
  have HS3 : Hid (Sr E k true ((w1.setCell ⟨E.rb, 2, none⟩ (.int .i64 k)).setCell ⟨E.rb, 3, none⟩ (.bool true))) := HS2.out.setB true
  have HT3 : Hid (Turn E.rb w ((w1.setCell ⟨E.rb, 2, none⟩ (.int .i64 k)).setCell ⟨E.rb, 3, none⟩ (.bool true))) := HT2.out.set 3 _
  go_wp2_with (first | (go_at_call 49; refine (specTag_any x _).mono ?_; rintro e w' ⟨rfl, hw'⟩; (first | (rw [HTG.out]; rw [hw']) | rw [HTG.out])))
  obtain ⟨a1, a2, a3⟩ := sbox_out HT3.out (rp_leaf 1 ((p : Int) - 1000000) ByteArray.empty (Nat.zero_le _)) (.int .i64 1) (.int .i64 ((p : Int) - 1000000)) (.string ⟨#[]⟩) (.slice none 0 0)
  exact bodyPost_ret (v := .agg #[.int .i64 1, .int .i64 ((p : Int) - 1000000), .string ⟨#[]⟩, .slice none 0 0]) (by simp [results, Tryz.results64, go_sem, q1]) rfl ⟨_, _, rfl, a2, a1, .inr ⟨trivial, _, HS.out.same HS3.out a3⟩⟩
set_option maxHeartbeats 2000000 in
set_option maxRecDepth 100000 in
theorem read_1y {E : Env} {d' : Nat} {k : Nat} (hk : k ≤ 100) {w : World} (h : Sr E ((k + 1 : Nat) : Int) false w) (x : Int) (hx : x ≤ 9223372036854775807) (h0 : 0 ≤ x) (D : Int) (hD : 1 ≤ D ∧ D ≤ 7) (ht : tagW x = 1) (hv : valW x < E.H.A.length) : RdAt E D w x (raw false E.H (rT false E.H d') x k) := by
  have HS : Hid (Sr E ((k + 1 : Nat) : Int) false w) := h
  have hD1 := hD.1
  have hD7 := hD.2
  have HX : Hid (x ≤ 9223372036854775807) := hx
  obtain ⟨p, hp⟩ : ∃ p : Nat, valW x = p := ⟨(valW x).toNat, by have := valW_ge x; omega⟩
  have HPV : Hid (valW x = p) := hp
  have HTG : Hid (tagW x = 1) := ht
  have HPB : Hid (p ≤ 9223372036854774000) := by
    show _ ≤ _
    rw [valW_of h0] at hp; omega
  have hpb : (p : Int) ≤ 9223372036854774000 := by have := HPB.out; omega
  have hk1 : (k : Int) ≤ 100 := by omega
  have hpl : p < E.H.A.length := by omega
  obtain ⟨s, hs⟩ : ∃ s, E.H.A[p] = s := ⟨_, rfl⟩
  have HSM : Hid (s.size ≤ maxLen) := big_txt h.src.txt s (by rw [← hs]; exact List.getElem_mem _)
  have HAL : Hid (E.av = some ⟨E.ab, E.ao, none⟩) := h.src.al (by omega)
  have HSA : Hid (E.H.A[p] = s) := hs
  rw [show raw false E.H (rT false E.H d') x k = some (.mk 2 0 s [], k) by unfold raw; rw [if_neg (by omega), if_pos ht]; unfold rAtom; rw [if_pos hv, hp, Int.toNat_natCast]; simp [hs, hpl]]
  clear hp h hx ht hD hv
  unfold RdAt
  go_enter Tryz.func64, Tryz.ntmps64
  go_wp2_with fail
  refine (specVal_any x HX.out _).mono ?_
  rintro e w1 ⟨rfl, hw1⟩
  rw [HPV.out]
  obtain ⟨hz1, q1, f1, ht1, hs1, hne⟩ := sbox_in HS.out _ _ hw1
  have HT1 : Hid (Turn E.rb w w1) := ht1
  have c2 := hs1.c2
  have c3 := hs1.c3
  have cf := hs1.fr
  have HS2 : Hid (Sr E k false (w1.setCell ⟨E.rb, 2, none⟩ (.int .i64 k))) := hs1.setL k
  have HT2 : Hid (Turn E.rb w (w1.setCell ⟨E.rb, 2, none⟩ (.int .i64 k))) := ht1.set 2 _
  have HZ2 : Hid ((w1.setCell ⟨E.rb, 2, none⟩ (.int .i64 k)).heap.size = w.heap.size + 1) := by show _ = _; rw [World.size_setCell]; exact hz1
  have c12 : (w1.setCell ⟨E.rb, 2, none⟩ (.int .i64 k)).cell? ⟨E.rb, 1, none⟩ = _ := HS2.out.c1
  have c32 : (w1.setCell ⟨E.rb, 2, none⟩ (.int .i64 k)).cell? ⟨E.rb, 3, none⟩ = _ := HS2.out.c3
  have q2 : ∀ o, (w1.setCell ⟨E.rb, 2, none⟩ (.int .i64 k)).cell? ⟨w.heap.size, o, none⟩ = (#[.int .i64 0, .int .i64 0, .string ⟨#[]⟩, .slice none 0 0] : Array Value)[o]? := fun o => by
    rw [World.cell?_setCell_other (h := fun e => by simp only [Addr.mk.injEq] at e; exact hne e.1)]; exact q1 o
  have f2 : ∀ o, (w1.setCell ⟨E.rb, 2, none⟩ (.int .i64 k)).frozen? ⟨w.heap.size, o, none⟩ = false := fun o => by rw [World.frozen?_setCell]; exact f1 o
  have g2 : ∀ o, (w1.setCell ⟨E.rb, 2, none⟩ (.int .i64 k)).frozen? ⟨E.rb, o, none⟩ = false := HS2.out.fr
  clear hw1 ht1 hs1
  rw [HAL.out] at c12
  have ca : (w1.setCell ⟨E.rb, 2, none⟩ (.int .i64 k)).cell? ⟨E.ab, E.ao + p, none⟩ = some (.string s) := by rw [HS2.out.src.ats p hpl, HSA.out]
  have hAb := HS2.out.src.ok.a
  clear HSA hs
  generalize E.H.A.length = AL at *
  have hd : decide ((p : Int) < (AL : Int)) = true := by simp; omega
  go_wp2_with (first | (go_at_call 49; refine (specTag_any x _).mono ?_; rintro e w' ⟨rfl, hw'⟩; (first | (rw [HTG.out]; rw [hw']) | rw [HTG.out])))
  obtain ⟨a1, a2, a3⟩ := sbox_out HT2.out (rp_leaf 2 0 s HSM.out) (.int .i64 2) (.int .i64 0) (.string s) (.slice none 0 0)
  exact bodyPost_ret (v := .agg #[.int .i64 2, .int .i64 0, .string s, .slice none 0 0]) (by simp [results, Tryz.results64, go_sem, q1]) rfl ⟨_, _, rfl, a2, a1, .inl ⟨k, rfl, HS.out.same HS2.out a3⟩⟩
set_option maxHeartbeats 2000000 in
set_option maxRecDepth 100000 in
theorem read_1n {E : Env} {d' : Nat} {k : Nat} (hk : k ≤ 100) {w : World} (h : Sr E ((k + 1 : Nat) : Int) false w) (x : Int) (hx : x ≤ 9223372036854775807) (h0 : 0 ≤ x) (D : Int) (hD : 1 ≤ D ∧ D ≤ 7) (ht : tagW x = 1) (hv : ¬ valW x < E.H.A.length) : RdAt E D w x (raw false E.H (rT false E.H d') x k) := by
  have HS : Hid (Sr E ((k + 1 : Nat) : Int) false w) := h
  have hD1 := hD.1
  have hD7 := hD.2
  have HX : Hid (x ≤ 9223372036854775807) := hx
  obtain ⟨p, hp⟩ : ∃ p : Nat, valW x = p := ⟨(valW x).toNat, by have := valW_ge x; omega⟩
  have HPV : Hid (valW x = p) := hp
  have HTG : Hid (tagW x = 1) := ht
  have HPB : Hid (p ≤ 9223372036854774000) := by
    show _ ≤ _
    rw [valW_of h0] at hp; omega
  have hpb : (p : Int) ≤ 9223372036854774000 := by have := HPB.out; omega
  have hk1 : (k : Int) ≤ 100 := by omega
  have hpl : ¬ p < E.H.A.length := by omega
  rw [show raw false E.H (rT false E.H d') x k = none by unfold raw; rw [if_neg (by omega), if_pos ht]; unfold rAtom; rw [if_neg hv]]
  clear hp h hx ht hD hv
  unfold RdAt
  go_enter Tryz.func64, Tryz.ntmps64
  go_wp2_with fail
  refine (specVal_any x HX.out _).mono ?_
  rintro e w1 ⟨rfl, hw1⟩
  rw [HPV.out]
  obtain ⟨hz1, q1, f1, ht1, hs1, hne⟩ := sbox_in HS.out _ _ hw1
  have HT1 : Hid (Turn E.rb w w1) := ht1
  have c2 := hs1.c2
  have c3 := hs1.c3
  have cf := hs1.fr
  have HS2 : Hid (Sr E k false (w1.setCell ⟨E.rb, 2, none⟩ (.int .i64 k))) := hs1.setL k
  have HT2 : Hid (Turn E.rb w (w1.setCell ⟨E.rb, 2, none⟩ (.int .i64 k))) := ht1.set 2 _
  have HZ2 : Hid ((w1.setCell ⟨E.rb, 2, none⟩ (.int .i64 k)).heap.size = w.heap.size + 1) := by show _ = _; rw [World.size_setCell]; exact hz1
  have c12 : (w1.setCell ⟨E.rb, 2, none⟩ (.int .i64 k)).cell? ⟨E.rb, 1, none⟩ = _ := HS2.out.c1
  have c32 : (w1.setCell ⟨E.rb, 2, none⟩ (.int .i64 k)).cell? ⟨E.rb, 3, none⟩ = _ := HS2.out.c3
  have q2 : ∀ o, (w1.setCell ⟨E.rb, 2, none⟩ (.int .i64 k)).cell? ⟨w.heap.size, o, none⟩ = (#[.int .i64 0, .int .i64 0, .string ⟨#[]⟩, .slice none 0 0] : Array Value)[o]? := fun o => by
    rw [World.cell?_setCell_other (h := fun e => by simp only [Addr.mk.injEq] at e; exact hne e.1)]; exact q1 o
  have f2 : ∀ o, (w1.setCell ⟨E.rb, 2, none⟩ (.int .i64 k)).frozen? ⟨w.heap.size, o, none⟩ = false := fun o => by rw [World.frozen?_setCell]; exact f1 o
  have g2 : ∀ o, (w1.setCell ⟨E.rb, 2, none⟩ (.int .i64 k)).frozen? ⟨E.rb, o, none⟩ = false := HS2.out.fr
  clear hw1 ht1 hs1
  have hAb := HS2.out.src.ok.a
  generalize E.H.A.length = AL at *
  have hd : decide ((p : Int) < (AL : Int)) = false := by simp; omega
  have HS3 : Hid (Sr E k true ((w1.setCell ⟨E.rb, 2, none⟩ (.int .i64 k)).setCell ⟨E.rb, 3, none⟩ (.bool true))) := HS2.out.setB true
  have HT3 : Hid (Turn E.rb w ((w1.setCell ⟨E.rb, 2, none⟩ (.int .i64 k)).setCell ⟨E.rb, 3, none⟩ (.bool true))) := HT2.out.set 3 _
  go_wp2_with (first | (go_at_call 49; refine (specTag_any x _).mono ?_; rintro e w' ⟨rfl, hw'⟩; (first | (rw [HTG.out]; rw [hw']) | rw [HTG.out])))
  obtain ⟨a1, a2, a3⟩ := sbox_out HT3.out (rp_leaf 0 0 ByteArray.empty (Nat.zero_le _)) (.int .i64 0) (.int .i64 0) (.string ⟨#[]⟩) (.slice none 0 0)
  exact bodyPost_ret (v := .agg #[.int .i64 0, .int .i64 0, .string ⟨#[]⟩, .slice none 0 0]) (by simp [results, Tryz.results64, go_sem, q1]) rfl ⟨_, _, rfl, a2, a1, .inr ⟨trivial, _, HS.out.same HS3.out a3⟩⟩
set_option maxHeartbeats 2000000 in
set_option maxRecDepth 100000 in
theorem read_2 {E : Env} {d' : Nat} {k : Nat} (hk : k ≤ 100) {w : World} (h : Sr E ((k + 1 : Nat) : Int) false w) (x : Int) (hx : x ≤ 9223372036854775807) (h0 : 0 ≤ x) (D : Int) (hD : 1 ≤ D ∧ D ≤ 7) (ht : tagW x = 2) : RdAt E D w x (raw false E.H (rT false E.H d') x k) := by
  have HS : Hid (Sr E ((k + 1 : Nat) : Int) false w) := h
  have hD1 := hD.1
  have hD7 := hD.2
  have HX : Hid (x ≤ 9223372036854775807) := hx
  obtain ⟨p, hp⟩ : ∃ p : Nat, valW x = p := ⟨(valW x).toNat, by have := valW_ge x; omega⟩
  have HPV : Hid (valW x = p) := hp
  have HTG : Hid (tagW x = 2) := ht
  have HPB : Hid (p ≤ 9223372036854774000) := by
    show _ ≤ _
    rw [valW_of h0] at hp; omega
  have hpb : (p : Int) ≤ 9223372036854774000 := by have := HPB.out; omega
  have hk1 : (k : Int) ≤ 100 := by omega
  rw [show raw false E.H (rT false E.H d') x k = some (.mk 3 (p : Int) ByteArray.empty [], k) by unfold raw; rw [if_neg (by omega), if_neg (by omega), if_pos ht, hp]]
  clear hp h hx ht hD
  unfold RdAt
  go_enter Tryz.func64, Tryz.ntmps64
  go_wp2_with fail
  refine (specVal_any x HX.out _).mono ?_
  rintro e w1 ⟨rfl, hw1⟩
  rw [HPV.out]
  obtain ⟨hz1, q1, f1, ht1, hs1, hne⟩ := sbox_in HS.out _ _ hw1
  have HT1 : Hid (Turn E.rb w w1) := ht1
  have c2 := hs1.c2
  have c3 := hs1.c3
  have cf := hs1.fr
  have HS2 : Hid (Sr E k false (w1.setCell ⟨E.rb, 2, none⟩ (.int .i64 k))) := hs1.setL k
  have HT2 : Hid (Turn E.rb w (w1.setCell ⟨E.rb, 2, none⟩ (.int .i64 k))) := ht1.set 2 _
  have HZ2 : Hid ((w1.setCell ⟨E.rb, 2, none⟩ (.int .i64 k)).heap.size = w.heap.size + 1) := by show _ = _; rw [World.size_setCell]; exact hz1
  have c12 : (w1.setCell ⟨E.rb, 2, none⟩ (.int .i64 k)).cell? ⟨E.rb, 1, none⟩ = _ := HS2.out.c1
  have c32 : (w1.setCell ⟨E.rb, 2, none⟩ (.int .i64 k)).cell? ⟨E.rb, 3, none⟩ = _ := HS2.out.c3
  have q2 : ∀ o, (w1.setCell ⟨E.rb, 2, none⟩ (.int .i64 k)).cell? ⟨w.heap.size, o, none⟩ = (#[.int .i64 0, .int .i64 0, .string ⟨#[]⟩, .slice none 0 0] : Array Value)[o]? := fun o => by
    rw [World.cell?_setCell_other (h := fun e => by simp only [Addr.mk.injEq] at e; exact hne e.1)]; exact q1 o
  have f2 : ∀ o, (w1.setCell ⟨E.rb, 2, none⟩ (.int .i64 k)).frozen? ⟨w.heap.size, o, none⟩ = false := fun o => by rw [World.frozen?_setCell]; exact f1 o
  have g2 : ∀ o, (w1.setCell ⟨E.rb, 2, none⟩ (.int .i64 k)).frozen? ⟨E.rb, o, none⟩ = false := HS2.out.fr
  clear hw1 ht1 hs1
  go_wp2_with (first | (go_at_call 49; refine (specTag_any x _).mono ?_; rintro e w' ⟨rfl, hw'⟩; (first | (rw [HTG.out]; rw [hw']) | rw [HTG.out])))
  obtain ⟨a1, a2, a3⟩ := sbox_out HT2.out (rp_leaf 3 (p : Int) ByteArray.empty (Nat.zero_le _)) (.int .i64 3) (.int .i64 (p : Int)) (.string ⟨#[]⟩) (.slice none 0 0)
  exact bodyPost_ret (v := .agg #[.int .i64 3, .int .i64 (p : Int), .string ⟨#[]⟩, .slice none 0 0]) (by simp [results, Tryz.results64, go_sem, q1]) rfl ⟨_, _, rfl, a2, a1, .inl ⟨k, rfl, HS.out.same HS2.out a3⟩⟩
set_option maxHeartbeats 2000000 in
set_option maxRecDepth 100000 in
theorem read_7 {E : Env} {d' : Nat} {k : Nat} (hk : k ≤ 100) {w : World} (h : Sr E ((k + 1 : Nat) : Int) false w) (x : Int) (hx : x ≤ 9223372036854775807) (h0 : 0 ≤ x) (D : Int) (hD : 1 ≤ D ∧ D ≤ 7) (ht : tagW x = 7) : RdAt E D w x (raw false E.H (rT false E.H d') x k) := by
  have HS : Hid (Sr E ((k + 1 : Nat) : Int) false w) := h
  have hD1 := hD.1
  have hD7 := hD.2
  have HX : Hid (x ≤ 9223372036854775807) := hx
  obtain ⟨p, hp⟩ : ∃ p : Nat, valW x = p := ⟨(valW x).toNat, by have := valW_ge x; omega⟩
  have HPV : Hid (valW x = p) := hp
  have HTG : Hid (tagW x = 7) := ht
  have HPB : Hid (p ≤ 9223372036854774000) := by
    show _ ≤ _
    rw [valW_of h0] at hp; omega
  have hpb : (p : Int) ≤ 9223372036854774000 := by have := HPB.out; omega
  have hk1 : (k : Int) ≤ 100 := by omega
  rw [show raw false E.H (rT false E.H d') x k = none by unfold raw; rw [if_neg (by omega), if_neg (by omega), if_neg (by omega), if_neg (by omega), if_neg (by omega), if_pos ht]]
  clear hp h hx ht hD
  unfold RdAt
  go_enter Tryz.func64, Tryz.ntmps64
  go_wp2_with fail
  refine (specVal_any x HX.out _).mono ?_
  rintro e w1 ⟨rfl, hw1⟩
  rw [HPV.out]
  obtain ⟨hz1, q1, f1, ht1, hs1, hne⟩ := sbox_in HS.out _ _ hw1
  have HT1 : Hid (Turn E.rb w w1) := ht1
  have c2 := hs1.c2
  have c3 := hs1.c3
  have cf := hs1.fr
  have HS2 : Hid (Sr E k false (w1.setCell ⟨E.rb, 2, none⟩ (.int .i64 k))) := hs1.setL k
  have HT2 : Hid (Turn E.rb w (w1.setCell ⟨E.rb, 2, none⟩ (.int .i64 k))) := ht1.set 2 _
  have HZ2 : Hid ((w1.setCell ⟨E.rb, 2, none⟩ (.int .i64 k)).heap.size = w.heap.size + 1) := by show _ = _; rw [World.size_setCell]; exact hz1
  have c12 : (w1.setCell ⟨E.rb, 2, none⟩ (.int .i64 k)).cell? ⟨E.rb, 1, none⟩ = _ := HS2.out.c1
  have c32 : (w1.setCell ⟨E.rb, 2, none⟩ (.int .i64 k)).cell? ⟨E.rb, 3, none⟩ = _ := HS2.out.c3
  have q2 : ∀ o, (w1.setCell ⟨E.rb, 2, none⟩ (.int .i64 k)).cell? ⟨w.heap.size, o, none⟩ = (#[.int .i64 0, .int .i64 0, .string ⟨#[]⟩, .slice none 0 0] : Array Value)[o]? := fun o => by
    rw [World.cell?_setCell_other (h := fun e => by simp only [Addr.mk.injEq] at e; exact hne e.1)]; exact q1 o
  have f2 : ∀ o, (w1.setCell ⟨E.rb, 2, none⟩ (.int .i64 k)).frozen? ⟨w.heap.size, o, none⟩ = false := fun o => by rw [World.frozen?_setCell]; exact f1 o
  have g2 : ∀ o, (w1.setCell ⟨E.rb, 2, none⟩ (.int .i64 k)).frozen? ⟨E.rb, o, none⟩ = false := HS2.out.fr
  clear hw1 ht1 hs1
  have HS3 : Hid (Sr E k true ((w1.setCell ⟨E.rb, 2, none⟩ (.int .i64 k)).setCell ⟨E.rb, 3, none⟩ (.bool true))) := HS2.out.setB true
  have HT3 : Hid (Turn E.rb w ((w1.setCell ⟨E.rb, 2, none⟩ (.int .i64 k)).setCell ⟨E.rb, 3, none⟩ (.bool true))) := HT2.out.set 3 _
  go_wp2_with (first | (go_at_call 49; refine (specTag_any x _).mono ?_; rintro e w' ⟨rfl, hw'⟩; (first | (rw [HTG.out]; rw [hw']) | rw [HTG.out])))
  obtain ⟨a1, a2, a3⟩ := sbox_out HT3.out (rp_leaf 0 0 ByteArray.empty (Nat.zero_le _)) (.int .i64 0) (.int .i64 0) (.string ⟨#[]⟩) (.slice none 0 0)
  exact bodyPost_ret (v := .agg #[.int .i64 0, .int .i64 0, .string ⟨#[]⟩, .slice none 0 0]) (by simp [results, Tryz.results64, go_sem, q1]) rfl ⟨_, _, rfl, a2, a1, .inr ⟨trivial, _, HS.out.same HS3.out a3⟩⟩
set_option maxHeartbeats 2000000 in
set_option maxRecDepth 100000 in
theorem read_6 {E : Env} {d' : Nat} {k : Nat} (hk : k ≤ 100) {w : World} (h : Sr E ((k + 1 : Nat) : Int) false w) (x : Int) (hx : x ≤ 9223372036854775807) (h0 : 0 ≤ x) (D : Int) (hD : 1 ≤ D ∧ D ≤ 7) (ht : tagW x = 6) : RdAt E D w x (raw false E.H (rT false E.H d') x k) := by
  have HS : Hid (Sr E ((k + 1 : Nat) : Int) false w) := h
  have hD1 := hD.1
  have hD7 := hD.2
  have HX : Hid (x ≤ 9223372036854775807) := hx
  obtain ⟨p, hp⟩ : ∃ p : Nat, valW x = p := ⟨(valW x).toNat, by have := valW_ge x; omega⟩
  have HPV : Hid (valW x = p) := hp
  have HTG : Hid (tagW x = 6) := ht
  have HPB : Hid (p ≤ 9223372036854774000) := by
    show _ ≤ _
    rw [valW_of h0] at hp; omega
  have hpb : (p : Int) ≤ 9223372036854774000 := by have := HPB.out; omega
  have hk1 : (k : Int) ≤ 100 := by omega
  obtain ⟨R, hR⟩ : ∃ R, raw false E.H (rT false E.H d') x k = R := ⟨_, rfl⟩
  have HR : Hid (R = rBin E.H p k) := by show _ = _; rw [← hR]; unfold raw; rw [if_neg (by omega), if_neg (by omega), if_neg (by omega), if_neg (by omega), if_pos ht, hp]
  rw [hR]
  clear hp h hx ht hD hR
  unfold RdAt
  go_enter Tryz.func64, Tryz.ntmps64
  go_wp2_with fail
  refine (specVal_any x HX.out _).mono ?_
  rintro e w1 ⟨rfl, hw1⟩
  rw [HPV.out]
  obtain ⟨hz1, q1, f1, ht1, hs1, hne⟩ := sbox_in HS.out _ _ hw1
  have HT1 : Hid (Turn E.rb w w1) := ht1
  have c2 := hs1.c2
  have c3 := hs1.c3
  have cf := hs1.fr
  have HS2 : Hid (Sr E k false (w1.setCell ⟨E.rb, 2, none⟩ (.int .i64 k))) := hs1.setL k
  have HT2 : Hid (Turn E.rb w (w1.setCell ⟨E.rb, 2, none⟩ (.int .i64 k))) := ht1.set 2 _
  have HZ2 : Hid ((w1.setCell ⟨E.rb, 2, none⟩ (.int .i64 k)).heap.size = w.heap.size + 1) := by show _ = _; rw [World.size_setCell]; exact hz1
  have c12 : (w1.setCell ⟨E.rb, 2, none⟩ (.int .i64 k)).cell? ⟨E.rb, 1, none⟩ = _ := HS2.out.c1
  have c32 : (w1.setCell ⟨E.rb, 2, none⟩ (.int .i64 k)).cell? ⟨E.rb, 3, none⟩ = _ := HS2.out.c3
  have q2 : ∀ o, (w1.setCell ⟨E.rb, 2, none⟩ (.int .i64 k)).cell? ⟨w.heap.size, o, none⟩ = (#[.int .i64 0, .int .i64 0, .string ⟨#[]⟩, .slice none 0 0] : Array Value)[o]? := fun o => by
    rw [World.cell?_setCell_other (h := fun e => by simp only [Addr.mk.injEq] at e; exact hne e.1)]; exact q1 o
  have f2 : ∀ o, (w1.setCell ⟨E.rb, 2, none⟩ (.int .i64 k)).frozen? ⟨w.heap.size, o, none⟩ = false := fun o => by rw [World.frozen?_setCell]; exact f1 o
  have g2 : ∀ o, (w1.setCell ⟨E.rb, 2, none⟩ (.int .i64 k)).frozen? ⟨E.rb, o, none⟩ = false := HS2.out.fr
  clear hw1 ht1 hs1
  go_wp2_with (first | (go_at_call 49; refine (specTag_any x _).mono ?_; rintro e w' ⟨rfl, hw'⟩; (first | (rw [HTG.out]; rw [hw']) | rw [HTG.out])) | (go_at_call 83; refine (specBin_any HS2.out p HPB.out).mono ?_; rintro e w5 ⟨s, rfl, hs5, ht5, hd5⟩; have HSM : Hid (s.size ≤ maxLen) := hs5; have HT5 : Hid (Turn E.rb w w5) := HT2.out.trans ht5; obtain ⟨q5, f5⟩ := ht5.keep hne (by rw [HZ2.out]; exact Nat.lt_succ_self _) q2 f2; clear ht5))
  obtain ⟨a1, a2, a3⟩ := sbox_out HT5.out (rp_leaf 6 0 s HSM.out) (.int .i64 6) (.int .i64 0) (.string s) (.slice none 0 0)
  refine bodyPost_ret (v := .agg #[.int .i64 6, .int .i64 0, .string s, .slice none 0 0]) (by simp [results, Tryz.results64, go_sem, q5]) rfl ⟨_, _, rfl, a2, a1, ?_⟩
  rw [HR.out]
  unfold rBin
  rw [Int.toNat_natCast]
  rcases hd5 with ⟨n, hc, htx, hs⟩ | ⟨hn, hs⟩
  · rw [hc]
    exact .inl ⟨k, by show bin k (txt _) = _; rw [htx]; rfl, HS.out.same hs a3⟩
  · refine .inr ⟨?_, _, HS.out.same hs a3⟩
    cases hc : cnt E.H (p : Int) 40 with
    | none => rfl
    | some n => show bin k (txt _) = _; rw [hn n hc]; rfl
set_option maxHeartbeats 2000000 in
set_option maxRecDepth 100000 in
theorem read_4 {E : Env} {d' : Nat} (ih : ReadC E d') (hd' : d' ≤ 6) {k : Nat} (hk : k ≤ 100) {w : World} (h : Sr E ((k + 1 : Nat) : Int) false w) (x : Int) (hx : x ≤ 9223372036854775807) (h0 : 0 ≤ x) (D : Int) (hD : 1 ≤ D ∧ D ≤ 7) (ht : tagW x = 4) (hDd : D = ((d' + 1 : Nat) : Int)) : RdAt E D w x (raw false E.H (rT false E.H d') x k) := by
  have HS : Hid (Sr E ((k + 1 : Nat) : Int) false w) := h
  have hD1 := hD.1
  have hD7 := hD.2
  have HX : Hid (x ≤ 9223372036854775807) := hx
  obtain ⟨p, hp⟩ : ∃ p : Nat, valW x = p := ⟨(valW x).toNat, by have := valW_ge x; omega⟩
  have HPV : Hid (valW x = p) := hp
  have HTG : Hid (tagW x = 4) := ht
  have HPB : Hid (p ≤ 9223372036854774000) := by
    show _ ≤ _
    rw [valW_of h0] at hp; omega
  have hpb : (p : Int) ≤ 9223372036854774000 := by have := HPB.out; omega
  have hk1 : (k : Int) ≤ 100 := by omega
  have IH : Hid (ReadC E d') := ih
  have HD6 : Hid (d' ≤ 6) := hd'
  have HK : Hid (k ≤ 100) := hk
  have HDD : Hid (D = ((d' + 1 : Nat) : Int)) := hDd
  obtain ⟨R, hR⟩ : ∃ R, raw false E.H (rT false E.H d') x k = R := ⟨_, rfl⟩
  have HR : Hid (R = rCnt E.H (rT false E.H d') p k) := by show _ = _; rw [← hR]; unfold raw; rw [if_neg (by omega), if_neg (by omega), if_neg (by omega), if_pos ht, hp]
  rw [hR]
  clear hp h hx ht hD hR ih hDd
  unfold RdAt
  go_enter Tryz.func64, Tryz.ntmps64
  go_wp2_with fail
  refine (specVal_any x HX.out _).mono ?_
  rintro e w1 ⟨rfl, hw1⟩
  rw [HPV.out]
  obtain ⟨hz1, q1, f1, ht1, hs1, hne⟩ := sbox_in HS.out _ _ hw1
  have HT1 : Hid (Turn E.rb w w1) := ht1
  have c2 := hs1.c2
  have c3 := hs1.c3
  have cf := hs1.fr
  have HS2 : Hid (Sr E k false (w1.setCell ⟨E.rb, 2, none⟩ (.int .i64 k))) := hs1.setL k
  have HT2 : Hid (Turn E.rb w (w1.setCell ⟨E.rb, 2, none⟩ (.int .i64 k))) := ht1.set 2 _
  have HZ2 : Hid ((w1.setCell ⟨E.rb, 2, none⟩ (.int .i64 k)).heap.size = w.heap.size + 1) := by show _ = _; rw [World.size_setCell]; exact hz1
  have c12 : (w1.setCell ⟨E.rb, 2, none⟩ (.int .i64 k)).cell? ⟨E.rb, 1, none⟩ = _ := HS2.out.c1
  have c32 : (w1.setCell ⟨E.rb, 2, none⟩ (.int .i64 k)).cell? ⟨E.rb, 3, none⟩ = _ := HS2.out.c3
  have q2 : ∀ o, (w1.setCell ⟨E.rb, 2, none⟩ (.int .i64 k)).cell? ⟨w.heap.size, o, none⟩ = (#[.int .i64 0, .int .i64 0, .string ⟨#[]⟩, .slice none 0 0] : Array Value)[o]? := fun o => by
    rw [World.cell?_setCell_other (h := fun e => by simp only [Addr.mk.injEq] at e; exact hne e.1)]; exact q1 o
  have f2 : ∀ o, (w1.setCell ⟨E.rb, 2, none⟩ (.int .i64 k)).frozen? ⟨w.heap.size, o, none⟩ = false := fun o => by rw [World.frozen?_setCell]; exact f1 o
  have g2 : ∀ o, (w1.setCell ⟨E.rb, 2, none⟩ (.int .i64 k)).frozen? ⟨E.rb, o, none⟩ = false := HS2.out.fr
  clear hw1 ht1 hs1
  go_wp2_with (first | (go_at_call 49; refine (specTag_any x _).mono ?_; rintro e w' ⟨rfl, hw'⟩; (first | (rw [HTG.out]; rw [hw']) | rw [HTG.out])) | (go_at_call 82; rw [HDD.out]; refine (specTuple_any IH.out HD6.out HS2.out HK.out p HPB.out).mono ?_; rintro e w5 ⟨tt, vv, rfl, hv5, ht5, hd5⟩; obtain ⟨va, vb, vc, vd, ve, vf, rfl⟩ := hv5.form; have HV5 : Hid (RpV (fun b => w.heap.size + 1 ≤ b) w5 tt (.agg #[.int .i64 va, .int .i64 vb, .string vc, .slice vd ve vf])) := (by rw [HZ2.out] at hv5; exact hv5); clear hv5; have HT5 : Hid (Turn E.rb w w5) := HT2.out.trans ht5; obtain ⟨q5, f5⟩ := ht5.keep hne (by rw [HZ2.out]; exact Nat.lt_succ_self _) q2 f2; clear ht5))
  obtain ⟨a1, a2, a3⟩ := sbox_out HT5.out HV5.out (.int .i64 va) (.int .i64 vb) (.string vc) (.slice vd ve vf)
  refine bodyPost_ret (v := .agg #[.int .i64 va, .int .i64 vb, .string vc, .slice vd ve vf]) (by simp [results, Tryz.results64, go_sem, q5]) rfl ⟨_, _, rfl, a2, a1, ?_⟩
  rw [HR.out]
  rcases hd5 with ⟨y, hy, hs⟩ | ⟨hn, z, hs⟩
  · exact .inl ⟨y, hy, HS.out.same hs a3⟩
  · exact .inr ⟨hn, z, HS.out.same hs a3⟩
set_option maxHeartbeats 2000000 in
set_option maxRecDepth 100000 in
theorem read_3 {E : Env} {d' : Nat} (ih : ReadC E d') (hd' : d' ≤ 6) {k : Nat} (hk : k ≤ 100) {w : World} (h : Sr E ((k + 1 : Nat) : Int) false w) (x : Int) (hx : x ≤ 9223372036854775807) (h0 : 0 ≤ x) (D : Int) (hD : 1 ≤ D ∧ D ≤ 7) (ht : tagW x = 3) (hDd : D = ((d' + 1 : Nat) : Int)) : RdAt E D w x (raw false E.H (rT false E.H d') x k) := by
  have HS : Hid (Sr E ((k + 1 : Nat) : Int) false w) := h
  have hD1 := hD.1
  have hD7 := hD.2
  have HX : Hid (x ≤ 9223372036854775807) := hx
  obtain ⟨p, hp⟩ : ∃ p : Nat, valW x = p := ⟨(valW x).toNat, by have := valW_ge x; omega⟩
  have HPV : Hid (valW x = p) := hp
  have HTG : Hid (tagW x = 3) := ht
  have HPB : Hid (p ≤ 9223372036854774000) := by
    show _ ≤ _
    rw [valW_of h0] at hp; omega
  have hpb : (p : Int) ≤ 9223372036854774000 := by have := HPB.out; omega
  have hk1 : (k : Int) ≤ 100 := by omega
  have IH : Hid (ReadC E d') := ih
  have HD6 : Hid (d' ≤ 6) := hd'
  have HK : Hid (k ≤ 100) := hk
  have HDD : Hid (D = ((d' + 1 : Nat) : Int)) := hDd
  obtain ⟨R, hR⟩ : ∃ R, raw false E.H (rT false E.H d') x k = R := ⟨_, rfl⟩
  have HR : Hid (R = tup 5 (rL E.H (rT false E.H d') 20 x k)) := by show _ = _; rw [← hR]; unfold raw; rw [if_neg (by omega), if_neg (by omega), if_neg (by omega), if_neg (by omega), if_neg (by omega), if_neg (by omega)]; rfl
  rw [hR]
  clear hp h hx ht hD hR ih hDd
  unfold RdAt
  go_enter Tryz.func64, Tryz.ntmps64
  go_wp2_with fail
  refine (specVal_any x HX.out _).mono ?_
  rintro e w1 ⟨rfl, hw1⟩
  rw [HPV.out]
  obtain ⟨hz1, q1, f1, ht1, hs1, hne⟩ := sbox_in HS.out _ _ hw1
  have HT1 : Hid (Turn E.rb w w1) := ht1
  have c2 := hs1.c2
  have c3 := hs1.c3
  have cf := hs1.fr
  have HS2 : Hid (Sr E k false (w1.setCell ⟨E.rb, 2, none⟩ (.int .i64 k))) := hs1.setL k
  have HT2 : Hid (Turn E.rb w (w1.setCell ⟨E.rb, 2, none⟩ (.int .i64 k))) := ht1.set 2 _
  have HZ2 : Hid ((w1.setCell ⟨E.rb, 2, none⟩ (.int .i64 k)).heap.size = w.heap.size + 1) := by show _ = _; rw [World.size_setCell]; exact hz1
  have c12 : (w1.setCell ⟨E.rb, 2, none⟩ (.int .i64 k)).cell? ⟨E.rb, 1, none⟩ = _ := HS2.out.c1
  have c32 : (w1.setCell ⟨E.rb, 2, none⟩ (.int .i64 k)).cell? ⟨E.rb, 3, none⟩ = _ := HS2.out.c3
  have q2 : ∀ o, (w1.setCell ⟨E.rb, 2, none⟩ (.int .i64 k)).cell? ⟨w.heap.size, o, none⟩ = (#[.int .i64 0, .int .i64 0, .string ⟨#[]⟩, .slice none 0 0] : Array Value)[o]? := fun o => by
    rw [World.cell?_setCell_other (h := fun e => by simp only [Addr.mk.injEq] at e; exact hne e.1)]; exact q1 o
  have f2 : ∀ o, (w1.setCell ⟨E.rb, 2, none⟩ (.int .i64 k)).frozen? ⟨w.heap.size, o, none⟩ = false := fun o => by rw [World.frozen?_setCell]; exact f1 o
  have g2 : ∀ o, (w1.setCell ⟨E.rb, 2, none⟩ (.int .i64 k)).frozen? ⟨E.rb, o, none⟩ = false := HS2.out.fr
  clear hw1 ht1 hs1
  go_wp2_with (first | (go_at_call 49; refine (specTag_any x _).mono ?_; rintro e w' ⟨rfl, hw'⟩; (first | (rw [HTG.out]; rw [hw']) | rw [HTG.out])) | (go_at_call 81; rw [HDD.out]; refine (specCons_any IH.out HD6.out HS2.out HK.out x HX.out).mono ?_; rintro e w5 ⟨tt, vv, rfl, hv5, ht5, hd5⟩; obtain ⟨va, vb, vc, vd, ve, vf, rfl⟩ := hv5.form; have HV5 : Hid (RpV (fun b => w.heap.size + 1 ≤ b) w5 tt (.agg #[.int .i64 va, .int .i64 vb, .string vc, .slice vd ve vf])) := (by rw [HZ2.out] at hv5; exact hv5); clear hv5; have HT5 : Hid (Turn E.rb w w5) := HT2.out.trans ht5; obtain ⟨q5, f5⟩ := ht5.keep hne (by rw [HZ2.out]; exact Nat.lt_succ_self _) q2 f2; clear ht5))
  obtain ⟨a1, a2, a3⟩ := sbox_out HT5.out HV5.out (.int .i64 va) (.int .i64 vb) (.string vc) (.slice vd ve vf)
  refine bodyPost_ret (v := .agg #[.int .i64 va, .int .i64 vb, .string vc, .slice vd ve vf]) (by simp [results, Tryz.results64, go_sem, q5]) rfl ⟨_, _, rfl, a2, a1, ?_⟩
  rw [HR.out]
  rcases hd5 with ⟨y, hy, hs⟩ | ⟨hn, z, hs⟩
  · exact .inl ⟨y, hy, HS.out.same hs a3⟩
  · exact .inr ⟨hn, z, HS.out.same hs a3⟩
set_option maxHeartbeats 2000000 in
set_option maxRecDepth 100000 in
theorem read_5 {E : Env} {d' : Nat} (ih : ReadC E d') (hd' : d' ≤ 6) {k : Nat} (hk : k ≤ 100) {w : World} (h : Sr E ((k + 1 : Nat) : Int) false w) (x : Int) (hx : x ≤ 9223372036854775807) (h0 : 0 ≤ x) (D : Int) (hD : 1 ≤ D ∧ D ≤ 7) (ht : tagW x = 5) (hDd : D = ((d' + 1 : Nat) : Int)) : RdAt E D w x (raw false E.H (rT false E.H d') x k) := by
  have HS : Hid (Sr E ((k + 1 : Nat) : Int) false w) := h
  have hD1 := hD.1
  have hD7 := hD.2
  have HX : Hid (x ≤ 9223372036854775807) := hx
  obtain ⟨p, hp⟩ : ∃ p : Nat, valW x = p := ⟨(valW x).toNat, by have := valW_ge x; omega⟩
  have HPV : Hid (valW x = p) := hp
  have HTG : Hid (tagW x = 5) := ht
  have HPB : Hid (p ≤ 9223372036854774000) := by
    show _ ≤ _
    rw [valW_of h0] at hp; omega
  have hpb : (p : Int) ≤ 9223372036854774000 := by have := HPB.out; omega
  have hk1 : (k : Int) ≤ 100 := by omega
  have IH : Hid (ReadC E d') := ih
  have HD6 : Hid (d' ≤ 6) := hd'
  have HK : Hid (k ≤ 100) := hk
  have HDD : Hid (D = ((d' + 1 : Nat) : Int)) := hDd
  obtain ⟨R, hR⟩ : ∃ R, raw false E.H (rT false E.H d') x k = R := ⟨_, rfl⟩
  have HR : Hid (R = tup 5 (rL E.H (rT false E.H d') 20 x k)) := by show _ = _; rw [← hR]; unfold raw; rw [if_neg (by omega), if_neg (by omega), if_neg (by omega), if_neg (by omega), if_neg (by omega), if_neg (by omega)]; rfl
  rw [hR]
  clear hp h hx ht hD hR ih hDd
  unfold RdAt
  go_enter Tryz.func64, Tryz.ntmps64
  go_wp2_with fail
  refine (specVal_any x HX.out _).mono ?_
  rintro e w1 ⟨rfl, hw1⟩
  rw [HPV.out]
  obtain ⟨hz1, q1, f1, ht1, hs1, hne⟩ := sbox_in HS.out _ _ hw1
  have HT1 : Hid (Turn E.rb w w1) := ht1
  have c2 := hs1.c2
  have c3 := hs1.c3
  have cf := hs1.fr
  have HS2 : Hid (Sr E k false (w1.setCell ⟨E.rb, 2, none⟩ (.int .i64 k))) := hs1.setL k
  have HT2 : Hid (Turn E.rb w (w1.setCell ⟨E.rb, 2, none⟩ (.int .i64 k))) := ht1.set 2 _
  have HZ2 : Hid ((w1.setCell ⟨E.rb, 2, none⟩ (.int .i64 k)).heap.size = w.heap.size + 1) := by show _ = _; rw [World.size_setCell]; exact hz1
  have c12 : (w1.setCell ⟨E.rb, 2, none⟩ (.int .i64 k)).cell? ⟨E.rb, 1, none⟩ = _ := HS2.out.c1
  have c32 : (w1.setCell ⟨E.rb, 2, none⟩ (.int .i64 k)).cell? ⟨E.rb, 3, none⟩ = _ := HS2.out.c3
  have q2 : ∀ o, (w1.setCell ⟨E.rb, 2, none⟩ (.int .i64 k)).cell? ⟨w.heap.size, o, none⟩ = (#[.int .i64 0, .int .i64 0, .string ⟨#[]⟩, .slice none 0 0] : Array Value)[o]? := fun o => by
    rw [World.cell?_setCell_other (h := fun e => by simp only [Addr.mk.injEq] at e; exact hne e.1)]; exact q1 o
  have f2 : ∀ o, (w1.setCell ⟨E.rb, 2, none⟩ (.int .i64 k)).frozen? ⟨w.heap.size, o, none⟩ = false := fun o => by rw [World.frozen?_setCell]; exact f1 o
  have g2 : ∀ o, (w1.setCell ⟨E.rb, 2, none⟩ (.int .i64 k)).frozen? ⟨E.rb, o, none⟩ = false := HS2.out.fr
  clear hw1 ht1 hs1
  go_wp2_with (first | (go_at_call 49; refine (specTag_any x _).mono ?_; rintro e w' ⟨rfl, hw'⟩; (first | (rw [HTG.out]; rw [hw']) | rw [HTG.out])) | (go_at_call 81; rw [HDD.out]; refine (specCons_any IH.out HD6.out HS2.out HK.out x HX.out).mono ?_; rintro e w5 ⟨tt, vv, rfl, hv5, ht5, hd5⟩; obtain ⟨va, vb, vc, vd, ve, vf, rfl⟩ := hv5.form; have HV5 : Hid (RpV (fun b => w.heap.size + 1 ≤ b) w5 tt (.agg #[.int .i64 va, .int .i64 vb, .string vc, .slice vd ve vf])) := (by rw [HZ2.out] at hv5; exact hv5); clear hv5; have HT5 : Hid (Turn E.rb w w5) := HT2.out.trans ht5; obtain ⟨q5, f5⟩ := ht5.keep hne (by rw [HZ2.out]; exact Nat.lt_succ_self _) q2 f2; clear ht5))
  obtain ⟨a1, a2, a3⟩ := sbox_out HT5.out HV5.out (.int .i64 va) (.int .i64 vb) (.string vc) (.slice vd ve vf)
  refine bodyPost_ret (v := .agg #[.int .i64 va, .int .i64 vb, .string vc, .slice vd ve vf]) (by simp [results, Tryz.results64, go_sem, q5]) rfl ⟨_, _, rfl, a2, a1, ?_⟩
  rw [HR.out]
  rcases hd5 with ⟨y, hy, hs⟩ | ⟨hn, z, hs⟩
  · exact .inl ⟨y, hy, HS.out.same hs a3⟩
  · exact .inr ⟨hn, z, HS.out.same hs a3⟩
theorem read_of {E : Env} {d : Nat} (hd6 : d ≤ 6) (ih : ∀ d', d = d' + 1 → ReadC E d') : ReadC E d := by
  intro w left x h hl hx
  have key : ∀ R, rT false E.H d x left = R → RdAt E d w x R → Calls Tryz.prog 64 #[.pointer (some ⟨E.rb, 0, none⟩), .int .i64 x, .int .i64 d] w fun e w' => ∃ t v, e = .returned v ∧ RpV (fun b => w.heap.size ≤ b) w' t v ∧ Turn E.rb w w' ∧
    ((∃ y : Nat, rT false E.H d x left = some (t, y) ∧ Sr E y false w') ∨ (rT false E.H d x left = none ∧ ∃ z : Int, Sr E z true w')) := fun R hR hA => by rw [hR]; exact hA
  by_cases h0 : 0 ≤ x
  · cases d with
    | zero => exact key none (by rw [rT]) (read_refuse hl h x hx _ (by omega) (.inr (.inl ⟨h0, by omega⟩)))
    | succ d' =>
      cases left with
      | zero => exact key none (by rw [rT, if_neg (by simp)]) (read_refuse hl h x hx _ (by omega) (.inr (.inr ⟨h0, by omega, rfl⟩)))
      | succ k =>
        have hi := ih d' rfl
        refine key _ (by rw [rT, if_pos ⟨by simpa using h0, by omega⟩, held_false]) ?_
        have hk : k ≤ 100 := by omega
        have hD : (1 : Int) ≤ ((d' + 1 : Nat) : Int) ∧ ((d' + 1 : Nat) : Int) ≤ 7 := by omega
        have ht := tagW_ge x
        have hc : tagW x = 0 ∨ tagW x = 1 ∨ tagW x = 2 ∨ tagW x = 3 ∨ tagW x = 4 ∨ tagW x = 5 ∨ tagW x = 6 ∨ tagW x = 7 := by omega
        rcases hc with hc | hc | hc | hc | hc | hc | hc | hc
        · by_cases hv : 2000000 < valW x
          · exact read_0n hk h x hx h0 _ hD hc hv
          · exact read_0y hk h x hx h0 _ hD hc hv
        · by_cases hv : valW x < E.H.A.length
          · exact read_1y hk h x hx h0 _ hD hc hv
          · exact read_1n hk h x hx h0 _ hD hc hv
        · exact read_2 hk h x hx h0 _ hD hc
        · exact read_3 hi (by omega) hk h x hx h0 _ hD hc rfl
        · exact read_4 hi (by omega) hk h x hx h0 _ hD hc rfl
        · exact read_5 hi (by omega) hk h x hx h0 _ hD hc rfl
        · exact read_6 hk h x hx h0 _ hD hc
        · exact read_7 hk h x hx h0 _ hD hc
  · exact key none (by cases d with | zero => rw [rT] | succ d => rw [rT, if_neg (by simp; omega)]) (read_refuse hl h x hx _ (by omega) (.inl (by omega)))
theorem read_all (E : Env) : ∀ d : Nat, d ≤ 6 → ReadC E d
  | 0, h => read_of h (fun d' e => by omega)
  | d + 1, h => read_of h (fun d' e => by
      have : d' = d := by omega
      subst this
      exact read_all E d' (by omega))
end Go.Proofs.YtjjmikfbongccaaGreatDoor
namespace Go.Proofs.YtjjmikfbongccaaGreatDoor
open Go.RowKit
set_option linter.unusedVariables false

theorem sread_yes {E : Env} {d : Nat} (hc : ReadC E d) {w : World} {left : Nat} {x : Int} (hs : Sr E left false w) (hl : left ≤ 100) (hx : x ≤ 9223372036854775807) {t : Tm} {y : Nat} (he : rT false E.H d x left = some (t, y)) :
    Calls Tryz.prog 64 #[.pointer (some ⟨E.rb, 0, none⟩), .int .i64 x, .int .i64 d] w fun e w' => ∃ a b c d' e' f, e = .returned (.agg #[.int .i64 a, .int .i64 b, .string c, .slice d' e' f]) ∧ RpV (fun b => w.heap.size ≤ b) w' t (.agg #[.int .i64 a, .int .i64 b, .string c, .slice d' e' f]) ∧ Turn E.rb w w' ∧ Sr E y false w' := by
  refine (hc w left x hs hl hx).mono ?_
  rintro e w' ⟨t', v, rfl, hv, ht, ⟨y', hy, hs'⟩ | ⟨hn, _⟩⟩
  · rw [he] at hy
    simp only [Option.some.injEq, Prod.mk.injEq] at hy
    obtain ⟨rfl, rfl⟩ := hy
    obtain ⟨a, b, c, d', e', f, rfl⟩ := hv.form
    exact ⟨a, b, c, d', e', f, rfl, hv, ht, hs'⟩
  · rw [he] at hn; cases hn
theorem sread_no {E : Env} {d : Nat} (hc : ReadC E d) {w : World} {left : Nat} {x : Int} (hs : Sr E left false w) (hl : left ≤ 100) (hx : x ≤ 9223372036854775807) (he : rT false E.H d x left = none) :
    Calls Tryz.prog 64 #[.pointer (some ⟨E.rb, 0, none⟩), .int .i64 x, .int .i64 d] w fun e w' => ∃ a b c d' e' f, e = .returned (.agg #[.int .i64 a, .int .i64 b, .string c, .slice d' e' f]) ∧ Turn E.rb w w' ∧ ∃ z : Int, Sr E z true w' := by
  refine (hc w left x hs hl hx).mono ?_
  rintro e w' ⟨t', v, rfl, hv, ht, ⟨y', hy, hs'⟩ | ⟨hn, z, hs'⟩⟩
  · rw [he] at hy; cases hy
  · obtain ⟨a, b, c, d', e', f, rfl⟩ := hv.form
    exact ⟨a, b, c, d', e', f, rfl, ht, z, hs'⟩
abbrev E2 (E : Env) (w : World) : Env := { E with rb := w.heap.size + 1 }
theorem sread_in {E : Env} {w : World} (h : Src E w) (W : World) (hW : ((w.alloc (.cells #[.int .i64 0, .int .i64 0, .string ⟨#[]⟩, .slice none 0 0] 66)).alloc (.cells #[.slice E.wv E.H.N E.cap, .slice E.av E.H.A.length E.acap, .int .i64 100, .bool false] 102)) = W) :
    Sr (E2 E w) 100 false W ∧ (∀ o, W.cell? ⟨w.heap.size, o, none⟩ = (#[.int .i64 0, .int .i64 0, .string ⟨#[]⟩, .slice none 0 0] : Array Value)[o]?) ∧ (∀ o, W.frozen? ⟨w.heap.size, o, none⟩ = false) ∧ W.heap.size = w.heap.size + 2 ∧ Below w.heap.size w W := by
  have s1 : (w.alloc (.cells #[.int .i64 0, .int .i64 0, .string ⟨#[]⟩, .slice none 0 0] 66)).heap.size = w.heap.size + 1 := World.size_alloc _ _
  have b1 : Below w.heap.size w (w.alloc (.cells #[.int .i64 0, .int .i64 0, .string ⟨#[]⟩, .slice none 0 0] 66)) := (Below.refl _ _).alloc (Nat.le_refl _) _
  have q1 : ∀ o, (w.alloc (.cells #[.int .i64 0, .int .i64 0, .string ⟨#[]⟩, .slice none 0 0] 66)).cell? ⟨w.heap.size, o, none⟩ = (#[.int .i64 0, .int .i64 0, .string ⟨#[]⟩, .slice none 0 0] : Array Value)[o]? := fun o => World.cell?_alloc_new w _ _ o
  have f1 : ∀ o, (w.alloc (.cells #[.int .i64 0, .int .i64 0, .string ⟨#[]⟩, .slice none 0 0] 66)).frozen? ⟨w.heap.size, o, none⟩ = false := fun o => World.frozen?_alloc_new w _ _ o
  generalize (w.alloc (.cells #[.int .i64 0, .int .i64 0, .string ⟨#[]⟩, .slice none 0 0] 66)) = w1 at *
  have k2 : Below w1.heap.size w1 (w1.alloc (.cells #[.slice E.wv E.H.N E.cap, .slice E.av E.H.A.length E.acap, .int .i64 100, .bool false] 102)) := (Below.refl _ _).alloc (Nat.le_refl _) _
  have q2 : ∀ o, (w1.alloc (.cells #[.slice E.wv E.H.N E.cap, .slice E.av E.H.A.length E.acap, .int .i64 100, .bool false] 102)).cell? ⟨w.heap.size + 1, o, none⟩ = (#[.slice E.wv E.H.N E.cap, .slice E.av E.H.A.length E.acap, .int .i64 100, .bool false] : Array Value)[o]? := fun o => by rw [← s1]; exact World.cell?_alloc_new w1 _ _ o
  have f2 : ∀ o, (w1.alloc (.cells #[.slice E.wv E.H.N E.cap, .slice E.av E.H.A.length E.acap, .int .i64 100, .bool false] 102)).frozen? ⟨w.heap.size + 1, o, none⟩ = false := fun o => by rw [← s1]; exact World.frozen?_alloc_new w1 _ _ o
  have s2 : (w1.alloc (.cells #[.slice E.wv E.H.N E.cap, .slice E.av E.H.A.length E.acap, .int .i64 100, .bool false] 102)).heap.size = w.heap.size + 2 := by rw [World.size_alloc, s1]
  rw [hW] at k2 q2 f2 s2
  have hb : Below w.heap.size w W := b1.trans (k2.mono (by omega))
  have hs := h.below hb
  refine ⟨⟨q2 0, q2 1, q2 2, q2 3, f2, ⟨hs.ok, hs.wl, hs.al, hs.ws, hs.ats, hs.cp, hs.big, hs.txt⟩, fun hn => ?_, fun hn => ?_⟩, fun o => ?_, fun o => ?_, s2, hb⟩
  · have : E.b < w.heap.size := World.block_lt_of_cell? w _ (h.ws 0 (by show 0 < E.H.N; have : E.H.N ≠ 0 := hn; omega))
    show E.b ≠ w.heap.size + 1
    omega
  · have : E.ab < w.heap.size := World.block_lt_of_cell? w _ (h.ats 0 (by have : E.H.A.length ≠ 0 := hn; omega))
    show E.ab ≠ w.heap.size + 1
    omega
  · rw [k2.cell (p := ⟨w.heap.size, o, none⟩) (by show w.heap.size < _; omega)]; exact q1 o
  · rw [k2.frozen (p := ⟨w.heap.size, o, none⟩) (by show w.heap.size < _; omega)]; exact f1 o

/-- What both kinds of ReadTerm answer. -/
def ReadP (E : Env) (w : World) (x : Int) (e : Ending) (w' : World) : Prop :=
  ∃ a b c d' e' f, e = .returned (.tuple #[.agg #[.int .i64 a, .int .i64 b, .string c, .slice d' e' f], .bool (readT E.H x).isSome]) ∧ Below w.heap.size w w' ∧
    ((∃ t, readT E.H x = some t ∧ RpV (fun b => w.heap.size ≤ b) w' t (.agg #[.int .i64 a, .int .i64 b, .string c, .slice d' e' f])) ∨ (readT E.H x = none ∧ Value.agg #[.int .i64 a, .int .i64 b, .string c, .slice d' e' f] = zT))
theorem readT_spec {H : Hp} (ho : H.ok) (x : Int) : (∀ t y, rT false H 6 x 100 = some (t, y) → readT H x = if (look t 6 100).isSome then some t else none) ∧ (rT false H 6 x 100 = none → readT H x = none) := by
  have key := read_one ho x
  refine ⟨fun t y h => ?_, fun h => ?_⟩
  · unfold readT
    cases hq : rT true H 6 x 100 with
    | none =>
      split
      · rename_i hl
        have := (key t y).2 ⟨h, hl⟩
        rw [hq] at this; cases this
      · rfl
    | some p =>
      obtain ⟨t', y'⟩ := p
      obtain ⟨h1, h2⟩ := (key t' y').1 hq
      rw [h] at h1
      simp only [Option.some.injEq, Prod.mk.injEq] at h1
      obtain ⟨rfl, rfl⟩ := h1
      rw [if_pos h2]; rfl
  · unfold readT
    cases hq : rT true H 6 x 100 with
    | none => rfl
    | some p =>
      obtain ⟨t', y'⟩ := p
      have := ((key t' y').1 hq).1
      rw [h] at this; cases this

end Go.Proofs.YtjjmikfbongccaaGreatDoor

namespace Go.Proofs.YtjjmikfbongccaaGreatDoor
open Go.RowKit
set_option linter.unusedVariables false

/-! ### The atoms -/
def atomI (L : List ByteArray) (i : Nat) : Bool := Atom.atomB (L.getD i ByteArray.empty) && decide (idx L (L.getD i ByteArray.empty) = i)
def atomsTo (L : List ByteArray) (n : Nat) : Bool := (List.range n).all (atomI L)
def atomsB (L : List ByteArray) : Bool := decide (L.length ≤ 200) && atomsTo L L.length
theorem atomsTo_succ (L : List ByteArray) (n : Nat) : atomsTo L (n + 1) = (atomsTo L n && atomI L n) := by
  unfold atomsTo
  rw [List.range_succ, List.all_append, List.all_cons, List.all_nil, Bool.and_true]
theorem atomsTo_bad (L : List ByteArray) (i n : Nat) (hi : i < n) (h : atomI L i = false) : atomsTo L n = false := by
  unfold atomsTo
  rw [List.all_eq_false]
  exact ⟨i, List.mem_range.2 hi, by rw [h]; simp⟩
theorem getD_lt (L : List ByteArray) (i : Nat) (h : i < L.length) : L.getD i ByteArray.empty = L[i] := by simp [h]

set_option maxHeartbeats 1000000 in
theorem specAtoms_any (b o cap : Nat) (av : Option Addr) (L : List ByteArray) (w : World) (hav : L.length ≠ 0 → av = some ⟨b, o, none⟩) (hr : Txt w b o L) (hN : L.length ≤ 1048576) (hs : ∀ s, s ∈ L → s.size ≤ maxLen) :
    Calls Tryz.prog 32 #[.slice av L.length cap] w fun e w' => e = .returned (.bool (atomsB L)) ∧ w' = w := by
  have HR : Hid (Txt w b o L) := hr
  have HS : Hid (∀ s, s ∈ L → s.size ≤ maxLen) := hs
  have HAV : Hid (L.length ≠ 0 → av = some ⟨b, o, none⟩) := hav
  have HN : Hid (L.length ≤ 1048576) := hN
  clear hr hs hav
  go_enter Tryz.func32, Tryz.ntmps32
  go_wp2_with fail
  go_loop [3] (fun i => ∃ m : Nat, m ≤ L.length ∧ i = .int .i64 m ∧ atomsTo L m = true) (fun i => L.length - (intOf i).toNat)
  case atStart => exact ⟨0, Nat.zero_le _, rfl, rfl⟩
  case round =>
    obtain ⟨m, hm, rfl, ha⟩ := hrel
    have HA : Hid (atomsTo L m = true) := ha
    clear ha
    by_cases hlt : m < L.length
    · have q := HR.out m hlt
      have HSM : Hid (L[m].size ≤ maxLen) := HS.out _ (List.getElem_mem hlt)
      have HI : Hid (atomI L m = (Atom.atomB L[m] && decide (idx L L[m] = m))) := by show _ = _; unfold atomI; rw [getD_lt L m hlt]
      obtain rfl := HAV.out (by omega)
      generalize L[m] = s at *
      cases h1 : Atom.atomB s with
      | false =>
        have H1 : Hid (Atom.atomB s = false) := h1
        have HE : Hid (atomsB L = false) := by show _ = _; unfold atomsB; rw [atomsTo_bad L m _ hlt (by rw [HI.out, h1]; rfl), Bool.and_false]
        clear h1
        go_wp2_with (first | (go_at_call 41; refine (Atom.spec_any s _ HSM.out).mono ?_; rintro e w' ⟨rfl, rfl⟩; rw [H1.out]))
        go_ret
        exact ⟨ret_bool HE.out.symm, rfl⟩
      | true =>
        have H1 : Hid (Atom.atomB s = true) := h1
        by_cases h2 : idx L s = m
        · have H2 : Hid (idx L s = m) := h2
          have HE : Hid (atomsTo L (m + 1) = true) := by show _ = _; rw [atomsTo_succ, HA.out, HI.out, h1, h2]; simp
          clear h1 h2
          go_wp2_with (first | (go_at_call 41; refine (Atom.spec_any s _ HSM.out).mono ?_; rintro e w' ⟨rfl, rfl⟩; rw [H1.out]) | (go_at_call 43; refine (specAtomAt_any b o cap L s _ HR.out HN.out).mono ?_; rintro e w' ⟨rfl, rfl⟩; rw [H2.out]))
          go_round
          case rel => exact ⟨m + 1, by omega, by go_num, HE.out⟩
          case measure => simp [intOf]; omega
        · have HE : Hid (atomsB L = false) := by show _ = _; unfold atomsB; rw [atomsTo_bad L m _ hlt (by rw [HI.out, h1]; simp [h2]), Bool.and_false]
          obtain ⟨z, hz⟩ : ∃ z, idx L s = z := ⟨_, rfl⟩
          have H2 : Hid (idx L s = z) := hz
          have hzz : (z != (m : Int)) = true := by rw [hz] at h2; simpa using h2
          clear h1 h2 hz
          go_wp2_with (first | (go_at_call 41; refine (Atom.spec_any s _ HSM.out).mono ?_; rintro e w' ⟨rfl, rfl⟩; rw [H1.out]) | (go_at_call 43; refine (specAtomAt_any b o cap L s _ HR.out HN.out).mono ?_; rintro e w' ⟨rfl, rfl⟩; rw [H2.out]))
          go_ret
          exact ⟨ret_bool HE.out.symm, rfl⟩
    · have hml : m = L.length := by omega
      have HE : Hid (atomsB L = decide ((L.length : Int) ≤ 200)) := by
        show _ = _
        unfold atomsB
        rw [← hml, HA.out, Bool.and_true, hml, decide_eq_decide]
        omega
      clear hml
      go_wp2_with fail
      go_ret
      exact ⟨ret_bool HE.out.symm, rfl⟩
set_option maxHeartbeats 1000000 in
theorem implAtoms_any (b o cap : Nat) (av : Option Addr) (L : List ByteArray) (w : World) (hav : L.length ≠ 0 → av = some ⟨b, o, none⟩) (hr : Txt w b o L) (hN : L.length ≤ 1048576) (hs : ∀ s, s ∈ L → s.size ≤ maxLen) :
    Calls Tryz.prog 54 #[.slice av L.length cap] w fun e w' => e = .returned (.bool (atomsB L)) ∧ Below w.heap.size w w' := by
  have HR : Hid (Txt w b o L) := hr
  have HS : Hid (∀ s, s ∈ L → s.size ≤ maxLen) := hs
  have HAV : Hid (L.length ≠ 0 → av = some ⟨b, o, none⟩) := hav
  have HN : Hid (L.length ≤ 1048576) := hN
  clear hr hs hav
  by_cases hl : L.length ≤ 200
  · have hd : decide ((200 : Int) < (L.length : Int)) = false := by simp; omega
    go_enter Tryz.func54, Tryz.ntmps54
    go_wp2_with fail
    go_loopw [10] (fun i wr => ∃ m : Nat, m ≤ L.length ∧ i = .int .i64 m ∧ atomsTo L m = true ∧ Below w.heap.size w wr) (fun i _ => L.length - (intOf i).toNat)
    case atStart => exact ⟨0, Nat.zero_le _, rfl, rfl, Below.refl _ _⟩
    case round =>
      obtain ⟨m, hm, rfl, ha, hb⟩ := hrel
      have HA : Hid (atomsTo L m = true) := ha
      have HB : Hid (Below w.heap.size w wr) := hb
      clear ha hb
      by_cases hlt : m < L.length
      · have q := HR.out.below HB.out m hlt
        have HSM : Hid (L[m].size ≤ maxLen) := HS.out _ (List.getElem_mem hlt)
        have HI : Hid (atomI L m = (Atom.atomB L[m] && decide (idx L L[m] = m))) := by show _ = _; unfold atomI; rw [getD_lt L m hlt]
        obtain rfl := HAV.out (by omega)
        generalize L[m] = s at *
        cases h1 : Atom.atomB s with
        | false =>
          have H1 : Hid (Atom.atomB s = false) := h1
          have HE : Hid (atomsB L = false) := by show _ = _; unfold atomsB; rw [atomsTo_bad L m _ hlt (by rw [HI.out, h1]; rfl), Bool.and_false]
          clear h1
          go_wp2_with (first | (go_at_call 69; refine (atom_below s _ HSM.out).mono ?_; rintro e w5 ⟨rfl, hb5⟩; rw [H1.out]; have HB5 : Hid (Below w.heap.size w w5) := HB.out.trans (hb5.mono HB.out.size); clear hb5))
          go_ret
          exact ⟨ret_bool HE.out.symm, HB5.out⟩
        | true =>
          have H1 : Hid (Atom.atomB s = true) := h1
          by_cases h2 : idx L s = m
          · have H2 : Hid (idx L s = m) := h2
            have HE : Hid (atomsTo L (m + 1) = true) := by show _ = _; rw [atomsTo_succ, HA.out, HI.out, h1, h2]; simp
            clear h1 h2
            go_wp2_with (first | (go_at_call 69; refine (atom_below s _ HSM.out).mono ?_; rintro e w5 ⟨rfl, hb5⟩; rw [H1.out]; have HB5 : Hid (Below w.heap.size w w5) := HB.out.trans (hb5.mono HB.out.size); clear hb5) | (go_at_call 70; refine (implAtomAt_any b o cap L s _ (HR.out.below HB5.out) HN.out).mono ?_; rintro e w' ⟨rfl, hw'⟩; obtain rfl := hw'.symm; rw [H2.out]))
            go_roundw
            case rel => exact ⟨m + 1, by omega, by go_num, HE.out, HB5.out⟩
            case measure => simp [intOf]; omega
          · have HE : Hid (atomsB L = false) := by show _ = _; unfold atomsB; rw [atomsTo_bad L m _ hlt (by rw [HI.out, h1]; simp [h2]), Bool.and_false]
            obtain ⟨z, hz⟩ : ∃ z, idx L s = z := ⟨_, rfl⟩
            have H2 : Hid (idx L s = z) := hz
            have hzz : (z != (m : Int)) = true := by rw [hz] at h2; simpa using h2
            clear h1 h2 hz
            go_wp2_with (first | (go_at_call 69; refine (atom_below s _ HSM.out).mono ?_; rintro e w5 ⟨rfl, hb5⟩; rw [H1.out]; have HB5 : Hid (Below w.heap.size w w5) := HB.out.trans (hb5.mono HB.out.size); clear hb5) | (go_at_call 70; refine (implAtomAt_any b o cap L s _ (HR.out.below HB5.out) HN.out).mono ?_; rintro e w' ⟨rfl, hw'⟩; obtain rfl := hw'.symm; rw [H2.out]))
            go_ret
            exact ⟨ret_bool HE.out.symm, HB5.out⟩
      · have hml : m = L.length := by omega
        have HE : Hid (atomsB L = true) := by
          show _ = _
          unfold atomsB
          rw [← hml, HA.out, Bool.and_true, hml]
          simp [hl]
        clear hml
        go_wp2_with fail
        go_ret
        exact ⟨ret_bool HE.out.symm, HB.out⟩
  · have hd : decide ((200 : Int) < (L.length : Int)) = true := by simp; omega
    have HE : Hid (atomsB L = false) := by show _ = _; unfold atomsB; simp [hl]
    go_enter Tryz.func54, Tryz.ntmps54
    go_wp2_with fail
    go_ret
    exact ⟨ret_bool HE.out.symm, Below.refl _ _⟩
end Go.Proofs.YtjjmikfbongccaaGreatDoor
