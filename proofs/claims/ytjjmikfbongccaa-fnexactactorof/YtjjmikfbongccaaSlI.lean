/-
  How the specification reads off both lists: words that lead nowhere.
-/
import Derived.Test.YtjjmikfbongccaaSlH
namespace Go.Proofs.Ytjjmikfbongccaa.Gn
open Go.RowKit
set_option linter.unusedVariables false

/-- A word that leads nowhere, by the elder reader. -/
theorem leaf_raw (H : Hp) (g g0 : Rd) (f : Nat → Int) (x : Int) (k : Nat) (ht : tagW x = 0 ∨ tagW x = 1 ∨ tagW x = 2 ∨ tagW x = 7) :
    (∀ t y, Ytjjmikfbongccaa.raw false ⟨0, f, H.A⟩ g0 x 0 = some (t, y) → raw false H g x k = some (t, k)) ∧ (Ytjjmikfbongccaa.raw false ⟨0, f, H.A⟩ g0 x 0 = none → raw false H g x k = none) := by
  rcases ht with ht | ht | ht | ht
  · unfold Ytjjmikfbongccaa.raw raw
    rw [if_pos ht, if_pos ht]
    split
    · exact ⟨fun t y h => (by cases h), fun _ => rfl⟩
    · refine ⟨fun t y h => ?_, fun h => (by cases h)⟩
      simp only [Option.some.injEq, Prod.mk.injEq] at h
      rw [h.1]
  · unfold Ytjjmikfbongccaa.raw raw
    rw [if_neg (by omega), if_pos ht, if_neg (by omega), if_pos ht]
    unfold Ytjjmikfbongccaa.rAtom rAtom
    by_cases hv : valW x < H.A.length
    · rw [if_pos hv, if_pos (show valW x < ((⟨0, f, H.A⟩ : Ytjjmikfbongccaa.Hp).A.length : Int) from hv)]
      refine ⟨fun t y h => ?_, fun h => (by cases h)⟩
      simp only [Option.some.injEq, Prod.mk.injEq] at h
      rw [h.1]
    · rw [if_neg hv, if_neg (show ¬ valW x < ((⟨0, f, H.A⟩ : Ytjjmikfbongccaa.Hp).A.length : Int) from hv)]
      exact ⟨fun t y h => (by cases h), fun _ => rfl⟩
  · unfold Ytjjmikfbongccaa.raw raw
    rw [if_neg (by omega), if_neg (by omega), if_pos ht, if_neg (by omega), if_neg (by omega), if_pos ht]
    refine ⟨fun t y h => ?_, fun h => (by cases h)⟩
    simp only [Option.some.injEq, Prod.mk.injEq] at h
    rw [h.1]
  · unfold Ytjjmikfbongccaa.raw raw
    rw [if_neg (by omega), if_neg (by omega), if_neg (by omega), if_neg (by omega), if_neg (by omega), if_pos ht, if_neg (by omega), if_neg (by omega), if_neg (by omega), if_neg (by omega), if_neg (by omega), if_pos ht]
    exact ⟨fun t y h => (by cases h), fun _ => rfl⟩
/-- The elder reader, without words. -/
abbrev E5 (E : SE) (rb : Nat) : Ytjjmikfbongccaa.Env := ⟨⟨0, fun _ => 0, E.G.A⟩, rb, none, 0, 0, 0, E.G.av, E.G.ab, E.G.ao, E.G.acap⟩
theorem plain_in {E : SE} {left : Int} {bad : Bool} {w1 : World} (h : Sr E left bad w1) : Ytjjmikfbongccaa.Sr (E5 E w1.heap.size) 1 false (w1.alloc (.cells #[.slice none 0 0, .slice E.G.av E.G.A.length E.G.acap, .int .i64 1, .bool false] 81)) := by
  have hb : Below w1.heap.size w1 (w1.alloc (.cells #[.slice none 0 0, .slice E.G.av E.G.A.length E.G.acap, .int .i64 1, .bool false] 81)) := (Below.refl _ _).alloc (Nat.le_refl _) _
  have q : ∀ o, (w1.alloc (.cells #[.slice none 0 0, .slice E.G.av E.G.A.length E.G.acap, .int .i64 1, .bool false] 81)).cell? ⟨w1.heap.size, o, none⟩ = (#[.slice none 0 0, .slice E.G.av E.G.A.length E.G.acap, .int .i64 1, .bool false] : Array Value)[o]? := fun o => World.cell?_alloc_new w1 _ _ o
  have s := h.src
  refine ⟨q 0, q 1, q 2, q 3, fun o => World.frozen?_alloc_new w1 _ _ o, ⟨⟨Nat.zero_le _, s.a⟩, fun hn => absurd rfl hn, s.al, fun j hj => absurd hj (Nat.not_lt_zero j), s.ats.below hb, Nat.le_refl _, fun j => (by show (0 : Int) ≤ _; decide), s.txt⟩, fun hn => absurd rfl hn, fun hn => ?_⟩
  have hn' : E.G.A.length ≠ 0 := hn
  have : E.G.ab < w1.heap.size := World.block_lt_of_cell? w1 _ (s.ats 0 (by omega))
  show E.G.ab ≠ w1.heap.size
  omega
theorem plain_read (E : SE) {left : Int} {w1 : World} (h : Sr E left false w1) (x : Int) (hx : x ≤ 9223372036854775807) (h0 : 0 ≤ x) (H : Hp) (hH : H.A = E.G.A) (g : Rd) (k : Nat) (ht : tagW x = 0 ∨ tagW x = 1 ∨ tagW x = 2 ∨ tagW x = 7) (R : Option (Tm × Nat)) (hR : raw false H g x k = R) :
    Calls Try.prog 50 #[.pointer (some ⟨w1.heap.size, 0, none⟩), .int .i64 x, .int .i64 1] (w1.alloc (.cells #[.slice none 0 0, .slice E.G.av E.G.A.length E.G.acap, .int .i64 1, .bool false] 81)) fun e w5 =>
      ∃ tt va vb vc vd ve vf b5, e = .returned (.agg #[.int .i64 va, .int .i64 vb, .string vc, .slice vd ve vf]) ∧ RpV (fun b => w1.heap.size + 1 ≤ b) w5 tt (.agg #[.int .i64 va, .int .i64 vb, .string vc, .slice vd ve vf]) ∧ Below w1.heap.size w1 w5 ∧ w1.heap.size + 1 ≤ w5.heap.size ∧ w5.cell? ⟨w1.heap.size, 3, none⟩ = some (.bool b5) ∧ ((b5 = false ∧ R = some (tt, k)) ∨ (b5 = true ∧ R = none)) := by
  have hz : (w1.alloc (.cells #[.slice none 0 0, .slice E.G.av E.G.A.length E.G.acap, .int .i64 1, .bool false] 81)).heap.size = w1.heap.size + 1 := World.size_alloc _ _
  refine (Ytjjmikfbongccaa.read_all (E5 E w1.heap.size) 1 (by decide) _ 1 x (plain_in h) (by decide) hx).mono ?_
  rintro e w5 ⟨tt, vv, rfl, hv5, ht5, hd5⟩
  obtain ⟨va, vb, vc, vd, ve, vf, rfl⟩ := hv5.form
  rw [hz] at hv5
  have hz5 := ht5.size
  rw [hz] at hz5
  have hb5 : Below w1.heap.size w1 w5 := Turn.below ((Below.refl _ _).alloc (Nat.le_refl _) _) (by rw [hz]; omega) ht5 (Nat.le_refl _)
  have hr : Ytjjmikfbongccaa.rT false (E5 E w1.heap.size).H 1 x 1 = Ytjjmikfbongccaa.raw false ⟨0, fun _ => 0, H.A⟩ (Ytjjmikfbongccaa.rT false (E5 E w1.heap.size).H 0) x 0 := by
    rw [Ytjjmikfbongccaa.rT, if_pos ⟨by simpa using h0, by decide⟩, held_false, hH]
  obtain ⟨l1, l2⟩ := leaf_raw H g (Ytjjmikfbongccaa.rT false (E5 E w1.heap.size).H 0) (fun _ => 0) x k ht
  rw [hr] at hd5
  rcases hd5 with ⟨y, h1, h2⟩ | ⟨h1, z, h2⟩
  · exact ⟨tt, va, vb, vc, vd, ve, vf, false, rfl, hv5, hb5, hz5, h2.c3, .inl ⟨rfl, by rw [← hR]; exact l1 _ _ h1⟩⟩
  · exact ⟨tt, va, vb, vc, vd, ve, vf, true, rfl, hv5, hb5, hz5, h2.c3, .inr ⟨rfl, by rw [← hR]; exact l2 h1⟩⟩
set_option maxHeartbeats 2000000 in
set_option maxRecDepth 100000 in
theorem read_0 {E : SE} {g : Rd} {k : Nat} (hk : k ≤ 100) {w : World} (h : Sr E ((k + 1 : Nat) : Int) false w) (x : Int) (hx : x ≤ 9223372036854775807) (h0 : 0 ≤ x) (D : Int) (hD : 1 ≤ D ∧ D ≤ 7) (ht : tagW x = 0) (R : Option (Tm × Nat)) (hR : raw false E.H g x k = R) : RdAt E D w x R := by
  have HS : Hid (Sr E ((k + 1 : Nat) : Int) false w) := h
  have hD1 := hD.1
  have hD7 := hD.2
  have HX : Hid (x ≤ 9223372036854775807) := hx
  obtain ⟨p, hp⟩ : ∃ p : Nat, valW x = p := ⟨(valW x).toNat, by have := valW_ge x; omega⟩
  have HPV : Hid (valW x = p) := hp
  have HTG : Hid (tagW x = 0) := ht
  have HPB : Hid (p ≤ 9223372036854774000) := by
    show _ ≤ _
    rw [valW_of h0] at hp; omega
  have hk1 : (k : Int) ≤ 100 := by omega
  have HKL : Hid (k ≤ 100) := hk
  have hb0 : Below w.heap.size w (w.alloc (.cells #[.int .i64 0, .int .i64 0, .string ⟨#[]⟩, .slice none 0 0] 64)) := (Below.refl _ _).alloc (Nat.le_refl _) _
  have c4 := (h.below hb0).c4
  have cf := (h.below hb0).fr
  have hne0 : E.rb ≠ w.heap.size := by have := h.lt; omega
  have HPR : Hid (∀ w1, Sr E k false w1 → Calls Try.prog 50 #[.pointer (some ⟨w1.heap.size, 0, none⟩), .int .i64 x, .int .i64 1] (w1.alloc (.cells #[.slice none 0 0, .slice E.G.av E.G.A.length E.G.acap, .int .i64 1, .bool false] 81)) fun e w5 =>
      ∃ tt va vb vc vd ve vf b5, e = .returned (.agg #[.int .i64 va, .int .i64 vb, .string vc, .slice vd ve vf]) ∧ RpV (fun b => w1.heap.size + 1 ≤ b) w5 tt (.agg #[.int .i64 va, .int .i64 vb, .string vc, .slice vd ve vf]) ∧ Below w1.heap.size w1 w5 ∧ w1.heap.size + 1 ≤ w5.heap.size ∧ w5.cell? ⟨w1.heap.size, 3, none⟩ = some (.bool b5) ∧ ((b5 = false ∧ R = some (tt, k)) ∨ (b5 = true ∧ R = none))) := fun w1 hs => plain_read E hs x hx h0 E.H rfl g k (by omega) R hR
  clear h hx ht hD hb0 hp
  unfold RdAt
  go_enter Try.func41, Try.ntmps41
  go_wp2_with fail
  refine (specTag_any x _).mono ?_
  rintro e w1 ⟨rfl, hw1⟩
  rw [HTG.out]
  obtain ⟨hz1, q1, f1, ht1, hs1, hne⟩ := boxG HS.out _ _ _ hw1
  have HT1 : Hid (Turn E.rb w w1) := ht1
  have HS1 : Hid (Sr E k false w1) := hs1
  have HB1 : Hid (∀ o, w1.cell? ⟨w.heap.size, o, none⟩ = (#[.int .i64 0, .int .i64 0, .string ⟨#[]⟩, .slice none 0 0] : Array Value)[o]?) := q1
  clear hw1 ht1 hs1 c4 cf
  have c3 := HS1.out.c3
  have HZ1 : Hid (w1.heap.size = w.heap.size + 1) := hz1
  clear hz1
  go_wp2_with fail
  refine (HPR.out w1 HS1.out).mono ?_
  rintro e w5 ⟨tt, va, vb, vc, vd, ve, vf, b5, rfl, hv5, hb5, hz5, hc5, hd5⟩
  have hz1 := HZ1.out
  have HV5 : Hid (RpV (fun b => w1.heap.size + 1 ≤ b) w5 tt (.agg #[.int .i64 va, .int .i64 vb, .string vc, .slice vd ve vf])) := hv5
  have HD5 : Hid ((b5 = false ∧ R = some (tt, k)) ∨ (b5 = true ∧ R = none)) := hd5
  have HB5 : Hid (Below w1.heap.size w1 w5) := hb5
  have HS5 : Hid (Sr E k false w5) := HS1.out.below hb5
  have q5 : ∀ o, w5.cell? ⟨w.heap.size, o, none⟩ = (#[.int .i64 0, .int .i64 0, .string ⟨#[]⟩, .slice none 0 0] : Array Value)[o]? := fun o => by rw [hb5.cell (p := ⟨w.heap.size, o, none⟩) (by show w.heap.size < _; omega)]; exact q1 o
  have f5 : ∀ o, w5.frozen? ⟨w.heap.size, o, none⟩ = false := fun o => by rw [hb5.frozen (p := ⟨w.heap.size, o, none⟩) (by show w.heap.size < _; omega)]; exact f1 o
  have hk6 : Below w5.heap.size w5 (w5.alloc (.cells #[.int .i64 va, .int .i64 vb, .string vc, .slice vd ve vf] 64)) := (Below.refl _ _).alloc (Nat.le_refl _) _
  have hrl := HS.out.lt
  have q6 : ∀ o, (w5.alloc (.cells #[.int .i64 va, .int .i64 vb, .string vc, .slice vd ve vf] 64)).cell? ⟨w.heap.size, o, none⟩ = (#[.int .i64 0, .int .i64 0, .string ⟨#[]⟩, .slice none 0 0] : Array Value)[o]? := fun o => by rw [hk6.cell (p := ⟨w.heap.size, o, none⟩) (by show w.heap.size < _; omega)]; exact q5 o
  have f6 : ∀ o, (w5.alloc (.cells #[.int .i64 va, .int .i64 vb, .string vc, .slice vd ve vf] 64)).frozen? ⟨w.heap.size, o, none⟩ = false := fun o => by rw [hk6.frozen (p := ⟨w.heap.size, o, none⟩) (by show w.heap.size < _; omega)]; exact f5 o
  have c6 : (w5.alloc (.cells #[.int .i64 va, .int .i64 vb, .string vc, .slice vd ve vf] 64)).cell? ⟨w1.heap.size, 3, none⟩ = some (.bool b5) := by rw [hk6.cell (p := ⟨w1.heap.size, 3, none⟩) (by show w1.heap.size < _; omega)]; exact hc5
  have HS6 : Hid (Sr E k false (w5.alloc (.cells #[.int .i64 va, .int .i64 vb, .string vc, .slice vd ve vf] 64))) := HS5.out.below hk6
  have HT6 : Hid (Turn E.rb w (w5.alloc (.cells #[.int .i64 va, .int .i64 vb, .string vc, .slice vd ve vf] 64))) := (HT1.out.trans (Turn.of_below hb5)).trans (Turn.of_below hk6)
  have HV6 : Hid (RpV (fun b => w1.heap.size + 1 ≤ b) (w5.alloc (.cells #[.int .i64 va, .int .i64 vb, .string vc, .slice vd ve vf] 64)) tt (.agg #[.int .i64 va, .int .i64 vb, .string vc, .slice vd ve vf])) := (Moves.below hk6).repV HV5.out
  have k5 := HS6.out.c5
  have kf := HS6.out.fr
  have hne5 : E.rb ≠ w5.heap.size := by have := HS5.out.lt; omega
  have hne6 : w.heap.size ≠ w5.heap.size := by omega
  have hZ1 : Hid (w1.heap.size = w.heap.size + 1) := hz1
  have HZ5 : Hid (w1.heap.size + 1 ≤ w5.heap.size) := hz5
  clear hv5 hb5 hd5 hk6 q5 f5 q1 f1 hc5 c3 hz1 hz5
  cases b5 with
  | false =>
    have HR5 : Hid (R = some (tt, k)) := by
      rcases HD5.out with ⟨_, h⟩ | ⟨h, _⟩
      · exact h
      · cases h
    clear HD5
    go_wp2_with fail
    have hs7 := HS6.out.setB false
    have ht7 := HT6.out.set 5 (.bool false)
    have hv7 : RpV (fun b => w.heap.size + 1 ≤ b) ((w5.alloc (.cells #[.int .i64 va, .int .i64 vb, .string vc, .slice vd ve vf] 64)).setCell ⟨E.rb, 5, none⟩ (.bool false)) tt (.agg #[.int .i64 va, .int .i64 vb, .string vc, .slice vd ve vf]) := Moves.repV (S := fun b => w1.heap.size + 1 ≤ b) (fun b' o' v' hb' hc' => by
      have h1 : w1.heap.size + 1 ≤ b' := hb'
      have h2 := hZ1.out
      exact ⟨by omega, by rw [World.cell?_setCell_other (h := fun e => by simp only [Addr.mk.injEq] at e; omega)]; exact hc'⟩) HV6.out
    have hq7 : ∀ o, ((w5.alloc (.cells #[.int .i64 va, .int .i64 vb, .string vc, .slice vd ve vf] 64)).setCell ⟨E.rb, 5, none⟩ (.bool false)).cell? ⟨w.heap.size, o, none⟩ = (#[.int .i64 0, .int .i64 0, .string ⟨#[]⟩, .slice none 0 0] : Array Value)[o]? := fun o => by
      rw [World.cell?_setCell_other (h := fun e => by simp only [Addr.mk.injEq] at e; omega)]; exact q6 o
    generalize ((w5.alloc (.cells #[.int .i64 va, .int .i64 vb, .string vc, .slice vd ve vf] 64)).setCell ⟨E.rb, 5, none⟩ (.bool false)) = W7 at hs7 ht7 hv7 hq7 ⊢
    obtain ⟨a1, a2, a3⟩ := sbox_out (E := E.e) ht7 hv7 (.int .i64 va) (.int .i64 vb) (.string vc) (.slice vd ve vf)
    have hfin : Ans E w (lay4 W7 w.heap.size (.int .i64 va) (.int .i64 vb) (.string vc) (.slice vd ve vf)) R (.returned (.agg #[.int .i64 va, .int .i64 vb, .string vc, .slice vd ve vf])) := ⟨_, _, rfl, a2, a1, .inl ⟨k, HR5.out, HS.out.same hs7 a3⟩⟩
    exact bodyPost_ret (v := .agg #[.int .i64 va, .int .i64 vb, .string vc, .slice vd ve vf]) (by simp [results, Try.results41, go_sem, hq7]) rfl hfin
  | true =>
    have HR5 : Hid (R = none) := by
      rcases HD5.out with ⟨h, _⟩ | ⟨_, h⟩
      · cases h
      · exact h
    clear HD5
    go_wp2_with fail
    have hs7 := HS6.out.setB true
    have ht7 := HT6.out.set 5 (.bool true)
    have hv7 : RpV (fun b => w.heap.size + 1 ≤ b) ((w5.alloc (.cells #[.int .i64 va, .int .i64 vb, .string vc, .slice vd ve vf] 64)).setCell ⟨E.rb, 5, none⟩ (.bool true)) tt (.agg #[.int .i64 va, .int .i64 vb, .string vc, .slice vd ve vf]) := Moves.repV (S := fun b => w1.heap.size + 1 ≤ b) (fun b' o' v' hb' hc' => by
      have h1 : w1.heap.size + 1 ≤ b' := hb'
      have h2 := hZ1.out
      exact ⟨by omega, by rw [World.cell?_setCell_other (h := fun e => by simp only [Addr.mk.injEq] at e; omega)]; exact hc'⟩) HV6.out
    have hq7 : ∀ o, ((w5.alloc (.cells #[.int .i64 va, .int .i64 vb, .string vc, .slice vd ve vf] 64)).setCell ⟨E.rb, 5, none⟩ (.bool true)).cell? ⟨w.heap.size, o, none⟩ = (#[.int .i64 0, .int .i64 0, .string ⟨#[]⟩, .slice none 0 0] : Array Value)[o]? := fun o => by
      rw [World.cell?_setCell_other (h := fun e => by simp only [Addr.mk.injEq] at e; omega)]; exact q6 o
    generalize ((w5.alloc (.cells #[.int .i64 va, .int .i64 vb, .string vc, .slice vd ve vf] 64)).setCell ⟨E.rb, 5, none⟩ (.bool true)) = W7 at hs7 ht7 hv7 hq7 ⊢
    obtain ⟨a1, a2, a3⟩ := sbox_out (E := E.e) ht7 hv7 (.int .i64 va) (.int .i64 vb) (.string vc) (.slice vd ve vf)
    have hfin : Ans E w (lay4 W7 w.heap.size (.int .i64 va) (.int .i64 vb) (.string vc) (.slice vd ve vf)) R (.returned (.agg #[.int .i64 va, .int .i64 vb, .string vc, .slice vd ve vf])) := ⟨_, _, rfl, a2, a1, .inr ⟨HR5.out, _, HS.out.same hs7 a3⟩⟩
    exact bodyPost_ret (v := .agg #[.int .i64 va, .int .i64 vb, .string vc, .slice vd ve vf]) (by simp [results, Try.results41, go_sem, hq7]) rfl hfin
set_option maxHeartbeats 2000000 in
set_option maxRecDepth 100000 in
theorem read_1 {E : SE} {g : Rd} {k : Nat} (hk : k ≤ 100) {w : World} (h : Sr E ((k + 1 : Nat) : Int) false w) (x : Int) (hx : x ≤ 9223372036854775807) (h0 : 0 ≤ x) (D : Int) (hD : 1 ≤ D ∧ D ≤ 7) (ht : tagW x = 1) (R : Option (Tm × Nat)) (hR : raw false E.H g x k = R) : RdAt E D w x R := by
  have HS : Hid (Sr E ((k + 1 : Nat) : Int) false w) := h
  have hD1 := hD.1
  have hD7 := hD.2
  have HX : Hid (x ≤ 9223372036854775807) := hx
  obtain ⟨p, hp⟩ : ∃ p : Nat, valW x = p := ⟨(valW x).toNat, by have := valW_ge x; omega⟩
  have HPV : Hid (valW x = p) := hp
  have HTG : Hid (tagW x = 1) := ht
  have HPB : Hid (p ≤ 9223372036854774000) := by
    show _ ≤ _
    rw [valW_of h0] at hp; omega
  have hk1 : (k : Int) ≤ 100 := by omega
  have HKL : Hid (k ≤ 100) := hk
  have hb0 : Below w.heap.size w (w.alloc (.cells #[.int .i64 0, .int .i64 0, .string ⟨#[]⟩, .slice none 0 0] 64)) := (Below.refl _ _).alloc (Nat.le_refl _) _
  have c4 := (h.below hb0).c4
  have cf := (h.below hb0).fr
  have hne0 : E.rb ≠ w.heap.size := by have := h.lt; omega
  have HPR : Hid (∀ w1, Sr E k false w1 → Calls Try.prog 50 #[.pointer (some ⟨w1.heap.size, 0, none⟩), .int .i64 x, .int .i64 1] (w1.alloc (.cells #[.slice none 0 0, .slice E.G.av E.G.A.length E.G.acap, .int .i64 1, .bool false] 81)) fun e w5 =>
      ∃ tt va vb vc vd ve vf b5, e = .returned (.agg #[.int .i64 va, .int .i64 vb, .string vc, .slice vd ve vf]) ∧ RpV (fun b => w1.heap.size + 1 ≤ b) w5 tt (.agg #[.int .i64 va, .int .i64 vb, .string vc, .slice vd ve vf]) ∧ Below w1.heap.size w1 w5 ∧ w1.heap.size + 1 ≤ w5.heap.size ∧ w5.cell? ⟨w1.heap.size, 3, none⟩ = some (.bool b5) ∧ ((b5 = false ∧ R = some (tt, k)) ∨ (b5 = true ∧ R = none))) := fun w1 hs => plain_read E hs x hx h0 E.H rfl g k (by omega) R hR
  clear h hx ht hD hb0 hp
  unfold RdAt
  go_enter Try.func41, Try.ntmps41
  go_wp2_with fail
  refine (specTag_any x _).mono ?_
  rintro e w1 ⟨rfl, hw1⟩
  rw [HTG.out]
  obtain ⟨hz1, q1, f1, ht1, hs1, hne⟩ := boxG HS.out _ _ _ hw1
  have HT1 : Hid (Turn E.rb w w1) := ht1
  have HS1 : Hid (Sr E k false w1) := hs1
  have HB1 : Hid (∀ o, w1.cell? ⟨w.heap.size, o, none⟩ = (#[.int .i64 0, .int .i64 0, .string ⟨#[]⟩, .slice none 0 0] : Array Value)[o]?) := q1
  clear hw1 ht1 hs1 c4 cf
  have c3 := HS1.out.c3
  have HZ1 : Hid (w1.heap.size = w.heap.size + 1) := hz1
  clear hz1
  go_wp2_with fail
  refine (HPR.out w1 HS1.out).mono ?_
  rintro e w5 ⟨tt, va, vb, vc, vd, ve, vf, b5, rfl, hv5, hb5, hz5, hc5, hd5⟩
  have hz1 := HZ1.out
  have HV5 : Hid (RpV (fun b => w1.heap.size + 1 ≤ b) w5 tt (.agg #[.int .i64 va, .int .i64 vb, .string vc, .slice vd ve vf])) := hv5
  have HD5 : Hid ((b5 = false ∧ R = some (tt, k)) ∨ (b5 = true ∧ R = none)) := hd5
  have HB5 : Hid (Below w1.heap.size w1 w5) := hb5
  have HS5 : Hid (Sr E k false w5) := HS1.out.below hb5
  have q5 : ∀ o, w5.cell? ⟨w.heap.size, o, none⟩ = (#[.int .i64 0, .int .i64 0, .string ⟨#[]⟩, .slice none 0 0] : Array Value)[o]? := fun o => by rw [hb5.cell (p := ⟨w.heap.size, o, none⟩) (by show w.heap.size < _; omega)]; exact q1 o
  have f5 : ∀ o, w5.frozen? ⟨w.heap.size, o, none⟩ = false := fun o => by rw [hb5.frozen (p := ⟨w.heap.size, o, none⟩) (by show w.heap.size < _; omega)]; exact f1 o
  have hk6 : Below w5.heap.size w5 (w5.alloc (.cells #[.int .i64 va, .int .i64 vb, .string vc, .slice vd ve vf] 64)) := (Below.refl _ _).alloc (Nat.le_refl _) _
  have hrl := HS.out.lt
  have q6 : ∀ o, (w5.alloc (.cells #[.int .i64 va, .int .i64 vb, .string vc, .slice vd ve vf] 64)).cell? ⟨w.heap.size, o, none⟩ = (#[.int .i64 0, .int .i64 0, .string ⟨#[]⟩, .slice none 0 0] : Array Value)[o]? := fun o => by rw [hk6.cell (p := ⟨w.heap.size, o, none⟩) (by show w.heap.size < _; omega)]; exact q5 o
  have f6 : ∀ o, (w5.alloc (.cells #[.int .i64 va, .int .i64 vb, .string vc, .slice vd ve vf] 64)).frozen? ⟨w.heap.size, o, none⟩ = false := fun o => by rw [hk6.frozen (p := ⟨w.heap.size, o, none⟩) (by show w.heap.size < _; omega)]; exact f5 o
  have c6 : (w5.alloc (.cells #[.int .i64 va, .int .i64 vb, .string vc, .slice vd ve vf] 64)).cell? ⟨w1.heap.size, 3, none⟩ = some (.bool b5) := by rw [hk6.cell (p := ⟨w1.heap.size, 3, none⟩) (by show w1.heap.size < _; omega)]; exact hc5
  have HS6 : Hid (Sr E k false (w5.alloc (.cells #[.int .i64 va, .int .i64 vb, .string vc, .slice vd ve vf] 64))) := HS5.out.below hk6
  have HT6 : Hid (Turn E.rb w (w5.alloc (.cells #[.int .i64 va, .int .i64 vb, .string vc, .slice vd ve vf] 64))) := (HT1.out.trans (Turn.of_below hb5)).trans (Turn.of_below hk6)
  have HV6 : Hid (RpV (fun b => w1.heap.size + 1 ≤ b) (w5.alloc (.cells #[.int .i64 va, .int .i64 vb, .string vc, .slice vd ve vf] 64)) tt (.agg #[.int .i64 va, .int .i64 vb, .string vc, .slice vd ve vf])) := (Moves.below hk6).repV HV5.out
  have k5 := HS6.out.c5
  have kf := HS6.out.fr
  have hne5 : E.rb ≠ w5.heap.size := by have := HS5.out.lt; omega
  have hne6 : w.heap.size ≠ w5.heap.size := by omega
  have hZ1 : Hid (w1.heap.size = w.heap.size + 1) := hz1
  have HZ5 : Hid (w1.heap.size + 1 ≤ w5.heap.size) := hz5
  clear hv5 hb5 hd5 hk6 q5 f5 q1 f1 hc5 c3 hz1 hz5
  cases b5 with
  | false =>
    have HR5 : Hid (R = some (tt, k)) := by
      rcases HD5.out with ⟨_, h⟩ | ⟨h, _⟩
      · exact h
      · cases h
    clear HD5
    go_wp2_with fail
    have hs7 := HS6.out.setB false
    have ht7 := HT6.out.set 5 (.bool false)
    have hv7 : RpV (fun b => w.heap.size + 1 ≤ b) ((w5.alloc (.cells #[.int .i64 va, .int .i64 vb, .string vc, .slice vd ve vf] 64)).setCell ⟨E.rb, 5, none⟩ (.bool false)) tt (.agg #[.int .i64 va, .int .i64 vb, .string vc, .slice vd ve vf]) := Moves.repV (S := fun b => w1.heap.size + 1 ≤ b) (fun b' o' v' hb' hc' => by
      have h1 : w1.heap.size + 1 ≤ b' := hb'
      have h2 := hZ1.out
      exact ⟨by omega, by rw [World.cell?_setCell_other (h := fun e => by simp only [Addr.mk.injEq] at e; omega)]; exact hc'⟩) HV6.out
    have hq7 : ∀ o, ((w5.alloc (.cells #[.int .i64 va, .int .i64 vb, .string vc, .slice vd ve vf] 64)).setCell ⟨E.rb, 5, none⟩ (.bool false)).cell? ⟨w.heap.size, o, none⟩ = (#[.int .i64 0, .int .i64 0, .string ⟨#[]⟩, .slice none 0 0] : Array Value)[o]? := fun o => by
      rw [World.cell?_setCell_other (h := fun e => by simp only [Addr.mk.injEq] at e; omega)]; exact q6 o
    generalize ((w5.alloc (.cells #[.int .i64 va, .int .i64 vb, .string vc, .slice vd ve vf] 64)).setCell ⟨E.rb, 5, none⟩ (.bool false)) = W7 at hs7 ht7 hv7 hq7 ⊢
    obtain ⟨a1, a2, a3⟩ := sbox_out (E := E.e) ht7 hv7 (.int .i64 va) (.int .i64 vb) (.string vc) (.slice vd ve vf)
    have hfin : Ans E w (lay4 W7 w.heap.size (.int .i64 va) (.int .i64 vb) (.string vc) (.slice vd ve vf)) R (.returned (.agg #[.int .i64 va, .int .i64 vb, .string vc, .slice vd ve vf])) := ⟨_, _, rfl, a2, a1, .inl ⟨k, HR5.out, HS.out.same hs7 a3⟩⟩
    exact bodyPost_ret (v := .agg #[.int .i64 va, .int .i64 vb, .string vc, .slice vd ve vf]) (by simp [results, Try.results41, go_sem, hq7]) rfl hfin
  | true =>
    have HR5 : Hid (R = none) := by
      rcases HD5.out with ⟨h, _⟩ | ⟨_, h⟩
      · cases h
      · exact h
    clear HD5
    go_wp2_with fail
    have hs7 := HS6.out.setB true
    have ht7 := HT6.out.set 5 (.bool true)
    have hv7 : RpV (fun b => w.heap.size + 1 ≤ b) ((w5.alloc (.cells #[.int .i64 va, .int .i64 vb, .string vc, .slice vd ve vf] 64)).setCell ⟨E.rb, 5, none⟩ (.bool true)) tt (.agg #[.int .i64 va, .int .i64 vb, .string vc, .slice vd ve vf]) := Moves.repV (S := fun b => w1.heap.size + 1 ≤ b) (fun b' o' v' hb' hc' => by
      have h1 : w1.heap.size + 1 ≤ b' := hb'
      have h2 := hZ1.out
      exact ⟨by omega, by rw [World.cell?_setCell_other (h := fun e => by simp only [Addr.mk.injEq] at e; omega)]; exact hc'⟩) HV6.out
    have hq7 : ∀ o, ((w5.alloc (.cells #[.int .i64 va, .int .i64 vb, .string vc, .slice vd ve vf] 64)).setCell ⟨E.rb, 5, none⟩ (.bool true)).cell? ⟨w.heap.size, o, none⟩ = (#[.int .i64 0, .int .i64 0, .string ⟨#[]⟩, .slice none 0 0] : Array Value)[o]? := fun o => by
      rw [World.cell?_setCell_other (h := fun e => by simp only [Addr.mk.injEq] at e; omega)]; exact q6 o
    generalize ((w5.alloc (.cells #[.int .i64 va, .int .i64 vb, .string vc, .slice vd ve vf] 64)).setCell ⟨E.rb, 5, none⟩ (.bool true)) = W7 at hs7 ht7 hv7 hq7 ⊢
    obtain ⟨a1, a2, a3⟩ := sbox_out (E := E.e) ht7 hv7 (.int .i64 va) (.int .i64 vb) (.string vc) (.slice vd ve vf)
    have hfin : Ans E w (lay4 W7 w.heap.size (.int .i64 va) (.int .i64 vb) (.string vc) (.slice vd ve vf)) R (.returned (.agg #[.int .i64 va, .int .i64 vb, .string vc, .slice vd ve vf])) := ⟨_, _, rfl, a2, a1, .inr ⟨HR5.out, _, HS.out.same hs7 a3⟩⟩
    exact bodyPost_ret (v := .agg #[.int .i64 va, .int .i64 vb, .string vc, .slice vd ve vf]) (by simp [results, Try.results41, go_sem, hq7]) rfl hfin
set_option maxHeartbeats 2000000 in
set_option maxRecDepth 100000 in
theorem read_2 {E : SE} {g : Rd} {k : Nat} (hk : k ≤ 100) {w : World} (h : Sr E ((k + 1 : Nat) : Int) false w) (x : Int) (hx : x ≤ 9223372036854775807) (h0 : 0 ≤ x) (D : Int) (hD : 1 ≤ D ∧ D ≤ 7) (ht : tagW x = 2) (R : Option (Tm × Nat)) (hR : raw false E.H g x k = R) : RdAt E D w x R := by
  have HS : Hid (Sr E ((k + 1 : Nat) : Int) false w) := h
  have hD1 := hD.1
  have hD7 := hD.2
  have HX : Hid (x ≤ 9223372036854775807) := hx
  obtain ⟨p, hp⟩ : ∃ p : Nat, valW x = p := ⟨(valW x).toNat, by have := valW_ge x; omega⟩
  have HPV : Hid (valW x = p) := hp
  have HTG : Hid (tagW x = 2) := ht
  have HPB : Hid (p ≤ 9223372036854774000) := by
    show _ ≤ _
    rw [valW_of h0] at hp; omega
  have hk1 : (k : Int) ≤ 100 := by omega
  have HKL : Hid (k ≤ 100) := hk
  have hb0 : Below w.heap.size w (w.alloc (.cells #[.int .i64 0, .int .i64 0, .string ⟨#[]⟩, .slice none 0 0] 64)) := (Below.refl _ _).alloc (Nat.le_refl _) _
  have c4 := (h.below hb0).c4
  have cf := (h.below hb0).fr
  have hne0 : E.rb ≠ w.heap.size := by have := h.lt; omega
  have HPR : Hid (∀ w1, Sr E k false w1 → Calls Try.prog 50 #[.pointer (some ⟨w1.heap.size, 0, none⟩), .int .i64 x, .int .i64 1] (w1.alloc (.cells #[.slice none 0 0, .slice E.G.av E.G.A.length E.G.acap, .int .i64 1, .bool false] 81)) fun e w5 =>
      ∃ tt va vb vc vd ve vf b5, e = .returned (.agg #[.int .i64 va, .int .i64 vb, .string vc, .slice vd ve vf]) ∧ RpV (fun b => w1.heap.size + 1 ≤ b) w5 tt (.agg #[.int .i64 va, .int .i64 vb, .string vc, .slice vd ve vf]) ∧ Below w1.heap.size w1 w5 ∧ w1.heap.size + 1 ≤ w5.heap.size ∧ w5.cell? ⟨w1.heap.size, 3, none⟩ = some (.bool b5) ∧ ((b5 = false ∧ R = some (tt, k)) ∨ (b5 = true ∧ R = none))) := fun w1 hs => plain_read E hs x hx h0 E.H rfl g k (by omega) R hR
  clear h hx ht hD hb0 hp
  unfold RdAt
  go_enter Try.func41, Try.ntmps41
  go_wp2_with fail
  refine (specTag_any x _).mono ?_
  rintro e w1 ⟨rfl, hw1⟩
  rw [HTG.out]
  obtain ⟨hz1, q1, f1, ht1, hs1, hne⟩ := boxG HS.out _ _ _ hw1
  have HT1 : Hid (Turn E.rb w w1) := ht1
  have HS1 : Hid (Sr E k false w1) := hs1
  have HB1 : Hid (∀ o, w1.cell? ⟨w.heap.size, o, none⟩ = (#[.int .i64 0, .int .i64 0, .string ⟨#[]⟩, .slice none 0 0] : Array Value)[o]?) := q1
  clear hw1 ht1 hs1 c4 cf
  have c3 := HS1.out.c3
  have HZ1 : Hid (w1.heap.size = w.heap.size + 1) := hz1
  clear hz1
  go_wp2_with fail
  refine (HPR.out w1 HS1.out).mono ?_
  rintro e w5 ⟨tt, va, vb, vc, vd, ve, vf, b5, rfl, hv5, hb5, hz5, hc5, hd5⟩
  have hz1 := HZ1.out
  have HV5 : Hid (RpV (fun b => w1.heap.size + 1 ≤ b) w5 tt (.agg #[.int .i64 va, .int .i64 vb, .string vc, .slice vd ve vf])) := hv5
  have HD5 : Hid ((b5 = false ∧ R = some (tt, k)) ∨ (b5 = true ∧ R = none)) := hd5
  have HB5 : Hid (Below w1.heap.size w1 w5) := hb5
  have HS5 : Hid (Sr E k false w5) := HS1.out.below hb5
  have q5 : ∀ o, w5.cell? ⟨w.heap.size, o, none⟩ = (#[.int .i64 0, .int .i64 0, .string ⟨#[]⟩, .slice none 0 0] : Array Value)[o]? := fun o => by rw [hb5.cell (p := ⟨w.heap.size, o, none⟩) (by show w.heap.size < _; omega)]; exact q1 o
  have f5 : ∀ o, w5.frozen? ⟨w.heap.size, o, none⟩ = false := fun o => by rw [hb5.frozen (p := ⟨w.heap.size, o, none⟩) (by show w.heap.size < _; omega)]; exact f1 o
  have hk6 : Below w5.heap.size w5 (w5.alloc (.cells #[.int .i64 va, .int .i64 vb, .string vc, .slice vd ve vf] 64)) := (Below.refl _ _).alloc (Nat.le_refl _) _
  have hrl := HS.out.lt
  have q6 : ∀ o, (w5.alloc (.cells #[.int .i64 va, .int .i64 vb, .string vc, .slice vd ve vf] 64)).cell? ⟨w.heap.size, o, none⟩ = (#[.int .i64 0, .int .i64 0, .string ⟨#[]⟩, .slice none 0 0] : Array Value)[o]? := fun o => by rw [hk6.cell (p := ⟨w.heap.size, o, none⟩) (by show w.heap.size < _; omega)]; exact q5 o
  have f6 : ∀ o, (w5.alloc (.cells #[.int .i64 va, .int .i64 vb, .string vc, .slice vd ve vf] 64)).frozen? ⟨w.heap.size, o, none⟩ = false := fun o => by rw [hk6.frozen (p := ⟨w.heap.size, o, none⟩) (by show w.heap.size < _; omega)]; exact f5 o
  have c6 : (w5.alloc (.cells #[.int .i64 va, .int .i64 vb, .string vc, .slice vd ve vf] 64)).cell? ⟨w1.heap.size, 3, none⟩ = some (.bool b5) := by rw [hk6.cell (p := ⟨w1.heap.size, 3, none⟩) (by show w1.heap.size < _; omega)]; exact hc5
  have HS6 : Hid (Sr E k false (w5.alloc (.cells #[.int .i64 va, .int .i64 vb, .string vc, .slice vd ve vf] 64))) := HS5.out.below hk6
  have HT6 : Hid (Turn E.rb w (w5.alloc (.cells #[.int .i64 va, .int .i64 vb, .string vc, .slice vd ve vf] 64))) := (HT1.out.trans (Turn.of_below hb5)).trans (Turn.of_below hk6)
  have HV6 : Hid (RpV (fun b => w1.heap.size + 1 ≤ b) (w5.alloc (.cells #[.int .i64 va, .int .i64 vb, .string vc, .slice vd ve vf] 64)) tt (.agg #[.int .i64 va, .int .i64 vb, .string vc, .slice vd ve vf])) := (Moves.below hk6).repV HV5.out
  have k5 := HS6.out.c5
  have kf := HS6.out.fr
  have hne5 : E.rb ≠ w5.heap.size := by have := HS5.out.lt; omega
  have hne6 : w.heap.size ≠ w5.heap.size := by omega
  have hZ1 : Hid (w1.heap.size = w.heap.size + 1) := hz1
  have HZ5 : Hid (w1.heap.size + 1 ≤ w5.heap.size) := hz5
  clear hv5 hb5 hd5 hk6 q5 f5 q1 f1 hc5 c3 hz1 hz5
  cases b5 with
  | false =>
    have HR5 : Hid (R = some (tt, k)) := by
      rcases HD5.out with ⟨_, h⟩ | ⟨h, _⟩
      · exact h
      · cases h
    clear HD5
    go_wp2_with fail
    have hs7 := HS6.out.setB false
    have ht7 := HT6.out.set 5 (.bool false)
    have hv7 : RpV (fun b => w.heap.size + 1 ≤ b) ((w5.alloc (.cells #[.int .i64 va, .int .i64 vb, .string vc, .slice vd ve vf] 64)).setCell ⟨E.rb, 5, none⟩ (.bool false)) tt (.agg #[.int .i64 va, .int .i64 vb, .string vc, .slice vd ve vf]) := Moves.repV (S := fun b => w1.heap.size + 1 ≤ b) (fun b' o' v' hb' hc' => by
      have h1 : w1.heap.size + 1 ≤ b' := hb'
      have h2 := hZ1.out
      exact ⟨by omega, by rw [World.cell?_setCell_other (h := fun e => by simp only [Addr.mk.injEq] at e; omega)]; exact hc'⟩) HV6.out
    have hq7 : ∀ o, ((w5.alloc (.cells #[.int .i64 va, .int .i64 vb, .string vc, .slice vd ve vf] 64)).setCell ⟨E.rb, 5, none⟩ (.bool false)).cell? ⟨w.heap.size, o, none⟩ = (#[.int .i64 0, .int .i64 0, .string ⟨#[]⟩, .slice none 0 0] : Array Value)[o]? := fun o => by
      rw [World.cell?_setCell_other (h := fun e => by simp only [Addr.mk.injEq] at e; omega)]; exact q6 o
    generalize ((w5.alloc (.cells #[.int .i64 va, .int .i64 vb, .string vc, .slice vd ve vf] 64)).setCell ⟨E.rb, 5, none⟩ (.bool false)) = W7 at hs7 ht7 hv7 hq7 ⊢
    obtain ⟨a1, a2, a3⟩ := sbox_out (E := E.e) ht7 hv7 (.int .i64 va) (.int .i64 vb) (.string vc) (.slice vd ve vf)
    have hfin : Ans E w (lay4 W7 w.heap.size (.int .i64 va) (.int .i64 vb) (.string vc) (.slice vd ve vf)) R (.returned (.agg #[.int .i64 va, .int .i64 vb, .string vc, .slice vd ve vf])) := ⟨_, _, rfl, a2, a1, .inl ⟨k, HR5.out, HS.out.same hs7 a3⟩⟩
    exact bodyPost_ret (v := .agg #[.int .i64 va, .int .i64 vb, .string vc, .slice vd ve vf]) (by simp [results, Try.results41, go_sem, hq7]) rfl hfin
  | true =>
    have HR5 : Hid (R = none) := by
      rcases HD5.out with ⟨h, _⟩ | ⟨_, h⟩
      · cases h
      · exact h
    clear HD5
    go_wp2_with fail
    have hs7 := HS6.out.setB true
    have ht7 := HT6.out.set 5 (.bool true)
    have hv7 : RpV (fun b => w.heap.size + 1 ≤ b) ((w5.alloc (.cells #[.int .i64 va, .int .i64 vb, .string vc, .slice vd ve vf] 64)).setCell ⟨E.rb, 5, none⟩ (.bool true)) tt (.agg #[.int .i64 va, .int .i64 vb, .string vc, .slice vd ve vf]) := Moves.repV (S := fun b => w1.heap.size + 1 ≤ b) (fun b' o' v' hb' hc' => by
      have h1 : w1.heap.size + 1 ≤ b' := hb'
      have h2 := hZ1.out
      exact ⟨by omega, by rw [World.cell?_setCell_other (h := fun e => by simp only [Addr.mk.injEq] at e; omega)]; exact hc'⟩) HV6.out
    have hq7 : ∀ o, ((w5.alloc (.cells #[.int .i64 va, .int .i64 vb, .string vc, .slice vd ve vf] 64)).setCell ⟨E.rb, 5, none⟩ (.bool true)).cell? ⟨w.heap.size, o, none⟩ = (#[.int .i64 0, .int .i64 0, .string ⟨#[]⟩, .slice none 0 0] : Array Value)[o]? := fun o => by
      rw [World.cell?_setCell_other (h := fun e => by simp only [Addr.mk.injEq] at e; omega)]; exact q6 o
    generalize ((w5.alloc (.cells #[.int .i64 va, .int .i64 vb, .string vc, .slice vd ve vf] 64)).setCell ⟨E.rb, 5, none⟩ (.bool true)) = W7 at hs7 ht7 hv7 hq7 ⊢
    obtain ⟨a1, a2, a3⟩ := sbox_out (E := E.e) ht7 hv7 (.int .i64 va) (.int .i64 vb) (.string vc) (.slice vd ve vf)
    have hfin : Ans E w (lay4 W7 w.heap.size (.int .i64 va) (.int .i64 vb) (.string vc) (.slice vd ve vf)) R (.returned (.agg #[.int .i64 va, .int .i64 vb, .string vc, .slice vd ve vf])) := ⟨_, _, rfl, a2, a1, .inr ⟨HR5.out, _, HS.out.same hs7 a3⟩⟩
    exact bodyPost_ret (v := .agg #[.int .i64 va, .int .i64 vb, .string vc, .slice vd ve vf]) (by simp [results, Try.results41, go_sem, hq7]) rfl hfin
set_option maxHeartbeats 2000000 in
set_option maxRecDepth 100000 in
theorem read_7 {E : SE} {g : Rd} {k : Nat} (hk : k ≤ 100) {w : World} (h : Sr E ((k + 1 : Nat) : Int) false w) (x : Int) (hx : x ≤ 9223372036854775807) (h0 : 0 ≤ x) (D : Int) (hD : 1 ≤ D ∧ D ≤ 7) (ht : tagW x = 7) (R : Option (Tm × Nat)) (hR : raw false E.H g x k = R) : RdAt E D w x R := by
  have HS : Hid (Sr E ((k + 1 : Nat) : Int) false w) := h
  have hD1 := hD.1
  have hD7 := hD.2
  have HX : Hid (x ≤ 9223372036854775807) := hx
  obtain ⟨p, hp⟩ : ∃ p : Nat, valW x = p := ⟨(valW x).toNat, by have := valW_ge x; omega⟩
  have HPV : Hid (valW x = p) := hp
  have HTG : Hid (tagW x = 7) := ht
  have HPB : Hid (p ≤ 9223372036854774000) := by
    show _ ≤ _
    rw [valW_of h0] at hp; omega
  have hk1 : (k : Int) ≤ 100 := by omega
  have HKL : Hid (k ≤ 100) := hk
  have hb0 : Below w.heap.size w (w.alloc (.cells #[.int .i64 0, .int .i64 0, .string ⟨#[]⟩, .slice none 0 0] 64)) := (Below.refl _ _).alloc (Nat.le_refl _) _
  have c4 := (h.below hb0).c4
  have cf := (h.below hb0).fr
  have hne0 : E.rb ≠ w.heap.size := by have := h.lt; omega
  have HPR : Hid (∀ w1, Sr E k false w1 → Calls Try.prog 50 #[.pointer (some ⟨w1.heap.size, 0, none⟩), .int .i64 x, .int .i64 1] (w1.alloc (.cells #[.slice none 0 0, .slice E.G.av E.G.A.length E.G.acap, .int .i64 1, .bool false] 81)) fun e w5 =>
      ∃ tt va vb vc vd ve vf b5, e = .returned (.agg #[.int .i64 va, .int .i64 vb, .string vc, .slice vd ve vf]) ∧ RpV (fun b => w1.heap.size + 1 ≤ b) w5 tt (.agg #[.int .i64 va, .int .i64 vb, .string vc, .slice vd ve vf]) ∧ Below w1.heap.size w1 w5 ∧ w1.heap.size + 1 ≤ w5.heap.size ∧ w5.cell? ⟨w1.heap.size, 3, none⟩ = some (.bool b5) ∧ ((b5 = false ∧ R = some (tt, k)) ∨ (b5 = true ∧ R = none))) := fun w1 hs => plain_read E hs x hx h0 E.H rfl g k (by omega) R hR
  clear h hx ht hD hb0 hp
  unfold RdAt
  go_enter Try.func41, Try.ntmps41
  go_wp2_with fail
  refine (specTag_any x _).mono ?_
  rintro e w1 ⟨rfl, hw1⟩
  rw [HTG.out]
  obtain ⟨hz1, q1, f1, ht1, hs1, hne⟩ := boxG HS.out _ _ _ hw1
  have HT1 : Hid (Turn E.rb w w1) := ht1
  have HS1 : Hid (Sr E k false w1) := hs1
  have HB1 : Hid (∀ o, w1.cell? ⟨w.heap.size, o, none⟩ = (#[.int .i64 0, .int .i64 0, .string ⟨#[]⟩, .slice none 0 0] : Array Value)[o]?) := q1
  clear hw1 ht1 hs1 c4 cf
  have c3 := HS1.out.c3
  have HZ1 : Hid (w1.heap.size = w.heap.size + 1) := hz1
  clear hz1
  go_wp2_with fail
  refine (HPR.out w1 HS1.out).mono ?_
  rintro e w5 ⟨tt, va, vb, vc, vd, ve, vf, b5, rfl, hv5, hb5, hz5, hc5, hd5⟩
  have hz1 := HZ1.out
  have HV5 : Hid (RpV (fun b => w1.heap.size + 1 ≤ b) w5 tt (.agg #[.int .i64 va, .int .i64 vb, .string vc, .slice vd ve vf])) := hv5
  have HD5 : Hid ((b5 = false ∧ R = some (tt, k)) ∨ (b5 = true ∧ R = none)) := hd5
  have HB5 : Hid (Below w1.heap.size w1 w5) := hb5
  have HS5 : Hid (Sr E k false w5) := HS1.out.below hb5
  have q5 : ∀ o, w5.cell? ⟨w.heap.size, o, none⟩ = (#[.int .i64 0, .int .i64 0, .string ⟨#[]⟩, .slice none 0 0] : Array Value)[o]? := fun o => by rw [hb5.cell (p := ⟨w.heap.size, o, none⟩) (by show w.heap.size < _; omega)]; exact q1 o
  have f5 : ∀ o, w5.frozen? ⟨w.heap.size, o, none⟩ = false := fun o => by rw [hb5.frozen (p := ⟨w.heap.size, o, none⟩) (by show w.heap.size < _; omega)]; exact f1 o
  have hk6 : Below w5.heap.size w5 (w5.alloc (.cells #[.int .i64 va, .int .i64 vb, .string vc, .slice vd ve vf] 64)) := (Below.refl _ _).alloc (Nat.le_refl _) _
  have hrl := HS.out.lt
  have q6 : ∀ o, (w5.alloc (.cells #[.int .i64 va, .int .i64 vb, .string vc, .slice vd ve vf] 64)).cell? ⟨w.heap.size, o, none⟩ = (#[.int .i64 0, .int .i64 0, .string ⟨#[]⟩, .slice none 0 0] : Array Value)[o]? := fun o => by rw [hk6.cell (p := ⟨w.heap.size, o, none⟩) (by show w.heap.size < _; omega)]; exact q5 o
  have f6 : ∀ o, (w5.alloc (.cells #[.int .i64 va, .int .i64 vb, .string vc, .slice vd ve vf] 64)).frozen? ⟨w.heap.size, o, none⟩ = false := fun o => by rw [hk6.frozen (p := ⟨w.heap.size, o, none⟩) (by show w.heap.size < _; omega)]; exact f5 o
  have c6 : (w5.alloc (.cells #[.int .i64 va, .int .i64 vb, .string vc, .slice vd ve vf] 64)).cell? ⟨w1.heap.size, 3, none⟩ = some (.bool b5) := by rw [hk6.cell (p := ⟨w1.heap.size, 3, none⟩) (by show w1.heap.size < _; omega)]; exact hc5
  have HS6 : Hid (Sr E k false (w5.alloc (.cells #[.int .i64 va, .int .i64 vb, .string vc, .slice vd ve vf] 64))) := HS5.out.below hk6
  have HT6 : Hid (Turn E.rb w (w5.alloc (.cells #[.int .i64 va, .int .i64 vb, .string vc, .slice vd ve vf] 64))) := (HT1.out.trans (Turn.of_below hb5)).trans (Turn.of_below hk6)
  have HV6 : Hid (RpV (fun b => w1.heap.size + 1 ≤ b) (w5.alloc (.cells #[.int .i64 va, .int .i64 vb, .string vc, .slice vd ve vf] 64)) tt (.agg #[.int .i64 va, .int .i64 vb, .string vc, .slice vd ve vf])) := (Moves.below hk6).repV HV5.out
  have k5 := HS6.out.c5
  have kf := HS6.out.fr
  have hne5 : E.rb ≠ w5.heap.size := by have := HS5.out.lt; omega
  have hne6 : w.heap.size ≠ w5.heap.size := by omega
  have hZ1 : Hid (w1.heap.size = w.heap.size + 1) := hz1
  have HZ5 : Hid (w1.heap.size + 1 ≤ w5.heap.size) := hz5
  clear hv5 hb5 hd5 hk6 q5 f5 q1 f1 hc5 c3 hz1 hz5
  cases b5 with
  | false =>
    have HR5 : Hid (R = some (tt, k)) := by
      rcases HD5.out with ⟨_, h⟩ | ⟨h, _⟩
      · exact h
      · cases h
    clear HD5
    go_wp2_with fail
    have hs7 := HS6.out.setB false
    have ht7 := HT6.out.set 5 (.bool false)
    have hv7 : RpV (fun b => w.heap.size + 1 ≤ b) ((w5.alloc (.cells #[.int .i64 va, .int .i64 vb, .string vc, .slice vd ve vf] 64)).setCell ⟨E.rb, 5, none⟩ (.bool false)) tt (.agg #[.int .i64 va, .int .i64 vb, .string vc, .slice vd ve vf]) := Moves.repV (S := fun b => w1.heap.size + 1 ≤ b) (fun b' o' v' hb' hc' => by
      have h1 : w1.heap.size + 1 ≤ b' := hb'
      have h2 := hZ1.out
      exact ⟨by omega, by rw [World.cell?_setCell_other (h := fun e => by simp only [Addr.mk.injEq] at e; omega)]; exact hc'⟩) HV6.out
    have hq7 : ∀ o, ((w5.alloc (.cells #[.int .i64 va, .int .i64 vb, .string vc, .slice vd ve vf] 64)).setCell ⟨E.rb, 5, none⟩ (.bool false)).cell? ⟨w.heap.size, o, none⟩ = (#[.int .i64 0, .int .i64 0, .string ⟨#[]⟩, .slice none 0 0] : Array Value)[o]? := fun o => by
      rw [World.cell?_setCell_other (h := fun e => by simp only [Addr.mk.injEq] at e; omega)]; exact q6 o
    generalize ((w5.alloc (.cells #[.int .i64 va, .int .i64 vb, .string vc, .slice vd ve vf] 64)).setCell ⟨E.rb, 5, none⟩ (.bool false)) = W7 at hs7 ht7 hv7 hq7 ⊢
    obtain ⟨a1, a2, a3⟩ := sbox_out (E := E.e) ht7 hv7 (.int .i64 va) (.int .i64 vb) (.string vc) (.slice vd ve vf)
    have hfin : Ans E w (lay4 W7 w.heap.size (.int .i64 va) (.int .i64 vb) (.string vc) (.slice vd ve vf)) R (.returned (.agg #[.int .i64 va, .int .i64 vb, .string vc, .slice vd ve vf])) := ⟨_, _, rfl, a2, a1, .inl ⟨k, HR5.out, HS.out.same hs7 a3⟩⟩
    exact bodyPost_ret (v := .agg #[.int .i64 va, .int .i64 vb, .string vc, .slice vd ve vf]) (by simp [results, Try.results41, go_sem, hq7]) rfl hfin
  | true =>
    have HR5 : Hid (R = none) := by
      rcases HD5.out with ⟨h, _⟩ | ⟨_, h⟩
      · cases h
      · exact h
    clear HD5
    go_wp2_with fail
    have hs7 := HS6.out.setB true
    have ht7 := HT6.out.set 5 (.bool true)
    have hv7 : RpV (fun b => w.heap.size + 1 ≤ b) ((w5.alloc (.cells #[.int .i64 va, .int .i64 vb, .string vc, .slice vd ve vf] 64)).setCell ⟨E.rb, 5, none⟩ (.bool true)) tt (.agg #[.int .i64 va, .int .i64 vb, .string vc, .slice vd ve vf]) := Moves.repV (S := fun b => w1.heap.size + 1 ≤ b) (fun b' o' v' hb' hc' => by
      have h1 : w1.heap.size + 1 ≤ b' := hb'
      have h2 := hZ1.out
      exact ⟨by omega, by rw [World.cell?_setCell_other (h := fun e => by simp only [Addr.mk.injEq] at e; omega)]; exact hc'⟩) HV6.out
    have hq7 : ∀ o, ((w5.alloc (.cells #[.int .i64 va, .int .i64 vb, .string vc, .slice vd ve vf] 64)).setCell ⟨E.rb, 5, none⟩ (.bool true)).cell? ⟨w.heap.size, o, none⟩ = (#[.int .i64 0, .int .i64 0, .string ⟨#[]⟩, .slice none 0 0] : Array Value)[o]? := fun o => by
      rw [World.cell?_setCell_other (h := fun e => by simp only [Addr.mk.injEq] at e; omega)]; exact q6 o
    generalize ((w5.alloc (.cells #[.int .i64 va, .int .i64 vb, .string vc, .slice vd ve vf] 64)).setCell ⟨E.rb, 5, none⟩ (.bool true)) = W7 at hs7 ht7 hv7 hq7 ⊢
    obtain ⟨a1, a2, a3⟩ := sbox_out (E := E.e) ht7 hv7 (.int .i64 va) (.int .i64 vb) (.string vc) (.slice vd ve vf)
    have hfin : Ans E w (lay4 W7 w.heap.size (.int .i64 va) (.int .i64 vb) (.string vc) (.slice vd ve vf)) R (.returned (.agg #[.int .i64 va, .int .i64 vb, .string vc, .slice vd ve vf])) := ⟨_, _, rfl, a2, a1, .inr ⟨HR5.out, _, HS.out.same hs7 a3⟩⟩
    exact bodyPost_ret (v := .agg #[.int .i64 va, .int .i64 vb, .string vc, .slice vd ve vf]) (by simp [results, Try.results41, go_sem, hq7]) rfl hfin
end Go.Proofs.Ytjjmikfbongccaa.Gn
