/-
  How the specification reads off both lists: the reader; bytes.
  (Ahead of it, in this text: How the specification reads off both lists: the words at a place; how many stand where a word leads. How the specification reads off both lists: how many stand where a word leads.)
-/
import Derived.Test.YtjjmikfbongccaaGreatDoorUK
import Derived.Test.YtjjmikfbongccaaGreatDoorUE
import Derived.Deep.RegionLaw
namespace Go.Proofs.YtjjmikfbongccaaGreatDoor.Gn
open Go.RowKit
set_option linter.unusedVariables false

def GE.sb (G : GE) (p : Nat) : Nat := if p < 100000 then G.b else G.yb
def GE.so (G : GE) (p : Nat) : Nat := if p < 100000 then G.o + p else G.yo + (p - 100000)
abbrev GE.v (G : GE) : Value := .agg #[.slice G.wv G.N G.cap, .slice G.yv G.M G.ycap, .int .i64 G.mark]
theorem GSrc.at {G : GE} {w : World} (h : GSrc G w) (p j : Nat) (hj : j < G.len p) : w.cell? ⟨G.sb p, G.so p + j, none⟩ = some (.int .i64 (G.w p j)) := by
  unfold GE.len at hj
  unfold GE.sb GE.so GE.w
  by_cases h1 : p < 100000
  · rw [if_pos h1] at hj ⊢
    rw [if_pos h1, if_pos h1, Nat.add_assoc]
    exact h.ws (p + j) (by omega)
  · rw [if_neg h1] at hj ⊢
    rw [if_neg h1, if_neg h1, Nat.add_assoc]
    exact h.ys (p - 100000 + j) (by omega)
theorem ret_tsl {a : Option Addr} {n n' c c' : Nat} {x : Bool} (h : n = n') (k : c = c') : Ending.returned (.tuple #[.slice a n c, .bool x]) = .returned (.tuple #[.slice a n' c', .bool x]) := by rw [h, k]
set_option maxHeartbeats 1000000 in
set_option maxRecDepth 100000 in
theorem l6Words_yes {G : GE} {w : World} (h : GSrc G w) (p n : Nat) (hn : n ≤ G.len p) (h0 : n ≠ 0) :
    Calls Tryz.prog 48 #[G.v, .int .i64 p, .int .i64 n] w fun e w' => ∃ c, e = .returned (.tuple #[.slice (some ⟨G.sb p, G.so p, none⟩) n c, .bool true]) ∧ Below w.heap.size w w' := by
  have hN := h.n
  have hM := h.m
  have ol := h.ol
  have yl := h.yl
  unfold GE.len at hn
  unfold GE.sb GE.so GE.v
  have HB : Hid (Below w.heap.size w (w.alloc (.cells #[.slice G.wv G.N G.cap, .slice G.yv G.M G.ycap, .int .i64 G.mark] 38))) := (Below.refl _ _).alloc (Nat.le_refl _) _
  clear h
  obtain ⟨N, f, wv, b, o, cap, M, g, yv, yb, yo, ycap, mark, A, av, ab, ao, acap⟩ := G
  simp only at *
  by_cases h1 : p < 100000
  · rw [if_pos h1] at hn ⊢
    rw [if_pos h1]
    rcases ol with ⟨rfl, hc⟩ | ⟨rfl, rfl, rfl⟩
    · have hlt : decide ((100000 : Int) ≤ (p : Int)) = false := by simp; omega
      have HI1 : Hid (inB (p : Int) 0 (N : Int) = true) := by show _ = _; unfold inB; simp; omega
      have HI2 : Hid (inB (n : Int) 0 ((N : Int) - p) = true) := by show _ = _; unfold inB; simp; omega
      have hpc : ¬ p = cap := by omega
      clear yl h1
      go_enter Tryz.func48, Tryz.ntmps48
      go_wp2_with (first | (go_at_call 21; refine (in_any _ _ _ _).mono ?_; rintro e w' ⟨rfl, rfl⟩; first | rw [HI1.out] | rw [HI2.out]))
      go_ret2
      exact ⟨_, ret_tsl (by omega) rfl, HB.out⟩
    · omega
  · rw [if_neg h1] at hn ⊢
    rw [if_neg h1]
    obtain ⟨q, rfl⟩ : ∃ q, p = 100000 + q := ⟨p - 100000, by omega⟩
    rw [show 100000 + q - 100000 = q by omega] at hn ⊢
    rcases yl with ⟨rfl, hc⟩ | ⟨rfl, rfl, rfl⟩
    · obtain ⟨P, hP⟩ : ∃ P : Int, ((100000 + q : Nat) : Int) = P := ⟨_, rfl⟩
      have HE : Hid (P - 100000 = q) := by show _ = _; omega
      rw [hP]
      have hge : 100000 ≤ P := by omega
      have hle : P ≤ 2000000 := by omega
      have HI1 : Hid (inB (q : Int) 0 (M : Int) = true) := by show _ = _; unfold inB; simp; omega
      have HI2 : Hid (inB (n : Int) 0 ((M : Int) - q) = true) := by show _ = _; unfold inB; simp; omega
      have hpc : ¬ q = ycap := by omega
      have hps := HE.out
      clear ol h1 hP
      go_enter Tryz.func48, Tryz.ntmps48
      go_wp2_with (first | (go_at_call 21; refine (in_any _ _ _ _).mono ?_; rintro e w' ⟨rfl, rfl⟩; first | rw [HI1.out] | rw [HI2.out]))
      go_ret2
      exact ⟨_, ret_tsl (by omega) rfl, HB.out⟩
    · omega
set_option maxHeartbeats 1000000 in
set_option maxRecDepth 100000 in
theorem l6Words_no {G : GE} {w : World} (h : GSrc G w) (p n : Nat) (hn : ¬ n ≤ G.len p) (hp : p ≤ 9223372036854775000) :
    Calls Tryz.prog 48 #[G.v, .int .i64 p, .int .i64 n] w fun e w' => (∃ g, e = .returned (.tuple #[.slice (some ⟨g, 0, none⟩) 0 0, .bool false])) ∧ Below w.heap.size w w' := by
  have hN := h.n
  have hM := h.m
  unfold GE.len at hn
  unfold GE.v
  have HB : Hid (Below w.heap.size w ((w.alloc (.cells #[.slice G.wv G.N G.cap, .slice G.yv G.M G.ycap, .int .i64 G.mark] 38)).alloc (.cells #[] 3))) := ((Below.refl _ _).alloc (Nat.le_refl _) _).alloc (by rw [World.size_alloc]; omega) _
  clear h
  obtain ⟨N, f, wv, b, o, cap, M, g, yv, yb, yo, ycap, mark, A, av, ab, ao, acap⟩ := G
  simp only at *
  by_cases h1 : p < 100000
  · rw [if_pos h1] at hn
    have hlt : decide ((100000 : Int) ≤ (p : Int)) = false := by simp; omega
    by_cases h2 : p ≤ N
    · have HI1 : Hid (inB (p : Int) 0 (N : Int) = true) := by show _ = _; unfold inB; simp; omega
      have HI2 : Hid (inB (n : Int) 0 ((N : Int) - p) = false) := by show _ = _; unfold inB; simp; omega
      clear h1
      go_enter Tryz.func48, Tryz.ntmps48
      go_wp2_with (first | (go_at_call 21; refine (in_any _ _ _ _).mono ?_; rintro e w' ⟨rfl, rfl⟩; first | rw [HI1.out] | rw [HI2.out]))
      go_ret2
      exact ⟨⟨_, rfl⟩, HB.out⟩
    · have HI1 : Hid (inB (p : Int) 0 (N : Int) = false) := by show _ = _; unfold inB; simp; omega
      clear h1
      go_enter Tryz.func48, Tryz.ntmps48
      go_wp2_with (first | (go_at_call 21; refine (in_any _ _ _ _).mono ?_; rintro e w' ⟨rfl, rfl⟩; first | rw [HI1.out]))
      go_ret2
      exact ⟨⟨_, rfl⟩, HB.out⟩
  · rw [if_neg h1] at hn
    obtain ⟨q, rfl⟩ : ∃ q, p = 100000 + q := ⟨p - 100000, by omega⟩
    rw [show 100000 + q - 100000 = q by omega] at hn
    obtain ⟨P, hP⟩ : ∃ P : Int, ((100000 + q : Nat) : Int) = P := ⟨_, rfl⟩
    have hps : P - 100000 = q := by omega
    rw [hP]
    have hge : 100000 ≤ P := by omega
    have hle : P ≤ 9223372036854775000 := by omega
    by_cases h2 : q ≤ M
    · have HI1 : Hid (inB (q : Int) 0 (M : Int) = true) := by show _ = _; unfold inB; simp; omega
      have HI2 : Hid (inB (n : Int) 0 ((M : Int) - q) = false) := by show _ = _; unfold inB; simp; omega
      clear h1 hP hp
      go_enter Tryz.func48, Tryz.ntmps48
      go_wp2_with (first | (go_at_call 21; refine (in_any _ _ _ _).mono ?_; rintro e w' ⟨rfl, rfl⟩; first | rw [HI1.out] | rw [HI2.out]))
      go_ret2
      exact ⟨⟨_, rfl⟩, HB.out⟩
    · have HI1 : Hid (inB (q : Int) 0 (M : Int) = false) := by show _ = _; unfold inB; simp; omega
      clear h1 hP hp
      go_enter Tryz.func48, Tryz.ntmps48
      go_wp2_with (first | (go_at_call 21; refine (in_any _ _ _ _).mono ?_; rintro e w' ⟨rfl, rfl⟩; first | rw [HI1.out]))
      go_ret2
      exact ⟨⟨_, rfl⟩, HB.out⟩
end Go.Proofs.YtjjmikfbongccaaGreatDoor.Gn
namespace Go.Proofs.YtjjmikfbongccaaGreatDoor.Gn
open Go.RowKit
set_option linter.unusedVariables false

theorem GSrc.drew {G : GE} {w : World} (h : GSrc G w) : GSrc G w.drew := ⟨h.n, h.m, h.a, h.ol, h.yl, h.al, h.ws, h.ys, h.ats, h.big, h.bigy, h.txt⟩
def cn (G : GE) (v : Nat) : Int := if 1 ≤ G.len v ∧ 0 ≤ G.w v 0 ∧ G.w v 0 ≤ 1000 then G.w v 0 + 1 else 0
def sz (G : GE) (x : Int) : Int := if tagW x = 5 then 2 else if tagW x = 4 ∨ tagW x = 6 then cn G (valW x).toNat else 0
set_option maxHeartbeats 2000000 in
set_option maxRecDepth 100000 in
theorem l6Size_any {G : GE} {w : World} (h : GSrc G w) (x : Int) (hx : x ≤ 9223372036854775807) :
    Calls Tryz.prog 46 #[G.v, .int .i64 x] w fun e w' => e = .returned (.int .i64 (sz G x)) ∧ Below w.heap.size w w' := by
  have HX : Hid (x ≤ 9223372036854775807) := hx
  have HS1 : Hid (GSrc G (w.alloc (.cells #[.slice G.wv G.N G.cap, .slice G.yv G.M G.ycap, .int .i64 G.mark] 38))) := h.below ((Below.refl _ _).alloc (Nat.le_refl _) _)
  have HB1 : Hid (Below w.heap.size w (w.alloc (.cells #[.slice G.wv G.N G.cap, .slice G.yv G.M G.ycap, .int .i64 G.mark] 38))) := (Below.refl _ _).alloc (Nat.le_refl _) _
  have HZ1 : Hid ((w.alloc (.cells #[.slice G.wv G.N G.cap, .slice G.yv G.M G.ycap, .int .i64 G.mark] 38)).heap.size = w.heap.size + 1) := by show _ = _; rw [World.size_alloc]
  unfold GE.v
  clear h hx
  by_cases h5 : tagW x = 5
  · have HE : Hid (sz G x = 2) := by show _ = _; unfold sz; rw [if_pos h5]
    have HT : Hid (tagW x = 5) := h5
    clear h5
    go_enter Tryz.func46, Tryz.ntmps46
    go_wp2_with (first | (go_at_call 49; refine (specTag_any x _).mono ?_; rintro e w' ⟨rfl, rfl⟩; rw [HT.out]))
    go_ret
    exact ⟨ret_int HE.out.symm, HB1.out⟩
  · by_cases h46 : tagW x = 4 ∨ tagW x = 6
    · have HE0 : Hid (sz G x = cn G (valW x).toNat) := by show _ = _; unfold sz; rw [if_neg h5, if_pos h46]
      have hvb : valW x ≤ 9223372036854775000 := by have := HX.out; unfold valW; split <;> omega
      obtain ⟨v, hv⟩ : ∃ v : Nat, valW x = v := ⟨(valW x).toNat, by have := valW_ge x; omega⟩
      have HV : Hid (valW x = v) := hv
      have HVB : Hid (v ≤ 9223372036854775000) := by show _ ≤ _; omega
      have HE1 : Hid (sz G x = cn G v) := by show _ = _; rw [HE0.out, hv]; simp
      clear HE0 hv hvb h5
      by_cases hl : 1 ≤ G.len v
      · have HL : Hid (1 ≤ G.len v) := hl
        have HEX : Hid (sz G x = if 0 ≤ G.w v 0 ∧ G.w v 0 ≤ 1000 then G.w v 0 + 1 else 0) := by
          show _ = _
          rw [HE1.out]
          unfold cn
          simp only [hl, true_and]
        have HCE : Hid (∀ w', GSrc G w' → w'.cell? ⟨G.sb v, G.so v, none⟩ = some (.int .i64 (G.w v 0))) := fun w' hs => hs.at v 0 (by omega)
        clear hl HE1
        generalize G.w v 0 = y at *
        obtain ⟨B, hB⟩ : ∃ B, inB y 0 1000 = B := ⟨_, rfl⟩
        have HBB : Hid (inB y 0 1000 = B) := hB
        have HEB : Hid (sz G x = if B then y + 1 else 0) := by
          show _ = _
          rw [HEX.out, ← hB]
          unfold inB
          simp
        have hyb : B = true → y ≤ 1000 ∧ 0 ≤ y := fun h => by rw [h] at hB; have := inB_yes hB; omega
        clear hB HEX
        have hyb2 : B = true → IntKind.i64.wrap (y + 1) = y + 1 := fun h => by have := hyb h; rw [IntKind.wrap_i64]; omega
        cases B with
        | true =>
          obtain ⟨hy1, hy2⟩ := hyb rfl
          have HE : Hid (sz G x = y + 1) := HEB.out
          clear hyb hyb2 HEB
          rcases h46 with ht | ht
          all_goals
            have HT : Hid (tagW x = _) := ht
            clear ht
            go_enter Tryz.func46, Tryz.ntmps46
            go_wp2_with (first | (go_at_call 49; refine (specTag_any x _).mono ?_; rintro e w' ⟨rfl, rfl⟩; rw [HT.out]))
            go_region_law (go_simp; go_wp2_with (first | (go_at_call 47; refine (specVal_any x HX.out _).mono ?_; rintro e w' ⟨rfl, rfl⟩; rw [HV.out]) | (go_at_call 48; refine (l6Words_yes HS1.out.drew v 1 HL.out (by decide)).mono ?_; rintro e w3 ⟨c3, rfl, hb3⟩; have q3 := HCE.out w3 (HS1.out.drew.below hb3); have HB3 : Hid (Below w.heap.size w w3) := (HB1.out.drew.trans (hb3.mono (by show _ ≤ (w.alloc _).heap.size; rw [HZ1.out]; omega))); clear hb3)))
            all_goals
              go_wp2_with (first | (go_at_call 21; refine (in_any _ _ _ _).mono ?_; rintro e w' ⟨rfl, rfl⟩; rw [HBB.out]))
              go_ret
              exact ⟨ret_int HE.out.symm, HB3.out⟩
        | false =>
          have HE : Hid (sz G x = 0) := HEB.out
          clear hyb hyb2 HEB
          rcases h46 with ht | ht
          all_goals
            have HT : Hid (tagW x = _) := ht
            clear ht
            go_enter Tryz.func46, Tryz.ntmps46
            go_wp2_with (first | (go_at_call 49; refine (specTag_any x _).mono ?_; rintro e w' ⟨rfl, rfl⟩; rw [HT.out]))
            go_region_law (go_simp; go_wp2_with (first | (go_at_call 47; refine (specVal_any x HX.out _).mono ?_; rintro e w' ⟨rfl, rfl⟩; rw [HV.out]) | (go_at_call 48; refine (l6Words_yes HS1.out.drew v 1 HL.out (by decide)).mono ?_; rintro e w3 ⟨c3, rfl, hb3⟩; have q3 := HCE.out w3 (HS1.out.drew.below hb3); have HB3 : Hid (Below w.heap.size w w3) := (HB1.out.drew.trans (hb3.mono (by show _ ≤ (w.alloc _).heap.size; rw [HZ1.out]; omega))); clear hb3)))
            all_goals
              go_wp2_with (first | (go_at_call 21; refine (in_any _ _ _ _).mono ?_; rintro e w' ⟨rfl, rfl⟩; rw [HBB.out]))
              go_ret
              exact ⟨ret_int HE.out.symm, HB3.out⟩
      · have HL : Hid (¬ 1 ≤ G.len v) := hl
        have HE : Hid (sz G x = 0) := by show _ = _; rw [HE1.out]; unfold cn; rw [if_neg (fun h => hl h.1)]
        clear hl HE1
        rcases h46 with ht | ht
        all_goals
          have HT : Hid (tagW x = _) := ht
          clear ht
          go_enter Tryz.func46, Tryz.ntmps46
          go_wp2_with (first | (go_at_call 49; refine (specTag_any x _).mono ?_; rintro e w' ⟨rfl, rfl⟩; rw [HT.out]))
          go_region_law (go_simp; go_wp2_with (first | (go_at_call 47; refine (specVal_any x HX.out _).mono ?_; rintro e w' ⟨rfl, rfl⟩; rw [HV.out]) | (go_at_call 48; refine (l6Words_no HS1.out.drew v 1 HL.out HVB.out).mono ?_; rintro e w3 ⟨⟨g3, rfl⟩, hb3⟩; have HB3 : Hid (Below w.heap.size w w3) := (HB1.out.drew.trans (hb3.mono (by show _ ≤ (w.alloc _).heap.size; rw [HZ1.out]; omega))); clear hb3)))
          all_goals
            go_wp2_with fail
            go_ret
            exact ⟨ret_int HE.out.symm, HB3.out⟩
    · have HE : Hid (sz G x = 0) := by show _ = _; unfold sz; rw [if_neg h5, if_neg h46]
      have e1 : (tagW x == 5) = false := by simpa using h5
      have e2 : (tagW x == 4) = false := by simp; omega
      have e3 : (tagW x == 6) = false := by simp; omega
      clear h5 h46
      go_enter Tryz.func46, Tryz.ntmps46
      go_wp2_with (first | (go_at_call 49; refine (specTag_any x _).mono ?_; rintro e w' ⟨rfl, rfl⟩))
      go_ret
      exact ⟨ret_int HE.out.symm, HB1.out⟩
end Go.Proofs.YtjjmikfbongccaaGreatDoor.Gn
namespace Go.Proofs.YtjjmikfbongccaaGreatDoor.Gn
open Go.RowKit
set_option linter.unusedVariables false

set_option maxHeartbeats 1000000 in
set_option maxRecDepth 100000 in
theorem l6Words_zero {G : GE} {w : World} (h : GSrc G w) (p : Nat) (hp : p ≤ 9223372036854775000) :
    Calls Tryz.prog 48 #[G.v, .int .i64 p, .int .i64 0] w fun e w' => ∃ a c ok, e = .returned (.tuple #[.slice a 0 c, .bool ok]) ∧ Below w.heap.size w w' := by
  have hN := h.n
  have hM := h.m
  have ol := h.ol
  have yl := h.yl
  unfold GE.v
  have HB : Hid (Below w.heap.size w (w.alloc (.cells #[.slice G.wv G.N G.cap, .slice G.yv G.M G.ycap, .int .i64 G.mark] 38))) := (Below.refl _ _).alloc (Nat.le_refl _) _
  have HB2 : Hid (Below w.heap.size w ((w.alloc (.cells #[.slice G.wv G.N G.cap, .slice G.yv G.M G.ycap, .int .i64 G.mark] 38)).alloc (.cells #[] 3))) := ((Below.refl _ _).alloc (Nat.le_refl _) _).alloc (by rw [World.size_alloc]; omega) _
  clear h
  obtain ⟨N, f, wv, b, o, cap, M, g, yv, yb, yo, ycap, mark, A, av, ab, ao, acap⟩ := G
  simp only at *
  by_cases h1 : p < 100000
  · have hlt : decide ((100000 : Int) ≤ (p : Int)) = false := by simp; omega
    by_cases h2 : p ≤ N
    · have HI1 : Hid (inB (p : Int) 0 (N : Int) = true) := by show _ = _; unfold inB; simp; omega
      have HI2 : Hid (inB (0 : Int) 0 ((N : Int) - p) = true) := by show _ = _; unfold inB; simp; omega
      clear h1
      rcases ol with ⟨rfl, hc⟩ | ⟨rfl, rfl, rfl⟩
      · by_cases hpc : p = cap
        · subst hpc
          go_enter Tryz.func48, Tryz.ntmps48
          go_wp2_with (first | (go_at_call 21; refine (in_any _ _ _ _).mono ?_; rintro e w' ⟨rfl, rfl⟩; first | rw [HI2.out] | rw [HI1.out]))
          go_ret2
          exact ⟨_, _, _, ret_tsl (by omega) rfl, HB.out⟩
        · go_enter Tryz.func48, Tryz.ntmps48
          go_wp2_with (first | (go_at_call 21; refine (in_any _ _ _ _).mono ?_; rintro e w' ⟨rfl, rfl⟩; first | rw [HI2.out] | rw [HI1.out]))
          go_ret2
          exact ⟨_, _, _, ret_tsl (by omega) rfl, HB.out⟩
      · obtain rfl : p = 0 := by omega
        go_enter Tryz.func48, Tryz.ntmps48
        go_wp2_with (first | (go_at_call 21; refine (in_any _ _ _ _).mono ?_; rintro e w' ⟨rfl, rfl⟩; first | rw [HI2.out] | rw [HI1.out] | rw [show inB (0 : Int) 0 0 = true from rfl]))
        go_ret2
        exact ⟨_, _, _, rfl, HB.out⟩
    · have HI1 : Hid (inB (p : Int) 0 (N : Int) = false) := by show _ = _; unfold inB; simp; omega
      clear h1
      go_enter Tryz.func48, Tryz.ntmps48
      go_wp2_with (first | (go_at_call 21; refine (in_any _ _ _ _).mono ?_; rintro e w' ⟨rfl, rfl⟩; first | rw [HI1.out]))
      go_ret2
      exact ⟨_, _, _, rfl, HB2.out⟩
  · obtain ⟨q, rfl⟩ : ∃ q, p = 100000 + q := ⟨p - 100000, by omega⟩
    obtain ⟨P, hP⟩ : ∃ P : Int, ((100000 + q : Nat) : Int) = P := ⟨_, rfl⟩
    have hps : P - 100000 = q := by omega
    rw [hP]
    have hge : 100000 ≤ P := by omega
    have hle : P ≤ 9223372036854775000 := by omega
    by_cases h2 : q ≤ M
    · have HI1 : Hid (inB (q : Int) 0 (M : Int) = true) := by show _ = _; unfold inB; simp; omega
      have HI2 : Hid (inB (0 : Int) 0 ((M : Int) - q) = true) := by show _ = _; unfold inB; simp; omega
      clear h1 hP hp
      rcases yl with ⟨rfl, hc⟩ | ⟨rfl, rfl, rfl⟩
      · by_cases hpc : q = ycap
        · subst hpc
          go_enter Tryz.func48, Tryz.ntmps48
          go_wp2_with (first | (go_at_call 21; refine (in_any _ _ _ _).mono ?_; rintro e w' ⟨rfl, rfl⟩; first | rw [HI2.out] | rw [HI1.out]))
          go_ret2
          exact ⟨_, _, _, ret_tsl (by omega) rfl, HB.out⟩
        · go_enter Tryz.func48, Tryz.ntmps48
          go_wp2_with (first | (go_at_call 21; refine (in_any _ _ _ _).mono ?_; rintro e w' ⟨rfl, rfl⟩; first | rw [HI2.out] | rw [HI1.out]))
          go_ret2
          exact ⟨_, _, _, ret_tsl (by omega) rfl, HB.out⟩
      · obtain rfl : q = 0 := by omega
        go_enter Tryz.func48, Tryz.ntmps48
        go_wp2_with (first | (go_at_call 21; refine (in_any _ _ _ _).mono ?_; rintro e w' ⟨rfl, rfl⟩; first | rw [HI2.out] | rw [HI1.out] | rw [show inB (0 : Int) 0 0 = true from rfl]))
        go_ret2
        exact ⟨_, _, _, rfl, HB.out⟩
    · have HI1 : Hid (inB (q : Int) 0 (M : Int) = false) := by show _ = _; unfold inB; simp; omega
      clear h1 hP hp
      go_enter Tryz.func48, Tryz.ntmps48
      go_wp2_with (first | (go_at_call 21; refine (in_any _ _ _ _).mono ?_; rintro e w' ⟨rfl, rfl⟩; first | rw [HI1.out]))
      go_ret2
      exact ⟨_, _, _, rfl, HB2.out⟩
/-- Whatever is asked for. -/
theorem l6Words_any {G : GE} {w : World} (h : GSrc G w) (p n : Nat) (hp : p ≤ 9223372036854775000) :
    Calls Tryz.prog 48 #[G.v, .int .i64 p, .int .i64 n] w fun e w' => ∃ a m c ok, e = .returned (.tuple #[.slice a m c, .bool ok]) ∧ Below w.heap.size w w' ∧ (n ≠ 0 → ¬ n ≤ G.len p → ok = false) := by
  by_cases h0 : n = 0
  · subst h0
    refine (l6Words_zero h p hp).mono ?_
    rintro e w' ⟨a, c, ok, rfl, hb⟩
    exact ⟨a, 0, c, ok, rfl, hb, fun h => absurd rfl h⟩
  · by_cases h1 : n ≤ G.len p
    · refine (l6Words_yes h p n h1 h0).mono ?_
      rintro e w' ⟨c, rfl, hb⟩
      exact ⟨_, _, c, true, rfl, hb, fun _ h => absurd h1 h⟩
    · refine (l6Words_no h p n h1 hp).mono ?_
      rintro e w' ⟨⟨g, rfl⟩, hb⟩
      exact ⟨_, _, _, false, rfl, hb, fun _ _ => rfl⟩

/-! ### The reader -/
structure SE where
  G : GE
  rb : Nat
abbrev SE.H (E : SE) : Hp := E.G.H
/-- Of the elder reader only where it stands. -/
abbrev SE.e (E : SE) : YtjjmikfbongccaaGreatDoor.Env := ⟨⟨0, fun _ => 0, []⟩, E.rb, none, 0, 0, 0, none, 0, 0, 0⟩
structure Sr (E : SE) (left : Int) (bad : Bool) (w : World) : Prop where
  c0 : w.cell? ⟨E.rb, 0, none⟩ = some (.slice E.G.wv E.G.N E.G.cap)
  c1 : w.cell? ⟨E.rb, 1, none⟩ = some (.slice E.G.yv E.G.M E.G.ycap)
  c2 : w.cell? ⟨E.rb, 2, none⟩ = some (.int .i64 E.G.mark)
  c3 : w.cell? ⟨E.rb, 3, none⟩ = some (.slice E.G.av E.G.A.length E.G.acap)
  c4 : w.cell? ⟨E.rb, 4, none⟩ = some (.int .i64 left)
  c5 : w.cell? ⟨E.rb, 5, none⟩ = some (.bool bad)
  fr : ∀ o, w.frozen? ⟨E.rb, o, none⟩ = false
  src : GSrc E.G w
  wn : E.G.N ≠ 0 → E.G.b ≠ E.rb
  yn : E.G.M ≠ 0 → E.G.yb ≠ E.rb
  an : E.G.A.length ≠ 0 → E.G.ab ≠ E.rb
theorem Sr.lt {E : SE} {left : Int} {bad : Bool} {w : World} (h : Sr E left bad w) : E.rb < w.heap.size := World.block_lt_of_cell? w _ h.c0
theorem GSrc.same {G : GE} {w w1 w2 : World} (h0 : GSrc G w) (h : GSrc G w1) (hk : ∀ k, k < w.heap.size → w2.heap[k]? = w1.heap[k]?) : GSrc G w2 := by
  have e : ∀ b o, b < w.heap.size → w2.cell? ⟨b, o, none⟩ = w1.cell? ⟨b, o, none⟩ := fun b o hb => World.cell?_of_block (w := w1) (hk b hb)
  exact ⟨h.n, h.m, h.a, h.ol, h.yl, h.al, fun j hj => by rw [e _ _ (World.block_lt_of_cell? w _ (h0.ws j hj))]; exact h.ws j hj, fun j hj => by rw [e _ _ (World.block_lt_of_cell? w _ (h0.ys j hj))]; exact h.ys j hj, fun j hj => by rw [e _ _ (World.block_lt_of_cell? w _ (h0.ats j hj))]; exact h.ats j hj, h.big, h.bigy, h.txt⟩
theorem Sr.same {E : SE} {l0 left : Int} {b0 bad : Bool} {w w1 w2 : World} (h0 : Sr E l0 b0 w) (h : Sr E left bad w1) (hk : ∀ k, k < w.heap.size → w2.heap[k]? = w1.heap[k]?) : Sr E left bad w2 := by
  have e : ∀ b o, b < w.heap.size → w2.cell? ⟨b, o, none⟩ = w1.cell? ⟨b, o, none⟩ := fun b o hb => World.cell?_of_block (w := w1) (hk b hb)
  have hr := h0.lt
  exact ⟨by rw [e _ _ hr]; exact h.c0, by rw [e _ _ hr]; exact h.c1, by rw [e _ _ hr]; exact h.c2, by rw [e _ _ hr]; exact h.c3, by rw [e _ _ hr]; exact h.c4, by rw [e _ _ hr]; exact h.c5, fun o => by rw [World.frozen?_of_block (w := w1) (hk E.rb hr)]; exact h.fr o, h0.src.same h.src hk, h.wn, h.yn, h.an⟩
theorem Sr.below {E : SE} {left : Int} {bad : Bool} {w w' : World} (h : Sr E left bad w) (hb : Below w.heap.size w w') : Sr E left bad w' := h.same h (fun k hk => hb.block k hk)
theorem Sr.drew {E : SE} {left : Int} {bad : Bool} {w : World} (h : Sr E left bad w) : Sr E left bad w.drew := h.same h (fun k _ => rfl)
theorem Sr.setA {E : SE} {left : Int} {bad : Bool} {w : World} (h : Sr E left bad w) (o : Nat) (v : Value) : GSrc E.G (w.setCell ⟨E.rb, o, none⟩ v) ∧ (∀ o', o' ≠ o → (w.setCell ⟨E.rb, o, none⟩ v).cell? ⟨E.rb, o', none⟩ = w.cell? ⟨E.rb, o', none⟩) := by
  have e : ∀ b o', b ≠ E.rb → (w.setCell ⟨E.rb, o, none⟩ v).cell? ⟨b, o', none⟩ = w.cell? ⟨b, o', none⟩ := fun b o' hn => by
    rw [World.cell?_setCell_other (h := fun e => by simp only [Addr.mk.injEq] at e; exact hn e.1.symm)]
  have s := h.src
  exact ⟨⟨s.n, s.m, s.a, s.ol, s.yl, s.al, fun j hj => by rw [e _ _ (h.wn (by omega))]; exact s.ws j hj, fun j hj => by rw [e _ _ (h.yn (by omega))]; exact s.ys j hj, fun j hj => by rw [e _ _ (h.an (by omega))]; exact s.ats j hj, s.big, s.bigy, s.txt⟩, fun o' hn => by rw [World.cell?_setCell_other (h := fun e => by simp only [Addr.mk.injEq] at e; omega)]⟩
theorem Sr.setL {E : SE} {left : Int} {bad : Bool} {w : World} (h : Sr E left bad w) (x : Int) : Sr E x bad (w.setCell ⟨E.rb, 4, none⟩ (.int .i64 x)) := by
  obtain ⟨s, e⟩ := h.setA 4 (.int .i64 x)
  exact ⟨by rw [e _ (by omega)]; exact h.c0, by rw [e _ (by omega)]; exact h.c1, by rw [e _ (by omega)]; exact h.c2, by rw [e _ (by omega)]; exact h.c3, World.cell?_setCell_same w _ _ h.c4, by rw [e _ (by omega)]; exact h.c5, fun o => by rw [World.frozen?_setCell]; exact h.fr o, s, h.wn, h.yn, h.an⟩
theorem Sr.setB {E : SE} {left : Int} {bad : Bool} {w : World} (h : Sr E left bad w) (x : Bool) : Sr E left x (w.setCell ⟨E.rb, 5, none⟩ (.bool x)) := by
  obtain ⟨s, e⟩ := h.setA 5 (.bool x)
  exact ⟨by rw [e _ (by omega)]; exact h.c0, by rw [e _ (by omega)]; exact h.c1, by rw [e _ (by omega)]; exact h.c2, by rw [e _ (by omega)]; exact h.c3, by rw [e _ (by omega)]; exact h.c4, World.cell?_setCell_same w _ _ h.c5, fun o => by rw [World.frozen?_setCell]; exact h.fr o, s, h.wn, h.yn, h.an⟩
theorem Sr.at {E : SE} {left : Int} {bad : Bool} {w : World} (h : Sr E left bad w) (p j : Nat) (hj : j < E.G.len p) : w.cell? ⟨E.G.sb p, E.G.so p + j, none⟩ = some (.int .i64 (E.G.w p j)) := h.src.at p j hj
theorem Sr.sn {E : SE} {left : Int} {bad : Bool} {w : World} (h : Sr E left bad w) (p : Nat) (hj : 0 < E.G.len p) : E.G.sb p ≠ E.rb := by
  unfold GE.len at hj
  unfold GE.sb
  by_cases h1 : p < 100000
  · rw [if_pos h1] at hj ⊢
    exact h.wn (by omega)
  · rw [if_neg h1] at hj ⊢
    exact h.yn (by omega)
theorem GE.bigw {G : GE} {w : World} (h : GSrc G w) (p j : Nat) : G.w p j ≤ 9223372036854775807 := by
  unfold GE.w
  split
  · exact h.big _
  · exact h.bigy _
/-- How many stand where a word that is made leads. -/
theorem sz_mk {G : GE} {w : World} (h : GSrc G w) (t : Int) (ht : t = 4 ∨ t = 6) (p : Nat) : sz G (mkw t p) = cn G p := by
  by_cases hp : p ≤ 4000000
  · have e : mkw t p = (p : Int) * 8 + t := by
      unfold mkw
      rw [if_pos (by rcases ht with rfl | rfl <;> simp [inB] <;> omega)]
    have h1 : tagW (mkw t p) = t := by rw [e, tagW_of (by omega)]; rcases ht with rfl | rfl <;> omega
    have h2 : valW (mkw t p) = p := by rw [e, valW_of (by omega)]; rcases ht with rfl | rfl <;> omega
    unfold sz
    rw [h1, if_neg (by omega), if_pos (by omega), h2]
    simp
  · have e : mkw t p = 0 := by
      unfold mkw
      rw [if_neg (by simp [inB]; omega)]
    have h1 : tagW (mkw t p) = 0 := by rw [e]; rfl
    unfold sz cn
    rw [h1, if_neg (by omega), if_neg (by omega), if_neg (fun hh => ?_)]
    have := (GE.ok h.n h.m h.a).far p (by have := hh.1; show G.len p ≠ 0; omega)
    omega
theorem mkw_le (t : Int) (p : Int) (ht : t ≤ 6) : mkw t p ≤ 9223372036854775807 := by
  unfold mkw inB
  split
  · rename_i h
    simp at h
    omega
  · decide
theorem cn_some {G : GE} {p m : Nat} {most : Int} (hm : most ≤ 1000) (h : cnt G.H p most = some m) : cn G p = (m : Int) + 1 ∧ m + 1 ≤ G.len p ∧ (m : Int) ≤ most := by
  obtain ⟨h1, h2, h3, h4, h5⟩ := cnt_some h
  rw [Int.toNat_natCast] at h1 h2 h3 h4 h5
  have e1 : G.H.len p = G.len p := rfl
  have e2 : G.H.w p 0 = G.w p 0 := rfl
  rw [e1] at h1 h5
  rw [e2] at h2 h3 h4 h5
  unfold cn
  rw [if_pos ⟨h1, h2, by omega⟩]
  omega
/-- Where it does not say how many there are, one of the two tests falls. -/
theorem cn_none {G : GE} {p : Nat} {most : Int} (hm : most ≤ 1000) (h : cnt G.H p most = none) : ∃ k : Nat, cn G p = k ∧ k ≤ 1001 ∧ (inB ((k : Int) - 1) 0 most = true → k ≠ 0 ∧ ¬ k ≤ G.len p) := by
  unfold cnt at h
  rw [Int.toNat_natCast] at h
  have e1 : G.H.len p = G.len p := rfl
  have e2 : G.H.w p 0 = G.w p 0 := rfl
  rw [e1, e2] at h
  by_cases hc : 1 ≤ G.len p ∧ 0 ≤ G.w p 0 ∧ G.w p 0 ≤ 1000
  · refine ⟨(G.w p 0 + 1).toNat, ?_, ?_, fun hb => ?_⟩
    · unfold cn; rw [if_pos hc]; omega
    · omega
    · have := inB_yes hb
      refine ⟨by omega, fun hh => ?_⟩
      rw [if_pos ⟨hc.1, hc.2.1, by omega, by omega⟩] at h
      cases h
  · refine ⟨0, ?_, by omega, fun hb => ?_⟩
    · unfold cn; rw [if_neg hc]; rfl
    · have := inB_yes hb; omega
end Go.Proofs.YtjjmikfbongccaaGreatDoor.Gn
