/-
  How the specification reads off both lists: how many stand where a word leads.
-/
import Derived.Test.YtjjmikfbongccaaSlA
namespace Go.Proofs.Ytjjmikfbongccaa.Gn
open Go.RowKit
set_option linter.unusedVariables false

theorem GSrc.drew {G : GE} {w : World} (h : GSrc G w) : GSrc G w.drew := ⟨h.n, h.m, h.a, h.ol, h.yl, h.al, h.ws, h.ys, h.ats, h.big, h.bigy, h.txt⟩
def cn (G : GE) (v : Nat) : Int := if 1 ≤ G.len v ∧ 0 ≤ G.w v 0 ∧ G.w v 0 ≤ 1000 then G.w v 0 + 1 else 0
def sz (G : GE) (x : Int) : Int := if tagW x = 5 then 2 else if tagW x = 4 ∨ tagW x = 6 then cn G (valW x).toNat else 0
set_option maxHeartbeats 2000000 in
set_option maxRecDepth 100000 in
theorem l6Size_any {G : GE} {w : World} (h : GSrc G w) (x : Int) (hx : x ≤ 9223372036854775807) :
    Calls Try.prog 58 #[G.v, .int .i64 x] w fun e w' => e = .returned (.int .i64 (sz G x)) ∧ Below w.heap.size w w' := by
  have HX : Hid (x ≤ 9223372036854775807) := hx
  have HS1 : Hid (GSrc G (w.alloc (.cells #[.slice G.wv G.N G.cap, .slice G.yv G.M G.ycap, .int .i64 G.mark] 44))) := h.below ((Below.refl _ _).alloc (Nat.le_refl _) _)
  have HB1 : Hid (Below w.heap.size w (w.alloc (.cells #[.slice G.wv G.N G.cap, .slice G.yv G.M G.ycap, .int .i64 G.mark] 44))) := (Below.refl _ _).alloc (Nat.le_refl _) _
  have HZ1 : Hid ((w.alloc (.cells #[.slice G.wv G.N G.cap, .slice G.yv G.M G.ycap, .int .i64 G.mark] 44)).heap.size = w.heap.size + 1) := by show _ = _; rw [World.size_alloc]
  unfold GE.v
  clear h hx
  by_cases h5 : tagW x = 5
  · have HE : Hid (sz G x = 2) := by show _ = _; unfold sz; rw [if_pos h5]
    have HT : Hid (tagW x = 5) := h5
    clear h5
    go_enter Try.func58, Try.ntmps58
    go_wp2_with (first | (go_at_call 45; refine (specTag_any x _).mono ?_; rintro e w' ⟨rfl, rfl⟩; rw [HT.out]))
    go_ret
    exact ⟨ret_int HE.out.symm, HB1.out⟩
  · by_cases h46 : tagW x = 4 ∨ tagW x = 6
    · have HE0 : Hid (sz G x = cn G (valW x).toNat) := by show _ = _; unfold sz; rw [if_neg h5, if_pos h46]
      have hvb : valW x ≤ 9223372036854775000 := by have := HX.out; unfold valW; split <;> omega
      obtain ⟨v, hv⟩ : ∃ v : Nat, valW x = v := ⟨(valW x).toNat, by have := valW_ge x; omega⟩
      have HV : Hid (valW x = v) := hv
      have HVB : Hid (v ≤ 9223372036854775000) := by show _ ≤ _; omega
      have HE1 : Hid (sz G x = cn G v) := by show _ = _; rw [HE0.out, hv]; simp
      clear HE0 hv hvb h5
      by_cases hl : 1 ≤ G.len v
      · have HL : Hid (1 ≤ G.len v) := hl
        have HEX : Hid (sz G x = if 0 ≤ G.w v 0 ∧ G.w v 0 ≤ 1000 then G.w v 0 + 1 else 0) := by
          show _ = _
          rw [HE1.out]
          unfold cn
          simp only [hl, true_and]
        have HCE : Hid (∀ w', GSrc G w' → w'.cell? ⟨G.sb v, G.so v, none⟩ = some (.int .i64 (G.w v 0))) := fun w' hs => hs.at v 0 (by omega)
        clear hl HE1
        generalize G.w v 0 = y at *
        obtain ⟨B, hB⟩ : ∃ B, inB y 0 1000 = B := ⟨_, rfl⟩
        have HBB : Hid (inB y 0 1000 = B) := hB
        have HEB : Hid (sz G x = if B then y + 1 else 0) := by
          show _ = _
          rw [HEX.out, ← hB]
          unfold inB
          simp
        have hyb : B = true → y ≤ 1000 ∧ 0 ≤ y := fun h => by rw [h] at hB; have := inB_yes hB; omega
        clear hB HEX
        have hyb2 : B = true → IntKind.i64.wrap (y + 1) = y + 1 := fun h => by have := hyb h; rw [IntKind.wrap_i64]; omega
        cases B with
        | true =>
          obtain ⟨hy1, hy2⟩ := hyb rfl
          have HE : Hid (sz G x = y + 1) := HEB.out
          clear hyb hyb2 HEB
          rcases h46 with ht | ht
          all_goals
            have HT : Hid (tagW x = _) := ht
            clear ht
            go_enter Try.func58, Try.ntmps58
            go_wp2_with (first | (go_at_call 45; refine (specTag_any x _).mono ?_; rintro e w' ⟨rfl, rfl⟩; rw [HT.out]))
            go_region_law (go_simp; go_wp2_with (first | (go_at_call 48; refine (specVal_any x HX.out _).mono ?_; rintro e w' ⟨rfl, rfl⟩; rw [HV.out]) | (go_at_call 57; refine (l6Words_yes HS1.out.drew v 1 HL.out (by decide)).mono ?_; rintro e w3 ⟨c3, rfl, hb3⟩; have q3 := HCE.out w3 (HS1.out.drew.below hb3); have HB3 : Hid (Below w.heap.size w w3) := (HB1.out.drew.trans (hb3.mono (by show _ ≤ (w.alloc _).heap.size; rw [HZ1.out]; omega))); clear hb3)))
            all_goals
              go_wp2_with (first | (go_at_call 59; refine (in_any _ _ _ _).mono ?_; rintro e w' ⟨rfl, rfl⟩; rw [HBB.out]))
              go_ret
              exact ⟨ret_int HE.out.symm, HB3.out⟩
        | false =>
          have HE : Hid (sz G x = 0) := HEB.out
          clear hyb hyb2 HEB
          rcases h46 with ht | ht
          all_goals
            have HT : Hid (tagW x = _) := ht
            clear ht
            go_enter Try.func58, Try.ntmps58
            go_wp2_with (first | (go_at_call 45; refine (specTag_any x _).mono ?_; rintro e w' ⟨rfl, rfl⟩; rw [HT.out]))
            go_region_law (go_simp; go_wp2_with (first | (go_at_call 48; refine (specVal_any x HX.out _).mono ?_; rintro e w' ⟨rfl, rfl⟩; rw [HV.out]) | (go_at_call 57; refine (l6Words_yes HS1.out.drew v 1 HL.out (by decide)).mono ?_; rintro e w3 ⟨c3, rfl, hb3⟩; have q3 := HCE.out w3 (HS1.out.drew.below hb3); have HB3 : Hid (Below w.heap.size w w3) := (HB1.out.drew.trans (hb3.mono (by show _ ≤ (w.alloc _).heap.size; rw [HZ1.out]; omega))); clear hb3)))
            all_goals
              go_wp2_with (first | (go_at_call 59; refine (in_any _ _ _ _).mono ?_; rintro e w' ⟨rfl, rfl⟩; rw [HBB.out]))
              go_ret
              exact ⟨ret_int HE.out.symm, HB3.out⟩
      · have HL : Hid (¬ 1 ≤ G.len v) := hl
        have HE : Hid (sz G x = 0) := by show _ = _; rw [HE1.out]; unfold cn; rw [if_neg (fun h => hl h.1)]
        clear hl HE1
        rcases h46 with ht | ht
        all_goals
          have HT : Hid (tagW x = _) := ht
          clear ht
          go_enter Try.func58, Try.ntmps58
          go_wp2_with (first | (go_at_call 45; refine (specTag_any x _).mono ?_; rintro e w' ⟨rfl, rfl⟩; rw [HT.out]))
          go_region_law (go_simp; go_wp2_with (first | (go_at_call 48; refine (specVal_any x HX.out _).mono ?_; rintro e w' ⟨rfl, rfl⟩; rw [HV.out]) | (go_at_call 57; refine (l6Words_no HS1.out.drew v 1 HL.out HVB.out).mono ?_; rintro e w3 ⟨⟨g3, rfl⟩, hb3⟩; have HB3 : Hid (Below w.heap.size w w3) := (HB1.out.drew.trans (hb3.mono (by show _ ≤ (w.alloc _).heap.size; rw [HZ1.out]; omega))); clear hb3)))
          all_goals
            go_wp2_with fail
            go_ret
            exact ⟨ret_int HE.out.symm, HB3.out⟩
    · have HE : Hid (sz G x = 0) := by show _ = _; unfold sz; rw [if_neg h5, if_neg h46]
      have e1 : (tagW x == 5) = false := by simpa using h5
      have e2 : (tagW x == 4) = false := by simp; omega
      have e3 : (tagW x == 6) = false := by simp; omega
      clear h5 h46
      go_enter Try.func58, Try.ntmps58
      go_wp2_with (first | (go_at_call 45; refine (specTag_any x _).mono ?_; rintro e w' ⟨rfl, rfl⟩))
      go_ret
      exact ⟨ret_int HE.out.symm, HB1.out⟩
end Go.Proofs.Ytjjmikfbongccaa.Gn
