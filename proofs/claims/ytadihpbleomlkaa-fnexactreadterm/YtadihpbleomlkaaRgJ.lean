/-
  Whether all roots are read, by the program.
-/
import Derived.Test.YtadihpbleomlkaaRgI
namespace Go.Proofs.Ytadihpbleomlkaa
open Go.RowKit
set_option linter.unusedVariables false

/-- The roots R stand in the block rb from ro on. -/
def Roots (w : World) (rv : Option Addr) (R : List Int) : Prop := R.length ≠ 0 → ∃ b o, rv = some ⟨b, o, none⟩ ∧ ∀ j (h : j < R.length), w.cell? ⟨b, o + j, none⟩ = some (.int .i64 R[j])
theorem Roots.below {w w' : World} {rv : Option Addr} {R : List Int} (h : Roots w rv R) (hb : Below w.heap.size w w') : Roots w' rv R := fun hn => by
  obtain ⟨b, o, e, hc⟩ := h hn
  exact ⟨b, o, e, fun j hj => by rw [hb.cell (p := ⟨b, o + j, none⟩) (World.block_lt_of_cell? w _ (hc j hj))]; exact hc j hj⟩
theorem take_in {R : List Int} {P : Int → Prop} {m : Nat} (h : m < R.length) (ha : ∀ x ∈ R.take m, P x) (hx : P R[m]) : ∀ x ∈ R.take (m + 1), P x := by
  intro x hm
  rw [List.take_add_one, List.getElem?_eq_getElem h] at hm
  rcases List.mem_append.1 hm with hm | hm
  · exact ha x hm
  · obtain rfl : x = R[m] := by simpa using hm
    exact hx
namespace Gn
theorem Agr.trans {a b c : World} (h : Agr a b) (k : Agr b c) : Agr a c := ⟨Nat.le_trans h.1 k.1, fun i hi => (k.2 i (Nat.lt_of_lt_of_le hi h.1)).trans (h.2 i hi)⟩
theorem Agr.below {w w' : World} (h : Below w.heap.size w w') : Agr w w' := ⟨h.size, fun k hk => h.block k hk⟩
/-- The same, behind a call that writes nothing old. -/
abbrev Env.at (E : Env) (w : World) : Env := { E with W := w }
theorem Src.move {E : Env} {w : World} (h : Src E) (ha : Agr E.W w) : Src (E.at w) := by
  refine ⟨h.ok, ⟨h.told.one, fun w' p hw hp => h.told.call w' p (ha.trans hw) hp, fun p j hj => ha.cell (h.told.ws p j hj)⟩, h.al, fun j hj => ha.cell (h.ats j hj), h.big, h.txt⟩
def allB (H : Hp) (R : List Int) : Bool := R.all fun x => (readT H x).isSome
theorem allB_no {H : Hp} {R : List Int} {x : Int} (hm : x ∈ R) (h : readT H x = none) : allB H R = false := by
  unfold allB
  rw [List.all_eq_false]
  exact ⟨x, hm, by rw [h]; simp⟩
set_option maxHeartbeats 2000000 in
set_option maxRecDepth 100000 in
theorem allRead_any (E : Env) (w : World) (hE : E.W = w) (h : Src E) (rv : Option Addr) (rcap : Nat) (R : List Int) (hr : Roots w rv R) (hR : R.length ≤ 1048576) (hb : ∀ x ∈ R, x ≤ 9223372036854775807) :
    Calls Try.prog 62 #[fvE E, .slice E.av E.H.A.length E.acap, .slice rv R.length rcap] w fun e w' => e = .returned (.bool (allB E.H R)) ∧ Below w.heap.size w w' := by
  have HS : Hid (Src E) := h
  have HEW : Hid (E.W = w) := hE
  have HR : Hid (Roots w rv R) := hr
  have HBR : Hid (∀ x ∈ R, x ≤ 9223372036854775807) := hb
  have HRO : Hid (∀ w', Below w.heap.size w w' → ∀ x, x ≤ 9223372036854775807 → Calls Try.prog 57 #[fvE E, .slice E.av E.H.A.length E.acap, .int .i64 x] w' fun e w5 => ∃ va vb vc vd ve vf, e = .returned (.tuple #[.agg #[.int .i64 va, .int .i64 vb, .string vc, .slice vd ve vf], .bool (readT E.H x).isSome]) ∧ Below w'.heap.size w' w5) := fun w' hb' x hx => by
    refine Calls.mono (readOff_any (E.at w') w' rfl (HS.out.move (by rw [HEW.out]; exact Agr.below hb')) x hx) ?_
    rintro e w5 ⟨hb5, hh5⟩
    obtain ⟨va, vb, vc, vd, ve, vf, ok, rfl, hh6⟩ := off_form hh5
    refine ⟨va, vb, vc, vd, ve, vf, ?_, hb5⟩
    rcases hh6 with ⟨t, h1, rfl, _⟩ | ⟨h1, rfl, _⟩
    · have h1' : readT E.H x = some t := h1
      rw [h1']; rfl
    · have h1' : readT E.H x = none := h1
      rw [h1']; rfl
  clear h hr hb hE HS HEW
  generalize E.H.A.length = AL at *
  generalize hfv : fvE E = FV at *
  clear hfv
  go_enter Try.func62, Try.ntmps62
  go_wp2_with fail
  go_loopw [13] (fun i wr => ∃ m : Nat, m ≤ R.length ∧ i = .int .i64 m ∧ (∀ x ∈ R.take m, (readT E.H x).isSome = true) ∧ Below w.heap.size w wr) (fun i _ => R.length - (intOf i).toNat)
  case atStart => exact ⟨0, Nat.zero_le _, rfl, by simp, Below.refl _ _⟩
  case round =>
    obtain ⟨m, hm, rfl, hall, hbr⟩ := hrel
    have HALL : Hid (∀ x ∈ R.take m, (readT E.H x).isSome = true) := hall
    have HBW : Hid (Below w.heap.size w wr) := hbr
    clear hall hbr
    by_cases hlt : m < R.length
    · obtain ⟨b, o, rfl, hcs⟩ := (HR.out.below HBW.out) (by omega)
      have q := hcs m hlt
      have HX : Hid (R[m] ≤ 9223372036854775807) := HBR.out _ (List.getElem_mem hlt)
      have HM : Hid (R[m] ∈ R) := List.getElem_mem hlt
      have HT : Hid ((readT E.H R[m]).isSome = true → ∀ x ∈ R.take (m + 1), (readT E.H x).isSome = true) := fun h => take_in hlt HALL.out h
      clear hcs
      generalize R[m] = x at *
      cases hrd : readT E.H x with
      | none =>
        have HRD : Hid (readT E.H x = none) := hrd
        have HE : Hid (allB E.H R = false) := allB_no HM.out hrd
        clear hrd
        go_wp2_with (go_at_call 57; refine (HRO.out _ HBW.out x HX.out).mono ?_; rintro e w5 ⟨va, vb, vc, vd, ve, vf, rfl, hb5⟩; rw [HRD.out]; have HB5 : Hid (Below w.heap.size w w5) := HBW.out.trans (hb5.mono HBW.out.size); clear hb5)
        go_ret
        exact ⟨ret_bool HE.out.symm, HB5.out.alloc HB5.out.size _⟩
      | some t =>
        have HRD : Hid (readT E.H x = some t) := hrd
        have HE : Hid (∀ x ∈ R.take (m + 1), (readT E.H x).isSome = true) := HT.out (by rw [hrd]; rfl)
        clear hrd
        go_wp2_with (go_at_call 57; refine (HRO.out _ HBW.out x HX.out).mono ?_; rintro e w5 ⟨va, vb, vc, vd, ve, vf, rfl, hb5⟩; rw [HRD.out]; have HB5 : Hid (Below w.heap.size w w5) := HBW.out.trans (hb5.mono HBW.out.size); clear hb5)
        go_roundw
        case rel => exact ⟨m + 1, by omega, by go_num, HE.out, HB5.out.alloc HB5.out.size _⟩
        case measure => simp [intOf]; omega
    · have HE : Hid (allB E.H R = true) := by
        show _ = _
        unfold allB
        rw [List.all_eq_true]
        exact fun x hx => HALL.out x (by rw [List.take_of_length_le (by omega)]; exact hx)
      go_wp2_with fail
      go_ret
      exact ⟨ret_bool HE.out.symm, HBW.out⟩
end Gn
end Go.Proofs.Ytadihpbleomlkaa
