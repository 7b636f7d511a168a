/-
  Both kinds of HeapOk answer the same.
  The specification's HeapOk.
-/
import Derived.Test.YthdoamdjhpkimaaSpH
import Derived.Test.YthdoamdjhpkimaaRgJ
import Derived.Deep.RegionLaw
namespace Go.Proofs.Ythdoamdjhpkimaa
open Go.RowKit
set_option linter.unusedVariables false

def heapB (H : Hp) (R : List Int) : Bool := decide (H.N ≤ 2000) && atomsB H.A && R.all (fun x => (readT H x).isSome)
theorem heapB_big {H : Hp} {R : List Int} (h : ¬ H.N ≤ 2000) : heapB H R = false := by simp [heapB, h]
theorem heapB_atoms {H : Hp} {R : List Int} (h : atomsB H.A = false) : heapB H R = false := by simp [heapB, h]
theorem heapB_root {H : Hp} {R : List Int} {x : Int} (hm : x ∈ R) (h : readT H x = none) : heapB H R = false := by
  have : R.all (fun x => (readT H x).isSome) = false := by
    rw [List.all_eq_false]
    exact ⟨x, hm, by rw [h]; simp⟩
  rw [heapB, this, Bool.and_false]
theorem heapB_yes {H : Hp} {R : List Int} (h1 : H.N ≤ 2000) (h2 : atomsB H.A = true) (h3 : ∀ x ∈ R, (readT H x).isSome = true) : heapB H R = true := by
  have : R.all (fun x => (readT H x).isSome) = true := by rw [List.all_eq_true]; exact h3
  simp [heapB, h1, h2, this]
theorem heapB_all {H : Hp} {R : List Int} (h1 : H.N ≤ 2000) (h2 : atomsB H.A = true) : heapB H R = Gn.allB (Gn.flat H) R := by
  unfold heapB Gn.allB
  have e : (fun x => (Gn.readT (Gn.flat H) x).isSome) = fun x => (readT H x).isSome := funext fun x => by rw [Gn.flat_readT]
  rw [e, h2]
  simp [h1]
set_option maxHeartbeats 2000000 in
set_option maxRecDepth 100000 in
theorem implHeapOk_any (E : Env) (w : World) (h : Src E w) (hl : Gn.Lst E.wv E.b E.o E.H.N E.cap) (rv : Option Addr) (rcap : Nat) (R : List Int) (hr : Roots w rv R) (hR : R.length ≤ 1048576) (hb : ∀ x ∈ R, x ≤ 9223372036854775807) :
    Calls Try.prog 16 #[.agg #[.slice E.wv E.H.N E.cap], .slice E.av E.H.A.length E.acap, .slice rv R.length rcap] w fun e w' => e = .returned (.bool (heapB E.H R)) ∧ Below w.heap.size w w' := by
  have HS : Hid (Src E w) := h
  have HLS : Hid (Gn.Lst E.wv E.b E.o E.H.N E.cap) := hl
  have HR : Hid (Roots w rv R) := hr
  have HRL : Hid (R.length ≤ 1048576) := hR
  have HBR : Hid (∀ x ∈ R, x ≤ 9223372036854775807) := hb
  have hN := h.ok.n
  have HB1 : Hid (Below w.heap.size w (w.alloc (.cells #[.slice E.wv E.H.N E.cap] 26))) := (Below.refl _ _).alloc (Nat.le_refl _) _
  have q1 : (w.alloc (.cells #[.slice E.wv E.H.N E.cap] 26)).cell? ⟨w.heap.size, 0, none⟩ = some (.slice E.wv E.H.N E.cap) := World.cell?_alloc_new w _ _ 0
  have hz1 : (w.alloc (.cells #[.slice E.wv E.H.N E.cap] 26)).heap.size = w.heap.size + 1 := World.size_alloc _ _
  have HAT : Hid (∀ w', Below w.heap.size w w' → Calls Try.prog 46 #[.slice E.av E.H.A.length E.acap] w' fun e w'' => e = .returned (.bool (atomsB E.H.A)) ∧ Below w'.heap.size w' w'') := fun w' hb' => by
    have s := HS.out.below hb'
    exact implAtoms_any E.ab E.ao E.acap E.av E.H.A w' s.al s.ats s.ok.a (big_txt s.txt)
  have HAR : Hid (∀ w', Below w.heap.size w w' → Calls Try.prog 47 #[.func (.func 69) #[] #[.pointer (some ⟨w'.heap.size, 0, none⟩)], .slice E.av E.H.A.length E.acap, .slice rv R.length rcap] (w'.alloc (.cells #[.slice E.wv E.H.N E.cap] 26)) fun e w'' => e = .returned (.bool (Gn.allB (Gn.flat E.H) R)) ∧ Below w.heap.size w w'') := fun w' hb' => by
    have hb2 : Below w.heap.size w (w'.alloc (.cells #[.slice E.wv E.H.N E.cap] 26)) := hb'.alloc hb'.size _
    refine Calls.mono (Gn.allRead_any (Gn.ofHeap E (w'.alloc (.cells #[.slice E.wv E.H.N E.cap] 26)) w'.heap.size) _ rfl (Gn.ofHeap_src (HS.out.below hb2) HLS.out (World.cell?_alloc_new w' _ _ 0)) rv rcap R (HR.out.below hb2) HRL.out HBR.out) ?_
    rintro e w'' ⟨rfl, hb3⟩
    exact ⟨rfl, hb2.trans (hb3.mono hb2.size)⟩
  have HHE : Hid (E.H.N ≤ 2000 → atomsB E.H.A = true → heapB E.H R = Gn.allB (Gn.flat E.H) R) := heapB_all
  clear h hr hb hl hR
  by_cases h2 : E.H.N ≤ 2000
  · have hd : decide ((E.H.N : Int) ≤ 2000) = true := by simp; omega
    cases ha : atomsB E.H.A with
    | false =>
      have HA : Hid (atomsB E.H.A = false) := ha
      have HE : Hid (heapB E.H R = false) := heapB_atoms ha
      clear ha
      go_enter Try.func16, Try.ntmps16
      go_wp2_with (first | (go_at_call 46; refine (HAT.out _ HB1.out).mono ?_; rintro e w2 ⟨rfl, hb2⟩; rw [HA.out]; have q2 : w2.cell? ⟨w.heap.size, 0, none⟩ = some (.slice E.wv E.H.N E.cap) := (by rw [hb2.cell (p := ⟨w.heap.size, 0, none⟩) (by show w.heap.size < _; omega)]; exact q1); have HB2 : Hid (Below w.heap.size w w2) := HB1.out.trans (hb2.mono (by rw [World.size_alloc]; omega)); clear hb2))
      go_ret
      exact ⟨ret_bool HE.out.symm, HB2.out⟩
    | true =>
      have HA : Hid (atomsB E.H.A = true) := ha
      have HE : Hid (heapB E.H R = Gn.allB (Gn.flat E.H) R) := HHE.out h2 ha
      clear ha
      go_enter Try.func16, Try.ntmps16
      go_wp2_with (first | (go_at_call 46; refine (HAT.out _ HB1.out).mono ?_; rintro e w2 ⟨rfl, hb2⟩; rw [HA.out]; have q2 : w2.cell? ⟨w.heap.size, 0, none⟩ = some (.slice E.wv E.H.N E.cap) := (by rw [hb2.cell (p := ⟨w.heap.size, 0, none⟩) (by show w.heap.size < _; omega)]; exact q1); have HB2 : Hid (Below w.heap.size w w2) := HB1.out.trans (hb2.mono (by rw [World.size_alloc]; omega)); clear hb2) | (go_at_call 43; refine (Gn.heapFrom_any _ _ _ _).mono ?_; rintro e w3 ⟨rfl, rfl⟩) | (go_at_call 47; refine (HAR.out _ HB2.out).mono ?_; rintro e w4 ⟨rfl, hb4⟩; have HB4 : Hid (Below w.heap.size w w4) := hb4; clear hb4))
      go_ret
      exact ⟨ret_bool HE.out.symm, HB4.out⟩
  · have hd : decide ((E.H.N : Int) ≤ 2000) = false := by simp; omega
    have HE : Hid (heapB E.H R = false) := heapB_big h2
    go_enter Try.func16, Try.ntmps16
    go_wp2_with fail
    go_ret
    exact ⟨ret_bool HE.out.symm, HB1.out⟩
end Go.Proofs.Ythdoamdjhpkimaa

namespace Go.Proofs.Ythdoamdjhpkimaa
open Go.RowKit
set_option linter.unusedVariables false

set_option maxHeartbeats 2000000 in
set_option maxRecDepth 100000 in
theorem specHeapOk_any (E : Env) (w : World) (h : Src E w) (rv : Option Addr) (rcap : Nat) (R : List Int) (hr : Roots w rv R) (hR : R.length ≤ 1048576) (hb : ∀ x ∈ R, x ≤ 9223372036854775807) :
    Calls Try.prog 17 #[.agg #[.slice E.wv E.H.N E.cap], .slice E.av E.H.A.length E.acap, .slice rv R.length rcap] w fun e w' => e = .returned (.bool (heapB E.H R)) ∧ Below w.heap.size w w' := by
  have HS : Hid (Src E w) := h
  have HR : Hid (Roots w rv R) := hr
  have HBR : Hid (∀ x ∈ R, x ≤ 9223372036854775807) := hb
  have hN := h.ok.n
  have hbx : Below w.heap.size w (w.alloc (.cells #[.slice E.wv E.H.N E.cap] 26)) := (Below.refl _ _).alloc (Nat.le_refl _) _
  have hz1 : (w.alloc (.cells #[.slice E.wv E.H.N E.cap] 26)).heap.size = w.heap.size + 1 := World.size_alloc _ _
  have HB1 : Hid (Below w.heap.size w (w.alloc (.cells #[.slice E.wv E.H.N E.cap] 26))) := hbx
  have HAT : Hid (∀ w', Below w.heap.size w w' → Calls Try.prog 48 #[.slice E.av E.H.A.length E.acap] w' fun e w'' => e = .returned (.bool (atomsB E.H.A)) ∧ Below w'.heap.size w' w'') := fun w' hb' => by
    have s := HS.out.below hb'
    exact (specAtoms_any E.ab E.ao E.acap E.av E.H.A w' s.al s.ats s.ok.a (big_txt s.txt)).mono (fun e w'' ⟨he, hw⟩ => ⟨he, by rw [hw]; exact Below.refl _ _⟩)
  clear h hr hb hbx
  by_cases h2 : E.H.N ≤ 2000
  · have hd : decide ((2000 : Int) < (E.H.N : Int)) = false := by simp; omega
    cases ha : atomsB E.H.A with
    | false =>
      have HA : Hid (atomsB E.H.A = false) := ha
      have HE : Hid (heapB E.H R = false) := heapB_atoms ha
      clear ha
      go_enter Try.func17, Try.ntmps17
      go_wp2_with (first | (go_at_call 48; refine (HAT.out _ HB1.out).mono ?_; rintro e w2 ⟨rfl, hb2⟩; rw [HA.out]; have HB2 : Hid (Below w.heap.size w w2) := HB1.out.trans (hb2.mono (by rw [World.size_alloc]; omega)); clear hb2))
      go_ret
      exact ⟨ret_bool HE.out.symm, HB2.out⟩
    | true =>
      have HA : Hid (atomsB E.H.A = true) := ha
      clear ha
      go_enter Try.func17, Try.ntmps17
      go_wp2_with (first | (go_at_call 48; refine (HAT.out _ HB1.out).mono ?_; rintro e w2 ⟨rfl, hb2⟩; rw [HA.out]; have HB2 : Hid (Below w.heap.size w w2) := HB1.out.trans (hb2.mono (by rw [World.size_alloc]; omega)); have hz2 : w.heap.size + 1 ≤ w2.heap.size := (by have := hb2.size; rw [World.size_alloc] at this; exact this); have HQ2 : Hid (w2.cell? ⟨w.heap.size, 0, none⟩ = some (.slice E.wv E.H.N E.cap)) := (by show _ = _; rw [hb2.cell (p := ⟨w.heap.size, 0, none⟩) (by rw [World.size_alloc]; exact Nat.lt_succ_self _), World.cell?_alloc_new]; rfl); clear hb2))
      go_loopw [7] (fun i wr => ∃ m : Nat, m ≤ R.length ∧ i = .int .i64 m ∧ (∀ x ∈ R.take m, (readT E.H x).isSome = true) ∧ Below w2.heap.size w2 wr) (fun i _ => R.length - (intOf i).toNat)
      case atStart => exact ⟨0, Nat.zero_le _, rfl, by simp, Below.refl _ _⟩
      case round =>
        obtain ⟨m, hm, rfl, hall, hbr⟩ := hrel
        have HALL : Hid (∀ x ∈ R.take m, (readT E.H x).isSome = true) := hall
        have HBB : Hid (Below w2.heap.size w2 wr) := hbr
        have HBW : Hid (Below w.heap.size w wr) := HB2.out.trans (hbr.mono (by omega))
        have q0 : wr.cell? ⟨w.heap.size, 0, none⟩ = some (.slice E.wv E.H.N E.cap) := by rw [hbr.cell (p := ⟨w.heap.size, 0, none⟩) (by show w.heap.size < _; omega)]; exact HQ2.out
        clear hall hbr
        by_cases hlt : m < R.length
        · obtain ⟨b, o, rfl, hcs⟩ := (HR.out.below HBW.out) (by omega)
          have q := hcs m hlt
          have HX : Hid (R[m] ≤ 9223372036854775807) := HBR.out _ (List.getElem_mem hlt)
          have HM : Hid (R[m] ∈ R) := List.getElem_mem hlt
          have HT : Hid ((readT E.H R[m]).isSome = true → ∀ x ∈ R.take (m + 1), (readT E.H x).isSome = true) := fun h => take_in hlt HALL.out h
          have hbl : b < wr.heap.size := World.block_lt_of_cell? wr _ q
          have hwl : w.heap.size < wr.heap.size := World.block_lt_of_cell? wr _ q0
          clear hcs
          generalize R[m] = x at *
          cases hrd : readT E.H x with
          | none =>
            have HRD : Hid (readT E.H x = none) := hrd
            have HE : Hid (heapB E.H R = false) := heapB_root HM.out hrd
            clear hrd
            go_wp2_with fail
            go_region_law (go_simp; go_wp2_with (go_at_call 12; first
              | ((conv in (World.drew wr) => skip); refine (specReadP E wr.drew (HS.out.below HBW.out.drew) x HX.out).mono ?_; rintro e w5 ⟨va, vb, vc, vd, ve, vf, rfl, hb5, hd5⟩; rw [HRD.out]; have HB5 : Hid (Below w.heap.size w w5) := HBW.out.drew.trans (hb5.mono HBW.out.size); clear hb5 hd5)
              | (refine (specReadP E (wr.alloc (.cells #[.int .i64 0, .int .i64 0, .string ⟨#[]⟩, .slice none 0 0] 32)).drew (HS.out.below (HBW.out.alloc HBW.out.size _).drew) x HX.out).mono ?_; rintro e w5 ⟨va, vb, vc, vd, ve, vf, rfl, hb5, hd5⟩; rw [HRD.out]; have HB5 : Hid (Below w.heap.size w w5) := (HBW.out.alloc HBW.out.size _).drew.trans (hb5.mono (by show _ ≤ (wr.alloc _).heap.size; rw [World.size_alloc]; exact Nat.le_succ_of_le HBW.out.size)); have q5 : ∀ o, w5.cell? ⟨wr.heap.size, o, none⟩ = (#[.int .i64 0, .int .i64 0, .string ⟨#[]⟩, .slice none 0 0] : Array Value)[o]? := (fun o => by rw [hb5.cell (p := ⟨wr.heap.size, o, none⟩) (by show wr.heap.size < (wr.alloc _).heap.size; rw [World.size_alloc]; exact Nat.lt_succ_self _)]; exact World.cell?_alloc_new wr _ _ o); have f5 : ∀ o, w5.frozen? ⟨wr.heap.size, o, none⟩ = false := (fun o => by rw [hb5.frozen (p := ⟨wr.heap.size, o, none⟩) (by show wr.heap.size < (wr.alloc _).heap.size; rw [World.size_alloc]; exact Nat.lt_succ_self _)]; exact World.frozen?_alloc_new wr _ _ o); clear hb5 hd5)))
            all_goals
              go_wp2_with fail
              go_ret
              first
                | exact ⟨ret_bool HE.out.symm, HB5.out.alloc HB5.out.size _⟩
                | exact ⟨ret_bool HE.out.symm, lay4_below HB5.out HBW.out.size _ _ _ _⟩
          | some t =>
            have HRD : Hid (readT E.H x = some t) := hrd
            have HE : Hid (∀ x ∈ R.take (m + 1), (readT E.H x).isSome = true) := HT.out (by rw [hrd]; rfl)
            clear hrd
            go_wp2_with fail
            go_region_law (go_simp; go_wp2_with (go_at_call 12; first
              | ((conv in (World.drew wr) => skip); refine (specReadP E wr.drew (HS.out.below HBW.out.drew) x HX.out).mono ?_; rintro e w5 ⟨va, vb, vc, vd, ve, vf, rfl, hb5, hd5⟩; rw [HRD.out]; have HB5 : Hid (Below w2.heap.size w2 w5) := HBB.out.drew.trans (hb5.mono HBB.out.size); clear hb5 hd5)
              | (refine (specReadP E (wr.alloc (.cells #[.int .i64 0, .int .i64 0, .string ⟨#[]⟩, .slice none 0 0] 32)).drew (HS.out.below (HBW.out.alloc HBW.out.size _).drew) x HX.out).mono ?_; rintro e w5 ⟨va, vb, vc, vd, ve, vf, rfl, hb5, hd5⟩; rw [HRD.out]; have HB5 : Hid (Below w2.heap.size w2 w5) := (HBB.out.alloc HBB.out.size _).drew.trans (hb5.mono (by show _ ≤ (wr.alloc _).heap.size; rw [World.size_alloc]; exact Nat.le_succ_of_le HBB.out.size)); have q5 : ∀ o, w5.cell? ⟨wr.heap.size, o, none⟩ = (#[.int .i64 0, .int .i64 0, .string ⟨#[]⟩, .slice none 0 0] : Array Value)[o]? := (fun o => by rw [hb5.cell (p := ⟨wr.heap.size, o, none⟩) (by show wr.heap.size < (wr.alloc _).heap.size; rw [World.size_alloc]; exact Nat.lt_succ_self _)]; exact World.cell?_alloc_new wr _ _ o); have f5 : ∀ o, w5.frozen? ⟨wr.heap.size, o, none⟩ = false := (fun o => by rw [hb5.frozen (p := ⟨wr.heap.size, o, none⟩) (by show wr.heap.size < (wr.alloc _).heap.size; rw [World.size_alloc]; exact Nat.lt_succ_self _)]; exact World.frozen?_alloc_new wr _ _ o); clear hb5 hd5)))
            all_goals
              go_wp2_with fail
              go_roundw
              case rel => first
                | exact ⟨m + 1, by omega, by go_num, HE.out, HB5.out.alloc HB5.out.size _⟩
                | exact ⟨m + 1, by omega, by go_num, HE.out, lay4_below HB5.out HBB.out.size _ _ _ _⟩
              case measure => simp [intOf]; omega
        · have HE : Hid (heapB E.H R = true) := heapB_yes h2 HA.out (fun x hx => HALL.out x (by rw [List.take_of_length_le (by omega)]; exact hx))
          go_wp2_with fail
          go_ret
          exact ⟨ret_bool HE.out.symm, HBW.out⟩
  · have hd : decide ((2000 : Int) < (E.H.N : Int)) = true := by simp; omega
    have HE : Hid (heapB E.H R = false) := heapB_big h2
    go_enter Try.func17, Try.ntmps17
    go_wp2_with fail
    go_ret
    exact ⟨ret_bool HE.out.symm, HB1.out⟩
end Go.Proofs.Ythdoamdjhpkimaa
