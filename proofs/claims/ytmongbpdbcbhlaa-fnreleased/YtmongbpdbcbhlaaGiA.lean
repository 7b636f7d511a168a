/-
  The program's setGuards, freeBlock and useBlock on a part of a row: what the whole row is then.
-/
import Derived.Test.YtmongbpdbcbhlaaTiB
import Derived.Lib.SliceRun
namespace Go.Proofs.Ytmongbpdbcbhlaa
open Go.RowKit
set_option linter.unusedVariables false

/-- The guards of a block of n words at p. -/
def grdF (f : Nat → Int) (p n : Nat) (u : Bool) : Nat → Int := upd (upd (upd f p (gw p n u 1000)) (p + 1) n) (p + 2 + n) (gw p n u 1001)

set_option maxHeartbeats 2000000 in
set_option maxRecDepth 100000 in
theorem setGuards_row (b T p n cap : Nat) (f : Nat → Int) (w : World) (hI : Ints w b 0 T f) (u : Bool) (h1 : 1 ≤ n) (hT : p + n + 3 ≤ T) (hm : T ≤ 1048576) :
    Calls Try.prog 62 #[.slice (some ⟨b, p, none⟩) (n + 3) cap, .int .i64 p, .bool u] w fun e w' => (∃ v, e = .returned v) ∧ Turn b w w' ∧ Ints w' b 0 T (grdF f p n u) := by
  have HI : Hid (Ints w b 0 T f) := hI
  have hlt : b < w.heap.size := hI.lt (by omega)
  have e3 : ((n + 3 : Nat) : Int) - 3 = (n : Int) := by omega
  have e1 : ((((n + 3 : Nat) : Int) - 1).toNat) = n + 2 := by omega
  have e3' : ((n : Int) + 3) - 3 = (n : Int) := by omega
  have e1' : ((((n : Int) + 3) - 1).toNat) = n + 2 := by omega
  clear hI
  go_enter Try.func62, Try.ntmps62
  go_wp2_with fail
  refine (guardsOf_any _ _ _ _).mono ?_
  rintro e w1 ⟨rfl, hb1⟩
  have HT : Hid (Turn b w w1) := Turn.of_below hb1
  have HI1 : Hid (Ints w1 b 0 T f) := HI.out.below hb1 hlt
  have hlt1 : b < w1.heap.size := HI1.out.lt (by omega)
  have c0 := HI1.out.cell p (by omega)
  have c1 := HI1.out.cell (p + 1) (by omega)
  have c2 := HI1.out.cell (p + (n + 2)) (by omega)
  rw [Nat.zero_add] at c0 c1 c2
  have fr : ∀ x, w1.frozen? ⟨b, x, none⟩ = false := HI1.out.free
  have hne : ¬ b = w1.heap.size := by omega
  have hN0 : 0 < n + 3 := by omega
  have hN1 : 1 < n + 3 := by omega
  have hN2 : n + 2 < n + 3 := by omega
  clear hb1
  go_wp2_with fail
  go_region
  go_end0
  refine ⟨⟨_, rfl⟩, ((((HT.out.set _ _).set _ _).set _ _).alloc _).drew', ?_⟩
  have h := ((HI1.out.set p (by omega) (gw p n u 1000)).set (p + 1) (by omega) n).set (p + (n + 2)) (by omega) (gw p n u 1001)
  rw [Nat.zero_add, Nat.zero_add, Nat.zero_add] at h
  refine Ints.drew' ((h.below ((Below.refl _ _).alloc (Nat.le_refl _) _) ?_).congr fun j _ => ?_)
  · rw [World.size_setCell, World.size_setCell, World.size_setCell]; exact hlt1
  · unfold grdF
    have : p + (n + 2) = p + 2 + n := by omega
    rw [this]

/-- The holder's words ahead of m are laid. -/
def holdF (f : Nat → Int) (p n : Nat) (u : Bool) (m : Nat) : Nat → Int := fun j => if p + 2 ≤ j ∧ j < p + 2 + m then (if u then 0 else pois j) else grdF f p n u j
theorem hold_step (f : Nat → Int) (p n : Nat) (u : Bool) (m : Nat) (x : Int) (hx : x = if u then 0 else pois (p + 2 + m : Nat)) : ∀ j, upd (holdF f p n u m) (p + 2 + m) x j = holdF f p n u (m + 1) j := by
  intro j
  unfold holdF
  by_cases h1 : j = p + 2 + m
  · subst h1
    rw [upd_same, if_pos (by omega)]; exact hx
  · rw [upd_other _ _ h1]
    by_cases h2 : p + 2 ≤ j ∧ j < p + 2 + m
    · have h3 : p + 2 ≤ j ∧ j < p + 2 + (m + 1) := by omega
      rw [if_pos h2, if_pos h3]
    · have h3 : ¬ (p + 2 ≤ j ∧ j < p + 2 + (m + 1)) := by omega
      rw [if_neg h2, if_neg h3]
theorem hold_all (f : Nat → Int) (p n : Nat) (u : Bool) : ∀ j, holdF f p n u n j = layF f p n u j := by
  intro j
  unfold holdF layF grdF
  by_cases h1 : j = p + 2 + n
  · subst h1
    rw [if_neg (by omega), upd_same, upd_same]
  · rw [upd_other _ _ h1, upd_other _ _ h1]
    unfold midF
    by_cases h2 : p + 2 ≤ j ∧ j < p + 2 + n
    · have n1 : ¬ j = p := by omega
      have n2 : ¬ j = p + 1 := by omega
      rw [if_pos h2, if_neg n1, if_neg n2, if_pos h2]
    · rw [if_neg h2]
      by_cases h3 : j = p
      · rw [if_pos h3, upd_other _ _ (by omega), h3, upd_same]
      · rw [if_neg h3]
        by_cases h4 : j = p + 1
        · rw [if_pos h4, h4, upd_same]
        · rw [if_neg h4, if_neg h2, upd_other _ _ h4, upd_other _ _ h3]

set_option maxHeartbeats 2000000 in
set_option maxRecDepth 100000 in
theorem free_row (b T p n cap : Nat) (f : Nat → Int) (w : World) (hI : Ints w b 0 T f) (h1 : 1 ≤ n) (hT : p + n + 3 ≤ T) (hm : T ≤ 1048576) (hc : n + 3 ≤ cap) :
    Calls Try.prog 33 #[.slice (some ⟨b, p, none⟩) (n + 3) cap, .int .i64 p] w fun e w' => (∃ v, e = .returned v) ∧ Turn b w w' ∧ Ints w' b 0 T (layF f p n false) := by
  have HI : Hid (Ints w b 0 T f) := hI
  clear hI
  go_enter Try.func33, Try.ntmps33
  go_wp2_with fail
  refine (setGuards_row b T p n cap f w HI.out false h1 hT hm).mono ?_
  rintro e w1 ⟨⟨v, rfl⟩, ht, hi⟩
  have HT : Hid (Turn b w w1) := ht
  have HI1 : Hid (Ints w1 b 0 T (grdF f p n false)) := hi
  clear ht hi
  go_wp2_with fail
  refine (held_any b p (n + 3) cap (by omega) (by omega) hc w1).mono ?_
  rintro e w2 ⟨rfl, rfl⟩
  have hM : n + 3 - 3 = n := by omega
  rw [hM]
  clear hM
  go_wp2_with fail
  go_loopw [13] (fun i w' => ∃ m : Nat, m ≤ n ∧ i = .int .i64 m ∧ Turn b w w' ∧ Ints w' b 0 T (holdF f p n false m)) (fun i _ => n - (intOf i).toNat)
  case atStart =>
    exact ⟨0, Nat.zero_le _, by simp, HT.out, HI1.out.congr (fun j _ => by unfold holdF; rw [if_neg (by omega)])⟩
  case round =>
    obtain ⟨m, hm1, rfl, ht, hi⟩ := hrel
    have HT2 : Hid (Turn b w wr) := ht
    have HI2 : Hid (Ints wr b 0 T (holdF f p n false m)) := hi
    have fr : ∀ x, wr.frozen? ⟨b, x, none⟩ = false := hi.free
    by_cases hlt : m < n
    · have cm := hi.cell (p + 2 + m) (by omega)
      rw [Nat.zero_add] at cm
      clear ht hi
      go_wp2_with (go_at_call 63; refine (implPois_any _ _).mono ?_; rintro e w' ⟨rfl, rfl⟩)
      go_roundw
      case rel =>
        refine ⟨m + 1, by omega, by go_num, HT2.out.set _ _, ?_⟩
        have h := (HI2.out.set (p + 2 + m) (by omega) (pois (p + 2 + m : Nat))).congr (fun j _ => hold_step f p n false m _ rfl j)
        rw [Nat.zero_add] at h
        have e4 : ((p + 2 + m : Nat) : Int) = (p : Int) + 2 + m := by omega
        rw [e4] at h
        exact h
      case measure => simp [intOf]; omega
    · have hme : m = n := by omega
      subst hme
      clear ht hi
      go_wp2_with fail
      go_end0
      exact ⟨⟨_, rfl⟩, HT2.out, HI2.out.congr fun j _ => hold_all f p m false j⟩

/-- The holder's words are cleared. -/
theorem ints_clear {b T p n : Nat} {f : Nat → Int} {a : World} (hT : p + n + 3 ≤ T) : ∀ (k m : Nat) (w : World), m + k = n → Turn b a w → Ints w b 0 T (holdF f p n true m) → Turn b a (w.setCells b (p + 2 + m) (List.replicate k (.int .i64 0))) ∧ Ints (w.setCells b (p + 2 + m) (List.replicate k (.int .i64 0))) b 0 T (holdF f p n true n) := by
  intro k
  induction k with
  | zero =>
    intro m w hm ht hi
    have : m = n := by omega
    subst this
    exact ⟨ht, hi⟩
  | succ k ih =>
    intro m w hm ht hi
    have h := (hi.set (p + 2 + m) (by omega) 0).congr (fun j _ => hold_step f p n true m 0 rfl j)
    rw [Nat.zero_add] at h
    exact ih (m + 1) (w.setCell ⟨b, p + 2 + m, none⟩ (.int .i64 0)) (by omega) (ht.set _ _) h

theorem zero_int : ∀ w : World, (zeroValue 3).run Try.prog w = .ok (.int .i64 0) w := fun w => by
  obtain ⟨i0, hi, hz0, hz1, hz2⟩ := info_parts infoInt
  simp [zeroValue, typeInfo, hi, hz0]

set_option maxHeartbeats 2000000 in
set_option maxRecDepth 100000 in
theorem use_row (b T p n cap : Nat) (f : Nat → Int) (w : World) (hI : Ints w b 0 T f) (h1 : 1 ≤ n) (hT : p + n + 3 ≤ T) (hm : T ≤ 1048576) (hc : n + 3 ≤ cap) :
    Calls Try.prog 69 #[.slice (some ⟨b, p, none⟩) (n + 3) cap, .int .i64 p] w fun e w' => (∃ v, e = .returned v) ∧ Turn b w w' ∧ Ints w' b 0 T (layF f p n true) := by
  have HI : Hid (Ints w b 0 T f) := hI
  clear hI
  go_enter Try.func69, Try.ntmps69
  go_wp2_with fail
  refine (setGuards_row b T p n cap f w HI.out true h1 hT hm).mono ?_
  rintro e w1 ⟨⟨v, rfl⟩, ht, hi⟩
  have hi0 : Ints w1 b 0 T (holdF f p n true 0) := hi.congr (fun j _ => by unfold holdF; rw [if_neg (by omega)])
  obtain ⟨k1, k2⟩ := ints_clear hT n 0 w1 (by omega) ht hi0
  have HK : Hid (Turn b w (w1.setCells b (p + 2 + 0) (List.replicate n (.int .i64 0))) ∧ Ints (w1.setCells b (p + 2 + 0) (List.replicate n (.int .i64 0))) b 0 T (holdF f p n true n)) := ⟨k1, k2⟩
  have hcl := Go.Lib.run_clear_slice (P := Try.prog) w1 24 3 0 (.int .i64 0) undInts zero_int rfl rfl b (p + 2) n n h1 (fun j hj => by have := hi.cell (p + 2 + j) (by omega); rw [Nat.zero_add] at this; rw [this]; rfl) (fun j _ => hi.free _)
  clear ht hi hi0 k1 k2
  rw [Nat.add_zero] at HK
  go_wp2_with fail
  refine (held_any b p (n + 3) cap (by omega) (by omega) hc w1).mono ?_
  rintro e w2 ⟨rfl, rfl⟩
  have hM : n + 3 - 3 = n := by omega
  rw [hM]
  clear hM
  go_wp2_with fail
  go_end0
  exact ⟨⟨_, rfl⟩, HK.out.1, HK.out.2.congr fun j _ => hold_all f p n true j⟩
end Go.Proofs.Ytmongbpdbcbhlaa
