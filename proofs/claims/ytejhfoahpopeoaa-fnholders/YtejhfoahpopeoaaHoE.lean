/-
  Where a place that is drawn has a used block it is one of the arena's own; what the program's WriteWord answers there.
-/
import Derived.Test.YtejhfoahpopeoaaHoD
import Derived.Test.YtejhfoahpopeoaaUaC
namespace Go.Proofs.Ytejhfoahpopeoaa
open Go.RowKit
set_option linter.unusedVariables false

set_option maxRecDepth 100000 in
theorem gw_one : ∀ n : Nat, n < 77 → (1000 : Int) < ((1 * 7919 + (n : Int) * 104729 + 2) * 3 + 1000) % 1000003 := by decide

/-- No block lies over the place of a block. -/
theorem bk_apart {f : Nat → Int} {N p n : Nat} {u : Bool} (h : (p, n, u) ∈ bk f N 0) : ∀ b ∈ bk f N 0, ¬ (b.1 < p ∧ p < b.1 + b.2.1 + 3) := by
  obtain ⟨q, hs, _⟩ := bk_all f N
  obtain ⟨A, B, e⟩ := split_at h
  rw [e] at hs ⊢
  obtain ⟨h1, h2, h3⟩ := hs.cut
  intro b hb hc
  rcases List.mem_append.1 hb with ha | ha
  · have := (h1.mem b ha).2.1
    dsimp only at this
    omega
  · rcases List.mem_cons.1 ha with rfl | ha
    · dsimp only at hc; omega
    · have := (h3.mem b ha).1
      dsimp only at this
      omega

/-- A used block at a place that is drawn. -/
theorem plc_used {f : Nat → Int} {N n : Nat} {x : Int} (hx : Plc f N x) (hN : N ≤ 80) (h0 : 0 ≤ f 1) (h1 : f 1 ≤ 1000) (hB : blkI f N x = some (n, true)) : ∃ p : Nat, x = p ∧ blkO f N p = some (n, true) ∧ (p, n, true) ∈ bk f N 0 := by
  unfold blkI at hB
  split at hB
  · cases hB
  · rename_i hn
    refine ⟨x.toNat, by omega, hB, ?_⟩
    have hb := blkO_of hB
    have hf := hb.fit
    rcases hx with hx | ⟨p, hp, e⟩
    · simp only [List.mem_cons, List.not_mem_nil, or_false] at hx
      rcases hx with rfl | rfl | rfl | rfl
      · have e := bk_cons (p := 0) hB
        rw [e]; exact List.mem_cons_self
      · exfalso
        have ha : f 1 = gw 1 n true 1000 := hb.ahead
        have hn2 : n < 77 := by have : 1 + n + 3 ≤ N := hf; omega
        have g1 := gw_one n hn2
        have i1 : inA 1 = true := by decide
        have i2 : inA (n : Int) = true := by simp [inA]; omega
        rw [gw, i1, i2] at ha
        simp only [useOf, Bool.and_self, if_true] at ha
        omega
      · omega
      · simp at hf; omega
    · subst e
      rw [Int.toNat_natCast] at hB ⊢
      obtain ⟨b, hb1, rfl⟩ := List.mem_map.1 hp
      obtain ⟨hb2, hb3⟩ := List.mem_filter.1 hb1
      obtain ⟨q, hs, _⟩ := bk_all f N
      have h4 := blkO_some (hs.mem b hb2).2.2
      rw [hB] at h4
      have e2 := Option.some.inj h4
      obtain ⟨b1, b2, b3⟩ := b
      dsimp only at e2 ⊢
      cases e2
      exact hb2

/-- The words behind a WriteWord. -/
noncomputable def wrt (f : Nat → Int) (N : Nat) (x i v : Int) : Nat → Int := if hol (blkI f N x) i = true then upd f (x + 2 + i).toNat v else f

theorem hol_yes {f : Nat → Int} {N : Nat} {x i : Int} (hx : Plc f N x) (hN : N ≤ 80) (h0 : 0 ≤ f 1) (h1 : f 1 ≤ 1000) (h : hol (blkI f N x) i = true) : ∃ p n j : Nat, x = p ∧ i = j ∧ j < n ∧ blkO f N p = some (n, true) ∧ (p, n, true) ∈ bk f N 0 := by
  cases hb : blkI f N x with
  | none => rw [hb] at h; cases h
  | some z =>
    obtain ⟨n, u⟩ := z
    cases u with
    | false => rw [hb] at h; cases h
    | true =>
      obtain ⟨p, e, h2, h3⟩ := plc_used hx hN h0 h1 hb
      rw [hb] at h
      have hi : 0 ≤ i ∧ i ≤ (n : Int) - 1 := by simpa [hol, inB] using h
      exact ⟨p, n, i.toNat, e, by omega, by omega, h2, h3⟩

theorem implWrite_any (ao : Option Addr) (N cap : Nat) (f : Nat → Int) (x i v : Int) (w : World) (hr : Rd w ao N f) (hN : N ≤ 80) (hcap : N ≤ cap) (hx : Plc f N x) (h0 : 0 ≤ f 1) (h1 : f 1 ≤ 1000) :
    Calls Try.prog 33 #[.agg #[.slice ao N cap], .int .i64 x, .int .i64 i, .int .i64 v] w fun e w' => ∃ g, e = .returned (.tuple #[.agg #[.slice (some ⟨g, 0, none⟩) N N], .bool (hol (blkI f N x) i)]) ∧ Ints w' g 0 N (wrt f N x i v) ∧ Below w.heap.size w w' := by
  cases hh : hol (blkI f N x) i with
  | true =>
    obtain ⟨p, n, j, rfl, rfl, hj, hB, hm⟩ := hol_yes hx hN h0 h1 hh
    have e : wrt f N p j v = upd f (p + 2 + j) v := by
      unfold wrt
      rw [if_pos hh]
      have : ((p : Int) + 2 + j).toNat = p + 2 + j := by omega
      rw [this]
    rw [e]
    exact (write_yes ao N cap f p n j v w hr (by omega) hcap hB (bk_apart hm) hj).mono fun e w' ⟨g, k1, _, _, k2, k3⟩ => ⟨g, k1, k2, k3⟩
  | false =>
    have e : wrt f N x i v = f := by
      unfold wrt
      rw [if_neg (by rw [hh]; simp)]
    rw [e]
    have hno : ∀ w', Below w.heap.size w w' → Calls Try.prog 56 #[.agg #[.slice ao N cap], .int .i64 x, .int .i64 i] w' fun e w'' => e = .returned (.tuple #[.int .i64 0, .bool false]) ∧ Below w'.heap.size w' w'' := fun w' hb => by
      by_cases hu : ∃ n, blkI f N x = some (n, true)
      · obtain ⟨n, hn⟩ := hu
        obtain ⟨p, rfl, hB, hm⟩ := plc_used hx hN h0 h1 hn
        rw [hn] at hh
        have hi : ¬ (0 ≤ i ∧ i ≤ (n : Int) - 1) := by simpa [hol, inB] using hh
        exact held_out ao N cap f p n i w' (hr.below hb) (by omega) hcap hB (bk_apart hm) (by omega)
      · exact held_no ao N cap f x i w' (hr.below hb) (by omega) hcap (fun n hn => hu ⟨n, hn⟩)
    exact (write_no ao N cap f x i v w hr (by omega) hcap hno).mono fun e w' ⟨g, k1, _, _, k2, k3⟩ => ⟨g, k1, k2, k3⟩
end Go.Proofs.Ytejhfoahpopeoaa
