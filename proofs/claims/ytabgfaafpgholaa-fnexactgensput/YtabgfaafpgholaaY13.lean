/-
  The specification's words of a term for a place of Young.
  spec.l6Lay.
-/
import Derived.Test.YtabgfaafpgholaaY11
import Derived.Test.YtabgfaafpgholaaY12
import Derived.Test.YtabgfaafpgholaaW44
namespace Go.Proofs.Ytabgfaafpgholaa
open Go.RowKit
set_option linter.unusedVariables false

mutual
/-- Whether a term's atoms are taken does not hang on the place. -/
theorem pt_at : ∀ (t : Tm) (a b : Nat) (A : List ByteArray), (ptT t a A).map (fun r => r.2.1) = (ptT t b A).map (fun r => r.2.1)
  | .mk k n s l, a, b, A => by
    rw [ptT, ptT]
    by_cases k1 : k = 1
    · simp [k1]
    by_cases k3 : k = 3
    · simp [k3]
    by_cases k2 : k = 2
    · simp [k2]
    by_cases k6 : k = 6
    · simp [k6]
    by_cases k4 : k = 4
    · have h := pl_at l (a + 1 + l.length) (b + 1 + l.length) A
      simp only [if_neg k1, if_neg k3, if_neg k2, if_neg k6, if_pos k4]
      generalize ptL l (a + 1 + l.length) A = u at *
      generalize ptL l (b + 1 + l.length) A = v at *
      cases u <;> cases v <;> simp_all
    by_cases h0 : l.length = 0
    · simp only [if_neg k1, if_neg k3, if_neg k2, if_neg k6, if_neg k4, if_pos h0]
    have h := pl_at l (a + 2 * l.length) (b + 2 * l.length) A
    simp only [if_neg k1, if_neg k3, if_neg k2, if_neg k6, if_neg k4, if_neg h0]
    generalize ptL l (a + 2 * l.length) A = u at *
    generalize ptL l (b + 2 * l.length) A = v at *
    cases u <;> cases v <;> simp_all
theorem pl_at : ∀ (l : List Tm) (a b : Nat) (A : List ByteArray), (ptL l a A).map (fun r => r.2.2) = (ptL l b A).map (fun r => r.2.2)
  | [], a, b, A => by rw [ptL, ptL]
  | t :: r, a, b, A => by
    rw [ptL, ptL]
    have h := pt_at t a b A
    cases e1 : ptT t a A with
    | none =>
      cases e2 : ptT t b A with
      | none => rfl
      | some y => rw [e1, e2] at h; cases h
    | some x =>
      cases e2 : ptT t b A with
      | none => rw [e1, e2] at h; cases h
      | some y =>
        rw [e1, e2] at h
        obtain ⟨n1, A1, w1⟩ := x
        obtain ⟨m1, B1, v1⟩ := y
        simp only [Option.map_some, Option.some.injEq] at h
        subst h
        have h2 := pl_at r (a + n1.length) (b + m1.length) A1
        simp only
        generalize ptL r (a + n1.length) A1 = u at *
        generalize ptL r (b + m1.length) A1 = v at *
        cases u <;> cases v <;> simp_all
end
theorem pt_no {t : Tm} {a : Nat} {A : List ByteArray} (h : ptT t a A = none) (b : Nat) : ptT t b A = none := by
  have h1 := pt_at t a b A
  rw [h] at h1
  cases e : ptT t b A with
  | none => rfl
  | some y => rw [e] at h1; cases h1
/-- The atoms' variable and its row. -/
structure NS (nb base ga ca : Nat) (w : World) (A : List ByteArray) : Prop where
  na : nb ≠ ga
  ac : w.cell? ⟨nb, 0, none⟩ = some (.slice (some ⟨ga, 0, none⟩) A.length ca)
  af : w.frozen? ⟨nb, 0, none⟩ = false
  ar : w.ownsRow base 9 1 (.slice (some ⟨ga, 0, none⟩) A.length ca) A.length (A.map Value.string)
  hb : base ≤ w.heap.size
theorem NS.nl {nb base ga ca : Nat} {w : World} {A : List ByteArray} (h : NS nb base ga ca w A) : nb < w.heap.size := World.block_lt_of_cell? w _ h.ac
theorem NS.gl {nb base ga ca : Nat} {w : World} {A : List ByteArray} (h : NS nb base ga ca w A) : base ≤ ga ∧ ga < w.heap.size := h.ar.lt ga rfl
theorem NS.below {nb base ga ca : Nat} {w w' : World} {A : List ByteArray} (h : NS nb base ga ca w A) (hb : Below w.heap.size w w') : NS nb base ga ca w' A :=
  ⟨h.na, by rw [hb.cell (p := ⟨nb, 0, none⟩) h.nl]; exact h.ac, by rw [hb.frozen (p := ⟨nb, 0, none⟩) h.nl]; exact h.af, h.ar.kept ⟨hb.os, hb.tape, hb.output, hb.size, fun k hk _ => hb.block k hk⟩ (row := none) (Or.inr (by simp [Value.ownBlock])), Nat.le_trans h.hb hb.size⟩
theorem NS.turn {nb base ga ca g : Nat} {w w' : World} {A : List ByteArray} (h : NS nb base ga ca w A) (t : Turn g w w') (h1 : nb ≠ g) (h2 : ga ≠ g) : NS nb base ga ca w' A :=
  ⟨h.na, t.cell h1 h.ac, by rw [t.frozen h1 h.nl]; exact h.af, h.ar.kept t.grown (Or.inr (by simp [Value.ownBlock]; omega)), Nat.le_trans h.hb t.size⟩
/-- What is as it was. -/
structure NF (nb ga : Nat) (w w' : World) : Prop where
  os : w'.os = w.os
  tape : w'.tape = w.tape
  output : w'.output = w.output
  size : w.heap.size ≤ w'.heap.size
  block : ∀ b, b < w.heap.size → b ≠ nb → b ≠ ga → w'.heap[b]? = w.heap[b]?
/-- What l6Lay answers. -/
def LyP (nb base ga : Nat) (w : World) (A : List ByteArray) (t : Tm) (B : Nat) (e : Ending) (w' : World) : Prop :=
  ∃ g c x ok ga' ca' zs A', e = .returned (.tuple #[.slice (some ⟨g, 0, none⟩) zs.length c, .int .i64 x, .bool ok]) ∧ w.heap.size ≤ g ∧ g < w'.heap.size ∧ (∀ j (h : j < zs.length), w'.cell? ⟨g, j, none⟩ = some (.int .i64 zs[j])) ∧
    NS nb base ga' ca' w' A' ∧ NF nb ga w w' ∧ (ga' = ga ∨ w.heap.size ≤ ga') ∧ zs.length = ndT t ∧ A'.length ≤ A.length + nT t ∧ ((ok = true ∧ ptT t B A = some (zs, A', x)) ∨ (ok = false ∧ ptT t B A = none))
theorem lfQ (xs : List Int) (j : Nat) (h : j < xs.length) : xs.getD j 0 = xs[j] := by simp [h]
/-- From behind the putting to the answer. -/
theorem lay_end {nb base ga ca : Nat} {w W w6 w7 w8 : World} {A A2 : List ByteArray} {t : Tm} {B : Nat} {m2 : PM} {ns ns' : List Int} {x' : Int} {ok : Bool} (hbW : Below w.heap.size w W) (hns : NS nb base ga ca w A) (hps : PS ⟨w.heap.size + 2, 0, nb, base⟩ m2 w6 ns A2) (hfr : Fr ⟨w.heap.size + 2, 0, nb, base⟩ ⟨w.heap.size + 1, 0, ga, ca⟩ W w6) (hmv : Mv ⟨w.heap.size + 1, 0, ga, ca⟩ m2 W.heap.size) (hW : W.heap.size = w.heap.size + 3)
    (hl : ns.length = ndT t) (hA : A2.length ≤ A.length + nT t) (h7 : w7 = w6.alloc (.cells (madeCells #[.int .i64 0] ns.length) 3)) (ht8 : Turn w6.heap.size w7 w8) (hi8 : Ints w8 w6.heap.size 0 ns.length (ovr (fun _ => 0) 0 ns')) (hl' : ns'.length = ns.length)
    (hor : (ok = true ∧ ptT t B A = some (ns', A2, x')) ∨ (ok = false ∧ ptT t B A = none)) :
    LyP nb base ga w A t B (.returned (.tuple #[.slice (some ⟨w6.heap.size, 0, none⟩) ns.length ns.length, .int .i64 x', .bool ok])) w8 := by
  have s6 := hfr.size
  have s7 : w7.heap.size = w6.heap.size + 1 := by rw [h7, World.size_alloc]
  have s8 := ht8.size
  have b7 : Below w6.heap.size w6 w7 := by rw [h7]; exact (Below.refl _ _).alloc (Nat.le_refl _) _
  have n1 := hns.nl
  have n2 := hns.gl
  have n3 := hps.ga
  have n4 := hps.nl
  have hN6 : NS nb base m2.ga m2.ca w6 A2 := ⟨hps.na, hps.ac, hps.af, hps.ar, hps.base⟩
  have g6 := hps.ga.2
  have l6 : nb < w6.heap.size := hps.nl
  have hN8 := (hN6.below b7).turn ht8 (by omega) (by omega)
  refine ⟨w6.heap.size, ns.length, x', ok, m2.ga, m2.ca, ns', A2, by rw [hl'], by omega, by omega, fun j hj => ?_, hN8, ⟨?_, ?_, ?_, by omega, fun b hb h1 h2 => ?_⟩, ?_, by omega, hA, hor⟩
  · have h := hi8.cell j (by omega)
    rw [Nat.zero_add] at h
    rw [h, ovr_in (Nat.zero_le _) (by omega)]
    simp
  · rw [ht8.os, b7.os, hfr.os, hbW.os]
  · rw [ht8.tape, b7.tape, hfr.tape, hbW.tape]
  · rw [ht8.output, b7.output, hfr.output, hbW.output]
  · rw [ht8.block b (by omega) (by omega), b7.block b (by omega), hfr.block b (by omega) (by show b ≠ w.heap.size + 2; omega) h1 (by show b ≠ w.heap.size + 1; omega) h2, hbW.block b hb]
  · rcases hmv.a with e | e
    · exact .inl e
    · right; omega
set_option maxHeartbeats 4000000 in
set_option maxRecDepth 100000 in
theorem lay6_any (nb base ga ca : Nat) (A : List ByteArray) (t : Tm) (v : Value) (at_ B : Nat) (w : World) (hns : NS nb base ga ca w A) (hv : RpV (fun b => b < base ∧ b ≠ nb) w t v) (hg : goodT t) (hd : ndT t ≤ 100000) (hA : A.length + nT t ≤ 1048577) (hat : at_ ≤ 100000) (hB : B = 100000 + at_) :
    Calls Try.prog 63 #[.pointer (some ⟨nb, 0, none⟩), v, .int .i64 (at_ : Int)] w (LyP nb base ga w A t B) := by
  obtain ⟨a1, a2, a3, a4, a5, a6, rfl⟩ := hv.form
  obtain ⟨W, hW⟩ : ∃ W, W = (((w.alloc (.cells #[.int .i64 a1, .int .i64 a2, .string a3, .slice a4 a5 a6] 39)).alloc (.cells #[] 3)).alloc (.cells #[.slice (some ⟨w.heap.size + 1, 0, none⟩) 0 0] 22)) := ⟨_, rfl⟩
  have hbW : Below w.heap.size w W := by rw [hW]; exact (((Below.refl _ _).alloc (Nat.le_refl _) _).alloc (by simp) _).alloc (by simp only [World.size_alloc]; omega) _
  have sW : W.heap.size = w.heap.size + 3 := by rw [hW]; simp only [World.size_alloc]
  have n1 := hns.nl
  have n2 := hns.gl
  have n3 := hns.hb
  have hN := hns.below hbW
  have own0 : W.ownsRow base 3 1 (.slice (some ⟨w.heap.size + 1, 0, none⟩) 0 0) 0 [] := by
    rw [hW]
    have h := World.ownsRow_made (e := 3) (size := 1) (w.alloc (.cells #[.int .i64 a1, .int .i64 a2, .string a3, .slice a4 a5 a6] 39)) #[] 0 (Nat.le_refl _) (Nat.zero_le _) rfl
    rw [World.size_alloc] at h
    exact (own_lowQ h (by omega)).alloc _
  have hPS : PS ⟨w.heap.size + 2, 0, nb, base⟩ ⟨w.heap.size + 1, 0, ga, ca⟩ W [] A := by
    refine ⟨by show w.heap.size + 2 ≠ nb; omega, by show w.heap.size + 2 ≠ w.heap.size + 1; omega, by show w.heap.size + 2 ≠ ga; omega, by show nb ≠ w.heap.size + 1; omega, hns.na, ?_, ?_, hN.ac, hN.af, own0, hN.ar⟩
    · rw [hW, World.cell?_alloc_at (hn := by simp only [World.size_alloc])]; rfl
    · rw [hW]; go_simp
  have hRV : RpV (SZ ⟨w.heap.size + 2, 0, nb, base⟩) W t (.agg #[.int .i64 a1, .int .i64 a2, .string a3, .slice a4 a5 a6]) := by
    refine (Moves.repV (S := fun b => b < base ∧ b ≠ nb) (S' := SZ ⟨w.heap.size + 2, 0, nb, base⟩) (fun b o v hlt hc => ⟨⟨hlt.1, ?_, hlt.2⟩, by rw [hbW.cell (p := ⟨b, o, none⟩) (World.block_lt_of_cell? w _ hc)]; exact hc⟩)) hv
    show b ≠ w.heap.size + 2
    have : b < base := hlt.1
    omega
  have HPUT : Hid (Calls Try.prog 42 #[.pointer (some ⟨w.heap.size + 2, 0, none⟩), .pointer (some ⟨nb, 0, none⟩), .agg #[.int .i64 a1, .int .i64 a2, .string a3, .slice a4 a5 a6]] W (Put ⟨w.heap.size + 2, 0, nb, base⟩ ⟨w.heap.size + 1, 0, ga, ca⟩ W [] A (ptT t 0 A) (ndT t) (nT t) (LayT t 0))) :=
    put_all t ⟨w.heap.size + 2, 0, nb, base⟩ ⟨w.heap.size + 1, 0, ga, ca⟩ W [] A _ hPS hRV hg (by simpa using hd) hA
  have HBW : Hid (Below w.heap.size w W ∧ W.heap.size = w.heap.size + 3 ∧ NS nb base ga ca w A) := ⟨hbW, sW, hns⟩
  have V1 : IntKind.i64.wrap (100000 + (at_ : Int)) = (B : Int) := by rw [IntKind.wrap_i64]; omega
  have HD : Hid (ndT t ≤ 100000 ∧ B ≤ 200000) := ⟨hd, by omega⟩
  clear hPS hRV own0 hN hns hv hg hd hA hbW sW n1 n2 n3 hB hat
  go_enter Try.func63, Try.ntmps63
  go_wp2_with (go_at_call 42; fail)
  rw [← hW]
  clear hW
  refine HPUT.out.mono ?_
  rintro e w6 ⟨x, ok, m2, ns, A2, rfl, r1, r2, r3, r4, r5, r6⟩
  rw [List.nil_append] at r1
  obtain ⟨hbW, sW, hns⟩ := HBW.out
  -- the same words further on
  obtain ⟨ns', x', hsh, hor⟩ : ∃ ns' x', ShT t 0 B ns ns' x x' ∧ ((ok = true ∧ ptT t B A = some (ns', A2, x')) ∨ (ok = false ∧ ptT t B A = none)) := by
    rcases r6 with ⟨h1, h2⟩ | ⟨h1, h2, h3⟩
    · obtain ⟨ns', x', h4, h5⟩ := pt_sh t 0 B A ns A2 x h2
      rw [Nat.zero_add] at h4
      exact ⟨ns', x', h5, .inl ⟨h1, h4⟩⟩
    · obtain ⟨ns', x', h5⟩ := h3 B
      exact ⟨ns', x', h5, .inr ⟨h1, pt_no h2 B⟩⟩
  have hl' := ShT.len t _ _ _ _ _ _ hsh
  have hmk := run_ints ns.length (by have := HD.out; omega) w6
  obtain ⟨w7, h7⟩ : ∃ w7, w7 = w6.alloc (.cells (madeCells #[.int .i64 0] ns.length) 3) := ⟨_, rfl⟩
  rw [← h7] at hmk
  have hgw := r1.gw
  have wl := r1.wl
  have b7 : Below w6.heap.size w6 w7 := by rw [h7]; exact (Below.refl _ _).alloc (Nat.le_refl _) _
  have hF6 : Ints w6 m2.gw 0 ns.length (fun j => ns.getD j 0) := ⟨fun j hj => by
    rw [r1.wr.cellAt (0 + j) (by omega), Nat.zero_add, lfQ _ _ hj]
    simp [hj], fun x => r1.wr.frozenAt x⟩
  have hF7 : Ints w7 m2.gw 0 ns.length (fun j => ns.getD j 0) := ⟨fun j hj => by rw [b7.cell (p := ⟨m2.gw, 0 + j, none⟩) hgw.2]; exact hF6.cell j hj, fun x => by rw [b7.frozen (p := ⟨m2.gw, x, none⟩) hgw.2]; exact hF6.free x⟩
  have hG7 : Ints w7 w6.heap.size 0 ns.length (fun _ => 0) := by rw [h7]; exact ints_made w6 ns.length
  obtain ⟨mv1, mv2⟩ := hsh.moved (by have := HD.out; omega)
  have HSH : Hid (Calls Try.prog 87 #[.slice (some ⟨m2.gw, 0, none⟩) ns.length m2.cw, .slice (some ⟨w6.heap.size, 0, none⟩) ns.length ns.length, .int .i64 x, .int .i64 B] w7 (ShP w7 w6.heap.size ns.length (ovr (fun _ => 0) 0 ns'))) :=
    shift_all t 0 B ns ns' x x' m2.gw w6.heap.size ns.length m2.cw ns.length _ _ w7 hsh (by omega) (by have := HD.out; omega) HD.out.2 (by omega) (by rw [h7, World.size_alloc]; omega) hF7 hG7 (fun j hj => by rw [Nat.zero_add]; exact lfQ _ _ hj)
  have HMX : Hid (∀ w, Calls Try.prog 88 #[.int .i64 x, .int .i64 B] w fun e w' => e = .returned (.int .i64 x') ∧ w' = w) := fun w => by rw [← mv1]; exact moved_any x B (by omega) (by omega) (by have := HD.out; omega) w
  have HEND : Hid (∀ w8, Turn w6.heap.size w7 w8 → Ints w8 w6.heap.size 0 ns.length (ovr (fun _ => 0) 0 ns') → LyP nb base ga w A t B (.returned (.tuple #[.slice (some ⟨w6.heap.size, 0, none⟩) ns.length ns.length, .int .i64 x', .bool ok])) w8) := fun w8 h8 i8 =>
    lay_end hbW hns r1 r2 r3 sW r4 r5 h7 h8 i8 hl' hor
  have hc6 := r1.wc
  have hc7 : w7.cell? ⟨w.heap.size + 2, 0, none⟩ = some (.slice (some ⟨m2.gw, 0, none⟩) ns.length m2.cw) := by rw [b7.cell (p := ⟨w.heap.size + 2, 0, none⟩) wl]; exact hc6
  clear r1 r2 r3 r4 r5 r6 hbW sW hns hsh hor hl' h7 hgw wl b7 hF6 hF7 hG7 mv1 mv2
  go_wp2_with (first
    | (go_at_call 87; refine HSH.out.mono ?_; rintro e w8 ⟨⟨v8, rfl⟩, ht8, hi8⟩; have HLY : Hid (LyP nb base ga w A t B (.returned (.tuple #[.slice (some ⟨w6.heap.size, 0, none⟩) ns.length ns.length, .int .i64 x', .bool ok])) w8) := HEND.out w8 ht8 hi8; clear ht8 hi8)
    | (go_at_call 88; refine (HMX.out _).mono ?_; rintro e w9 ⟨rfl, hw9⟩; obtain rfl := hw9.symm))
  exact bodyPost_ret (v := .tuple #[.slice (some ⟨w6.heap.size, 0, none⟩) ns.length ns.length, .int .i64 x', .bool ok]) (by simp [results, Try.results63, go_sem]) rfl HLY.out
end Go.Proofs.Ytabgfaafpgholaa
