/-
  What the program's Release answers.
-/
import Derived.Test.YtmongbpdbcbhlaaJoA
import Derived.Test.YtmongbpdbcbhlaaRlN
import Derived.Test.YtmongbpdbcbhlaaBrA
import Derived.Test.YtmongbpdbcbhlaaUaB
import Derived.Test.YtmongbpdbcbhlaaGiA
import Derived.Test.YtmongbpdbcbhlaaExB
namespace Go.Proofs.Ytmongbpdbcbhlaa
open Go.RowKit
set_option linter.unusedVariables false

/-- What Release has in hand. -/
structure Rb (w wx : World) (ao : Option Addr) (N cap Bo g : Nat) (F : Nat → Int) : Prop where
  below : Below w.heap.size w wx
  b0 : Boxed wx w.heap.size 26 (.slice ao N cap)
  b1 : Boxed wx (w.heap.size + 1) 26 (.slice none 0 0)
  bo : Boxed wx Bo 26 (.slice (some ⟨g, 0, none⟩) N N)
  ii : Ints wx g 0 N F
  l1 : w.heap.size + 2 ≤ g
  l2 : g < Bo
theorem Rb.call {w wx wy : World} {ao : Option Addr} {N cap Bo g : Nat} {F : Nat → Int} (s : Rb w wx ao N cap Bo g F) (hb : Below wx.heap.size wx wy) : Rb w wy ao N cap Bo g F :=
  ⟨below_join s.below hb, boxed_below s.b0 hb, boxed_below s.b1 hb, boxed_below s.bo hb, s.ii.below hb (Nat.lt_trans s.l2 s.bo.lt), s.l1, s.l2⟩
/-- Another block turned. -/
theorem Rb.turn {w wx wy : World} {ao : Option Addr} {N cap Bo g B : Nat} {F : Nat → Int} (s : Rb w wx ao N cap Bo g F) (t : Turn B wx wy) (hB : Bo < B) : Rb w wy ao N cap Bo g F := by
  have l1 := s.l1
  have l2 := s.l2
  have h0 := s.b0.lt
  have h1 := s.b1.lt
  have h2 := s.bo.lt
  exact ⟨Turn.below s.below s.below.size t (by omega), (t.block _ h0 (by omega)).trans s.b0, (t.block _ h1 (by omega)).trans s.b1, (t.block _ h2 (by omega)).trans s.bo, s.ii.turn t (by omega) (by omega), s.l1, s.l2⟩
/-- The arena's own words turned. -/
theorem Rb.words {w wx wy : World} {ao : Option Addr} {N cap Bo g : Nat} {F G : Nat → Int} (s : Rb w wx ao N cap Bo g F) (t : Turn g wx wy) (hi : Ints wy g 0 N G) : Rb w wy ao N cap Bo g G := by
  have l1 := s.l1
  have l2 := s.l2
  have h0 := s.b0.lt
  have h1 := s.b1.lt
  have h2 := s.bo.lt
  exact ⟨Turn.below s.below s.below.size t (by omega), (t.block _ h0 (by omega)).trans s.b0, (t.block _ h1 (by omega)).trans s.b1, (t.block _ h2 (by omega)).trans s.bo, hi, s.l1, s.l2⟩
theorem Rb.fin {w wx : World} {ao : Option Addr} {N cap Bo g : Nat} {F : Nat → Int} (s : Rb w wx ao N cap Bo g F) (u : Value) :
    Ints (wx.setCell ⟨w.heap.size + 1, 0, none⟩ u) g 0 N F ∧ Below w.heap.size w (wx.setCell ⟨w.heap.size + 1, 0, none⟩ u) := by
  have l1 := s.l1
  exact ⟨s.ii.turn ((Turn.refl (w.heap.size + 1) _).set 0 _) (by omega) (Nat.lt_trans s.l2 s.bo.lt), s.below.setCell (p := ⟨w.heap.size + 1, 0, none⟩) (by show _ ≤ w.heap.size + 1; omega) _⟩
def RelP (w : World) (f : Nat → Int) (N : Nat) (x : Int) (e : Ending) (w' : World) : Prop :=
  ∃ (g : Nat) (code : Int) (F : Nat → Int), e = .returned (.tuple #[.agg #[.slice (some ⟨g, 0, none⟩) N N], .int .i64 code]) ∧ Ints w' g 0 N F ∧ RelR f N x F code ∧ Below w.heap.size w w'
theorem set3_turn (V : World) (X : Nat) (a b c : Value) : Turn X V (((V.setCell ⟨X, 0, none⟩ a).setCell ⟨X, 1, none⟩ b).setCell ⟨X, 2, none⟩ c) := (((Turn.refl X V).set 0 a).set 1 b).set 2 c
set_option maxRecDepth 100000 in
set_option maxHeartbeats 4000000 in
theorem release_whole (ao : Option Addr) (N cap : Nat) (f : Nat → Int) (x : Int) (w : World) (hr : Rd w ao N f) (hN : N ≤ 4000) (hcap : N ≤ cap) (hW : Whole f N)
    (hx : (∀ n, blkI f N x ≠ some (n, true)) ∨ ∃ p n : Nat, x = p ∧ blkO f N p = some (n, true) ∧ (p, n, true) ∈ bk f N 0) :
    Calls Try.prog 8 #[.agg #[.slice ao N cap], .int .i64 x] w (RelP w f N x) := by
  have HR : Hid (Rd w ao N f) := hr
  have HW : Hid (Whole f N) := hW
  have HX : Hid ((∀ n, blkI f N x ≠ some (n, true)) ∨ ∃ p n : Nat, x = p ∧ blkO f N p = some (n, true) ∧ (p, n, true) ∈ bk f N 0) := hx
  clear hr hW hx
  go_enter Try.func8, Try.ntmps8
  go_wp2_with fail
  have hB : Below w.heap.size w ((w.alloc (.cells #[.slice ao N cap] 26)).alloc (.cells #[.slice none 0 0] 26)) := ((Below.refl _ w).alloc (Nat.le_refl _) _).alloc (by simp) _
  have q0 := (Boxed.new w 26 (.slice ao N cap)).alloc (.cells #[.slice none 0 0] 26)
  have q1 := Boxed.new (w.alloc (.cells #[.slice ao N cap] 26)) 26 (.slice none 0 0)
  rw [World.size_alloc] at q1
  have hz : ((w.alloc (.cells #[.slice ao N cap] 26)).alloc (.cells #[.slice none 0 0] 26)).heap.size = w.heap.size + 2 := by simp
  refine (own_any ao N cap f _ (HR.out.below hB) (by omega)).mono ?_
  rintro e w1 ⟨g, rfl, hg, hl, hi, hb⟩
  have hbn := (Below.refl w1.heap.size w1).alloc (Nat.le_refl _) (.cells #[.slice (some ⟨g, 0, none⟩) N N] 26)
  have hb2 := below_join hb hbn
  have hs : Rb w (w1.alloc (.cells #[.slice (some ⟨g, 0, none⟩) N N] 26)) ao N cap w1.heap.size g f := ⟨below_join hB hb2, boxed_below q0 hb2, boxed_below q1 hb2, Boxed.new w1 _ _, hi.below hbn hl, by omega, hl⟩
  have c0 := hs.b0.cell
  have HS : Hid (Rb w (w1.alloc (.cells #[.slice (some ⟨g, 0, none⟩) N N] 26)) ao N cap w1.heap.size g f) := hs
  clear hB q0 q1 hz hg hl hi hb hbn hb2 hs
  go_wp2_with fail
  clear c0
  have hs := HS.out
  clear HS
  generalize (w1.alloc (.cells #[.slice (some ⟨g, 0, none⟩) N N] 26)) = w2 at hs ⊢
  generalize w1.heap.size = Bo at hs ⊢
  refine (implAudit_any ao N cap f w2 (HR.out.below hs.below) (by omega) hcap).mono ?_
  rintro e w3 ⟨rfl, hb3⟩
  have hy : aud f N 0 false = -1 := HW.out
  rw [hy]
  have hs3 := hs.call hb3
  have c3 := hs3.b0.cell
  have HS3 : Hid (Rb w w3 ao N cap Bo g f) := hs3
  clear hs hb3 hs3 hy
  go_wp2_with fail
  rcases HX.out with hno | ⟨p, n, rfl, hB, hmem⟩
  · refine (used_no ao N cap f x w3 (HR.out.below HS3.out.below) (by omega) hcap hno).mono ?_
    rintro e w4 ⟨rfl, hb4⟩
    have hbn := (Below.refl w4.heap.size w4).alloc (Nat.le_refl _) (.cells #[.int .i64 0, .int .i64 0, .bool false] 54)
    have hs5 := (HS3.out.call hb4).call hbn
    have HS5 : Hid (Rb w (w4.alloc (.cells #[.int .i64 0, .int .i64 0, .bool false] 54)) ao N cap Bo g f) := hs5
    have c5 := hs5.bo.cell
    have d5 := hs5.b1.cell
    have f5 := hs5.b1.frozen
    have HRL : Hid (RelR f N x f 2) := by
      refine .inr (.inl ⟨rfl, HW.out, fun b hb hu e => ?_, rfl⟩)
      obtain ⟨b1, b2, b3⟩ := b
      have hu : b3 = true := hu
      subst hu
      refine hno b2 ?_
      have e : (b1 : Int) = x := e
      rw [← e]
      unfold blkI
      rw [if_neg (by omega)]
      exact (bk_blk hb).1
    clear hb4 hbn hs5 hno c3
    go_wp2_with fail
    clear c5
    generalize (w4.alloc (.cells #[.int .i64 0, .int .i64 0, .bool false] 54)) = w5 at *
    obtain ⟨i1, i2⟩ := HS5.out.fin (.slice (some ⟨g, 0, none⟩) N N)
    refine bodyPost_ret (v := .tuple #[.agg #[.slice (some ⟨g, 0, none⟩) N N], .int .i64 2]) (by simp [results, Try.results8, go_sem, World.cell?_setCell_same _ _ _ d5]) rfl ⟨g, 2, f, rfl, i1, HRL.out, i2⟩
  · obtain ⟨_, hpf, hn1⟩ := bk_blk hmem
    refine (used_yes ao N cap f p n w3 (HR.out.below HS3.out.below) (by omega) hcap hB (bk_apart2 hmem)).mono ?_
    rintro e w4 ⟨rfl, hb4⟩
    have hbn := (Below.refl w4.heap.size w4).alloc (Nat.le_refl _) (.cells #[.int .i64 p, .int .i64 n, .bool true] 54)
    have hs5 := (HS3.out.call hb4).call hbn
    have HS5 : Hid (Rb w (w4.alloc (.cells #[.int .i64 p, .int .i64 n, .bool true] 54)) ao N cap Bo g f ∧ Bo < w4.heap.size) := ⟨hs5, (HS3.out.call hb4).bo.lt⟩
    have b5 : Boxed3 (w4.alloc (.cells #[.int .i64 p, .int .i64 n, .bool true] 54)) w4.heap.size p n true := Boxed3.new w4 p n true
    have HB5 : Hid (Boxed3 (w4.alloc (.cells #[.int .i64 p, .int .i64 n, .bool true] 54)) w4.heap.size p n true) := b5
    have c5 := hs5.b0.cell
    have HM : Hid ((p, n, true) ∈ bk f N 0) := hmem
    clear hb4 hbn hs5 c3 hmem hB b5
    go_wp2_with fail
    clear c5
    generalize (w4.alloc (.cells #[.int .i64 p, .int .i64 n, .bool true] 54)) = w5 at HS5 HB5 ⊢
    generalize w4.heap.size = X at HS5 HB5 ⊢
    refine (joined_any ao N cap f p n w5 (HR.out.below HS5.out.1.below) (by omega) hcap (by omega) (by omega)).mono ?_
    rintro e w6 ⟨S, E, rfl, hSP, hEP, hb6⟩
    obtain ⟨_, hSp, hEp, hEN, A, A', B, B', hRG⟩ := rel_of HW.out HM.out hSP hEP
    have HRL : Hid (RelR f N p (layF f S (E - S - 3) false) 0) := .inr (.inr ⟨rfl, HW.out, p, A, A', n, B, B', S, E - S - 3, rfl, hRG⟩)
    have hs6 := HS5.out.1.call hb6
    have b6 := HB5.out.below hb6
    obtain ⟨m0, m1, m2⟩ := b6.cells
    have HF6 : Hid (∀ o, w6.frozen? ⟨X, o, none⟩ = false) := fun o => by simp [World.frozen?, show w6.heap[X]? = _ from b6]
    have f60 := HF6.out 0
    have f61 := HF6.out 1
    have f62 := HF6.out 2
    have HS6 : Hid (Rb w w6 ao N cap Bo g f ∧ Bo < X) := ⟨hs6, HS5.out.2⟩
    obtain ⟨K, hK⟩ : ∃ K : Nat, K = E - S - 3 := ⟨_, rfl⟩
    have hKi : (E : Int) - S - 3 = (K : Int) := by omega
    rw [hKi]
    have HK : Hid (K = E - S - 3 ∧ S + K + 3 = E ∧ 1 ≤ K ∧ E ≤ N) := ⟨hK, by omega, by omega, hEN⟩
    have hs7 := HS6.out.1.turn (set3_turn w6 X (.int .i64 S) (.int .i64 K) (.bool false)) HS6.out.2
    obtain ⟨t0, t1, t2⟩ := three_sets w6 X (.int .i64 S) (.int .i64 K) (.bool false) m0 m1 m2
    have HS7 : Hid (Rb w (((w6.setCell ⟨X, 0, none⟩ (.int .i64 S)).setCell ⟨X, 1, none⟩ (.int .i64 K)).setCell ⟨X, 2, none⟩ (.bool false)) ao N cap Bo g f) := hs7
    clear hSP hEP hb6 hRG hs6 b6 hs7 HS5 HB5 hKi
    have hKA : inA (K : Int) = true := by simp [inA]; omega
    clear hK
    go_wp2_with (go_at_call 31; refine (inArena_any _ _).mono ?_; rintro e w' ⟨rfl, rfl⟩; rw [hKA])
    generalize (((w6.setCell ⟨X, 0, none⟩ (.int .i64 S)).setCell ⟨X, 1, none⟩ (.int .i64 K)).setCell ⟨X, 2, none⟩ (.bool false)) = w7 at *
    refine (end_any S K false (by have := HK.out; omega) (by have := HK.out; omega) w7).mono ?_
    rintro e w8 ⟨rfl, hb8⟩
    rw [HK.out.2.1]
    have u0 := (hb8.cell (p := ⟨X, 0, none⟩) (World.block_lt_of_cell? _ _ t0)).trans t0
    have hs8 := HS7.out.call hb8
    have HS8 : Hid (Rb w w8 ao N cap Bo g f) := hs8
    have o8 := hs8.bo.cell
    have b2 : (E : Int) ≤ N := by have := HK.out; omega
    have b4 : (S : Int) ≤ E := by have := HK.out; omega
    have b2' : E ≤ N := by omega
    have b4' : S ≤ E := by omega
    have d3 : ¬ E = S := by have := HK.out; omega
    have hES : E - S = K + 3 := by have := HK.out; omega
    have KU : Hid (∀ wy, wy = w8.drew → Calls Try.prog 33 #[.slice (some ⟨g, S, none⟩) (K + 3) (K + 3), .int .i64 S] wy fun e w' => (∃ v, e = .returned v) ∧ Turn g w8.drew w' ∧ Ints w' g 0 N (layF f S K false)) := fun wy e => by
      subst e
      exact free_row g N S K (K + 3) f _ HS8.out.ii.drew' HK.out.2.2.1 (by have := HK.out; omega) (by omega) (Nat.le_refl _)
    clear hb8 hs8 t0 t1 t2 f60 f61 f62 m0 m1 m2
    go_wp2_with fail
    go_region_with (go_at_call 33; refine (KU.out _ rfl).mono ?_; rintro e w9 ⟨⟨v9, rfl⟩, ht9, hi9⟩; have hs9 := (HS8.out.call ((Below.refl _ _).drew)).words ht9 hi9; have HS9 : Hid (Rb w w9 ao N cap Bo g (layF f S K false)) := hs9; have o9 := hs9.bo.cell; have d9 := hs9.b1.cell; have f9 := hs9.b1.frozen; clear ht9 hi9 hs9)
    all_goals
      go_wp2_with fail
      obtain ⟨i1, i2⟩ := HS9.out.fin (.slice (some ⟨g, 0, none⟩) N N)
      have hR := HRL.out
      rw [← HK.out.1] at hR
      refine bodyPost_ret (v := .tuple #[.agg #[.slice (some ⟨g, 0, none⟩) N N], .int .i64 0]) (by simp [results, Try.results8, go_sem, World.cell?_setCell_same _ _ _ d9]) rfl ⟨g, 0, layF f S K false, rfl, i1, hR, i2⟩
theorem implRelease_any (ao : Option Addr) (N cap : Nat) (f : Nat → Int) (x : Int) (w : World) (hr : Rd w ao N f) (hN : N ≤ 4000) (hcap : N ≤ cap)
    (hx : ∀ n, blkI f N x = some (n, true) → ∃ p : Nat, x = p ∧ blkO f N p = some (n, true) ∧ (p, n, true) ∈ bk f N 0) :
    Calls Try.prog 8 #[.agg #[.slice ao N cap], .int .i64 x] w (RelP w f N x) := by
  by_cases hW : Whole f N
  · refine release_whole ao N cap f x w hr hN hcap hW ?_
    by_cases hq : ∃ n, blkI f N x = some (n, true)
    · obtain ⟨n, hn⟩ := hq
      obtain ⟨p, h1, h2, h3⟩ := hx n hn
      exact .inr ⟨p, n, h1, h2, h3⟩
    · exact .inl (fun n h => hq ⟨n, h⟩)
  · refine (release_broken ao N cap f x w hr (by omega) hcap hW).mono ?_
    rintro e w' ⟨g, rfl, _, _, hi, hb⟩
    exact ⟨g, 3, f, rfl, hi, .inl ⟨rfl, hW, rfl⟩, hb⟩
end Go.Proofs.Ytmongbpdbcbhlaa
