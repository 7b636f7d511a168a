/-
  What the program's Alloc answers of an arena that is not whole.
-/
import Derived.Test.YtmongbpdbcbhlaaOwA
import Derived.Test.YtmongbpdbcbhlaaTiB
namespace Go.Proofs.Ytmongbpdbcbhlaa
open Go.RowKit Go.Shelf
set_option linter.unusedVariables false
attribute [local go_sem] Oper.semAt_some

/-- What Alloc has in hand: its boxes, and the copy g in the box Bo. -/
structure AbS (w wx : World) (ao : Option Addr) (N cap : Nat) (x : Int) (Bo g : Nat) (F : Nat → Int) : Prop where
  below : Below w.heap.size w wx
  b0 : Boxed wx w.heap.size 26 (.slice ao N cap)
  b1 : Boxed wx (w.heap.size + 1) 3 (.int .i64 x)
  b2 : Boxed wx (w.heap.size + 1 + 1) 26 (.slice none 0 0)
  b3 : Boxed wx (w.heap.size + 1 + 1 + 1) 3 (.int .i64 0)
  b4 : Boxed wx (w.heap.size + 1 + 1 + 1 + 1) 3 (.int .i64 0)
  bo : Boxed wx Bo 26 (.slice (some ⟨g, 0, none⟩) N N)
  ints : Ints wx g 0 N F
  l1 : w.heap.size + 5 ≤ g
  l2 : g < Bo
theorem boxed_below {W W' : World} {B : Nat} {t : TypeId} {v : Value} (h : Boxed W B t v) (hb : Below W.heap.size W W') : Boxed W' B t v := (hb.block B h.lt).trans h
theorem AbS.call {w wx wy : World} {ao : Option Addr} {N cap : Nat} {x : Int} {Bo g : Nat} {F : Nat → Int} (s : AbS w wx ao N cap x Bo g F) (hb : Below wx.heap.size wx wy) : AbS w wy ao N cap x Bo g F :=
  ⟨below_join s.below hb, boxed_below s.b0 hb, boxed_below s.b1 hb, boxed_below s.b2 hb, boxed_below s.b3 hb, boxed_below s.b4 hb, boxed_below s.bo hb, s.ints.below hb (Nat.lt_trans s.l2 s.bo.lt), s.l1, s.l2⟩
theorem AbS.start {w w1 : World} {ao : Option Addr} {N cap : Nat} {x : Int} {g : Nat} {f : Nat → Int} (hb : Below (((((w.alloc (.cells #[.slice ao N cap] 26)).alloc (.cells #[.int .i64 x] 3)).alloc (.cells #[.slice none 0 0] 26)).alloc (.cells #[.int .i64 0] 3)).alloc (.cells #[.int .i64 0] 3)).heap.size (((((w.alloc (.cells #[.slice ao N cap] 26)).alloc (.cells #[.int .i64 x] 3)).alloc (.cells #[.slice none 0 0] 26)).alloc (.cells #[.int .i64 0] 3)).alloc (.cells #[.int .i64 0] 3)) w1) (hg : (((((w.alloc (.cells #[.slice ao N cap] 26)).alloc (.cells #[.int .i64 x] 3)).alloc (.cells #[.slice none 0 0] 26)).alloc (.cells #[.int .i64 0] 3)).alloc (.cells #[.int .i64 0] 3)).heap.size ≤ g) (hl : g < w1.heap.size) (hi : Ints w1 g 0 N f) :
    AbS w (w1.alloc (.cells #[.slice (some ⟨g, 0, none⟩) N N] 26)) ao N cap x w1.heap.size g f := by
  have hz : (((((w.alloc (.cells #[.slice ao N cap] 26)).alloc (.cells #[.int .i64 x] 3)).alloc (.cells #[.slice none 0 0] 26)).alloc (.cells #[.int .i64 0] 3)).alloc (.cells #[.int .i64 0] 3)).heap.size = w.heap.size + 5 := by simp
  have hB : Below w.heap.size w (((((w.alloc (.cells #[.slice ao N cap] 26)).alloc (.cells #[.int .i64 x] 3)).alloc (.cells #[.slice none 0 0] 26)).alloc (.cells #[.int .i64 0] 3)).alloc (.cells #[.int .i64 0] 3)) := (((((Below.refl _ w).alloc (Nat.le_refl _) _).alloc (by simp) _).alloc (by simp; omega) _).alloc (by simp; omega) _).alloc (by simp; omega) _
  have q0 := ((((Boxed.new w 26 (.slice ao N cap)).alloc (.cells #[.int .i64 x] 3)).alloc (.cells #[.slice none 0 0] 26)).alloc (.cells #[.int .i64 0] 3)).alloc (.cells #[.int .i64 0] 3)
  have q1 := (((Boxed.new (w.alloc (.cells #[.slice ao N cap] 26)) 3 (.int .i64 x)).alloc (.cells #[.slice none 0 0] 26)).alloc (.cells #[.int .i64 0] 3)).alloc (.cells #[.int .i64 0] 3)
  have q2 := ((Boxed.new ((w.alloc (.cells #[.slice ao N cap] 26)).alloc (.cells #[.int .i64 x] 3)) 26 (.slice none 0 0)).alloc (.cells #[.int .i64 0] 3)).alloc (.cells #[.int .i64 0] 3)
  have q3 := (Boxed.new (((w.alloc (.cells #[.slice ao N cap] 26)).alloc (.cells #[.int .i64 x] 3)).alloc (.cells #[.slice none 0 0] 26)) 3 (.int .i64 0)).alloc (.cells #[.int .i64 0] 3)
  have q4 := Boxed.new ((((w.alloc (.cells #[.slice ao N cap] 26)).alloc (.cells #[.int .i64 x] 3)).alloc (.cells #[.slice none 0 0] 26)).alloc (.cells #[.int .i64 0] 3)) 3 (.int .i64 0)
  simp only [World.size_alloc] at q1 q2 q3 q4
  have hbn := (Below.refl w1.heap.size w1).alloc (Nat.le_refl _) (.cells #[.slice (some ⟨g, 0, none⟩) N N] 26)
  have hb2 := below_join hb hbn
  exact ⟨below_join hB hb2, boxed_below q0 hb2, boxed_below q1 hb2, boxed_below q2 hb2, boxed_below q3 hb2, boxed_below q4 hb2, Boxed.new w1 _ _, hi.below hbn hl, by omega, hl⟩
/-- The three results are laid down. -/
theorem AbS.fin {w wx : World} {ao : Option Addr} {N cap : Nat} {x : Int} {Bo g : Nat} {F : Nat → Int} (s : AbS w wx ao N cap x Bo g F) (u v t : Value) :
    ((((wx.setCell ⟨w.heap.size + 1 + 1, 0, none⟩ u).setCell ⟨w.heap.size + 1 + 1 + 1, 0, none⟩ v).setCell ⟨w.heap.size + 1 + 1 + 1 + 1, 0, none⟩ t).cell? ⟨w.heap.size + 1 + 1, 0, none⟩ = some u ∧ (((wx.setCell ⟨w.heap.size + 1 + 1, 0, none⟩ u).setCell ⟨w.heap.size + 1 + 1 + 1, 0, none⟩ v).setCell ⟨w.heap.size + 1 + 1 + 1 + 1, 0, none⟩ t).cell? ⟨w.heap.size + 1 + 1 + 1, 0, none⟩ = some v ∧
      (((wx.setCell ⟨w.heap.size + 1 + 1, 0, none⟩ u).setCell ⟨w.heap.size + 1 + 1 + 1, 0, none⟩ v).setCell ⟨w.heap.size + 1 + 1 + 1 + 1, 0, none⟩ t).cell? ⟨w.heap.size + 1 + 1 + 1 + 1, 0, none⟩ = some t) ∧
    Below w.heap.size w (((wx.setCell ⟨w.heap.size + 1 + 1, 0, none⟩ u).setCell ⟨w.heap.size + 1 + 1 + 1, 0, none⟩ v).setCell ⟨w.heap.size + 1 + 1 + 1 + 1, 0, none⟩ t) ∧ Ints (((wx.setCell ⟨w.heap.size + 1 + 1, 0, none⟩ u).setCell ⟨w.heap.size + 1 + 1 + 1, 0, none⟩ v).setCell ⟨w.heap.size + 1 + 1 + 1 + 1, 0, none⟩ t) g 0 N F ∧
      g < (((wx.setCell ⟨w.heap.size + 1 + 1, 0, none⟩ u).setCell ⟨w.heap.size + 1 + 1 + 1, 0, none⟩ v).setCell ⟨w.heap.size + 1 + 1 + 1 + 1, 0, none⟩ t).heap.size := by
  have h1 := s.l1
  have h2 := s.l2
  have h3 := s.bo.lt
  have t1 := s.b2.set u
  have t2 := (s.b3.other (B' := w.heap.size + 1 + 1) (by omega) u).set v
  have t3 := ((s.b4.other (B' := w.heap.size + 1 + 1) (by omega) u).other (B' := w.heap.size + 1 + 1 + 1) (by omega) v).set t
  have c1 := ((t1.other (B' := w.heap.size + 1 + 1 + 1) (by omega) v).other (B' := w.heap.size + 1 + 1 + 1 + 1) (by omega) t).cell
  have c2 := (t2.other (B' := w.heap.size + 1 + 1 + 1 + 1) (by omega) t).cell
  refine ⟨⟨c1, c2, t3.cell⟩, ((s.below.setCell (p := ⟨w.heap.size + 1 + 1, 0, none⟩) (by show _ ≤ w.heap.size + 1 + 1; omega) _).setCell (p := ⟨w.heap.size + 1 + 1 + 1, 0, none⟩) (by show _ ≤ w.heap.size + 1 + 1 + 1; omega) _).setCell (p := ⟨w.heap.size + 1 + 1 + 1 + 1, 0, none⟩) (by show _ ≤ w.heap.size + 1 + 1 + 1 + 1; omega) _, ?_, by rw [World.size_setCell, World.size_setCell, World.size_setCell]; omega⟩
  have i1 := s.ints.turn ((Turn.refl (w.heap.size + 1 + 1) _).set 0 u) (by omega) (by omega)
  have i2 := i1.turn ((Turn.refl (w.heap.size + 1 + 1 + 1) _).set 0 v) (by omega) (by rw [World.size_setCell]; omega)
  exact i2.turn ((Turn.refl (w.heap.size + 1 + 1 + 1 + 1) _).set 0 t) (by omega) (by rw [World.size_setCell, World.size_setCell]; omega)

set_option maxRecDepth 100000 in
set_option maxHeartbeats 4000000 in
theorem alloc_broken (ao : Option Addr) (N cap : Nat) (f : Nat → Int) (x : Int) (w : World) (hr : Rd w ao N f) (hN : N ≤ 1048576) (hcap : N ≤ cap) (hW : ¬ Whole f N) :
    Calls Try.prog 11 #[.agg #[.slice ao N cap], .int .i64 x] w fun e w' => ∃ g, e = .returned (.tuple #[.agg #[.slice (some ⟨g, 0, none⟩) N N], .int .i64 0, .int .i64 3]) ∧ w.heap.size ≤ g ∧ g < w'.heap.size ∧ Ints w' g 0 N f ∧ Below w.heap.size w w' := by
  have HR : Hid (Rd w ao N f) := hr
  have HW : Hid (¬ Whole f N) := hW
  clear hr hW
  refine (callsIn_wide (n := 8)).1 ?_
  refine callsIn_of_wp_marks Try.func11 rfl trivial ?_ rfl
  simp only [Try.ntmps11, List.size_toArray, List.length_cons, List.length_nil, Nat.reduceAdd, Nat.reduceSub, Array.replicate_succ, Array.replicate_zero, List.push_toArray, List.append_toArray, List.nil_append, List.cons_append]
  have hB : Below w.heap.size w (((((w.alloc (.cells #[.slice ao N cap] 26)).alloc (.cells #[.int .i64 x] 3)).alloc (.cells #[.slice none 0 0] 26)).alloc (.cells #[.int .i64 0] 3)).alloc (.cells #[.int .i64 0] 3)) := (((((Below.refl _ w).alloc (Nat.le_refl _) _).alloc (by simp) _).alloc (by simp; omega) _).alloc (by simp; omega) _).alloc (by simp; omega) _
  have HRB : Hid (Rd (((((w.alloc (.cells #[.slice ao N cap] 26)).alloc (.cells #[.int .i64 x] 3)).alloc (.cells #[.slice none 0 0] 26)).alloc (.cells #[.int .i64 0] 3)).alloc (.cells #[.int .i64 0] 3)) ao N f) := HR.out.below hB
  clear hB
  gi_wp2
  refine ⟨trivial, (callsIn_wide.2 (own_any ao N cap f _ HRB.out hN)).mono ?_⟩
  rintro e w1 ⟨g, rfl, hg, hl, hi, hb⟩
  have hs := AbS.start hb hg hl hi
  have HS : Hid (AbS w (w1.alloc (.cells #[.slice (some ⟨g, 0, none⟩) N N] 26)) ao N cap x w1.heap.size g f) := hs
  have c0 := hs.b0.cell
  clear hs hg hl hi hb
  gi_wp2
  have hs := HS.out
  clear HS c0
  generalize (w1.alloc (.cells #[.slice (some ⟨g, 0, none⟩) N N] 26)) = w2 at hs ⊢
  generalize w1.heap.size = Bo at hs ⊢
  refine ⟨trivial, (callsIn_wide.2 (implAudit_any ao N cap f w2 (HR.out.below hs.below) hN hcap)).mono ?_⟩
  rintro e w3 ⟨rfl, hb3⟩
  have HS3 : Hid (AbS w w3 ao N cap x Bo g f) := hs.call hb3
  have hy : (aud f N 0 false == -1) = false := by simpa [Whole] using HW.out
  have co := HS3.out.bo.cell
  have c2 := HS3.out.b2.cell
  have f2 := HS3.out.b2.frozen
  have c3 := HS3.out.b3.cell
  have f3 := HS3.out.b3.frozen
  have c4 := HS3.out.b4.cell
  have f4 := HS3.out.b4.frozen
  clear hs hb3
  generalize aud f N 0 false = y at *
  gi_wp2
  obtain ⟨⟨r2, r3, r4⟩, hbl, hin, hlt⟩ := HS3.out.fin (.slice (some ⟨g, 0, none⟩) N N) (.int .i64 0) (.int .i64 3)
  refine ⟨.tuple #[.agg #[.slice (some ⟨g, 0, none⟩) N N], .int .i64 0, .int .i64 3], ?_, g, rfl, by have := HS3.out.l1; omega, hlt, hin, hbl⟩
  simp [results, Try.results11, go_sem, r2, r3, r4]
end Go.Proofs.Ytmongbpdbcbhlaa
