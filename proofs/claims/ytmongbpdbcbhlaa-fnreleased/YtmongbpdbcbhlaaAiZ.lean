/-
  What the program's Alloc answers of an arena without a word.
-/
import Derived.Test.YtmongbpdbcbhlaaAiC
namespace Go.Proofs.Ytmongbpdbcbhlaa
open Go.RowKit Go.Shelf
set_option linter.unusedVariables false
attribute [local go_sem] Oper.semAt_some

structure AbZ (w wx : World) (ao : Option Addr) (N cap : Nat) (x : Int) (Bo g : Nat) : Prop where
  below : Below w.heap.size w wx
  b0 : Boxed wx w.heap.size 26 (.slice ao N cap)
  b1 : Boxed wx (w.heap.size + 1) 3 (.int .i64 x)
  b2 : Boxed wx (w.heap.size + 1 + 1) 26 (.slice none 0 0)
  b3 : Boxed wx (w.heap.size + 1 + 1 + 1) 3 (.int .i64 0)
  b4 : Boxed wx (w.heap.size + 1 + 1 + 1 + 1) 3 (.int .i64 0)
  bo : Boxed wx Bo 26 (.slice (some ⟨g, 0, none⟩) N N)
  l1 : w.heap.size + 5 ≤ g
  l2 : g < Bo
theorem AbS.toZ {w wx : World} {ao : Option Addr} {N cap : Nat} {x : Int} {Bo g : Nat} {F : Nat → Int} (s : AbS w wx ao N cap x Bo g F) : AbZ w wx ao N cap x Bo g := ⟨s.below, s.b0, s.b1, s.b2, s.b3, s.b4, s.bo, s.l1, s.l2⟩
theorem AbZ.call {w wx wy : World} {ao : Option Addr} {N cap : Nat} {x : Int} {Bo g : Nat} (s : AbZ w wx ao N cap x Bo g) (hb : Below wx.heap.size wx wy) : AbZ w wy ao N cap x Bo g :=
  ⟨below_join s.below hb, boxed_below s.b0 hb, boxed_below s.b1 hb, boxed_below s.b2 hb, boxed_below s.b3 hb, boxed_below s.b4 hb, boxed_below s.bo hb, s.l1, s.l2⟩
theorem abZ_own {β : Type} {w : World} {ao : Option Addr} {N cap : Nat} {x : Int} {Bo g B : Nat} (hB : w.heap.size ≤ B) : OwnFrom B (fun (_ : β) V => AbZ w V ao N cap x Bo g) := fun s A C row hs hg hr => by
  have ho : ∀ r, row = some r → ∃ o : Obj, A.heap[r]? = some o ∧ o.isCells = false := fun r e => (hr r e).2
  exact ⟨ownFrom_below (β := Unit) (Nat.le_refl _) hB () A C row hs.below hg hr, boxed_own _ _ (fun _ : Unit => _) () A C row hs.b0 hg ho, boxed_own _ _ (fun _ : Unit => _) () A C row hs.b1 hg ho, boxed_own _ _ (fun _ : Unit => _) () A C row hs.b2 hg ho, boxed_own _ _ (fun _ : Unit => _) () A C row hs.b3 hg ho, boxed_own _ _ (fun _ : Unit => _) () A C row hs.b4 hg ho, boxed_own _ _ (fun _ : Unit => _) () A C row hs.bo hg ho, hs.l1, hs.l2⟩
theorem AbZ.fin {w wx : World} {ao : Option Addr} {N cap : Nat} {x : Int} {Bo g : Nat} (s : AbZ w wx ao N cap x Bo g) (u v t : Value) :
    ((((wx.setCell ⟨w.heap.size + 1 + 1, 0, none⟩ u).setCell ⟨w.heap.size + 1 + 1 + 1, 0, none⟩ v).setCell ⟨w.heap.size + 1 + 1 + 1 + 1, 0, none⟩ t).cell? ⟨w.heap.size + 1 + 1, 0, none⟩ = some u ∧ (((wx.setCell ⟨w.heap.size + 1 + 1, 0, none⟩ u).setCell ⟨w.heap.size + 1 + 1 + 1, 0, none⟩ v).setCell ⟨w.heap.size + 1 + 1 + 1 + 1, 0, none⟩ t).cell? ⟨w.heap.size + 1 + 1 + 1, 0, none⟩ = some v ∧
      (((wx.setCell ⟨w.heap.size + 1 + 1, 0, none⟩ u).setCell ⟨w.heap.size + 1 + 1 + 1, 0, none⟩ v).setCell ⟨w.heap.size + 1 + 1 + 1 + 1, 0, none⟩ t).cell? ⟨w.heap.size + 1 + 1 + 1 + 1, 0, none⟩ = some t) ∧
    Below w.heap.size w (((wx.setCell ⟨w.heap.size + 1 + 1, 0, none⟩ u).setCell ⟨w.heap.size + 1 + 1 + 1, 0, none⟩ v).setCell ⟨w.heap.size + 1 + 1 + 1 + 1, 0, none⟩ t) := by
  have h1 := s.l1
  have h2 := s.l2
  have h3 := s.bo.lt
  have t1 := s.b2.set u
  have t2 := (s.b3.other (B' := w.heap.size + 1 + 1) (by omega) u).set v
  have t3 := ((s.b4.other (B' := w.heap.size + 1 + 1) (by omega) u).other (B' := w.heap.size + 1 + 1 + 1) (by omega) v).set t
  have c1 := ((t1.other (B' := w.heap.size + 1 + 1 + 1) (by omega) v).other (B' := w.heap.size + 1 + 1 + 1 + 1) (by omega) t).cell
  have c2 := (t2.other (B' := w.heap.size + 1 + 1 + 1 + 1) (by omega) t).cell
  exact ⟨⟨c1, c2, t3.cell⟩, ((s.below.setCell (p := ⟨w.heap.size + 1 + 1, 0, none⟩) (by show _ ≤ w.heap.size + 1 + 1; omega) _).setCell (p := ⟨w.heap.size + 1 + 1 + 1, 0, none⟩) (by show _ ≤ w.heap.size + 1 + 1 + 1; omega) _).setCell (p := ⟨w.heap.size + 1 + 1 + 1 + 1, 0, none⟩) (by show _ ≤ w.heap.size + 1 + 1 + 1 + 1; omega) _⟩
structure AlZ (w V : World) (N g : Nat) (p code : Int) : Prop where
  r2 : V.cell? ⟨w.heap.size + 1 + 1, 0, none⟩ = some (.slice (some ⟨g, 0, none⟩) N N)
  r3 : V.cell? ⟨w.heap.size + 1 + 1 + 1, 0, none⟩ = some (.int .i64 p)
  r4 : V.cell? ⟨w.heap.size + 1 + 1 + 1 + 1, 0, none⟩ = some (.int .i64 code)
  below : Below w.heap.size w V
theorem AlZ.put {w V : World} {N g D : Nat} {p code : Int} (h : AlZ w V N g p code) (hD : w.heap.size ≤ D) (hK : V.heap[D]? = some (.deferred (some []))) : AlZ w (V.putObj D (.deferred none)) N g p code := by
  have hg := grownBy_putObj' V D (.deferred none)
  have hr : ∀ r, (some D : Option Nat) = some r → w.heap.size ≤ r ∧ ∃ o : Obj, V.heap[r]? = some o ∧ o.isCells = false := fun r e => by cases e; exact ⟨hD, _, hK, rfl⟩
  have ho : ∀ r, (some D : Option Nat) = some r → ∃ o : Obj, V.heap[r]? = some o ∧ o.isCells = false := fun r e => (hr r e).2
  exact ⟨cell_kept h.r2 hg ho, cell_kept h.r3 hg ho, cell_kept h.r4 hg ho, ownFrom_below (β := Unit) (Nat.le_refl _) (Nat.le_refl _) () V _ (some D) h.below hg hr⟩

set_option maxRecDepth 100000 in
set_option maxHeartbeats 1000000 in
theorem alloc_zero (ao : Option Addr) (N cap : Nat) (f : Nat → Int) (x : Nat) (w : World) (hr : Rd w ao N f) (hN : N ≤ 4000) (h0 : N = 0) (hcap : N ≤ cap) (hW : Whole f N) (hx : 1 ≤ x) (hx2 : x ≤ 4000) :
    Calls Try.prog 11 #[.agg #[.slice ao N cap], .int .i64 x] w fun e w' => ∃ g : Nat, e = .returned (.tuple #[.agg #[.slice (some ⟨g, 0, none⟩) N N], .int .i64 0, .int .i64 1]) ∧ Below w.heap.size w w' := by
  have HR : Hid (Rd w ao N f) := hr
  have HW : Hid (Whole f N) := hW
  have HZ0 : Hid (N = 0) := h0
  clear h0
  have hN2 : N ≤ 1048576 := by omega
  clear hr hW
  refine (callsIn_wide (n := 8)).1 ?_
  refine callsIn_of_wp_marks Try.func11 rfl trivial ?_ rfl
  simp only [Try.ntmps11, List.size_toArray, List.length_cons, List.length_nil, Nat.reduceAdd, Nat.reduceSub, Array.replicate_succ, Array.replicate_zero, List.push_toArray, List.append_toArray, List.nil_append, List.cons_append]
  have hB : Below w.heap.size w (((((w.alloc (.cells #[.slice ao N cap] 26)).alloc (.cells #[.int .i64 x] 3)).alloc (.cells #[.slice none 0 0] 26)).alloc (.cells #[.int .i64 0] 3)).alloc (.cells #[.int .i64 0] 3)) := (((((Below.refl _ w).alloc (Nat.le_refl _) _).alloc (by simp) _).alloc (by simp; omega) _).alloc (by simp; omega) _).alloc (by simp; omega) _
  have HRB : Hid (Rd (((((w.alloc (.cells #[.slice ao N cap] 26)).alloc (.cells #[.int .i64 x] 3)).alloc (.cells #[.slice none 0 0] 26)).alloc (.cells #[.int .i64 0] 3)).alloc (.cells #[.int .i64 0] 3)) ao N f) := HR.out.below hB
  clear hB
  gi_wp2
  refine ⟨trivial, (callsIn_wide.2 (own_any ao N cap f _ HRB.out hN2)).mono ?_⟩
  rintro e w1 ⟨g, rfl, hg, hl, hi, hb⟩
  have hs := AbS.start hb hg hl hi
  have HS : Hid (AbS w (w1.alloc (.cells #[.slice (some ⟨g, 0, none⟩) N N] 26)) ao N cap x w1.heap.size g f) := hs
  have c0 := hs.b0.cell
  clear hs hg hl hi hb
  gi_wp2
  have hs := HS.out
  clear HS c0
  generalize (w1.alloc (.cells #[.slice (some ⟨g, 0, none⟩) N N] 26)) = w2 at hs ⊢
  generalize w1.heap.size = Bo at hs ⊢
  refine ⟨trivial, (callsIn_wide.2 (implAudit_any ao N cap f w2 (HR.out.below hs.below) hN2 hcap)).mono ?_⟩
  rintro e w3 ⟨rfl, hb3⟩
  have HS3 : Hid (AbS w w3 ao N cap x Bo g f) := hs.call hb3
  have hy : aud f N 0 false = -1 := HW.out
  have c0 := HS3.out.b0.cell
  have c1 := HS3.out.b1.cell
  have V1 : ¬ (x : Int) < 1 := by omega
  have V2 : ¬ (4000 : Int) < x := by omega
  clear hs hb3
  rw [hy]
  clear hy
  gi_wp2_with (refine ⟨trivial, ?_⟩; gi_at_call 39; refine (free_in _ ao N cap _).mono ?_; rintro e w' ⟨rfl, rfl⟩)
  have hbn := (Below.refl w3.heap.size w3).alloc (Nat.le_refl _) (.cells #[.slice ao N cap] 26)
  have bA := Boxed.new w3 26 (.slice ao N cap)
  have hS4 := HS3.out.call hbn
  have hsz : (w3.alloc (.cells #[.slice ao N cap] 26)).heap.size = w3.heap.size + 1 := World.size_alloc _ _
  have hw3 := HS3.out.bo.lt
  clear hbn c0 c1 HS3
  generalize (w3.alloc (.cells #[.slice ao N cap] 26)) = W0 at bA hS4 hsz ⊢
  generalize w3.heap.size = Bn at bA hw3 hsz ⊢
  have hlow : N ≠ 0 → ∀ a, ao = some a → a.block < w.heap.size := fun hn a e => by obtain ⟨b, o, e2, hc⟩ := HR.out hn; rw [e] at e2; cases e2; exact World.block_lt_of_cell? w _ (hc 0 (by omega))
  have hH0 : Hld w.heap.size Bn ao N cap f W0 := ⟨bA, HR.out.below hS4.below, hlow⟩
  have hwW := hS4.below.size
  refine range_over (by omega) (gf := 68) (lb := #[.pointer (some ⟨Bn, 0, none⟩)]) rfl (enters_of Try.func68 (by kernel_rfl) rfl) (free_seq 7 (by omega) w.heap.size Bn ao N cap f hN2 hcap W0 hH0 (by omega) _) (by omega) (by intro x; rfl)
    (fun pre V => AbZ w V ao N cap x Bo g)
    (fun c pre V => False)
    (fun s A C row hs hg hr => abZ_own (by omega) s A C row hs hg hr)
    (fun c s A C row hs hg hr => hs.elim)
    hS4.toZ
    (fun y a' V => ∃ Bx, Boxed3 V Bx y.1.1 y.1.2.1 y.1.2.2 ∧ g < Bx ∧ a' = { tmps := #[.agg #[.slice ao N cap], .int .i64 x, .pointer (some ⟨w.heap.size, 0, none⟩), .pointer (some ⟨w.heap.size + 1, 0, none⟩), .pointer (some ⟨w.heap.size + 1 + 1, 0, none⟩), .pointer (some ⟨w.heap.size + 1 + 1 + 1, 0, none⟩), .pointer (some ⟨w.heap.size + 1 + 1 + 1 + 1, 0, none⟩), .pointer (some ⟨Bo, 0, none⟩), .pointer (some ⟨Bx, 0, none⟩), .agg #[.slice ao N cap], .agg #[.slice (some ⟨g, 0, none⟩) N N], .agg #[.slice ao N cap], .int .i64 (-1), .bool false, undef, .int .i64 x, .bool (decide ((x : Int) < 1)), .bool (decide ((x : Int) < 1)), .int .i64 x, .bool (decide ((4000 : Int) < x)), .bool (decide ((x : Int) < 1) || decide ((4000 : Int) < x)), undef, .agg #[.slice ao N cap], .func (.func 68) #[] #[.pointer (some ⟨Bn, 0, none⟩)], .agg #[.int .i64 y.1.1, .int .i64 y.1.2.1, .bool y.1.2.2], undef, undef, undef, undef, undef, undef, undef, undef, undef, undef, undef, undef, undef], defers := [] })
    (fun y a' _ A C row hs hg hr => by obtain ⟨Bx, h2, h3⟩ := hs; exact ⟨Bx, boxed3_own Bx _ _ _ () A C row h2 hg (fun r e => (hr r e).2), h3⟩)
    ?assign ?body ?done ?stop
  case assign =>
    rintro l2 pre y V K hA hK
    dsimp only [enB]
    gi_wp2
    have hbn := (Below.refl V.heap.size V).alloc (Nat.le_refl _) (.cells #[.int .i64 y.1.1, .int .i64 y.1.2.1, .bool y.1.2.2] 54)
    exact hK _ _ ((KeepsOthers.alloc _ _).from _) (KB.of_below hbn hA.below.size) (hA.call hbn) ⟨V.heap.size, Boxed3.new V _ _ _, Nat.lt_trans hA.l2 hA.bo.lt, rfl⟩
  case body =>
    rintro l2 pre y a' V hA ⟨Bx, bX, hgx, rfl⟩ hlt
    obtain ⟨⟨q, m, u⟩, hBk⟩ := y
    dsimp only at *
    have hq4 := hBk.fit
    exact absurd hq4 (by have := HZ0.out; omega)
  case done =>
    rintro D xs V hD hS hA hK
    have co := hA.bo.cell
    have c2 := hA.b2.cell
    have f2 := hA.b2.frozen
    have c3 := hA.b3.cell
    have f3 := hA.b3.frozen
    have c4 := hA.b4.cell
    have f4 := hA.b4.frozen
    have HA : Hid (AbZ w V ao N cap x Bo g) := hA
    clear hA hS
    gi_wp2
    obtain ⟨⟨r2, r3, r4⟩, hbl⟩ := HA.out.fin (.slice (some ⟨g, 0, none⟩) N N) (.int .i64 0) (.int .i64 1)
    have hK5 := (((KeepsOthers.setCell V ⟨w.heap.size + 1 + 1, 0, none⟩ (.slice (some ⟨g, 0, none⟩) N N)).trans (KeepsOthers.setCell _ ⟨w.heap.size + 1 + 1 + 1, 0, none⟩ (.int .i64 0))).trans (KeepsOthers.setCell _ ⟨w.heap.size + 1 + 1 + 1 + 1, 0, none⟩ (.int .i64 1))).same D _ hK rfl
    have hAD : AlZ w (((V.setCell ⟨w.heap.size + 1 + 1, 0, none⟩ (.slice (some ⟨g, 0, none⟩) N N)).setCell ⟨w.heap.size + 1 + 1 + 1, 0, none⟩ (.int .i64 0)).setCell ⟨w.heap.size + 1 + 1 + 1 + 1, 0, none⟩ (.int .i64 1)) N g 0 1 := ⟨r2, r3, r4, hbl⟩
    clear r2 r3 r4 hbl
    generalize (((V.setCell ⟨w.heap.size + 1 + 1, 0, none⟩ (.slice (some ⟨g, 0, none⟩) N N)).setCell ⟨w.heap.size + 1 + 1 + 1, 0, none⟩ (.int .i64 0)).setCell ⟨w.heap.size + 1 + 1 + 1 + 1, 0, none⟩ (.int .i64 1)) = V5 at hK5 hAD ⊢
    have hP := hAD.put (by omega) hK5
    obtain ⟨s2, s3, s4, s6⟩ := hP
    refine ⟨by simp, .inl ⟨_, _, rfl, run_takeDeferred hK5, ?_⟩⟩
    refine ⟨.tuple #[.agg #[.slice (some ⟨g, 0, none⟩) N N], .int .i64 0, .int .i64 1], ?_, g, rfl, s6⟩
    simp [results, Try.results11, go_sem, s2, s3, s4]
  case stop =>
    rintro D c pre V hD hS hF hK
    exact hF.elim
end Go.Proofs.Ytmongbpdbcbhlaa
