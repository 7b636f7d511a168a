/-
  What the program's Alloc answers of an arena that is whole.
-/
import Derived.Test.YtmongbpdbcbhlaaAiB
import Derived.Test.YtmongbpdbcbhlaaGiB
namespace Go.Proofs.Ytmongbpdbcbhlaa
open Go.RowKit Go.Shelf
set_option linter.unusedVariables false
attribute [local go_sem] Oper.semAt_some

theorem keeps_turn {g : Nat} {A B : World} {v : Value} {o : Nat} (h : Turn g A B) (hc : A.cell? ⟨g, o, none⟩ = some v) : KeepsOthers A B := ⟨h.size, fun k ob hk hb => by
  by_cases e : k = g
  · subst e
    obtain ⟨o2, h1, h2⟩ := cells_of_cell hc
    have h1' : A.heap[k]? = some o2 := h1
    rw [hk] at h1'
    cases h1'
    rw [hb] at h2
    cases h2
  · exact (h.block k (Array.getElem?_eq_some_iff.1 hk).1 e).trans hk⟩

/-- All these blocks have fewer words than x. -/
def AllLess (l : List (Nat × Nat × Bool)) (x : Nat) : Prop := ∀ b ∈ l, b.2.1 < x
theorem AbS.give {w wx wy : World} {ao : Option Addr} {N cap : Nat} {x : Int} {Bo g : Nat} {F G : Nat → Int} (s : AbS w wx ao N cap x Bo g F) (ht : Turn g wx wy) (hi : Ints wy g 0 N G) : AbS w wy ao N cap x Bo g G := by
  have h1 := s.l1
  have h2 := s.l2
  have h3 := s.bo.lt
  have k : ∀ {b : Nat} {t : TypeId} {v : Value}, Boxed wx b t v → b ≠ g → Boxed wy b t v := fun h e => (ht.block _ h.lt e).trans h
  exact ⟨Turn.below s.below (by omega) ht (by omega), k s.b0 (by omega), k s.b1 (by omega), k s.b2 (by omega), k s.b3 (by omega), k s.b4 (by omega), k s.bo (by omega), hi, h1, h2⟩

/-- Alloc's answer, laid down. -/
structure AlD (w V : World) (N g : Nat) (F : Nat → Int) (p code : Int) : Prop where
  r2 : V.cell? ⟨w.heap.size + 1 + 1, 0, none⟩ = some (.slice (some ⟨g, 0, none⟩) N N)
  r3 : V.cell? ⟨w.heap.size + 1 + 1 + 1, 0, none⟩ = some (.int .i64 p)
  r4 : V.cell? ⟨w.heap.size + 1 + 1 + 1 + 1, 0, none⟩ = some (.int .i64 code)
  ints : Ints V g 0 N F
  below : Below w.heap.size w V
  gw : w.heap.size ≤ g
theorem alD_own {β : Type} {w : World} {N g B : Nat} {F : Nat → Int} {p code : Int} (hN : 0 < N) (hB : w.heap.size ≤ B) : OwnFrom B (fun (_ : β) V => AlD w V N g F p code) := fun s A C row hs hg hr => by
  have ho : ∀ r, row = some r → ∃ o : Obj, A.heap[r]? = some o ∧ o.isCells = false := fun r e => (hr r e).2
  exact ⟨cell_kept hs.r2 hg ho, cell_kept hs.r3 hg ho, cell_kept hs.r4 hg ho, ⟨fun j hj => cell_kept (hs.ints.cell j hj) hg ho, fun y => by
    obtain ⟨o, h1, h2⟩ := cells_of_cell (hs.ints.cell 0 hN)
    exact (World.frozen?_of_block (a := ⟨g, y, none⟩) (grownBy_keeps_cells hg ho h1 h2)).trans (hs.ints.free y)⟩, ownFrom_below (β := Unit) (Nat.le_refl _) hB () A C row hs.below hg hr, hs.gw⟩

theorem AlD.put {w V : World} {N g D : Nat} {F : Nat → Int} {p code : Int} (h : AlD w V N g F p code) (hN : 0 < N) (hD : w.heap.size ≤ D) (hK : V.heap[D]? = some (.deferred (some []))) : AlD w (V.putObj D (.deferred none)) N g F p code :=
  alD_own (β := Unit) hN (Nat.le_refl _) () V _ (some D) h (grownBy_putObj' V D (.deferred none)) (fun r e => by cases e; exact ⟨hD, _, hK, rfl⟩)
theorem filt_split {P : Nat × Nat × Bool → Bool} : ∀ {L l1 : List (Nat × Nat × Bool)} {b : Nat × Nat × Bool} {l2 : List (Nat × Nat × Bool)}, L.filter P = l1 ++ b :: l2 → ∃ A B, L = A ++ b :: B ∧ A.filter P = l1 ∧ P b = true
  | [], l1, b, l2, h => by cases l1 <;> cases h
  | c :: L, l1, b, l2, h => by
    by_cases hc : P c = true
    · rw [List.filter_cons_of_pos hc] at h
      cases l1 with
      | nil =>
        injection h with e1 e2
        subst e1
        exact ⟨[], L, rfl, rfl, hc⟩
      | cons d l1 =>
        injection h with e1 e2
        subst e1
        obtain ⟨A, B, h1, h2, h3⟩ := filt_split e2
        exact ⟨c :: A, B, by rw [h1]; rfl, by rw [List.filter_cons_of_pos hc, h2], h3⟩
    · rw [List.filter_cons_of_neg hc] at h
      obtain ⟨A, B, h1, h2, h3⟩ := filt_split h
      exact ⟨c :: A, B, by rw [h1]; rfl, by rw [List.filter_cons_of_neg hc, h2], h3⟩

/-- What Alloc has in hand abides what the walk of the blocks makes. -/
theorem abS_own {β : Type} {w : World} {ao : Option Addr} {N cap : Nat} {x : Int} {Bo g B : Nat} {F : Nat → Int} (hN : 0 < N) (hB : w.heap.size ≤ B) : OwnFrom B (fun (_ : β) V => AbS w V ao N cap x Bo g F) := fun s A C row hs hg hr => by
  have ho : ∀ r, row = some r → ∃ o : Obj, A.heap[r]? = some o ∧ o.isCells = false := fun r e => (hr r e).2
  exact ⟨ownFrom_below (β := Unit) (Nat.le_refl _) hB () A C row hs.below hg hr, boxed_own _ _ (fun _ : Unit => _) () A C row hs.b0 hg ho, boxed_own _ _ (fun _ : Unit => _) () A C row hs.b1 hg ho, boxed_own _ _ (fun _ : Unit => _) () A C row hs.b2 hg ho, boxed_own _ _ (fun _ : Unit => _) () A C row hs.b3 hg ho, boxed_own _ _ (fun _ : Unit => _) () A C row hs.b4 hg ho, boxed_own _ _ (fun _ : Unit => _) () A C row hs.bo hg ho, ⟨fun j hj => cell_kept (hs.ints.cell j hj) hg ho, fun y => by
    obtain ⟨o, h1, h2⟩ := cells_of_cell (hs.ints.cell 0 hN)
    exact (World.frozen?_of_block (a := ⟨g, y, none⟩) (grownBy_keeps_cells hg ho h1 h2)).trans (hs.ints.free y)⟩, hs.l1, hs.l2⟩

set_option maxRecDepth 100000 in
set_option maxHeartbeats 4000000 in
theorem alloc_whole (ao : Option Addr) (N cap : Nat) (f : Nat → Int) (x : Nat) (w : World) (hr : Rd w ao N f) (hN : N ≤ 4000) (h0 : 0 < N) (hcap : N ≤ cap) (hW : Whole f N) (hx : 1 ≤ x) (hx2 : x ≤ 4000) :
    Calls Try.prog 11 #[.agg #[.slice ao N cap], .int .i64 x] w fun e w' => ∃ (g : Nat) (F : Nat → Int) (p code : Int), e = .returned (.tuple #[.agg #[.slice (some ⟨g, 0, none⟩) N N], .int .i64 p, .int .i64 code]) ∧ w.heap.size ≤ g ∧ g < w'.heap.size ∧ Ints w' g 0 N F ∧ AllocR f N x F p code ∧ Below w.heap.size w w' := by
  have HR : Hid (Rd w ao N f) := hr
  have HW : Hid (Whole f N) := hW
  have hN2 : N ≤ 1048576 := by omega
  clear hr hW
  refine (callsIn_wide (n := 8)).1 ?_
  refine callsIn_of_wp_marks Try.func11 rfl trivial ?_ rfl
  simp only [Try.ntmps11, List.size_toArray, List.length_cons, List.length_nil, Nat.reduceAdd, Nat.reduceSub, Array.replicate_succ, Array.replicate_zero, List.push_toArray, List.append_toArray, List.nil_append, List.cons_append]
  have hB : Below w.heap.size w (((((w.alloc (.cells #[.slice ao N cap] 26)).alloc (.cells #[.int .i64 x] 3)).alloc (.cells #[.slice none 0 0] 26)).alloc (.cells #[.int .i64 0] 3)).alloc (.cells #[.int .i64 0] 3)) := (((((Below.refl _ w).alloc (Nat.le_refl _) _).alloc (by simp) _).alloc (by simp; omega) _).alloc (by simp; omega) _).alloc (by simp; omega) _
  have HRB : Hid (Rd (((((w.alloc (.cells #[.slice ao N cap] 26)).alloc (.cells #[.int .i64 x] 3)).alloc (.cells #[.slice none 0 0] 26)).alloc (.cells #[.int .i64 0] 3)).alloc (.cells #[.int .i64 0] 3)) ao N f) := HR.out.below hB
  clear hB
  gi_wp2
  refine ⟨trivial, (callsIn_wide.2 (own_any ao N cap f _ HRB.out hN2)).mono ?_⟩
  rintro e w1 ⟨g, rfl, hg, hl, hi, hb⟩
  have hs := AbS.start hb hg hl hi
  have HS : Hid (AbS w (w1.alloc (.cells #[.slice (some ⟨g, 0, none⟩) N N] 26)) ao N cap x w1.heap.size g f) := hs
  have c0 := hs.b0.cell
  clear hs hg hl hi hb
  gi_wp2
  have hs := HS.out
  clear HS c0
  generalize (w1.alloc (.cells #[.slice (some ⟨g, 0, none⟩) N N] 26)) = w2 at hs ⊢
  generalize w1.heap.size = Bo at hs ⊢
  refine ⟨trivial, (callsIn_wide.2 (implAudit_any ao N cap f w2 (HR.out.below hs.below) hN2 hcap)).mono ?_⟩
  rintro e w3 ⟨rfl, hb3⟩
  have HS3 : Hid (AbS w w3 ao N cap x Bo g f) := hs.call hb3
  have hy : aud f N 0 false = -1 := HW.out
  have c0 := HS3.out.b0.cell
  have c1 := HS3.out.b1.cell
  have V1 : ¬ (x : Int) < 1 := by omega
  have V2 : ¬ (4000 : Int) < x := by omega
  clear hs hb3
  rw [hy]
  clear hy
  gi_wp2_with (refine ⟨trivial, ?_⟩; gi_at_call 39; refine (free_in _ ao N cap _).mono ?_; rintro e w' ⟨rfl, rfl⟩)
  have hbn := (Below.refl w3.heap.size w3).alloc (Nat.le_refl _) (.cells #[.slice ao N cap] 26)
  have bA := Boxed.new w3 26 (.slice ao N cap)
  have hS4 := HS3.out.call hbn
  have hsz : (w3.alloc (.cells #[.slice ao N cap] 26)).heap.size = w3.heap.size + 1 := World.size_alloc _ _
  have hw3 := HS3.out.bo.lt
  clear hbn c0 c1 HS3
  generalize (w3.alloc (.cells #[.slice ao N cap] 26)) = W0 at bA hS4 hsz ⊢
  generalize w3.heap.size = Bn at bA hw3 hsz ⊢
  have hlow : N ≠ 0 → ∀ a, ao = some a → a.block < w.heap.size := fun hn a e => by obtain ⟨b, o, e2, hc⟩ := HR.out hn; rw [e] at e2; cases e2; exact World.block_lt_of_cell? w _ (hc 0 (by omega))
  have hH0 : Hld w.heap.size Bn ao N cap f W0 := ⟨bA, HR.out.below hS4.below, hlow⟩
  have hwW := hS4.below.size
  refine range_over (by omega) (gf := 68) (lb := #[.pointer (some ⟨Bn, 0, none⟩)]) rfl (enters_of Try.func68 (by kernel_rfl) rfl) (free_seq 7 (by omega) w.heap.size Bn ao N cap f hN2 hcap W0 hH0 (by omega) _) (by omega) (by intro x; rfl)
    (fun pre V => AbS w V ao N cap x Bo g f ∧ AllLess (unB pre) x)
    (fun c pre V => (∃ (pre0 : List (BT f N)) (b : BT f N), c = .ret ∧ pre = pre0 ++ [b] ∧ AllLess (unB pre0) x ∧ x ≤ b.1.2.1 ∧ AlD w V N g (allocF f b.1.1 b.1.2.1 x) (b.1.1 : Nat) 0))
    (fun s A C row hs hg hr => ⟨abS_own h0 (by omega) s A C row hs.1 hg hr, hs.2⟩)
    (fun c s A C row hs hg hr => by obtain ⟨pre0, b, e1, e2, e3, e4, e5⟩ := hs; exact ⟨pre0, b, e1, e2, e3, e4, alD_own h0 (by omega) s A C row e5 hg hr⟩)
    ⟨hS4, fun b hb => by cases hb⟩
    (fun y a' V => ∃ Bx, Boxed3 V Bx y.1.1 y.1.2.1 y.1.2.2 ∧ g < Bx ∧ a' = { tmps := #[.agg #[.slice ao N cap], .int .i64 x, .pointer (some ⟨w.heap.size, 0, none⟩), .pointer (some ⟨w.heap.size + 1, 0, none⟩), .pointer (some ⟨w.heap.size + 1 + 1, 0, none⟩), .pointer (some ⟨w.heap.size + 1 + 1 + 1, 0, none⟩), .pointer (some ⟨w.heap.size + 1 + 1 + 1 + 1, 0, none⟩), .pointer (some ⟨Bo, 0, none⟩), .pointer (some ⟨Bx, 0, none⟩), .agg #[.slice ao N cap], .agg #[.slice (some ⟨g, 0, none⟩) N N], .agg #[.slice ao N cap], .int .i64 (-1), .bool false, undef, .int .i64 x, .bool (decide ((x : Int) < 1)), .bool (decide ((x : Int) < 1)), .int .i64 x, .bool (decide ((4000 : Int) < x)), .bool (decide ((x : Int) < 1) || decide ((4000 : Int) < x)), undef, .agg #[.slice ao N cap], .func (.func 68) #[] #[.pointer (some ⟨Bn, 0, none⟩)], .agg #[.int .i64 y.1.1, .int .i64 y.1.2.1, .bool y.1.2.2], undef, undef, undef, undef, undef, undef, undef, undef, undef, undef, undef, undef, undef], defers := [] })
    (fun y a' _ A C row hs hg hr => by obtain ⟨Bx, h2, h3⟩ := hs; exact ⟨Bx, boxed3_own Bx _ _ _ () A C row h2 hg (fun r e => (hr r e).2), h3⟩)
    ?assign ?body ?done ?stop
  case assign =>
    rintro l2 pre y V K ⟨hA, hpre⟩ hK
    dsimp only [enB]
    gi_wp2
    have hbn := (Below.refl V.heap.size V).alloc (Nat.le_refl _) (.cells #[.int .i64 y.1.1, .int .i64 y.1.2.1, .bool y.1.2.2] 54)
    exact hK _ _ ((KeepsOthers.alloc _ _).from _) (KB.of_below hbn hA.below.size) ⟨hA.call hbn, hpre⟩ ⟨V.heap.size, Boxed3.new V _ _ _, Nat.lt_trans hA.l2 hA.bo.lt, rfl⟩
  case body =>
    rintro l2 pre y a' V ⟨hA, hpre⟩ ⟨Bx, bX, hgx, rfl⟩ hlt
    obtain ⟨⟨q, m, u⟩, hBk⟩ := y
    dsimp only at *
    have hq4 := hBk.fit
    obtain ⟨q0, q1, q2⟩ := bX.cells
    have c1 := hA.b1.cell
    have co := hA.bo.cell
    have HA : Hid (AbS w V ao N cap x Bo g f) := hA
    have HP : Hid (AllLess (unB pre) x) := hpre
    by_cases hm : x ≤ m
    · have hm' : (x : Int) ≤ m := by omega
      have HG : Hid (CallsIn (Fence.wide.inRound l2) (8 - 1 - 1 - 1) Try.prog 40 #[.slice (some ⟨g, 0, none⟩) N N, .agg #[.int .i64 q, .int .i64 m, .bool u], .int .i64 x] V fun e w' => (∃ v, e = .returned v) ∧ Turn g V w' ∧ Ints w' g 0 N (allocF f q m x)) := CallsIn.inRound l2 (callsIn_wide.2 (give_row g N q m x u f V hA.ints hx hm hq4 hN))
      clear hA hpre bX
      gi_wp2
      refine ⟨trivial, HG.out.mono ?_⟩
      rintro e w5 ⟨⟨v, rfl⟩, ht, hi⟩
      have h5 := HA.out.give ht hi
      have HK5 : Hid (KeepsOthers V w5 ∧ AbS w w5 ao N cap x Bo g (allocF f q m x)) := ⟨keeps_turn ht (HA.out.ints.cell 0 h0), h5⟩
      have d0 := ht.cell (Nat.ne_of_gt hgx) q0
      have do5 := h5.bo.cell
      have d2 := h5.b2.cell
      have f2 := h5.b2.frozen
      have d3 := h5.b3.cell
      have f3 := h5.b3.frozen
      have d4 := h5.b4.cell
      have f4 := h5.b4.frozen
      have n1 : ¬ Bo = w.heap.size + 1 + 1 := by have := h5.l1; have := h5.l2; omega
      have n2 : ¬ Bo = w.heap.size + 1 + 1 + 1 := by have := h5.l1; have := h5.l2; omega
      have n3 : ¬ Bx = w.heap.size + 1 + 1 := by have := h5.l1; omega
      have n4 : ¬ Bx = w.heap.size + 1 + 1 + 1 := by have := h5.l1; omega
      have n5 : ¬ Bx = w.heap.size + 1 + 1 + 1 + 1 := by have := h5.l1; omega
      have n6 : ¬ Bo = w.heap.size + 1 + 1 + 1 + 1 := by have := h5.l1; have := h5.l2; omega
      have hmx : Try.prog.follows .mixedOrders = true := by kernel_rfl
      have hd : 1 ≤ 8 - 1 - 1 := by omega
      clear ht hi h5 q0 q1 q2 c1 co HG
      gi_wp2
      gi_region_with_o (fail)
      all_goals
        gi_wp2
        have h6 := HK5.out.2.call ((Below.refl _ w5).drew)
        obtain ⟨⟨r2, r3, r4⟩, hbl, hin, _⟩ := h6.fin (.slice (some ⟨g, 0, none⟩) N N) (.int .i64 q) (.int .i64 0)
        exact ⟨((((HK5.out.1.trans (KeepsOthers.drew _)).trans (KeepsOthers.setCell _ _ _)).trans (KeepsOthers.setCell _ _ _)).trans (KeepsOthers.setCell _ _ _)).from _, pre, ⟨(q, m, u), hBk⟩, rfl, rfl, HP.out, hm, ⟨r2, r3, r4, hin, hbl, by have := HK5.out.2.l1; omega⟩⟩
    · have hm' : ¬ (x : Int) ≤ m := by omega
      have HP2 : Hid (AllLess (unB (pre ++ [(⟨(q, m, u), hBk⟩ : BT f N)])) x) := fun b hb => by
        rw [unB, List.map_append] at hb
        rcases List.mem_append.1 hb with h | h
        · exact hpre b h
        · rw [List.map_singleton, List.mem_singleton] at h
          subst h
          show m < x
          omega
      clear hA hpre bX
      gi_wp2
      exact ⟨KeepsFrom.refl _ _, KB.refl _ _ _, HA.out, HP2.out⟩
  case done =>
    rintro D xs V hD hS ⟨hA, hpre⟩ hK
    have co := hA.bo.cell
    have c2 := hA.b2.cell
    have f2 := hA.b2.frozen
    have c3 := hA.b3.cell
    have f3 := hA.b3.frozen
    have c4 := hA.b4.cell
    have f4 := hA.b4.frozen
    have HA : Hid (AbS w V ao N cap x Bo g f ∧ AllLess (unB xs) x ∧ unB xs = fk f N) := ⟨hA, hpre, hS⟩
    clear hA hpre hS
    gi_wp2
    obtain ⟨hA, hpre, hS⟩ := HA.out
    obtain ⟨⟨r2, r3, r4⟩, hbl, hin, hgl⟩ := hA.fin (.slice (some ⟨g, 0, none⟩) N N) (.int .i64 0) (.int .i64 1)
    have hK5 := (((KeepsOthers.setCell V ⟨w.heap.size + 1 + 1, 0, none⟩ (.slice (some ⟨g, 0, none⟩) N N)).trans (KeepsOthers.setCell _ ⟨w.heap.size + 1 + 1 + 1, 0, none⟩ (.int .i64 0))).trans (KeepsOthers.setCell _ ⟨w.heap.size + 1 + 1 + 1 + 1, 0, none⟩ (.int .i64 1))).same D _ hK rfl
    have hAD : AlD w (((V.setCell ⟨w.heap.size + 1 + 1, 0, none⟩ (.slice (some ⟨g, 0, none⟩) N N)).setCell ⟨w.heap.size + 1 + 1 + 1, 0, none⟩ (.int .i64 0)).setCell ⟨w.heap.size + 1 + 1 + 1 + 1, 0, none⟩ (.int .i64 1)) N g f 0 1 := ⟨r2, r3, r4, hin, hbl, by have := hA.l1; omega⟩
    clear r2 r3 r4 hbl hin hgl
    generalize (((V.setCell ⟨w.heap.size + 1 + 1, 0, none⟩ (.slice (some ⟨g, 0, none⟩) N N)).setCell ⟨w.heap.size + 1 + 1 + 1, 0, none⟩ (.int .i64 0)).setCell ⟨w.heap.size + 1 + 1 + 1 + 1, 0, none⟩ (.int .i64 1)) = V5 at hK5 hAD ⊢
    have hP := hAD.put h0 (by omega) hK5
    obtain ⟨s2, s3, s4, s5, s6, s7⟩ := hP
    refine ⟨by simp, .inl ⟨_, _, rfl, run_takeDeferred hK5, ?_⟩⟩
    refine ⟨.tuple #[.agg #[.slice (some ⟨g, 0, none⟩) N N], .int .i64 0, .int .i64 1], ?_, g, f, 0, 1, rfl, s7, s5.lt h0, s5, .inr (.inr (.inl ⟨rfl, HW.out, ⟨by omega, by omega⟩, fun b hb hf => ?_, rfl, rfl⟩)), s6⟩
    · simp [results, Try.results11, go_sem, s2, s3, s4]
    · have := hpre b (by rw [hS]; exact List.mem_filter.2 ⟨hb, by simp [isFree, hf]⟩)
      omega
  case stop =>
    rintro D c pre V hD ⟨rest, hS⟩ ⟨pre0, b, rfl, rfl, h1, h2, hAD⟩ hK
    have HX : Hid (AllLess (unB pre0) x ∧ x ≤ b.1.2.1 ∧ AlD w V N g (allocF f b.1.1 b.1.2.1 x) (b.1.1 : Nat) 0 ∧ unB (pre0 ++ [b]) ++ rest = fk f N) := ⟨h1, h2, hAD, hS⟩
    clear h1 h2 hAD hS
    gi_wp2
    obtain ⟨h1, h2, hAD, hS⟩ := HX.out
    have hP := hAD.put h0 (by omega) hK
    obtain ⟨s2, s3, s4, s5, s6, s7⟩ := hP
    refine ⟨by simp, .inl ⟨_, _, rfl, run_takeDeferred hK, ?_⟩⟩
    have e : (bk f N 0).filter isFree = unB pre0 ++ b.1 :: rest := by
      rw [unB, List.map_append, List.append_assoc] at hS
      exact hS.symm
    obtain ⟨A, B, k1, k2, k3⟩ := filt_split e
    obtain ⟨⟨q, m, u⟩, hBk⟩ := b
    dsimp only at *
    have hu : u = false := by simpa [isFree] using k3
    subst hu
    refine ⟨.tuple #[.agg #[.slice (some ⟨g, 0, none⟩) N N], .int .i64 q, .int .i64 0], ?_, g, allocF f q m x, q, 0, rfl, s7, s5.lt h0, s5, .inr (.inr (.inr ⟨rfl, HW.out, q, x, A, m, B, rfl, rfl, hx, hx2, ⟨k1, fun c hc hf => ?_, h2, rfl⟩⟩)), s6⟩
    · simp [results, Try.results11, go_sem, s2, s3, s4]
    · exact h1 c (by rw [← k2]; exact List.mem_filter.2 ⟨hc, by simp [isFree, hf]⟩)
end Go.Proofs.Ytmongbpdbcbhlaa
