/-
  What the program's usedAt answers.
-/
import Derived.Test.YtmongbpdbcbhlaaItC
import Derived.Test.YtmongbpdbcbhlaaExB
namespace Go.Proofs.Ytmongbpdbcbhlaa
open Go.RowKit Go.Shelf
set_option linter.unusedVariables false
attribute [local go_sem] Oper.semAt_some

def noBlk : Value := .agg #[.int .i64 0, .int .i64 0, .bool false]

theorem end_ex (p n : Nat) (u : Bool) (hp : p ≤ 4000) (hn : n ≤ 4000) (w : World) :
    Calls Try.prog 32 #[.agg #[.int .i64 p, .int .i64 n, .bool u]] w fun e w' => e = .returned (.int .i64 ((p : Int) + n + 3)) ∧ w' = w.alloc (.cells #[.int .i64 p, .int .i64 n, .bool u] 54) := by
  go_enter Try.func32, Try.ntmps32
  go_wp2_with fail
  go_ret
  exact ⟨rfl, rfl⟩
theorem end_bb (p n : Nat) (u : Bool) (hp : p ≤ 4000) (hn : n ≤ 4000) (w : World) :
    Calls Try.prog 32 #[.agg #[.int .i64 p, .int .i64 n, .bool u]] w fun e w' => e = .returned (.int .i64 ((p : Int) + n + 3)) ∧ Below w.heap.size w w' := by
  refine (end_ex p n u hp hn w).mono ?_
  rintro e w' ⟨rfl, rfl⟩
  exact ⟨rfl, (Below.refl _ _).alloc (Nat.le_refl _) _⟩
/-- The result's box, nothing in it yet. -/
def Zer3 (W : World) (X : Nat) : Prop := W.heap[X]? = some (.cells #[.int .i64 0, .int .i64 0, .bool false] 54 (0, 0))
theorem Zer3.cells {W : World} {X : Nat} (h : Zer3 W X) : W.cell? ⟨X, 0, none⟩ = some (.int .i64 0) ∧ W.cell? ⟨X, 1, none⟩ = some (.int .i64 0) ∧ W.cell? ⟨X, 2, none⟩ = some (.bool false) ∧ (∀ o, W.frozen? ⟨X, o, none⟩ = false) := by
  have h : W.heap[X]? = _ := h
  refine ⟨?_, ?_, ?_, fun o => ?_⟩ <;> simp [World.cell?, World.frozen?, h]
theorem zer3_own {β : Type} (X : Nat) : Own (fun (_ : β) W => Zer3 W X) := fun s A C row hs hg hrow => by
  have h : A.heap[X]? = _ := hs
  refine (hg.block X (Array.getElem?_eq_some_iff.1 h).1 (fun e => ?_)).trans h
  obtain ⟨o, ho, hc⟩ := hrow X e.symm
  rw [h] at ho
  cases ho
  cases hc
theorem Zer3.below {W W' : World} {X : Nat} (h : Zer3 W X) (hb : Below W.heap.size W W') : Zer3 W' X := (hb.block X (Array.getElem?_eq_some_iff.1 (show W.heap[X]? = _ from h)).1).trans h
theorem four_sets (V : World) (X Y : Nat) (hne : X ≠ Y) (a b c d : Value) {a0 b0 c0 d0 : Value} (h0 : V.cell? ⟨X, 0, none⟩ = some a0) (h1 : V.cell? ⟨X, 1, none⟩ = some b0) (h2 : V.cell? ⟨X, 2, none⟩ = some c0) (h3 : V.cell? ⟨Y, 0, none⟩ = some d0) :
    ((((V.setCell ⟨X, 0, none⟩ a).setCell ⟨X, 1, none⟩ b).setCell ⟨X, 2, none⟩ c).setCell ⟨Y, 0, none⟩ d).cell? ⟨X, 0, none⟩ = some a ∧ ((((V.setCell ⟨X, 0, none⟩ a).setCell ⟨X, 1, none⟩ b).setCell ⟨X, 2, none⟩ c).setCell ⟨Y, 0, none⟩ d).cell? ⟨X, 1, none⟩ = some b ∧
      ((((V.setCell ⟨X, 0, none⟩ a).setCell ⟨X, 1, none⟩ b).setCell ⟨X, 2, none⟩ c).setCell ⟨Y, 0, none⟩ d).cell? ⟨X, 2, none⟩ = some c ∧ ((((V.setCell ⟨X, 0, none⟩ a).setCell ⟨X, 1, none⟩ b).setCell ⟨X, 2, none⟩ c).setCell ⟨Y, 0, none⟩ d).cell? ⟨Y, 0, none⟩ = some d := by
  have o : ∀ {W : World} {k l : Nat} {v u : Value}, k ≠ l → W.cell? ⟨X, k, none⟩ = some v → (W.setCell ⟨X, l, none⟩ u).cell? ⟨X, k, none⟩ = some v := fun hkl hc => by
    rw [World.cell?_setCell_other (h := fun q => by simp at q; try omega)]; exact hc
  have y : ∀ {W : World} {k l : Nat} {v u : Value} {P Q : Nat}, P ≠ Q → W.cell? ⟨P, k, none⟩ = some v → (W.setCell ⟨Q, l, none⟩ u).cell? ⟨P, k, none⟩ = some v := fun hpq hc => by
    rw [World.cell?_setCell_other (h := fun q => by simp at q; try omega)]; exact hc
  refine ⟨y hne (o (by decide) (o (by decide) (World.cell?_setCell_same V _ _ h0))), y hne (o (by decide) (World.cell?_setCell_same _ _ _ (o (by decide) h1))), y hne (World.cell?_setCell_same _ _ _ (o (by decide) (o (by decide) h2))), World.cell?_setCell_same _ _ _ (y hne.symm (y hne.symm (y hne.symm h3)))⟩
theorem KeepsOthers.of_below' {W W' : World} (h : Below W.heap.size W W') : KeepsOthers W W' := ⟨h.size, fun k o hk _ => (h.block k (Array.getElem?_eq_some_iff.1 hk).1).trans hk⟩
/-- What usedAt has in hand. -/
structure UaS (w wx : World) (p : Nat) : Prop where
  below : Below w.heap.size w wx
  b1 : Boxed wx (w.heap.size + 1) 3 (.int .i64 p)
  b2 : Zer3 wx (w.heap.size + 1 + 1)
  b3 : Boxed wx (w.heap.size + 1 + 1 + 1) 4 (.bool false)
theorem boxed_below' {W W' : World} {B : Nat} {t : TypeId} {v : Value} (h : Boxed W B t v) (hb : Below W.heap.size W W') : Boxed W' B t v := (hb.block B h.lt).trans h
theorem UaS.call {w wx wy : World} {p : Nat} (s : UaS w wx p) (hb : Below wx.heap.size wx wy) : UaS w wy p := ⟨below_join s.below hb, boxed_below' s.b1 hb, s.b2.below hb, boxed_below' s.b3 hb⟩
theorem UaS.start (w : World) (ao : Option Addr) (N cap p : Nat) : UaS w ((((w.alloc (.cells #[.slice ao N cap] 26)).alloc (.cells #[.int .i64 p] 3)).alloc (.cells #[.int .i64 0, .int .i64 0, .bool false] 54)).alloc (.cells #[.bool false] 4)) p := by
  have q1 := ((Boxed.new (w.alloc (.cells #[.slice ao N cap] 26)) 3 (.int .i64 p)).alloc (.cells #[.int .i64 0, .int .i64 0, .bool false] 54)).alloc (.cells #[.bool false] 4)
  have q2 : Zer3 (((w.alloc (.cells #[.slice ao N cap] 26)).alloc (.cells #[.int .i64 p] 3)).alloc (.cells #[.int .i64 0, .int .i64 0, .bool false] 54)) ((w.alloc (.cells #[.slice ao N cap] 26)).alloc (.cells #[.int .i64 p] 3)).heap.size := World.alloc_heap_new _ _
  have q3 := Boxed.new (((w.alloc (.cells #[.slice ao N cap] 26)).alloc (.cells #[.int .i64 p] 3)).alloc (.cells #[.int .i64 0, .int .i64 0, .bool false] 54)) 4 (.bool false)
  have q2' := q2.below ((Below.refl _ _).alloc (Nat.le_refl _) (.cells #[.bool false] 4))
  simp only [World.size_alloc] at q1 q2' q3
  exact ⟨((((Below.refl _ w).alloc (Nat.le_refl _) _).alloc (by simp) _).alloc (by simp; omega) _).alloc (by simp; omega) _, q1, q2', q3⟩

set_option maxRecDepth 100000 in
set_option maxHeartbeats 4000000 in
theorem used_yes (ao : Option Addr) (N cap : Nat) (f : Nat → Int) (p n : Nat) (w : World) (hr : Rd w ao N f) (hN : N ≤ 1048576) (hcap : N ≤ cap) (hB : blkO f N p = some (n, true)) (hno : ∀ b ∈ bk f N 0, ¬ (b.1 < p ∧ p < b.1 + b.2.1 + 3)) :
    Calls Try.prog 29 #[.agg #[.slice ao N cap], .int .i64 p] w fun e w' => e = .returned (.tuple #[.agg #[.int .i64 p, .int .i64 n, .bool true], .bool true]) ∧ Below w.heap.size w w' := by
  have HR : Hid (Rd w ao N f) := hr
  have HB : Hid (blkO f N p = some (n, true)) := hB
  have hp4 := (blkO_of hB).hp
  clear hr hB
  refine (callsIn_wide (n := 8)).1 ?_
  refine callsIn_of_wp_marks Try.func29 rfl trivial ?_ rfl
  simp only [Try.ntmps29, List.size_toArray, List.length_cons, List.length_nil, Nat.reduceAdd, Nat.reduceSub, Array.replicate_succ, Array.replicate_zero, List.push_toArray, List.append_toArray, List.nil_append, List.cons_append]
  have HS0 : Hid (UaS w ((((w.alloc (.cells #[.slice ao N cap] 26)).alloc (.cells #[.int .i64 p] 3)).alloc (.cells #[.int .i64 0, .int .i64 0, .bool false] 54)).alloc (.cells #[.bool false] 4)) p) := UaS.start w ao N cap p
  have HB0 : Hid (Boxed ((((w.alloc (.cells #[.slice ao N cap] 26)).alloc (.cells #[.int .i64 p] 3)).alloc (.cells #[.int .i64 0, .int .i64 0, .bool false] 54)).alloc (.cells #[.bool false] 4)) w.heap.size 26 (.slice ao N cap)) := (((Boxed.new w 26 (.slice ao N cap)).alloc (.cells #[.int .i64 p] 3)).alloc (.cells #[.int .i64 0, .int .i64 0, .bool false] 54)).alloc (.cells #[.bool false] 4)
  gi_wp2
  have hs := HS0.out
  have hb0 := HB0.out
  clear HS0 HB0
  generalize ((((w.alloc (.cells #[.slice ao N cap] 26)).alloc (.cells #[.int .i64 p] 3)).alloc (.cells #[.int .i64 0, .int .i64 0, .bool false] 54)).alloc (.cells #[.bool false] 4)) = w0 at hs hb0 ⊢
  refine ⟨trivial, (callsIn_wide.2 (implAt_any ao N cap f p w0 (HR.out.below hs.below) hN hcap)).mono ?_⟩
  rintro e w1 ⟨rfl, hb1⟩
  rw [HB.out]
  dsimp only [bv]
  have HS1 : Hid (UaS w w1 p) := hs.call hb1
  have c0 := (boxed_below' hb0 hb1).cell
  clear hs hb0 hb1
  gi_wp2_with (refine ⟨trivial, ?_⟩; gi_at_call 41; refine (each_in _ ao N cap _).mono ?_; rintro e w' ⟨rfl, rfl⟩)
  have hbn := (Below.refl w1.heap.size w1).alloc (Nat.le_refl _) (.cells #[.slice ao N cap] 26)
  have bA := Boxed.new w1 26 (.slice ao N cap)
  have hS2 := HS1.out.call hbn
  have hw1 := (Array.getElem?_eq_some_iff.1 (show w1.heap[w.heap.size + 1 + 1 + 1]? = _ from HS1.out.b3)).1
  have hsz : (w1.alloc (.cells #[.slice ao N cap] 26)).heap.size = w1.heap.size + 1 := World.size_alloc _ _
  clear hbn c0 HS1
  generalize (w1.alloc (.cells #[.slice ao N cap] 26)) = W0 at bA hS2 hsz ⊢
  generalize w1.heap.size = Bn at bA hw1 hsz ⊢
  have hlow : N ≠ 0 → ∀ a, ao = some a → a.block < w.heap.size := fun hn a e => by obtain ⟨b, o, e2, hc⟩ := HR.out hn; rw [e] at e2; cases e2; exact World.block_lt_of_cell? w _ (hc 0 (by omega))
  have hH0 : Hld w.heap.size Bn ao N cap f W0 := ⟨bA, HR.out.below hS2.below, hlow⟩
  refine range_over (by omega) (gf := 70) (lb := #[.pointer (some ⟨Bn, 0, none⟩)]) rfl (enters_of Try.func70 (by kernel_rfl) rfl) (SeqO.of (each_stops 7 (by omega) w.heap.size (W0.heap.size + 2) Bn ao N cap f hN hcap W0 hH0)) (by omega) (by intro x; rfl)
    (fun pre V => ((Boxed V (w.heap.size + 1) 3 (.int .i64 p) ∧ Zer3 V (w.heap.size + 1 + 1)) ∧ Boxed V (w.heap.size + 1 + 1 + 1) 4 (.bool false)) ∧ Below w.heap.size w V)
    (fun c pre V => c = .ret ∧ ∃ b ∈ unB pre, b.1 < p ∧ p < b.1 + b.2.1 + 3)
    (OwnFrom.and (OwnFrom.and (OwnFrom.and (Own.from (boxed_own _ _ _) _) (Own.from (zer3_own _) _)) (Own.from (boxed_own _ _ _) _)) (ownFrom_below (Nat.le_refl _) (by omega)))
    (fun _ _ _ _ _ hs _ _ => hs)
    ⟨⟨⟨hS2.b1, hS2.b2⟩, hS2.b3⟩, hS2.below⟩
    (fun x a' V => ∃ Bx, Boxed3 V Bx x.1.1 x.1.2.1 x.1.2.2 ∧ a' = { tmps := #[.agg #[.slice ao N cap], .int .i64 p, .pointer (some ⟨w.heap.size, 0, none⟩), .pointer (some ⟨w.heap.size + 1, 0, none⟩), .pointer (some ⟨w.heap.size + 1 + 1, 0, none⟩), .pointer (some ⟨w.heap.size + 1 + 1 + 1, 0, none⟩), .int .i64 n, .bool true, .bool true, .pointer (some ⟨Bx, 0, none⟩), .tuple #[.int .i64 n, .bool true, .bool true], .agg #[.slice ao N cap], .int .i64 p, .tuple #[.int .i64 n, .bool true, .bool true], .int .i64 n, .bool true, .bool true, .bool true, .bool false, .bool false, .bool true, .bool false, .bool false, undef, .agg #[.slice ao N cap], .func (.func 70) #[] #[.pointer (some ⟨Bn, 0, none⟩)], .agg #[.int .i64 x.1.1, .int .i64 x.1.2.1, .bool x.1.2.2], undef, undef, undef, undef, undef, undef, undef, undef, undef, undef, undef, undef, undef, undef, undef], defers := [] })
    (fun x a' _ A C row hs hg hr => by obtain ⟨Bx, h2, h3⟩ := hs; exact ⟨Bx, boxed3_own Bx _ _ _ () A C row h2 hg (fun r e => (hr r e).2), h3⟩)
    ?assign ?body ?done ?stop
  case assign =>
    rintro l2 pre x V K ⟨⟨⟨k1, k2⟩, k3⟩, hB⟩ hK
    dsimp only [enB]
    gi_wp2
    have hbn := (Below.refl V.heap.size V).alloc (Nat.le_refl _) (.cells #[.int .i64 x.1.1, .int .i64 x.1.2.1, .bool x.1.2.2] 54)
    exact hK _ _ ((KeepsOthers.alloc _ _).from _) (KB.of_below hbn hB.size) ⟨⟨⟨k1.alloc _, k2.below hbn⟩, k3.alloc _⟩, hB.alloc hB.size _⟩ ⟨V.heap.size, Boxed3.new V _ _ _, rfl⟩
  case body =>
    rintro l2 pre x a' V ⟨⟨⟨k1, k2⟩, k3⟩, hB⟩ ⟨Bx, bX, rfl⟩ hlt
    obtain ⟨⟨q, m, u⟩, hBk⟩ := x
    dsimp only at *
    have hq4 := hBk.hp
    have hm4 := hBk.hn
    obtain ⟨q0, q1, q2⟩ := bX.cells
    have c1 := k1.cell
    have hmx : Try.prog.follows .mixedOrders = true := by kernel_rfl
    have hd : 1 ≤ 8 - 1 - 1 := by omega
    have n1 : ¬ w.heap.size + 1 = V.heap.size := by have := k1.lt; omega
    have n2 : ¬ w.heap.size + 1 + 1 = V.heap.size := by have := k3.lt; omega
    have n3 : ¬ w.heap.size + 1 + 1 + 1 = V.heap.size := by have := k3.lt; omega
    have n4 : ¬ Bx = V.heap.size := by have h : Bx < V.heap.size := World.block_lt_of_cell? V _ q0; omega
    have KE : Hid (∀ w', Below V.drew.heap.size V.drew w' → w'.cell? ⟨w.heap.size + 1, 0, none⟩ = some (.int .i64 p) ∧ Below V.heap.size V w' ∧ Zer3 w' (w.heap.size + 1 + 1) ∧ Boxed w' (w.heap.size + 1 + 1 + 1) 4 (.bool false)) := fun w' h => by
      have hb := below_undrew h
      exact ⟨(boxed_below' k1 hb).cell, hb, k2.below hb, boxed_below' k3 hb⟩
    have hfn : Fence.wide.fn 32 := trivial
    by_cases g1 : q < p
    · have g1' : (q : Int) < p := by omega
      by_cases g2 : p < q + m + 3
      · have g2' : (p : Int) < (q : Int) + m + 3 := by omega
        have HIX : Hid (∃ b ∈ unB (pre ++ [(⟨(q, m, u), hBk⟩ : BT f N)]), b.1 < p ∧ p < b.1 + b.2.1 + 3) := ⟨(q, m, u), by rw [unB, List.map_append]; exact List.mem_append_right _ List.mem_cons_self, g1, g2⟩
        obtain ⟨z0, z1, z2, zf⟩ := k2.cells
        have c3 := k3.cell
        have f3 := k3.frozen
        gi_wp2
        gi_region_with_o (gi_at_call 32; refine (CallsIn.inRound l2 (callsIn_wide.2 (end_bb q m u hq4 hm4 _))).mono ?_; rintro e w' ⟨rfl, hb'⟩; obtain ⟨d5, e5, e6, e7⟩ := KE.out w' hb'; have HE5 : Hid (Below V.heap.size V w' ∧ Zer3 w' (w.heap.size + 1 + 1) ∧ Boxed w' (w.heap.size + 1 + 1 + 1) 4 (.bool false)) := ⟨e5, e6, e7⟩; clear hb' e5 e6 e7)
        all_goals
          obtain ⟨h5, h6, h7⟩ := HE5.out
          obtain ⟨y0, y1, y2, yf⟩ := h6.cells
          have y3 := h7.cell
          have yf3 := h7.frozen
          have hs5 := h5.size
          gi_wp2
          exact ⟨((((KeepsOthers.of_below' h5).trans (KeepsOthers.setCell _ _ _)).trans (KeepsOthers.setCell _ _ _)).trans (KeepsOthers.setCell _ _ _)).trans (KeepsOthers.setCell _ _ _) |>.from _, rfl, HIX.out⟩
      · have g2' : ¬ (p : Int) < (q : Int) + m + 3 := by omega
        gi_wp2
        gi_region_with_o (gi_at_call 32; refine (CallsIn.inRound l2 (callsIn_wide.2 (end_bb q m u hq4 hm4 _))).mono ?_; rintro e w' ⟨rfl, hb'⟩; obtain ⟨d5, e5, e6, e7⟩ := KE.out w' hb'; have HE5 : Hid (Below V.heap.size V w' ∧ Zer3 w' (w.heap.size + 1 + 1) ∧ Boxed w' (w.heap.size + 1 + 1 + 1) 4 (.bool false)) := ⟨e5, e6, e7⟩; clear hb' e5 e6 e7)
        all_goals
          gi_wp2
          exact ⟨(KeepsOthers.of_below' HE5.out.1).from _, KB.of_below HE5.out.1 hB.size, ⟨⟨boxed_below' k1 HE5.out.1, HE5.out.2.1⟩, HE5.out.2.2⟩, below_join hB HE5.out.1⟩
    · have g1' : ¬ (q : Int) < p := by omega
      gi_wp2
      gi_region_with_o (gi_at_call 32; refine (CallsIn.inRound l2 (callsIn_wide.2 (end_ex q m u hq4 hm4 _))).mono ?_; rintro e w' ⟨rfl, rfl⟩)
      all_goals gi_wp2
      all_goals exact ⟨(KeepsOthers.drew _).from _, KB.of_below ((Below.refl _ V).drew) hB.size, ⟨⟨k1, k2⟩, k3⟩, hB.drew⟩
  case done =>
    rintro D xs V hD hS ⟨⟨⟨k1, k2⟩, k3⟩, hB⟩ hK
    obtain ⟨z0, z1, z2, zf⟩ := k2.cells
    have c1 := k1.cell
    have c3 := k3.cell
    have f3 := k3.frozen
    gi_wp2
    have hK5 := ((((KeepsOthers.setCell V ⟨w.heap.size + 1 + 1, 0, none⟩ (.int .i64 p)).trans (KeepsOthers.setCell _ ⟨w.heap.size + 1 + 1, 1, none⟩ (.int .i64 n))).trans (KeepsOthers.setCell _ ⟨w.heap.size + 1 + 1, 2, none⟩ (.bool true))).trans (KeepsOthers.setCell _ ⟨w.heap.size + 1 + 1 + 1, 0, none⟩ (.bool true))).same D _ hK rfl
    have hB5 := (((hB.setCell (p := ⟨w.heap.size + 1 + 1, 0, none⟩) (by show _ ≤ w.heap.size + 1 + 1; omega) (.int .i64 p)).setCell (p := ⟨w.heap.size + 1 + 1, 1, none⟩) (by show _ ≤ w.heap.size + 1 + 1; omega) (.int .i64 n)).setCell (p := ⟨w.heap.size + 1 + 1, 2, none⟩) (by show _ ≤ w.heap.size + 1 + 1; omega) (.bool true)).setCell (p := ⟨w.heap.size + 1 + 1 + 1, 0, none⟩) (by show _ ≤ w.heap.size + 1 + 1 + 1; omega) (.bool true)
    have r := four_sets V (w.heap.size + 1 + 1) (w.heap.size + 1 + 1 + 1) (by omega) (.int .i64 p) (.int .i64 n) (.bool true) (.bool true) z0 z1 z2 c3
    generalize ((((V.setCell ⟨w.heap.size + 1 + 1, 0, none⟩ (.int .i64 p)).setCell ⟨w.heap.size + 1 + 1, 1, none⟩ (.int .i64 n)).setCell ⟨w.heap.size + 1 + 1, 2, none⟩ (.bool true)).setCell ⟨w.heap.size + 1 + 1 + 1, 0, none⟩ (.bool true)) = V5 at hK5 hB5 r ⊢
    refine ⟨by simp, .inl ⟨_, _, rfl, run_takeDeferred hK5, ?_⟩⟩
    have kp : ∀ {b o : Nat} {v : Value}, V5.cell? ⟨b, o, none⟩ = some v → (V5.putObj D (.deferred none)).cell? ⟨b, o, none⟩ = some v := fun h => cell_kept h (grownBy_putObj' _ D (.deferred none)) (fun r e => by cases e; exact ⟨_, hK5, rfl⟩)
    obtain ⟨r0, r1, r2, r3⟩ := r
    have s0 := kp r0
    have s1 := kp r1
    have s2 := kp r2
    have s3 := kp r3
    refine ⟨.tuple #[.agg #[.int .i64 p, .int .i64 n, .bool true], .bool true], ?_, rfl, hB5.trans (belowK_b (w := w) (Nat.le_refl _) V5 D _ _ (by omega) hK5 rfl rfl)⟩
    simp [results, Try.results29, go_sem, s0, s1, s2, s3]
  case stop =>
    rintro D c pre V hD ⟨rest, hS⟩ ⟨rfl, b, hb, hb2⟩ hK
    exact absurd hb2 (hno b (by rw [← hS]; exact List.mem_append_left _ hb))
end Go.Proofs.Ytmongbpdbcbhlaa
