/-
  What the program's FreeWords answers.
  An arena in a box, behind calls that make new memory alone.
-/
import Derived.Test.YtmongbpdbcbhlaaItC
import Derived.Test.YtmongbpdbcbhlaaAlZ
import Derived.Test.YtmongbpdbcbhlaaUkA
namespace Go.Proofs.Ytmongbpdbcbhlaa
open Go.RowKit Go.Shelf
set_option linter.unusedVariables false
attribute [local go_sem] Oper.semAt_some

theorem fsum_snoc {f : Nat → Int} {N : Nat} (pre : List (BT f N)) (x : BT f N) : fsum (unB (pre ++ [x])) = fsum (unB pre) + x.1.2.1 := by simp [fsum, unB]
theorem fsum_le {f : Nat → Int} {N : Nat} : ∀ (pre : List (BT f N)), fsum (unB pre) ≤ pre.length * 4000
  | [] => by simp [fsum, unB]
  | x :: pre => by
    have h := fsum_le pre
    have := x.2.hn
    simp only [fsum, unB, List.map_cons, List.sum_cons, List.length_cons] at h ⊢
    omega

set_option maxRecDepth 100000 in
set_option maxHeartbeats 4000000 in
theorem implFree_any (ao : Option Addr) (N cap : Nat) (f : Nat → Int) (w : World) (hr : Rd w ao N f) (hN : N ≤ 1048576) (hcap : N ≤ cap) :
    Calls Try.prog 16 #[.agg #[.slice ao N cap]] w fun e w' => e = .returned (.int .i64 (fsum (fk f N) : Nat)) ∧ Below w.heap.size w w' := by
  refine (callsIn_wide (n := 8)).1 ?_
  refine callsIn_of_wp_marks Try.func16 rfl trivial ?_ rfl
  simp only [Try.ntmps16, List.size_toArray, List.length_cons, List.length_nil, Nat.reduceAdd, Nat.reduceSub, Array.replicate_succ, Array.replicate_zero, List.push_toArray, List.append_toArray, List.nil_append, List.cons_append]
  gi_wp2_with (refine ⟨trivial, ?_⟩; gi_at_call 39; refine (free_in _ ao N cap _).mono ?_; rintro e w' ⟨rfl, rfl⟩)
  have hb0 : Below w.heap.size w (((w.alloc (.cells #[.slice ao N cap] 26)).alloc (.cells #[.int .i64 0] 3)).alloc (.cells #[.slice ao N cap] 26)) := (((Below.refl _ w).alloc (Nat.le_refl _) _).alloc (by simp) _).alloc (by simp; omega) _
  have bS := (Boxed.new (w.alloc (.cells #[.slice ao N cap] 26)) 3 (.int .i64 0)).alloc (.cells #[.slice ao N cap] 26)
  have bA := Boxed.new ((w.alloc (.cells #[.slice ao N cap] 26)).alloc (.cells #[.int .i64 0] 3)) 26 (.slice ao N cap)
  have hsz : (((w.alloc (.cells #[.slice ao N cap] 26)).alloc (.cells #[.int .i64 0] 3)).alloc (.cells #[.slice ao N cap] 26)).heap.size = w.heap.size + 3 := by simp
  simp only [World.size_alloc] at bA bS
  generalize (((w.alloc (.cells #[.slice ao N cap] 26)).alloc (.cells #[.int .i64 0] 3)).alloc (.cells #[.slice ao N cap] 26)) = W0 at hb0 bS bA hsz ⊢
  have hH0 : Hld w.heap.size (w.heap.size + 1 + 1) ao N cap f W0 := ⟨bA, hr.below hb0, fun hn a e => by obtain ⟨b, o, e2, hc⟩ := hr hn; rw [e] at e2; cases e2; exact World.block_lt_of_cell? w _ (hc 0 (by omega))⟩
  refine range_over (by omega) (gf := 68) (lb := #[.pointer (some ⟨w.heap.size + 1 + 1, 0, none⟩)]) rfl (enters_of Try.func68 (by kernel_rfl) rfl) (free_seq 7 (by omega) w.heap.size (w.heap.size + 1 + 1) ao N cap f hN hcap W0 hH0 (by omega) _) (by omega) (by intro x; rfl)
    (fun pre V => Boxed V (w.heap.size + 1) 3 (.int .i64 (fsum (unB pre) : Nat)) ∧ Below w.heap.size w V)
    (fun _ _ _ => False)
    (OwnFrom.and (Own.from (boxed_own _ _ _) _) (ownFrom_below (Nat.le_refl _) (by omega)))
    (fun _ _ _ _ _ hs _ _ => hs)
    ⟨bS, hb0⟩
    (fun x a' V => ∃ Bx, Boxed3 V Bx x.1.1 x.1.2.1 x.1.2.2 ∧ a' = { tmps := #[.agg #[.slice ao N cap], .pointer (some ⟨w.heap.size, 0, none⟩), .int .i64 0, .pointer (some ⟨w.heap.size + 1, 0, none⟩), .pointer (some ⟨Bx, 0, none⟩), .agg #[.slice ao N cap], .func (.func 68) #[] #[.pointer (some ⟨w.heap.size + 1 + 1, 0, none⟩)], .agg #[.int .i64 x.1.1, .int .i64 x.1.2.1, .bool x.1.2.2], undef, undef, undef, undef, undef], defers := [] })
    (fun x a' _ A C row hs hg hr => by obtain ⟨Bx, h2, h3⟩ := hs; exact ⟨Bx, boxed3_own Bx _ _ _ () A C row h2 hg (fun r e => (hr r e).2), h3⟩)
    ?assign ?body ?done ?stop
  case assign =>
    rintro l2 pre x V K ⟨hb, hB⟩ hK
    dsimp only [enB]
    gi_wp2
    exact hK _ _ ((KeepsOthers.alloc _ _).from _) (KB.of_below ((Below.refl _ V).alloc (Nat.le_refl _) _) hB.size) ⟨hb.alloc _, hB.alloc hB.size _⟩ ⟨V.heap.size, Boxed3.new V _ _ _, rfl⟩
  case body =>
    rintro l2 pre x a' V ⟨hb, hB⟩ ⟨Bx, bX, rfl⟩ hlt
    obtain ⟨q0, q1, q2⟩ := bX.cells
    have cS := hb.cell
    have fS := hb.frozen
    have h1 := fsum_le pre
    have h2 := x.2.hn
    have hsn := fsum_snoc pre x
    have hk := KB.set (n₀ := w.heap.size) (S := W0.heap.size + 2) hb (by omega) (by decide) (by decide) (by decide) (.int .i64 ((fsum (unB pre) : Nat) + (x.1.2.1 : Nat)))
    have hbs := hb.set (.int .i64 ((fsum (unB pre) : Nat) + (x.1.2.1 : Nat)))
    rw [show ((fsum (unB pre) : Nat) : Int) + (x.1.2.1 : Nat) = (fsum (unB (pre ++ [x])) : Nat) by rw [hsn]; omega] at hbs hk
    generalize hS' : fsum (unB pre) = s at *
    generalize hT' : fsum (unB (pre ++ [x])) = t at *
    obtain ⟨⟨p, m, u⟩, hBk⟩ := x
    dsimp only at *
    have W1 : IntKind.i64.wrap (((s : Nat) : Int) + (m : Nat)) = ((t : Nat) : Int) := by rw [IntKind.wrap_i64]; omega
    have HK : Hid (KB w.heap.size (W0.heap.size + 2) V (V.setCell ⟨w.heap.size + 1, 0, none⟩ (.int .i64 (t : Nat)))) := hk
    have HBS : Hid (Boxed (V.setCell ⟨w.heap.size + 1, 0, none⟩ (.int .i64 (t : Nat))) (w.heap.size + 1) 3 (.int .i64 (t : Nat))) := hbs
    have HT : Hid (fsum (unB (pre ++ [(⟨(p, m, u), hBk⟩ : BT f N)])) = t) := hT'
    have HB : Hid (Below w.heap.size w V) := hB
    clear hk hbs hT' hS' hsn h1 h2 hB bX hb hr hH0 hb0 bS bA
    gi_wp2
    refine ⟨(KeepsOthers.setCell _ _ _).from _, HK.out, ?_, HB.out.setCell (p := ⟨w.heap.size + 1, 0, none⟩) (by simp) _⟩
    rw [HT.out]
    exact HBS.out
  case done =>
    rintro D xs V hD hS ⟨hb, hB⟩ hK
    rw [hS] at hb
    have cS := hb.cell
    gi_wp2
    refine ⟨by simp, .inl ⟨_, _, rfl, run_takeDeferred hK, ?_⟩⟩
    exact ⟨_, results_tmp rfl _ _ _, rfl, hB.trans (belowK_b (w := w) (Nat.le_refl _) V D _ _ (by omega) hK rfl rfl)⟩
  case stop =>
    rintro D c pre V _ _ h _
    exact h.elim
end Go.Proofs.Ytmongbpdbcbhlaa

namespace Go.Proofs.Ytmongbpdbcbhlaa
open Go.RowKit
set_option linter.unusedVariables false

theorem AllocR.same {f F : Nat → Int} {N : Nat} {x p c : Int} (h : AllocR f N x F p c) (hc : c ≠ 0) : F = f := by
  rcases h with ⟨_, _, _, h⟩ | ⟨_, _, _, _, h⟩ | ⟨_, _, _, _, _, h⟩ | ⟨h, _⟩
  · exact h
  · exact h
  · exact h
  · exact absurd h hc
theorem zeroC_ne (x : Int) : zeroC x ≠ 0 := by unfold zeroC; split <;> decide

/-- The arena gg in the box Y, in a world behind w5. -/
structure Ax2 (w5 wy : World) (M Y gg cc : Nat) (FF : Nat → Int) : Prop where
  bel : Below w5.heap.size w5 wy
  box : wy.cell? ⟨Y, 0, none⟩ = some (.slice (some ⟨gg, 0, none⟩) M cc)
  rd : Rd wy (some ⟨gg, 0, none⟩) M FF
  le : M ≤ cc
theorem Ax2.call {w5 wy wz : World} {M Y gg cc : Nat} {FF : Nat → Int} (h : Ax2 w5 wy M Y gg cc FF) (hb : Below wy.heap.size wy wz) : Ax2 w5 wz M Y gg cc FF :=
  ⟨below_join h.bel hb, (hb.cell (p := ⟨Y, 0, none⟩) (World.block_lt_of_cell? _ _ h.box)).trans h.box, h.rd.below hb, h.le⟩
theorem Ax2.cells {w5 wy : World} {M Y gg cc : Nat} {FF : Nat → Int} (h : Ax2 w5 wy M Y gg cc FF) : ∀ j, j < M → wy.cell? ⟨gg, 0 + j, none⟩ = some (.int .i64 (FF j)) := fun j hj => by
  obtain ⟨b', o', e', hc'⟩ := h.rd (by omega)
  cases e'
  exact hc' j hj
def Keep2 (w5 wy wz : World) (M : Nat) : Prop := ∀ Y gg cc FF, Ax2 w5 wy M Y gg cc FF → Ax2 w5 wz M Y gg cc FF
theorem used2 {w5 wy : World} {M Y gg cc : Nat} {FF : Nat → Int} (hM : M ≤ 80) (h : Ax2 w5 wy M Y gg cc FF) :
    Calls Try.prog 15 #[.agg #[.slice (some ⟨gg, 0, none⟩) M cc]] wy fun e w' => ∃ ua uc, e = .returned (.slice ua (usd (bk FF M 0)).length uc) ∧ Rd w' ua (usd (bk FF M 0)).length (fun j => ((usd (bk FF M 0)).getD j 0 : Nat)) ∧ Keep2 w5 wy w' M := by
  refine (implUsed_any (some ⟨gg, 0, none⟩) M cc FF wy h.rd (by omega) h.le).mono ?_
  rintro e w' ⟨v, rfl, hpl, hb⟩
  obtain ⟨ua, uc, rfl, _, _, _, hru⟩ := hpl.slice
  exact ⟨ua, uc, rfl, hru, fun Y gg cc FF h => h.call hb⟩
theorem audit2 {w5 wy : World} {M Y gg cc : Nat} {FF : Nat → Int} (hM : M ≤ 80) (h : Ax2 w5 wy M Y gg cc FF) :
    Calls Try.prog 13 #[.agg #[.slice (some ⟨gg, 0, none⟩) M cc]] wy fun e w' => e = .returned (.int .i64 (aud FF M 0 false)) ∧ Keep2 w5 wy w' M := by
  refine (implAudit_any (some ⟨gg, 0, none⟩) M cc FF wy h.rd (by omega) h.le).mono ?_
  rintro e w' ⟨rfl, hb⟩
  exact ⟨rfl, fun Y gg cc FF h => h.call hb⟩

end Go.Proofs.Ytmongbpdbcbhlaa
