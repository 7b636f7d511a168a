/-
  What the program's UsedBlocks answers.
-/
import Derived.Test.YtmongbpdbcbhlaaItC
import Derived.Maps.AppendAt
namespace Go.Proofs.Ytmongbpdbcbhlaa
open Go.RowKit Go.Shelf
set_option linter.unusedVariables false
attribute [local go_sem] Oper.semAt_some

theorem unB_snoc {f : Nat → Int} {N : Nat} (pre : List (BT f N)) (x : BT f N) : unB (pre ++ [x]) = unB pre ++ [x.1] := by simp [unB]
theorem unB_len {f : Nat → Int} {N : Nat} (pre : List (BT f N)) : (unB pre).length = pre.length := by simp [unB]

/-- A number put behind a list of one's own, and the list back into its box. -/
theorem KB.appended {W w1 : World} {n₀ S B g : Nat} {t : TypeId} {k cap : Nat} {v' : Value} {xs : List Value} {tmp : Obj} (hv : Boxed W B t (.slice (some ⟨g, 0, none⟩) k cap)) (h1 : t ≠ 26) (h2 : t ≠ 54) (h3 : t ≠ 89) (hrow : W.ownsRow n₀ 3 1 (.slice (some ⟨g, 0, none⟩) k cap) k xs)
    (hgrow : (W.alloc tmp).grownBy w1 (some g)) (hk : KeepsOthers W (w1.setCell ⟨B, 0, none⟩ v')) (hb : Below n₀ W (w1.setCell ⟨B, 0, none⟩ v')) : KB n₀ S W (w1.setCell ⟨B, 0, none⟩ v') := by
  refine ⟨hb, fun j cs t' r hj ht => ?_, fun j o _ hj hc => hk.same j o hj hc⟩
  have hjl := (Array.getElem?_eq_some_iff.1 hj).1
  have hjg : j ≠ g := fun e => by
    rcases hrow.2 with ⟨e2, _⟩ | ⟨g', cap', cur, e2, _, hg, _⟩
    · cases e2
    · cases e2
      subst e
      rw [hj] at hg
      cases hg
      rcases ht with h | h | h <;> exact absurd h (by decide)
  have hjB : j ≠ B := fun e => by
    subst e
    have hv : W.heap[j]? = _ := hv
    rw [hj] at hv
    cases hv
    exact ht.elim h1 (fun q => q.elim h2 h3)
  rw [Below.heap_setCell w1 ⟨B, 0, none⟩ v' j hjB, hgrow.block j (by rw [World.size_alloc]; omega) (fun e => hjg (by injection e)), Below.heap_alloc W tmp j hjl]
  exact hj

set_option maxRecDepth 100000 in
set_option maxHeartbeats 4000000 in
theorem implUsed_any (ao : Option Addr) (N cap : Nat) (f : Nat → Int) (w : World) (hr : Rd w ao N f) (hN : N ≤ 1048576) (hcap : N ≤ cap) :
    Calls Try.prog 15 #[.agg #[.slice ao N cap]] w fun e w' => ∃ v, e = .returned v ∧ Places w' w.heap.size v (usd (bk f N 0)) ∧ Below w.heap.size w w' := by
  obtain ⟨i0, hi, hz0, hz1, hz2⟩ := info_parts infoInt
  refine (callsIn_wide (n := 8)).1 ?_
  refine callsIn_of_wp_marks Try.func15 rfl trivial ?_ rfl
  simp only [Try.ntmps15, List.size_toArray, List.length_cons, List.length_nil, Nat.reduceAdd, Nat.reduceSub, Array.replicate_succ, Array.replicate_zero, List.push_toArray, List.append_toArray, List.nil_append, List.cons_append]
  gi_wp2_with (refine ⟨trivial, ?_⟩; gi_at_call 41; refine (each_in _ ao N cap _).mono ?_; rintro e w' ⟨rfl, rfl⟩)
  have hb0 : Below w.heap.size w ((((w.alloc (.cells #[.slice ao N cap] 26)).alloc (.cells #[] 3)).alloc (.cells #[.slice (some ⟨w.heap.size + 1, 0, none⟩) 0 0] 24)).alloc (.cells #[.slice ao N cap] 26)) := ((((Below.refl _ w).alloc (Nat.le_refl _) _).alloc (by simp) _).alloc (by simp; omega) _).alloc (by simp; omega) _
  have hrow0 : ((((w.alloc (.cells #[.slice ao N cap] 26)).alloc (.cells #[] 3)).alloc (.cells #[.slice (some ⟨w.heap.size + 1, 0, none⟩) 0 0] 24)).alloc (.cells #[.slice ao N cap] 26)).ownsRow w.heap.size 3 1 (.slice (some ⟨w.heap.size + 1, 0, none⟩) 0 0) 0 [] := by
    have hz : (w.alloc (.cells #[.slice ao N cap] 26)).heap.size = w.heap.size + 1 := World.size_alloc _ _
    have := World.ownsRow_made (base := w.heap.size) (e := 3) (size := 1) (w.alloc (.cells #[.slice ao N cap] 26)) #[] 0 (by rw [hz]; omega) (Nat.zero_le _) rfl
    rw [hz] at this
    exact (World.ownsRow.alloc (World.ownsRow.alloc this _) _)
  have bP := (Boxed.new ((w.alloc (.cells #[.slice ao N cap] 26)).alloc (.cells #[] 3)) 24 (.slice (some ⟨w.heap.size + 1, 0, none⟩) 0 0)).alloc (.cells #[.slice ao N cap] 26)
  have bA := Boxed.new (((w.alloc (.cells #[.slice ao N cap] 26)).alloc (.cells #[] 3)).alloc (.cells #[.slice (some ⟨w.heap.size + 1, 0, none⟩) 0 0] 24)) 26 (.slice ao N cap)
  have hsz : ((((w.alloc (.cells #[.slice ao N cap] 26)).alloc (.cells #[] 3)).alloc (.cells #[.slice (some ⟨w.heap.size + 1, 0, none⟩) 0 0] 24)).alloc (.cells #[.slice ao N cap] 26)).heap.size = w.heap.size + 4 := by simp
  simp only [World.size_alloc] at bA bP
  generalize ((((w.alloc (.cells #[.slice ao N cap] 26)).alloc (.cells #[] 3)).alloc (.cells #[.slice (some ⟨w.heap.size + 1, 0, none⟩) 0 0] 24)).alloc (.cells #[.slice ao N cap] 26)) = W0 at hb0 bP bA hsz hrow0 ⊢
  have hH0 : Hld w.heap.size (w.heap.size + 1 + 1 + 1) ao N cap f W0 := ⟨bA, hr.below hb0, fun hn a e => by obtain ⟨b, o, e2, hc⟩ := hr hn; rw [e] at e2; cases e2; exact World.block_lt_of_cell? w _ (hc 0 (by omega))⟩
  refine range_over (by omega) (gf := 70) (lb := #[.pointer (some ⟨w.heap.size + 1 + 1 + 1, 0, none⟩)]) rfl (enters_of Try.func70 (by kernel_rfl) rfl) (SeqO.of (each_stops 7 (by omega) w.heap.size (W0.heap.size + 2) (w.heap.size + 1 + 1 + 1) ao N cap f hN hcap W0 hH0)) (by omega) (by intro x; rfl)
    (fun pre V => (∃ v, Boxed V (w.heap.size + 1 + 1) 24 v ∧ V.ownsRow w.heap.size 3 1 v (usd (unB pre)).length ((usd (unB pre)).map fun (x : Nat) => Value.int .i64 x) ∧ (∃ g c, v = .slice (some ⟨g, 0, none⟩) (usd (unB pre)).length c)) ∧ Below w.heap.size w V)
    (fun _ _ _ => False)
    (OwnFrom.and (Own.from (holdsRow_own w.heap.size (w.heap.size + 1 + 1) 24 3 1 (fun pre => (usd (unB pre)).length) (fun pre => (usd (unB pre)).map fun (x : Nat) => Value.int .i64 x) (fun pre v => ∃ g c, v = .slice (some ⟨g, 0, none⟩) (usd (unB pre)).length c)) _) (ownFrom_below (Nat.le_refl _) (by omega)))
    (fun _ _ _ _ _ hs _ _ => hs)
    ⟨⟨_, bP, hrow0, ⟨_, _, rfl⟩⟩, hb0⟩
    (fun x a' V => ∃ Bx, Boxed3 V Bx x.1.1 x.1.2.1 x.1.2.2 ∧ a' = { tmps := #[.agg #[.slice ao N cap], .pointer (some ⟨w.heap.size, 0, none⟩), .slice none 0 0, .pointer (some ⟨w.heap.size + 1 + 1, 0, none⟩), .pointer (some ⟨Bx, 0, none⟩), .slice (some ⟨w.heap.size + 1, 0, none⟩) 0 0, .agg #[.slice ao N cap], .func (.func 70) #[] #[.pointer (some ⟨w.heap.size + 1 + 1 + 1, 0, none⟩)], .agg #[.int .i64 x.1.1, .int .i64 x.1.2.1, .bool x.1.2.2], undef, undef, undef, undef, undef, undef, undef, undef], defers := [] })
    (fun x a' _ A C row hs hg hr => by obtain ⟨Bx, h2, h3⟩ := hs; exact ⟨Bx, boxed3_own Bx _ _ _ () A C row h2 hg (fun r e => (hr r e).2), h3⟩)
    ?assign ?body ?done ?stop
  case assign =>
    rintro l2 pre x V K ⟨⟨v, hv, hrow, hg⟩, hB⟩ hK
    dsimp only [enB]
    gi_wp2
    exact hK _ _ ((KeepsOthers.alloc _ _).from _) (KB.of_below ((Below.refl _ V).alloc (Nat.le_refl _) _) hB.size) ⟨⟨v, hv.alloc _, hrow.alloc _, hg⟩, hB.alloc hB.size _⟩ ⟨V.heap.size, Boxed3.new V _ _ _, rfl⟩
  case body =>
    rintro l2 pre x a' V ⟨⟨v, hv, hrow, g, c, rfl⟩, hB⟩ ⟨Bx, bX, rfl⟩ hlt
    obtain ⟨q0, q1, q2⟩ := bX.cells
    have cP := hv.cell
    have hlen : (usd (unB pre)).length ≤ N := by have h1 := usd_len (unB pre); rw [unB_len] at h1; omega
    obtain ⟨⟨p, m, u⟩, hBk⟩ := x
    dsimp only at *
    have hus := unB_snoc pre ⟨(p, m, u), hBk⟩
    dsimp only at hus
    have hBs := hB.size
    have C3 : (usd (unB pre)).length + 1 ≤ maxLen := by unfold maxLen; omega
    cases u with
    | true =>
      have hu2 : usd (unB (pre ++ [(⟨(p, m, true), hBk⟩ : BT f N)])) = usd (unB pre) ++ [p] := by rw [hus, usd_snoc_t]
      gi_wp2_with (gi_at_builtin; refine wpListIn_append_own _ rfl _ _ 24 rfl w.heap.size 3 i0 (.int .i64 0) 1 8 undInts hi hz0 hz1 hz2 rfl (by decide) _ _ _ rfl (hrow.alloc _) ⟨V.heap.size, 0, none⟩ 1 1 [.int .i64 p] rfl rfl (cell_one_new _ _ _) (by simp [Value.oneCell']) C3 (by omega) (by simp; omega) ?_; intro v' w1 hown' hgrow _; obtain ⟨g', cap', rfl⟩ := ownsRow_succ hown'; obtain ⟨hv1, hv2, hr2, hk2, hb2⟩ := hv.appended (by decide) hrow hBs (by omega) hown' hgrow; have hc1 := hv1.cell; have hf1 := hv1.frozen)
      refine ⟨hk2.from _, KB.appended hv (by decide) (by decide) (by decide) hrow hgrow hk2 hb2, ⟨_, hv2, ?_, ⟨g', cap', ?_⟩⟩, hB.trans hb2⟩
      · rw [hu2, List.length_append, List.map_append]; exact hr2
      · rw [hu2, List.length_append]; rfl
    | false =>
      have hu2 : usd (unB (pre ++ [(⟨(p, m, false), hBk⟩ : BT f N)])) = usd (unB pre) := by rw [hus, usd_snoc_f]
      gi_wp2
      refine ⟨KeepsFrom.refl _ _, KB.refl _ _ _, ⟨_, hv, ?_, ⟨g, c, ?_⟩⟩, hB⟩
      · rw [hu2]; exact hrow
      · rw [hu2]
  case done =>
    rintro D xs V hD hS ⟨⟨v, hv, hrow, hg⟩, hB⟩ hK
    rw [hS] at hrow
    have hc := hv.cell
    gi_wp2
    refine ⟨by simp, .inl ⟨_, _, rfl, run_takeDeferred hK, ?_⟩⟩
    exact ⟨_, results_tmp rfl _ _ _, v, rfl, ownsRow_putObj hrow _ hK rfl, hB.trans (belowK_b (w := w) (Nat.le_refl _) V D _ _ (by omega) hK rfl rfl)⟩
  case stop =>
    rintro D c pre V _ _ h _
    exact h.elim
end Go.Proofs.Ytmongbpdbcbhlaa
