/-
  What the specification's Sound answers.
  (Ahead of it, in this text: What the program's UsedBlocks answers. The places of the used blocks: what the specification's UsedBlocks answers. What both kinds of Sound answer: nothing is found by the audit, and the words of all blocks, with three for each, are all there are.)
-/
import Derived.Test.YtdglefedbkgghaaV6
import Derived.Maps.AppendAt
import Derived.Test.YtdglefedbkgghaaV4
import Derived.Test.YtdglefedbkgghaaInn
import Derived.Deep.AppendLies
import Derived.Test.YtdglefedbkgghaaV3
namespace Go.Proofs.Ytdglefedbkgghaa
open Go.RowKit Go.Shelf
set_option linter.unusedVariables false
attribute [local go_sem] Oper.semAt_some

theorem unB_snoc {f : Nat → Int} {N : Nat} (pre : List (BT f N)) (x : BT f N) : unB (pre ++ [x]) = unB pre ++ [x.1] := by simp [unB]
theorem unB_len {f : Nat → Int} {N : Nat} (pre : List (BT f N)) : (unB pre).length = pre.length := by simp [unB]

/-- A number put behind a list of one's own, and the list back into its box. -/
theorem KB.appended {W w1 : World} {n₀ S B g : Nat} {t : TypeId} {k cap : Nat} {v' : Value} {xs : List Value} {tmp : Obj} (hv : Boxed W B t (.slice (some ⟨g, 0, none⟩) k cap)) (h1 : t ≠ 34) (h2 : t ≠ 60) (h3 : t ≠ 95) (hrow : W.ownsRow n₀ 3 1 (.slice (some ⟨g, 0, none⟩) k cap) k xs)
    (hgrow : (W.alloc tmp).grownBy w1 (some g)) (hk : KeepsOthers W (w1.setCell ⟨B, 0, none⟩ v')) (hb : Below n₀ W (w1.setCell ⟨B, 0, none⟩ v')) : KB n₀ S W (w1.setCell ⟨B, 0, none⟩ v') := by
  refine ⟨hb, fun j cs t' r hj ht => ?_, fun j o _ hj hc => hk.same j o hj hc⟩
  have hjl := (Array.getElem?_eq_some_iff.1 hj).1
  have hjg : j ≠ g := fun e => by
    rcases hrow.2 with ⟨e2, _⟩ | ⟨g', cap', cur, e2, _, hg, _⟩
    · cases e2
    · cases e2
      subst e
      rw [hj] at hg
      cases hg
      rcases ht with h | h | h <;> exact absurd h (by decide)
  have hjB : j ≠ B := fun e => by
    subst e
    have hv : W.heap[j]? = _ := hv
    rw [hj] at hv
    cases hv
    exact ht.elim h1 (fun q => q.elim h2 h3)
  rw [Below.heap_setCell w1 ⟨B, 0, none⟩ v' j hjB, hgrow.block j (by rw [World.size_alloc]; omega) (fun e => hjg (by injection e)), Below.heap_alloc W tmp j hjl]
  exact hj

set_option maxRecDepth 100000 in
set_option maxHeartbeats 4000000 in
theorem implUsed_any (ao : Option Addr) (N cap : Nat) (f : Nat → Int) (w : World) (hr : Rd w ao N f) (hN : N ≤ 1048576) (hcap : N ≤ cap) :
    Calls Try.prog 57 #[.agg #[.slice ao N cap]] w fun e w' => ∃ v, e = .returned v ∧ Places w' w.heap.size v (usd (bk f N 0)) ∧ Below w.heap.size w w' := by
  obtain ⟨i0, hi, hz0, hz1, hz2⟩ := info_parts infoInt
  refine (callsIn_wide (n := 8)).1 ?_
  refine callsIn_of_wp_marks Try.func57 rfl trivial ?_ rfl
  simp only [Try.ntmps57, List.size_toArray, List.length_cons, List.length_nil, Nat.reduceAdd, Nat.reduceSub, Array.replicate_succ, Array.replicate_zero, List.push_toArray, List.append_toArray, List.nil_append, List.cons_append]
  gi_wp2_with (refine ⟨trivial, ?_⟩; gi_at_call 25; refine (each_in _ ao N cap _).mono ?_; rintro e w' ⟨rfl, rfl⟩)
  have hb0 : Below w.heap.size w ((((w.alloc (.cells #[.slice ao N cap] 34)).alloc (.cells #[] 3)).alloc (.cells #[.slice (some ⟨w.heap.size + 1, 0, none⟩) 0 0] 24)).alloc (.cells #[.slice ao N cap] 34)) := ((((Below.refl _ w).alloc (Nat.le_refl _) _).alloc (by simp) _).alloc (by simp; omega) _).alloc (by simp; omega) _
  have hrow0 : ((((w.alloc (.cells #[.slice ao N cap] 34)).alloc (.cells #[] 3)).alloc (.cells #[.slice (some ⟨w.heap.size + 1, 0, none⟩) 0 0] 24)).alloc (.cells #[.slice ao N cap] 34)).ownsRow w.heap.size 3 1 (.slice (some ⟨w.heap.size + 1, 0, none⟩) 0 0) 0 [] := by
    have hz : (w.alloc (.cells #[.slice ao N cap] 34)).heap.size = w.heap.size + 1 := World.size_alloc _ _
    have := World.ownsRow_made (base := w.heap.size) (e := 3) (size := 1) (w.alloc (.cells #[.slice ao N cap] 34)) #[] 0 (by rw [hz]; omega) (Nat.zero_le _) rfl
    rw [hz] at this
    exact (World.ownsRow.alloc (World.ownsRow.alloc this _) _)
  have bP := (Boxed.new ((w.alloc (.cells #[.slice ao N cap] 34)).alloc (.cells #[] 3)) 24 (.slice (some ⟨w.heap.size + 1, 0, none⟩) 0 0)).alloc (.cells #[.slice ao N cap] 34)
  have bA := Boxed.new (((w.alloc (.cells #[.slice ao N cap] 34)).alloc (.cells #[] 3)).alloc (.cells #[.slice (some ⟨w.heap.size + 1, 0, none⟩) 0 0] 24)) 34 (.slice ao N cap)
  have hsz : ((((w.alloc (.cells #[.slice ao N cap] 34)).alloc (.cells #[] 3)).alloc (.cells #[.slice (some ⟨w.heap.size + 1, 0, none⟩) 0 0] 24)).alloc (.cells #[.slice ao N cap] 34)).heap.size = w.heap.size + 4 := by simp
  simp only [World.size_alloc] at bA bP
  generalize ((((w.alloc (.cells #[.slice ao N cap] 34)).alloc (.cells #[] 3)).alloc (.cells #[.slice (some ⟨w.heap.size + 1, 0, none⟩) 0 0] 24)).alloc (.cells #[.slice ao N cap] 34)) = W0 at hb0 bP bA hsz hrow0 ⊢
  have hH0 : Hld w.heap.size (w.heap.size + 1 + 1 + 1) ao N cap f W0 := ⟨bA, hr.below hb0, fun hn a e => by obtain ⟨b, o, e2, hc⟩ := hr hn; rw [e] at e2; cases e2; exact World.block_lt_of_cell? w _ (hc 0 (by omega))⟩
  refine range_over (by omega) (gf := 48) (lb := #[.pointer (some ⟨w.heap.size + 1 + 1 + 1, 0, none⟩)]) rfl (enters_of Try.func48 (by kernel_rfl) rfl) (SeqO.of (each_stops 7 (by omega) w.heap.size (W0.heap.size + 2) (w.heap.size + 1 + 1 + 1) ao N cap f hN hcap W0 hH0)) (by omega) (by intro x; rfl)
    (fun pre V => (∃ v, Boxed V (w.heap.size + 1 + 1) 24 v ∧ V.ownsRow w.heap.size 3 1 v (usd (unB pre)).length ((usd (unB pre)).map fun (x : Nat) => Value.int .i64 x) ∧ (∃ g c, v = .slice (some ⟨g, 0, none⟩) (usd (unB pre)).length c)) ∧ Below w.heap.size w V)
    (fun _ _ _ => False)
    (OwnFrom.and (Own.from (holdsRow_own w.heap.size (w.heap.size + 1 + 1) 24 3 1 (fun pre => (usd (unB pre)).length) (fun pre => (usd (unB pre)).map fun (x : Nat) => Value.int .i64 x) (fun pre v => ∃ g c, v = .slice (some ⟨g, 0, none⟩) (usd (unB pre)).length c)) _) (ownFrom_below (Nat.le_refl _) (by omega)))
    (fun _ _ _ _ _ hs _ _ => hs)
    ⟨⟨_, bP, hrow0, ⟨_, _, rfl⟩⟩, hb0⟩
    (fun x a' V => ∃ Bx, Boxed3 V Bx x.1.1 x.1.2.1 x.1.2.2 ∧ a' = { tmps := #[.agg #[.slice ao N cap], .pointer (some ⟨w.heap.size, 0, none⟩), .slice none 0 0, .pointer (some ⟨w.heap.size + 1 + 1, 0, none⟩), .pointer (some ⟨Bx, 0, none⟩), .slice (some ⟨w.heap.size + 1, 0, none⟩) 0 0, .agg #[.slice ao N cap], .func (.func 48) #[] #[.pointer (some ⟨w.heap.size + 1 + 1 + 1, 0, none⟩)], .agg #[.int .i64 x.1.1, .int .i64 x.1.2.1, .bool x.1.2.2], undef, undef, undef, undef, undef, undef, undef, undef], defers := [] })
    (fun x a' _ A C row hs hg hr => by obtain ⟨Bx, h2, h3⟩ := hs; exact ⟨Bx, boxed3_own Bx _ _ _ () A C row h2 hg (fun r e => (hr r e).2), h3⟩)
    ?assign ?body ?done ?stop
  case assign =>
    rintro l2 pre x V K ⟨⟨v, hv, hrow, hg⟩, hB⟩ hK
    dsimp only [enB]
    gi_wp2
    exact hK _ _ ((KeepsOthers.alloc _ _).from _) (KB.of_below ((Below.refl _ V).alloc (Nat.le_refl _) _) hB.size) ⟨⟨v, hv.alloc _, hrow.alloc _, hg⟩, hB.alloc hB.size _⟩ ⟨V.heap.size, Boxed3.new V _ _ _, rfl⟩
  case body =>
    rintro l2 pre x a' V ⟨⟨v, hv, hrow, g, c, rfl⟩, hB⟩ ⟨Bx, bX, rfl⟩ hlt
    obtain ⟨q0, q1, q2⟩ := bX.cells
    have cP := hv.cell
    have hlen : (usd (unB pre)).length ≤ N := by have h1 := usd_len (unB pre); rw [unB_len] at h1; omega
    obtain ⟨⟨p, m, u⟩, hBk⟩ := x
    dsimp only at *
    have hus := unB_snoc pre ⟨(p, m, u), hBk⟩
    dsimp only at hus
    have hBs := hB.size
    have C3 : (usd (unB pre)).length + 1 ≤ maxLen := by unfold maxLen; omega
    cases u with
    | true =>
      have hu2 : usd (unB (pre ++ [(⟨(p, m, true), hBk⟩ : BT f N)])) = usd (unB pre) ++ [p] := by rw [hus, usd_snoc_t]
      gi_wp2_with (gi_at_builtin; refine wpListIn_append_own _ rfl _ _ 24 rfl w.heap.size 3 i0 (.int .i64 0) 1 8 undInts hi hz0 hz1 hz2 rfl (by decide) _ _ _ rfl (hrow.alloc _) ⟨V.heap.size, 0, none⟩ 1 1 [.int .i64 p] rfl rfl (cell_one_new _ _ _) (by simp [Value.oneCell']) C3 (by omega) (by simp; omega) ?_; intro v' w1 hown' hgrow _; obtain ⟨g', cap', rfl⟩ := ownsRow_succ hown'; obtain ⟨hv1, hv2, hr2, hk2, hb2⟩ := hv.appended (by decide) hrow hBs (by omega) hown' hgrow; have hc1 := hv1.cell; have hf1 := hv1.frozen)
      refine ⟨hk2.from _, KB.appended hv (by decide) (by decide) (by decide) hrow hgrow hk2 hb2, ⟨_, hv2, ?_, ⟨g', cap', ?_⟩⟩, hB.trans hb2⟩
      · rw [hu2, List.length_append, List.map_append]; exact hr2
      · rw [hu2, List.length_append]; rfl
    | false =>
      have hu2 : usd (unB (pre ++ [(⟨(p, m, false), hBk⟩ : BT f N)])) = usd (unB pre) := by rw [hus, usd_snoc_f]
      gi_wp2
      refine ⟨KeepsFrom.refl _ _, KB.refl _ _ _, ⟨_, hv, ?_, ⟨g, c, ?_⟩⟩, hB⟩
      · rw [hu2]; exact hrow
      · rw [hu2]
  case done =>
    rintro D xs V hD hS ⟨⟨v, hv, hrow, hg⟩, hB⟩ hK
    rw [hS] at hrow
    have hc := hv.cell
    gi_wp2
    refine ⟨by simp, .inl ⟨_, _, rfl, run_takeDeferred hK, ?_⟩⟩
    exact ⟨_, results_tmp rfl _ _ _, v, rfl, ownsRow_putObj hrow _ hK rfl, hB.trans (belowK_b (w := w) (Nat.le_refl _) V D _ _ (by omega) hK rfl rfl)⟩
  case stop =>
    rintro D c pre V _ _ h _
    exact h.elim
end Go.Proofs.Ytdglefedbkgghaa
namespace Go.Proofs.Ytdglefedbkgghaa
open Go.RowKit
set_option linter.unusedVariables false

theorem bls_facts (f : Nat → Int) (N : Nat) : ∀ k p, N - p ≤ k → (∀ x ∈ bls f N p, x < N) ∧ (bls f N p).length * 4 ≤ N - p := by
  intro k
  induction k with
  | zero =>
    intro p h
    rw [bls_nil (blkO_end (by omega))]
    simp
  | succ k ih =>
    intro p h
    cases hB : blkO f N p with
    | none => rw [bls_nil hB]; simp
    | some x =>
      obtain ⟨n, u⟩ := x
      have h1 := (blkO_of hB).fit
      have h2 := (blkO_of hB).h1
      obtain ⟨i1, i2⟩ := ih (p + n + 3) (by omega)
      rw [bls_cons hB]
      refine ⟨fun x hx => ?_, ?_⟩
      · rcases List.mem_cons.1 hx with rfl | hx
        · omega
        · exact i1 x hx
      · rw [List.length_cons]; omega
theorem bls_lt (f : Nat → Int) (N : Nat) (j : Nat) (hj : j < (bls f N 0).length) : (bls f N 0).getD j 0 < N := by
  refine (bls_facts f N N 0 (by omega)).1 _ ?_
  rw [List.getD_eq_getElem?_getD, List.getElem?_eq_getElem hj]; exact List.getElem_mem hj
theorem bls_len (f : Nat → Int) (N : Nat) : (bls f N 0).length * 4 ≤ N := by have := (bls_facts f N N 0 (by omega)).2; omega

/-- What stands while the used ones are gathered in the block g: the arena in the box B0, all places. -/
structure Gat (w wr : World) (ao : Option Addr) (N cap : Nat) (f : Nat → Int) (la : Option Addr) (L : Nat) (h : Nat → Int) (g vc k : Nat) (xs : List Value) : Prop where
  below : Below w.heap.size w wr
  box : wr.cell? ⟨w.heap.size, 0, none⟩ = some (.slice ao N cap)
  rd : Rd wr ao N f
  list : Rd wr la L h
  own : wr.ownsRow (w.heap.size + 1) 3 1 (.slice (some ⟨g, 0, none⟩) k vc) k xs
  far : L ≠ 0 → ∀ a, la = some a → a.block ≠ g
  up : g < wr.heap.size

theorem Gat.call {w wr w1 : World} {ao : Option Addr} {N cap : Nat} {f : Nat → Int} {la : Option Addr} {L : Nat} {h : Nat → Int} {g vc k : Nat} {xs : List Value} (s : Gat w wr ao N cap f la L h g vc k xs) (hb : Below wr.heap.size wr w1) : Gat w w1 ao N cap f la L h g vc k xs :=
  ⟨below_join s.below hb, (hb.cell (p := ⟨w.heap.size, 0, none⟩) (World.block_lt_of_cell? wr _ s.box)).trans s.box, s.rd.below hb, s.list.below hb,
    World.ownsRow.kept s.own ⟨hb.os, hb.tape, hb.output, hb.size, fun k hk _ => hb.block k hk⟩ (row := none) (by simp [Value.ownBlock]), s.far, Nat.lt_of_lt_of_le s.up hb.size⟩
theorem Gat.grow {w wr w1 : World} {ao : Option Addr} {N cap : Nat} {f : Nat → Int} {la : Option Addr} {L : Nat} {h : Nat → Int} {g vc k g2 vc2 k2 : Nat} {xs ys : List Value} (s : Gat w wr ao N cap f la L h g vc k xs)
    (hr : Rd w ao N f) (hg : wr.grownBy w1 (some g)) (ho : w1.ownsRow (w.heap.size + 1) 3 1 (.slice (some ⟨g2, 0, none⟩) k2 vc2) k2 ys) (hat : some g = some g2 ∨ g2 = wr.heap.size) (hlt : g2 < w1.heap.size) : Gat w w1 ao N cap f la L h g2 vc2 k2 ys := by
  have hge : w.heap.size + 1 ≤ g := (World.ownsRow.lt s.own g rfl).1
  have hbw : Below w.heap.size w w1 := s.below.grown hg s.below.size (fun k hk => by injection hk with e; omega)
  refine ⟨hbw, ?_, hr.below hbw, fun hn => ?_, ho, fun hn a ha => ?_, hlt⟩
  · rw [World.grownBy.cell_far hg ⟨w.heap.size, 0, none⟩ (World.block_lt_of_cell? wr _ s.box) (fun e => by injection e with e; have e : w.heap.size = g := e; omega)]; exact s.box
  · obtain ⟨b, o, e, hc⟩ := s.list hn
    refine ⟨b, o, e, fun j hj => ?_⟩
    rw [World.grownBy.cell_far hg ⟨b, o + j, none⟩ (World.block_lt_of_cell? wr _ (hc j hj)) (fun q => s.far hn _ e (by injection q))]; exact hc j hj
  · rcases hat with hat | rfl
    · injection hat with hat; subst hat; exact s.far hn a ha
    · intro q
      obtain ⟨b, o, e, hc⟩ := s.list hn
      rw [ha] at e
      have := World.block_lt_of_cell? wr _ (hc 0 (by omega))
      cases e
      exact absurd q (Nat.ne_of_lt this)

set_option maxHeartbeats 2000000 in
set_option maxRecDepth 100000 in
theorem specUsed_any (ao : Option Addr) (N cap : Nat) (f : Nat → Int) (w : World) (hr : Rd w ao N f) (hN : N ≤ 1048576) :
    Calls Try.prog 32 #[.agg #[.slice ao N cap]] w fun e w' => ∃ v, e = .returned v ∧ Places w' w.heap.size v (usd (bk f N 0)) ∧ Below w.heap.size w w' := by
  have HR : Hid (Rd w ao N f) := hr
  clear hr
  obtain ⟨i0, hi, hz0, hz1, hz2⟩ := info_parts infoInt
  have HI : Hid (Try.prog.info? 3 = some i0 ∧ i0.zero = some (.int .i64 0) ∧ i0.size = 1 ∧ i0.bytes = 8) := ⟨hi, hz0, hz1, hz2⟩
  clear hi hz0 hz1 hz2
  go_enter Try.func32, Try.ntmps32
  go_wp2_with fail
  have hbw : Below w.heap.size w ((w.alloc (.cells #[.slice ao N cap] 34)).alloc (.cells #[] 3)) := ((Below.refl _ _).alloc (Nat.le_refl _) _).alloc (by simp) _
  refine (specBlocks_any ao N cap f _ (HR.out.below hbw) (by omega)).mono ?_
  rintro e w1 ⟨v, rfl, hpl, hb1⟩
  obtain ⟨la, lc, rfl, h1, h2, h3, hrl⟩ := hpl.slice
  have hsz : ((w.alloc (.cells #[.slice ao N cap] 34)).alloc (.cells #[] 3)).heap.size = w.heap.size + 2 := by simp
  rw [hsz] at h3
  have hz : (w.alloc (.cells #[.slice ao N cap] 34)).heap.size = w.heap.size + 1 := World.size_alloc _ _
  have hown0 : ((w.alloc (.cells #[.slice ao N cap] 34)).alloc (.cells #[] 3)).ownsRow (w.heap.size + 1) 3 1 (.slice (some ⟨w.heap.size + 1, 0, none⟩) 0 0) 0 [] := by
    have := World.ownsRow_made (base := w.heap.size + 1) (e := 3) (size := 1) (w.alloc (.cells #[.slice ao N cap] 34)) #[] 0 (Nat.le_of_eq hz.symm) (Nat.zero_le _) rfl
    rw [hz] at this
    exact this
  have hbox0 : ((w.alloc (.cells #[.slice ao N cap] 34)).alloc (.cells #[] 3)).cell? ⟨w.heap.size, 0, none⟩ = some (.slice ao N cap) := by
    rw [World.cell?_alloc_lt (h := by show w.heap.size < _; omega)]; exact World.cell?_alloc_new w _ _ 0
  obtain ⟨L, hL⟩ : ∃ L, L = (bls f N 0).length := ⟨_, rfl⟩
  have hlen := bls_len f N
  have hg0 : Gat w w1 ao N cap f la L (fun j => ((bls f N 0).getD j 0 : Nat)) (w.heap.size + 1) 0 0 [] :=
    ⟨below_join hbw hb1, (hb1.cell (p := ⟨w.heap.size, 0, none⟩) (by rw [hsz]; show w.heap.size < _; omega)).trans hbox0, HR.out.below (below_join hbw hb1), by rw [hL]; exact hrl,
      World.ownsRow.kept hown0 ⟨hb1.os, hb1.tape, hb1.output, hb1.size, fun k hk _ => hb1.block k hk⟩ (row := none) (by simp [Value.ownBlock]), fun _ a ha => by have := h3 a ha; omega, by have := hb1.size; omega⟩
  have HG0 : Hid (Gat w w1 ao N cap f la L (fun j => ((bls f N 0).getD j 0 : Nat)) (w.heap.size + 1) 0 0 []) := hg0
  have HNT : Hid (∀ m, m < L → ∃ p n u, (bls f N 0).getD m 0 = p ∧ blkO f N p = some (n, u) ∧ (bk f N 0).take (m + 1) = (bk f N 0).take m ++ [(p, n, u)] ∧ n ≤ 4000 ∧ p + n + 3 ≤ N) := fun m hm => bk_nth f N m (by rw [hL, bk_len] at hm; exact hm)
  have HKL : Hid (L = (bk f N 0).length) := by show _ = _; rw [hL, bk_len]
  have HLT : Hid (∀ j, j < L → (bls f N 0).getD j 0 < N) := fun j hj => bls_lt f N j (by omega)
  rw [← hL]
  rw [← hL] at h1 hlen
  clear hpl hb1 h3 hrl hsz hz hown0 hbox0 hg0 hbw hL
  generalize bls f N 0 = bs at *
  obtain ⟨K, hK⟩ : ∃ K, bk f N 0 = K := ⟨_, rfl⟩
  have HK0 : Hid (bk f N 0 = K) := hK
  rw [hK] at HNT HKL
  clear hK
  go_wp2_with fail
  go_loopw [3, 5] (fun v i wr => ∃ (m g vc : Nat) (l : List Nat), m ≤ L ∧ l.length ≤ m ∧ l = usd (K.take m) ∧ i = .int .i64 m ∧ v = .slice (some ⟨g, 0, none⟩) l.length vc ∧ Gat w wr ao N cap f la L (fun j => (bs.getD j 0 : Nat)) g vc l.length (l.map fun (x : Nat) => Value.int .i64 x)) (fun _ i _ => L - (intOf i).toNat)
  case atStart => exact ⟨0, w.heap.size + 1, 0, [], Nat.zero_le _, Nat.le_refl _, by simp [usd], rfl, rfl, HG0.out⟩
  case round =>
    obtain ⟨m, g, vc, l, hm, hl, hle, rfl, rfl, hg⟩ := hrel
    have HLE : Hid (l = usd (K.take m)) := hle
    clear hle
    have HG : Hid (Gat w wr ao N cap f la L (fun j => (bs.getD j 0 : Nat)) g vc l.length (l.map fun (x : Nat) => Value.int .i64 x)) := hg
    have b0 := hg.box
    by_cases hlt : m < L
    · obtain ⟨lb, lo, rfl, hcl⟩ := hg.list (by omega)
      have cm : wr.cell? ⟨lb, lo + m, none⟩ = some (.int .i64 (bs.getD m 0 : Nat)) := hcl m hlt
      have hpx := HLT.out m hlt
      have HRD : Hid (Rd wr ao N f) := hg.rd
      obtain ⟨p, n, u, hp, hB, htk, _, _⟩ := HNT.out m hlt
      have HTK : Hid (K.take (m + 1) = K.take m ++ [(p, n, u)]) := htk
      rw [hp] at cm hpx
      clear hg hcl hp htk
      have k0 := Inn.keep b0
      have k1 := Inn.keep cm
      haveI := inn_ne wr
      have HA : Hid (∀ x : Inn wr, Calls Try.prog 18 #[.agg #[.slice ao N cap], .int .i64 p] x.val fun e w' => e = .returned (bv (blkO f N p)) ∧ Below x.val.heap.size x.val w') := fun x => specAt_any ao N cap f p x.val (HRD.out.below x.bel) (by omega) (by omega)
      cases u with
      | false =>
        rw [hB] at HA
        dsimp only [bv] at HA
        clear hB
        go_wp2_with fail
        refine wp_region_inn ?_ ?_ ?_
        · kernel_rfl
        · kernel_rfl
        repeat (go_big_quiet_step (first
          | (go_at_call 18; exact calls_inn (HA.out _))))
        refine wpQuiet_nil ?_
        rintro w2 ⟨x2, h2⟩
        have hb2 : Below wr.heap.size wr w2 := by rw [h2]; exact x2.bel
        have HG2 : Hid (Gat w w2 ao N cap f (some ⟨lb, lo, none⟩) L (fun j => (bs.getD j 0 : Nat)) g vc l.length (l.map fun (x : Nat) => Value.int .i64 x)) := HG.out.call hb2
        have c2 := (hb2.cell (p := ⟨lb, lo + m, none⟩) (World.block_lt_of_cell? wr _ cm)).trans cm
        clear h2 x2 hb2 k0 k1 b0 cm
        clear c2
        go_wp2_with fail
        go_roundw
        case rel => exact ⟨m + 1, g, vc, l, by omega, by omega, by rw [HTK.out, usd_snoc_f]; exact HLE.out, by go_num, rfl, HG2.out⟩
        case measure => simp [intOf]; omega
      | true =>
        rw [hB] at HA
        dsimp only [bv] at HA
        clear hB
        go_wp2_with fail
        refine wp_region_inn ?_ ?_ ?_
        · kernel_rfl
        · kernel_rfl
        repeat (go_big_quiet_step (first
          | (go_at_call 18; exact calls_inn (HA.out _))))
        refine wpQuiet_nil ?_
        rintro w2 ⟨x2, h2⟩
        have hb2 : Below wr.heap.size wr w2 := by rw [h2]; exact x2.bel
        have HG2 : Hid (Gat w w2 ao N cap f (some ⟨lb, lo, none⟩) L (fun j => (bs.getD j 0 : Nat)) g vc l.length (l.map fun (x : Nat) => Value.int .i64 x)) := HG.out.call hb2
        have c2 := (hb2.cell (p := ⟨lb, lo + m, none⟩) (World.block_lt_of_cell? wr _ cm)).trans cm
        clear h2 x2 hb2 k0 k1 b0 cm
        have HZ2 : Hid (w.heap.size + 1 ≤ w2.heap.size) := by have h1 := HG2.out.up; have h2 := (World.ownsRow.lt HG2.out.own g rfl).1; show _ ≤ _; omega
        have C1 : Hid (∀ j u, [Value.int .i64 (p : Int)][j]? = some u → (w2.alloc (.cells #[.int .i64 p] 3)).cell? ((⟨w2.heap.size, 0, none⟩ : Addr).add j) = some u) := news1 w2 _ _
        have C3 : Hid (l.length + 1 ≤ maxLen) := by show _ ≤ _; unfold maxLen; omega
        have C4 : Hid ((l.length + 1) * 8 ≤ 140737488355328) := by show _ ≤ _; omega
        have C5 : Hid (w.heap.size + 1 ≤ (w2.alloc (.cells #[.int .i64 p] 3)).heap.size) := by show _ ≤ _; rw [World.size_alloc]; have := HZ2.out; omega
        go_wp2_with (at_builtin; refine wpList_append_lies _ rfl _ _ 24 rfl (w.heap.size + 1) 3 i0 (.int .i64 0) 1 8 undInts HI.out.1 HI.out.2.1 HI.out.2.2.1 HI.out.2.2.2 rfl Nat.zero_lt_one _ _ _ rfl (World.ownsRow.alloc HG2.out.own _) ⟨w2.heap.size, 0, none⟩ 1 1 [.int .i64 p] rfl rfl C1.out (one1 _) Nat.zero_lt_one C3.out C4.out C5.out _ rfl ?_; intro g3 vc3 w3 hown3 hgr3 hat3 hlt3)
        have HG3 : Hid (Gat w w3 ao N cap f (some ⟨lb, lo, none⟩) L (fun j => (bs.getD j 0 : Nat)) g3 vc3 (l ++ [p]).length ((l ++ [p]).map fun (x : Nat) => Value.int .i64 x)) := by
          have ha := HG2.out.call (w1 := w2.alloc (.cells #[.int .i64 p] 3)) ((Below.refl _ _).alloc (Nat.le_refl _) _)
          have := ha.grow HR.out hgr3 hown3 hat3 hlt3
          rw [List.length_append, List.map_append]
          exact this
        have elen : (l ++ [p]).length = l.length + 1 := by rw [List.length_append]; rfl
        have ELEN : Hid ((l ++ [p]).length = l.length + 1) := elen
        clear elen hown3 hgr3 hat3 hlt3 c2
        go_wp2_with fail
        go_roundw
        case rel => exact ⟨m + 1, g3, vc3, l ++ [p], by omega, by rw [ELEN.out]; omega, by rw [HTK.out, usd_snoc_t, ← HLE.out], by go_num, by rw [ELEN.out], HG3.out⟩
        case measure => simp [intOf]; omega
    · have HE : Hid (usd K = l) := by have h1 := HKL.out; show _ = _; rw [HLE.out, List.take_of_length_le (by omega)]
      clear hg
      go_wp2_with fail
      go_ret
      refine ⟨_, rfl, ?_, HG.out.below⟩
      rw [HK0.out, HE.out]
      exact Places.base HG.out.own (Nat.le_succ _)
end Go.Proofs.Ytdglefedbkgghaa
namespace Go.Proofs.Ytdglefedbkgghaa
open Go.RowKit Go.Shelf
open Go.Proofs.Ytdglefedbkgghaa.Code
set_option linter.unusedVariables false
attribute [local go_sem] Oper.semAt_some

/-- The words of these blocks, three more for each. -/
def wsum (l : List (Nat × Nat × Bool)) : Nat := (l.map (fun b => b.2.1 + 3)).sum
theorem wsum_snoc (l : List (Nat × Nat × Bool)) (p n : Nat) (u : Bool) : wsum (l ++ [(p, n, u)]) = wsum l + (n + 3) := by simp [wsum]
theorem wsum_unB {f : Nat → Int} {N : Nat} (pre : List (BT f N)) (x : BT f N) : wsum (unB (pre ++ [x])) = wsum (unB pre) + (x.1.2.1 + 3) := by simp [wsum, unB]
theorem wsum_le {f : Nat → Int} {N : Nat} : ∀ (pre : List (BT f N)), wsum (unB pre) ≤ pre.length * 4003
  | [] => by simp [wsum, unB]
  | x :: pre => by
    have h := wsum_le pre
    have := x.2.hn
    simp only [wsum, unB, List.map_cons, List.sum_cons, List.length_cons] at h ⊢
    omega
noncomputable def soundB (f : Nat → Int) (N : Nat) : Bool := decide (aud f N 0 false = -1) && decide (wsum (bk f N 0) = N)

set_option maxRecDepth 100000 in
set_option maxHeartbeats 4000000 in
theorem implSound_any (p : Hp) (h : Hw) (w : World) (hra : RdI w h.ra p.N p.f) (hN : p.N ≤ 1048576) (hcap : p.N ≤ h.rc) :
    Calls Try.prog 8 #[hpV p h] w fun e w' => e = .returned (.bool (soundB p.f p.N)) ∧ Below w.heap.size w w' := by
  obtain ⟨code, atoms, N, f, cells, next, out, room⟩ := p
  obtain ⟨ca, cc, ta, tc, ao, cap, ea, ec, oa, oc⟩ := h
  have hr : Rd w ao N f := hra
  have HSB : Hid (soundB f N = (decide (aud f N 0 false = -1) && decide (wsum (bk f N 0) = N))) := by show _ = _; rfl
  dsimp only at hN hcap ⊢
  clear hra
  refine (callsIn_wide (n := 8)).1 ?_
  refine callsIn_of_wp_marks Try.func8 rfl trivial ?_ rfl
  simp only [Try.ntmps8, List.size_toArray, List.length_cons, List.length_nil, Nat.reduceAdd, Nat.reduceSub, Array.replicate_succ, Array.replicate_zero, List.push_toArray, List.append_toArray, List.nil_append, List.cons_append]
  gi_wp2_with (refine ⟨trivial, ?_⟩; gi_at_call 25; refine (each_in _ ao N cap _).mono ?_; rintro e w' ⟨rfl, rfl⟩)
  obtain ⟨c0, hc0⟩ : ∃ c0 : Array Value, c0 = #[.slice ca code.length cc, .slice ta atoms.length tc, .slice ao N cap, .slice ea cells.length ec, .int .i64 next, .slice oa out.length oc, .int .i64 room] := ⟨_, rfl⟩
  rw [← hc0]
  have hb0 : Below w.heap.size w (((w.alloc (.cells c0 38)).alloc (.cells #[.int .i64 0] 3)).alloc (.cells #[.slice ao N cap] 34)) := (((Below.refl _ w).alloc (Nat.le_refl _) _).alloc (by simp) _).alloc (by simp; omega) _
  have bS := (Boxed.new (w.alloc (.cells c0 38)) 3 (.int .i64 0)).alloc (.cells #[.slice ao N cap] 34)
  have bA := Boxed.new ((w.alloc (.cells c0 38)).alloc (.cells #[.int .i64 0] 3)) 34 (.slice ao N cap)
  have hsz : (((w.alloc (.cells c0 38)).alloc (.cells #[.int .i64 0] 3)).alloc (.cells #[.slice ao N cap] 34)).heap.size = w.heap.size + 3 := by simp
  have hq : (((w.alloc (.cells c0 38)).alloc (.cells #[.int .i64 0] 3)).alloc (.cells #[.slice ao N cap] 34)).cell? ⟨w.heap.size, 2, none⟩ = some (.slice ao N cap) := by
    rw [World.cell?_alloc_lt (h := by simp; omega), World.cell?_alloc_lt (h := by simp), World.cell?_alloc_new, hc0]; rfl
  simp only [World.size_alloc] at bA bS
  generalize (((w.alloc (.cells c0 38)).alloc (.cells #[.int .i64 0] 3)).alloc (.cells #[.slice ao N cap] 34)) = W0 at hb0 bS bA hsz hq ⊢
  have hRW : Rd W0 ao N f := hr.below hb0
  have hH0 : Hld (w.heap.size + 1) (w.heap.size + 1 + 1) ao N cap f W0 := ⟨bA, hRW, fun hn a e => by obtain ⟨b, o, e2, hc⟩ := hr hn; rw [e] at e2; cases e2; exact Nat.lt_succ_of_lt (World.block_lt_of_cell? w _ (hc 0 (by omega)))⟩
  have HRD : Hid (∀ V, Below (w.heap.size + 1) W0 V → Rd V ao N f ∧ V.cell? ⟨w.heap.size, 2, none⟩ = some (.slice ao N cap) ∧ Below w.heap.size w V) := fun V hb => by
    refine ⟨fun hn => ?_, ?_, hb0.trans (hb.mono (by omega))⟩
    · obtain ⟨b, o, e, hc⟩ := hr hn
      refine ⟨b, o, e, fun j hj => ?_⟩
      have hl := World.block_lt_of_cell? w _ (hc j hj)
      rw [hb.cell (p := ⟨b, o + j, none⟩) (Nat.lt_succ_of_lt hl), hb0.cell (p := ⟨b, o + j, none⟩) hl]; exact hc j hj
    · rw [hb.cell (p := ⟨w.heap.size, 2, none⟩) (Nat.lt_succ_self _)]; exact hq
  clear hRW hr hq
  refine range_over (by omega) (gf := 48) (lb := #[.pointer (some ⟨w.heap.size + 1 + 1, 0, none⟩)]) rfl (enters_of Try.func48 (by kernel_rfl) rfl) (SeqO.of (each_stops 7 (by omega) (w.heap.size + 1) (W0.heap.size + 2) (w.heap.size + 1 + 1) ao N cap f hN hcap W0 hH0)) (by omega) (by intro x; rfl)
    (fun pre V => Boxed V (w.heap.size + 1) 3 (.int .i64 (wsum (unB pre) : Nat)) ∧ Below (w.heap.size + 1) W0 V)
    (fun _ _ _ => False)
    (OwnFrom.and (Own.from (boxed_own _ _ _) _) (ownFrom_below (by omega) (by omega)))
    (fun _ _ _ _ _ hs _ _ => hs)
    ⟨bS, Below.refl _ _⟩
    (fun x a' V => ∃ Bx, Boxed3 V Bx x.1.1 x.1.2.1 x.1.2.2 ∧ a' = { tmps := #[.agg #[.slice ca code.length cc, .slice ta atoms.length tc, .slice ao N cap, .slice ea cells.length ec, .int .i64 next, .slice oa out.length oc, .int .i64 room], .pointer (some ⟨w.heap.size, 0, none⟩), .bool false, .pointer (some ⟨w.heap.size + 1, 0, none⟩), .pointer (some ⟨Bx, 0, none⟩), .pointer (some ⟨w.heap.size, 2, none⟩), .agg #[.slice ao N cap], .func (.func 48) #[] #[.pointer (some ⟨w.heap.size + 1 + 1, 0, none⟩)], .agg #[.int .i64 x.1.1, .int .i64 x.1.2.1, .bool x.1.2.2], undef, undef, undef, undef, undef, undef, undef, undef, undef, undef, undef, undef, undef, undef, undef, undef, undef], defers := [] })
    (fun x a' _ A C row hs hg hr => by obtain ⟨Bx, h2, h3⟩ := hs; exact ⟨Bx, boxed3_own Bx _ _ _ () A C row h2 hg (fun r e => (hr r e).2), h3⟩)
    ?assign ?body ?done ?stop
  case assign =>
    rintro l2 pre x V K ⟨hb, hB⟩ hK
    dsimp only [enB]
    gi_wp2
    exact hK _ _ ((KeepsOthers.alloc _ _).from _) (KB.of_below ((Below.refl _ V).alloc (Nat.le_refl _) _) (by have := hB.size; omega)) ⟨hb.alloc _, hB.alloc (by have := hB.size; omega) _⟩ ⟨V.heap.size, Boxed3.new V _ _ _, rfl⟩
  case body =>
    rintro l2 pre x a' V ⟨hb, hB⟩ ⟨Bx, bX, rfl⟩ hlt
    obtain ⟨q0, q1, q2⟩ := bX.cells
    have cS := hb.cell
    have fS := hb.frozen
    have h1 := wsum_le pre
    have h2 := x.2.hn
    have hsn := wsum_unB pre x
    have hk := KB.set (n₀ := w.heap.size + 1) (S := W0.heap.size + 2) hb (by omega) (by decide) (by decide) (by decide) (.int .i64 ((wsum (unB pre) : Nat) + ((x.1.2.1 : Nat) + 3)))
    have hbs := hb.set (.int .i64 ((wsum (unB pre) : Nat) + ((x.1.2.1 : Nat) + 3)))
    rw [show ((wsum (unB pre) : Nat) : Int) + ((x.1.2.1 : Nat) + 3) = (wsum (unB (pre ++ [x])) : Nat) by rw [hsn]; omega] at hbs hk
    generalize hS' : wsum (unB pre) = s at *
    generalize hT' : wsum (unB (pre ++ [x])) = t at *
    obtain ⟨⟨p, m, u⟩, hBk⟩ := x
    dsimp only at *
    have W2 : IntKind.i64.wrap (((m : Nat) : Int) + 3) = ((m : Nat) : Int) + 3 := by rw [IntKind.wrap_i64]; omega
    have W1 : IntKind.i64.wrap (((s : Nat) : Int) + (((m : Nat) : Int) + 3)) = ((t : Nat) : Int) := by rw [IntKind.wrap_i64]; omega
    have HK : Hid (KB (w.heap.size + 1) (W0.heap.size + 2) V (V.setCell ⟨w.heap.size + 1, 0, none⟩ (.int .i64 (t : Nat)))) := hk
    have HBS : Hid (Boxed (V.setCell ⟨w.heap.size + 1, 0, none⟩ (.int .i64 (t : Nat))) (w.heap.size + 1) 3 (.int .i64 (t : Nat))) := hbs
    have HT : Hid (wsum (unB (pre ++ [(⟨(p, m, u), hBk⟩ : BT f N)])) = t) := hT'
    have HB : Hid (Below (w.heap.size + 1) W0 V) := hB
    clear hk hbs hT' hS' hsn h1 h2 hB bX hb hH0 hb0 bS bA
    gi_wp2
    refine ⟨(KeepsOthers.setCell _ _ _).from _, HK.out, ?_, HB.out.setCell (p := ⟨w.heap.size + 1, 0, none⟩) (Nat.le_refl _) _⟩
    rw [HT.out]
    exact HBS.out
  case done =>
    rintro D xs V hD hS ⟨hb, hB⟩ hK
    have hxs : wsum (unB xs) ≤ 4200000000 := by
      have h1 := wsum_le xs
      have h2 : xs.length ≤ N := by
        have h3 := bk_len4 f N
        rw [← hS, unB_len] at h3; omega
      omega
    rw [hS] at hb hxs
    obtain ⟨hrd, hqq, hbw⟩ := HRD.out V hB
    have cS := hb.cell
    have hDl : D < V.heap.size := (Array.getElem?_eq_some_iff.1 hK).1
    have HAU : Hid (Calls Try.prog 26 #[.agg #[.slice ao N cap]] V fun e w' => e = .returned (.int .i64 (aud f N 0 false)) ∧ Below V.heap.size V w') := implAudit_any ao N cap f V hrd hN hcap
    obtain ⟨A, hA⟩ : ∃ A, A = aud f N 0 false := ⟨_, rfl⟩
    obtain ⟨S, hSS⟩ : ∃ S, S = wsum (bk f N 0) := ⟨_, rfl⟩
    have HE : Hid (soundB f N = (decide (A = -1) && decide (S = N))) := by show _ = _; rw [hA, hSS]; exact HSB.out
    rw [← hA] at HAU
    rw [← hSS] at cS hxs
    have HV : Hid (V.cell? ⟨w.heap.size + 1, 0, none⟩ = some (.int .i64 (S : Nat)) ∧ V.cell? ⟨w.heap.size, 2, none⟩ = some (.slice ao N cap) ∧ Below w.heap.size w V ∧ V.heap[D]? = some (.deferred (some [])) ∧ w.heap.size ≤ D) := ⟨cS, hqq, hbw, hK, by omega⟩
    clear hS hb hB hrd hbw cS hA hSS hDl hK hH0 hb0 bS bA
    gi_wp2
    refine ⟨trivial, (callsIn_wide.2 HAU.out).mono ?_⟩
    rintro e w4 ⟨rfl, hb4⟩
    obtain ⟨cS, cA, hbw, hK, hDw⟩ := HV.out
    have cS4 := (hb4.cell (p := ⟨w.heap.size + 1, 0, none⟩) (World.block_lt_of_cell? V _ cS)).trans cS
    have cA4 := (hb4.cell (p := ⟨w.heap.size, 2, none⟩) (World.block_lt_of_cell? V _ cA)).trans cA
    have HF : Hid (w4.heap[D]? = some (.deferred (some [])) ∧ Below w.heap.size w w4 ∧ w.heap.size ≤ D) := ⟨(hb4.block D (Array.getElem?_eq_some_iff.1 hK).1).trans hK, hbw.trans (hb4.mono hbw.size), hDw⟩
    clear hb4 cS cA hbw hK hDw HV HAU hqq
    by_cases hA1 : A = -1
    · have e1 : (A == (-1 : Int)) = true := by rw [beq_iff_eq]; exact hA1
      by_cases hS1 : S = N
      · have e2 : (((S : Nat) : Int) == ((N : Nat) : Int)) = true := by rw [beq_iff_eq]; omega
        have HEE : Hid (soundB f N = true) := by show _ = _; rw [HE.out, hA1, hS1]; simp
        clear hA1 hS1
        gi_wp2
        refine ⟨by simp, .inl ⟨_, _, rfl, run_takeDeferred HF.out.1, ?_⟩⟩
        exact ⟨_, results_tmp rfl _ _ _, by rw [HEE.out]; rfl, HF.out.2.1.trans (belowK_b (w := w) (Nat.le_refl _) w4 D _ _ (by have := HF.out.2.2; omega) HF.out.1 rfl rfl)⟩
      · have e2 : (((S : Nat) : Int) == ((N : Nat) : Int)) = false := by rw [beq_eq_false_iff_ne]; omega
        have HEE : Hid (soundB f N = false) := by show _ = _; rw [HE.out]; simp [hS1]
        clear hA1 hS1
        gi_wp2
        refine ⟨by simp, .inl ⟨_, _, rfl, run_takeDeferred HF.out.1, ?_⟩⟩
        exact ⟨_, results_tmp rfl _ _ _, by rw [HEE.out]; rfl, HF.out.2.1.trans (belowK_b (w := w) (Nat.le_refl _) w4 D _ _ (by have := HF.out.2.2; omega) HF.out.1 rfl rfl)⟩
    · have e1 : (A == (-1 : Int)) = false := by rw [beq_eq_false_iff_ne]; exact hA1
      have HEE : Hid (soundB f N = false) := by show _ = _; rw [HE.out]; simp [hA1]
      clear hA1
      gi_wp2
      refine ⟨by simp, .inl ⟨_, _, rfl, run_takeDeferred HF.out.1, ?_⟩⟩
      exact ⟨_, results_tmp rfl _ _ _, by rw [HEE.out]; rfl, HF.out.2.1.trans (belowK_b (w := w) (Nat.le_refl _) w4 D _ _ (by have := HF.out.2.2; omega) HF.out.1 rfl rfl)⟩
  case stop =>
    rintro D c pre V _ _ h _
    exact h.elim
end Go.Proofs.Ytdglefedbkgghaa
namespace Go.Proofs.Ytdglefedbkgghaa
open Go.RowKit Go.Shelf
open Go.Proofs.Ytdglefedbkgghaa.Code
set_option linter.unusedVariables false

/-- What stands while a list of places of the arena in a system's box is gone through. -/
structure Gv (w wr : World) (ao : Option Addr) (N cap : Nat) (f : Nat → Int) (la : Option Addr) (L : Nat) (h : Nat → Int) : Prop where
  below : Below w.heap.size w wr
  box : wr.cell? ⟨w.heap.size, 2, none⟩ = some (.slice ao N cap)
  rd : Rd wr ao N f
  list : Rd wr la L h
theorem Gv.call {w wr w1 : World} {ao : Option Addr} {N cap : Nat} {f : Nat → Int} {la : Option Addr} {L : Nat} {h : Nat → Int} (s : Gv w wr ao N cap f la L h) (hb : Below wr.heap.size wr w1) : Gv w w1 ao N cap f la L h :=
  ⟨below_join s.below hb, (hb.cell (p := ⟨w.heap.size, 2, none⟩) (World.block_lt_of_cell? wr _ s.box)).trans s.box, s.rd.below hb, s.list.below hb⟩

set_option maxHeartbeats 4000000 in
set_option maxRecDepth 100000 in
theorem specSound_any (p : Hp) (h : Hw) (w : World) (hra : RdI w h.ra p.N p.f) (hN : p.N ≤ 1048576) :
    Calls Try.prog 6 #[hpV p h] w fun e w' => e = .returned (.bool (soundB p.f p.N)) ∧ Below w.heap.size w w' := by
  obtain ⟨code, atoms, N, f, cells, next, out, room⟩ := p
  obtain ⟨ca, cc, ta, tc, ao, cap, ea, ec, oa, oc⟩ := h
  have HR : Hid (Rd w ao N f) := hra
  have HSB : Hid (soundB f N = (decide (aud f N 0 false = -1) && decide (wsum (bk f N 0) = N))) := by show _ = _; rfl
  dsimp only at hN ⊢
  clear hra
  go_enter Try.func6, Try.ntmps6
  go_wp2_with (go_at_call 17; fail)
  have hb0 := (Below.refl w.heap.size w).alloc (Nat.le_refl _) (.cells #[.slice ca code.length cc, .slice ta atoms.length tc, .slice ao N cap, .slice ea cells.length ec, .int .i64 next, .slice oa out.length oc, .int .i64 room] 38)
  have b0 : (w.alloc (.cells #[.slice ca code.length cc, .slice ta atoms.length tc, .slice ao N cap, .slice ea cells.length ec, .int .i64 next, .slice oa out.length oc, .int .i64 room] 38)).cell? ⟨w.heap.size, 2, none⟩ = some (.slice ao N cap) := World.cell?_alloc_new w _ _ 2
  refine (specBlocks_any ao N cap f _ (HR.out.below hb0) hN).mono ?_
  rintro e w1 ⟨v, rfl, hpl, hb1⟩
  obtain ⟨la, lc, rfl, h1, h2, h3, hrl⟩ := hpl.slice
  have HG0 : Hid (Gv w w1 ao N cap f la (bls f N 0).length (fun j => ((bls f N 0).getD j 0 : Nat))) :=
    ⟨below_join hb0 hb1, (hb1.cell (p := ⟨w.heap.size, 2, none⟩) (World.block_lt_of_cell? _ _ b0)).trans b0, HR.out.below (below_join hb0 hb1), hrl⟩
  have hlen := bk_len4 f N
  have HNT : Hid (∀ m, m < (bk f N 0).length → ∃ p n u, (bls f N 0).getD m 0 = p ∧ blkO f N p = some (n, u) ∧ (bk f N 0).take (m + 1) = (bk f N 0).take m ++ [(p, n, u)] ∧ n ≤ 4000 ∧ p + n + 3 ≤ N) := bk_nth f N
  rw [bk_len] at HG0 ⊢
  clear hpl hb1 h3 hrl hb0 h1 h2 b0
  obtain ⟨L, hL⟩ : ∃ L, L = (bk f N 0).length := ⟨_, rfl⟩
  rw [← hL] at HG0 HNT hlen ⊢
  have HLL : Hid (L = (bk f N 0).length) := hL
  clear hL
  generalize bls f N 0 = bs at *
  generalize bk f N 0 = K at *
  go_wp2_with fail
  go_loopw [4, 5] (fun v i wr => ∃ (m : Nat), m ≤ L ∧ i = .int .i64 m ∧ v = .int .i64 (wsum (K.take m) : Nat) ∧ wsum (K.take m) ≤ m * 4003 ∧ Gv w wr ao N cap f la L (fun j => (bs.getD j 0 : Nat))) (fun _ i _ => L - (intOf i).toNat)
  case atStart => exact ⟨0, Nat.zero_le _, rfl, by simp [wsum], by simp [wsum], HG0.out⟩
  case round =>
    obtain ⟨m, hm, rfl, rfl, hsum, hg⟩ := hrel
    have HG : Hid (Gv w wr ao N cap f la L (fun j => (bs.getD j 0 : Nat))) := hg
    have b0 := hg.box
    by_cases hlt : m < L
    · obtain ⟨lb, lo, rfl, hcl⟩ := hg.list (by omega)
      have cm : wr.cell? ⟨lb, lo + m, none⟩ = some (.int .i64 (bs.getD m 0 : Nat)) := hcl m hlt
      obtain ⟨p, n, u, hp, hB, htk, hn4, hfit⟩ := HNT.out m hlt
      rw [hp] at cm
      have HA : Hid (∀ x : Inn wr, Calls Try.prog 18 #[.agg #[.slice ao N cap], .int .i64 p] x.val fun e w' => e = .returned (bv (some (n, u))) ∧ Below x.val.heap.size x.val w') := fun x => by
        have := specAt_any ao N cap f p x.val (HG.out.rd.below x.bel) hN (by omega)
        rw [hB] at this
        exact this
      dsimp only [bv] at HA
      have HTK : Hid (K.take (m + 1) = K.take m ++ [(p, n, u)]) := htk
      have k0 := Inn.keep b0
      have k1 := Inn.keep cm
      haveI := inn_ne wr
      clear hg hcl hp hB htk
      obtain ⟨s, hs⟩ : ∃ s, s = wsum (K.take m) := ⟨_, rfl⟩
      have HS : Hid (s = wsum (K.take m)) := hs
      rw [← hs] at hsum ⊢
      clear hs
      have HS2 : Hid (wsum (K.take (m + 1)) = s + (n + 3)) := by show _ = _; rw [HTK.out, HS.out, wsum_snoc]
      go_wp2_with fail
      refine wp_region_inn ?_ ?_ ?_
      · kernel_rfl
      · kernel_rfl
      repeat (go_big_quiet_step (first
        | (go_at_call 18; exact calls_inn (HA.out _))))
      refine wpQuiet_nil ?_
      rintro w2 ⟨x2, h2⟩
      have hb2 : Below wr.heap.size wr w2 := by rw [h2]; exact x2.bel
      have HG2 : Hid (Gv w w2 ao N cap f (some ⟨lb, lo, none⟩) L (fun j => (bs.getD j 0 : Nat))) := HG.out.call hb2
      clear h2 x2 hb2 k0 k1 b0 cm HA
      go_wp2_with fail
      go_roundw
      case rel => exact ⟨m + 1, by omega, by go_num, by rw [HS2.out]; first | (congr 1; done) | (congr 1; omega), by rw [HS2.out]; omega, HG2.out⟩
      case measure => simp [intOf]; omega
    · have hme : m = K.length := by have := HLL.out; omega
      have HE : Hid (K.take m = K) := by show _ = _; rw [hme, List.take_length]
      obtain ⟨S, hS⟩ : ∃ S, S = wsum (K.take m) := ⟨_, rfl⟩
      have HSK : Hid (S = wsum K) := by show _ = _; rw [hS, HE.out]
      rw [← hS] at hsum ⊢
      obtain ⟨A, hA⟩ : ∃ A, A = aud f N 0 false := ⟨_, rfl⟩
      have HAU : Hid (Calls Try.prog 19 #[.agg #[.slice ao N cap]] wr fun e w' => e = .returned (.int .i64 A) ∧ Below wr.heap.size wr w') := by rw [hA]; exact specAudit_any ao N cap f wr HG.out.rd hN
      rw [← hA, ← HSK.out] at HSB
      clear hg hme hS hA HSK HE HNT
      go_wp2_with (go_at_call 19; fail)
      refine HAU.out.mono ?_
      rintro e w4 ⟨rfl, hb4⟩
      have HG4 : Hid (Gv w w4 ao N cap f la L (fun j => (bs.getD j 0 : Nat))) := HG.out.call hb4
      have c4 := HG4.out.box
      clear hb4 HG b0
      by_cases hA1 : A = -1
      · have e1 : (A == (-1 : Int)) = true := by rw [beq_iff_eq]; exact hA1
        by_cases hS1 : S = N
        · have e2 : (((S : Nat) : Int) == ((N : Nat) : Int)) = true := by rw [beq_iff_eq]; omega
          have HEE : Hid (soundB f N = true) := by show _ = _; rw [HSB.out, hA1, hS1]; simp
          clear hA1 hS1
          go_wp2_with fail
          go_ret
          exact ⟨by rw [HEE.out]; rfl, HG4.out.below⟩
        · have e2 : (((S : Nat) : Int) == ((N : Nat) : Int)) = false := by rw [beq_eq_false_iff_ne]; omega
          have HEE : Hid (soundB f N = false) := by show _ = _; rw [HSB.out]; simp [hS1]
          clear hA1 hS1
          go_wp2_with fail
          go_ret
          exact ⟨by rw [HEE.out]; rfl, HG4.out.below⟩
      · have e1 : (A == (-1 : Int)) = false := by rw [beq_eq_false_iff_ne]; exact hA1
        have HEE : Hid (soundB f N = false) := by show _ = _; rw [HSB.out]; simp [hA1]
        clear hA1
        go_wp2_with fail
        go_ret
        exact ⟨by rw [HEE.out]; rfl, HG4.out.below⟩
end Go.Proofs.Ytdglefedbkgghaa
