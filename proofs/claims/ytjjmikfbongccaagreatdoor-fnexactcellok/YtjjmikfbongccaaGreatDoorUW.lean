/-
  A cell together with what its words lead into: the program's box of it, and the cell out of it.
  (Ahead of it, in this text: slices.Grow of nothing, and slices.Concat of two lists of numbers. A cell: its numbers and its three lists of words; how the law measures it, copies it, compares it and marks it. The roots of a cell, both kinds.)
-/
import Derived.Test.YtjjmikfbongccaaGreatDoorInA
import Derived.Lib.AppendZerosOnto
import Derived.Lib.SliceRun
import Derived.Maps.AppendAt
import Derived.Deep.OwnRows
import Derived.RegionTactic
import Derived.Outline
import Derived.Deep.AppendLies
import Derived.Deep.RegionLaw
import Derived.BigRegion
namespace Go.Proofs.YtjjmikfbongccaaGreatDoor
open Go.RowKit
set_option linter.unusedVariables false

theorem infoPartsC {e : TypeId} {z : Value} {n b : Nat} (h : (Tryz.prog.info? e).map (fun i => (i.zero, i.size, i.bytes)) = some (some z, n, b)) : ∃ i, Tryz.prog.info? e = some i ∧ i.zero = some z ∧ i.size = n ∧ i.bytes = b := by
  obtain ⟨i, hi, he⟩ := Option.map_eq_some_iff.1 h
  simp only [Prod.mk.injEq] at he
  exact ⟨i, hi, he.1, he.2.1, he.2.2⟩
theorem undIntC : Tryz.prog.underlying 3 = some (.int .i64) := by kernel_rfl
set_option maxHeartbeats 1000000 in
set_option maxRecDepth 100000 in
theorem grow_any (n : Nat) (hn : n ≤ 2097152) (w : World) :
    Calls Tryz.prog 79 #[.slice none 0 0, .int .i64 n] w fun e w' => ∃ v, e = .returned v ∧ w'.ownsRow w.heap.size 3 1 v 0 [] ∧ Below w.heap.size w w' := by
  by_cases h0 : n = 0
  · subst h0
    go_enter Tryz.func79, Tryz.ntmps79
    go_wp2_with fail
    go_ret
    exact ⟨_, rfl, World.ownsRow_nil _ _ _ _, Below.refl _ _⟩
  · obtain ⟨i0, hi, hz, hs, hb⟩ := infoPartsC infoInt
    have hold : (Builtin.firstCells i0.size 0 (.slice none 0 0)).run Tryz.prog w.drew = .ok ([] : List Value).toArray w.drew := run_firstCells_none w.drew i0.size 0 0 0
    have hrz : ∀ ty, (Builtin.append_ #[23, 3] ty #[.slice none 0 0, .int .i64 (n : Int)]).run Tryz.prog w =
        .ok (.slice (some ⟨w.heap.size, 0, none⟩) n (grownCap w n 0 3)) (w.drew.alloc (.cells (#[] ++ Builtin.zeroCells #[.int .i64 0] n ++ Builtin.zeroCells #[.int .i64 0] (grownCap w n 0 3 - n)) 3)) := fun ty => by
      have h := Lib.run_append_grow_zeros w 23 3 ty 3 i0 (.int .i64 0) .i64 .i64 undInts undIntC hi hz none 0 0 [] hold n (by omega) (by omega) (by omega) (by omega) (by rw [hb]; omega)
        (by rw [Nat.zero_add]; exact growslice_fits (by omega) (by rw [hb]; omega))
      rw [Nat.zero_add] at h
      exact h
    have hGn : n ≤ grownCap w n 0 3 := grownCap_ge w _ _ _
    have hG63 : grownCap w n 0 3 ≤ maxLen := grownCap_le_maxLen w n 0 3 (by unfold maxLen; omega)
    obtain ⟨G, hG⟩ : ∃ G, G = grownCap w n 0 3 := ⟨_, rfl⟩
    rw [← hG] at hrz hGn hG63
    obtain ⟨cells, hcells⟩ : ∃ c : Array Value, c = #[] ++ Builtin.zeroCells #[.int .i64 0] n ++ Builtin.zeroCells #[.int .i64 0] (G - n) := ⟨_, rfl⟩
    have hcz : cells.size = G := by rw [hcells]; simp [Builtin.zeroCells]; omega
    have hg63 : G ≤ 9223372036854775807 := by unfold maxLen at hG63; omega
    rw [← hcells] at hrz
    have HO : Hid ((w.drew.alloc (.cells cells 3)).ownsRow w.heap.size 3 1 (.slice (some ⟨w.heap.size, 0, none⟩) 0 G) 0 []) :=
      ⟨rfl, .inr ⟨w.heap.size, G, cells, rfl, Nat.le_refl _, by show (w.heap.push _)[w.heap.size]? = _; simp, Nat.zero_le _, hG63, by rw [hcz]; omega, by simp⟩⟩
    have HB : Hid (Below w.heap.size w (w.drew.alloc (.cells cells 3))) := ((Below.refl _ _).drew).alloc (Nat.le_refl _) _
    clear hold hcells hG hi hz hs hb hcz hG63
    have hp : (0 : Int) < n := by omega
    go_enter Tryz.func79, Tryz.ntmps79
    go_wp2_with (at_builtin; refine Lib.wpList_append_run _ rfl _ _ _ _ rfl _ _ rfl rfl _ _ (hrz _) ?_)
    all_goals (go_ret; exact ⟨_, rfl, HO.out, HB.out⟩)

/-- N numbers at a place. -/
def rowL (N : Nat) (f : Nat → Int) : List Int := (List.range N).map f
theorem rowL_len (N : Nat) (f : Nat → Int) : (rowL N f).length = N := by simp [rowL]
theorem rowL_cells {w : World} {b o N : Nat} {f : Nat → Int} (h : ∀ j, j < N → w.cell? ⟨b, o + j, none⟩ = some (.int .i64 (f j))) : ∀ j u, ((rowL N f).map (Value.int .i64))[j]? = some u → w.cell? ((⟨b, o, none⟩ : Addr).add j) = some u := fun j u hu => by
  rw [Addr.add_lit]
  simp only [rowL, List.map_map, List.getElem?_map] at hu
  by_cases hj : j < N
  · rw [List.getElem?_range hj] at hu
    simp only [Option.map_some, Function.comp, Option.some.injEq] at hu
    rw [h j hj, hu]
  · rw [List.getElem?_eq_none (by simp; omega)] at hu
    cases hu
theorem oneI (xs : List Int) : ∀ u ∈ xs.map (Value.int .i64), u.oneCell' = true := fun u hu => by
  obtain ⟨x, _, rfl⟩ := List.mem_map.1 hu
  rfl
/-- A list that is the call's own. -/
def OwI (w : World) (B : Nat) (v : Value) (xs : List Int) : Prop := w.ownsRow B 3 1 v xs.length (xs.map (Value.int .i64))
/-- What a call does with its own list: two more lists behind it. -/
def catI (N : Nat) (f : Nat → Int) (M : Nat) (g : Nat → Int) : Nat → List Int
  | 0 => []
  | 1 => rowL N f
  | _ => rowL N f ++ rowL M g

set_option maxHeartbeats 2000000 in
set_option maxRecDepth 100000 in
theorem concat_any (x : Nat) (b1 o1 N c1 : Nat) (f : Nat → Int) (b2 o2 M c2 : Nat) (g : Nat → Int) (w : World) (hx : ∀ o, w.cell? ⟨x, o, none⟩ = (#[.slice (some ⟨b1, o1, none⟩) N c1, .slice (some ⟨b2, o2, none⟩) M c2] : Array Value)[o]?)
    (h1 : ∀ j, j < N → w.cell? ⟨b1, o1 + j, none⟩ = some (.int .i64 (f j))) (h2 : ∀ j, j < M → w.cell? ⟨b2, o2 + j, none⟩ = some (.int .i64 (g j))) (hN : N ≤ 1048576) (hM : M ≤ 1048576) :
    Calls Tryz.prog 59 #[.slice (some ⟨x, 0, none⟩) 2 2] w fun e w' => ∃ v, e = .returned v ∧ OwI w' w.heap.size v (rowL N f ++ rowL M g) ∧ Below w.heap.size w w' := by
  obtain ⟨i0, hi, hz0, hz1, hz2⟩ := infoPartsC infoInt
  have HI : Hid (Tryz.prog.info? 3 = some i0 ∧ i0.zero = some (.int .i64 0) ∧ i0.size = 1 ∧ i0.bytes = 8) := ⟨hi, hz0, hz1, hz2⟩
  clear hi hz0 hz1 hz2
  have HX : Hid (∀ w', Below w.heap.size w w' → w'.cell? ⟨x, 0, none⟩ = some (.slice (some ⟨b1, o1, none⟩) N c1) ∧ w'.cell? ⟨x, 1, none⟩ = some (.slice (some ⟨b2, o2, none⟩) M c2)) := fun w' hb => by
    have hlt : x < w.heap.size := World.block_lt_of_cell? w ⟨x, 0, none⟩ (hx 0)
    exact ⟨by rw [hb.cell (p := ⟨x, 0, none⟩) hlt]; exact hx 0, by rw [hb.cell (p := ⟨x, 1, none⟩) hlt]; exact hx 1⟩
  have H1 : Hid (∀ w', Below w.heap.size w w' → ∀ j, j < N → w'.cell? ⟨b1, o1 + j, none⟩ = some (.int .i64 (f j))) := fun w' hb j hj => by rw [hb.cell (p := ⟨b1, o1 + j, none⟩) (World.block_lt_of_cell? w _ (h1 j hj))]; exact h1 j hj
  have H2 : Hid (∀ w', Below w.heap.size w w' → ∀ j, j < M → w'.cell? ⟨b2, o2 + j, none⟩ = some (.int .i64 (g j))) := fun w' hb j hj => by rw [hb.cell (p := ⟨b2, o2 + j, none⟩) (World.block_lt_of_cell? w _ (h2 j hj))]; exact h2 j hj
  clear hx h1 h2
  go_enter Tryz.func59, Tryz.ntmps59
  go_wp2_with fail
  go_loop [3, 11] (fun a i => ∃ m : Nat, m ≤ 2 ∧ i = .int .i64 m ∧ a = .int .i64 (if m = 0 then (0 : Int) else if m = 1 then (N : Int) else (N : Int) + M)) (fun _ i => 2 - (intOf i).toNat)
  case atStart => exact ⟨0, by omega, rfl, rfl⟩
  case round =>
    obtain ⟨m, hm, rfl, rfl⟩ := hrel
    obtain ⟨q0, q1⟩ := HX.out w (Below.refl _ _)
    match m, hm with
    | 0, _ =>
      go_wp2_with fail
      go_round
      case rel => exact ⟨1, by omega, rfl, by simp⟩
      case measure => simp [intOf]
    | 1, _ =>
      go_wp2_with fail
      go_round
      case rel => exact ⟨2, by omega, rfl, by simp⟩
      case measure => simp [intOf]
    | 2, _ =>
      have HNM : Hid (N + M ≤ 2097152) := by show _ ≤ _; omega
      go_wp2_with (go_at_call 79; fail)
      rw [show (N : Int) + (M : Int) = ((N + M : Nat) : Int) by omega]
      refine (grow_any (N + M) HNM.out _).mono ?_
      rintro e w1 ⟨v1, rfl, ho1, hb1⟩
      have HO1 : Hid (w1.ownsRow w.heap.size 3 1 v1 0 []) := ho1
      have HB1 : Hid (Below w.heap.size w w1) := hb1
      clear ho1 hb1 q0 q1
      go_wp2_with fail
      go_loopw [6, 27] (fun a i w' => ∃ (m : Nat) (v : Value), m ≤ 2 ∧ i = .int .i64 m ∧ a = v ∧ OwI w' w.heap.size v (catI N f M g m) ∧ Below w.heap.size w w') (fun _ i _ => 2 - (intOf i).toNat)
      case atStart => exact ⟨0, _, by omega, rfl, rfl, HO1.out, HB1.out⟩
      case round =>
        obtain ⟨m, a, hm, rfl, ha, ho, hb⟩ := hrel
        obtain rfl := ha.symm
        have HO : Hid (OwI wr w.heap.size a (catI N f M g m)) := ho
        have HB : Hid (Below w.heap.size w wr) := hb
        obtain ⟨q0, q1⟩ := HX.out wr hb
        clear ho hb
        match m, hm with
        | 0, _ =>
          have HO : Hid (wr.ownsRow w.heap.size 3 1 a (([] : List Int)).length ((([] : List Int)).map (Value.int .i64))) := HO.out
          have HL : Hid (((rowL N f).map (Value.int .i64)).length = N * 1) := by show _ = _; rw [List.length_map, rowL_len]; omega
          have HC : Hid (∀ j u, ((rowL N f).map (Value.int .i64))[j]? = some u → wr.cell? ((⟨b1, o1, none⟩ : Addr).add j) = some u) := rowL_cells (H1.out wr HB.out)
          have C3 : Hid ((([] : List Int)).length + N ≤ maxLen) := by show _ ≤ _; simp; unfold maxLen; omega
          have C4 : Hid (((([] : List Int)).length + N) * 8 ≤ 140737488355328) := by show _ ≤ _; simp; omega
          have HQ : Hid (∀ v2 w2, w2.ownsRow w.heap.size 3 1 v2 ((([] : List Int)).length + N) ((([] : List Int)).map (Value.int .i64) ++ (rowL N f).map (Value.int .i64)) → OwI w2 w.heap.size v2 (catI N f M g 1)) := fun v2 w2 h => by
            unfold OwI catI
            simpa [rowL_len] using h
          have HGB : Hid (∀ w2, wr.grownBy w2 a.ownBlock → Below w.heap.size w w2) := fun w2 hg => HB.out.grown hg HB.out.size (fun k hk => by
            rcases HO.out.2 with ⟨h0, _⟩ | ⟨gg, cap, cur, h0, h1, _⟩
            · rw [h0] at hk; simp [Value.ownBlock] at hk
            · rw [h0] at hk; simp only [Value.ownBlock, Option.some.injEq] at hk; omega)
          go_wp2_with (at_builtin; refine wpList_append_own_at _ rfl _ _ 23 rfl w.heap.size 3 i0 (.int .i64 0) 1 8 undInts HI.out.1 HI.out.2.1 HI.out.2.2.1 HI.out.2.2.2 rfl Nat.zero_lt_one a (([] : List Int)).length ((([] : List Int)).map (Value.int .i64)) rfl HO.out ⟨b1, o1, none⟩ N c1 ((rowL N f).map (Value.int .i64)) rfl HL.out HC.out (oneI _) C3.out C4.out HB.out.size ?_; intro v2 w2 hown2 hgr2 hnn2 hat2; have HOW : Hid (OwI w2 w.heap.size v2 (catI N f M g 1)) := HQ.out v2 w2 hown2; have HBW : Hid (Below w.heap.size w w2) := HGB.out w2 hgr2; clear hown2 hgr2 hnn2 hat2)
          go_roundw
          case rel => exact ⟨1, _, by omega, rfl, rfl, HOW.out, HBW.out⟩
          case measure => simp [intOf]
        | 1, _ =>
          have HO : Hid (wr.ownsRow w.heap.size 3 1 a (rowL N f).length ((rowL N f).map (Value.int .i64))) := HO.out
          have HL : Hid (((rowL M g).map (Value.int .i64)).length = M * 1) := by show _ = _; rw [List.length_map, rowL_len]; omega
          have HC : Hid (∀ j u, ((rowL M g).map (Value.int .i64))[j]? = some u → wr.cell? ((⟨b2, o2, none⟩ : Addr).add j) = some u) := rowL_cells (H2.out wr HB.out)
          have C3 : Hid ((rowL N f).length + M ≤ maxLen) := by show _ ≤ _; simp [rowL_len]; unfold maxLen; omega
          have C4 : Hid (((rowL N f).length + M) * 8 ≤ 140737488355328) := by show _ ≤ _; simp [rowL_len]; omega
          have HQ : Hid (∀ v2 w2, w2.ownsRow w.heap.size 3 1 v2 ((rowL N f).length + M) ((rowL N f).map (Value.int .i64) ++ (rowL M g).map (Value.int .i64)) → OwI w2 w.heap.size v2 (catI N f M g 2)) := fun v2 w2 h => by
            unfold OwI catI
            simpa [rowL_len] using h
          have HGB : Hid (∀ w2, wr.grownBy w2 a.ownBlock → Below w.heap.size w w2) := fun w2 hg => HB.out.grown hg HB.out.size (fun k hk => by
            rcases HO.out.2 with ⟨h0, _⟩ | ⟨gg, cap, cur, h0, h1, _⟩
            · rw [h0] at hk; simp [Value.ownBlock] at hk
            · rw [h0] at hk; simp only [Value.ownBlock, Option.some.injEq] at hk; omega)
          go_wp2_with (at_builtin; refine wpList_append_own_at _ rfl _ _ 23 rfl w.heap.size 3 i0 (.int .i64 0) 1 8 undInts HI.out.1 HI.out.2.1 HI.out.2.2.1 HI.out.2.2.2 rfl Nat.zero_lt_one a (rowL N f).length ((rowL N f).map (Value.int .i64)) rfl HO.out ⟨b2, o2, none⟩ M c2 ((rowL M g).map (Value.int .i64)) rfl HL.out HC.out (oneI _) C3.out C4.out HB.out.size ?_; intro v2 w2 hown2 hgr2 hnn2 hat2; have HOW : Hid (OwI w2 w.heap.size v2 (catI N f M g 2)) := HQ.out v2 w2 hown2; have HBW : Hid (Below w.heap.size w w2) := HGB.out w2 hgr2; clear hown2 hgr2 hnn2 hat2)
          go_roundw
          case rel => exact ⟨2, _, by omega, rfl, rfl, HOW.out, HBW.out⟩
          case measure => simp [intOf]
        | 2, _ =>
          go_wp2_with fail
          go_ret
          exact ⟨_, rfl, HO.out, HB.out⟩
end Go.Proofs.YtjjmikfbongccaaGreatDoor
namespace Go.Proofs.YtjjmikfbongccaaGreatDoor
open Go.RowKit
set_option linter.unusedVariables false

structure Ce where
  pid : Int
  pc : Int
  R : Nat
  r : Nat → Int
  B : Nat
  b : Nat → Int
  N : Nat
  f : Nat → Int
  h : Int
structure Cw where
  ra : Option Addr
  rc : Nat
  ba : Option Addr
  bc : Nat
  la : Option Addr
  lc : Nat
abbrev ceV (c : Ce) (h : Cw) : Value := .agg #[.int .i64 c.pid, .int .i64 c.pc, .slice h.ra c.R h.rc, .slice h.ba c.B h.bc, .slice h.la c.N h.lc, .int .i64 c.h]
structure CeR (w : World) (c : Ce) (h : Cw) : Prop where
  r0 : RdI w h.ra c.R c.r
  b0 : RdI w h.ba c.B c.b
  l0 : RdI w h.la c.N c.f
theorem CeR.below {w w' : World} {c : Ce} {h : Cw} (x : CeR w c h) (hb : Below w.heap.size w w') : CeR w' c h := ⟨x.r0.below hb, x.b0.below hb, x.l0.below hb⟩
/-- No more than a million words in all. -/
def CeS (c : Ce) : Prop := c.R + c.B + c.N ≤ 1048576
theorem keepC {w w' : World} (h : Below w.heap.size w w') {b o : Nat} {v : Value} (hc : w.cell? ⟨b, o, none⟩ = some v) : w'.cell? ⟨b, o, none⟩ = some v := by
  rw [h.cell (p := ⟨b, o, none⟩) (World.block_lt_of_cell? w _ hc)]; exact hc

set_option maxHeartbeats 1000000 in
set_option maxRecDepth 100000 in
theorem szCell_any (c : Ce) (h : Cw) (left : Int) (w : World) (hR : c.R ≤ maxLen) (hB : c.B ≤ maxLen) (hL : c.N ≤ maxLen) (h0 : 0 ≤ left) (h1 : left ≤ 1048576) :
    Calls Tryz.prog 5 #[ceV c h, .int .i64 left] w fun e w' => (∃ r : Int, e = .returned (.int .i64 r) ∧ -1 ≤ r ∧ r ≤ left ∧ (0 ≤ r → CeS c)) ∧ Below w.heap.size w w' := by
  obtain ⟨pid, pc, R, r, B, b, N, f, ha⟩ := c
  obtain ⟨ra, rc, ba, bc, la, lc⟩ := h
  have HR : Hid (R ≤ maxLen) := hR
  have HB : Hid (B ≤ maxLen) := hB
  have HN : Hid (N ≤ maxLen) := hL
  clear hR hB hL
  obtain ⟨w0, hw0⟩ : ∃ w0, w0 = w.alloc (.cells #[.int .i64 pid, .int .i64 pc, .slice ra R rc, .slice ba B bc, .slice la N lc, .int .i64 ha] 25) := ⟨_, rfl⟩
  have HB0 : Hid (Below w.heap.size w w0) := by rw [hw0]; exact (Below.refl _ _).alloc (Nat.le_refl _) _
  have hq : ∀ j (v : Value), (#[.int .i64 pid, .int .i64 pc, .slice ra R rc, .slice ba B bc, .slice la N lc, .int .i64 ha] : Array Value)[j]? = some v → w0.cell? ⟨w.heap.size, j, none⟩ = some v := fun j v hv => by
    rw [hw0, World.cell?_alloc_new]; exact hv
  have d3 := hq 3 _ rfl
  have d4 := hq 4 _ rfl
  clear hq
  go_enter Tryz.func5, Tryz.ntmps5
  go_wp2_with fail
  rw [← hw0]
  clear hw0
  refine (szIntS_any ra R rc left HR.out ⟨h0, h1⟩ w0).mono ?_
  rintro e w1 ⟨rfl, hw1⟩
  obtain rfl := hw1.symm
  have z1 : -1 ≤ szI R left ∧ (szI R left ≤ left) ∧ (0 ≤ szI R left → szI R left = left - R) := by unfold szI; split <;> omega
  generalize szI R left = x1 at *
  by_cases hx1 : x1 < 0
  · go_wp2_with fail
    go_ret
    exact ⟨⟨-1, rfl, by omega, by omega, fun h => absurd h (by decide)⟩, HB0.out⟩
  · go_wp2_with fail
    refine (szIntS_any ba B bc x1 HB.out (by omega) w0).mono ?_
    rintro e w2 ⟨rfl, hw2⟩
    obtain rfl := hw2.symm
    have z2 : -1 ≤ szI B x1 ∧ (szI B x1 ≤ x1) ∧ (0 ≤ szI B x1 → szI B x1 = x1 - B) := by unfold szI; split <;> omega
    generalize szI B x1 = x2 at *
    by_cases hx2 : x2 < 0
    · go_wp2_with fail
      go_ret
      exact ⟨⟨-1, rfl, by omega, by omega, fun h => absurd h (by decide)⟩, HB0.out⟩
    · go_wp2_with fail
      refine (szIntS_any la N lc x2 HN.out (by omega) w0).mono ?_
      rintro e w3 ⟨rfl, hw3⟩
      obtain rfl := hw3.symm
      have z3 : -1 ≤ szI N x2 ∧ (szI N x2 ≤ x2) ∧ (0 ≤ szI N x2 → szI N x2 = x2 - N) := by unfold szI; split <;> omega
      generalize szI N x2 = x3 at *
      by_cases hx3 : x3 < 0
      · go_wp2_with fail
        go_ret
        exact ⟨⟨-1, rfl, by omega, by omega, fun h => absurd h (by decide)⟩, HB0.out⟩
      · have HALL : Hid (R + B + N ≤ 1048576) := by show _ ≤ _; omega
        go_wp2_with fail
        go_ret
        exact ⟨⟨x3, rfl, by omega, by omega, fun _ => HALL.out⟩, HB0.out⟩

set_option maxHeartbeats 1000000 in
set_option maxRecDepth 100000 in
theorem eqCell_same (c : Ce) (g h : Cw) (w : World) (hg : CeR w c g) (hh : CeR w c h) (hS : CeS c) :
    Calls Tryz.prog 15 #[ceV c g, ceV c h] w fun e w' => e = .returned (.bool true) ∧ Below w.heap.size w w' := by
  obtain ⟨pid, pc, R, r, B, b, N, f, ha⟩ := c
  obtain ⟨ra, rc, ba, bc, la, lc⟩ := g
  obtain ⟨ra', rc', ba', bc', la', lc'⟩ := h
  have HG : Hid (CeR w ⟨pid, pc, R, r, B, b, N, f, ha⟩ ⟨ra, rc, ba, bc, la, lc⟩) := hg
  have HH : Hid (CeR w ⟨pid, pc, R, r, B, b, N, f, ha⟩ ⟨ra', rc', ba', bc', la', lc'⟩) := hh
  have HS : Hid (R ≤ 1048576 ∧ B ≤ 1048576 ∧ N ≤ 1048576) := by unfold CeS at hS; exact ⟨by dsimp only at hS; omega, by dsimp only at hS; omega, by dsimp only at hS; omega⟩
  clear hg hh hS
  obtain ⟨w0, hw0⟩ : ∃ w0, w0 = (w.alloc (.cells #[.int .i64 pid, .int .i64 pc, .slice ra R rc, .slice ba B bc, .slice la N lc, .int .i64 ha] 36)).alloc (.cells #[.int .i64 pid, .int .i64 pc, .slice ra' R rc', .slice ba' B bc', .slice la' N lc', .int .i64 ha] 36) := ⟨_, rfl⟩
  have HB0 : Hid (Below w.heap.size w w0) := by rw [hw0]; exact ((Below.refl _ _).alloc (Nat.le_refl _) _).alloc (by simp) _
  have hq : ∀ j (v : Value), (#[.int .i64 pid, .int .i64 pc, .slice ra R rc, .slice ba B bc, .slice la N lc, .int .i64 ha] : Array Value)[j]? = some v → w0.cell? ⟨w.heap.size, j, none⟩ = some v := fun j v hv => by
    rw [hw0]
    refine keepC ((Below.refl _ _).alloc (Nat.le_refl _) _) ?_
    rw [World.cell?_alloc_new]; exact hv
  have hq' : ∀ j (v : Value), (#[.int .i64 pid, .int .i64 pc, .slice ra' R rc', .slice ba' B bc', .slice la' N lc', .int .i64 ha] : Array Value)[j]? = some v → w0.cell? ⟨w.heap.size + 1, j, none⟩ = some v := fun j v hv => by
    rw [hw0]
    have e : (w.alloc (.cells #[.int .i64 pid, .int .i64 pc, .slice ra R rc, .slice ba B bc, .slice la N lc, .int .i64 ha] 36)).heap.size = w.heap.size + 1 := by simp
    rw [← e, World.cell?_alloc_new]; exact hv
  have HC : Hid (∀ w1, Below w0.heap.size w0 w1 → (w1.cell? ⟨w.heap.size, 3, none⟩ = some (.slice ba B bc) ∧ w1.cell? ⟨w.heap.size, 4, none⟩ = some (.slice la N lc) ∧ w1.cell? ⟨w.heap.size, 5, none⟩ = some (.int .i64 ha)) ∧ (w1.cell? ⟨w.heap.size + 1, 3, none⟩ = some (.slice ba' B bc') ∧ w1.cell? ⟨w.heap.size + 1, 4, none⟩ = some (.slice la' N lc') ∧ w1.cell? ⟨w.heap.size + 1, 5, none⟩ = some (.int .i64 ha))) := fun w1 hb =>
    ⟨⟨keepC hb (hq 3 _ rfl), keepC hb (hq 4 _ rfl), keepC hb (hq 5 _ rfl)⟩, keepC hb (hq' 3 _ rfl), keepC hb (hq' 4 _ rfl), keepC hb (hq' 5 _ rfl)⟩
  clear hq hq'
  go_enter Tryz.func15, Tryz.ntmps15
  go_wp2_with fail
  rw [← hw0]
  clear hw0
  refine (eqIntS_same ra ra' R rc rc' r r w0 (HG.out.below HB0.out).r0 (HH.out.below HB0.out).r0 (fun _ _ => rfl) HS.out.1).mono ?_
  rintro e w1 ⟨rfl, hb1⟩
  have HB1 : Hid (Below w0.heap.size w0 w1) := hb1
  have HX1 : Hid (Below w.heap.size w w1) := HB0.out.trans (hb1.mono HB0.out.size)
  obtain ⟨⟨d3, _, _⟩, d3', _, _⟩ := HC.out w1 hb1
  clear hb1
  go_wp2_with fail
  refine (eqIntS_same ba ba' B bc bc' b b w1 (HG.out.below HX1.out).b0 (HH.out.below HX1.out).b0 (fun _ _ => rfl) HS.out.2.1).mono ?_
  rintro e w2 ⟨rfl, hb2⟩
  have HB2 : Hid (Below w0.heap.size w0 w2) := HB1.out.trans (hb2.mono HB1.out.size)
  have HX2 : Hid (Below w.heap.size w w2) := HX1.out.trans (hb2.mono HX1.out.size)
  obtain ⟨⟨_, d4, _⟩, _, d4', _⟩ := HC.out w2 HB2.out
  clear hb2 d3 d3'
  go_wp2_with fail
  refine (eqIntS_same la la' N lc lc' f f w2 (HG.out.below HX2.out).l0 (HH.out.below HX2.out).l0 (fun _ _ => rfl) HS.out.2.2).mono ?_
  rintro e w3 ⟨rfl, hb3⟩
  have HX3 : Hid (Below w.heap.size w w3) := HX2.out.trans (hb3.mono HX2.out.size)
  obtain ⟨⟨_, _, d5⟩, _, _, d5'⟩ := HC.out w3 (HB2.out.trans (hb3.mono HB2.out.size))
  clear hb3 d4 d4'
  go_wp2_with fail
  go_ret
  exact ⟨rfl, HX3.out⟩

/-! ### A copy -/
theorem cells_setC {w : World} {g j : Nat} {c c' : Array Value} {v x : Value} (hc : ∀ o, w.cell? ⟨g, o, none⟩ = c[o]?) (hj : c[j]? = some x) (h1 : c'[j]? = some v) (h2 : ∀ o, o ≠ j → c'[o]? = c[o]?) : ∀ o, (w.setCell ⟨g, j, none⟩ v).cell? ⟨g, o, none⟩ = c'[o]? := fun o => by
  by_cases e : o = j
  · subst e
    rw [World.cell?_setCell_same w ⟨g, o, none⟩ v ((hc o).trans hj)]; exact h1.symm
  · rw [World.cell?_setCell_other (h := fun q => e (by simp only [Addr.mk.injEq] at q; omega)), hc o]; exact (h2 o e).symm
theorem sixC {a b c d e f a' b' c' d' e' f' : Value} (j : Nat) (h : (0 ≠ j → a' = a) ∧ (1 ≠ j → b' = b) ∧ (2 ≠ j → c' = c) ∧ (3 ≠ j → d' = d) ∧ (4 ≠ j → e' = e) ∧ (5 ≠ j → f' = f)) : ∀ o, o ≠ j → (#[a', b', c', d', e', f'] : Array Value)[o]? = (#[a, b, c, d, e, f] : Array Value)[o]? := fun o ho => by
  obtain ⟨h0, h1, h2, h3, h4, h5⟩ := h
  match o, ho with
  | 0, ho => rw [h0 ho]; rfl
  | 1, ho => rw [h1 ho]; rfl
  | 2, ho => rw [h2 ho]; rfl
  | 3, ho => rw [h3 ho]; rfl
  | 4, ho => rw [h4 ho]; rfl
  | 5, ho => rw [h5 ho]; rfl
  | n + 6, _ => rw [Array.getElem?_eq_none (by simp), Array.getElem?_eq_none (by simp)]
/-- What a copy has in hand: its argument's box, the result's and its own. -/
structure Tc3 (w w1 : World) (c1 c2 c3 : Array Value) : Prop where
  be : Below w.heap.size w w1
  sz : w.heap.size + 3 ≤ w1.heap.size
  q1 : ∀ o, w1.cell? ⟨w.heap.size, o, none⟩ = c1[o]?
  q2 : ∀ o, w1.cell? ⟨w.heap.size + 1, o, none⟩ = c2[o]?
  q3 : ∀ o, w1.cell? ⟨w.heap.size + 1 + 1, o, none⟩ = c3[o]?
  f2 : ∀ o, w1.frozen? ⟨w.heap.size + 1, o, none⟩ = false
  f3 : ∀ o, w1.frozen? ⟨w.heap.size + 1 + 1, o, none⟩ = false
theorem Tc3.call {w w1 w2 : World} {c1 c2 c3 : Array Value} (h : Tc3 w w1 c1 c2 c3) (hb : Below w1.heap.size w1 w2) : Tc3 w w2 c1 c2 c3 := by
  have hz := h.sz
  exact ⟨h.be.trans (hb.mono h.be.size), Nat.le_trans h.sz hb.size, fun o => by rw [hb.cell (p := ⟨w.heap.size, o, none⟩) (by show w.heap.size < _; omega)]; exact h.q1 o,
    fun o => by rw [hb.cell (p := ⟨w.heap.size + 1, o, none⟩) (by show w.heap.size + 1 < _; omega)]; exact h.q2 o, fun o => by rw [hb.cell (p := ⟨w.heap.size + 1 + 1, o, none⟩) (by show w.heap.size + 1 + 1 < _; omega)]; exact h.q3 o,
    fun o => by rw [hb.frozen (p := ⟨w.heap.size + 1, o, none⟩) (by show w.heap.size + 1 < _; omega)]; exact h.f2 o, fun o => by rw [hb.frozen (p := ⟨w.heap.size + 1 + 1, o, none⟩) (by show w.heap.size + 1 + 1 < _; omega)]; exact h.f3 o⟩
theorem Tc3.set {w w1 : World} {c1 c2 c3 c3' : Array Value} (h : Tc3 w w1 c1 c2 c3) (j : Nat) {x v : Value} (hj : c3[j]? = some x) (h1 : c3'[j]? = some v) (h2 : ∀ o, o ≠ j → c3'[o]? = c3[o]?) : Tc3 w (w1.setCell ⟨w.heap.size + 1 + 1, j, none⟩ v) c1 c2 c3' := by
  refine ⟨h.be.setCell (by show w.heap.size ≤ w.heap.size + 1 + 1; omega) _, by rw [World.size_setCell]; exact h.sz, fun o => ?_, fun o => ?_, cells_setC h.q3 hj h1 h2, fun o => by rw [World.frozen?_setCell]; exact h.f2 o, fun o => by rw [World.frozen?_setCell]; exact h.f3 o⟩
  · rw [World.cell?_setCell_other (h := fun q => by simp only [Addr.mk.injEq] at q; omega)]; exact h.q1 o
  · rw [World.cell?_setCell_other (h := fun q => by simp only [Addr.mk.injEq] at q; omega)]; exact h.q2 o
theorem Tc3.new (w : World) (c1 c2 c3 : Array Value) (t1 t2 t3 : TypeId) : Tc3 w (((w.alloc (.cells c1 t1)).alloc (.cells c2 t2)).alloc (.cells c3 t3)) c1 c2 c3 := by
  have cl : ∀ {W : World} {b o : Nat} {c : Array Value} {t : TypeId} {f : Nat × Nat}, W.heap[b]? = some (.cells c t f) → W.cell? ⟨b, o, none⟩ = c[o]? := fun h => by simp [World.cell?, h]
  have fz : ∀ {W : World} {b o : Nat} {c : Array Value} {t : TypeId}, W.heap[b]? = some (.cells c t (0, 0)) → W.frozen? ⟨b, o, none⟩ = false := fun h => by simp [World.frozen?, h]
  have e1 : (((w.alloc (.cells c1 t1)).alloc (.cells c2 t2)).alloc (.cells c3 t3)).heap[w.heap.size]? = some (.cells c1 t1 (0, 0)) := by
    show (((w.heap.push _).push _).push _)[w.heap.size]? = _
    rw [Array.getElem?_push, if_neg (by simp; omega), Array.getElem?_push, if_neg (by simp), Array.getElem?_push, if_pos (by simp)]
  have e2 : (((w.alloc (.cells c1 t1)).alloc (.cells c2 t2)).alloc (.cells c3 t3)).heap[w.heap.size + 1]? = some (.cells c2 t2 (0, 0)) := by
    show (((w.heap.push _).push _).push _)[w.heap.size + 1]? = _
    rw [Array.getElem?_push, if_neg (by simp), Array.getElem?_push, if_pos (by simp)]
  have e3 : (((w.alloc (.cells c1 t1)).alloc (.cells c2 t2)).alloc (.cells c3 t3)).heap[w.heap.size + 1 + 1]? = some (.cells c3 t3 (0, 0)) := by
    show (((w.heap.push _).push _).push _)[w.heap.size + 1 + 1]? = _
    rw [Array.getElem?_push, if_pos (by simp)]
  exact ⟨(((Below.refl _ _).alloc (Nat.le_refl _) _).alloc (by simp) _).alloc (by simp; omega) _, by simp only [World.size_alloc]; omega, fun o => cl e1, fun o => cl e2, fun o => cl e3, fun o => fz e2, fun o => fz e3⟩

/-- The three lists, each in a block of its own, none of it below B. -/
structure CI (w : World) (c : Ce) (x y z : Nat) : Prop where
  r : Ints w x 0 c.R c.r
  b : Ints w y 0 c.B c.b
  l : Ints w z 0 c.N c.f
  xy : x < y
  yz : y < z
theorem CI.below {w w' : World} {c : Ce} {x y z : Nat} (h : CI w c x y z) (hz : z < w.heap.size) (hb : Below w.heap.size w w') : CI w' c x y z :=
  ⟨h.r.below hb (by have := h.xy; have := h.yz; omega), h.b.below hb (by have := h.yz; omega), h.l.below hb hz, h.xy, h.yz⟩
theorem CI.rd {w : World} {c : Ce} {x y z : Nat} (h : CI w c x y z) (p q s : Nat) : CeR w c ⟨some ⟨x, 0, none⟩, p, some ⟨y, 0, none⟩, q, some ⟨z, 0, none⟩, s⟩ := ⟨h.r.rdI, h.b.rdI, h.l.rdI⟩
abbrev cwN (c : Ce) (x y z : Nat) : Cw := ⟨some ⟨x, 0, none⟩, c.R, some ⟨y, 0, none⟩, c.B, some ⟨z, 0, none⟩, c.N⟩

set_option maxHeartbeats 1000000 in
set_option maxRecDepth 100000 in
theorem toCell_any (c : Ce) (h : Cw) (w : World) (hr : CeR w c h) (hs : CeS c) :
    Calls Tryz.prog 10 #[ceV c h] w fun e w' => ∃ x y z, e = .returned (ceV c (cwN c x y z)) ∧ w.heap.size ≤ x ∧ z < w'.heap.size ∧ CI w' c x y z ∧ Below w.heap.size w w' := by
  obtain ⟨pid, pc, R, r, B, b, N, f, ha⟩ := c
  obtain ⟨ra, rc, ba, bc, la, lc⟩ := h
  have HR : Hid (CeR w ⟨pid, pc, R, r, B, b, N, f, ha⟩ ⟨ra, rc, ba, bc, la, lc⟩) := hr
  have HS : Hid (R ≤ 1048576 ∧ B ≤ 1048576 ∧ N ≤ 1048576) := by unfold CeS at hs; exact ⟨by dsimp only at hs; omega, by dsimp only at hs; omega, by dsimp only at hs; omega⟩
  clear hr hs
  go_enter Tryz.func10, Tryz.ntmps10
  go_wp2_with fail
  have H0 : Tc3 w _ #[.int .i64 pid, .int .i64 pc, .slice ra R rc, .slice ba B bc, .slice la N lc, .int .i64 ha] #[.int .i64 0, .int .i64 0, .slice none 0 0, .slice none 0 0, .slice none 0 0, .int .i64 0] #[.int .i64 pid, .int .i64 pc, .slice none 0 0, .slice none 0 0, .slice none 0 0, .int .i64 0] := Tc3.new w _ _ _ 25 36 36
  obtain ⟨W0, hW0⟩ : ∃ W0, W0 = ((w.alloc (.cells #[.int .i64 pid, .int .i64 pc, .slice ra R rc, .slice ba B bc, .slice la N lc, .int .i64 ha] 25)).alloc (.cells #[.int .i64 0, .int .i64 0, .slice none 0 0, .slice none 0 0, .slice none 0 0, .int .i64 0] 36)).alloc (.cells #[.int .i64 pid, .int .i64 pc, .slice none 0 0, .slice none 0 0, .slice none 0 0, .int .i64 0] 36) := ⟨_, rfl⟩
  rw [← hW0] at H0 ⊢
  clear hW0
  have HT0 : Hid (Tc3 w W0 #[.int .i64 pid, .int .i64 pc, .slice ra R rc, .slice ba B bc, .slice la N lc, .int .i64 ha] #[.int .i64 0, .int .i64 0, .slice none 0 0, .slice none 0 0, .slice none 0 0, .int .i64 0] #[.int .i64 pid, .int .i64 pc, .slice none 0 0, .slice none 0 0, .slice none 0 0, .int .i64 0]) := H0
  clear H0
  refine (toIntS_any ra R rc r W0 ((HR.out.below HT0.out.be).r0) HS.out.1).mono ?_
  rintro e w1 ⟨rfl, hi1, hl1, hb1⟩
  have H1 := HT0.out.call hb1
  obtain ⟨x, hx⟩ : ∃ x, x = W0.heap.size := ⟨_, rfl⟩
  rw [← hx] at hi1 hl1 ⊢
  have HX : Hid (w.heap.size + 3 ≤ x) := by have := HT0.out.sz; show _ ≤ _; omega
  have H1s : Hid (Tc3 w (w1.setCell ⟨w.heap.size + 1 + 1, 2, none⟩ (.slice (some ⟨x, 0, none⟩) R R)) #[.int .i64 pid, .int .i64 pc, .slice ra R rc, .slice ba B bc, .slice la N lc, .int .i64 ha] #[.int .i64 0, .int .i64 0, .slice none 0 0, .slice none 0 0, .slice none 0 0, .int .i64 0] #[.int .i64 pid, .int .i64 pc, .slice (some ⟨x, 0, none⟩) R R, .slice none 0 0, .slice none 0 0, .int .i64 0]) := H1.set 2 rfl rfl (sixC 2 ⟨fun _ => rfl, fun _ => rfl, fun h => absurd rfl h, fun _ => rfl, fun _ => rfl, fun _ => rfl⟩)
  have hx0 := HX.out
  have HI1 : Hid (Ints (w1.setCell ⟨w.heap.size + 1 + 1, 2, none⟩ (.slice (some ⟨x, 0, none⟩) R R)) x 0 R r ∧ x < (w1.setCell ⟨w.heap.size + 1 + 1, 2, none⟩ (.slice (some ⟨x, 0, none⟩) R R)).heap.size) := ⟨hi1.turn ((Turn.refl (w.heap.size + 1 + 1) _).set 2 _) (by omega) hl1, by rw [World.size_setCell]; exact hl1⟩
  have q1 := H1.q1
  have q3 := H1.q3
  have f3 := H1.f3
  clear hi1 hl1 hb1 H1 hx hx0
  go_wp2_with fail
  obtain ⟨W1, hW1⟩ : ∃ W1, W1 = w1.setCell ⟨w.heap.size + 1 + 1, 2, none⟩ (.slice (some ⟨x, 0, none⟩) R R) := ⟨_, rfl⟩
  rw [← hW1] at H1s HI1 ⊢
  clear hW1 q1 q3 f3
  refine (toIntS_any ba B bc b W1 ((HR.out.below H1s.out.be).b0) HS.out.2.1).mono ?_
  rintro e w2 ⟨rfl, hi2, hl2, hb2⟩
  have H2 := H1s.out.call hb2
  obtain ⟨y, hy⟩ : ∃ y, y = W1.heap.size := ⟨_, rfl⟩
  rw [← hy] at hi2 hl2 ⊢
  have HY : Hid (x < y) := by have := HI1.out.2; show _ < _; omega
  have hx0 := HX.out
  have hy0 := HY.out
  have H2s : Hid (Tc3 w (w2.setCell ⟨w.heap.size + 1 + 1, 3, none⟩ (.slice (some ⟨y, 0, none⟩) B B)) #[.int .i64 pid, .int .i64 pc, .slice ra R rc, .slice ba B bc, .slice la N lc, .int .i64 ha] #[.int .i64 0, .int .i64 0, .slice none 0 0, .slice none 0 0, .slice none 0 0, .int .i64 0] #[.int .i64 pid, .int .i64 pc, .slice (some ⟨x, 0, none⟩) R R, .slice (some ⟨y, 0, none⟩) B B, .slice none 0 0, .int .i64 0]) := H2.set 3 rfl rfl (sixC 3 ⟨fun _ => rfl, fun _ => rfl, fun _ => rfl, fun h => absurd rfl h, fun _ => rfl, fun _ => rfl⟩)
  have HI2 : Hid (Ints (w2.setCell ⟨w.heap.size + 1 + 1, 3, none⟩ (.slice (some ⟨y, 0, none⟩) B B)) x 0 R r ∧ Ints (w2.setCell ⟨w.heap.size + 1 + 1, 3, none⟩ (.slice (some ⟨y, 0, none⟩) B B)) y 0 B b ∧ y < (w2.setCell ⟨w.heap.size + 1 + 1, 3, none⟩ (.slice (some ⟨y, 0, none⟩) B B)).heap.size) := ⟨(HI1.out.1.below hb2 HI1.out.2).turn ((Turn.refl (w.heap.size + 1 + 1) _).set 3 _) (by omega) (by omega), hi2.turn ((Turn.refl (w.heap.size + 1 + 1) _).set 3 _) (by omega) hl2, by rw [World.size_setCell]; exact hl2⟩
  have q1 := H2.q1
  have q3 := H2.q3
  have f3 := H2.f3
  clear hi2 hl2 hb2 H2 hy hx0 hy0
  go_wp2_with fail
  obtain ⟨W2, hW2⟩ : ∃ W2, W2 = w2.setCell ⟨w.heap.size + 1 + 1, 3, none⟩ (.slice (some ⟨y, 0, none⟩) B B) := ⟨_, rfl⟩
  rw [← hW2] at H2s HI2 ⊢
  clear hW2 q1 q3 f3
  refine (toIntS_any la N lc f W2 ((HR.out.below H2s.out.be).l0) HS.out.2.2).mono ?_
  rintro e w3 ⟨rfl, hi3, hl3, hb3⟩
  have H3 := H2s.out.call hb3
  obtain ⟨z, hz⟩ : ∃ z, z = W2.heap.size := ⟨_, rfl⟩
  rw [← hz] at hi3 hl3 ⊢
  have HZ : Hid (y < z) := by have := HI2.out.2.2; show _ < _; omega
  have hx0 := HX.out
  have hy0 := HY.out
  have hz0 := HZ.out
  have HI3 : Hid (CI w3 ⟨pid, pc, R, r, B, b, N, f, ha⟩ x y z ∧ z < w3.heap.size) := ⟨⟨HI2.out.1.below hb3 (by omega), HI2.out.2.1.below hb3 (by omega), hi3, hy0, hz0⟩, hl3⟩
  have HB3 : Hid (Below w.heap.size w w3) := H3.be
  have q1 := H3.q1
  have q2 := H3.q2
  have q3 := H3.q3
  have f2 := H3.f2
  have f3 := H3.f3
  clear hi3 hl3 hb3 H3 hz hx0 hy0 hz0
  go_wp2_with fail
  have tn : ∀ (W : World) (k o : Nat) (v : Value), k < w.heap.size + 3 → z < W.heap.size → CI W ⟨pid, pc, R, r, B, b, N, f, ha⟩ x y z → CI (W.setCell ⟨k, o, none⟩ v) ⟨pid, pc, R, r, B, b, N, f, ha⟩ x y z := fun W k o v hk hl h => by
    have := HX.out; have := HY.out; have := HZ.out
    exact ⟨h.r.turn ((Turn.refl k _).set o _) (by omega) (by omega), h.b.turn ((Turn.refl k _).set o _) (by omega) (by omega), h.l.turn ((Turn.refl k _).set o _) (by omega) hl, h.xy, h.yz⟩
  have hfin := HI3.out.1
  have hzl := HI3.out.2
  have b1 : w.heap.size ≤ w.heap.size + 1 := by omega
  have b2 : w.heap.size ≤ w.heap.size + 1 + 1 := by omega
  refine bodyPost_ret (v := .agg #[.int .i64 pid, .int .i64 pc, .slice (some ⟨x, 0, none⟩) R R, .slice (some ⟨y, 0, none⟩) B B, .slice (some ⟨z, 0, none⟩) N N, .int .i64 ha]) (by simp [results, Tryz.results10, go_sem, q2]) rfl ⟨x, y, z, rfl, by have := HX.out; omega, by simp only [World.size_setCell]; exact hzl, ?_, ?_⟩
  · iterate 7 (refine tn _ _ _ _ (by omega) (by simp only [World.size_setCell]; exact hzl) ?_)
    exact tn _ _ _ _ (by omega) hzl hfin
  · iterate 6 (refine Below.setCell ?_ b1 _)
    iterate 2 (refine Below.setCell ?_ b2 _)
    exact HB3.out
/-! ### Marks -/
def mkd (k : Int) : Nat → Int := fun j => k + j
/-- The three lists are marked, one behind the other; no other block turned. -/
structure MkC (w w' : World) (c : Ce) (x y z : Nat) (k : Int) : Prop where
  ci : CI w' { c with r := mkd k, b := mkd (k + c.R), f := mkd (k + c.R + c.B) } x y z
  os : w'.os = w.os
  tape : w'.tape = w.tape
  output : w'.output = w.output
  size : w.heap.size ≤ w'.heap.size
  block : ∀ b, b < w.heap.size → b ≠ x → b ≠ y → b ≠ z → w'.heap[b]? = w.heap[b]?
end Go.Proofs.YtjjmikfbongccaaGreatDoor
namespace Go.Proofs.YtjjmikfbongccaaGreatDoor
open Go.RowKit
set_option linter.unusedVariables false

/-- Registers and what waits stand somewhere. -/
structure Cat (w : World) (c : Ce) (h : Cw) (b1 o1 b2 o2 : Nat) : Prop where
  ra : h.ra = some ⟨b1, o1, none⟩
  ba : h.ba = some ⟨b2, o2, none⟩
  rs : ∀ j, j < c.R → w.cell? ⟨b1, o1 + j, none⟩ = some (.int .i64 (c.r j))
  bs : ∀ j, j < c.B → w.cell? ⟨b2, o2 + j, none⟩ = some (.int .i64 (c.b j))
theorem Cat.below {w w' : World} {c : Ce} {h : Cw} {b1 o1 b2 o2 : Nat} (x : Cat w c h b1 o1 b2 o2) (hb : Below w.heap.size w w') : Cat w' c h b1 o1 b2 o2 :=
  ⟨x.ra, x.ba, fun j hj => keepC hb (x.rs j hj), fun j hj => keepC hb (x.bs j hj)⟩
theorem CI.cat {w : World} {c : Ce} {x y z : Nat} (h : CI w c x y z) : Cat w c (cwN c x y z) x 0 y 0 := ⟨rfl, rfl, fun j hj => h.r.cell j hj, fun j hj => h.b.cell j hj⟩
/-- Its roots: registers, then what waits. -/
def rts (c : Ce) : List Int := rowL c.R c.r ++ rowL c.B c.b
theorem rts_len (c : Ce) : (rts c).length = c.R + c.B := by simp [rts, rowL_len]

set_option maxHeartbeats 1000000 in
set_option maxRecDepth 100000 in
theorem implRoots_any (c : Ce) (h : Cw) (b1 o1 b2 o2 : Nat) (w : World) (hc : Cat w c h b1 o1 b2 o2) (hs : CeS c) :
    Calls Tryz.prog 37 #[ceV c h] w fun e w' => ∃ v, e = .returned v ∧ OwI w' w.heap.size v (rts c) ∧ Below w.heap.size w w' := by
  obtain ⟨pid, pc, R, r, B, b, N, f, ha⟩ := c
  obtain ⟨ra, rc, ba, bc, la, lc⟩ := h
  have e1 := hc.ra
  have e2 := hc.ba
  dsimp only at e1 e2
  subst e1 e2
  have HS : Hid (R ≤ 1048576 ∧ B ≤ 1048576) := by unfold CeS at hs; dsimp only at hs; exact ⟨by omega, by omega⟩
  have HC : Hid (Cat w ⟨pid, pc, R, r, B, b, N, f, ha⟩ ⟨some ⟨b1, o1, none⟩, rc, some ⟨b2, o2, none⟩, bc, la, lc⟩ b1 o1 b2 o2) := hc
  clear hc hs
  go_enter Tryz.func37, Tryz.ntmps37
  go_wp2_with (go_at_call 59; fail)
  generalize hW : (w.alloc (.cells #[.int .i64 pid, .int .i64 pc, .slice (some ⟨b1, o1, none⟩) R rc, .slice (some ⟨b2, o2, none⟩) B bc, .slice la N lc, .int .i64 ha] 36)) = W
  have hb0 : Below w.heap.size w W := by rw [← hW]; exact (Below.refl _ _).alloc (Nat.le_refl _) _
  have hz0 : W.heap.size = w.heap.size + 1 := by rw [← hW, World.size_alloc]
  clear hW
  rw [← hz0]
  have hb1 : Below w.heap.size w (W.alloc (.cells #[.slice (some ⟨b1, o1, none⟩) R rc, .slice (some ⟨b2, o2, none⟩) B bc] 23)) := hb0.alloc hb0.size _
  refine (concat_any W.heap.size b1 o1 R rc r b2 o2 B bc b _ (fun o => World.cell?_alloc_new W _ _ o) (HC.out.below hb1).rs (HC.out.below hb1).bs HS.out.1 HS.out.2).mono ?_
  rintro e w2 ⟨v, rfl, ho2, hb2⟩
  have HO : Hid (OwI w2 w.heap.size v (rowL R r ++ rowL B b)) := by
    refine ⟨ho2.1, ho2.2.imp id ?_⟩
    rintro ⟨g, cap, cur, h1, h2, h3⟩
    exact ⟨g, cap, cur, h1, Nat.le_trans hb1.size h2, h3⟩
  have HB : Hid (Below w.heap.size w w2) := hb1.trans (hb2.mono hb1.size)
  clear ho2 hb2 hb1 hb0 hz0
  go_wp2_with fail
  go_ret
  exact ⟨_, rfl, HO.out, HB.out⟩

theorem step_append_any {P : Program} {w : World} {ops : Array Oper} {o : Oper} {a : Act} {K : Act → World → Prop} {Q : Exit → Act → World → Prop} {E : Prop} (hgd : o.guard = none) (s x : Operand) (t : TypeId)
    (ho : o.op = .call { callee := .builtin .append, args := #[s, x], argTypes := #[t, t] })
    (base : Nat) (e : TypeId) (i : TypeInfo) (z : Value) (size bytes : Nat) (ht : P.underlying t = some (.slice e)) (hi : P.info? e = some i) (hz : i.zero = some z)
    (hsize : i.size = size) (hby : i.bytes = bytes) (hzs : z.cells.size = size) (hsz : 0 < size)
    (v : Value) (n : Nat) (xs : List Value) (hs : a.eval s = v) (hown : w.ownsRow base e size v n xs)
    (ad : Addr) (m c : Nat) (news : List Value) (hx : a.eval x = .slice (some ad) m c) (hl : news.length = m * size) (hnews : ∀ j u, news[j]? = some u → w.cell? (ad.add j) = some u) (h1 : ∀ u ∈ news, u.oneCell' = true)
    (h63 : n + m ≤ maxLen) (hbytes : (n + m) * bytes ≤ 140737488355328) (hbase : base ≤ w.heap.size)
    (h : ∀ v' w', w'.ownsRow base e size v' (n + m) (xs ++ news) → w.grownBy w' v.ownBlock → (v'.ownBlock = v.ownBlock ∨ v'.ownBlock = some w.heap.size) → K (a.put o.dst v') w') :
    if Region.wanted o (yielded ops a.tmps) = true then Oper.wp P o a w K Q else E := by
  have hw : Region.wanted o (yielded ops a.tmps) = true := by simp [Region.wanted, hgd]
  rw [if_pos hw]
  obtain ⟨v', w', hr, h2, h3, h4, h5⟩ := run_append_own_at (P := P) w base t o.type e i z size bytes ht hi hz hsize hby hzs hsz v n xs hown ad m c news hl hnews h1 h63 hbytes hbase
  unfold Oper.wp execOp
  simp only [ho, resolve, invoke, builtin, Sem.run_bind, Sem.run_pure, Result.andThen_ok, List.map_toArray, List.map_cons, List.map_nil, hs, hx, hr]
  exact h v' w' h2 h3 h5

set_option maxHeartbeats 2000000 in
set_option maxRecDepth 100000 in
theorem specRoots_any (c : Ce) (h : Cw) (b1 o1 b2 o2 : Nat) (w : World) (hc : Cat w c h b1 o1 b2 o2) (hs : CeS c) :
    Calls Tryz.prog 24 #[ceV c h] w fun e w' => ∃ v, e = .returned v ∧ OwI w' w.heap.size v (rts c) ∧ Below w.heap.size w w' := by
  obtain ⟨pid, pc, R, r, B, b, N, f, ha⟩ := c
  obtain ⟨ra, rc, ba, bc, la, lc⟩ := h
  have e1 := hc.ra
  have e2 := hc.ba
  dsimp only at e1 e2
  subst e1 e2
  have HS : Hid (R ≤ 1048576 ∧ B ≤ 1048576) := by unfold CeS at hs; dsimp only at hs; exact ⟨by omega, by omega⟩
  obtain ⟨i0, hi, hz0, hz1, hz2⟩ := infoPartsC infoInt
  have HI : Hid (Tryz.prog.info? 3 = some i0 ∧ i0.zero = some (.int .i64 0) ∧ i0.size = 1 ∧ i0.bytes = 8) := ⟨hi, hz0, hz1, hz2⟩
  clear hi hz0 hz1 hz2
  obtain ⟨W0, hW0⟩ : ∃ W0, W0 = w.alloc (.cells #[.int .i64 pid, .int .i64 pc, .slice (some ⟨b1, o1, none⟩) R rc, .slice (some ⟨b2, o2, none⟩) B bc, .slice la N lc, .int .i64 ha] 36) := ⟨_, rfl⟩
  have hz0 : W0.heap.size = w.heap.size + 1 := by rw [hW0, World.size_alloc]
  have hb0 : Below w.heap.size w W0 := by rw [hW0]; exact (Below.refl _ _).alloc (Nat.le_refl _) _
  have hq : ∀ o, W0.cell? ⟨w.heap.size, o, none⟩ = (#[.int .i64 pid, .int .i64 pc, .slice (some ⟨b1, o1, none⟩) R rc, .slice (some ⟨b2, o2, none⟩) B bc, .slice la N lc, .int .i64 ha] : Array Value)[o]? := fun o => by rw [hW0]; exact World.cell?_alloc_new w _ _ o
  have q2 : W0.cell? ⟨w.heap.size, 2, none⟩ = some (.slice (some ⟨b1, o1, none⟩) R rc) := hq 2
  have q3 : W0.cell? ⟨w.heap.size, 3, none⟩ = some (.slice (some ⟨b2, o2, none⟩) B bc) := hq 3
  have HB : Hid (Below w.heap.size w (W0.alloc (.cells #[] 3)).drew) := (hb0.alloc hb0.size _).drew
  have hlt : w.heap.size < W0.heap.size := by omega
  have t2 : (W0.alloc (.cells #[] 3)).cell? ⟨w.heap.size, 2, none⟩ = some (.slice (some ⟨b1, o1, none⟩) R rc) := by rw [World.cell?_alloc_lt (h := hlt)]; exact q2
  have t3 : (W0.alloc (.cells #[] 3)).cell? ⟨w.heap.size, 3, none⟩ = some (.slice (some ⟨b2, o2, none⟩) B bc) := by rw [World.cell?_alloc_lt (h := hlt)]; exact q3
  have HW0 : Hid ((W0.alloc (.cells #[] 3)).drew.ownsRow W0.heap.size 3 1 (.slice (some ⟨W0.heap.size, 0, none⟩) 0 0) 0 []) := World.ownsRow_made (e := 3) (size := 1) W0 #[] 0 (Nat.le_refl _) (Nat.zero_le _) rfl
  have HZ : Hid (W0.heap.size ≤ (W0.alloc (.cells #[] 3)).drew.heap.size) := by show _ ≤ (W0.alloc (.cells #[] 3)).heap.size; rw [World.size_alloc]; omega
  have HQ3 : Hid (∀ W2, (W0.alloc (.cells #[] 3)).drew.grownBy W2 (some W0.heap.size) → W2.cell? ⟨w.heap.size, 3, none⟩ = some (.slice (some ⟨b2, o2, none⟩) B bc) ∧ Below w.heap.size w W2 ∧ W0.heap.size ≤ W2.heap.size) := fun W2 hg => by
    have hl2 : w.heap.size < (W0.alloc (.cells #[] 3)).drew.heap.size := by have := HZ.out; omega
    have hne : some w.heap.size ≠ some W0.heap.size := by simp; omega
    refine ⟨?_, HB.out.grown hg HB.out.size (fun k hk => by injection hk with hk; omega), Nat.le_trans HZ.out hg.size⟩
    rw [hg.cell_far ⟨w.heap.size, 3, none⟩ hl2 hne]
    exact t3
  have HSZ : Hid (W0.heap.size = w.heap.size + 1) := hz0
  have hr := hc.rs
  have hb := hc.bs
  dsimp only at hr hb
  have HL1 : Hid (((rowL R r).map (Value.int .i64)).length = R * 1) := by show _ = _; rw [List.length_map, rowL_len]; omega
  have HL2 : Hid (((rowL B b).map (Value.int .i64)).length = B * 1) := by show _ = _; rw [List.length_map, rowL_len]; omega
  have HC1 : Hid (∀ j u, ((rowL R r).map (Value.int .i64))[j]? = some u → (W0.alloc (.cells #[] 3)).drew.cell? ((⟨b1, o1, none⟩ : Addr).add j) = some u) := rowL_cells (fun j hj => keepC HB.out (hr j hj))
  have HC2 : Hid (∀ W2, Below w.heap.size w W2 → ∀ j u, ((rowL B b).map (Value.int .i64))[j]? = some u → W2.cell? ((⟨b2, o2, none⟩ : Addr).add j) = some u) := fun W2 hb2 => rowL_cells (fun j hj => keepC hb2 (hb j hj))
  have C3 : Hid (0 + R ≤ maxLen ∧ (0 + R) * 8 ≤ 140737488355328 ∧ 0 + R + B ≤ maxLen ∧ (0 + R + B) * 8 ≤ 140737488355328) := by
    have := HS.out; unfold maxLen; exact ⟨by omega, by omega, by omega, by omega⟩
  have HFIN : Hid (∀ v2 w2 v3 w3, Below w.heap.size w w2 → w2.ownsRow W0.heap.size 3 1 v2 (0 + R) ([] ++ (rowL R r).map (Value.int .i64)) → w2.grownBy w3 v2.ownBlock → w3.ownsRow W0.heap.size 3 1 v3 (0 + R + B) ([] ++ (rowL R r).map (Value.int .i64) ++ (rowL B b).map (Value.int .i64)) → OwI w3 w.heap.size v3 (rowL R r ++ rowL B b) ∧ Below w.heap.size w w3) := fun v2 w2 v3 w3 hb2 ho2 hg3 ho3 => by
    refine ⟨?_, hb2.grown hg3 hb2.size (fun k hk => ?_)⟩
    · unfold OwI
      rw [List.length_append, rowL_len, rowL_len, List.map_append]
      rw [List.nil_append, Nat.zero_add] at ho3
      refine ⟨ho3.1, ho3.2.imp id ?_⟩
      rintro ⟨g, cap, cur, h1, h2, h3⟩
      exact ⟨g, cap, cur, h1, by omega, h3⟩
    · rcases ho2.2 with ⟨h0, _⟩ | ⟨gg, cap, cur, h0, h1, _⟩
      · rw [h0] at hk; simp [Value.ownBlock] at hk
      · rw [h0] at hk; simp only [Value.ownBlock, Option.some.injEq] at hk; omega
  clear hr hb hc hs hq hb0 hlt
  go_enter Tryz.func24, Tryz.ntmps24
  go_wp2_with fail
  rw [← hW0]
  clear hW0
  rw [← hz0] at *
  go_region_law (first
    | (refine step_append_any rfl (.tmp 3) (.tmp 5) 23 rfl W0.heap.size 3 i0 (.int .i64 0) 1 8 undInts HI.out.1 HI.out.2.1 HI.out.2.2.1 HI.out.2.2.2 rfl Nat.zero_lt_one (.slice (some ⟨W0.heap.size, 0, none⟩) 0 0) 0 [] (by simp [Act.eval]) HW0.out ⟨b1, o1, none⟩ R rc ((rowL R r).map (Value.int .i64)) (by simp [Act.eval]) HL1.out HC1.out (oneI _) C3.out.1 C3.out.2.1 HZ.out ?_; intro v2 w2 hown2 hgr2 hat2; obtain ⟨t3b, hb2, hz2⟩ := HQ3.out w2 hgr2)
    | (refine step_append_any rfl (.tmp 6) (.tmp 8) 23 rfl W0.heap.size 3 i0 (.int .i64 0) 1 8 undInts HI.out.1 HI.out.2.1 HI.out.2.2.1 HI.out.2.2.2 rfl Nat.zero_lt_one v2 (0 + R) ([] ++ (rowL R r).map (Value.int .i64)) (by simp [Act.eval]) hown2 ⟨b2, o2, none⟩ B bc ((rowL B b).map (Value.int .i64)) (by simp [Act.eval]) HL2.out (HC2.out _ hb2) (oneI _) C3.out.2.2.1 C3.out.2.2.2 hz2 ?_; intro v3 w3 hown3 hgr3 hat3)
    | go_simp)
  all_goals
    have HF : Hid (OwI w3 w.heap.size v3 (rowL R r ++ rowL B b) ∧ Below w.heap.size w w3) := HFIN.out v2 w2 v3 w3 hb2 hown2 hgr3 hown3
    clear hown2 hown3 hgr2 hgr3 hat2 hat3 t3b hb2 hz2
    go_wp2_with fail
    go_ret
    exact ⟨_, rfl, HF.out.1, HF.out.2⟩
end Go.Proofs.YtjjmikfbongccaaGreatDoor
namespace Go.Proofs.YtjjmikfbongccaaGreatDoor
open Go.RowKit
set_option linter.unusedVariables false

/-- The ten cells of a resident. -/
abbrev resC (pid pc : Int) (ra : Option Addr) (R rc : Nat) (ba : Option Addr) (B bc : Nat) (la : Option Addr) (N lc : Nat) (ha : Int) (ao : Option Addr) (GN gcap : Nat) (yo : Option Addr) (GM ycap : Nat) (mk : Int) (av : Option Addr) (NL acap : Nat) : Array Value :=
  #[.int .i64 pid, .int .i64 pc, .slice la N lc, .slice ra R rc, .slice ba B bc, .int .i64 ha, .slice ao GN gcap, .slice yo GM ycap, .int .i64 mk, .slice av NL acap]
set_option maxHeartbeats 1000000 in
set_option maxRecDepth 100000 in
theorem residentOf_any (pid pc : Int) (ra : Option Addr) (R rc : Nat) (ba : Option Addr) (B bc : Nat) (la : Option Addr) (N lc : Nat) (ha : Int) (ao : Option Addr) (GN gcap : Nat) (yo : Option Addr) (GM ycap : Nat) (mk : Int) (av : Option Addr) (NL acap : Nat) (w : World) :
    Calls Tryz.prog 27 #[.agg #[.int .i64 pid, .int .i64 pc, .slice ra R rc, .slice ba B bc, .slice la N lc, .int .i64 ha], .agg #[.slice ao GN gcap, .slice yo GM ycap, .int .i64 mk], .slice av NL acap] w fun e w' => ∃ k, e = .returned (.pointer (some ⟨k, 0, none⟩)) ∧ (∀ o, w'.cell? ⟨k, o, none⟩ = (resC pid pc ra R rc ba B bc la N lc ha ao GN gcap yo GM ycap mk av NL acap)[o]?) ∧ k < w'.heap.size ∧ w.heap.size ≤ k ∧ Below w.heap.size w w' := by
  go_enter Tryz.func27, Tryz.ntmps27
  go_wp2
  generalize hW : (w.alloc (.cells #[.int .i64 pid, .int .i64 pc, .slice ra R rc, .slice ba B bc, .slice la N lc, .int .i64 ha] 36)).alloc (.cells #[.slice ao GN gcap, .slice yo GM ycap, .int .i64 mk] 38) = W
  have hb : Below w.heap.size w W := by rw [← hW]; exact ((Below.refl _ _).alloc (Nat.le_refl _) _).alloc (by simp) _
  have hz : W.heap.size = w.heap.size + 1 + 1 := by rw [← hW, World.size_alloc, World.size_alloc]
  clear hW
  go_ret
  rw [← hz]
  exact ⟨W.heap.size, rfl, fun o => World.cell?_alloc_new W _ _ o, by simp, hb.size, hb.alloc hb.size _⟩
set_option maxHeartbeats 2000000 in
set_option maxRecDepth 100000 in
theorem cellOf_any (pid pc : Int) (ra : Option Addr) (R rc : Nat) (ba : Option Addr) (B bc : Nat) (la : Option Addr) (N lc : Nat) (ha : Int) (k : Nat) (w : World)
    (h0 : w.cell? ⟨k, 0, none⟩ = some (.int .i64 pid)) (h1 : w.cell? ⟨k, 1, none⟩ = some (.int .i64 pc)) (h2 : w.cell? ⟨k, 2, none⟩ = some (.slice la N lc)) (h3 : w.cell? ⟨k, 3, none⟩ = some (.slice ra R rc)) (h4 : w.cell? ⟨k, 4, none⟩ = some (.slice ba B bc)) (h5 : w.cell? ⟨k, 5, none⟩ = some (.int .i64 ha)) :
    Calls Tryz.prog 38 #[.pointer (some ⟨k, 0, none⟩)] w fun e w' => e = .returned (.agg #[.int .i64 pid, .int .i64 pc, .slice ra R rc, .slice ba B bc, .slice la N lc, .int .i64 ha]) ∧ Below w.heap.size w w' := by
  have hlt : k < w.heap.size := World.block_lt_of_cell? w ⟨k, 0, none⟩ h0
  obtain ⟨W, hW⟩ : ∃ W, W = w.alloc (.cells #[.int .i64 0, .int .i64 0, .slice none 0 0, .slice none 0 0, .slice none 0 0, .int .i64 0] 36) := ⟨_, rfl⟩
  have HB : Hid (Below w.heap.size w W) := by rw [hW]; exact (Below.refl _ _).alloc (Nat.le_refl _) _
  have qz : ∀ o, W.cell? ⟨w.heap.size, o, none⟩ = (#[.int .i64 0, .int .i64 0, .slice none 0 0, .slice none 0 0, .slice none 0 0, .int .i64 0] : Array Value)[o]? := fun o => by rw [hW]; exact World.cell?_alloc_new w _ _ o
  have fz : ∀ o, W.frozen? ⟨w.heap.size, o, none⟩ = false := fun o => by rw [hW]; exact World.frozen?_alloc_new w _ _ o
  have c0 := keepC (w := w) (w' := W) ⟨HB.out.os, HB.out.tape, HB.out.output, HB.out.size, HB.out.block⟩ h0
  have c1 := keepC (w := w) (w' := W) HB.out h1
  have c2 := keepC (w := w) (w' := W) HB.out h2
  have c3 := keepC (w := w) (w' := W) HB.out h3
  have c4 := keepC (w := w) (w' := W) HB.out h4
  have c5 := keepC (w := w) (w' := W) HB.out h5
  have hne : ¬ k = w.heap.size := by omega
  clear h0 h1 h2 h3 h4 h5 hlt
  go_enter Tryz.func38, Tryz.ntmps38
  go_wp2_with fail
  rw [← hW]
  clear hW
  obtain ⟨z, hz⟩ : ∃ z, z = w.heap.size := ⟨_, rfl⟩
  have HZ : Hid (w.heap.size ≤ z) := by show _ ≤ _; omega
  rw [← hz] at qz fz hne ⊢
  clear hz
  go_region
  all_goals
    go_wp2_with fail
    refine bodyPost_ret (v := .agg #[.int .i64 pid, .int .i64 pc, .slice ra R rc, .slice ba B bc, .slice la N lc, .int .i64 ha]) (by simp [results, Tryz.results38, go_sem, qz]) rfl ⟨rfl, ?_⟩
    first
      | (refine Below.drew ?_
         iterate 6 (refine Below.setCell ?_ HZ.out _)
         exact HB.out)
      | (iterate 6 (refine Below.setCell ?_ HZ.out _)
         exact HB.out.drew)
end Go.Proofs.YtjjmikfbongccaaGreatDoor
