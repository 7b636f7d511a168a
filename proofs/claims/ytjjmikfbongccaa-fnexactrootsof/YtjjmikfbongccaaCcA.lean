/-
  slices.Grow of nothing, and slices.Concat of two lists of numbers.
-/
import Derived.Test.YtjjmikfbongccaaInA
import Derived.Lib.AppendZerosOnto
import Derived.Lib.SliceRun
import Derived.Maps.AppendAt
import Derived.Deep.OwnRows
import Derived.RegionTactic
import Derived.Outline
namespace Go.Proofs.Ytjjmikfbongccaa
open Go.RowKit
set_option linter.unusedVariables false

theorem infoPartsC {e : TypeId} {z : Value} {n b : Nat} (h : (Try.prog.info? e).map (fun i => (i.zero, i.size, i.bytes)) = some (some z, n, b)) : ∃ i, Try.prog.info? e = some i ∧ i.zero = some z ∧ i.size = n ∧ i.bytes = b := by
  obtain ⟨i, hi, he⟩ := Option.map_eq_some_iff.1 h
  simp only [Prod.mk.injEq] at he
  exact ⟨i, hi, he.1, he.2.1, he.2.2⟩
theorem undIntC : Try.prog.underlying 3 = some (.int .i64) := by kernel_rfl
set_option maxHeartbeats 1000000 in
set_option maxRecDepth 100000 in
theorem grow_any (n : Nat) (hn : n ≤ 2097152) (w : World) :
    Calls Try.prog 37 #[.slice none 0 0, .int .i64 n] w fun e w' => ∃ v, e = .returned v ∧ w'.ownsRow w.heap.size 3 1 v 0 [] ∧ Below w.heap.size w w' := by
  by_cases h0 : n = 0
  · subst h0
    go_enter Try.func37, Try.ntmps37
    go_wp2_with fail
    go_ret
    exact ⟨_, rfl, World.ownsRow_nil _ _ _ _, Below.refl _ _⟩
  · obtain ⟨i0, hi, hz, hs, hb⟩ := infoPartsC infoInt
    have hold : (Builtin.firstCells i0.size 0 (.slice none 0 0)).run Try.prog w.drew = .ok ([] : List Value).toArray w.drew := run_firstCells_none w.drew i0.size 0 0 0
    have hrz : ∀ ty, (Builtin.append_ #[22, 3] ty #[.slice none 0 0, .int .i64 (n : Int)]).run Try.prog w =
        .ok (.slice (some ⟨w.heap.size, 0, none⟩) n (grownCap w n 0 3)) (w.drew.alloc (.cells (#[] ++ Builtin.zeroCells #[.int .i64 0] n ++ Builtin.zeroCells #[.int .i64 0] (grownCap w n 0 3 - n)) 3)) := fun ty => by
      have h := Lib.run_append_grow_zeros w 22 3 ty 3 i0 (.int .i64 0) .i64 .i64 undInts undIntC hi hz none 0 0 [] hold n (by omega) (by omega) (by omega) (by omega) (by rw [hb]; omega)
        (by rw [Nat.zero_add]; exact growslice_fits (by omega) (by rw [hb]; omega))
      rw [Nat.zero_add] at h
      exact h
    have hGn : n ≤ grownCap w n 0 3 := grownCap_ge w _ _ _
    have hG63 : grownCap w n 0 3 ≤ maxLen := grownCap_le_maxLen w n 0 3 (by unfold maxLen; omega)
    obtain ⟨G, hG⟩ : ∃ G, G = grownCap w n 0 3 := ⟨_, rfl⟩
    rw [← hG] at hrz hGn hG63
    obtain ⟨cells, hcells⟩ : ∃ c : Array Value, c = #[] ++ Builtin.zeroCells #[.int .i64 0] n ++ Builtin.zeroCells #[.int .i64 0] (G - n) := ⟨_, rfl⟩
    have hcz : cells.size = G := by rw [hcells]; simp [Builtin.zeroCells]; omega
    have hg63 : G ≤ 9223372036854775807 := by unfold maxLen at hG63; omega
    rw [← hcells] at hrz
    have HO : Hid ((w.drew.alloc (.cells cells 3)).ownsRow w.heap.size 3 1 (.slice (some ⟨w.heap.size, 0, none⟩) 0 G) 0 []) :=
      ⟨rfl, .inr ⟨w.heap.size, G, cells, rfl, Nat.le_refl _, by show (w.heap.push _)[w.heap.size]? = _; simp, Nat.zero_le _, hG63, by rw [hcz]; omega, by simp⟩⟩
    have HB : Hid (Below w.heap.size w (w.drew.alloc (.cells cells 3))) := ((Below.refl _ _).drew).alloc (Nat.le_refl _) _
    clear hold hcells hG hi hz hs hb hcz hG63
    have hp : (0 : Int) < n := by omega
    go_enter Try.func37, Try.ntmps37
    go_wp2_with (at_builtin; refine Lib.wpList_append_run _ rfl _ _ _ _ rfl _ _ rfl rfl _ _ (hrz _) ?_)
    all_goals (go_ret; exact ⟨_, rfl, HO.out, HB.out⟩)

/-- N numbers at a place. -/
def rowL (N : Nat) (f : Nat → Int) : List Int := (List.range N).map f
theorem rowL_len (N : Nat) (f : Nat → Int) : (rowL N f).length = N := by simp [rowL]
theorem rowL_cells {w : World} {b o N : Nat} {f : Nat → Int} (h : ∀ j, j < N → w.cell? ⟨b, o + j, none⟩ = some (.int .i64 (f j))) : ∀ j u, ((rowL N f).map (Value.int .i64))[j]? = some u → w.cell? ((⟨b, o, none⟩ : Addr).add j) = some u := fun j u hu => by
  rw [Addr.add_lit]
  simp only [rowL, List.map_map, List.getElem?_map] at hu
  by_cases hj : j < N
  · rw [List.getElem?_range hj] at hu
    simp only [Option.map_some, Function.comp, Option.some.injEq] at hu
    rw [h j hj, hu]
  · rw [List.getElem?_eq_none (by simp; omega)] at hu
    cases hu
theorem oneI (xs : List Int) : ∀ u ∈ xs.map (Value.int .i64), u.oneCell' = true := fun u hu => by
  obtain ⟨x, _, rfl⟩ := List.mem_map.1 hu
  rfl
/-- A list that is the call's own. -/
def OwI (w : World) (B : Nat) (v : Value) (xs : List Int) : Prop := w.ownsRow B 3 1 v xs.length (xs.map (Value.int .i64))
/-- What a call does with its own list: two more lists behind it. -/
def catI (N : Nat) (f : Nat → Int) (M : Nat) (g : Nat → Int) : Nat → List Int
  | 0 => []
  | 1 => rowL N f
  | _ => rowL N f ++ rowL M g

set_option maxHeartbeats 2000000 in
set_option maxRecDepth 100000 in
theorem concat_any (x : Nat) (b1 o1 N c1 : Nat) (f : Nat → Int) (b2 o2 M c2 : Nat) (g : Nat → Int) (w : World) (hx : ∀ o, w.cell? ⟨x, o, none⟩ = (#[.slice (some ⟨b1, o1, none⟩) N c1, .slice (some ⟨b2, o2, none⟩) M c2] : Array Value)[o]?)
    (h1 : ∀ j, j < N → w.cell? ⟨b1, o1 + j, none⟩ = some (.int .i64 (f j))) (h2 : ∀ j, j < M → w.cell? ⟨b2, o2 + j, none⟩ = some (.int .i64 (g j))) (hN : N ≤ 1048576) (hM : M ≤ 1048576) :
    Calls Try.prog 29 #[.slice (some ⟨x, 0, none⟩) 2 2] w fun e w' => ∃ v, e = .returned v ∧ OwI w' w.heap.size v (rowL N f ++ rowL M g) ∧ Below w.heap.size w w' := by
  obtain ⟨i0, hi, hz0, hz1, hz2⟩ := infoPartsC infoInt
  have HI : Hid (Try.prog.info? 3 = some i0 ∧ i0.zero = some (.int .i64 0) ∧ i0.size = 1 ∧ i0.bytes = 8) := ⟨hi, hz0, hz1, hz2⟩
  clear hi hz0 hz1 hz2
  have HX : Hid (∀ w', Below w.heap.size w w' → w'.cell? ⟨x, 0, none⟩ = some (.slice (some ⟨b1, o1, none⟩) N c1) ∧ w'.cell? ⟨x, 1, none⟩ = some (.slice (some ⟨b2, o2, none⟩) M c2)) := fun w' hb => by
    have hlt : x < w.heap.size := World.block_lt_of_cell? w ⟨x, 0, none⟩ (hx 0)
    exact ⟨by rw [hb.cell (p := ⟨x, 0, none⟩) hlt]; exact hx 0, by rw [hb.cell (p := ⟨x, 1, none⟩) hlt]; exact hx 1⟩
  have H1 : Hid (∀ w', Below w.heap.size w w' → ∀ j, j < N → w'.cell? ⟨b1, o1 + j, none⟩ = some (.int .i64 (f j))) := fun w' hb j hj => by rw [hb.cell (p := ⟨b1, o1 + j, none⟩) (World.block_lt_of_cell? w _ (h1 j hj))]; exact h1 j hj
  have H2 : Hid (∀ w', Below w.heap.size w w' → ∀ j, j < M → w'.cell? ⟨b2, o2 + j, none⟩ = some (.int .i64 (g j))) := fun w' hb j hj => by rw [hb.cell (p := ⟨b2, o2 + j, none⟩) (World.block_lt_of_cell? w _ (h2 j hj))]; exact h2 j hj
  clear hx h1 h2
  go_enter Try.func29, Try.ntmps29
  go_wp2_with fail
  go_loop [3, 11] (fun a i => ∃ m : Nat, m ≤ 2 ∧ i = .int .i64 m ∧ a = .int .i64 (if m = 0 then (0 : Int) else if m = 1 then (N : Int) else (N : Int) + M)) (fun _ i => 2 - (intOf i).toNat)
  case atStart => exact ⟨0, by omega, rfl, rfl⟩
  case round =>
    obtain ⟨m, hm, rfl, rfl⟩ := hrel
    obtain ⟨q0, q1⟩ := HX.out w (Below.refl _ _)
    match m, hm with
    | 0, _ =>
      go_wp2_with fail
      go_round
      case rel => exact ⟨1, by omega, rfl, by simp⟩
      case measure => simp [intOf]
    | 1, _ =>
      go_wp2_with fail
      go_round
      case rel => exact ⟨2, by omega, rfl, by simp⟩
      case measure => simp [intOf]
    | 2, _ =>
      have HNM : Hid (N + M ≤ 2097152) := by show _ ≤ _; omega
      go_wp2_with (go_at_call 37; fail)
      rw [show (N : Int) + (M : Int) = ((N + M : Nat) : Int) by omega]
      refine (grow_any (N + M) HNM.out _).mono ?_
      rintro e w1 ⟨v1, rfl, ho1, hb1⟩
      have HO1 : Hid (w1.ownsRow w.heap.size 3 1 v1 0 []) := ho1
      have HB1 : Hid (Below w.heap.size w w1) := hb1
      clear ho1 hb1 q0 q1
      go_wp2_with fail
      go_loopw [6, 27] (fun a i w' => ∃ (m : Nat) (v : Value), m ≤ 2 ∧ i = .int .i64 m ∧ a = v ∧ OwI w' w.heap.size v (catI N f M g m) ∧ Below w.heap.size w w') (fun _ i _ => 2 - (intOf i).toNat)
      case atStart => exact ⟨0, _, by omega, rfl, rfl, HO1.out, HB1.out⟩
      case round =>
        obtain ⟨m, a, hm, rfl, ha, ho, hb⟩ := hrel
        obtain rfl := ha.symm
        have HO : Hid (OwI wr w.heap.size a (catI N f M g m)) := ho
        have HB : Hid (Below w.heap.size w wr) := hb
        obtain ⟨q0, q1⟩ := HX.out wr hb
        clear ho hb
        match m, hm with
        | 0, _ =>
          have HO : Hid (wr.ownsRow w.heap.size 3 1 a (([] : List Int)).length ((([] : List Int)).map (Value.int .i64))) := HO.out
          have HL : Hid (((rowL N f).map (Value.int .i64)).length = N * 1) := by show _ = _; rw [List.length_map, rowL_len]; omega
          have HC : Hid (∀ j u, ((rowL N f).map (Value.int .i64))[j]? = some u → wr.cell? ((⟨b1, o1, none⟩ : Addr).add j) = some u) := rowL_cells (H1.out wr HB.out)
          have C3 : Hid ((([] : List Int)).length + N ≤ maxLen) := by show _ ≤ _; simp; unfold maxLen; omega
          have C4 : Hid (((([] : List Int)).length + N) * 8 ≤ 140737488355328) := by show _ ≤ _; simp; omega
          have HQ : Hid (∀ v2 w2, w2.ownsRow w.heap.size 3 1 v2 ((([] : List Int)).length + N) ((([] : List Int)).map (Value.int .i64) ++ (rowL N f).map (Value.int .i64)) → OwI w2 w.heap.size v2 (catI N f M g 1)) := fun v2 w2 h => by
            unfold OwI catI
            simpa [rowL_len] using h
          have HGB : Hid (∀ w2, wr.grownBy w2 a.ownBlock → Below w.heap.size w w2) := fun w2 hg => HB.out.grown hg HB.out.size (fun k hk => by
            rcases HO.out.2 with ⟨h0, _⟩ | ⟨gg, cap, cur, h0, h1, _⟩
            · rw [h0] at hk; simp [Value.ownBlock] at hk
            · rw [h0] at hk; simp only [Value.ownBlock, Option.some.injEq] at hk; omega)
          go_wp2_with (at_builtin; refine wpList_append_own_at _ rfl _ _ 22 rfl w.heap.size 3 i0 (.int .i64 0) 1 8 undInts HI.out.1 HI.out.2.1 HI.out.2.2.1 HI.out.2.2.2 rfl Nat.zero_lt_one a (([] : List Int)).length ((([] : List Int)).map (Value.int .i64)) rfl HO.out ⟨b1, o1, none⟩ N c1 ((rowL N f).map (Value.int .i64)) rfl HL.out HC.out (oneI _) C3.out C4.out HB.out.size ?_; intro v2 w2 hown2 hgr2 hnn2 hat2; have HOW : Hid (OwI w2 w.heap.size v2 (catI N f M g 1)) := HQ.out v2 w2 hown2; have HBW : Hid (Below w.heap.size w w2) := HGB.out w2 hgr2; clear hown2 hgr2 hnn2 hat2)
          go_roundw
          case rel => exact ⟨1, _, by omega, rfl, rfl, HOW.out, HBW.out⟩
          case measure => simp [intOf]
        | 1, _ =>
          have HO : Hid (wr.ownsRow w.heap.size 3 1 a (rowL N f).length ((rowL N f).map (Value.int .i64))) := HO.out
          have HL : Hid (((rowL M g).map (Value.int .i64)).length = M * 1) := by show _ = _; rw [List.length_map, rowL_len]; omega
          have HC : Hid (∀ j u, ((rowL M g).map (Value.int .i64))[j]? = some u → wr.cell? ((⟨b2, o2, none⟩ : Addr).add j) = some u) := rowL_cells (H2.out wr HB.out)
          have C3 : Hid ((rowL N f).length + M ≤ maxLen) := by show _ ≤ _; simp [rowL_len]; unfold maxLen; omega
          have C4 : Hid (((rowL N f).length + M) * 8 ≤ 140737488355328) := by show _ ≤ _; simp [rowL_len]; omega
          have HQ : Hid (∀ v2 w2, w2.ownsRow w.heap.size 3 1 v2 ((rowL N f).length + M) ((rowL N f).map (Value.int .i64) ++ (rowL M g).map (Value.int .i64)) → OwI w2 w.heap.size v2 (catI N f M g 2)) := fun v2 w2 h => by
            unfold OwI catI
            simpa [rowL_len] using h
          have HGB : Hid (∀ w2, wr.grownBy w2 a.ownBlock → Below w.heap.size w w2) := fun w2 hg => HB.out.grown hg HB.out.size (fun k hk => by
            rcases HO.out.2 with ⟨h0, _⟩ | ⟨gg, cap, cur, h0, h1, _⟩
            · rw [h0] at hk; simp [Value.ownBlock] at hk
            · rw [h0] at hk; simp only [Value.ownBlock, Option.some.injEq] at hk; omega)
          go_wp2_with (at_builtin; refine wpList_append_own_at _ rfl _ _ 22 rfl w.heap.size 3 i0 (.int .i64 0) 1 8 undInts HI.out.1 HI.out.2.1 HI.out.2.2.1 HI.out.2.2.2 rfl Nat.zero_lt_one a (rowL N f).length ((rowL N f).map (Value.int .i64)) rfl HO.out ⟨b2, o2, none⟩ M c2 ((rowL M g).map (Value.int .i64)) rfl HL.out HC.out (oneI _) C3.out C4.out HB.out.size ?_; intro v2 w2 hown2 hgr2 hnn2 hat2; have HOW : Hid (OwI w2 w.heap.size v2 (catI N f M g 2)) := HQ.out v2 w2 hown2; have HBW : Hid (Below w.heap.size w w2) := HGB.out w2 hgr2; clear hown2 hgr2 hnn2 hat2)
          go_roundw
          case rel => exact ⟨2, _, by omega, rfl, rfl, HOW.out, HBW.out⟩
          case measure => simp [intOf]
        | 2, _ =>
          go_wp2_with fail
          go_ret
          exact ⟨_, rfl, HO.out, HB.out⟩
end Go.Proofs.Ytjjmikfbongccaa
