/-
  A copy of an arena, and what the specification's Alloc hands out: an arena of its own with as many words.
-/
import Derived.Test.YtmongbpdbcbhlaaUsA
namespace Go.Proofs.Ytmongbpdbcbhlaa
open Go.RowKit
set_option linter.unusedVariables false

theorem ints_of_own {w : World} {base : Nat} {e : TypeId} {g N cap : Nat} {f : Nat → Int} (h : w.ownsRow base e 1 (.slice (some ⟨g, 0, none⟩) N cap) N ((List.range N).map fun j => Value.int .i64 (f j))) : Ints w g 0 N f ∧ base ≤ g ∧ N ≤ cap := by
  have hc := h.cells (g := g) rfl
  rcases h.2 with ⟨hv, _⟩ | ⟨g', cap', cur, hv, hb, hg, hle, _⟩
  · cases hv
  · simp only [Value.slice.injEq, Option.some.injEq, Addr.mk.injEq, true_and, and_true] at hv
    obtain ⟨rfl, rfl⟩ := hv
    refine ⟨⟨fun j hj => ?_, fun x => ?_⟩, hb, hle⟩
    · have := hc j (.int .i64 (f j)) (by simp [hj])
      rw [Addr.add_lit] at this
      exact this
    · unfold World.frozen?
      rw [hg]
      simp

theorem src_ints {w : World} {b o N : Nat} {f : Nat → Int} (hc : ∀ j, j < N → w.cell? ⟨b, o + j, none⟩ = some (.int .i64 (f j))) : ∀ j u, ((List.range N).map fun j => Value.int .i64 (f j))[j]? = some u → w.cell? ((⟨b, o, none⟩ : Addr).add j) = some u := fun j u hu => by
  rw [Addr.add_lit]
  rw [List.getElem?_map] at hu
  by_cases hj : j < N
  · rw [List.getElem?_range hj] at hu
    cases hu
    exact hc j hj
  · rw [List.getElem?_eq_none (by simp; omega)] at hu
    cases hu
theorem one_ints (N : Nat) (f : Nat → Int) : ∀ u ∈ (List.range N).map fun j => Value.int .i64 (f j), u.oneCell' = true := fun u hu => by
  obtain ⟨j, _, rfl⟩ := List.mem_map.1 hu
  rfl

theorem keep_grow {W w3 : World} {B row : Nat} {v : Value} (hq : W.cell? ⟨B, 0, none⟩ = some v ∧ W.frozen? ⟨B, 0, none⟩ = false) (hg : W.grownBy w3 (some row)) (hne : B ≠ row) : w3.cell? ⟨B, 0, none⟩ = some v ∧ w3.frozen? ⟨B, 0, none⟩ = false := by
  have hl := World.block_lt_of_cell? W _ hq.1
  have hn : some (⟨B, 0, none⟩ : Addr).block ≠ some row := fun e => hne (by injection e)
  exact ⟨(World.grownBy.cell_far hg ⟨B, 0, none⟩ hl hn).trans hq.1, (World.grownBy.frozen_far hg ⟨B, 0, none⟩ hl hn).trans hq.2⟩

set_option maxHeartbeats 2000000 in
set_option maxRecDepth 100000 in
theorem copy_any (b o N cap : Nat) (f : Nat → Int) (w : World) (hc : ∀ j, j < N → w.cell? ⟨b, o + j, none⟩ = some (.int .i64 (f j))) (h1 : 1 ≤ N) (hN : N ≤ 4000) :
    Calls Try.prog 34 #[.agg #[.slice (some ⟨b, o, none⟩) N cap]] w fun e w' => ∃ g cc, e = .returned (.agg #[.slice (some ⟨g, 0, none⟩) N cc]) ∧ w.heap.size + 2 ≤ g ∧ Below w.heap.size w w' ∧ Ints w' g 0 N f ∧ N ≤ cc := by
  obtain ⟨i0, hi, hz0, hz1, hz2⟩ := info_parts infoInt
  have HI : Hid (Try.prog.info? 3 = some i0 ∧ i0.zero = some (.int .i64 0) ∧ i0.size = 1 ∧ i0.bytes = 8) := ⟨hi, hz0, hz1, hz2⟩
  clear hi hz0 hz1 hz2
  have hb : b < w.heap.size := World.block_lt_of_cell? w _ (hc 0 h1)
  have HC : Hid (∀ j, j < N → w.cell? ⟨b, o + j, none⟩ = some (.int .i64 (f j))) := hc
  clear hc
  have hz : ((w.alloc (.cells #[.slice (some ⟨b, o, none⟩) N cap] 26)).alloc (.cells #[.slice none 0 0] 26)).heap.size = w.heap.size + 2 := by simp
  have HO : Hid ((((w.alloc (.cells #[.slice (some ⟨b, o, none⟩) N cap] 26)).alloc (.cells #[.slice none 0 0] 26)).alloc (.cells #[] 3)).ownsRow (w.heap.size + 2) 3 1 (.slice (some ⟨w.heap.size + 1 + 1, 0, none⟩) 0 0) 0 []) := by
    have := World.ownsRow_made (base := w.heap.size + 2) (e := 3) (size := 1) ((w.alloc (.cells #[.slice (some ⟨b, o, none⟩) N cap] 26)).alloc (.cells #[.slice none 0 0] 26)) #[] 0 (Nat.le_of_eq hz.symm) (Nat.zero_le _) rfl
    rw [hz] at this
    exact this
  have hB3 := (((Below.refl w.heap.size w).alloc (Nat.le_refl _) (.cells #[.slice (some ⟨b, o, none⟩) N cap] 26)).alloc (by simp) (.cells #[.slice none 0 0] 26)).alloc (by omega) (.cells #[] 3)
  have HB3 : Hid (Below w.heap.size w (((w.alloc (.cells #[.slice (some ⟨b, o, none⟩) N cap] 26)).alloc (.cells #[.slice none 0 0] 26)).alloc (.cells #[] 3))) := hB3
  have C1 : Hid (∀ j u, ((List.range N).map fun j => Value.int .i64 (f j))[j]? = some u → (((w.alloc (.cells #[.slice (some ⟨b, o, none⟩) N cap] 26)).alloc (.cells #[.slice none 0 0] 26)).alloc (.cells #[] 3)).cell? ((⟨b, o, none⟩ : Addr).add j) = some u) :=
    src_ints (fun j hj => (hB3.cell (p := ⟨b, o + j, none⟩) hb).trans (HC.out j hj))
  have q1 : (((w.alloc (.cells #[.slice (some ⟨b, o, none⟩) N cap] 26)).alloc (.cells #[.slice none 0 0] 26)).alloc (.cells #[] 3)).cell? ⟨w.heap.size + 1, 0, none⟩ = some (.slice none 0 0) := by
    rw [World.cell?_alloc_lt (h := by show w.heap.size + 1 < _; omega)]
    have := World.cell?_alloc_new (w.alloc (.cells #[.slice (some ⟨b, o, none⟩) N cap] 26)) #[.slice none 0 0] 26 0
    rw [World.size_alloc] at this
    exact this
  have f1 : (((w.alloc (.cells #[.slice (some ⟨b, o, none⟩) N cap] 26)).alloc (.cells #[.slice none 0 0] 26)).alloc (.cells #[] 3)).frozen? ⟨w.heap.size + 1, 0, none⟩ = false := by
    have h3 := (Below.refl _ ((w.alloc (.cells #[.slice (some ⟨b, o, none⟩) N cap] 26)).alloc (.cells #[.slice none 0 0] 26))).alloc (Nat.le_refl _) (.cells #[] 3)
    rw [h3.frozen (p := ⟨w.heap.size + 1, 0, none⟩) (by show w.heap.size + 1 < _; omega)]
    have := World.frozen?_alloc_new (w.alloc (.cells #[.slice (some ⟨b, o, none⟩) N cap] 26)) #[.slice none 0 0] 26 0
    rw [World.size_alloc] at this
    exact this
  have HQ1 : Hid ((((w.alloc (.cells #[.slice (some ⟨b, o, none⟩) N cap] 26)).alloc (.cells #[.slice none 0 0] 26)).alloc (.cells #[] 3)).cell? ⟨w.heap.size + 1, 0, none⟩ = some (.slice none 0 0) ∧ (((w.alloc (.cells #[.slice (some ⟨b, o, none⟩) N cap] 26)).alloc (.cells #[.slice none 0 0] 26)).alloc (.cells #[] 3)).frozen? ⟨w.heap.size + 1, 0, none⟩ = false) := ⟨q1, f1⟩
  have HL : Hid (((List.range N).map fun j => Value.int .i64 (f j)).length = N * 1) := by show _ = _; simp
  have C3 : Hid (0 + N ≤ maxLen) := by show _ ≤ _; unfold maxLen; omega
  have C4 : Hid ((0 + N) * 8 ≤ 140737488355328) := by show _ ≤ _; omega
  have HZ3 : Hid ((((w.alloc (.cells #[.slice (some ⟨b, o, none⟩) N cap] 26)).alloc (.cells #[.slice none 0 0] 26)).alloc (.cells #[] 3)).heap.size = w.heap.size + 3) := by show _ = _; simp
  have C5 : Hid (w.heap.size + 2 ≤ (((w.alloc (.cells #[.slice (some ⟨b, o, none⟩) N cap] 26)).alloc (.cells #[.slice none 0 0] 26)).alloc (.cells #[] 3)).heap.size) := by show _ ≤ _; rw [HZ3.out]; omega
  have HNE : Hid (w.heap.size + 1 ≠ w.heap.size + 1 + 1) := by show _ ≠ _; omega
  clear hz hB3 q1 f1
  go_enter Try.func34, Try.ntmps34
  go_wp2_with (at_builtin; refine wpList_append_lies _ rfl _ _ 24 rfl (w.heap.size + 2) 3 i0 (.int .i64 0) 1 8 undInts HI.out.1 HI.out.2.1 HI.out.2.2.1 HI.out.2.2.2 rfl Nat.zero_lt_one _ _ _ rfl HO.out ⟨b, o, none⟩ N cap ((List.range N).map fun j => Value.int .i64 (f j)) rfl HL.out C1.out (one_ints N f) h1 C3.out C4.out C5.out _ rfl ?_; intro g3 vc3 w3 hown3 hgr3 hat3 hlt3; obtain ⟨q3, f3⟩ := keep_grow (row := w.heap.size + 1 + 1) HQ1.out hgr3 HNE.out)
  have hown4 : w3.ownsRow (w.heap.size + 2) 3 1 (.slice (some ⟨g3, 0, none⟩) N vc3) N ((List.range N).map fun j => Value.int .i64 (f j)) := by
    rw [Nat.zero_add] at hown3
    exact hown3
  obtain ⟨hints, hbase, hcap⟩ := ints_of_own hown4
  have hbl : Below w.heap.size w w3 := HB3.out.grown hgr3 HB3.out.size (fun k hk => by have e : some (w.heap.size + 1 + 1) = some k := hk; injection e with e; omega)
  refine bodyPost_ret (v := .agg #[.slice (some ⟨g3, 0, none⟩) N vc3]) (by simp [results, Try.results34, go_sem, q3]) rfl ⟨g3, vc3, rfl, hbase, hbl.setCell (by show w.heap.size ≤ w.heap.size + 1; omega) _, ?_, hcap⟩
  exact hints.turn ((Turn.refl (w.heap.size + 1) _).set 0 _) (by omega) (hints.lt (by omega))
end Go.Proofs.Ytmongbpdbcbhlaa
