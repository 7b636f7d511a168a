/-
  What the program's ownArena answers: a copy of its own.
-/
import Derived.Test.YtmongbpdbcbhlaaItC
import Derived.Laws.CopyOwn
namespace Go.Proofs.Ytmongbpdbcbhlaa
open Go.RowKit
set_option linter.unusedVariables false

theorem sizeInt : (Try.prog.info? 3).map (·.size) = some 1 := by kernel_rfl
/-- The row behind a copy that fills it. -/
theorem ints_row {w : World} {g N : Nat} {t : TypeId} {f : Nat → Int} {cur : List Value} (hl : cur.length = N) (h : w.heap[g]? = some (.cells (splice cur 0 ((List.range N).map fun j => Value.int .i64 (f j))).toArray t (0, 0))) : Ints w g 0 N f := by
  have e : splice cur 0 ((List.range N).map fun j => Value.int .i64 (f j)) = (List.range N).map fun j => Value.int .i64 (f j) := by
    unfold splice
    rw [List.take_zero, List.nil_append, List.drop_eq_nil_of_le (by simp [hl]), List.append_nil]
  rw [e] at h
  refine ⟨fun j hj => ?_, fun x => ?_⟩
  · rw [Nat.zero_add]
    simp [World.cell?, h, hj]
  · simp [World.frozen?, h]

/-- A copy that fills a row of one's own. -/
theorem run_fill (W W0 : World) (B g N cap : Nat) (ao : Option Addr) (cur cs : List Value) (hg : W.heap[g]? = some (.cells cur.toArray 3 (0, 0))) (hn : cs.length = N) (hl : cur.length = N)
    (hpos : 0 < N → ∃ ad, ao = some ad ∧ ∀ j v, cs[j]? = some v → W.cell? (ad.add j) = some v) (h1 : ∀ v ∈ cs, v.oneCell' = true) (hb : Below B W0 W) (hBg : B ≤ g) :
    ∃ W2, (Builtin.copy_ #[24, 24] 3 #[.slice (some ⟨g, 0, none⟩) N N, .slice ao N cap]).run Try.prog W = .ok (goInt N) W2 ∧ W2.heap[g]? = some (.cells (splice cur 0 cs).toArray 3 (0, 0)) ∧ Below B W0 W2 := by
  by_cases h0 : N = 0
  · subst h0
    obtain rfl : cs = [] := List.eq_nil_of_length_eq_zero hn
    exact ⟨W, run_copy_none (P := Try.prog) W _ _ _ 3 _ _ _ _ _ _ undInts sizeInt (Nat.min_self 0), by simpa [splice] using hg, hb⟩
  · obtain ⟨ad, rfl, hsrc⟩ := hpos (by omega)
    have hrun := run_copy_row (P := Try.prog) W 24 24 3 3 g 0 N N ad N cap cur.toArray 3 cs undInts sizeInt hg (by rw [hn]; exact (Nat.min_self N).symm) hsrc (by simp [hn, hl]) h1
    rw [hn] at hrun
    refine ⟨_, hrun, ?_, below_setRow hb hBg _⟩
    simpa [splice, hn] using setRow_heap W g _ _ 3 _ hg

set_option maxHeartbeats 2000000 in
set_option maxRecDepth 100000 in
theorem own_any (ao : Option Addr) (N cap : Nat) (f : Nat → Int) (w : World) (hr : Rd w ao N f) (hN : N ≤ 1048576) :
    Calls Try.prog 28 #[.agg #[.slice ao N cap]] w fun e w' => ∃ g, e = .returned (.agg #[.slice (some ⟨g, 0, none⟩) N N]) ∧ w.heap.size ≤ g ∧ g < w'.heap.size ∧ Ints w' g 0 N f ∧ Below w.heap.size w w' := by
  have HR : Hid (Rd w ao N f) := hr
  clear hr
  have hmk := run_ints N hN
  have hsz := sizeInt
  obtain ⟨cs, hcs⟩ : ∃ cs, cs = (List.range N).map fun j => Value.int .i64 (f j) := ⟨_, rfl⟩
  have HCS : Hid (cs = (List.range N).map fun j => Value.int .i64 (f j)) := hcs
  have hcl : cs.length = N := by rw [hcs]; simp
  clear hcs
  have hb0 : Below w.heap.size w ((w.alloc (.cells #[.slice ao N cap] 26)).alloc (.cells #[.slice none 0 0] 26)) := ((Below.refl _ w).alloc (Nat.le_refl _) _).alloc (by simp) _
  have q1 : ((w.alloc (.cells #[.slice ao N cap] 26)).alloc (.cells #[.slice none 0 0] 26)).cell? ⟨w.heap.size + 1, 0, none⟩ = some (.slice none 0 0) ∧ ((w.alloc (.cells #[.slice ao N cap] 26)).alloc (.cells #[.slice none 0 0] 26)).frozen? ⟨w.heap.size + 1, 0, none⟩ = false := by
    have a1 := World.cell?_alloc_new (w.alloc (.cells #[.slice ao N cap] 26)) #[.slice none 0 0] 26 0
    have a2 := World.frozen?_alloc_new (w.alloc (.cells #[.slice ao N cap] 26)) #[.slice none 0 0] 26 0
    rw [World.size_alloc] at a1 a2
    exact ⟨a1, a2⟩
  have hz : ((w.alloc (.cells #[.slice ao N cap] 26)).alloc (.cells #[.slice none 0 0] 26)).heap.size = w.heap.size + 1 + 1 := by simp
  have HW : Hid (Below w.heap.size w ((w.alloc (.cells #[.slice ao N cap] 26)).alloc (.cells #[.slice none 0 0] 26))) := hb0
  have hg0 : (((w.alloc (.cells #[.slice ao N cap] 26)).alloc (.cells #[.slice none 0 0] 26)).alloc (.cells (madeCells #[.int .i64 0] N) 3)).heap[w.heap.size + 1 + 1]? = some (.cells (madeCells #[.int .i64 0] N).toList.toArray 3 (0, 0)) := by
    have := World.alloc_heap_new ((w.alloc (.cells #[.slice ao N cap] 26)).alloc (.cells #[.slice none 0 0] 26)) (.cells (madeCells #[.int .i64 0] N) 3)
    rw [hz] at this
    rw [Array.toArray_toList]; exact this
  have hbm : Below (w.heap.size + 1 + 1) ((w.alloc (.cells #[.slice ao N cap] 26)).alloc (.cells #[.slice none 0 0] 26)) (((w.alloc (.cells #[.slice ao N cap] 26)).alloc (.cells #[.slice none 0 0] 26)).alloc (.cells (madeCells #[.int .i64 0] N) 3)) := (Below.refl _ _).alloc (by rw [hz]; exact Nat.le_refl _) _
  have hbm2 := below_join hb0 ((Below.refl _ ((w.alloc (.cells #[.slice ao N cap] 26)).alloc (.cells #[.slice none 0 0] 26))).alloc (Nat.le_refl _) (.cells (madeCells #[.int .i64 0] N) 3))
  have hml : (madeCells #[.int .i64 0] N).toList.length = N := by rw [Array.length_toList]; exact size_madeCells _ _
  have HF : Hid (((w.alloc (.cells #[.slice ao N cap] 26)).alloc (.cells #[.slice none 0 0] 26)).alloc (.cells (madeCells #[.int .i64 0] N) 3) = ((w.alloc (.cells #[.slice ao N cap] 26)).alloc (.cells #[.slice none 0 0] 26)).alloc (.cells (madeCells #[.int .i64 0] N) 3)) := rfl
  have HG0 : Hid ((((w.alloc (.cells #[.slice ao N cap] 26)).alloc (.cells #[.slice none 0 0] 26)).alloc (.cells (madeCells #[.int .i64 0] N) 3)).heap[w.heap.size + 1 + 1]? = some (.cells (madeCells #[.int .i64 0] N).toList.toArray 3 (0, 0))) := hg0
  have HBM : Hid (Below (w.heap.size + 1 + 1) ((w.alloc (.cells #[.slice ao N cap] 26)).alloc (.cells #[.slice none 0 0] 26)) (((w.alloc (.cells #[.slice ao N cap] 26)).alloc (.cells #[.slice none 0 0] 26)).alloc (.cells (madeCells #[.int .i64 0] N) 3))) := hbm
  have HPOS : Hid (0 < N → ∃ ad, ao = some ad ∧ ∀ j v, cs[j]? = some v → (((w.alloc (.cells #[.slice ao N cap] 26)).alloc (.cells #[.slice none 0 0] 26)).alloc (.cells (madeCells #[.int .i64 0] N) 3)).cell? (ad.add j) = some v) := fun h0 => by
    obtain ⟨b, o, rfl, hc⟩ := (HR.out.below hbm2) (by omega)
    refine ⟨_, rfl, fun j v hv => ?_⟩
    rw [HCS.out, List.getElem?_map] at hv
    rw [Addr.add_lit]
    by_cases hj : j < N
    · rw [List.getElem?_range hj] at hv
      cases hv
      exact hc j hj
    · rw [List.getElem?_eq_none (by simp; omega)] at hv
      cases hv
  have H1C : Hid (∀ v ∈ cs, v.oneCell' = true) := fun v hv => by rw [HCS.out] at hv; obtain ⟨j, _, rfl⟩ := List.mem_map.1 hv; rfl
  have HML : Hid ((madeCells #[.int .i64 0] N).toList.length = N) := hml
  have HQ1 : Hid (((w.alloc (.cells #[.slice ao N cap] 26)).alloc (.cells #[.slice none 0 0] 26)).cell? ⟨w.heap.size + 1, 0, none⟩ = some (.slice none 0 0) ∧ ((w.alloc (.cells #[.slice ao N cap] 26)).alloc (.cells #[.slice none 0 0] 26)).frozen? ⟨w.heap.size + 1, 0, none⟩ = false ∧ ((w.alloc (.cells #[.slice ao N cap] 26)).alloc (.cells #[.slice none 0 0] 26)).heap.size = w.heap.size + 1 + 1) := ⟨q1.1, q1.2, hz⟩
  obtain ⟨w2, hcp, hg2, hB2⟩ := run_fill _ _ _ _ N cap ao _ cs HG0.out hcl hml HPOS.out H1C.out HBM.out (Nat.le_refl _)
  have HG2 : Hid (w2.heap[w.heap.size + 1 + 1]? = some (.cells (splice (madeCells #[.int .i64 0] N).toList 0 cs).toArray 3 (0, 0))) := hg2
  have q1' := (hB2.cell (p := ⟨w.heap.size + 1, 0, none⟩) (Nat.lt_succ_self _)).trans HQ1.out.1
  have f1' := (hB2.frozen (p := ⟨w.heap.size + 1, 0, none⟩) (Nat.lt_succ_self _)).trans HQ1.out.2.1
  have HB2 : Hid (Below (w.heap.size + 1 + 1) ((w.alloc (.cells #[.slice ao N cap] 26)).alloc (.cells #[.slice none 0 0] 26)) w2) := hB2
  clear hb0 q1 hz hg0 hbm hbm2 hml HF hcl hg2 hB2
  go_enter Try.func28, Try.ntmps28
  go_wp2_with fail
  have hI : Ints w2 (w.heap.size + 1 + 1) 0 N f := ints_row HML.out (t := 3) (by rw [← HCS.out]; exact HG2.out)
  have hs2 := HB2.out.size
  have hgl : w.heap.size + 1 + 1 < w2.heap.size := (Array.getElem?_eq_some_iff.1 HG2.out).1
  refine bodyPost_ret (v := .agg #[.slice (some ⟨w.heap.size + 1 + 1, 0, none⟩) N N]) (by simp [results, Try.results28, go_sem, q1']) rfl ⟨w.heap.size + 1 + 1, rfl, by omega, by rw [World.size_setCell]; exact hgl, hI.turn ((Turn.refl (w.heap.size + 1) _).set 0 _) (by omega) hgl, ?_⟩
  exact (HW.out.trans (HB2.out.mono (by omega))).setCell (p := ⟨w.heap.size + 1, 0, none⟩) (by show w.heap.size ≤ w.heap.size + 1; omega) _
end Go.Proofs.Ytmongbpdbcbhlaa
