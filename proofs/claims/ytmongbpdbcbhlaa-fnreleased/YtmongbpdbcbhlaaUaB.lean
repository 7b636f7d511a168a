/-
  What the program's usedAt answers where there is no used block; heldAt, ReadWord, WriteWord.
-/
import Derived.Test.YtmongbpdbcbhlaaUaA
import Derived.Test.YtmongbpdbcbhlaaOwA
namespace Go.Proofs.Ytmongbpdbcbhlaa
open Go.RowKit Go.Shelf
set_option linter.unusedVariables false
attribute [local go_sem] Oper.semAt_some

set_option maxRecDepth 100000 in
set_option maxHeartbeats 4000000 in
theorem used_no (ao : Option Addr) (N cap : Nat) (f : Nat → Int) (x : Int) (w : World) (hr : Rd w ao N f) (hN : N ≤ 1048576) (hcap : N ≤ cap) (hB : ∀ n, blkI f N x ≠ some (n, true)) :
    Calls Try.prog 29 #[.agg #[.slice ao N cap], .int .i64 x] w fun e w' => e = .returned (.tuple #[.agg #[.int .i64 0, .int .i64 0, .bool false], .bool false]) ∧ Below w.heap.size w w' := by
  have HR : Hid (Rd w ao N f) := hr
  have HB : Hid (∀ n, blkI f N x ≠ some (n, true)) := hB
  clear hr hB
  refine (callsIn_wide (n := 8)).1 ?_
  refine callsIn_of_wp_marks Try.func29 rfl trivial ?_ rfl
  simp only [Try.ntmps29, List.size_toArray, List.length_cons, List.length_nil, Nat.reduceAdd, Nat.reduceSub, Array.replicate_succ, Array.replicate_zero, List.push_toArray, List.append_toArray, List.nil_append, List.cons_append]
  have HS0 : Hid (Below w.heap.size w ((((w.alloc (.cells #[.slice ao N cap] 26)).alloc (.cells #[.int .i64 x] 3)).alloc (.cells #[.int .i64 0, .int .i64 0, .bool false] 54)).alloc (.cells #[.bool false] 4)) ∧ Zer3 ((((w.alloc (.cells #[.slice ao N cap] 26)).alloc (.cells #[.int .i64 x] 3)).alloc (.cells #[.int .i64 0, .int .i64 0, .bool false] 54)).alloc (.cells #[.bool false] 4)) (w.heap.size + 1 + 1) ∧ Boxed ((((w.alloc (.cells #[.slice ao N cap] 26)).alloc (.cells #[.int .i64 x] 3)).alloc (.cells #[.int .i64 0, .int .i64 0, .bool false] 54)).alloc (.cells #[.bool false] 4)) (w.heap.size + 1 + 1 + 1) 4 (.bool false)) := by
    have q2 : Zer3 (((w.alloc (.cells #[.slice ao N cap] 26)).alloc (.cells #[.int .i64 x] 3)).alloc (.cells #[.int .i64 0, .int .i64 0, .bool false] 54)) ((w.alloc (.cells #[.slice ao N cap] 26)).alloc (.cells #[.int .i64 x] 3)).heap.size := World.alloc_heap_new _ _
    have q3 := Boxed.new (((w.alloc (.cells #[.slice ao N cap] 26)).alloc (.cells #[.int .i64 x] 3)).alloc (.cells #[.int .i64 0, .int .i64 0, .bool false] 54)) 4 (.bool false)
    have q2' := q2.below ((Below.refl _ _).alloc (Nat.le_refl _) (.cells #[.bool false] 4))
    simp only [World.size_alloc] at q2' q3
    exact ⟨((((Below.refl _ w).alloc (Nat.le_refl _) _).alloc (by simp) _).alloc (by simp; omega) _).alloc (by simp; omega) _, q2', q3⟩
  gi_wp2
  have hs := HS0.out
  clear HS0
  generalize ((((w.alloc (.cells #[.slice ao N cap] 26)).alloc (.cells #[.int .i64 x] 3)).alloc (.cells #[.int .i64 0, .int .i64 0, .bool false] 54)).alloc (.cells #[.bool false] 4)) = w0 at hs ⊢
  refine ⟨trivial, (callsIn_wide.2 (implAt_int ao N cap f x w0 (HR.out.below hs.1) hN hcap)).mono ?_⟩
  rintro e w1 ⟨rfl, hb1⟩
  have h2 := hs.2.1.below hb1
  have h3 := boxed_below' hs.2.2 hb1
  have HW1 : Hid (Below w.heap.size w w1) := below_join hs.1 hb1
  obtain ⟨z0, z1, z2, zf⟩ := h2.cells
  have c3 := h3.cell
  have f3 := h3.frozen
  clear hs hb1
  have hfin : ∀ V5, V5 = (((w1.setCell ⟨w.heap.size + 1 + 1, 0, none⟩ (.int .i64 0)).setCell ⟨w.heap.size + 1 + 1, 1, none⟩ (.int .i64 0)).setCell ⟨w.heap.size + 1 + 1, 2, none⟩ (.bool false)).setCell ⟨w.heap.size + 1 + 1 + 1, 0, none⟩ (.bool false) → (V5.cell? ⟨w.heap.size + 1 + 1, 0, none⟩ = some (.int .i64 0) ∧ V5.cell? ⟨w.heap.size + 1 + 1, 1, none⟩ = some (.int .i64 0) ∧ V5.cell? ⟨w.heap.size + 1 + 1, 2, none⟩ = some (.bool false) ∧ V5.cell? ⟨w.heap.size + 1 + 1 + 1, 0, none⟩ = some (.bool false)) ∧ Below w.heap.size w V5 := fun V5 e => by
    subst e
    exact ⟨four_sets w1 (w.heap.size + 1 + 1) (w.heap.size + 1 + 1 + 1) (by omega) _ _ _ _ z0 z1 z2 c3, (((HW1.out.setCell (p := ⟨w.heap.size + 1 + 1, 0, none⟩) (by show _ ≤ w.heap.size + 1 + 1; omega) _).setCell (p := ⟨w.heap.size + 1 + 1, 1, none⟩) (by show _ ≤ w.heap.size + 1 + 1; omega) _).setCell (p := ⟨w.heap.size + 1 + 1, 2, none⟩) (by show _ ≤ w.heap.size + 1 + 1; omega) _).setCell (p := ⟨w.heap.size + 1 + 1 + 1, 0, none⟩) (by show _ ≤ w.heap.size + 1 + 1 + 1; omega) _⟩
  have HFIN : Hid _ := hfin
  clear hfin
  cases hO : blkI f N x with
  | none =>
    dsimp only [bv]
    gi_wp2
    obtain ⟨⟨r0, r1, r2, r3⟩, hbl⟩ := HFIN.out _ rfl
    exact ⟨.tuple #[.agg #[.int .i64 0, .int .i64 0, .bool false], .bool false], by simp [results, Try.results29, go_sem, r0, r1, r2, r3], rfl, hbl⟩
  | some y =>
    obtain ⟨n, u⟩ := y
    cases u with
    | true => exact absurd hO (HB.out n)
    | false =>
      clear hO
      dsimp only [bv]
      gi_wp2
      obtain ⟨⟨r0, r1, r2, r3⟩, hbl⟩ := HFIN.out _ rfl
      exact ⟨.tuple #[.agg #[.int .i64 0, .int .i64 0, .bool false], .bool false], by simp [results, Try.results29, go_sem, r0, r1, r2, r3], rfl, hbl⟩

end Go.Proofs.Ytmongbpdbcbhlaa
