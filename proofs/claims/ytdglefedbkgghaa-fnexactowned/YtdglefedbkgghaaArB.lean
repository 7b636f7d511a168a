/-
  A new arena, the specification's and the program's: both are one free block.
-/
import Derived.Test.YtdglefedbkgghaaArA
import Derived.Deep.OwnRows
namespace Go.Proofs.Ytdglefedbkgghaa
open Go.RowKit
set_option linter.unusedVariables false

theorem infoInt : (Try.prog.info? 3).map (fun i => (i.zero, i.size, i.bytes)) = some (some (.int .i64 0), 1, 8) := by kernel_rfl
theorem undInts : Try.prog.underlying 24 = some (.slice 3) := by kernel_rfl
theorem run_ints (n : Nat) (hn : n ≤ 1048576) (w : World) :
    (Instr.makeSlice 24 (.int .i64 (n : Int)) (.int .i64 (n : Int))).run Try.prog w = .ok (.slice (some ⟨w.heap.size, 0, none⟩) n n) (w.alloc (.cells (madeCells #[.int .i64 0] n) 3)) :=
  run_make_row' (P := Try.prog) 24 3 (.int .i64 0) 8 undInts infoInt rfl .i64 .i64 n (by omega) (by omega) w
theorem ints_made (w : World) (n : Nat) : Ints (w.alloc (.cells (madeCells #[.int .i64 0] n) 3)) w.heap.size 0 n (fun _ => 0) := by
  have h := World.rowIs_made w (.int .i64 0) n 3
  refine ⟨fun j hj => ?_, fun x => h.frozen x⟩
  rw [Nat.zero_add]
  exact h.cell hj

theorem three_first (w : World) (a : Array Value) (ta : TypeId) (B C : Obj) (o : Nat) :
    (((w.alloc (.cells a ta)).alloc B).alloc C).cell? ⟨w.heap.size, o, none⟩ = a[o]? ∧ (((w.alloc (.cells a ta)).alloc B).alloc C).frozen? ⟨w.heap.size, o, none⟩ = false := by
  have hb : Below (w.alloc (.cells a ta)).heap.size (w.alloc (.cells a ta)) (((w.alloc (.cells a ta)).alloc B).alloc C) := ((Below.refl _ _).alloc (Nat.le_refl _) B).alloc (by simp) C
  refine ⟨?_, ?_⟩
  · rw [hb.cell (p := ⟨w.heap.size, o, none⟩) (by simp)]; exact World.cell?_alloc_new w a ta o
  · rw [hb.frozen (p := ⟨w.heap.size, o, none⟩) (by simp)]; exact World.frozen?_alloc_new w a ta o

/-- What a new arena of n words holds. -/
def freshF (n : Nat) : Nat → Int := layF (fun _ => 0) 0 (n - 3) false

end Go.Proofs.Ytdglefedbkgghaa
