/-
  A new arena, the specification's and the program's: both are one free block.
-/
import Derived.Test.YtmongbpdbcbhlaaArA
import Derived.Deep.OwnRows
namespace Go.Proofs.Ytmongbpdbcbhlaa
open Go.RowKit
set_option linter.unusedVariables false

theorem lay_any' (b o N cap : Nat) (f : Nat → Int) (w : World) (hI : Ints w b o N f) (p n : Nat) (pi ni : Int) (h1 : pi = p) (h2 : ni = n) (u : Bool) (hp : p + n + 3 ≤ N) (hN : N ≤ 1048576) :
    Calls Try.prog 38 #[.slice (some ⟨b, o, none⟩) N cap, .int .i64 pi, .int .i64 ni, .bool u] w fun e w' => (∃ v, e = .returned v) ∧ Turn b w w' ∧ Ints w' b o N (layF f p n u) := by
  subst h1 h2
  exact lay_any b o N cap f w hI p n u hp hN

theorem infoInt : (Try.prog.info? 3).map (fun i => (i.zero, i.size, i.bytes)) = some (some (.int .i64 0), 1, 8) := by kernel_rfl
theorem undInts : Try.prog.underlying 24 = some (.slice 3) := by kernel_rfl
theorem run_ints (n : Nat) (hn : n ≤ 1048576) (w : World) :
    (Instr.makeSlice 24 (.int .i64 (n : Int)) (.int .i64 (n : Int))).run Try.prog w = .ok (.slice (some ⟨w.heap.size, 0, none⟩) n n) (w.alloc (.cells (madeCells #[.int .i64 0] n) 3)) :=
  run_make_row' (P := Try.prog) 24 3 (.int .i64 0) 8 undInts infoInt rfl .i64 .i64 n (by omega) (by omega) w
theorem ints_made (w : World) (n : Nat) : Ints (w.alloc (.cells (madeCells #[.int .i64 0] n) 3)) w.heap.size 0 n (fun _ => 0) := by
  have h := World.rowIs_made w (.int .i64 0) n 3
  refine ⟨fun j hj => ?_, fun x => h.frozen x⟩
  rw [Nat.zero_add]
  exact h.cell hj

theorem three_first (w : World) (a : Array Value) (ta : TypeId) (B C : Obj) (o : Nat) :
    (((w.alloc (.cells a ta)).alloc B).alloc C).cell? ⟨w.heap.size, o, none⟩ = a[o]? ∧ (((w.alloc (.cells a ta)).alloc B).alloc C).frozen? ⟨w.heap.size, o, none⟩ = false := by
  have hb : Below (w.alloc (.cells a ta)).heap.size (w.alloc (.cells a ta)) (((w.alloc (.cells a ta)).alloc B).alloc C) := ((Below.refl _ _).alloc (Nat.le_refl _) B).alloc (by simp) C
  refine ⟨?_, ?_⟩
  · rw [hb.cell (p := ⟨w.heap.size, o, none⟩) (by simp)]; exact World.cell?_alloc_new w a ta o
  · rw [hb.frozen (p := ⟨w.heap.size, o, none⟩) (by simp)]; exact World.frozen?_alloc_new w a ta o

/-- What a new arena of n words holds. -/
def freshF (n : Nat) : Nat → Int := layF (fun _ => 0) 0 (n - 3) false

set_option maxHeartbeats 1000000 in
set_option maxRecDepth 100000 in
theorem specNew_any (n : Nat) (h4 : 4 ≤ n) (hn : n ≤ 4000) (w : World) :
    Calls Try.prog 42 #[.int .i64 n] w fun e w' => ∃ g, e = .returned (.agg #[.slice (some ⟨g, 0, none⟩) n n]) ∧ w.heap.size ≤ g ∧ Below w.heap.size w w' ∧ Ints w' g 0 n (freshF n) := by
  have hin : inB n 4 4000 = true := by simp [inB]; omega
  have hmk := run_ints n (by omega)
  go_enter Try.func42, Try.ntmps42
  go_wp2_with (go_at_call 55; refine (in_any _ _ _ _).mono ?_; rintro e w' ⟨rfl, rfl⟩)
  clear hmk
  have hI : Ints (((w.alloc (.cells #[.slice none 0 0] 26)).alloc (.cells (madeCells #[.int .i64 0] n) 3)).alloc (.cells #[.slice (some ⟨w.heap.size + 1, 0, none⟩) n n] 26)) (w.heap.size + 1) 0 n (fun _ => 0) := by
    have h := ints_made (w.alloc (.cells #[.slice none 0 0] 26)) n
    rw [World.size_alloc] at h
    exact h.below ((Below.refl _ _).alloc (Nat.le_refl _) _) (by simp)
  have hB := (((Below.refl w.heap.size w).alloc (Nat.le_refl _) (.cells #[.slice none 0 0] 26)).alloc (by simp) (.cells (madeCells #[.int .i64 0] n) 3)).alloc (by simp; omega) (.cells #[.slice (some ⟨w.heap.size + 1, 0, none⟩) n n] 26)
  have q0 : (((w.alloc (.cells #[.slice none 0 0] 26)).alloc (.cells (madeCells #[.int .i64 0] n) 3)).alloc (.cells #[.slice (some ⟨w.heap.size + 1, 0, none⟩) n n] 26)).cell? ⟨w.heap.size, 0, none⟩ = some (.slice none 0 0) := (three_first w _ _ _ _ 0).1
  have f0 : (((w.alloc (.cells #[.slice none 0 0] 26)).alloc (.cells (madeCells #[.int .i64 0] n) 3)).alloc (.cells #[.slice (some ⟨w.heap.size + 1, 0, none⟩) n n] 26)).frozen? ⟨w.heap.size, 0, none⟩ = false := (three_first w _ _ _ _ 0).2
  have q2 : (((w.alloc (.cells #[.slice none 0 0] 26)).alloc (.cells (madeCells #[.int .i64 0] n) 3)).alloc (.cells #[.slice (some ⟨w.heap.size + 1, 0, none⟩) n n] 26)).cell? ⟨w.heap.size + 1 + 1, 0, none⟩ = some (.slice (some ⟨w.heap.size + 1, 0, none⟩) n n) := by
    have := World.cell?_alloc_new ((w.alloc (.cells #[.slice none 0 0] 26)).alloc (.cells (madeCells #[.int .i64 0] n) 3)) #[.slice (some ⟨w.heap.size + 1, 0, none⟩) n n] 26 0
    rw [World.size_alloc, World.size_alloc] at this; exact this
  generalize (((w.alloc (.cells #[.slice none 0 0] 26)).alloc (.cells (madeCells #[.int .i64 0] n) 3)).alloc (.cells #[.slice (some ⟨w.heap.size + 1, 0, none⟩) n n] 26)) = W at hI hB q0 f0 q2 ⊢
  refine (lay_any' (w.heap.size + 1) 0 n n (fun _ => 0) W hI 0 (n - 3) 0 (n - 3) rfl (by omega) false (by omega) (by omega)).mono ?_
  rintro e w1 ⟨⟨v, rfl⟩, ht, hi⟩
  have hlt := World.block_lt_of_cell? W _ q0
  have q0 := ht.cell (by omega) q0
  have q2 := ht.cell (by omega) q2
  have f0 : w1.frozen? ⟨w.heap.size, 0, none⟩ = false := by rw [ht.frozen (b := w.heap.size) (o := 0) (by omega) hlt]; exact f0
  have HB : Hid (Below w.heap.size w w1) := Turn.below hB (Nat.le_of_lt hlt) ht (by omega)
  have HI : Hid (Ints w1 (w.heap.size + 1) 0 n (freshF n)) := hi
  have HZ : Hid (w.heap.size + 1 < w1.heap.size) := hi.lt (by omega)
  clear hI hB ht hi hlt
  go_wp2_with fail
  refine bodyPost_ret (v := .agg #[.slice (some ⟨w.heap.size + 1, 0, none⟩) n n]) (by simp [results, Try.results42, go_sem, q0]) rfl ⟨_, rfl, Nat.le_succ _, HB.out.setCell (Nat.le_refl _) _, ?_⟩
  exact HI.out.turn ((Turn.refl w.heap.size _).set 0 _) (by omega) HZ.out
end Go.Proofs.Ytmongbpdbcbhlaa
