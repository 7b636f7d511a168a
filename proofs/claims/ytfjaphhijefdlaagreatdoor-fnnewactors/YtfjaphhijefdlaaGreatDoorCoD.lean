/-
  The program's table of shapes, and how a shape is found in it by its op.
-/
import Derived.Test.YtfjaphhijefdlaaGreatDoorCoC
import Derived.Laws.Rows
import Derived.Laws.ResultCell
namespace Go.Proofs.YtfjaphhijefdlaaGreatDoor.Code
open Go.RowKit
open Go.Proofs.YtfjaphhijefdlaaGreatDoor.Atom
set_option linter.unusedVariables false

def nm (k i : Nat) : Int := ((names k).getD i 0 : Nat)
def rowL (k : Nat) : List Value := [.int .i64 ((k : Int) + 1), .string (wordT (k + 1)), .int .i64 (nm (k + 1) 0), .int .i64 (nm (k + 1) 1), .int .i64 (nm (k + 1) 2)]
def tabV : Array Value := ((List.range 20).flatMap rowL).toArray
/-- The program's variable shapes holds the table. -/
def Shp (w : World) : Prop := ∃ t fr, w.heap[1]? = some (.cells tabV t fr)
theorem Shp.lt {w : World} (h : Shp w) : 1 < w.heap.size := by
  obtain ⟨t, fr, h⟩ := h
  rcases Nat.lt_or_ge 1 w.heap.size with h1 | h1
  · exact h1
  · rw [Array.getElem?_eq_none h1] at h; cases h
theorem Shp.below {w w' : World} (h : Shp w) (hb : Below w.heap.size w w') : Shp w' := by
  have hl := h.lt
  obtain ⟨t, fr, h⟩ := h
  exact ⟨t, fr, (hb.block _ hl).trans h⟩
theorem Shp.drew {w : World} (h : Shp w) : Shp w.drew := h

theorem index_tab (k : Nat) (hk : k < 20) (w : World) : (Instr.index 185 (.agg tabV) (.int .i64 (k : Int))).run Tryz.prog w
    = .ok (.agg #[.int .i64 ((k : Int) + 1), .string (wordT (k + 1)), .int .i64 (nm (k + 1) 0), .int .i64 (nm (k + 1) 1), .int .i64 (nm (k + 1) 2)]) w := by
  rcases below20 hk with rfl | rfl | rfl | rfl | rfl | rfl | rfl | rfl | rfl | rfl | rfl | rfl | rfl | rfl | rfl | rfl | rfl | rfl | rfl | rfl <;> kernel_rfl

/-- A new block of a shape that stands since. -/
theorem blk_at {w : World} {R : Nat} {cs : Array Value} {t : TypeId} (h : w.heap[R]? = some (.cells cs t (0, 0))) (i : Nat) : w.cell? ⟨R, i, none⟩ = cs[i]? := by
  simp [World.cell?, h]
theorem blk_lt {w : World} {R : Nat} {o : Obj} (h : w.heap[R]? = some o) : R < w.heap.size := by
  rcases Nat.lt_or_ge R w.heap.size with h1 | h1
  · exact h1
  · rw [Array.getElem?_eq_none h1] at h; cases h
theorem blk_free {w : World} {R : Nat} {cs : Array Value} {t : TypeId} (h : w.heap[R]? = some (.cells cs t (0, 0))) (i : Nat) : w.frozen? ⟨R, i, none⟩ = false := by
  simp [World.frozen?, h]
theorem blk_2 {w : World} {R : Nat} {o : Obj} (h : w.heap[R]? = some o) (o1 o2 : Obj) : ((w.alloc o1).alloc o2).heap[R]? = some o := by
  have := blk_lt h
  rw [Below.heap_alloc _ _ _ (by simp; omega), Below.heap_alloc _ _ _ this]; exact h

theorem set_blk {w : World} {R i : Nat} {cs : Array Value} {t : TypeId} {f : Nat × Nat} (h : w.heap[R]? = some (.cells cs t f)) (v : Value) : (w.setCell ⟨R, i, none⟩ v).heap[R]? = some (.cells (cs.setIfInBounds i v) t f) := by
  simp [World.setCell, Array.getElem?_modify, h]
theorem set_blk5 {w : World} {R : Nat} {z0 z1 z2 z3 z4 : Value} {t : TypeId} {f : Nat × Nat} (h : w.heap[R]? = some (.cells #[z0, z1, z2, z3, z4] t f)) (a b c d e : Value) :
    (((((w.setCell ⟨R, 0, none⟩ a).setCell ⟨R, 1, none⟩ b).setCell ⟨R, 2, none⟩ c).setCell ⟨R, 3, none⟩ d).setCell ⟨R, 4, none⟩ e).heap[R]? = some (.cells #[a, b, c, d, e] t f) := by
  rw [set_blk (set_blk (set_blk (set_blk (set_blk h a) b) c) d) e]; rfl
theorem res_shape {w : World} {R : Nat} {a b c d e : Value} {tmps : Array Value} {fn : Func} {q : Bool} (hf : fn.results = #[.cell 4 162, .tmp 5]) (h : w.heap[R]? = some (.cells #[a, b, c, d, e] 162 (0, 0)))
    (h4 : tmps.getD 4 undef = .pointer (some ⟨R, 0, none⟩)) (h5 : tmps.getD 5 undef = .bool q) : (results fn tmps).run Tryz.prog w = .ok (.tuple #[.agg #[a, b, c, d, e], .bool q]) w := by
  rw [results_cell_tmp hf, h4, h5]
  simp [asAddr, Result.andThen, run_loadVar_row w R 162 162 #[a, b, c, d, e] (0, 0) _ h Tryz.underlying162 rfl (by kernel_rfl)]

theorem shapeInt_any (key : Int) (w : World) (hS : Shp w) :
    Calls Tryz.prog 86 #[.int .i64 key, .func (.func 87) #[] #[]] w fun e w' => ((∃ k : Nat, k < 20 ∧ key = (k : Int) + 1 ∧ e = .returned (.tuple #[.agg #[.int .i64 ((k : Int) + 1), .string (wordT (k + 1)), .int .i64 (nm (k + 1) 0), .int .i64 (nm (k + 1) 1), .int .i64 (nm (k + 1) 2)], .bool true]))
      ∨ Atom.inB key 1 20 = false ∧ e = .returned (.tuple #[.agg #[.int .i64 0, .string ByteArray.empty, .int .i64 0, .int .i64 0, .int .i64 0], .bool false])) ∧ Below w.heap.size w w' := by
  have hSl := hS.lt
  have hS2 := hS
  obtain ⟨tt, fr, hg⟩ := hS
  have hg1 : ∀ o, (w.alloc o).heap[1]? = some (.cells tabV tt fr) := fun o => (Below.heap_alloc _ _ _ hSl).trans hg
  have hIX : ∀ k : Nat, k < 20 → ∀ w, _ := fun k hk w => index_tab k hk w
  go_enter Tryz.func86, Tryz.ntmps86
  go_wp2_with (refine wpList_load_row rfl 185 _ rfl 1 rfl tt _ fr _ (hg1 _) Tryz.underlying185 rfl (by kernel_rfl) ?_)
  go_loopw [9] (fun i wr => ∃ k : Nat, k ≤ 20 ∧ i = .int .i64 k ∧ Below w.heap.size w wr ∧ wr.heap[w.heap.size]? = some (.cells #[.int .i64 0, .string ByteArray.empty, .int .i64 0, .int .i64 0, .int .i64 0] 162 (0, 0)) ∧ ∀ j : Nat, j < k → key ≠ (j : Int) + 1) (fun i wr => 20 - (intOf i).toNat)
  case atStart =>
    refine ⟨0, Nat.zero_le _, rfl, (Below.refl _ w).alloc (Nat.le_refl _) _, ?_, fun j hj => absurd hj (by omega)⟩
    show (w.heap.push _)[w.heap.size]? = _
    simp
    rfl
  case round =>
    obtain ⟨k, hk, rfl, hbr, hR, hno⟩ := hrel
    have HBR : Hid (Below w.heap.size w wr) := hbr
    have HNO : Hid (∀ j : Nat, j < k → key ≠ (j : Int) + 1) := hno
    have HRL : Hid (w.heap.size < wr.heap.size) := blk_lt hR
    clear hbr hno
    by_cases hlt : k < 20
    · have hix := index_tab k hlt
      have HR2 := fun o1 o2 => blk_2 hR o1 o2
      have r0 := fun o1 o2 => blk_at (HR2 o1 o2) 0
      have r1 := fun o1 o2 => blk_at (HR2 o1 o2) 1
      have r2 := fun o1 o2 => blk_at (HR2 o1 o2) 2
      have r3 := fun o1 o2 => blk_at (HR2 o1 o2) 3
      have r4 := fun o1 o2 => blk_at (HR2 o1 o2) 4
      have rf := fun o1 o2 i => blk_free (HR2 o1 o2) i
      simp only [List.getElem?_toArray, List.getElem?_cons_zero, List.getElem?_cons_succ] at r0 r1 r2 r3 r4
      clear HR2
      cases he : ((k : Int) + 1 == key)
      · go_wp2
        go_roundw
        case rel =>
          refine ⟨k + 1, by omega, by go_num, (HBR.out.alloc (Nat.le_of_lt HRL.out) _).alloc (by simp; have := HRL.out; omega) _, blk_2 hR _ _, fun j hj => ?_⟩
          rcases Nat.lt_or_ge j k with h | h
          · exact HNO.out j h
          · obtain rfl : j = k := by omega
            intro h
            rw [h] at he
            simp at he
        case measure => simp [intOf]; omega
      · go_wp2
        obtain rfl : key = (k : Int) + 1 := by simp at he; omega
        have hW := set_blk5 (blk_2 hR (.cells #[.int .i64 ((k : Int) + 1), .string (wordT (k + 1)), .int .i64 (nm (k + 1) 0), .int .i64 (nm (k + 1) 1), .int .i64 (nm (k + 1) 2)] 162) (.cells #[.int .i64 ((k : Int) + 1), .string (wordT (k + 1)), .int .i64 (nm (k + 1) 0), .int .i64 (nm (k + 1) 1), .int .i64 (nm (k + 1) 2)] 162)) (.int .i64 ((k : Int) + 1)) (.string (wordT (k + 1))) (.int .i64 (nm (k + 1) 0)) (.int .i64 (nm (k + 1) 1)) (.int .i64 (nm (k + 1) 2))
        refine bodyPost_ret (res_shape Tryz.results86 hW rfl rfl) rfl ⟨.inl ⟨k, hlt, rfl, rfl⟩, ?_⟩
        exact (((((((HBR.out.alloc (Nat.le_of_lt HRL.out) _).alloc (by simp; have := HRL.out; omega) _).setCell (Nat.le_refl _) _).setCell (Nat.le_refl _) _).setCell (Nat.le_refl _) _).setCell (Nat.le_refl _) _).setCell (Nat.le_refl _) _)
    · have r0 := blk_at hR 0
      have r1 := blk_at hR 1
      have r2 := blk_at hR 2
      have r3 := blk_at hR 3
      have r4 := blk_at hR 4
      have rf := fun i => blk_free hR i
      simp only [List.getElem?_toArray, List.getElem?_cons_zero, List.getElem?_cons_succ] at r0 r1 r2 r3 r4
      go_wp2
      have hW := set_blk5 hR (.int .i64 0) (.string ByteArray.empty) (.int .i64 0) (.int .i64 0) (.int .i64 0)
      refine bodyPost_ret (res_shape Tryz.results86 hW rfl rfl) rfl ⟨.inr ⟨?_, rfl⟩, ?_⟩
      · obtain rfl : k = 20 := by omega
        simp only [Atom.inB, decide_eq_false_iff_not]
        intro h
        exact HNO.out (key - 1).toNat (by omega) (by omega)
      · exact (((((HBR.out.setCell (Nat.le_refl _) _).setCell (Nat.le_refl _) _).setCell (Nat.le_refl _) _).setCell (Nat.le_refl _) _).setCell (Nat.le_refl _) _)
end Go.Proofs.YtfjaphhijefdlaaGreatDoor.Code
