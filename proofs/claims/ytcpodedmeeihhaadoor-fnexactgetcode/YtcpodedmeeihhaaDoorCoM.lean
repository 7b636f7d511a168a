/-
  The laws' own functions on instructions: sizes and copies.
-/
import Derived.Test.YtcpodedmeeihhaaDoorCoI
namespace Go.Proofs.YtcpodedmeeihhaaDoor.Code
open Go.RowKit
open Go.Proofs.YtcpodedmeeihhaaDoor.Atom
set_option linter.unusedVariables false

/-- What is left of a purse behind a text of m bytes. -/
def leftS (left : Int) (m : Nat) : Int := if left < (m : Int) then -1 else left - m

theorem szIns_any (op a b c n : Int) (s : ByteArray) (left : Int) (w : World) (h0 : 0 ≤ left) (h1 : left ≤ 1048576) (hs : s.size ≤ maxLen) :
    Calls Tryd.prog 18 #[.agg #[.int .i64 op, .int .i64 a, .int .i64 b, .int .i64 c, .int .i64 n, .string s], .int .i64 left] w fun e w' => e = .returned (.int .i64 (leftS left s.size)) ∧ Below w.heap.size w w' := by
  have hbn := (Below.refl w.heap.size w).alloc (Nat.le_refl _) (.cells #[.int .i64 op, .int .i64 a, .int .i64 b, .int .i64 c, .int .i64 n, .string s] 39)
  unfold maxLen at hs
  by_cases hl : left < (s.size : Int)
  · have HI : Hid (leftS left s.size = -1) := if_pos hl
    have hl' : left - (s.size : Int) < 0 := by omega
    go_enter Tryd.func18, Tryd.ntmps18
    go_wp2
    go_ret
    exact ⟨by rw [HI.out]; rfl, hbn⟩
  · have HI : Hid (leftS left s.size = left - s.size) := if_neg hl
    have hl' : ¬ left - (s.size : Int) < 0 := by omega
    go_enter Tryd.func18, Tryd.ntmps18
    go_wp2
    go_ret
    exact ⟨by rw [HI.out]; rfl, hbn⟩

theorem res_ins {w : World} {R : Nat} {a b c d e f : Value} {tmps : Array Value} {fn : Func} {q : Nat} (hf : fn.results = #[.cell q 42]) (h : w.heap[R]? = some (.cells #[a, b, c, d, e, f] 42 (0, 0)))
    (h4 : tmps.getD q undef = .pointer (some ⟨R, 0, none⟩)) : (results fn tmps).run Tryd.prog w = .ok (.agg #[a, b, c, d, e, f]) w :=
  results_cell_row hf tmps w R 42 #[a, b, c, d, e, f] (0, 0) _ h4 h Tryd.underlying42 rfl (by kernel_rfl)

theorem toIns_any (op a b c n : Int) (s : ByteArray) (w : World) :
    Calls Tryd.prog 21 #[.agg #[.int .i64 op, .int .i64 a, .int .i64 b, .int .i64 c, .int .i64 n, .string s]] w fun e w' => e = .returned (.agg #[.int .i64 op, .int .i64 a, .int .i64 b, .int .i64 c, .int .i64 n, .string s]) ∧ Below w.heap.size w w' := by
  go_enter Tryd.func21, Tryd.ntmps21
  go_wp2
  refine bodyPost_ret (res_ins (R := w.heap.size + 1) (a := .int .i64 op) (b := .int .i64 a) (c := .int .i64 b) (d := .int .i64 c) (e := .int .i64 n) (f := .string s) Tryd.results21 ?_ rfl) rfl ⟨rfl, ?_⟩
  · rw [Below.heap_alloc _ _ _ (by simp)]
    show (Array.push _ _)[_]? = _
    rw [Array.getElem?_push, if_pos (by simp)]
  · exact (((Below.refl _ w).alloc (Nat.le_refl _) _).alloc (by simp) _).alloc (by simp; try omega) _
end Go.Proofs.YtcpodedmeeihhaaDoor.Code
