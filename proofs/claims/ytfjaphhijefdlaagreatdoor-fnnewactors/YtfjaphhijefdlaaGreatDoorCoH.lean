/-
  Two instructions compared; a slot blanked.
-/
import Derived.Test.YtfjaphhijefdlaaGreatDoorCoG
import Derived.ChangeKeysEq
import Derived.DeepKeys
import Derived.Laws.StructEq
namespace Go.Proofs.YtfjaphhijefdlaaGreatDoor.Code
open Go.RowKit
open Go.Proofs.YtfjaphhijefdlaaGreatDoor.Atom
set_option linter.unusedVariables false

def insV (x : I) : Array Value := #[.int .i64 x.op, .int .i64 x.a, .int .i64 x.b, .int .i64 x.c, .int .i64 x.n, .string x.s]
def eqI (x y : I) : Bool := x.op == y.op && (x.a == y.a && (x.b == y.b && (x.c == y.c && (x.n == y.n && x.s.toList == y.s.toList))))

theorem run_eqI (op a b c n op' a' b' c' n' : Int) (s s' : ByteArray) (w : World) :
    (Op.equalIn 10000 77 (.agg #[.int .i64 op, .int .i64 a, .int .i64 b, .int .i64 c, .int .i64 n, .string s]) (.agg #[.int .i64 op', .int .i64 a', .int .i64 b', .int .i64 c', .int .i64 n', .string s'])).run Tryz.prog w = .ok (eqI ⟨op, a, b, c, n, s⟩ ⟨op', a', b', c', n', s'⟩) w := by
  have hS : Tryz.prog.underlying 77 = some (.struct (Tryz.prog.fieldsOf 77)) := by kernel_rfl
  have hp : Tryz.prog.stoodInHeld 77 = false := by kernel_rfl
  rw [show (10000 : Nat) = 9999 + 1 from rfl, run_equalIn_struct w 9999 77 _ _ hS hp]
  simp only [Program.fieldsOf, Tryz.underlying77]
  have p0 : ∀ (e f g h i : Value) (x : Int) w, (part 3 #[.int .i64 x, e, f, g, h, i] 0).run Tryz.prog w = .ok (.int .i64 x) w := fun _ _ _ _ _ _ _ => by kernel_rfl
  have p1 : ∀ (e f g h i : Value) (x : Int) w, (part 3 #[e, .int .i64 x, f, g, h, i] 1).run Tryz.prog w = .ok (.int .i64 x) w := fun _ _ _ _ _ _ _ => by kernel_rfl
  have p2 : ∀ (e f g h i : Value) (x : Int) w, (part 3 #[e, f, .int .i64 x, g, h, i] 2).run Tryz.prog w = .ok (.int .i64 x) w := fun _ _ _ _ _ _ _ => by kernel_rfl
  have p3 : ∀ (e f g h i : Value) (x : Int) w, (part 3 #[e, f, g, .int .i64 x, h, i] 3).run Tryz.prog w = .ok (.int .i64 x) w := fun _ _ _ _ _ _ _ => by kernel_rfl
  have p4 : ∀ (e f g h i : Value) (x : Int) w, (part 3 #[e, f, g, h, .int .i64 x, i] 4).run Tryz.prog w = .ok (.int .i64 x) w := fun _ _ _ _ _ _ _ => by kernel_rfl
  have p5 : ∀ (e f g h i : Value) (x : ByteArray) w, (part 9 #[e, f, g, h, i, .string x] 5).run Tryz.prog w = .ok (.string x) w := fun _ _ _ _ _ _ _ => by kernel_rfl
  have q : ∀ (x y : Int) w, (Op.equalIn 9999 3 (.int .i64 x) (.int .i64 y)).run Tryz.prog w = .ok (x == y) w := fun x y w => run_equalIn_int w 9998 3 .i64 .i64 x y Tryz.underlying3
  have qs : ∀ (x y : ByteArray) w, (Op.equalIn 9999 9 (.string x) (.string y)).run Tryz.prog w = .ok (x.toList == y.toList) w := fun x y w => run_equalIn_string w 9998 9 x y Tryz.underlying9
  simp [Op.eqFields, Sem.run_bind, p0, p1, p2, p3, p4, p5, q, qs, Result.andThen]
  by_cases h1 : op = op' <;> by_cases h2 : a = a' <;> by_cases h3 : b = b' <;> by_cases h4 : c = c' <;> by_cases h5 : n = n' <;> by_cases h6 : s.toList = s'.toList <;> simp [h1, h2, h3, h4, h5, h6, eqI]

theorem blank_any (k : Nat) (h1 : 1 ≤ k) (h9 : k ≤ 9) (R : Nat) (x : I) (w : World) (h : w.heap[R]? = some (.cells (insV x) 77 (0, 0))) :
    Calls Tryz.prog 90 #[.int .i64 (k : Int), .pointer (some ⟨R, 0, none⟩)] w fun e w' => e = .returned (.tuple #[]) ∧ w'.heap[R]? = some (.cells (insV (blank x k)) 77 (0, 0)) ∧ ∃ i v, w' = w.setCell ⟨R, i, none⟩ v := by
  obtain ⟨op, a, b, c, n, s⟩ := x
  have rf := fun i => blk_free h i
  by_cases e9 : k = 9
  · subst e9
    have c5 := blk_at h 5
    simp only [insV, List.getElem?_toArray, List.getElem?_cons_zero, List.getElem?_cons_succ] at c5
    have HS : Hid ((w.setCell ⟨R, 5, none⟩ (.string ByteArray.empty)).heap[R]? = some (.cells (insV (blank ⟨op, a, b, c, n, s⟩ 9)) 77 (0, 0))) := by
      show _ = _; rw [set_blk h]; rfl
    go_enter Tryz.func90, Tryz.ntmps90
    go_wp2
    refine bodyPost_ret (results_none rfl _ _ _) rfl ?_
    exact ⟨rfl, HS.out, _, _, rfl⟩
  · have h8 : k ≤ 8 := by omega
    have k9 : ((k : Int) == 9) = false := by simp; omega
    have cf : ∃ v, w.cell? ⟨R, fld k, none⟩ = some v := by
      have hx := blk_at h (fld k)
      have : fld k < 6 := by unfold fld; split <;> omega
      rw [hx, Array.getElem?_eq_getElem (by simpa [insV] using this)]; exact ⟨_, rfl⟩
    obtain ⟨v, cf⟩ := cf
    have HS : Hid ((w.setCell ⟨R, fld k, none⟩ (.int .i64 0)).heap[R]? = some (.cells (insV (blank ⟨op, a, b, c, n, s⟩ k)) 77 (0, 0))) := by
      show _ = _; rw [set_blk h]
      have : k = 1 ∨ k = 2 ∨ k = 3 ∨ k = 4 ∨ k = 5 ∨ k = 6 ∨ k = 7 ∨ k = 8 := by omega
      rcases this with rfl | rfl | rfl | rfl | rfl | rfl | rfl | rfl <;> rfl
    have KN : Hid (∀ w, Calls Tryz.prog 99 #[.int .i64 (k : Int), .pointer (some ⟨R, 0, none⟩)] w fun e w' => e = .returned (.pointer (some ⟨R, fld k, none⟩)) ∧ w' = w) := fun w => by
      have := number_any k h1 h9 R 0 w
      rw [Nat.zero_add] at this; exact this
    go_enter Tryz.func90, Tryz.ntmps90
    go_wp2_with (go_at_call 99; refine (KN.out _).mono ?_; rintro e w2 ⟨rfl, rfl⟩)
    go_end0
    exact ⟨rfl, HS.out, _, _, rfl⟩
end Go.Proofs.YtfjaphhijefdlaaGreatDoor.Code
