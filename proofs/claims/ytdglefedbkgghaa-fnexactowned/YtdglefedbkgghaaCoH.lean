/-
  Two instructions compared; a slot blanked.
-/
import Derived.Test.YtdglefedbkgghaaCoG
import Derived.ChangeKeysEq
import Derived.DeepKeys
import Derived.Laws.StructEq
namespace Go.Proofs.Ytdglefedbkgghaa.Code
open Go.RowKit
open Go.Proofs.Ytdglefedbkgghaa.Atom
set_option linter.unusedVariables false

def insV (x : I) : Array Value := #[.int .i64 x.op, .int .i64 x.a, .int .i64 x.b, .int .i64 x.c, .int .i64 x.n, .string x.s]
def eqI (x y : I) : Bool := x.op == y.op && (x.a == y.a && (x.b == y.b && (x.c == y.c && (x.n == y.n && x.s.toList == y.s.toList))))

theorem run_eqI (op a b c n op' a' b' c' n' : Int) (s s' : ByteArray) (w : World) :
    (Op.equalIn 10000 85 (.agg #[.int .i64 op, .int .i64 a, .int .i64 b, .int .i64 c, .int .i64 n, .string s]) (.agg #[.int .i64 op', .int .i64 a', .int .i64 b', .int .i64 c', .int .i64 n', .string s'])).run Try.prog w = .ok (eqI ⟨op, a, b, c, n, s⟩ ⟨op', a', b', c', n', s'⟩) w := by
  have hS : Try.prog.underlying 85 = some (.struct (Try.prog.fieldsOf 85)) := by kernel_rfl
  have hp : Try.prog.stoodInHeld 85 = false := by kernel_rfl
  rw [show (10000 : Nat) = 9999 + 1 from rfl, run_equalIn_struct w 9999 85 _ _ hS hp]
  simp only [Program.fieldsOf, Try.underlying85]
  have p0 : ∀ (e f g h i : Value) (x : Int) w, (part 3 #[.int .i64 x, e, f, g, h, i] 0).run Try.prog w = .ok (.int .i64 x) w := fun _ _ _ _ _ _ _ => by kernel_rfl
  have p1 : ∀ (e f g h i : Value) (x : Int) w, (part 3 #[e, .int .i64 x, f, g, h, i] 1).run Try.prog w = .ok (.int .i64 x) w := fun _ _ _ _ _ _ _ => by kernel_rfl
  have p2 : ∀ (e f g h i : Value) (x : Int) w, (part 3 #[e, f, .int .i64 x, g, h, i] 2).run Try.prog w = .ok (.int .i64 x) w := fun _ _ _ _ _ _ _ => by kernel_rfl
  have p3 : ∀ (e f g h i : Value) (x : Int) w, (part 3 #[e, f, g, .int .i64 x, h, i] 3).run Try.prog w = .ok (.int .i64 x) w := fun _ _ _ _ _ _ _ => by kernel_rfl
  have p4 : ∀ (e f g h i : Value) (x : Int) w, (part 3 #[e, f, g, h, .int .i64 x, i] 4).run Try.prog w = .ok (.int .i64 x) w := fun _ _ _ _ _ _ _ => by kernel_rfl
  have p5 : ∀ (e f g h i : Value) (x : ByteArray) w, (part 9 #[e, f, g, h, i, .string x] 5).run Try.prog w = .ok (.string x) w := fun _ _ _ _ _ _ _ => by kernel_rfl
  have q : ∀ (x y : Int) w, (Op.equalIn 9999 3 (.int .i64 x) (.int .i64 y)).run Try.prog w = .ok (x == y) w := fun x y w => run_equalIn_int w 9998 3 .i64 .i64 x y Try.underlying3
  have qs : ∀ (x y : ByteArray) w, (Op.equalIn 9999 9 (.string x) (.string y)).run Try.prog w = .ok (x.toList == y.toList) w := fun x y w => run_equalIn_string w 9998 9 x y Try.underlying9
  simp [Op.eqFields, Sem.run_bind, p0, p1, p2, p3, p4, p5, q, qs, Result.andThen]
  by_cases h1 : op = op' <;> by_cases h2 : a = a' <;> by_cases h3 : b = b' <;> by_cases h4 : c = c' <;> by_cases h5 : n = n' <;> by_cases h6 : s.toList = s'.toList <;> simp [h1, h2, h3, h4, h5, h6, eqI]

end Go.Proofs.Ytdglefedbkgghaa.Code
