/-
  rightAlone answers as l1Shape.
-/
import Derived.Test.YtklcpogpnoghkaaTmE
import Derived.WalkSmall
namespace Go.Proofs.Ytklcpogpnoghkaa
open Go.RowKit Atom
set_option linter.unusedVariables false

theorem assert_80_80 (v : Value) (W : World) : (Instr.typeAssert (.iface 65 v) 52 65 true).run Try.prog W = .ok (.tuple #[v, .bool true]) W := by kernel_rfl
theorem assert_81_80 (v : Value) (W : World) : (Instr.typeAssert (.iface 66 v) 52 65 true).run Try.prog W = .ok (.tuple #[.int .i64 0, .bool false]) W := by kernel_rfl
theorem assert_81_81 (v : Value) (W : World) : (Instr.typeAssert (.iface 66 v) 52 66 true).run Try.prog W = .ok (.tuple #[v, .bool true]) W := by kernel_rfl
theorem assert_82_80 (v : Value) (W : World) : (Instr.typeAssert (.iface 67 v) 52 65 true).run Try.prog W = .ok (.tuple #[.int .i64 0, .bool false]) W := by kernel_rfl
theorem assert_82_81 (v : Value) (W : World) : (Instr.typeAssert (.iface 67 v) 52 66 true).run Try.prog W = .ok (.tuple #[.string ⟨#[]⟩, .bool false]) W := by kernel_rfl
theorem assert_82_82 (v : Value) (W : World) : (Instr.typeAssert (.iface 67 v) 52 67 true).run Try.prog W = .ok (.tuple #[v, .bool true]) W := by kernel_rfl
theorem assert_83_80 (v : Value) (W : World) : (Instr.typeAssert (.iface 68 v) 52 65 true).run Try.prog W = .ok (.tuple #[.int .i64 0, .bool false]) W := by kernel_rfl
theorem assert_83_81 (v : Value) (W : World) : (Instr.typeAssert (.iface 68 v) 52 66 true).run Try.prog W = .ok (.tuple #[.string ⟨#[]⟩, .bool false]) W := by kernel_rfl
theorem assert_83_82 (v : Value) (W : World) : (Instr.typeAssert (.iface 68 v) 52 67 true).run Try.prog W = .ok (.tuple #[.int .i64 0, .bool false]) W := by kernel_rfl
theorem assert_83_83 (v : Value) (W : World) : (Instr.typeAssert (.iface 68 v) 52 68 true).run Try.prog W = .ok (.tuple #[v, .bool true]) W := by kernel_rfl
theorem assert_84_80 (v : Value) (W : World) : (Instr.typeAssert (.iface 69 v) 52 65 true).run Try.prog W = .ok (.tuple #[.int .i64 0, .bool false]) W := by kernel_rfl
theorem assert_84_81 (v : Value) (W : World) : (Instr.typeAssert (.iface 69 v) 52 66 true).run Try.prog W = .ok (.tuple #[.string ⟨#[]⟩, .bool false]) W := by kernel_rfl
theorem assert_84_82 (v : Value) (W : World) : (Instr.typeAssert (.iface 69 v) 52 67 true).run Try.prog W = .ok (.tuple #[.int .i64 0, .bool false]) W := by kernel_rfl
theorem assert_84_83 (v : Value) (W : World) : (Instr.typeAssert (.iface 69 v) 52 68 true).run Try.prog W = .ok (.tuple #[.slice none 0 0, .bool false]) W := by kernel_rfl
theorem assert_84_84 (v : Value) (W : World) : (Instr.typeAssert (.iface 69 v) 52 69 true).run Try.prog W = .ok (.tuple #[v, .bool true]) W := by kernel_rfl
theorem assert_85_80 (v : Value) (W : World) : (Instr.typeAssert (.iface 70 v) 52 65 true).run Try.prog W = .ok (.tuple #[.int .i64 0, .bool false]) W := by kernel_rfl
theorem assert_85_81 (v : Value) (W : World) : (Instr.typeAssert (.iface 70 v) 52 66 true).run Try.prog W = .ok (.tuple #[.string ⟨#[]⟩, .bool false]) W := by kernel_rfl
theorem assert_85_82 (v : Value) (W : World) : (Instr.typeAssert (.iface 70 v) 52 67 true).run Try.prog W = .ok (.tuple #[.int .i64 0, .bool false]) W := by kernel_rfl
theorem assert_85_83 (v : Value) (W : World) : (Instr.typeAssert (.iface 70 v) 52 68 true).run Try.prog W = .ok (.tuple #[.slice none 0 0, .bool false]) W := by kernel_rfl
theorem assert_85_84 (v : Value) (W : World) : (Instr.typeAssert (.iface 70 v) 52 69 true).run Try.prog W = .ok (.tuple #[.slice none 0 0, .bool false]) W := by kernel_rfl
theorem assert_85_85 (v : Value) (W : World) : (Instr.typeAssert (.iface 70 v) 52 70 true).run Try.prog W = .ok (.tuple #[v, .bool true]) W := by kernel_rfl
theorem assert_86_80 (v : Value) (W : World) : (Instr.typeAssert (.iface 71 v) 52 65 true).run Try.prog W = .ok (.tuple #[.int .i64 0, .bool false]) W := by kernel_rfl
theorem assert_86_81 (v : Value) (W : World) : (Instr.typeAssert (.iface 71 v) 52 66 true).run Try.prog W = .ok (.tuple #[.string ⟨#[]⟩, .bool false]) W := by kernel_rfl
theorem assert_86_82 (v : Value) (W : World) : (Instr.typeAssert (.iface 71 v) 52 67 true).run Try.prog W = .ok (.tuple #[.int .i64 0, .bool false]) W := by kernel_rfl
theorem assert_86_83 (v : Value) (W : World) : (Instr.typeAssert (.iface 71 v) 52 68 true).run Try.prog W = .ok (.tuple #[.slice none 0 0, .bool false]) W := by kernel_rfl
theorem assert_86_84 (v : Value) (W : World) : (Instr.typeAssert (.iface 71 v) 52 69 true).run Try.prog W = .ok (.tuple #[.slice none 0 0, .bool false]) W := by kernel_rfl
theorem assert_86_85 (v : Value) (W : World) : (Instr.typeAssert (.iface 71 v) 52 70 true).run Try.prog W = .ok (.tuple #[.string ⟨#[]⟩, .bool false]) W := by kernel_rfl

end Go.Proofs.Ytklcpogpnoghkaa
