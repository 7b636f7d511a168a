/-
  Maps whose keys are names of lists: a pointer and a number.
-/
import Derived.Test.YtdglefedbkgghaaProg
import Derived.Laws.World
import Derived.LaidEql
import Derived.Below
import Derived.ChangeKeysEq
namespace Go.Proofs.Ytdglefedbkgghaa
open Go.RowKit
set_option linter.unusedVariables false

theorem blk_of_cell {w : World} {b o : Nat} {v : Value} (h : w.cell? ⟨b, o, none⟩ = some v) : ∃ c t f, w.heap[b]? = some (.cells c t f) := by
  unfold World.cell? at h
  cases hq : w.heap[b]? with
  | none => simp [hq] at h
  | some x => cases x <;> simp [hq] at h ⊢
/-- A block of cells none of which is frozen. -/
def Plain (w : World) (b : Nat) : Prop := (∃ c t f, w.heap[b]? = some (.cells c t f)) ∧ ∀ o, w.frozen? ⟨b, o, none⟩ = false
theorem sameAddr_any {P : Program} {w : World} {b o b' o' : Nat} (hb : Plain w b) (hb' : Plain w b') : (sameAddr ⟨b, o, none⟩ ⟨b', o', none⟩).run P w = .ok (decide (b = b' ∧ o = o')) w := by
  obtain ⟨⟨c, t, f, h⟩, hf⟩ := hb
  obtain ⟨⟨c', t', f', h'⟩, hf'⟩ := hb'
  by_cases e : b = b'
  · subst e
    by_cases e2 : o = o'
    · subst e2; simp [sameAddr]
    · simp [sameAddr, e2]
  · simp [sameAddr, e, hf, hf', noView, viewAt, World.shape?, mayBeOne, stringish, h, h']


theorem eq_int9 {w : World} {n n' : Int} (d : Nat) : (Op.equalIn (d + 1) 3 (.int .i64 n) (.int .i64 n')).run Try.prog w = .ok (n == n') w := by
  simp [Op.equalIn, run_underlying Try.underlying3]

abbrev nmV (b o : Nat) (n : Int) : Value := .agg #[.pointer (some ⟨b, o, none⟩), .int .i64 n]
/-- An entry of such a map; S tells which lists may be named. -/
def NmE (w : World) (S : Nat → Nat → Prop) (e : MapEntry) : Prop := ∃ b o n, e.key = nmV b o n ∧ Plain w b ∧ S b o ∧ ∃ a l c, e.val = .slice a l c
end Go.Proofs.Ytdglefedbkgghaa
