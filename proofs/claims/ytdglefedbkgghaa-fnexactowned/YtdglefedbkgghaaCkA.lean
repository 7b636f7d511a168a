/-
  Code: rows of instructions in memory; the specification's CodeOk: it answers codeB.
-/
import Derived.Test.YtdglefedbkgghaaCoC
namespace Go.Proofs.Ytdglefedbkgghaa.Code
open Go.RowKit
open Go.Proofs.Ytdglefedbkgghaa.Atom
set_option linter.unusedVariables false

def zeroI : I := ⟨0, 0, 0, 0, 0, ByteArray.empty⟩
def lastOp (l : List I) : Int := (l.getD (l.length - 1) zeroI).op
def codeB (l : List I) : Bool := decide (1 ≤ l.length ∧ l.length ≤ 200) && (((lastOp l == 19) || (lastOp l == 12)) && l.all fun x => specOk x l.length)

/-- The instructions l stand one behind the other from ao on; their texts have at most M bytes. -/
def RowI (w : World) (ao : Option Addr) (l : List I) : Prop := l = [] ∨ ∃ b o, ao = some ⟨b, o, none⟩ ∧ ∀ j (hj : j < l.length), Bx6 w b (o + j * 6) l[j]
def SmI (M : Nat) (l : List I) : Prop := ∀ x ∈ l, x.s.size ≤ M
theorem RowI.below {w w' : World} {ao : Option Addr} {l : List I} (h : RowI w ao l) (hb : Below w.heap.size w w') : RowI w' ao l := by
  rcases h with h | ⟨b, o, h1, h2⟩
  · exact .inl h
  · exact .inr ⟨b, o, h1, fun j hj => (h2 j hj).below hb⟩

theorem codeB_no {l : List I} (h : ¬ (1 ≤ l.length ∧ l.length ≤ 200)) : codeB l = false := by
  unfold codeB; rw [decide_eq_false h]; rfl
theorem codeB_is {l : List I} (h : 1 ≤ l.length ∧ l.length ≤ 200) : codeB l = (((lastOp l == 19) || (lastOp l == 12)) && l.all fun x => specOk x l.length) := by
  unfold codeB; rw [decide_eq_true h]; rfl

end Go.Proofs.Ytdglefedbkgghaa.Code
