/-
  No cell of these rows narrows 'for every input' (looked for: loops, veiled, ifaces, maps, wideKeys, modest, calm, conditions, laid).
  DERIVED. THE GIVEN ROWS OF THIS SEAT. 4 by the template 'for every input the law returns true; each argument reads behind the call as it read before'; 0 by the template 'total and deterministic' (their statements: YtikedjdjfncgkabTotals.lean).
  GIVEN WITH THE SEED: the statements are not yours to turn. If you find one false, say at which input.
  Laid BY PROGRAM, IN A SANDBOX (cutbox-rows.mjs): the forced cells as the released guide's own fill.sh prints them over the translation e916144e11520b50… (all of the seat's roots in one cut). By AI agents, Wed Nov 11 2026. No macro, syntax, notation, axiom, sorry.
-/
import Derived.Test.YtikedjdjfncgkabChecked
import GoSem.Claim
import GoSem.ClaimJoined
import GoSem.ClaimMapViews
import Derived.JoinedTies
import Derived.KernelRfl
namespace Go.Proofs.Ytikedjdjfncgkab
/- THE CELL 'sum', in the pinned program and in every row, IS THE sha256 OF THE DUMP (.gsa) THAT YtikedjdjfncgkabProg.lean LOADS. Nothing in Lean hashes anything: it is a label: what it is worth is what the hold of that sum in a sandbox is worth. -/
noncomputable def Try.pinned : Pinned := { name := "ytikedjdjfncgkab", sum := "e916144e11520b501dc65f254df7d6d15ab9391149ed64c457ded5e7de17addf", checked := Try.checked }
namespace Rows
def none {H : Type} : Left H := { results := [], args := [] }

/-- 'laws.FnExactTagOf': WHATEVER THE INPUT: true; the input reads as it did. -/
def fnExactTagOfSpec : ChangeSpec := { name := "fnExactTagOf", fn := fun _ => fun
  | [d] => { results := [.lit (.bool true)], args := [d] }
  | _ => none }
def fnExactTagOfRow : OpenClaim := { program := "ytikedjdjfncgkab", sum := "e916144e11520b501dc65f254df7d6d15ab9391149ed64c457ded5e7de17addf", func := "loop.example/g00248/laws.FnExactTagOf", spec := "fnExactTagOf", apart := false }
def FnExactTagOfSaid : Prop := fnExactTagOfRow.holds Try.pinned (OpenSpec.ofChange fnExactTagOfSpec)

/-- ITS FALSE NEIGHBOUR: 'it returns false'. Refute it at one input. -/
def fnExactTagOfWrong : ChangeSpec := { name := "fnExactTagOf", fn := fun _ => fun
  | [d] => { results := [.lit (.bool false)], args := [d] }
  | _ => none }
def FnExactTagOfWrongFalsely : Prop := fnExactTagOfRow.holds Try.pinned (OpenSpec.ofChange fnExactTagOfWrong)

/-- 'laws.FnExactValOf': WHATEVER THE INPUT: true; the input reads as it did. -/
def fnExactValOfSpec : ChangeSpec := { name := "fnExactValOf", fn := fun _ => fun
  | [d] => { results := [.lit (.bool true)], args := [d] }
  | _ => none }
def fnExactValOfRow : OpenClaim := { program := "ytikedjdjfncgkab", sum := "e916144e11520b501dc65f254df7d6d15ab9391149ed64c457ded5e7de17addf", func := "loop.example/g00248/laws.FnExactValOf", spec := "fnExactValOf", apart := false }
def FnExactValOfSaid : Prop := fnExactValOfRow.holds Try.pinned (OpenSpec.ofChange fnExactValOfSpec)

/-- ITS FALSE NEIGHBOUR: 'it returns false'. Refute it at one input. -/
def fnExactValOfWrong : ChangeSpec := { name := "fnExactValOf", fn := fun _ => fun
  | [d] => { results := [.lit (.bool false)], args := [d] }
  | _ => none }
def FnExactValOfWrongFalsely : Prop := fnExactValOfRow.holds Try.pinned (OpenSpec.ofChange fnExactValOfWrong)

/-- 'laws.FnExactAtomAt': WHATEVER THE INPUT: true; the input reads as it did. -/
def fnExactAtomAtSpec : ChangeSpec := { name := "fnExactAtomAt", fn := fun _ => fun
  | [d1, d2] => { results := [.lit (.bool true)], args := [d1, d2] }
  | _ => none }
def fnExactAtomAtRow : OpenClaim := { program := "ytikedjdjfncgkab", sum := "e916144e11520b501dc65f254df7d6d15ab9391149ed64c457ded5e7de17addf", func := "loop.example/g00248/laws.FnExactAtomAt", spec := "fnExactAtomAt", apart := false }
def FnExactAtomAtSaid : Prop := fnExactAtomAtRow.holds Try.pinned (OpenSpec.ofChange fnExactAtomAtSpec)

/-- ITS FALSE NEIGHBOUR: 'it returns false'. Refute it at one input. -/
def fnExactAtomAtWrong : ChangeSpec := { name := "fnExactAtomAt", fn := fun _ => fun
  | [d1, d2] => { results := [.lit (.bool false)], args := [d1, d2] }
  | _ => none }
def FnExactAtomAtWrongFalsely : Prop := fnExactAtomAtRow.holds Try.pinned (OpenSpec.ofChange fnExactAtomAtWrong)

/-- 'laws.FnExactAddAtom': WHATEVER THE INPUT: true; the input reads as it did. -/
def fnExactAddAtomSpec : ChangeSpec := { name := "fnExactAddAtom", fn := fun _ => fun
  | [d1, d2] => { results := [.lit (.bool true)], args := [d1, d2] }
  | _ => none }
def fnExactAddAtomRow : OpenClaim := { program := "ytikedjdjfncgkab", sum := "e916144e11520b501dc65f254df7d6d15ab9391149ed64c457ded5e7de17addf", func := "loop.example/g00248/laws.FnExactAddAtom", spec := "fnExactAddAtom", apart := false }
def FnExactAddAtomSaid : Prop := fnExactAddAtomRow.holds Try.pinned (OpenSpec.ofChange fnExactAddAtomSpec)

/-- ITS FALSE NEIGHBOUR: 'it returns false'. Refute it at one input. -/
def fnExactAddAtomWrong : ChangeSpec := { name := "fnExactAddAtom", fn := fun _ => fun
  | [d1, d2] => { results := [.lit (.bool false)], args := [d1, d2] }
  | _ => none }
def FnExactAddAtomWrongFalsely : Prop := fnExactAddAtomRow.holds Try.pinned (OpenSpec.ofChange fnExactAddAtomWrong)

/- THE SECOND FORM. 'bulk': how many values and letters a reading holds, each counted each time it is reached (what is shared counts as often as it is met; a slice's spare places count too). A statement '..UptoSaid' is the law's where the arguments, and the package variables that the reading takes, are together of bulk at most 1048576: NARROWER than '..Said'. Prove '..Said' where nothing that the law and all that it calls make is longer than what came in: it says more and counts as full. Else prove '..UptoSaid'. A law counts once. -/
mutual
def uptoBulk {H : Type} : DataW H → Nat
  | .lit (.string bytes) => bytes.length + 1
  | .lit _ => 1
  | .nil => 1
  | .ptr d => uptoBulk d + 1
  | .slice elems spare => uptoBulkAll elems + uptoBulkAll spare + 1
  | .agg parts => uptoBulkAll parts + 1
  | .iface _ d => uptoBulk d + 1
  | .map entries => uptoBulkEntries entries + 1
  | .held _ => 1
def uptoBulkAll {H : Type} : List (DataW H) → Nat
  | [] => 0
  | d :: r => uptoBulk d + uptoBulkAll r
def uptoBulkEntries {H : Type} : List (Lit × DataW H) → Nat
  | [] => 0
  | x :: r => uptoBulkEntry x + uptoBulkEntries r
def uptoBulkEntry {H : Type} : Lit × DataW H → Nat
  | (.string bytes, d) => bytes.length + uptoBulk d + 1
  | (_, d) => uptoBulk d + 1
 end
def uptoSmall : (H : Type) → List (DataW H) → Bool := fun _ ds => decide (uptoBulkAll ds ≤ 1048576)
def OpenSpec.upto (s : _root_.Go.ChangeSpec) : _root_.Go.OpenSpec := { _root_.Go.OpenSpec.ofChange s with cond := some uptoSmall }

/-- 'laws.FnExactTagOf', WHERE WHAT IT READS IS OF BULK AT MOST 1048576: true; the input reads as it did. -/
def fnExactTagOfUptoRow : OpenClaim := { program := "ytikedjdjfncgkab", sum := "e916144e11520b501dc65f254df7d6d15ab9391149ed64c457ded5e7de17addf", func := "loop.example/g00248/laws.FnExactTagOf", spec := "fnExactTagOf", apart := false, narrowed := true }
def FnExactTagOfUptoSaid : Prop := fnExactTagOfUptoRow.holds Try.pinned (OpenSpec.upto fnExactTagOfSpec)

/-- 'laws.FnExactValOf', WHERE WHAT IT READS IS OF BULK AT MOST 1048576: true; the input reads as it did. -/
def fnExactValOfUptoRow : OpenClaim := { program := "ytikedjdjfncgkab", sum := "e916144e11520b501dc65f254df7d6d15ab9391149ed64c457ded5e7de17addf", func := "loop.example/g00248/laws.FnExactValOf", spec := "fnExactValOf", apart := false, narrowed := true }
def FnExactValOfUptoSaid : Prop := fnExactValOfUptoRow.holds Try.pinned (OpenSpec.upto fnExactValOfSpec)

/-- 'laws.FnExactAtomAt', WHERE WHAT IT READS IS OF BULK AT MOST 1048576: true; the input reads as it did. -/
def fnExactAtomAtUptoRow : OpenClaim := { program := "ytikedjdjfncgkab", sum := "e916144e11520b501dc65f254df7d6d15ab9391149ed64c457ded5e7de17addf", func := "loop.example/g00248/laws.FnExactAtomAt", spec := "fnExactAtomAt", apart := false, narrowed := true }
def FnExactAtomAtUptoSaid : Prop := fnExactAtomAtUptoRow.holds Try.pinned (OpenSpec.upto fnExactAtomAtSpec)

/-- 'laws.FnExactAddAtom', WHERE WHAT IT READS IS OF BULK AT MOST 1048576: true; the input reads as it did. -/
def fnExactAddAtomUptoRow : OpenClaim := { program := "ytikedjdjfncgkab", sum := "e916144e11520b501dc65f254df7d6d15ab9391149ed64c457ded5e7de17addf", func := "loop.example/g00248/laws.FnExactAddAtom", spec := "fnExactAddAtom", apart := false, narrowed := true }
def FnExactAddAtomUptoSaid : Prop := fnExactAddAtomUptoRow.holds Try.pinned (OpenSpec.upto fnExactAddAtomSpec)

end Rows
end Go.Proofs.Ytikedjdjfncgkab
