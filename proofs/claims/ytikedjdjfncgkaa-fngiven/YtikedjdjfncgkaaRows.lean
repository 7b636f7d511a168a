/-
  No cell of these rows narrows 'for every input' (looked for: loops, veiled, ifaces, maps, wideKeys, modest, calm, conditions, laid).
  DERIVED. THE GIVEN ROWS OF THIS SEAT. 6 by the template 'for every input the law returns true; each argument reads behind the call as it read before'; 0 by the template 'total and deterministic' (their statements: YtikedjdjfncgkaaTotals.lean).
  GIVEN WITH THE SEED: the statements are not yours to turn. If you find one false, say at which input.
  Laid BY PROGRAM, IN A SANDBOX (cutbox-rows.mjs): the forced cells as the released guide's own fill.sh prints them over the translation f1161d0ec4c6ec40… (all of the seat's roots in one cut). By AI agents, Wed Nov 11 2026. No macro, syntax, notation, axiom, sorry.
-/
import Derived.Test.YtikedjdjfncgkaaChecked
import GoSem.Claim
import GoSem.ClaimJoined
import GoSem.ClaimMapViews
import Derived.JoinedTies
import Derived.KernelRfl
namespace Go.Proofs.Ytikedjdjfncgkaa
/- THE CELL 'sum', in the pinned program and in every row, IS THE sha256 OF THE DUMP (.gsa) THAT YtikedjdjfncgkaaProg.lean LOADS. Nothing in Lean hashes anything: it is a label: what it is worth is what the hold of that sum in a sandbox is worth. -/
noncomputable def Try.pinned : Pinned := { name := "ytikedjdjfncgkaa", sum := "f1161d0ec4c6ec40ec683ac5247137f610cddad3dcea06fec95caf140686066b", checked := Try.checked }
namespace Rows
def none {H : Type} : Left H := { results := [], args := [] }

/-- 'laws.FnGiven': WHATEVER THE INPUT: true; the input reads as it did. -/
def fnGivenSpec : ChangeSpec := { name := "fnGiven", fn := fun _ => fun
  | [d] => { results := [.lit (.bool true)], args := [d] }
  | _ => none }
def fnGivenRow : OpenClaim := { program := "ytikedjdjfncgkaa", sum := "f1161d0ec4c6ec40ec683ac5247137f610cddad3dcea06fec95caf140686066b", func := "loop.example/g00248/laws.FnGiven", spec := "fnGiven", unfollowed := true, recurses := true, apart := false }
def FnGivenSaid : Prop := fnGivenRow.holds Try.pinned (OpenSpec.ofChange fnGivenSpec)

/-- ITS FALSE NEIGHBOUR: 'it returns false'. Refute it at one input. -/
def fnGivenWrong : ChangeSpec := { name := "fnGiven", fn := fun _ => fun
  | [d] => { results := [.lit (.bool false)], args := [d] }
  | _ => none }
def FnGivenWrongFalsely : Prop := fnGivenRow.holds Try.pinned (OpenSpec.ofChange fnGivenWrong)

/-- 'laws.FnReleased': WHATEVER THE INPUT: true; the input reads as it did. -/
def fnReleasedSpec : ChangeSpec := { name := "fnReleased", fn := fun _ => fun
  | [d] => { results := [.lit (.bool true)], args := [d] }
  | _ => none }
def fnReleasedRow : OpenClaim := { program := "ytikedjdjfncgkaa", sum := "f1161d0ec4c6ec40ec683ac5247137f610cddad3dcea06fec95caf140686066b", func := "loop.example/g00248/laws.FnReleased", spec := "fnReleased", unfollowed := true, recurses := true, apart := false }
def FnReleasedSaid : Prop := fnReleasedRow.holds Try.pinned (OpenSpec.ofChange fnReleasedSpec)

/-- ITS FALSE NEIGHBOUR: 'it returns false'. Refute it at one input. -/
def fnReleasedWrong : ChangeSpec := { name := "fnReleased", fn := fun _ => fun
  | [d] => { results := [.lit (.bool false)], args := [d] }
  | _ => none }
def FnReleasedWrongFalsely : Prop := fnReleasedRow.holds Try.pinned (OpenSpec.ofChange fnReleasedWrong)

/-- 'laws.FnMadeWords': WHATEVER THE INPUT: true; the input reads as it did. -/
def fnMadeWordsSpec : ChangeSpec := { name := "fnMadeWords", fn := fun _ => fun
  | [d] => { results := [.lit (.bool true)], args := [d] }
  | _ => none }
def fnMadeWordsRow : OpenClaim := { program := "ytikedjdjfncgkaa", sum := "f1161d0ec4c6ec40ec683ac5247137f610cddad3dcea06fec95caf140686066b", func := "loop.example/g00248/laws.FnMadeWords", spec := "fnMadeWords", apart := false }
def FnMadeWordsSaid : Prop := fnMadeWordsRow.holds Try.pinned (OpenSpec.ofChange fnMadeWordsSpec)

/-- ITS FALSE NEIGHBOUR: 'it returns false'. Refute it at one input. -/
def fnMadeWordsWrong : ChangeSpec := { name := "fnMadeWords", fn := fun _ => fun
  | [d] => { results := [.lit (.bool false)], args := [d] }
  | _ => none }
def FnMadeWordsWrongFalsely : Prop := fnMadeWordsRow.holds Try.pinned (OpenSpec.ofChange fnMadeWordsWrong)

/-- 'laws.FnAtoms': WHATEVER THE INPUT: true; the input reads as it did. -/
def fnAtomsSpec : ChangeSpec := { name := "fnAtoms", fn := fun _ => fun
  | [d] => { results := [.lit (.bool true)], args := [d] }
  | _ => none }
def fnAtomsRow : OpenClaim := { program := "ytikedjdjfncgkaa", sum := "f1161d0ec4c6ec40ec683ac5247137f610cddad3dcea06fec95caf140686066b", func := "loop.example/g00248/laws.FnAtoms", spec := "fnAtoms", recurses := true, apart := false }
def FnAtomsSaid : Prop := fnAtomsRow.holds Try.pinned (OpenSpec.ofChange fnAtomsSpec)

/-- ITS FALSE NEIGHBOUR: 'it returns false'. Refute it at one input. -/
def fnAtomsWrong : ChangeSpec := { name := "fnAtoms", fn := fun _ => fun
  | [d] => { results := [.lit (.bool false)], args := [d] }
  | _ => none }
def FnAtomsWrongFalsely : Prop := fnAtomsRow.holds Try.pinned (OpenSpec.ofChange fnAtomsWrong)

/-- 'laws.FnApart': WHATEVER THE INPUT: true; the input reads as it did. -/
def fnApartSpec : ChangeSpec := { name := "fnApart", fn := fun _ => fun
  | [d] => { results := [.lit (.bool true)], args := [d] }
  | _ => none }
def fnApartRow : OpenClaim := { program := "ytikedjdjfncgkaa", sum := "f1161d0ec4c6ec40ec683ac5247137f610cddad3dcea06fec95caf140686066b", func := "loop.example/g00248/laws.FnApart", spec := "fnApart", unfollowed := true, recurses := true, apart := false }
def FnApartSaid : Prop := fnApartRow.holds Try.pinned (OpenSpec.ofChange fnApartSpec)

/-- ITS FALSE NEIGHBOUR: 'it returns false'. Refute it at one input. -/
def fnApartWrong : ChangeSpec := { name := "fnApart", fn := fun _ => fun
  | [d] => { results := [.lit (.bool false)], args := [d] }
  | _ => none }
def FnApartWrongFalsely : Prop := fnApartRow.holds Try.pinned (OpenSpec.ofChange fnApartWrong)

/-- 'laws.FnExactMakeWord': WHATEVER THE INPUT: true; the input reads as it did. -/
def fnExactMakeWordSpec : ChangeSpec := { name := "fnExactMakeWord", fn := fun _ => fun
  | [d1, d2] => { results := [.lit (.bool true)], args := [d1, d2] }
  | _ => none }
def fnExactMakeWordRow : OpenClaim := { program := "ytikedjdjfncgkaa", sum := "f1161d0ec4c6ec40ec683ac5247137f610cddad3dcea06fec95caf140686066b", func := "loop.example/g00248/laws.FnExactMakeWord", spec := "fnExactMakeWord", apart := false }
def FnExactMakeWordSaid : Prop := fnExactMakeWordRow.holds Try.pinned (OpenSpec.ofChange fnExactMakeWordSpec)

/-- ITS FALSE NEIGHBOUR: 'it returns false'. Refute it at one input. -/
def fnExactMakeWordWrong : ChangeSpec := { name := "fnExactMakeWord", fn := fun _ => fun
  | [d1, d2] => { results := [.lit (.bool false)], args := [d1, d2] }
  | _ => none }
def FnExactMakeWordWrongFalsely : Prop := fnExactMakeWordRow.holds Try.pinned (OpenSpec.ofChange fnExactMakeWordWrong)

/- THE SECOND FORM. 'bulk': how many values and letters a reading holds, each counted each time it is reached (what is shared counts as often as it is met; a slice's spare places count too). A statement '..UptoSaid' is the law's where the arguments, and the package variables that the reading takes, are together of bulk at most 1048576: NARROWER than '..Said'. Prove '..Said' where nothing that the law and all that it calls make is longer than what came in: it says more and counts as full. Else prove '..UptoSaid'. A law counts once. -/
mutual
def uptoBulk {H : Type} : DataW H → Nat
  | .lit (.string bytes) => bytes.length + 1
  | .lit _ => 1
  | .nil => 1
  | .ptr d => uptoBulk d + 1
  | .slice elems spare => uptoBulkAll elems + uptoBulkAll spare + 1
  | .agg parts => uptoBulkAll parts + 1
  | .iface _ d => uptoBulk d + 1
  | .map entries => uptoBulkEntries entries + 1
  | .held _ => 1
def uptoBulkAll {H : Type} : List (DataW H) → Nat
  | [] => 0
  | d :: r => uptoBulk d + uptoBulkAll r
def uptoBulkEntries {H : Type} : List (Lit × DataW H) → Nat
  | [] => 0
  | x :: r => uptoBulkEntry x + uptoBulkEntries r
def uptoBulkEntry {H : Type} : Lit × DataW H → Nat
  | (.string bytes, d) => bytes.length + uptoBulk d + 1
  | (_, d) => uptoBulk d + 1
 end
def uptoSmall : (H : Type) → List (DataW H) → Bool := fun _ ds => decide (uptoBulkAll ds ≤ 1048576)
def OpenSpec.upto (s : _root_.Go.ChangeSpec) : _root_.Go.OpenSpec := { _root_.Go.OpenSpec.ofChange s with cond := some uptoSmall }

/-- 'laws.FnGiven', WHERE WHAT IT READS IS OF BULK AT MOST 1048576: true; the input reads as it did. -/
def fnGivenUptoRow : OpenClaim := { program := "ytikedjdjfncgkaa", sum := "f1161d0ec4c6ec40ec683ac5247137f610cddad3dcea06fec95caf140686066b", func := "loop.example/g00248/laws.FnGiven", spec := "fnGiven", unfollowed := true, recurses := true, apart := false, narrowed := true }
def FnGivenUptoSaid : Prop := fnGivenUptoRow.holds Try.pinned (OpenSpec.upto fnGivenSpec)

/-- 'laws.FnReleased', WHERE WHAT IT READS IS OF BULK AT MOST 1048576: true; the input reads as it did. -/
def fnReleasedUptoRow : OpenClaim := { program := "ytikedjdjfncgkaa", sum := "f1161d0ec4c6ec40ec683ac5247137f610cddad3dcea06fec95caf140686066b", func := "loop.example/g00248/laws.FnReleased", spec := "fnReleased", unfollowed := true, recurses := true, apart := false, narrowed := true }
def FnReleasedUptoSaid : Prop := fnReleasedUptoRow.holds Try.pinned (OpenSpec.upto fnReleasedSpec)

/-- 'laws.FnMadeWords', WHERE WHAT IT READS IS OF BULK AT MOST 1048576: true; the input reads as it did. -/
def fnMadeWordsUptoRow : OpenClaim := { program := "ytikedjdjfncgkaa", sum := "f1161d0ec4c6ec40ec683ac5247137f610cddad3dcea06fec95caf140686066b", func := "loop.example/g00248/laws.FnMadeWords", spec := "fnMadeWords", apart := false, narrowed := true }
def FnMadeWordsUptoSaid : Prop := fnMadeWordsUptoRow.holds Try.pinned (OpenSpec.upto fnMadeWordsSpec)

/-- 'laws.FnAtoms', WHERE WHAT IT READS IS OF BULK AT MOST 1048576: true; the input reads as it did. -/
def fnAtomsUptoRow : OpenClaim := { program := "ytikedjdjfncgkaa", sum := "f1161d0ec4c6ec40ec683ac5247137f610cddad3dcea06fec95caf140686066b", func := "loop.example/g00248/laws.FnAtoms", spec := "fnAtoms", recurses := true, apart := false, narrowed := true }
def FnAtomsUptoSaid : Prop := fnAtomsUptoRow.holds Try.pinned (OpenSpec.upto fnAtomsSpec)

/-- 'laws.FnApart', WHERE WHAT IT READS IS OF BULK AT MOST 1048576: true; the input reads as it did. -/
def fnApartUptoRow : OpenClaim := { program := "ytikedjdjfncgkaa", sum := "f1161d0ec4c6ec40ec683ac5247137f610cddad3dcea06fec95caf140686066b", func := "loop.example/g00248/laws.FnApart", spec := "fnApart", unfollowed := true, recurses := true, apart := false, narrowed := true }
def FnApartUptoSaid : Prop := fnApartUptoRow.holds Try.pinned (OpenSpec.upto fnApartSpec)

/-- 'laws.FnExactMakeWord', WHERE WHAT IT READS IS OF BULK AT MOST 1048576: true; the input reads as it did. -/
def fnExactMakeWordUptoRow : OpenClaim := { program := "ytikedjdjfncgkaa", sum := "f1161d0ec4c6ec40ec683ac5247137f610cddad3dcea06fec95caf140686066b", func := "loop.example/g00248/laws.FnExactMakeWord", spec := "fnExactMakeWord", apart := false, narrowed := true }
def FnExactMakeWordUptoSaid : Prop := fnExactMakeWordUptoRow.holds Try.pinned (OpenSpec.upto fnExactMakeWordSpec)

end Rows
end Go.Proofs.Ytikedjdjfncgkaa
