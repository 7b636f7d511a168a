/-
  No cell of these rows narrows 'for every input' (looked for: loops, veiled, ifaces, maps, wideKeys, modest, calm, conditions, laid).
  DERIVED. THE GIVEN ROWS OF THIS SEAT. 6 by the template 'for every input the law returns true; each argument reads behind the call as it read before'; 0 by the template 'total and deterministic' (their statements: YtejhfoahpopeoaaTotals.lean).
  GIVEN WITH THE SEED: the statements are not yours to turn. If you find one false, say at which input.
  Laid BY PROGRAM, IN A SANDBOX (cutbox-rows.mjs): the forced cells as the released guide's own fill.sh prints them over the translation faadd0753bae10a9… (all of the seat's roots in one cut). By AI agents, Wed Nov 11 2026. No macro, syntax, notation, axiom, sorry.
-/
import Derived.Test.YtejhfoahpopeoaaChecked
import GoSem.Claim
import GoSem.ClaimJoined
import GoSem.ClaimMapViews
import Derived.JoinedTies
import Derived.KernelRfl
namespace Go.Proofs.Ytejhfoahpopeoaa
/- THE CELL 'sum', in the pinned program and in every row, IS THE sha256 OF THE DUMP (.gsa) THAT YtejhfoahpopeoaaProg.lean LOADS. Nothing in Lean hashes anything: it is a label: what it is worth is what the hold of that sum in a sandbox is worth. -/
noncomputable def Try.pinned : Pinned := { name := "ytejhfoahpopeoaa", sum := "faadd0753bae10a96d0347332181a0afaba4f991eb61b1bd51c1da7af3278b39", checked := Try.checked }
namespace Rows
def none {H : Type} : Left H := { results := [], args := [] }

/-- 'laws.FnStruck': WHATEVER THE INPUT: true; the input reads as it did. -/
def fnStruckSpec : ChangeSpec := { name := "fnStruck", fn := fun _ => fun
  | [d] => { results := [.lit (.bool true)], args := [d] }
  | _ => none }
def fnStruckRow : OpenClaim := { program := "ytejhfoahpopeoaa", sum := "faadd0753bae10a96d0347332181a0afaba4f991eb61b1bd51c1da7af3278b39", func := "loop.example/g00248/laws.FnStruck", spec := "fnStruck", unfollowed := true, recurses := true, apart := false }
def FnStruckSaid : Prop := fnStruckRow.holds Try.pinned (OpenSpec.ofChange fnStruckSpec)

/-- ITS FALSE NEIGHBOUR: 'it returns false'. Refute it at one input. -/
def fnStruckWrong : ChangeSpec := { name := "fnStruck", fn := fun _ => fun
  | [d] => { results := [.lit (.bool false)], args := [d] }
  | _ => none }
def FnStruckWrongFalsely : Prop := fnStruckRow.holds Try.pinned (OpenSpec.ofChange fnStruckWrong)

/-- 'laws.FnFresh': WHATEVER THE INPUT: true; the input reads as it did. -/
def fnFreshSpec : ChangeSpec := { name := "fnFresh", fn := fun _ => fun
  | [d] => { results := [.lit (.bool true)], args := [d] }
  | _ => none }
def fnFreshRow : OpenClaim := { program := "ytejhfoahpopeoaa", sum := "faadd0753bae10a96d0347332181a0afaba4f991eb61b1bd51c1da7af3278b39", func := "loop.example/g00248/laws.FnFresh", spec := "fnFresh", unfollowed := true, recurses := true, apart := false }
def FnFreshSaid : Prop := fnFreshRow.holds Try.pinned (OpenSpec.ofChange fnFreshSpec)

/-- ITS FALSE NEIGHBOUR: 'it returns false'. Refute it at one input. -/
def fnFreshWrong : ChangeSpec := { name := "fnFresh", fn := fun _ => fun
  | [d] => { results := [.lit (.bool false)], args := [d] }
  | _ => none }
def FnFreshWrongFalsely : Prop := fnFreshRow.holds Try.pinned (OpenSpec.ofChange fnFreshWrong)

/-- 'laws.FnBlocks': WHATEVER THE INPUT: true; the input reads as it did. -/
def fnBlocksSpec : ChangeSpec := { name := "fnBlocks", fn := fun _ => fun
  | [d] => { results := [.lit (.bool true)], args := [d] }
  | _ => none }
def fnBlocksRow : OpenClaim := { program := "ytejhfoahpopeoaa", sum := "faadd0753bae10a96d0347332181a0afaba4f991eb61b1bd51c1da7af3278b39", func := "loop.example/g00248/laws.FnBlocks", spec := "fnBlocks", apart := false }
def FnBlocksSaid : Prop := fnBlocksRow.holds Try.pinned (OpenSpec.ofChange fnBlocksSpec)

/-- ITS FALSE NEIGHBOUR: 'it returns false'. Refute it at one input. -/
def fnBlocksWrong : ChangeSpec := { name := "fnBlocks", fn := fun _ => fun
  | [d] => { results := [.lit (.bool false)], args := [d] }
  | _ => none }
def FnBlocksWrongFalsely : Prop := fnBlocksRow.holds Try.pinned (OpenSpec.ofChange fnBlocksWrong)

/-- 'laws.FnGiven': WHATEVER THE INPUT: true; the input reads as it did. -/
def fnGivenSpec : ChangeSpec := { name := "fnGiven", fn := fun _ => fun
  | [d] => { results := [.lit (.bool true)], args := [d] }
  | _ => none }
def fnGivenRow : OpenClaim := { program := "ytejhfoahpopeoaa", sum := "faadd0753bae10a96d0347332181a0afaba4f991eb61b1bd51c1da7af3278b39", func := "loop.example/g00248/laws.FnGiven", spec := "fnGiven", unfollowed := true, recurses := true, apart := false }
def FnGivenSaid : Prop := fnGivenRow.holds Try.pinned (OpenSpec.ofChange fnGivenSpec)

/-- ITS FALSE NEIGHBOUR: 'it returns false'. Refute it at one input. -/
def fnGivenWrong : ChangeSpec := { name := "fnGiven", fn := fun _ => fun
  | [d] => { results := [.lit (.bool false)], args := [d] }
  | _ => none }
def FnGivenWrongFalsely : Prop := fnGivenRow.holds Try.pinned (OpenSpec.ofChange fnGivenWrong)

/-- 'laws.FnReleased': WHATEVER THE INPUT: true; the input reads as it did. -/
def fnReleasedSpec : ChangeSpec := { name := "fnReleased", fn := fun _ => fun
  | [d] => { results := [.lit (.bool true)], args := [d] }
  | _ => none }
def fnReleasedRow : OpenClaim := { program := "ytejhfoahpopeoaa", sum := "faadd0753bae10a96d0347332181a0afaba4f991eb61b1bd51c1da7af3278b39", func := "loop.example/g00248/laws.FnReleased", spec := "fnReleased", unfollowed := true, recurses := true, apart := false }
def FnReleasedSaid : Prop := fnReleasedRow.holds Try.pinned (OpenSpec.ofChange fnReleasedSpec)

/-- ITS FALSE NEIGHBOUR: 'it returns false'. Refute it at one input. -/
def fnReleasedWrong : ChangeSpec := { name := "fnReleased", fn := fun _ => fun
  | [d] => { results := [.lit (.bool false)], args := [d] }
  | _ => none }
def FnReleasedWrongFalsely : Prop := fnReleasedRow.holds Try.pinned (OpenSpec.ofChange fnReleasedWrong)

/-- 'laws.FnHolders': WHATEVER THE INPUT: true; the input reads as it did. -/
def fnHoldersSpec : ChangeSpec := { name := "fnHolders", fn := fun _ => fun
  | [d] => { results := [.lit (.bool true)], args := [d] }
  | _ => none }
def fnHoldersRow : OpenClaim := { program := "ytejhfoahpopeoaa", sum := "faadd0753bae10a96d0347332181a0afaba4f991eb61b1bd51c1da7af3278b39", func := "loop.example/g00248/laws.FnHolders", spec := "fnHolders", unfollowed := true, recurses := true, apart := false }
def FnHoldersSaid : Prop := fnHoldersRow.holds Try.pinned (OpenSpec.ofChange fnHoldersSpec)

/-- ITS FALSE NEIGHBOUR: 'it returns false'. Refute it at one input. -/
def fnHoldersWrong : ChangeSpec := { name := "fnHolders", fn := fun _ => fun
  | [d] => { results := [.lit (.bool false)], args := [d] }
  | _ => none }
def FnHoldersWrongFalsely : Prop := fnHoldersRow.holds Try.pinned (OpenSpec.ofChange fnHoldersWrong)

/- THE SECOND FORM. 'bulk': how many values and letters a reading holds, each counted each time it is reached (what is shared counts as often as it is met; a slice's spare places count too). A statement '..UptoSaid' is the law's where the arguments, and the package variables that the reading takes, are together of bulk at most 1048576: NARROWER than '..Said'. Prove '..Said' where nothing that the law and all that it calls make is longer than what came in: it says more and counts as full. Else prove '..UptoSaid'. A law counts once. -/
mutual
def uptoBulk {H : Type} : DataW H → Nat
  | .lit (.string bytes) => bytes.length + 1
  | .lit _ => 1
  | .nil => 1
  | .ptr d => uptoBulk d + 1
  | .slice elems spare => uptoBulkAll elems + uptoBulkAll spare + 1
  | .agg parts => uptoBulkAll parts + 1
  | .iface _ d => uptoBulk d + 1
  | .map entries => uptoBulkEntries entries + 1
  | .held _ => 1
def uptoBulkAll {H : Type} : List (DataW H) → Nat
  | [] => 0
  | d :: r => uptoBulk d + uptoBulkAll r
def uptoBulkEntries {H : Type} : List (Lit × DataW H) → Nat
  | [] => 0
  | x :: r => uptoBulkEntry x + uptoBulkEntries r
def uptoBulkEntry {H : Type} : Lit × DataW H → Nat
  | (.string bytes, d) => bytes.length + uptoBulk d + 1
  | (_, d) => uptoBulk d + 1
 end
def uptoSmall : (H : Type) → List (DataW H) → Bool := fun _ ds => decide (uptoBulkAll ds ≤ 1048576)
def OpenSpec.upto (s : _root_.Go.ChangeSpec) : _root_.Go.OpenSpec := { _root_.Go.OpenSpec.ofChange s with cond := some uptoSmall }

/-- 'laws.FnStruck', WHERE WHAT IT READS IS OF BULK AT MOST 1048576: true; the input reads as it did. -/
def fnStruckUptoRow : OpenClaim := { program := "ytejhfoahpopeoaa", sum := "faadd0753bae10a96d0347332181a0afaba4f991eb61b1bd51c1da7af3278b39", func := "loop.example/g00248/laws.FnStruck", spec := "fnStruck", unfollowed := true, recurses := true, apart := false, narrowed := true }
def FnStruckUptoSaid : Prop := fnStruckUptoRow.holds Try.pinned (OpenSpec.upto fnStruckSpec)

/-- 'laws.FnFresh', WHERE WHAT IT READS IS OF BULK AT MOST 1048576: true; the input reads as it did. -/
def fnFreshUptoRow : OpenClaim := { program := "ytejhfoahpopeoaa", sum := "faadd0753bae10a96d0347332181a0afaba4f991eb61b1bd51c1da7af3278b39", func := "loop.example/g00248/laws.FnFresh", spec := "fnFresh", unfollowed := true, recurses := true, apart := false, narrowed := true }
def FnFreshUptoSaid : Prop := fnFreshUptoRow.holds Try.pinned (OpenSpec.upto fnFreshSpec)

/-- 'laws.FnBlocks', WHERE WHAT IT READS IS OF BULK AT MOST 1048576: true; the input reads as it did. -/
def fnBlocksUptoRow : OpenClaim := { program := "ytejhfoahpopeoaa", sum := "faadd0753bae10a96d0347332181a0afaba4f991eb61b1bd51c1da7af3278b39", func := "loop.example/g00248/laws.FnBlocks", spec := "fnBlocks", apart := false, narrowed := true }
def FnBlocksUptoSaid : Prop := fnBlocksUptoRow.holds Try.pinned (OpenSpec.upto fnBlocksSpec)

/-- 'laws.FnGiven', WHERE WHAT IT READS IS OF BULK AT MOST 1048576: true; the input reads as it did. -/
def fnGivenUptoRow : OpenClaim := { program := "ytejhfoahpopeoaa", sum := "faadd0753bae10a96d0347332181a0afaba4f991eb61b1bd51c1da7af3278b39", func := "loop.example/g00248/laws.FnGiven", spec := "fnGiven", unfollowed := true, recurses := true, apart := false, narrowed := true }
def FnGivenUptoSaid : Prop := fnGivenUptoRow.holds Try.pinned (OpenSpec.upto fnGivenSpec)

/-- 'laws.FnReleased', WHERE WHAT IT READS IS OF BULK AT MOST 1048576: true; the input reads as it did. -/
def fnReleasedUptoRow : OpenClaim := { program := "ytejhfoahpopeoaa", sum := "faadd0753bae10a96d0347332181a0afaba4f991eb61b1bd51c1da7af3278b39", func := "loop.example/g00248/laws.FnReleased", spec := "fnReleased", unfollowed := true, recurses := true, apart := false, narrowed := true }
def FnReleasedUptoSaid : Prop := fnReleasedUptoRow.holds Try.pinned (OpenSpec.upto fnReleasedSpec)

/-- 'laws.FnHolders', WHERE WHAT IT READS IS OF BULK AT MOST 1048576: true; the input reads as it did. -/
def fnHoldersUptoRow : OpenClaim := { program := "ytejhfoahpopeoaa", sum := "faadd0753bae10a96d0347332181a0afaba4f991eb61b1bd51c1da7af3278b39", func := "loop.example/g00248/laws.FnHolders", spec := "fnHolders", unfollowed := true, recurses := true, apart := false, narrowed := true }
def FnHoldersUptoSaid : Prop := fnHoldersUptoRow.holds Try.pinned (OpenSpec.upto fnHoldersSpec)

end Rows
end Go.Proofs.Ytejhfoahpopeoaa
