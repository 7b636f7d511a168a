/-
  No cell of these rows narrows 'for every input' (looked for: loops, veiled, ifaces, maps, wideKeys, modest, calm, conditions, laid).
  DERIVED. THE GIVEN ROWS OF THIS SEAT. 6 by the template 'for every input the law returns true; each argument reads behind the call as it read before'; 0 by the template 'total and deterministic' (their statements: YtihjlkcmfdhefaaTotals.lean).
  GIVEN WITH THE SEED: the statements are not yours to turn. If you find one false, say at which input.
  Laid BY PROGRAM, IN A SANDBOX (cutbox-rows.mjs): the forced cells as the released guide's own fill.sh prints them over the translation 35c6d02028850ee2… (all of the seat's roots in one cut). By AI agents, Wed Nov 11 2026. No macro, syntax, notation, axiom, sorry.
-/
import Derived.Test.YtihjlkcmfdhefaaChecked
import GoSem.Claim
import GoSem.ClaimJoined
import GoSem.ClaimMapViews
import Derived.JoinedTies
import Derived.KernelRfl
namespace Go.Proofs.Ytihjlkcmfdhefaa
/- THE CELL 'sum', in the pinned program and in every row, IS THE sha256 OF THE DUMP (.gsa) THAT YtihjlkcmfdhefaaProg.lean LOADS. Nothing in Lean hashes anything: it is a label: what it is worth is what the hold of that sum in a sandbox is worth. -/
noncomputable def Try.pinned : Pinned := { name := "ytihjlkcmfdhefaa", sum := "35c6d02028850ee2b7eda26e8c6ec68db8f0790732c37b9d75cbbdde20f88230", checked := Try.checked }
namespace Rows
def none {H : Type} : Left H := { results := [], args := [] }

/-- 'laws.FnGuards': WHATEVER THE INPUT: true; the input reads as it did. -/
def fnGuardsSpec : ChangeSpec := { name := "fnGuards", fn := fun _ => fun
  | [d] => { results := [.lit (.bool true)], args := [d] }
  | _ => none }
def fnGuardsRow : OpenClaim := { program := "ytihjlkcmfdhefaa", sum := "35c6d02028850ee2b7eda26e8c6ec68db8f0790732c37b9d75cbbdde20f88230", func := "loop.example/g00248/laws.FnGuards", spec := "fnGuards", apart := false }
def FnGuardsSaid : Prop := fnGuardsRow.holds Try.pinned (OpenSpec.ofChange fnGuardsSpec)

/-- ITS FALSE NEIGHBOUR: 'it returns false'. Refute it at one input. -/
def fnGuardsWrong : ChangeSpec := { name := "fnGuards", fn := fun _ => fun
  | [d] => { results := [.lit (.bool false)], args := [d] }
  | _ => none }
def FnGuardsWrongFalsely : Prop := fnGuardsRow.holds Try.pinned (OpenSpec.ofChange fnGuardsWrong)

/-- 'laws.FnBlocks': WHATEVER THE INPUT: true; the input reads as it did. -/
def fnBlocksSpec : ChangeSpec := { name := "fnBlocks", fn := fun _ => fun
  | [d] => { results := [.lit (.bool true)], args := [d] }
  | _ => none }
def fnBlocksRow : OpenClaim := { program := "ytihjlkcmfdhefaa", sum := "35c6d02028850ee2b7eda26e8c6ec68db8f0790732c37b9d75cbbdde20f88230", func := "loop.example/g00248/laws.FnBlocks", spec := "fnBlocks", apart := false }
def FnBlocksSaid : Prop := fnBlocksRow.holds Try.pinned (OpenSpec.ofChange fnBlocksSpec)

/-- ITS FALSE NEIGHBOUR: 'it returns false'. Refute it at one input. -/
def fnBlocksWrong : ChangeSpec := { name := "fnBlocks", fn := fun _ => fun
  | [d] => { results := [.lit (.bool false)], args := [d] }
  | _ => none }
def FnBlocksWrongFalsely : Prop := fnBlocksRow.holds Try.pinned (OpenSpec.ofChange fnBlocksWrong)

/-- 'laws.FnExactGuard': WHATEVER THE INPUT: true; the input reads as it did. -/
def fnExactGuardSpec : ChangeSpec := { name := "fnExactGuard", fn := fun _ => fun
  | [d1, d2, d3] => { results := [.lit (.bool true)], args := [d1, d2, d3] }
  | _ => none }
def fnExactGuardRow : OpenClaim := { program := "ytihjlkcmfdhefaa", sum := "35c6d02028850ee2b7eda26e8c6ec68db8f0790732c37b9d75cbbdde20f88230", func := "loop.example/g00248/laws.FnExactGuard", spec := "fnExactGuard", apart := false }
def FnExactGuardSaid : Prop := fnExactGuardRow.holds Try.pinned (OpenSpec.ofChange fnExactGuardSpec)

/-- ITS FALSE NEIGHBOUR: 'it returns false'. Refute it at one input. -/
def fnExactGuardWrong : ChangeSpec := { name := "fnExactGuard", fn := fun _ => fun
  | [d1, d2, d3] => { results := [.lit (.bool false)], args := [d1, d2, d3] }
  | _ => none }
def FnExactGuardWrongFalsely : Prop := fnExactGuardRow.holds Try.pinned (OpenSpec.ofChange fnExactGuardWrong)

/-- 'laws.FnExactRear': WHATEVER THE INPUT: true; the input reads as it did. -/
def fnExactRearSpec : ChangeSpec := { name := "fnExactRear", fn := fun _ => fun
  | [d1, d2, d3] => { results := [.lit (.bool true)], args := [d1, d2, d3] }
  | _ => none }
def fnExactRearRow : OpenClaim := { program := "ytihjlkcmfdhefaa", sum := "35c6d02028850ee2b7eda26e8c6ec68db8f0790732c37b9d75cbbdde20f88230", func := "loop.example/g00248/laws.FnExactRear", spec := "fnExactRear", apart := false }
def FnExactRearSaid : Prop := fnExactRearRow.holds Try.pinned (OpenSpec.ofChange fnExactRearSpec)

/-- ITS FALSE NEIGHBOUR: 'it returns false'. Refute it at one input. -/
def fnExactRearWrong : ChangeSpec := { name := "fnExactRear", fn := fun _ => fun
  | [d1, d2, d3] => { results := [.lit (.bool false)], args := [d1, d2, d3] }
  | _ => none }
def FnExactRearWrongFalsely : Prop := fnExactRearRow.holds Try.pinned (OpenSpec.ofChange fnExactRearWrong)

/-- 'laws.FnExactPoison': WHATEVER THE INPUT: true; the input reads as it did. -/
def fnExactPoisonSpec : ChangeSpec := { name := "fnExactPoison", fn := fun _ => fun
  | [d] => { results := [.lit (.bool true)], args := [d] }
  | _ => none }
def fnExactPoisonRow : OpenClaim := { program := "ytihjlkcmfdhefaa", sum := "35c6d02028850ee2b7eda26e8c6ec68db8f0790732c37b9d75cbbdde20f88230", func := "loop.example/g00248/laws.FnExactPoison", spec := "fnExactPoison", apart := false }
def FnExactPoisonSaid : Prop := fnExactPoisonRow.holds Try.pinned (OpenSpec.ofChange fnExactPoisonSpec)

/-- ITS FALSE NEIGHBOUR: 'it returns false'. Refute it at one input. -/
def fnExactPoisonWrong : ChangeSpec := { name := "fnExactPoison", fn := fun _ => fun
  | [d] => { results := [.lit (.bool false)], args := [d] }
  | _ => none }
def FnExactPoisonWrongFalsely : Prop := fnExactPoisonRow.holds Try.pinned (OpenSpec.ofChange fnExactPoisonWrong)

/-- 'laws.FnExactArenaNew': WHATEVER THE INPUT: true; the input reads as it did. -/
def fnExactArenaNewSpec : ChangeSpec := { name := "fnExactArenaNew", fn := fun _ => fun
  | [d] => { results := [.lit (.bool true)], args := [d] }
  | _ => none }
def fnExactArenaNewRow : OpenClaim := { program := "ytihjlkcmfdhefaa", sum := "35c6d02028850ee2b7eda26e8c6ec68db8f0790732c37b9d75cbbdde20f88230", func := "loop.example/g00248/laws.FnExactArenaNew", spec := "fnExactArenaNew", apart := false }
def FnExactArenaNewSaid : Prop := fnExactArenaNewRow.holds Try.pinned (OpenSpec.ofChange fnExactArenaNewSpec)

/-- ITS FALSE NEIGHBOUR: 'it returns false'. Refute it at one input. -/
def fnExactArenaNewWrong : ChangeSpec := { name := "fnExactArenaNew", fn := fun _ => fun
  | [d] => { results := [.lit (.bool false)], args := [d] }
  | _ => none }
def FnExactArenaNewWrongFalsely : Prop := fnExactArenaNewRow.holds Try.pinned (OpenSpec.ofChange fnExactArenaNewWrong)

/- THE SECOND FORM. 'bulk': how many values and letters a reading holds, each counted each time it is reached (what is shared counts as often as it is met; a slice's spare places count too). A statement '..UptoSaid' is the law's where the arguments, and the package variables that the reading takes, are together of bulk at most 1048576: NARROWER than '..Said'. Prove '..Said' where nothing that the law and all that it calls make is longer than what came in: it says more and counts as full. Else prove '..UptoSaid'. A law counts once. -/
mutual
def uptoBulk {H : Type} : DataW H → Nat
  | .lit (.string bytes) => bytes.length + 1
  | .lit _ => 1
  | .nil => 1
  | .ptr d => uptoBulk d + 1
  | .slice elems spare => uptoBulkAll elems + uptoBulkAll spare + 1
  | .agg parts => uptoBulkAll parts + 1
  | .iface _ d => uptoBulk d + 1
  | .map entries => uptoBulkEntries entries + 1
  | .held _ => 1
def uptoBulkAll {H : Type} : List (DataW H) → Nat
  | [] => 0
  | d :: r => uptoBulk d + uptoBulkAll r
def uptoBulkEntries {H : Type} : List (Lit × DataW H) → Nat
  | [] => 0
  | x :: r => uptoBulkEntry x + uptoBulkEntries r
def uptoBulkEntry {H : Type} : Lit × DataW H → Nat
  | (.string bytes, d) => bytes.length + uptoBulk d + 1
  | (_, d) => uptoBulk d + 1
 end
def uptoSmall : (H : Type) → List (DataW H) → Bool := fun _ ds => decide (uptoBulkAll ds ≤ 1048576)
def OpenSpec.upto (s : _root_.Go.ChangeSpec) : _root_.Go.OpenSpec := { _root_.Go.OpenSpec.ofChange s with cond := some uptoSmall }

/-- 'laws.FnGuards', WHERE WHAT IT READS IS OF BULK AT MOST 1048576: true; the input reads as it did. -/
def fnGuardsUptoRow : OpenClaim := { program := "ytihjlkcmfdhefaa", sum := "35c6d02028850ee2b7eda26e8c6ec68db8f0790732c37b9d75cbbdde20f88230", func := "loop.example/g00248/laws.FnGuards", spec := "fnGuards", apart := false, narrowed := true }
def FnGuardsUptoSaid : Prop := fnGuardsUptoRow.holds Try.pinned (OpenSpec.upto fnGuardsSpec)

/-- 'laws.FnBlocks', WHERE WHAT IT READS IS OF BULK AT MOST 1048576: true; the input reads as it did. -/
def fnBlocksUptoRow : OpenClaim := { program := "ytihjlkcmfdhefaa", sum := "35c6d02028850ee2b7eda26e8c6ec68db8f0790732c37b9d75cbbdde20f88230", func := "loop.example/g00248/laws.FnBlocks", spec := "fnBlocks", apart := false, narrowed := true }
def FnBlocksUptoSaid : Prop := fnBlocksUptoRow.holds Try.pinned (OpenSpec.upto fnBlocksSpec)

/-- 'laws.FnExactGuard', WHERE WHAT IT READS IS OF BULK AT MOST 1048576: true; the input reads as it did. -/
def fnExactGuardUptoRow : OpenClaim := { program := "ytihjlkcmfdhefaa", sum := "35c6d02028850ee2b7eda26e8c6ec68db8f0790732c37b9d75cbbdde20f88230", func := "loop.example/g00248/laws.FnExactGuard", spec := "fnExactGuard", apart := false, narrowed := true }
def FnExactGuardUptoSaid : Prop := fnExactGuardUptoRow.holds Try.pinned (OpenSpec.upto fnExactGuardSpec)

/-- 'laws.FnExactRear', WHERE WHAT IT READS IS OF BULK AT MOST 1048576: true; the input reads as it did. -/
def fnExactRearUptoRow : OpenClaim := { program := "ytihjlkcmfdhefaa", sum := "35c6d02028850ee2b7eda26e8c6ec68db8f0790732c37b9d75cbbdde20f88230", func := "loop.example/g00248/laws.FnExactRear", spec := "fnExactRear", apart := false, narrowed := true }
def FnExactRearUptoSaid : Prop := fnExactRearUptoRow.holds Try.pinned (OpenSpec.upto fnExactRearSpec)

/-- 'laws.FnExactPoison', WHERE WHAT IT READS IS OF BULK AT MOST 1048576: true; the input reads as it did. -/
def fnExactPoisonUptoRow : OpenClaim := { program := "ytihjlkcmfdhefaa", sum := "35c6d02028850ee2b7eda26e8c6ec68db8f0790732c37b9d75cbbdde20f88230", func := "loop.example/g00248/laws.FnExactPoison", spec := "fnExactPoison", apart := false, narrowed := true }
def FnExactPoisonUptoSaid : Prop := fnExactPoisonUptoRow.holds Try.pinned (OpenSpec.upto fnExactPoisonSpec)

/-- 'laws.FnExactArenaNew', WHERE WHAT IT READS IS OF BULK AT MOST 1048576: true; the input reads as it did. -/
def fnExactArenaNewUptoRow : OpenClaim := { program := "ytihjlkcmfdhefaa", sum := "35c6d02028850ee2b7eda26e8c6ec68db8f0790732c37b9d75cbbdde20f88230", func := "loop.example/g00248/laws.FnExactArenaNew", spec := "fnExactArenaNew", apart := false, narrowed := true }
def FnExactArenaNewUptoSaid : Prop := fnExactArenaNewUptoRow.holds Try.pinned (OpenSpec.upto fnExactArenaNewSpec)

end Rows
end Go.Proofs.Ytihjlkcmfdhefaa
