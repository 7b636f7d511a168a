/-
  No cell of these rows narrows 'for every input' (looked for: loops, veiled, ifaces, maps, wideKeys, modest, calm, conditions, laid).
  DERIVED. THE GIVEN ROWS OF THIS SEAT. 6 by the template 'for every input the law returns true; each argument reads behind the call as it read before'; 0 by the template 'total and deterministic' (their statements: YthdoamdjhpkimaaTotals.lean).
  GIVEN WITH THE SEED: the statements are not yours to turn. If you find one false, say at which input.
  Laid BY PROGRAM, IN A SANDBOX (cutbox-rows.mjs): the forced cells as the released guide's own fill.sh prints them over the translation a5da02f1e01075a7… (all of the seat's roots in one cut). By AI agents, Wed Nov 11 2026. No macro, syntax, notation, axiom, sorry.
-/
import Derived.Test.YthdoamdjhpkimaaChecked
import GoSem.Claim
import GoSem.ClaimJoined
import GoSem.ClaimMapViews
import Derived.JoinedTies
import Derived.KernelRfl
namespace Go.Proofs.Ythdoamdjhpkimaa
/- THE CELL 'sum', in the pinned program and in every row, IS THE sha256 OF THE DUMP (.gsa) THAT YthdoamdjhpkimaaProg.lean LOADS. Nothing in Lean hashes anything: it is a label: what it is worth is what the hold of that sum in a sandbox is worth. -/
noncomputable def Try.pinned : Pinned := { name := "ythdoamdjhpkimaa", sum := "a5da02f1e01075a780fe95e71a75419ea31543e80dfc6143be186586bd21a7ee", checked := Try.checked }
namespace Rows
def none {H : Type} : Left H := { results := [], args := [] }

/-- 'laws.FnHeapRead': WHATEVER THE INPUT: true; the input reads as it did. -/
def fnHeapReadSpec : ChangeSpec := { name := "fnHeapRead", fn := fun _ => fun
  | [d] => { results := [.lit (.bool true)], args := [d] }
  | _ => none }
def fnHeapReadRow : OpenClaim := { program := "ythdoamdjhpkimaa", sum := "a5da02f1e01075a780fe95e71a75419ea31543e80dfc6143be186586bd21a7ee", func := "loop.example/g00248/laws.FnHeapRead", spec := "fnHeapRead", unfollowed := true, recurses := true, apart := false }
def FnHeapReadSaid : Prop := fnHeapReadRow.holds Try.pinned (OpenSpec.ofChange fnHeapReadSpec)

/-- ITS FALSE NEIGHBOUR: 'it returns false'. Refute it at one input. -/
def fnHeapReadWrong : ChangeSpec := { name := "fnHeapRead", fn := fun _ => fun
  | [d] => { results := [.lit (.bool false)], args := [d] }
  | _ => none }
def FnHeapReadWrongFalsely : Prop := fnHeapReadRow.holds Try.pinned (OpenSpec.ofChange fnHeapReadWrong)

/-- 'laws.FnHeapOk': WHATEVER THE INPUT: true; the input reads as it did. -/
def fnHeapOkSpec : ChangeSpec := { name := "fnHeapOk", fn := fun _ => fun
  | [d] => { results := [.lit (.bool true)], args := [d] }
  | _ => none }
def fnHeapOkRow : OpenClaim := { program := "ythdoamdjhpkimaa", sum := "a5da02f1e01075a780fe95e71a75419ea31543e80dfc6143be186586bd21a7ee", func := "loop.example/g00248/laws.FnHeapOk", spec := "fnHeapOk", unfollowed := true, recurses := true, apart := false }
def FnHeapOkSaid : Prop := fnHeapOkRow.holds Try.pinned (OpenSpec.ofChange fnHeapOkSpec)

/-- ITS FALSE NEIGHBOUR: 'it returns false'. Refute it at one input. -/
def fnHeapOkWrong : ChangeSpec := { name := "fnHeapOk", fn := fun _ => fun
  | [d] => { results := [.lit (.bool false)], args := [d] }
  | _ => none }
def FnHeapOkWrongFalsely : Prop := fnHeapOkRow.holds Try.pinned (OpenSpec.ofChange fnHeapOkWrong)

/-- 'laws.FnExactReadTerm': WHATEVER THE INPUT: true; the input reads as it did. -/
def fnExactReadTermSpec : ChangeSpec := { name := "fnExactReadTerm", fn := fun _ => fun
  | [d1, d2, d3] => { results := [.lit (.bool true)], args := [d1, d2, d3] }
  | _ => none }
def fnExactReadTermRow : OpenClaim := { program := "ythdoamdjhpkimaa", sum := "a5da02f1e01075a780fe95e71a75419ea31543e80dfc6143be186586bd21a7ee", func := "loop.example/g00248/laws.FnExactReadTerm", spec := "fnExactReadTerm", unfollowed := true, recurses := true, apart := false }
def FnExactReadTermSaid : Prop := fnExactReadTermRow.holds Try.pinned (OpenSpec.ofChange fnExactReadTermSpec)

/-- ITS FALSE NEIGHBOUR: 'it returns false'. Refute it at one input. -/
def fnExactReadTermWrong : ChangeSpec := { name := "fnExactReadTerm", fn := fun _ => fun
  | [d1, d2, d3] => { results := [.lit (.bool false)], args := [d1, d2, d3] }
  | _ => none }
def FnExactReadTermWrongFalsely : Prop := fnExactReadTermRow.holds Try.pinned (OpenSpec.ofChange fnExactReadTermWrong)

/-- 'laws.FnExactHeapOk': WHATEVER THE INPUT: true; the input reads as it did. -/
def fnExactHeapOkSpec : ChangeSpec := { name := "fnExactHeapOk", fn := fun _ => fun
  | [d1, d2, d3] => { results := [.lit (.bool true)], args := [d1, d2, d3] }
  | _ => none }
def fnExactHeapOkRow : OpenClaim := { program := "ythdoamdjhpkimaa", sum := "a5da02f1e01075a780fe95e71a75419ea31543e80dfc6143be186586bd21a7ee", func := "loop.example/g00248/laws.FnExactHeapOk", spec := "fnExactHeapOk", unfollowed := true, recurses := true, apart := false }
def FnExactHeapOkSaid : Prop := fnExactHeapOkRow.holds Try.pinned (OpenSpec.ofChange fnExactHeapOkSpec)

/-- ITS FALSE NEIGHBOUR: 'it returns false'. Refute it at one input. -/
def fnExactHeapOkWrong : ChangeSpec := { name := "fnExactHeapOk", fn := fun _ => fun
  | [d1, d2, d3] => { results := [.lit (.bool false)], args := [d1, d2, d3] }
  | _ => none }
def FnExactHeapOkWrongFalsely : Prop := fnExactHeapOkRow.holds Try.pinned (OpenSpec.ofChange fnExactHeapOkWrong)

/-- 'laws.FnExactGensRead': WHATEVER THE INPUT: true; the input reads as it did. -/
def fnExactGensReadSpec : ChangeSpec := { name := "fnExactGensRead", fn := fun _ => fun
  | [d1, d2, d3] => { results := [.lit (.bool true)], args := [d1, d2, d3] }
  | _ => none }
def fnExactGensReadRow : OpenClaim := { program := "ythdoamdjhpkimaa", sum := "a5da02f1e01075a780fe95e71a75419ea31543e80dfc6143be186586bd21a7ee", func := "loop.example/g00248/laws.FnExactGensRead", spec := "fnExactGensRead", unfollowed := true, recurses := true, apart := false }
def FnExactGensReadSaid : Prop := fnExactGensReadRow.holds Try.pinned (OpenSpec.ofChange fnExactGensReadSpec)

/-- ITS FALSE NEIGHBOUR: 'it returns false'. Refute it at one input. -/
def fnExactGensReadWrong : ChangeSpec := { name := "fnExactGensRead", fn := fun _ => fun
  | [d1, d2, d3] => { results := [.lit (.bool false)], args := [d1, d2, d3] }
  | _ => none }
def FnExactGensReadWrongFalsely : Prop := fnExactGensReadRow.holds Try.pinned (OpenSpec.ofChange fnExactGensReadWrong)

/-- 'laws.FnExactGensOk': WHATEVER THE INPUT: true; the input reads as it did. -/
def fnExactGensOkSpec : ChangeSpec := { name := "fnExactGensOk", fn := fun _ => fun
  | [d1, d2, d3] => { results := [.lit (.bool true)], args := [d1, d2, d3] }
  | _ => none }
def fnExactGensOkRow : OpenClaim := { program := "ythdoamdjhpkimaa", sum := "a5da02f1e01075a780fe95e71a75419ea31543e80dfc6143be186586bd21a7ee", func := "loop.example/g00248/laws.FnExactGensOk", spec := "fnExactGensOk", unfollowed := true, recurses := true, apart := false }
def FnExactGensOkSaid : Prop := fnExactGensOkRow.holds Try.pinned (OpenSpec.ofChange fnExactGensOkSpec)

/-- ITS FALSE NEIGHBOUR: 'it returns false'. Refute it at one input. -/
def fnExactGensOkWrong : ChangeSpec := { name := "fnExactGensOk", fn := fun _ => fun
  | [d1, d2, d3] => { results := [.lit (.bool false)], args := [d1, d2, d3] }
  | _ => none }
def FnExactGensOkWrongFalsely : Prop := fnExactGensOkRow.holds Try.pinned (OpenSpec.ofChange fnExactGensOkWrong)

/- THE SECOND FORM. 'bulk': how many values and letters a reading holds, each counted each time it is reached (what is shared counts as often as it is met; a slice's spare places count too). A statement '..UptoSaid' is the law's where the arguments, and the package variables that the reading takes, are together of bulk at most 1048576: NARROWER than '..Said'. Prove '..Said' where nothing that the law and all that it calls make is longer than what came in: it says more and counts as full. Else prove '..UptoSaid'. A law counts once. -/
mutual
def uptoBulk {H : Type} : DataW H → Nat
  | .lit (.string bytes) => bytes.length + 1
  | .lit _ => 1
  | .nil => 1
  | .ptr d => uptoBulk d + 1
  | .slice elems spare => uptoBulkAll elems + uptoBulkAll spare + 1
  | .agg parts => uptoBulkAll parts + 1
  | .iface _ d => uptoBulk d + 1
  | .map entries => uptoBulkEntries entries + 1
  | .held _ => 1
def uptoBulkAll {H : Type} : List (DataW H) → Nat
  | [] => 0
  | d :: r => uptoBulk d + uptoBulkAll r
def uptoBulkEntries {H : Type} : List (Lit × DataW H) → Nat
  | [] => 0
  | x :: r => uptoBulkEntry x + uptoBulkEntries r
def uptoBulkEntry {H : Type} : Lit × DataW H → Nat
  | (.string bytes, d) => bytes.length + uptoBulk d + 1
  | (_, d) => uptoBulk d + 1
 end
def uptoSmall : (H : Type) → List (DataW H) → Bool := fun _ ds => decide (uptoBulkAll ds ≤ 1048576)
def OpenSpec.upto (s : _root_.Go.ChangeSpec) : _root_.Go.OpenSpec := { _root_.Go.OpenSpec.ofChange s with cond := some uptoSmall }

/-- 'laws.FnHeapRead', WHERE WHAT IT READS IS OF BULK AT MOST 1048576: true; the input reads as it did. -/
def fnHeapReadUptoRow : OpenClaim := { program := "ythdoamdjhpkimaa", sum := "a5da02f1e01075a780fe95e71a75419ea31543e80dfc6143be186586bd21a7ee", func := "loop.example/g00248/laws.FnHeapRead", spec := "fnHeapRead", unfollowed := true, recurses := true, apart := false, narrowed := true }
def FnHeapReadUptoSaid : Prop := fnHeapReadUptoRow.holds Try.pinned (OpenSpec.upto fnHeapReadSpec)

/-- 'laws.FnHeapOk', WHERE WHAT IT READS IS OF BULK AT MOST 1048576: true; the input reads as it did. -/
def fnHeapOkUptoRow : OpenClaim := { program := "ythdoamdjhpkimaa", sum := "a5da02f1e01075a780fe95e71a75419ea31543e80dfc6143be186586bd21a7ee", func := "loop.example/g00248/laws.FnHeapOk", spec := "fnHeapOk", unfollowed := true, recurses := true, apart := false, narrowed := true }
def FnHeapOkUptoSaid : Prop := fnHeapOkUptoRow.holds Try.pinned (OpenSpec.upto fnHeapOkSpec)

/-- 'laws.FnExactReadTerm', WHERE WHAT IT READS IS OF BULK AT MOST 1048576: true; the input reads as it did. -/
def fnExactReadTermUptoRow : OpenClaim := { program := "ythdoamdjhpkimaa", sum := "a5da02f1e01075a780fe95e71a75419ea31543e80dfc6143be186586bd21a7ee", func := "loop.example/g00248/laws.FnExactReadTerm", spec := "fnExactReadTerm", unfollowed := true, recurses := true, apart := false, narrowed := true }
def FnExactReadTermUptoSaid : Prop := fnExactReadTermUptoRow.holds Try.pinned (OpenSpec.upto fnExactReadTermSpec)

/-- 'laws.FnExactHeapOk', WHERE WHAT IT READS IS OF BULK AT MOST 1048576: true; the input reads as it did. -/
def fnExactHeapOkUptoRow : OpenClaim := { program := "ythdoamdjhpkimaa", sum := "a5da02f1e01075a780fe95e71a75419ea31543e80dfc6143be186586bd21a7ee", func := "loop.example/g00248/laws.FnExactHeapOk", spec := "fnExactHeapOk", unfollowed := true, recurses := true, apart := false, narrowed := true }
def FnExactHeapOkUptoSaid : Prop := fnExactHeapOkUptoRow.holds Try.pinned (OpenSpec.upto fnExactHeapOkSpec)

/-- 'laws.FnExactGensRead', WHERE WHAT IT READS IS OF BULK AT MOST 1048576: true; the input reads as it did. -/
def fnExactGensReadUptoRow : OpenClaim := { program := "ythdoamdjhpkimaa", sum := "a5da02f1e01075a780fe95e71a75419ea31543e80dfc6143be186586bd21a7ee", func := "loop.example/g00248/laws.FnExactGensRead", spec := "fnExactGensRead", unfollowed := true, recurses := true, apart := false, narrowed := true }
def FnExactGensReadUptoSaid : Prop := fnExactGensReadUptoRow.holds Try.pinned (OpenSpec.upto fnExactGensReadSpec)

/-- 'laws.FnExactGensOk', WHERE WHAT IT READS IS OF BULK AT MOST 1048576: true; the input reads as it did. -/
def fnExactGensOkUptoRow : OpenClaim := { program := "ythdoamdjhpkimaa", sum := "a5da02f1e01075a780fe95e71a75419ea31543e80dfc6143be186586bd21a7ee", func := "loop.example/g00248/laws.FnExactGensOk", spec := "fnExactGensOk", unfollowed := true, recurses := true, apart := false, narrowed := true }
def FnExactGensOkUptoSaid : Prop := fnExactGensOkUptoRow.holds Try.pinned (OpenSpec.upto fnExactGensOkSpec)

end Rows
end Go.Proofs.Ythdoamdjhpkimaa
