/-
  NARROWER THAN 'FOR EVERY INPUT', by the rows' own cells (each row's printed sentence says how): FnExactPutTerm: loops.
  DERIVED. THE GIVEN ROWS OF THIS SEAT. 5 by the template 'for every input the law returns true; each argument reads behind the call as it read before'; 0 by the template 'total and deterministic' (their statements: YtpklgbhclfgccaaTotals.lean).
  GIVEN WITH THE SEED: the statements are not yours to turn. If you find one false, say at which input.
  Laid BY PROGRAM, IN A SANDBOX (cutbox-rows.mjs): the forced cells as the released guide's own fill.sh prints them over the translation b37b702e667e4743… (all of the seat's roots in one cut). By AI agents, Wed Nov 11 2026. No macro, syntax, notation, axiom, sorry.
-/
import Derived.Test.YtpklgbhclfgccaaChecked
import GoSem.Claim
import GoSem.ClaimJoined
import GoSem.ClaimMapViews
import Derived.JoinedTies
import Derived.KernelRfl
namespace Go.Proofs.Ytpklgbhclfgccaa
/- THE CELL 'sum', in the pinned program and in every row, IS THE sha256 OF THE DUMP (.gsa) THAT YtpklgbhclfgccaaProg.lean LOADS. Nothing in Lean hashes anything: it is a label: what it is worth is what the hold of that sum in a sandbox is worth. -/
noncomputable def Try.pinned : Pinned := { name := "ytpklgbhclfgccaa", sum := "b37b702e667e4743071dd5822e1cd80728de45a526fcb6f2fe0478175f5aac1b", checked := Try.checked }
namespace Rows
def none {H : Type} : Left H := { results := [], args := [] }

/-- 'laws.FnHeaps': WHATEVER THE INPUT: true; the input reads as it did. -/
def fnHeapsSpec : ChangeSpec := { name := "fnHeaps", fn := fun _ => fun
  | [d] => { results := [.lit (.bool true)], args := [d] }
  | _ => none }
def fnHeapsRow : OpenClaim := { program := "ytpklgbhclfgccaa", sum := "b37b702e667e4743071dd5822e1cd80728de45a526fcb6f2fe0478175f5aac1b", func := "loop.example/g00248/laws.FnHeaps", spec := "fnHeaps", unfollowed := true, recurses := true, plainKeys := false, apart := false }
def FnHeapsSaid : Prop := fnHeapsRow.holds Try.pinned (OpenSpec.ofChange fnHeapsSpec)

/-- ITS FALSE NEIGHBOUR: 'it returns false'. Refute it at one input. -/
def fnHeapsWrong : ChangeSpec := { name := "fnHeaps", fn := fun _ => fun
  | [d] => { results := [.lit (.bool false)], args := [d] }
  | _ => none }
def FnHeapsWrongFalsely : Prop := fnHeapsRow.holds Try.pinned (OpenSpec.ofChange fnHeapsWrong)

/-- 'laws.FnHeapRead': WHATEVER THE INPUT: true; the input reads as it did. -/
def fnHeapReadSpec : ChangeSpec := { name := "fnHeapRead", fn := fun _ => fun
  | [d] => { results := [.lit (.bool true)], args := [d] }
  | _ => none }
def fnHeapReadRow : OpenClaim := { program := "ytpklgbhclfgccaa", sum := "b37b702e667e4743071dd5822e1cd80728de45a526fcb6f2fe0478175f5aac1b", func := "loop.example/g00248/laws.FnHeapRead", spec := "fnHeapRead", unfollowed := true, recurses := true, plainKeys := false, apart := false }
def FnHeapReadSaid : Prop := fnHeapReadRow.holds Try.pinned (OpenSpec.ofChange fnHeapReadSpec)

/-- ITS FALSE NEIGHBOUR: 'it returns false'. Refute it at one input. -/
def fnHeapReadWrong : ChangeSpec := { name := "fnHeapRead", fn := fun _ => fun
  | [d] => { results := [.lit (.bool false)], args := [d] }
  | _ => none }
def FnHeapReadWrongFalsely : Prop := fnHeapReadRow.holds Try.pinned (OpenSpec.ofChange fnHeapReadWrong)

/-- 'laws.FnHeapOk': WHATEVER THE INPUT: true; the input reads as it did. -/
def fnHeapOkSpec : ChangeSpec := { name := "fnHeapOk", fn := fun _ => fun
  | [d] => { results := [.lit (.bool true)], args := [d] }
  | _ => none }
def fnHeapOkRow : OpenClaim := { program := "ytpklgbhclfgccaa", sum := "b37b702e667e4743071dd5822e1cd80728de45a526fcb6f2fe0478175f5aac1b", func := "loop.example/g00248/laws.FnHeapOk", spec := "fnHeapOk", unfollowed := true, recurses := true, plainKeys := false, apart := false }
def FnHeapOkSaid : Prop := fnHeapOkRow.holds Try.pinned (OpenSpec.ofChange fnHeapOkSpec)

/-- ITS FALSE NEIGHBOUR: 'it returns false'. Refute it at one input. -/
def fnHeapOkWrong : ChangeSpec := { name := "fnHeapOk", fn := fun _ => fun
  | [d] => { results := [.lit (.bool false)], args := [d] }
  | _ => none }
def FnHeapOkWrongFalsely : Prop := fnHeapOkRow.holds Try.pinned (OpenSpec.ofChange fnHeapOkWrong)

/-- 'laws.FnExactPutTerm': WHATEVER THE INPUT: true; the input reads as it did. -/
def fnExactPutTermSpec : ChangeSpec := { name := "fnExactPutTerm", fn := fun _ => fun
  | [d1, d2, d3] => { results := [.lit (.bool true)], args := [d1, d2, d3] }
  | _ => none }
def fnExactPutTermRow : OpenClaim := { program := "ytpklgbhclfgccaa", sum := "b37b702e667e4743071dd5822e1cd80728de45a526fcb6f2fe0478175f5aac1b", func := "loop.example/g00248/laws.FnExactPutTerm", spec := "fnExactPutTerm", unfollowed := true, recurses := true, loops := true, plainKeys := false, apart := false }
def FnExactPutTermSaid : Prop := fnExactPutTermRow.holds Try.pinned (OpenSpec.ofChange fnExactPutTermSpec)

/-- ITS FALSE NEIGHBOUR: 'it returns false'. Refute it at one input. -/
def fnExactPutTermWrong : ChangeSpec := { name := "fnExactPutTerm", fn := fun _ => fun
  | [d1, d2, d3] => { results := [.lit (.bool false)], args := [d1, d2, d3] }
  | _ => none }
def FnExactPutTermWrongFalsely : Prop := fnExactPutTermRow.holds Try.pinned (OpenSpec.ofChange fnExactPutTermWrong)

/-- 'laws.FnExactHomeNeed': WHATEVER THE INPUT: true; the input reads as it did. -/
def fnExactHomeNeedSpec : ChangeSpec := { name := "fnExactHomeNeed", fn := fun _ => fun
  | [d] => { results := [.lit (.bool true)], args := [d] }
  | _ => none }
def fnExactHomeNeedRow : OpenClaim := { program := "ytpklgbhclfgccaa", sum := "b37b702e667e4743071dd5822e1cd80728de45a526fcb6f2fe0478175f5aac1b", func := "loop.example/g00248/laws.FnExactHomeNeed", spec := "fnExactHomeNeed", plainKeys := false, apart := false }
def FnExactHomeNeedSaid : Prop := fnExactHomeNeedRow.holds Try.pinned (OpenSpec.ofChange fnExactHomeNeedSpec)

/-- ITS FALSE NEIGHBOUR: 'it returns false'. Refute it at one input. -/
def fnExactHomeNeedWrong : ChangeSpec := { name := "fnExactHomeNeed", fn := fun _ => fun
  | [d] => { results := [.lit (.bool false)], args := [d] }
  | _ => none }
def FnExactHomeNeedWrongFalsely : Prop := fnExactHomeNeedRow.holds Try.pinned (OpenSpec.ofChange fnExactHomeNeedWrong)

/- THE SECOND FORM. 'bulk': how many values and letters a reading holds, each counted each time it is reached (what is shared counts as often as it is met; a slice's spare places count too). A statement '..UptoSaid' is the law's where the arguments, and the package variables that the reading takes, are together of bulk at most 1048576: NARROWER than '..Said'. Prove '..Said' where nothing that the law and all that it calls make is longer than what came in: it says more and counts as full. Else prove '..UptoSaid'. A law counts once. -/
mutual
def uptoBulk {H : Type} : DataW H → Nat
  | .lit (.string bytes) => bytes.length + 1
  | .lit _ => 1
  | .nil => 1
  | .ptr d => uptoBulk d + 1
  | .slice elems spare => uptoBulkAll elems + uptoBulkAll spare + 1
  | .agg parts => uptoBulkAll parts + 1
  | .iface _ d => uptoBulk d + 1
  | .map entries => uptoBulkEntries entries + 1
  | .held _ => 1
def uptoBulkAll {H : Type} : List (DataW H) → Nat
  | [] => 0
  | d :: r => uptoBulk d + uptoBulkAll r
def uptoBulkEntries {H : Type} : List (Lit × DataW H) → Nat
  | [] => 0
  | x :: r => uptoBulkEntry x + uptoBulkEntries r
def uptoBulkEntry {H : Type} : Lit × DataW H → Nat
  | (.string bytes, d) => bytes.length + uptoBulk d + 1
  | (_, d) => uptoBulk d + 1
 end
def uptoSmall : (H : Type) → List (DataW H) → Bool := fun _ ds => decide (uptoBulkAll ds ≤ 1048576)
def OpenSpec.upto (s : _root_.Go.ChangeSpec) : _root_.Go.OpenSpec := { _root_.Go.OpenSpec.ofChange s with cond := some uptoSmall }

/-- 'laws.FnHeaps', WHERE WHAT IT READS IS OF BULK AT MOST 1048576: true; the input reads as it did. -/
def fnHeapsUptoRow : OpenClaim := { program := "ytpklgbhclfgccaa", sum := "b37b702e667e4743071dd5822e1cd80728de45a526fcb6f2fe0478175f5aac1b", func := "loop.example/g00248/laws.FnHeaps", spec := "fnHeaps", unfollowed := true, recurses := true, plainKeys := false, apart := false, narrowed := true }
def FnHeapsUptoSaid : Prop := fnHeapsUptoRow.holds Try.pinned (OpenSpec.upto fnHeapsSpec)

/-- 'laws.FnHeapRead', WHERE WHAT IT READS IS OF BULK AT MOST 1048576: true; the input reads as it did. -/
def fnHeapReadUptoRow : OpenClaim := { program := "ytpklgbhclfgccaa", sum := "b37b702e667e4743071dd5822e1cd80728de45a526fcb6f2fe0478175f5aac1b", func := "loop.example/g00248/laws.FnHeapRead", spec := "fnHeapRead", unfollowed := true, recurses := true, plainKeys := false, apart := false, narrowed := true }
def FnHeapReadUptoSaid : Prop := fnHeapReadUptoRow.holds Try.pinned (OpenSpec.upto fnHeapReadSpec)

/-- 'laws.FnHeapOk', WHERE WHAT IT READS IS OF BULK AT MOST 1048576: true; the input reads as it did. -/
def fnHeapOkUptoRow : OpenClaim := { program := "ytpklgbhclfgccaa", sum := "b37b702e667e4743071dd5822e1cd80728de45a526fcb6f2fe0478175f5aac1b", func := "loop.example/g00248/laws.FnHeapOk", spec := "fnHeapOk", unfollowed := true, recurses := true, plainKeys := false, apart := false, narrowed := true }
def FnHeapOkUptoSaid : Prop := fnHeapOkUptoRow.holds Try.pinned (OpenSpec.upto fnHeapOkSpec)

/-- 'laws.FnExactPutTerm', WHERE WHAT IT READS IS OF BULK AT MOST 1048576: true; the input reads as it did. -/
def fnExactPutTermUptoRow : OpenClaim := { program := "ytpklgbhclfgccaa", sum := "b37b702e667e4743071dd5822e1cd80728de45a526fcb6f2fe0478175f5aac1b", func := "loop.example/g00248/laws.FnExactPutTerm", spec := "fnExactPutTerm", unfollowed := true, recurses := true, loops := true, plainKeys := false, apart := false, narrowed := true }
def FnExactPutTermUptoSaid : Prop := fnExactPutTermUptoRow.holds Try.pinned (OpenSpec.upto fnExactPutTermSpec)

/-- 'laws.FnExactHomeNeed', WHERE WHAT IT READS IS OF BULK AT MOST 1048576: true; the input reads as it did. -/
def fnExactHomeNeedUptoRow : OpenClaim := { program := "ytpklgbhclfgccaa", sum := "b37b702e667e4743071dd5822e1cd80728de45a526fcb6f2fe0478175f5aac1b", func := "loop.example/g00248/laws.FnExactHomeNeed", spec := "fnExactHomeNeed", plainKeys := false, apart := false, narrowed := true }
def FnExactHomeNeedUptoSaid : Prop := fnExactHomeNeedUptoRow.holds Try.pinned (OpenSpec.upto fnExactHomeNeedSpec)

end Rows
end Go.Proofs.Ytpklgbhclfgccaa
