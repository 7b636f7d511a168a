/-
  NARROWER THAN 'FOR EVERY INPUT', by the rows' own cells (each row's printed sentence says how): FnExactTimersOk: loops · FnExactDueTimers: loops · FnExactDropTimers: loops.
  DERIVED. THE GIVEN ROWS OF THIS SEAT. 3 by the template 'for every input the law returns true; each argument reads behind the call as it read before'; 0 by the template 'total and deterministic' (their statements: YtljfjaoebbmfgaaTotals.lean).
  GIVEN WITH THE SEED: the statements are not yours to turn. If you find one false, say at which input.
  Laid BY PROGRAM, IN A SANDBOX (cutbox-rows.mjs): the forced cells as the released guide's own fill.sh prints them over the translation bdd8eb237e6189ed… (all of the seat's roots in one cut). By AI agents, Wed Nov 11 2026. No macro, syntax, notation, axiom, sorry.
-/
import Derived.Test.YtljfjaoebbmfgaaChecked
import GoSem.Claim
import GoSem.ClaimJoined
import GoSem.ClaimMapViews
import Derived.JoinedTies
import Derived.KernelRfl
namespace Go.Proofs.Ytljfjaoebbmfgaa
/- THE CELL 'sum', in the pinned program and in every row, IS THE sha256 OF THE DUMP (.gsa) THAT YtljfjaoebbmfgaaProg.lean LOADS. Nothing in Lean hashes anything: it is a label: what it is worth is what the hold of that sum in a sandbox is worth. -/
noncomputable def Try.pinned : Pinned := { name := "ytljfjaoebbmfgaa", sum := "bdd8eb237e6189edafe9e5eaca858239dd048f18d1218de0d82183b704120f21", checked := Try.checked }
namespace Rows
def none {H : Type} : Left H := { results := [], args := [] }

/-- 'laws.FnExactTimersOk': WHATEVER THE INPUT: true; the input reads as it did. -/
def fnExactTimersOkSpec : ChangeSpec := { name := "fnExactTimersOk", fn := fun _ => fun
  | [d] => { results := [.lit (.bool true)], args := [d] }
  | _ => none }
def fnExactTimersOkRow : OpenClaim := { program := "ytljfjaoebbmfgaa", sum := "bdd8eb237e6189edafe9e5eaca858239dd048f18d1218de0d82183b704120f21", func := "loop.example/g00248/laws.FnExactTimersOk", spec := "fnExactTimersOk", unfollowed := true, recurses := true, loops := true, plainKeys := false, apart := false }
def FnExactTimersOkSaid : Prop := fnExactTimersOkRow.holds Try.pinned (OpenSpec.ofChange fnExactTimersOkSpec)

/-- ITS FALSE NEIGHBOUR: 'it returns false'. Refute it at one input. -/
def fnExactTimersOkWrong : ChangeSpec := { name := "fnExactTimersOk", fn := fun _ => fun
  | [d] => { results := [.lit (.bool false)], args := [d] }
  | _ => none }
def FnExactTimersOkWrongFalsely : Prop := fnExactTimersOkRow.holds Try.pinned (OpenSpec.ofChange fnExactTimersOkWrong)

/-- 'laws.FnExactDueTimers': WHATEVER THE INPUT: true; the input reads as it did. -/
def fnExactDueTimersSpec : ChangeSpec := { name := "fnExactDueTimers", fn := fun _ => fun
  | [d1, d2] => { results := [.lit (.bool true)], args := [d1, d2] }
  | _ => none }
def fnExactDueTimersRow : OpenClaim := { program := "ytljfjaoebbmfgaa", sum := "bdd8eb237e6189edafe9e5eaca858239dd048f18d1218de0d82183b704120f21", func := "loop.example/g00248/laws.FnExactDueTimers", spec := "fnExactDueTimers", unfollowed := true, recurses := true, loops := true, plainKeys := false, apart := false }
def FnExactDueTimersSaid : Prop := fnExactDueTimersRow.holds Try.pinned (OpenSpec.ofChange fnExactDueTimersSpec)

/-- ITS FALSE NEIGHBOUR: 'it returns false'. Refute it at one input. -/
def fnExactDueTimersWrong : ChangeSpec := { name := "fnExactDueTimers", fn := fun _ => fun
  | [d1, d2] => { results := [.lit (.bool false)], args := [d1, d2] }
  | _ => none }
def FnExactDueTimersWrongFalsely : Prop := fnExactDueTimersRow.holds Try.pinned (OpenSpec.ofChange fnExactDueTimersWrong)

/-- 'laws.FnExactDropTimers': WHATEVER THE INPUT: true; the input reads as it did. -/
def fnExactDropTimersSpec : ChangeSpec := { name := "fnExactDropTimers", fn := fun _ => fun
  | [d1, d2] => { results := [.lit (.bool true)], args := [d1, d2] }
  | _ => none }
def fnExactDropTimersRow : OpenClaim := { program := "ytljfjaoebbmfgaa", sum := "bdd8eb237e6189edafe9e5eaca858239dd048f18d1218de0d82183b704120f21", func := "loop.example/g00248/laws.FnExactDropTimers", spec := "fnExactDropTimers", unfollowed := true, recurses := true, loops := true, plainKeys := false, apart := false }
def FnExactDropTimersSaid : Prop := fnExactDropTimersRow.holds Try.pinned (OpenSpec.ofChange fnExactDropTimersSpec)

/-- ITS FALSE NEIGHBOUR: 'it returns false'. Refute it at one input. -/
def fnExactDropTimersWrong : ChangeSpec := { name := "fnExactDropTimers", fn := fun _ => fun
  | [d1, d2] => { results := [.lit (.bool false)], args := [d1, d2] }
  | _ => none }
def FnExactDropTimersWrongFalsely : Prop := fnExactDropTimersRow.holds Try.pinned (OpenSpec.ofChange fnExactDropTimersWrong)

/- THE SECOND FORM. 'bulk': how many values and letters a reading holds, each counted each time it is reached (what is shared counts as often as it is met; a slice's spare places count too). A statement '..UptoSaid' is the law's where the arguments, and the package variables that the reading takes, are together of bulk at most 1048576: NARROWER than '..Said'. Prove '..Said' where nothing that the law and all that it calls make is longer than what came in: it says more and counts as full. Else prove '..UptoSaid'. A law counts once. -/
mutual
def uptoBulk {H : Type} : DataW H → Nat
  | .lit (.string bytes) => bytes.length + 1
  | .lit _ => 1
  | .nil => 1
  | .ptr d => uptoBulk d + 1
  | .slice elems spare => uptoBulkAll elems + uptoBulkAll spare + 1
  | .agg parts => uptoBulkAll parts + 1
  | .iface _ d => uptoBulk d + 1
  | .map entries => uptoBulkEntries entries + 1
  | .held _ => 1
def uptoBulkAll {H : Type} : List (DataW H) → Nat
  | [] => 0
  | d :: r => uptoBulk d + uptoBulkAll r
def uptoBulkEntries {H : Type} : List (Lit × DataW H) → Nat
  | [] => 0
  | x :: r => uptoBulkEntry x + uptoBulkEntries r
def uptoBulkEntry {H : Type} : Lit × DataW H → Nat
  | (.string bytes, d) => bytes.length + uptoBulk d + 1
  | (_, d) => uptoBulk d + 1
 end
def uptoSmall : (H : Type) → List (DataW H) → Bool := fun _ ds => decide (uptoBulkAll ds ≤ 1048576)
def OpenSpec.upto (s : _root_.Go.ChangeSpec) : _root_.Go.OpenSpec := { _root_.Go.OpenSpec.ofChange s with cond := some uptoSmall }

/-- 'laws.FnExactTimersOk', WHERE WHAT IT READS IS OF BULK AT MOST 1048576: true; the input reads as it did. -/
def fnExactTimersOkUptoRow : OpenClaim := { program := "ytljfjaoebbmfgaa", sum := "bdd8eb237e6189edafe9e5eaca858239dd048f18d1218de0d82183b704120f21", func := "loop.example/g00248/laws.FnExactTimersOk", spec := "fnExactTimersOk", unfollowed := true, recurses := true, loops := true, plainKeys := false, apart := false, narrowed := true }
def FnExactTimersOkUptoSaid : Prop := fnExactTimersOkUptoRow.holds Try.pinned (OpenSpec.upto fnExactTimersOkSpec)

/-- 'laws.FnExactDueTimers', WHERE WHAT IT READS IS OF BULK AT MOST 1048576: true; the input reads as it did. -/
def fnExactDueTimersUptoRow : OpenClaim := { program := "ytljfjaoebbmfgaa", sum := "bdd8eb237e6189edafe9e5eaca858239dd048f18d1218de0d82183b704120f21", func := "loop.example/g00248/laws.FnExactDueTimers", spec := "fnExactDueTimers", unfollowed := true, recurses := true, loops := true, plainKeys := false, apart := false, narrowed := true }
def FnExactDueTimersUptoSaid : Prop := fnExactDueTimersUptoRow.holds Try.pinned (OpenSpec.upto fnExactDueTimersSpec)

/-- 'laws.FnExactDropTimers', WHERE WHAT IT READS IS OF BULK AT MOST 1048576: true; the input reads as it did. -/
def fnExactDropTimersUptoRow : OpenClaim := { program := "ytljfjaoebbmfgaa", sum := "bdd8eb237e6189edafe9e5eaca858239dd048f18d1218de0d82183b704120f21", func := "loop.example/g00248/laws.FnExactDropTimers", spec := "fnExactDropTimers", unfollowed := true, recurses := true, loops := true, plainKeys := false, apart := false, narrowed := true }
def FnExactDropTimersUptoSaid : Prop := fnExactDropTimersUptoRow.holds Try.pinned (OpenSpec.upto fnExactDropTimersSpec)

end Rows
end Go.Proofs.Ytljfjaoebbmfgaa
