/-
  No cell of these rows narrows 'for every input' (looked for: loops, veiled, ifaces, maps, wideKeys, modest, calm, conditions, laid).
  DERIVED. THE GIVEN ROWS OF THIS SEAT. 11 by the template 'for every input the law returns true; each argument reads behind the call as it read before'; 0 by the template 'total and deterministic' (their statements: YtehjfjplajimfaaTotals.lean).
  GIVEN WITH THE SEED: the statements are not yours to turn. If you find one false, say at which input.
  Laid BY PROGRAM, IN A SANDBOX (cutbox-rows.mjs): the forced cells as the released guide's own fill.sh prints them over the translation 301559d8c059a912… (all of the seat's roots in one cut). By AI agents, Wed Nov 11 2026. No macro, syntax, notation, axiom, sorry.
-/
import Derived.Test.YtehjfjplajimfaaChecked
import GoSem.Claim
import GoSem.ClaimJoined
import GoSem.ClaimMapViews
import Derived.JoinedTies
import Derived.KernelRfl
namespace Go.Proofs.Ytehjfjplajimfaa
/- THE CELL 'sum', in the pinned program and in every row, IS THE sha256 OF THE DUMP (.gsa) THAT YtehjfjplajimfaaProg.lean LOADS. Nothing in Lean hashes anything: it is a label: what it is worth is what the hold of that sum in a sandbox is worth. -/
noncomputable def Try.pinned : Pinned := { name := "ytehjfjplajimfaa", sum := "301559d8c059a912dc94bda7ddb483fc05e2b276e2f39037e8ed320351ad68ce", checked := Try.checked }
namespace Rows
def none {H : Type} : Left H := { results := [], args := [] }

/-- 'laws.FnExactRehashTo': WHATEVER THE INPUT: true; the input reads as it did. -/
def fnExactRehashToSpec : ChangeSpec := { name := "fnExactRehashTo", fn := fun _ => fun
  | [d1, d2] => { results := [.lit (.bool true)], args := [d1, d2] }
  | _ => none }
def fnExactRehashToRow : OpenClaim := { program := "ytehjfjplajimfaa", sum := "301559d8c059a912dc94bda7ddb483fc05e2b276e2f39037e8ed320351ad68ce", func := "loop.example/g00405/laws.FnExactRehashTo", spec := "fnExactRehashTo", unfollowed := true, recurses := true, apart := false }
def FnExactRehashToSaid : Prop := fnExactRehashToRow.holds Try.pinned (OpenSpec.ofChange fnExactRehashToSpec)

/-- ITS FALSE NEIGHBOUR: 'it returns false'. Refute it at one input. -/
def fnExactRehashToWrong : ChangeSpec := { name := "fnExactRehashTo", fn := fun _ => fun
  | [d1, d2] => { results := [.lit (.bool false)], args := [d1, d2] }
  | _ => none }
def FnExactRehashToWrongFalsely : Prop := fnExactRehashToRow.holds Try.pinned (OpenSpec.ofChange fnExactRehashToWrong)

/-- 'laws.FnExactPlayTable': WHATEVER THE INPUT: true; the input reads as it did. -/
def fnExactPlayTableSpec : ChangeSpec := { name := "fnExactPlayTable", fn := fun _ => fun
  | [d1, d2] => { results := [.lit (.bool true)], args := [d1, d2] }
  | _ => none }
def fnExactPlayTableRow : OpenClaim := { program := "ytehjfjplajimfaa", sum := "301559d8c059a912dc94bda7ddb483fc05e2b276e2f39037e8ed320351ad68ce", func := "loop.example/g00405/laws.FnExactPlayTable", spec := "fnExactPlayTable", unfollowed := true, recurses := true, apart := false }
def FnExactPlayTableSaid : Prop := fnExactPlayTableRow.holds Try.pinned (OpenSpec.ofChange fnExactPlayTableSpec)

/-- ITS FALSE NEIGHBOUR: 'it returns false'. Refute it at one input. -/
def fnExactPlayTableWrong : ChangeSpec := { name := "fnExactPlayTable", fn := fun _ => fun
  | [d1, d2] => { results := [.lit (.bool false)], args := [d1, d2] }
  | _ => none }
def FnExactPlayTableWrongFalsely : Prop := fnExactPlayTableRow.holds Try.pinned (OpenSpec.ofChange fnExactPlayTableWrong)

/-- 'laws.FnExactNewFilter': WHATEVER THE INPUT: true; the input reads as it did. -/
def fnExactNewFilterSpec : ChangeSpec := { name := "fnExactNewFilter", fn := fun _ => fun
  | [] => { results := [.lit (.bool true)], args := [] }
  | _ => none }
def fnExactNewFilterRow : OpenClaim := { program := "ytehjfjplajimfaa", sum := "301559d8c059a912dc94bda7ddb483fc05e2b276e2f39037e8ed320351ad68ce", func := "loop.example/g00405/laws.FnExactNewFilter", spec := "fnExactNewFilter", apart := false }
def FnExactNewFilterSaid : Prop := fnExactNewFilterRow.holds Try.pinned (OpenSpec.ofChange fnExactNewFilterSpec)

/-- ITS FALSE NEIGHBOUR: 'it returns false'. Refute it at one input. -/
def fnExactNewFilterWrong : ChangeSpec := { name := "fnExactNewFilter", fn := fun _ => fun
  | [] => { results := [.lit (.bool false)], args := [] }
  | _ => none }
def FnExactNewFilterWrongFalsely : Prop := fnExactNewFilterRow.holds Try.pinned (OpenSpec.ofChange fnExactNewFilterWrong)

/-- 'laws.FnExactGoodFilter': WHATEVER THE INPUT: true; the input reads as it did. -/
def fnExactGoodFilterSpec : ChangeSpec := { name := "fnExactGoodFilter", fn := fun _ => fun
  | [d] => { results := [.lit (.bool true)], args := [d] }
  | _ => none }
def fnExactGoodFilterRow : OpenClaim := { program := "ytehjfjplajimfaa", sum := "301559d8c059a912dc94bda7ddb483fc05e2b276e2f39037e8ed320351ad68ce", func := "loop.example/g00405/laws.FnExactGoodFilter", spec := "fnExactGoodFilter", apart := false }
def FnExactGoodFilterSaid : Prop := fnExactGoodFilterRow.holds Try.pinned (OpenSpec.ofChange fnExactGoodFilterSpec)

/-- ITS FALSE NEIGHBOUR: 'it returns false'. Refute it at one input. -/
def fnExactGoodFilterWrong : ChangeSpec := { name := "fnExactGoodFilter", fn := fun _ => fun
  | [d] => { results := [.lit (.bool false)], args := [d] }
  | _ => none }
def FnExactGoodFilterWrongFalsely : Prop := fnExactGoodFilterRow.holds Try.pinned (OpenSpec.ofChange fnExactGoodFilterWrong)

/-- 'laws.FnExactBitsFor': WHATEVER THE INPUT: true; the input reads as it did. -/
def fnExactBitsForSpec : ChangeSpec := { name := "fnExactBitsFor", fn := fun _ => fun
  | [d] => { results := [.lit (.bool true)], args := [d] }
  | _ => none }
def fnExactBitsForRow : OpenClaim := { program := "ytehjfjplajimfaa", sum := "301559d8c059a912dc94bda7ddb483fc05e2b276e2f39037e8ed320351ad68ce", func := "loop.example/g00405/laws.FnExactBitsFor", spec := "fnExactBitsFor", apart := false }
def FnExactBitsForSaid : Prop := fnExactBitsForRow.holds Try.pinned (OpenSpec.ofChange fnExactBitsForSpec)

/-- ITS FALSE NEIGHBOUR: 'it returns false'. Refute it at one input. -/
def fnExactBitsForWrong : ChangeSpec := { name := "fnExactBitsFor", fn := fun _ => fun
  | [d] => { results := [.lit (.bool false)], args := [d] }
  | _ => none }
def FnExactBitsForWrongFalsely : Prop := fnExactBitsForRow.holds Try.pinned (OpenSpec.ofChange fnExactBitsForWrong)

/-- 'laws.FnExactPutFilter': WHATEVER THE INPUT: true; the input reads as it did. -/
def fnExactPutFilterSpec : ChangeSpec := { name := "fnExactPutFilter", fn := fun _ => fun
  | [d1, d2] => { results := [.lit (.bool true)], args := [d1, d2] }
  | _ => none }
def fnExactPutFilterRow : OpenClaim := { program := "ytehjfjplajimfaa", sum := "301559d8c059a912dc94bda7ddb483fc05e2b276e2f39037e8ed320351ad68ce", func := "loop.example/g00405/laws.FnExactPutFilter", spec := "fnExactPutFilter", apart := false }
def FnExactPutFilterSaid : Prop := fnExactPutFilterRow.holds Try.pinned (OpenSpec.ofChange fnExactPutFilterSpec)

/-- ITS FALSE NEIGHBOUR: 'it returns false'. Refute it at one input. -/
def fnExactPutFilterWrong : ChangeSpec := { name := "fnExactPutFilter", fn := fun _ => fun
  | [d1, d2] => { results := [.lit (.bool false)], args := [d1, d2] }
  | _ => none }
def FnExactPutFilterWrongFalsely : Prop := fnExactPutFilterRow.holds Try.pinned (OpenSpec.ofChange fnExactPutFilterWrong)

/-- 'laws.FnExactMayHave': WHATEVER THE INPUT: true; the input reads as it did. -/
def fnExactMayHaveSpec : ChangeSpec := { name := "fnExactMayHave", fn := fun _ => fun
  | [d1, d2] => { results := [.lit (.bool true)], args := [d1, d2] }
  | _ => none }
def fnExactMayHaveRow : OpenClaim := { program := "ytehjfjplajimfaa", sum := "301559d8c059a912dc94bda7ddb483fc05e2b276e2f39037e8ed320351ad68ce", func := "loop.example/g00405/laws.FnExactMayHave", spec := "fnExactMayHave", unfollowed := true, recurses := true, apart := false }
def FnExactMayHaveSaid : Prop := fnExactMayHaveRow.holds Try.pinned (OpenSpec.ofChange fnExactMayHaveSpec)

/-- ITS FALSE NEIGHBOUR: 'it returns false'. Refute it at one input. -/
def fnExactMayHaveWrong : ChangeSpec := { name := "fnExactMayHave", fn := fun _ => fun
  | [d1, d2] => { results := [.lit (.bool false)], args := [d1, d2] }
  | _ => none }
def FnExactMayHaveWrongFalsely : Prop := fnExactMayHaveRow.holds Try.pinned (OpenSpec.ofChange fnExactMayHaveWrong)

/-- 'laws.FnExactJoinFilters': WHATEVER THE INPUT: true; the input reads as it did. -/
def fnExactJoinFiltersSpec : ChangeSpec := { name := "fnExactJoinFilters", fn := fun _ => fun
  | [d1, d2] => { results := [.lit (.bool true)], args := [d1, d2] }
  | _ => none }
def fnExactJoinFiltersRow : OpenClaim := { program := "ytehjfjplajimfaa", sum := "301559d8c059a912dc94bda7ddb483fc05e2b276e2f39037e8ed320351ad68ce", func := "loop.example/g00405/laws.FnExactJoinFilters", spec := "fnExactJoinFilters", apart := false }
def FnExactJoinFiltersSaid : Prop := fnExactJoinFiltersRow.holds Try.pinned (OpenSpec.ofChange fnExactJoinFiltersSpec)

/-- ITS FALSE NEIGHBOUR: 'it returns false'. Refute it at one input. -/
def fnExactJoinFiltersWrong : ChangeSpec := { name := "fnExactJoinFilters", fn := fun _ => fun
  | [d1, d2] => { results := [.lit (.bool false)], args := [d1, d2] }
  | _ => none }
def FnExactJoinFiltersWrongFalsely : Prop := fnExactJoinFiltersRow.holds Try.pinned (OpenSpec.ofChange fnExactJoinFiltersWrong)

/-- 'laws.FnExactMeetFilters': WHATEVER THE INPUT: true; the input reads as it did. -/
def fnExactMeetFiltersSpec : ChangeSpec := { name := "fnExactMeetFilters", fn := fun _ => fun
  | [d1, d2] => { results := [.lit (.bool true)], args := [d1, d2] }
  | _ => none }
def fnExactMeetFiltersRow : OpenClaim := { program := "ytehjfjplajimfaa", sum := "301559d8c059a912dc94bda7ddb483fc05e2b276e2f39037e8ed320351ad68ce", func := "loop.example/g00405/laws.FnExactMeetFilters", spec := "fnExactMeetFilters", unfollowed := true, recurses := true, apart := false }
def FnExactMeetFiltersSaid : Prop := fnExactMeetFiltersRow.holds Try.pinned (OpenSpec.ofChange fnExactMeetFiltersSpec)

/-- ITS FALSE NEIGHBOUR: 'it returns false'. Refute it at one input. -/
def fnExactMeetFiltersWrong : ChangeSpec := { name := "fnExactMeetFilters", fn := fun _ => fun
  | [d1, d2] => { results := [.lit (.bool false)], args := [d1, d2] }
  | _ => none }
def FnExactMeetFiltersWrongFalsely : Prop := fnExactMeetFiltersRow.holds Try.pinned (OpenSpec.ofChange fnExactMeetFiltersWrong)

/-- 'laws.FnExactFilterOf': WHATEVER THE INPUT: true; the input reads as it did. -/
def fnExactFilterOfSpec : ChangeSpec := { name := "fnExactFilterOf", fn := fun _ => fun
  | [d] => { results := [.lit (.bool true)], args := [d] }
  | _ => none }
def fnExactFilterOfRow : OpenClaim := { program := "ytehjfjplajimfaa", sum := "301559d8c059a912dc94bda7ddb483fc05e2b276e2f39037e8ed320351ad68ce", func := "loop.example/g00405/laws.FnExactFilterOf", spec := "fnExactFilterOf", unfollowed := true, recurses := true, apart := false }
def FnExactFilterOfSaid : Prop := fnExactFilterOfRow.holds Try.pinned (OpenSpec.ofChange fnExactFilterOfSpec)

/-- ITS FALSE NEIGHBOUR: 'it returns false'. Refute it at one input. -/
def fnExactFilterOfWrong : ChangeSpec := { name := "fnExactFilterOf", fn := fun _ => fun
  | [d] => { results := [.lit (.bool false)], args := [d] }
  | _ => none }
def FnExactFilterOfWrongFalsely : Prop := fnExactFilterOfRow.holds Try.pinned (OpenSpec.ofChange fnExactFilterOfWrong)

/-- 'laws.FnExactOnesIn': WHATEVER THE INPUT: true; the input reads as it did. -/
def fnExactOnesInSpec : ChangeSpec := { name := "fnExactOnesIn", fn := fun _ => fun
  | [d] => { results := [.lit (.bool true)], args := [d] }
  | _ => none }
def fnExactOnesInRow : OpenClaim := { program := "ytehjfjplajimfaa", sum := "301559d8c059a912dc94bda7ddb483fc05e2b276e2f39037e8ed320351ad68ce", func := "loop.example/g00405/laws.FnExactOnesIn", spec := "fnExactOnesIn", apart := false }
def FnExactOnesInSaid : Prop := fnExactOnesInRow.holds Try.pinned (OpenSpec.ofChange fnExactOnesInSpec)

/-- ITS FALSE NEIGHBOUR: 'it returns false'. Refute it at one input. -/
def fnExactOnesInWrong : ChangeSpec := { name := "fnExactOnesIn", fn := fun _ => fun
  | [d] => { results := [.lit (.bool false)], args := [d] }
  | _ => none }
def FnExactOnesInWrongFalsely : Prop := fnExactOnesInRow.holds Try.pinned (OpenSpec.ofChange fnExactOnesInWrong)

/- THE SECOND FORM. 'bulk': how many values and letters a reading holds, each counted each time it is reached (what is shared counts as often as it is met; a slice's spare places count too). A statement '..UptoSaid' is the law's where the arguments, and the package variables that the reading takes, are together of bulk at most 1048576: NARROWER than '..Said'. Prove '..Said' where nothing that the law and all that it calls make is longer than what came in: it says more and counts as full. Else prove '..UptoSaid'. A law counts once. -/
mutual
def uptoBulk {H : Type} : DataW H → Nat
  | .lit (.string bytes) => bytes.length + 1
  | .lit _ => 1
  | .nil => 1
  | .ptr d => uptoBulk d + 1
  | .slice elems spare => uptoBulkAll elems + uptoBulkAll spare + 1
  | .agg parts => uptoBulkAll parts + 1
  | .iface _ d => uptoBulk d + 1
  | .map entries => uptoBulkEntries entries + 1
  | .held _ => 1
def uptoBulkAll {H : Type} : List (DataW H) → Nat
  | [] => 0
  | d :: r => uptoBulk d + uptoBulkAll r
def uptoBulkEntries {H : Type} : List (Lit × DataW H) → Nat
  | [] => 0
  | x :: r => uptoBulkEntry x + uptoBulkEntries r
def uptoBulkEntry {H : Type} : Lit × DataW H → Nat
  | (.string bytes, d) => bytes.length + uptoBulk d + 1
  | (_, d) => uptoBulk d + 1
 end
def uptoSmall : (H : Type) → List (DataW H) → Bool := fun _ ds => decide (uptoBulkAll ds ≤ 1048576)
def OpenSpec.upto (s : _root_.Go.ChangeSpec) : _root_.Go.OpenSpec := { _root_.Go.OpenSpec.ofChange s with cond := some uptoSmall }

/-- 'laws.FnExactRehashTo', WHERE WHAT IT READS IS OF BULK AT MOST 1048576: true; the input reads as it did. -/
def fnExactRehashToUptoRow : OpenClaim := { program := "ytehjfjplajimfaa", sum := "301559d8c059a912dc94bda7ddb483fc05e2b276e2f39037e8ed320351ad68ce", func := "loop.example/g00405/laws.FnExactRehashTo", spec := "fnExactRehashTo", unfollowed := true, recurses := true, apart := false, narrowed := true }
def FnExactRehashToUptoSaid : Prop := fnExactRehashToUptoRow.holds Try.pinned (OpenSpec.upto fnExactRehashToSpec)

/-- 'laws.FnExactPlayTable', WHERE WHAT IT READS IS OF BULK AT MOST 1048576: true; the input reads as it did. -/
def fnExactPlayTableUptoRow : OpenClaim := { program := "ytehjfjplajimfaa", sum := "301559d8c059a912dc94bda7ddb483fc05e2b276e2f39037e8ed320351ad68ce", func := "loop.example/g00405/laws.FnExactPlayTable", spec := "fnExactPlayTable", unfollowed := true, recurses := true, apart := false, narrowed := true }
def FnExactPlayTableUptoSaid : Prop := fnExactPlayTableUptoRow.holds Try.pinned (OpenSpec.upto fnExactPlayTableSpec)

/-- 'laws.FnExactNewFilter', WHERE WHAT IT READS IS OF BULK AT MOST 1048576: true; the input reads as it did. -/
def fnExactNewFilterUptoRow : OpenClaim := { program := "ytehjfjplajimfaa", sum := "301559d8c059a912dc94bda7ddb483fc05e2b276e2f39037e8ed320351ad68ce", func := "loop.example/g00405/laws.FnExactNewFilter", spec := "fnExactNewFilter", apart := false, narrowed := true }
def FnExactNewFilterUptoSaid : Prop := fnExactNewFilterUptoRow.holds Try.pinned (OpenSpec.upto fnExactNewFilterSpec)

/-- 'laws.FnExactGoodFilter', WHERE WHAT IT READS IS OF BULK AT MOST 1048576: true; the input reads as it did. -/
def fnExactGoodFilterUptoRow : OpenClaim := { program := "ytehjfjplajimfaa", sum := "301559d8c059a912dc94bda7ddb483fc05e2b276e2f39037e8ed320351ad68ce", func := "loop.example/g00405/laws.FnExactGoodFilter", spec := "fnExactGoodFilter", apart := false, narrowed := true }
def FnExactGoodFilterUptoSaid : Prop := fnExactGoodFilterUptoRow.holds Try.pinned (OpenSpec.upto fnExactGoodFilterSpec)

/-- 'laws.FnExactBitsFor', WHERE WHAT IT READS IS OF BULK AT MOST 1048576: true; the input reads as it did. -/
def fnExactBitsForUptoRow : OpenClaim := { program := "ytehjfjplajimfaa", sum := "301559d8c059a912dc94bda7ddb483fc05e2b276e2f39037e8ed320351ad68ce", func := "loop.example/g00405/laws.FnExactBitsFor", spec := "fnExactBitsFor", apart := false, narrowed := true }
def FnExactBitsForUptoSaid : Prop := fnExactBitsForUptoRow.holds Try.pinned (OpenSpec.upto fnExactBitsForSpec)

/-- 'laws.FnExactPutFilter', WHERE WHAT IT READS IS OF BULK AT MOST 1048576: true; the input reads as it did. -/
def fnExactPutFilterUptoRow : OpenClaim := { program := "ytehjfjplajimfaa", sum := "301559d8c059a912dc94bda7ddb483fc05e2b276e2f39037e8ed320351ad68ce", func := "loop.example/g00405/laws.FnExactPutFilter", spec := "fnExactPutFilter", apart := false, narrowed := true }
def FnExactPutFilterUptoSaid : Prop := fnExactPutFilterUptoRow.holds Try.pinned (OpenSpec.upto fnExactPutFilterSpec)

/-- 'laws.FnExactMayHave', WHERE WHAT IT READS IS OF BULK AT MOST 1048576: true; the input reads as it did. -/
def fnExactMayHaveUptoRow : OpenClaim := { program := "ytehjfjplajimfaa", sum := "301559d8c059a912dc94bda7ddb483fc05e2b276e2f39037e8ed320351ad68ce", func := "loop.example/g00405/laws.FnExactMayHave", spec := "fnExactMayHave", unfollowed := true, recurses := true, apart := false, narrowed := true }
def FnExactMayHaveUptoSaid : Prop := fnExactMayHaveUptoRow.holds Try.pinned (OpenSpec.upto fnExactMayHaveSpec)

/-- 'laws.FnExactJoinFilters', WHERE WHAT IT READS IS OF BULK AT MOST 1048576: true; the input reads as it did. -/
def fnExactJoinFiltersUptoRow : OpenClaim := { program := "ytehjfjplajimfaa", sum := "301559d8c059a912dc94bda7ddb483fc05e2b276e2f39037e8ed320351ad68ce", func := "loop.example/g00405/laws.FnExactJoinFilters", spec := "fnExactJoinFilters", apart := false, narrowed := true }
def FnExactJoinFiltersUptoSaid : Prop := fnExactJoinFiltersUptoRow.holds Try.pinned (OpenSpec.upto fnExactJoinFiltersSpec)

/-- 'laws.FnExactMeetFilters', WHERE WHAT IT READS IS OF BULK AT MOST 1048576: true; the input reads as it did. -/
def fnExactMeetFiltersUptoRow : OpenClaim := { program := "ytehjfjplajimfaa", sum := "301559d8c059a912dc94bda7ddb483fc05e2b276e2f39037e8ed320351ad68ce", func := "loop.example/g00405/laws.FnExactMeetFilters", spec := "fnExactMeetFilters", unfollowed := true, recurses := true, apart := false, narrowed := true }
def FnExactMeetFiltersUptoSaid : Prop := fnExactMeetFiltersUptoRow.holds Try.pinned (OpenSpec.upto fnExactMeetFiltersSpec)

/-- 'laws.FnExactFilterOf', WHERE WHAT IT READS IS OF BULK AT MOST 1048576: true; the input reads as it did. -/
def fnExactFilterOfUptoRow : OpenClaim := { program := "ytehjfjplajimfaa", sum := "301559d8c059a912dc94bda7ddb483fc05e2b276e2f39037e8ed320351ad68ce", func := "loop.example/g00405/laws.FnExactFilterOf", spec := "fnExactFilterOf", unfollowed := true, recurses := true, apart := false, narrowed := true }
def FnExactFilterOfUptoSaid : Prop := fnExactFilterOfUptoRow.holds Try.pinned (OpenSpec.upto fnExactFilterOfSpec)

/-- 'laws.FnExactOnesIn', WHERE WHAT IT READS IS OF BULK AT MOST 1048576: true; the input reads as it did. -/
def fnExactOnesInUptoRow : OpenClaim := { program := "ytehjfjplajimfaa", sum := "301559d8c059a912dc94bda7ddb483fc05e2b276e2f39037e8ed320351ad68ce", func := "loop.example/g00405/laws.FnExactOnesIn", spec := "fnExactOnesIn", apart := false, narrowed := true }
def FnExactOnesInUptoSaid : Prop := fnExactOnesInUptoRow.holds Try.pinned (OpenSpec.upto fnExactOnesInSpec)

end Rows
end Go.Proofs.Ytehjfjplajimfaa
