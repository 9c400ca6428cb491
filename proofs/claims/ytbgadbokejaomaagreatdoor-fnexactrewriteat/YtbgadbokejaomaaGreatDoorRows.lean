/-
  NARROWER THAN 'FOR EVERY INPUT', by the rows' own cells (each row's printed sentence says how): FnExactNewScrub: laid · FnExactScrubNext: laid · FnExactScrubAll: laid · FnExactDamageOf: laid · FnExactTextAt: laid · FnExactRewriteAt: laid · FnScrubs: laid · FnExactWriteStripe: laid · FnExactReadStripe: laid · FnExactMendStripe: laid.
  DERIVED. THE GIVEN ROWS OF THIS SEAT. 10 by the template 'for every input the law returns true; each argument reads behind the call as it read before'; 0 by the template 'total and deterministic' (their statements: YtbgadbokejaomaaGreatDoorTotals.lean).
  GIVEN WITH THE SEED: the statements are not yours to turn. If you find one false, say at which input.
  Laid BY PROGRAM, IN A SANDBOX (cutbox-rows.mjs): the forced cells as the released guide's own fill.sh prints them over the translation e3c3a9809cc4f54f… (all of the seat's roots in one cut). By AI agents, Wed Nov 11 2026. No macro, syntax, notation, axiom, sorry.
-/
import Derived.Test.YtbgadbokejaomaaGreatDoorChecked
import GoSem.Claim
import GoSem.ClaimJoined
import GoSem.ClaimMapViews
import Derived.JoinedTies
import Derived.KernelRfl
namespace Go.Proofs.YtbgadbokejaomaaGreatDoor
/- THE CELL 'sum', in the pinned program and in every row, IS THE sha256 OF THE DUMP (.gsa) THAT YtbgadbokejaomaaGreatDoorProg.lean LOADS. Nothing in Lean hashes anything: it is a label: what it is worth is what the hold of that sum in a sandbox is worth. -/
noncomputable def Tryz.pinned : Pinned := { name := "ytbgadbokejaomaagreatdoor", sum := "e3c3a9809cc4f54f77b76d0c104d96db2f2706d29dda88d2178fb35e3144f29f", checked := Tryz.checked }
namespace Rows
def none {H : Type} : Left H := { results := [], args := [] }

/- WHAT THE LISTED PACKAGE-LEVEL VARIABLES READ AS WHEN THE CALL BEGINS. Each datum BY PROGRAM (the guide's laid-datum.mjs) off the statement by which the dump's own 'gosem.cut.vars' lays the variable. In a bare row this is a premise. The card (YtbgadbokejaomaaGreatDoorCards.lean) ties it to the program's text. -/
def laid_loop_example_g00405_impl_highRests {H : Type} : DataW H := .agg [.lit (.int .i64 29), .lit (.int .i64 58), .lit (.int .i64 116), .lit (.int .i64 232), .lit (.int .i64 205), .lit (.int .i64 135), .lit (.int .i64 19)]

/-- 'laws.FnExactNewScrub': WHATEVER THE INPUT: true; the input reads as it did. -/
def fnExactNewScrubSpec : ChangeSpec := { name := "fnExactNewScrub", vars := ["loop.example/g00405/impl.highRests"], fn := fun _ => fun
  | [d, g1] => { results := [.lit (.bool true)], args := [d], vars := [g1] }
  | _ => none }
def fnExactNewScrubRow : OpenClaim := { program := "ytbgadbokejaomaagreatdoor", sum := "e3c3a9809cc4f54f77b76d0c104d96db2f2706d29dda88d2178fb35e3144f29f", func := "loop.example/g00405/laws.FnExactNewScrub", spec := "fnExactNewScrub", inPlace := ["internal/abi.NoEscape", "internal/bytealg.MakeNoZero"], unfollowed := true, recurses := true, named := ["loop.example/g00405/impl.highRests"], apart := false, laid := [("loop.example/g00405/impl.highRests", laid_loop_example_g00405_impl_highRests)] }
def FnExactNewScrubSaid : Prop := fnExactNewScrubRow.holds Tryz.pinned (OpenSpec.ofChange fnExactNewScrubSpec)

/-- ITS FALSE NEIGHBOUR: 'it returns false'. Refute it at one input. -/
def fnExactNewScrubWrong : ChangeSpec := { name := "fnExactNewScrub", vars := ["loop.example/g00405/impl.highRests"], fn := fun _ => fun
  | [d, g1] => { results := [.lit (.bool false)], args := [d], vars := [g1] }
  | _ => none }
def FnExactNewScrubWrongFalsely : Prop := fnExactNewScrubRow.holds Tryz.pinned (OpenSpec.ofChange fnExactNewScrubWrong)

/-- 'laws.FnExactScrubNext': WHATEVER THE INPUT: true; the input reads as it did. -/
def fnExactScrubNextSpec : ChangeSpec := { name := "fnExactScrubNext", vars := ["loop.example/g00405/impl.highRests"], fn := fun _ => fun
  | [d, g1] => { results := [.lit (.bool true)], args := [d], vars := [g1] }
  | _ => none }
def fnExactScrubNextRow : OpenClaim := { program := "ytbgadbokejaomaagreatdoor", sum := "e3c3a9809cc4f54f77b76d0c104d96db2f2706d29dda88d2178fb35e3144f29f", func := "loop.example/g00405/laws.FnExactScrubNext", spec := "fnExactScrubNext", inPlace := ["internal/abi.NoEscape", "internal/bytealg.MakeNoZero"], unfollowed := true, recurses := true, named := ["loop.example/g00405/impl.highRests"], apart := false, laid := [("loop.example/g00405/impl.highRests", laid_loop_example_g00405_impl_highRests)] }
def FnExactScrubNextSaid : Prop := fnExactScrubNextRow.holds Tryz.pinned (OpenSpec.ofChange fnExactScrubNextSpec)

/-- ITS FALSE NEIGHBOUR: 'it returns false'. Refute it at one input. -/
def fnExactScrubNextWrong : ChangeSpec := { name := "fnExactScrubNext", vars := ["loop.example/g00405/impl.highRests"], fn := fun _ => fun
  | [d, g1] => { results := [.lit (.bool false)], args := [d], vars := [g1] }
  | _ => none }
def FnExactScrubNextWrongFalsely : Prop := fnExactScrubNextRow.holds Tryz.pinned (OpenSpec.ofChange fnExactScrubNextWrong)

/-- 'laws.FnExactScrubAll': WHATEVER THE INPUT: true; the input reads as it did. -/
def fnExactScrubAllSpec : ChangeSpec := { name := "fnExactScrubAll", vars := ["loop.example/g00405/impl.highRests"], fn := fun _ => fun
  | [d, g1] => { results := [.lit (.bool true)], args := [d], vars := [g1] }
  | _ => none }
def fnExactScrubAllRow : OpenClaim := { program := "ytbgadbokejaomaagreatdoor", sum := "e3c3a9809cc4f54f77b76d0c104d96db2f2706d29dda88d2178fb35e3144f29f", func := "loop.example/g00405/laws.FnExactScrubAll", spec := "fnExactScrubAll", inPlace := ["internal/abi.NoEscape", "internal/bytealg.MakeNoZero"], unfollowed := true, recurses := true, named := ["loop.example/g00405/impl.highRests"], apart := false, laid := [("loop.example/g00405/impl.highRests", laid_loop_example_g00405_impl_highRests)] }
def FnExactScrubAllSaid : Prop := fnExactScrubAllRow.holds Tryz.pinned (OpenSpec.ofChange fnExactScrubAllSpec)

/-- ITS FALSE NEIGHBOUR: 'it returns false'. Refute it at one input. -/
def fnExactScrubAllWrong : ChangeSpec := { name := "fnExactScrubAll", vars := ["loop.example/g00405/impl.highRests"], fn := fun _ => fun
  | [d, g1] => { results := [.lit (.bool false)], args := [d], vars := [g1] }
  | _ => none }
def FnExactScrubAllWrongFalsely : Prop := fnExactScrubAllRow.holds Tryz.pinned (OpenSpec.ofChange fnExactScrubAllWrong)

/-- 'laws.FnExactDamageOf': WHATEVER THE INPUT: true; the input reads as it did. -/
def fnExactDamageOfSpec : ChangeSpec := { name := "fnExactDamageOf", vars := ["loop.example/g00405/impl.highRests"], fn := fun _ => fun
  | [d, g1] => { results := [.lit (.bool true)], args := [d], vars := [g1] }
  | _ => none }
def fnExactDamageOfRow : OpenClaim := { program := "ytbgadbokejaomaagreatdoor", sum := "e3c3a9809cc4f54f77b76d0c104d96db2f2706d29dda88d2178fb35e3144f29f", func := "loop.example/g00405/laws.FnExactDamageOf", spec := "fnExactDamageOf", inPlace := ["internal/abi.NoEscape", "internal/bytealg.MakeNoZero"], unfollowed := true, recurses := true, named := ["loop.example/g00405/impl.highRests"], apart := false, laid := [("loop.example/g00405/impl.highRests", laid_loop_example_g00405_impl_highRests)] }
def FnExactDamageOfSaid : Prop := fnExactDamageOfRow.holds Tryz.pinned (OpenSpec.ofChange fnExactDamageOfSpec)

/-- ITS FALSE NEIGHBOUR: 'it returns false'. Refute it at one input. -/
def fnExactDamageOfWrong : ChangeSpec := { name := "fnExactDamageOf", vars := ["loop.example/g00405/impl.highRests"], fn := fun _ => fun
  | [d, g1] => { results := [.lit (.bool false)], args := [d], vars := [g1] }
  | _ => none }
def FnExactDamageOfWrongFalsely : Prop := fnExactDamageOfRow.holds Tryz.pinned (OpenSpec.ofChange fnExactDamageOfWrong)

/-- 'laws.FnExactTextAt': WHATEVER THE INPUT: true; the input reads as it did. -/
def fnExactTextAtSpec : ChangeSpec := { name := "fnExactTextAt", vars := ["loop.example/g00405/impl.highRests"], fn := fun _ => fun
  | [d1, d2, g1] => { results := [.lit (.bool true)], args := [d1, d2], vars := [g1] }
  | _ => none }
def fnExactTextAtRow : OpenClaim := { program := "ytbgadbokejaomaagreatdoor", sum := "e3c3a9809cc4f54f77b76d0c104d96db2f2706d29dda88d2178fb35e3144f29f", func := "loop.example/g00405/laws.FnExactTextAt", spec := "fnExactTextAt", inPlace := ["internal/abi.NoEscape", "internal/bytealg.MakeNoZero"], unfollowed := true, recurses := true, named := ["loop.example/g00405/impl.highRests"], apart := false, laid := [("loop.example/g00405/impl.highRests", laid_loop_example_g00405_impl_highRests)] }
def FnExactTextAtSaid : Prop := fnExactTextAtRow.holds Tryz.pinned (OpenSpec.ofChange fnExactTextAtSpec)

/-- ITS FALSE NEIGHBOUR: 'it returns false'. Refute it at one input. -/
def fnExactTextAtWrong : ChangeSpec := { name := "fnExactTextAt", vars := ["loop.example/g00405/impl.highRests"], fn := fun _ => fun
  | [d1, d2, g1] => { results := [.lit (.bool false)], args := [d1, d2], vars := [g1] }
  | _ => none }
def FnExactTextAtWrongFalsely : Prop := fnExactTextAtRow.holds Tryz.pinned (OpenSpec.ofChange fnExactTextAtWrong)

/-- 'laws.FnExactRewriteAt': WHATEVER THE INPUT: true; the input reads as it did. -/
def fnExactRewriteAtSpec : ChangeSpec := { name := "fnExactRewriteAt", vars := ["loop.example/g00405/impl.highRests"], fn := fun _ => fun
  | [d1, d2, d3, g1] => { results := [.lit (.bool true)], args := [d1, d2, d3], vars := [g1] }
  | _ => none }
def fnExactRewriteAtRow : OpenClaim := { program := "ytbgadbokejaomaagreatdoor", sum := "e3c3a9809cc4f54f77b76d0c104d96db2f2706d29dda88d2178fb35e3144f29f", func := "loop.example/g00405/laws.FnExactRewriteAt", spec := "fnExactRewriteAt", inPlace := ["internal/abi.NoEscape", "internal/bytealg.MakeNoZero"], unfollowed := true, recurses := true, named := ["loop.example/g00405/impl.highRests"], apart := false, laid := [("loop.example/g00405/impl.highRests", laid_loop_example_g00405_impl_highRests)] }
def FnExactRewriteAtSaid : Prop := fnExactRewriteAtRow.holds Tryz.pinned (OpenSpec.ofChange fnExactRewriteAtSpec)

/-- ITS FALSE NEIGHBOUR: 'it returns false'. Refute it at one input. -/
def fnExactRewriteAtWrong : ChangeSpec := { name := "fnExactRewriteAt", vars := ["loop.example/g00405/impl.highRests"], fn := fun _ => fun
  | [d1, d2, d3, g1] => { results := [.lit (.bool false)], args := [d1, d2, d3], vars := [g1] }
  | _ => none }
def FnExactRewriteAtWrongFalsely : Prop := fnExactRewriteAtRow.holds Tryz.pinned (OpenSpec.ofChange fnExactRewriteAtWrong)

/-- 'laws.FnScrubs': WHATEVER THE INPUT: true; the input reads as it did. -/
def fnScrubsSpec : ChangeSpec := { name := "fnScrubs", vars := ["loop.example/g00405/impl.highRests"], fn := fun _ => fun
  | [d1, d2, g1] => { results := [.lit (.bool true)], args := [d1, d2], vars := [g1] }
  | _ => none }
def fnScrubsRow : OpenClaim := { program := "ytbgadbokejaomaagreatdoor", sum := "e3c3a9809cc4f54f77b76d0c104d96db2f2706d29dda88d2178fb35e3144f29f", func := "loop.example/g00405/laws.FnScrubs", spec := "fnScrubs", inPlace := ["internal/abi.NoEscape", "internal/bytealg.MakeNoZero"], unfollowed := true, recurses := true, named := ["loop.example/g00405/impl.highRests"], apart := false, laid := [("loop.example/g00405/impl.highRests", laid_loop_example_g00405_impl_highRests)] }
def FnScrubsSaid : Prop := fnScrubsRow.holds Tryz.pinned (OpenSpec.ofChange fnScrubsSpec)

/-- ITS FALSE NEIGHBOUR: 'it returns false'. Refute it at one input. -/
def fnScrubsWrong : ChangeSpec := { name := "fnScrubs", vars := ["loop.example/g00405/impl.highRests"], fn := fun _ => fun
  | [d1, d2, g1] => { results := [.lit (.bool false)], args := [d1, d2], vars := [g1] }
  | _ => none }
def FnScrubsWrongFalsely : Prop := fnScrubsRow.holds Tryz.pinned (OpenSpec.ofChange fnScrubsWrong)

/-- 'laws.FnExactWriteStripe': WHATEVER THE INPUT: true; the input reads as it did. -/
def fnExactWriteStripeSpec : ChangeSpec := { name := "fnExactWriteStripe", vars := ["loop.example/g00405/impl.highRests"], fn := fun _ => fun
  | [d1, d2, d3, d4, g1] => { results := [.lit (.bool true)], args := [d1, d2, d3, d4], vars := [g1] }
  | _ => none }
def fnExactWriteStripeRow : OpenClaim := { program := "ytbgadbokejaomaagreatdoor", sum := "e3c3a9809cc4f54f77b76d0c104d96db2f2706d29dda88d2178fb35e3144f29f", func := "loop.example/g00405/laws.FnExactWriteStripe", spec := "fnExactWriteStripe", inPlace := ["internal/abi.NoEscape", "internal/bytealg.MakeNoZero"], unfollowed := true, recurses := true, named := ["loop.example/g00405/impl.highRests"], apart := false, laid := [("loop.example/g00405/impl.highRests", laid_loop_example_g00405_impl_highRests)] }
def FnExactWriteStripeSaid : Prop := fnExactWriteStripeRow.holds Tryz.pinned (OpenSpec.ofChange fnExactWriteStripeSpec)

/-- ITS FALSE NEIGHBOUR: 'it returns false'. Refute it at one input. -/
def fnExactWriteStripeWrong : ChangeSpec := { name := "fnExactWriteStripe", vars := ["loop.example/g00405/impl.highRests"], fn := fun _ => fun
  | [d1, d2, d3, d4, g1] => { results := [.lit (.bool false)], args := [d1, d2, d3, d4], vars := [g1] }
  | _ => none }
def FnExactWriteStripeWrongFalsely : Prop := fnExactWriteStripeRow.holds Tryz.pinned (OpenSpec.ofChange fnExactWriteStripeWrong)

/-- 'laws.FnExactReadStripe': WHATEVER THE INPUT: true; the input reads as it did. -/
def fnExactReadStripeSpec : ChangeSpec := { name := "fnExactReadStripe", vars := ["loop.example/g00405/impl.highRests"], fn := fun _ => fun
  | [d1, d2, d3, g1] => { results := [.lit (.bool true)], args := [d1, d2, d3], vars := [g1] }
  | _ => none }
def fnExactReadStripeRow : OpenClaim := { program := "ytbgadbokejaomaagreatdoor", sum := "e3c3a9809cc4f54f77b76d0c104d96db2f2706d29dda88d2178fb35e3144f29f", func := "loop.example/g00405/laws.FnExactReadStripe", spec := "fnExactReadStripe", inPlace := ["internal/abi.NoEscape", "internal/bytealg.MakeNoZero"], unfollowed := true, recurses := true, named := ["loop.example/g00405/impl.highRests"], apart := false, laid := [("loop.example/g00405/impl.highRests", laid_loop_example_g00405_impl_highRests)] }
def FnExactReadStripeSaid : Prop := fnExactReadStripeRow.holds Tryz.pinned (OpenSpec.ofChange fnExactReadStripeSpec)

/-- ITS FALSE NEIGHBOUR: 'it returns false'. Refute it at one input. -/
def fnExactReadStripeWrong : ChangeSpec := { name := "fnExactReadStripe", vars := ["loop.example/g00405/impl.highRests"], fn := fun _ => fun
  | [d1, d2, d3, g1] => { results := [.lit (.bool false)], args := [d1, d2, d3], vars := [g1] }
  | _ => none }
def FnExactReadStripeWrongFalsely : Prop := fnExactReadStripeRow.holds Tryz.pinned (OpenSpec.ofChange fnExactReadStripeWrong)

/-- 'laws.FnExactMendStripe': WHATEVER THE INPUT: true; the input reads as it did. -/
def fnExactMendStripeSpec : ChangeSpec := { name := "fnExactMendStripe", vars := ["loop.example/g00405/impl.highRests"], fn := fun _ => fun
  | [d1, d2, d3, g1] => { results := [.lit (.bool true)], args := [d1, d2, d3], vars := [g1] }
  | _ => none }
def fnExactMendStripeRow : OpenClaim := { program := "ytbgadbokejaomaagreatdoor", sum := "e3c3a9809cc4f54f77b76d0c104d96db2f2706d29dda88d2178fb35e3144f29f", func := "loop.example/g00405/laws.FnExactMendStripe", spec := "fnExactMendStripe", inPlace := ["internal/abi.NoEscape", "internal/bytealg.MakeNoZero"], unfollowed := true, recurses := true, named := ["loop.example/g00405/impl.highRests"], apart := false, laid := [("loop.example/g00405/impl.highRests", laid_loop_example_g00405_impl_highRests)] }
def FnExactMendStripeSaid : Prop := fnExactMendStripeRow.holds Tryz.pinned (OpenSpec.ofChange fnExactMendStripeSpec)

/-- ITS FALSE NEIGHBOUR: 'it returns false'. Refute it at one input. -/
def fnExactMendStripeWrong : ChangeSpec := { name := "fnExactMendStripe", vars := ["loop.example/g00405/impl.highRests"], fn := fun _ => fun
  | [d1, d2, d3, g1] => { results := [.lit (.bool false)], args := [d1, d2, d3], vars := [g1] }
  | _ => none }
def FnExactMendStripeWrongFalsely : Prop := fnExactMendStripeRow.holds Tryz.pinned (OpenSpec.ofChange fnExactMendStripeWrong)

/- THE SECOND FORM. 'bulk': how many values and letters a reading holds, each counted each time it is reached (what is shared counts as often as it is met; a slice's spare places count too). A statement '..UptoSaid' is the law's where the arguments, and the package variables that the reading takes, are together of bulk at most 1048576: NARROWER than '..Said'. Prove '..Said' where nothing that the law and all that it calls make is longer than what came in: it says more and counts as full. Else prove '..UptoSaid'. A law counts once. -/
mutual
def uptoBulk {H : Type} : DataW H → Nat
  | .lit (.string bytes) => bytes.length + 1
  | .lit _ => 1
  | .nil => 1
  | .ptr d => uptoBulk d + 1
  | .slice elems spare => uptoBulkAll elems + uptoBulkAll spare + 1
  | .agg parts => uptoBulkAll parts + 1
  | .iface _ d => uptoBulk d + 1
  | .map entries => uptoBulkEntries entries + 1
  | .held _ => 1
def uptoBulkAll {H : Type} : List (DataW H) → Nat
  | [] => 0
  | d :: r => uptoBulk d + uptoBulkAll r
def uptoBulkEntries {H : Type} : List (Lit × DataW H) → Nat
  | [] => 0
  | x :: r => uptoBulkEntry x + uptoBulkEntries r
def uptoBulkEntry {H : Type} : Lit × DataW H → Nat
  | (.string bytes, d) => bytes.length + uptoBulk d + 1
  | (_, d) => uptoBulk d + 1
 end
def uptoSmall : (H : Type) → List (DataW H) → Bool := fun _ ds => decide (uptoBulkAll ds ≤ 1048576)
def OpenSpec.upto (s : _root_.Go.ChangeSpec) : _root_.Go.OpenSpec := { _root_.Go.OpenSpec.ofChange s with cond := some uptoSmall }

/-- 'laws.FnExactNewScrub', WHERE WHAT IT READS IS OF BULK AT MOST 1048576: true; the input reads as it did. -/
def fnExactNewScrubUptoRow : OpenClaim := { program := "ytbgadbokejaomaagreatdoor", sum := "e3c3a9809cc4f54f77b76d0c104d96db2f2706d29dda88d2178fb35e3144f29f", func := "loop.example/g00405/laws.FnExactNewScrub", spec := "fnExactNewScrub", inPlace := ["internal/abi.NoEscape", "internal/bytealg.MakeNoZero"], unfollowed := true, recurses := true, named := ["loop.example/g00405/impl.highRests"], apart := false, laid := [("loop.example/g00405/impl.highRests", laid_loop_example_g00405_impl_highRests)], narrowed := true }
def FnExactNewScrubUptoSaid : Prop := fnExactNewScrubUptoRow.holds Tryz.pinned (OpenSpec.upto fnExactNewScrubSpec)

/-- 'laws.FnExactScrubNext', WHERE WHAT IT READS IS OF BULK AT MOST 1048576: true; the input reads as it did. -/
def fnExactScrubNextUptoRow : OpenClaim := { program := "ytbgadbokejaomaagreatdoor", sum := "e3c3a9809cc4f54f77b76d0c104d96db2f2706d29dda88d2178fb35e3144f29f", func := "loop.example/g00405/laws.FnExactScrubNext", spec := "fnExactScrubNext", inPlace := ["internal/abi.NoEscape", "internal/bytealg.MakeNoZero"], unfollowed := true, recurses := true, named := ["loop.example/g00405/impl.highRests"], apart := false, laid := [("loop.example/g00405/impl.highRests", laid_loop_example_g00405_impl_highRests)], narrowed := true }
def FnExactScrubNextUptoSaid : Prop := fnExactScrubNextUptoRow.holds Tryz.pinned (OpenSpec.upto fnExactScrubNextSpec)

/-- 'laws.FnExactScrubAll', WHERE WHAT IT READS IS OF BULK AT MOST 1048576: true; the input reads as it did. -/
def fnExactScrubAllUptoRow : OpenClaim := { program := "ytbgadbokejaomaagreatdoor", sum := "e3c3a9809cc4f54f77b76d0c104d96db2f2706d29dda88d2178fb35e3144f29f", func := "loop.example/g00405/laws.FnExactScrubAll", spec := "fnExactScrubAll", inPlace := ["internal/abi.NoEscape", "internal/bytealg.MakeNoZero"], unfollowed := true, recurses := true, named := ["loop.example/g00405/impl.highRests"], apart := false, laid := [("loop.example/g00405/impl.highRests", laid_loop_example_g00405_impl_highRests)], narrowed := true }
def FnExactScrubAllUptoSaid : Prop := fnExactScrubAllUptoRow.holds Tryz.pinned (OpenSpec.upto fnExactScrubAllSpec)

/-- 'laws.FnExactDamageOf', WHERE WHAT IT READS IS OF BULK AT MOST 1048576: true; the input reads as it did. -/
def fnExactDamageOfUptoRow : OpenClaim := { program := "ytbgadbokejaomaagreatdoor", sum := "e3c3a9809cc4f54f77b76d0c104d96db2f2706d29dda88d2178fb35e3144f29f", func := "loop.example/g00405/laws.FnExactDamageOf", spec := "fnExactDamageOf", inPlace := ["internal/abi.NoEscape", "internal/bytealg.MakeNoZero"], unfollowed := true, recurses := true, named := ["loop.example/g00405/impl.highRests"], apart := false, laid := [("loop.example/g00405/impl.highRests", laid_loop_example_g00405_impl_highRests)], narrowed := true }
def FnExactDamageOfUptoSaid : Prop := fnExactDamageOfUptoRow.holds Tryz.pinned (OpenSpec.upto fnExactDamageOfSpec)

/-- 'laws.FnExactTextAt', WHERE WHAT IT READS IS OF BULK AT MOST 1048576: true; the input reads as it did. -/
def fnExactTextAtUptoRow : OpenClaim := { program := "ytbgadbokejaomaagreatdoor", sum := "e3c3a9809cc4f54f77b76d0c104d96db2f2706d29dda88d2178fb35e3144f29f", func := "loop.example/g00405/laws.FnExactTextAt", spec := "fnExactTextAt", inPlace := ["internal/abi.NoEscape", "internal/bytealg.MakeNoZero"], unfollowed := true, recurses := true, named := ["loop.example/g00405/impl.highRests"], apart := false, laid := [("loop.example/g00405/impl.highRests", laid_loop_example_g00405_impl_highRests)], narrowed := true }
def FnExactTextAtUptoSaid : Prop := fnExactTextAtUptoRow.holds Tryz.pinned (OpenSpec.upto fnExactTextAtSpec)

/-- 'laws.FnExactRewriteAt', WHERE WHAT IT READS IS OF BULK AT MOST 1048576: true; the input reads as it did. -/
def fnExactRewriteAtUptoRow : OpenClaim := { program := "ytbgadbokejaomaagreatdoor", sum := "e3c3a9809cc4f54f77b76d0c104d96db2f2706d29dda88d2178fb35e3144f29f", func := "loop.example/g00405/laws.FnExactRewriteAt", spec := "fnExactRewriteAt", inPlace := ["internal/abi.NoEscape", "internal/bytealg.MakeNoZero"], unfollowed := true, recurses := true, named := ["loop.example/g00405/impl.highRests"], apart := false, laid := [("loop.example/g00405/impl.highRests", laid_loop_example_g00405_impl_highRests)], narrowed := true }
def FnExactRewriteAtUptoSaid : Prop := fnExactRewriteAtUptoRow.holds Tryz.pinned (OpenSpec.upto fnExactRewriteAtSpec)

/-- 'laws.FnScrubs', WHERE WHAT IT READS IS OF BULK AT MOST 1048576: true; the input reads as it did. -/
def fnScrubsUptoRow : OpenClaim := { program := "ytbgadbokejaomaagreatdoor", sum := "e3c3a9809cc4f54f77b76d0c104d96db2f2706d29dda88d2178fb35e3144f29f", func := "loop.example/g00405/laws.FnScrubs", spec := "fnScrubs", inPlace := ["internal/abi.NoEscape", "internal/bytealg.MakeNoZero"], unfollowed := true, recurses := true, named := ["loop.example/g00405/impl.highRests"], apart := false, laid := [("loop.example/g00405/impl.highRests", laid_loop_example_g00405_impl_highRests)], narrowed := true }
def FnScrubsUptoSaid : Prop := fnScrubsUptoRow.holds Tryz.pinned (OpenSpec.upto fnScrubsSpec)

/-- 'laws.FnExactWriteStripe', WHERE WHAT IT READS IS OF BULK AT MOST 1048576: true; the input reads as it did. -/
def fnExactWriteStripeUptoRow : OpenClaim := { program := "ytbgadbokejaomaagreatdoor", sum := "e3c3a9809cc4f54f77b76d0c104d96db2f2706d29dda88d2178fb35e3144f29f", func := "loop.example/g00405/laws.FnExactWriteStripe", spec := "fnExactWriteStripe", inPlace := ["internal/abi.NoEscape", "internal/bytealg.MakeNoZero"], unfollowed := true, recurses := true, named := ["loop.example/g00405/impl.highRests"], apart := false, laid := [("loop.example/g00405/impl.highRests", laid_loop_example_g00405_impl_highRests)], narrowed := true }
def FnExactWriteStripeUptoSaid : Prop := fnExactWriteStripeUptoRow.holds Tryz.pinned (OpenSpec.upto fnExactWriteStripeSpec)

/-- 'laws.FnExactReadStripe', WHERE WHAT IT READS IS OF BULK AT MOST 1048576: true; the input reads as it did. -/
def fnExactReadStripeUptoRow : OpenClaim := { program := "ytbgadbokejaomaagreatdoor", sum := "e3c3a9809cc4f54f77b76d0c104d96db2f2706d29dda88d2178fb35e3144f29f", func := "loop.example/g00405/laws.FnExactReadStripe", spec := "fnExactReadStripe", inPlace := ["internal/abi.NoEscape", "internal/bytealg.MakeNoZero"], unfollowed := true, recurses := true, named := ["loop.example/g00405/impl.highRests"], apart := false, laid := [("loop.example/g00405/impl.highRests", laid_loop_example_g00405_impl_highRests)], narrowed := true }
def FnExactReadStripeUptoSaid : Prop := fnExactReadStripeUptoRow.holds Tryz.pinned (OpenSpec.upto fnExactReadStripeSpec)

/-- 'laws.FnExactMendStripe', WHERE WHAT IT READS IS OF BULK AT MOST 1048576: true; the input reads as it did. -/
def fnExactMendStripeUptoRow : OpenClaim := { program := "ytbgadbokejaomaagreatdoor", sum := "e3c3a9809cc4f54f77b76d0c104d96db2f2706d29dda88d2178fb35e3144f29f", func := "loop.example/g00405/laws.FnExactMendStripe", spec := "fnExactMendStripe", inPlace := ["internal/abi.NoEscape", "internal/bytealg.MakeNoZero"], unfollowed := true, recurses := true, named := ["loop.example/g00405/impl.highRests"], apart := false, laid := [("loop.example/g00405/impl.highRests", laid_loop_example_g00405_impl_highRests)], narrowed := true }
def FnExactMendStripeUptoSaid : Prop := fnExactMendStripeUptoRow.holds Tryz.pinned (OpenSpec.upto fnExactMendStripeSpec)

end Rows
end Go.Proofs.YtbgadbokejaomaaGreatDoor
