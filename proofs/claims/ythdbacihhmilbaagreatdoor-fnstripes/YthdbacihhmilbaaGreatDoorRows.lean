/-
  NARROWER THAN 'FOR EVERY INPUT', by the rows' own cells (each row's printed sentence says how): FnStripes: laid · FnMends: laid.
  DERIVED. THE GIVEN ROWS OF THIS SEAT. 2 by the template 'for every input the law returns true; each argument reads behind the call as it read before'; 0 by the template 'total and deterministic' (their statements: YthdbacihhmilbaaGreatDoorTotals.lean).
  GIVEN WITH THE SEED: the statements are not yours to turn. If you find one false, say at which input.
  Laid BY PROGRAM, IN A SANDBOX (cutbox-rows.mjs): the forced cells as the released guide's own fill.sh prints them over the translation 04f9da28209b558c… (all of the seat's roots in one cut). By AI agents, Wed Nov 11 2026. No macro, syntax, notation, axiom, sorry.
-/
import Derived.Test.YthdbacihhmilbaaGreatDoorChecked
import GoSem.Claim
import GoSem.ClaimJoined
import GoSem.ClaimMapViews
import Derived.JoinedTies
import Derived.KernelRfl
namespace Go.Proofs.YthdbacihhmilbaaGreatDoor
/- THE CELL 'sum', in the pinned program and in every row, IS THE sha256 OF THE DUMP (.gsa) THAT YthdbacihhmilbaaGreatDoorProg.lean LOADS. Nothing in Lean hashes anything: it is a label: what it is worth is what the hold of that sum in a sandbox is worth. -/
noncomputable def Tryz.pinned : Pinned := { name := "ythdbacihhmilbaagreatdoor", sum := "04f9da28209b558c11edf5a0526ddac9f7a7052efe87e3d9d7cac1601e030430", checked := Tryz.checked }
namespace Rows
def none {H : Type} : Left H := { results := [], args := [] }

/- WHAT THE LISTED PACKAGE-LEVEL VARIABLES READ AS WHEN THE CALL BEGINS. Each datum BY PROGRAM (the guide's laid-datum.mjs) off the statement by which the dump's own 'gosem.cut.vars' lays the variable. In a bare row this is a premise. The card (YthdbacihhmilbaaGreatDoorCards.lean) ties it to the program's text. -/
def laid_loop_example_g00405_impl_highRests {H : Type} : DataW H := .agg [.lit (.int .i64 29), .lit (.int .i64 58), .lit (.int .i64 116), .lit (.int .i64 232), .lit (.int .i64 205), .lit (.int .i64 135), .lit (.int .i64 19)]

/-- 'laws.FnStripes': WHATEVER THE INPUT: true; the input reads as it did. -/
def fnStripesSpec : ChangeSpec := { name := "fnStripes", vars := ["loop.example/g00405/impl.highRests"], fn := fun _ => fun
  | [d1, d2, g1] => { results := [.lit (.bool true)], args := [d1, d2], vars := [g1] }
  | _ => none }
def fnStripesRow : OpenClaim := { program := "ythdbacihhmilbaagreatdoor", sum := "04f9da28209b558c11edf5a0526ddac9f7a7052efe87e3d9d7cac1601e030430", func := "loop.example/g00405/laws.FnStripes", spec := "fnStripes", inPlace := ["internal/abi.NoEscape", "internal/bytealg.MakeNoZero"], unfollowed := true, recurses := true, named := ["loop.example/g00405/impl.highRests"], apart := false, laid := [("loop.example/g00405/impl.highRests", laid_loop_example_g00405_impl_highRests)] }
def FnStripesSaid : Prop := fnStripesRow.holds Tryz.pinned (OpenSpec.ofChange fnStripesSpec)

/-- ITS FALSE NEIGHBOUR: 'it returns false'. Refute it at one input. -/
def fnStripesWrong : ChangeSpec := { name := "fnStripes", vars := ["loop.example/g00405/impl.highRests"], fn := fun _ => fun
  | [d1, d2, g1] => { results := [.lit (.bool false)], args := [d1, d2], vars := [g1] }
  | _ => none }
def FnStripesWrongFalsely : Prop := fnStripesRow.holds Tryz.pinned (OpenSpec.ofChange fnStripesWrong)

/-- 'laws.FnMends': WHATEVER THE INPUT: true; the input reads as it did. -/
def fnMendsSpec : ChangeSpec := { name := "fnMends", vars := ["loop.example/g00405/impl.highRests"], fn := fun _ => fun
  | [d1, d2, g1] => { results := [.lit (.bool true)], args := [d1, d2], vars := [g1] }
  | _ => none }
def fnMendsRow : OpenClaim := { program := "ythdbacihhmilbaagreatdoor", sum := "04f9da28209b558c11edf5a0526ddac9f7a7052efe87e3d9d7cac1601e030430", func := "loop.example/g00405/laws.FnMends", spec := "fnMends", inPlace := ["internal/abi.NoEscape", "internal/bytealg.MakeNoZero"], unfollowed := true, recurses := true, named := ["loop.example/g00405/impl.highRests"], apart := false, laid := [("loop.example/g00405/impl.highRests", laid_loop_example_g00405_impl_highRests)] }
def FnMendsSaid : Prop := fnMendsRow.holds Tryz.pinned (OpenSpec.ofChange fnMendsSpec)

/-- ITS FALSE NEIGHBOUR: 'it returns false'. Refute it at one input. -/
def fnMendsWrong : ChangeSpec := { name := "fnMends", vars := ["loop.example/g00405/impl.highRests"], fn := fun _ => fun
  | [d1, d2, g1] => { results := [.lit (.bool false)], args := [d1, d2], vars := [g1] }
  | _ => none }
def FnMendsWrongFalsely : Prop := fnMendsRow.holds Tryz.pinned (OpenSpec.ofChange fnMendsWrong)

/- THE SECOND FORM. 'bulk': how many values and letters a reading holds, each counted each time it is reached (what is shared counts as often as it is met; a slice's spare places count too). A statement '..UptoSaid' is the law's where the arguments, and the package variables that the reading takes, are together of bulk at most 1048576: NARROWER than '..Said'. Prove '..Said' where nothing that the law and all that it calls make is longer than what came in: it says more and counts as full. Else prove '..UptoSaid'. A law counts once. -/
mutual
def uptoBulk {H : Type} : DataW H → Nat
  | .lit (.string bytes) => bytes.length + 1
  | .lit _ => 1
  | .nil => 1
  | .ptr d => uptoBulk d + 1
  | .slice elems spare => uptoBulkAll elems + uptoBulkAll spare + 1
  | .agg parts => uptoBulkAll parts + 1
  | .iface _ d => uptoBulk d + 1
  | .map entries => uptoBulkEntries entries + 1
  | .held _ => 1
def uptoBulkAll {H : Type} : List (DataW H) → Nat
  | [] => 0
  | d :: r => uptoBulk d + uptoBulkAll r
def uptoBulkEntries {H : Type} : List (Lit × DataW H) → Nat
  | [] => 0
  | x :: r => uptoBulkEntry x + uptoBulkEntries r
def uptoBulkEntry {H : Type} : Lit × DataW H → Nat
  | (.string bytes, d) => bytes.length + uptoBulk d + 1
  | (_, d) => uptoBulk d + 1
 end
def uptoSmall : (H : Type) → List (DataW H) → Bool := fun _ ds => decide (uptoBulkAll ds ≤ 1048576)
def OpenSpec.upto (s : _root_.Go.ChangeSpec) : _root_.Go.OpenSpec := { _root_.Go.OpenSpec.ofChange s with cond := some uptoSmall }

/-- 'laws.FnStripes', WHERE WHAT IT READS IS OF BULK AT MOST 1048576: true; the input reads as it did. -/
def fnStripesUptoRow : OpenClaim := { program := "ythdbacihhmilbaagreatdoor", sum := "04f9da28209b558c11edf5a0526ddac9f7a7052efe87e3d9d7cac1601e030430", func := "loop.example/g00405/laws.FnStripes", spec := "fnStripes", inPlace := ["internal/abi.NoEscape", "internal/bytealg.MakeNoZero"], unfollowed := true, recurses := true, named := ["loop.example/g00405/impl.highRests"], apart := false, laid := [("loop.example/g00405/impl.highRests", laid_loop_example_g00405_impl_highRests)], narrowed := true }
def FnStripesUptoSaid : Prop := fnStripesUptoRow.holds Tryz.pinned (OpenSpec.upto fnStripesSpec)

/-- 'laws.FnMends', WHERE WHAT IT READS IS OF BULK AT MOST 1048576: true; the input reads as it did. -/
def fnMendsUptoRow : OpenClaim := { program := "ythdbacihhmilbaagreatdoor", sum := "04f9da28209b558c11edf5a0526ddac9f7a7052efe87e3d9d7cac1601e030430", func := "loop.example/g00405/laws.FnMends", spec := "fnMends", inPlace := ["internal/abi.NoEscape", "internal/bytealg.MakeNoZero"], unfollowed := true, recurses := true, named := ["loop.example/g00405/impl.highRests"], apart := false, laid := [("loop.example/g00405/impl.highRests", laid_loop_example_g00405_impl_highRests)], narrowed := true }
def FnMendsUptoSaid : Prop := fnMendsUptoRow.holds Tryz.pinned (OpenSpec.upto fnMendsSpec)

end Rows
end Go.Proofs.YthdbacihhmilbaaGreatDoor
