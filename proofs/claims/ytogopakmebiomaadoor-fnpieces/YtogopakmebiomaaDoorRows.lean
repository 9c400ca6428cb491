/-
  NARROWER THAN 'FOR EVERY INPUT', by the rows' own cells (each row's printed sentence says how): FnExactGeneratorOf: laid · FnExactEncodeWord: laid · FnExactSyndromesOf: laid · FnExactIsWord: laid · FnExactLocatorOf: laid · FnExactDecodeWord: laid · FnWords: laid · FnLocators: laid · FnErasure: laid · FnPieces: laid.
  DERIVED. THE GIVEN ROWS OF THIS SEAT. 10 by the template 'for every input the law returns true; each argument reads behind the call as it read before'; 0 by the template 'total and deterministic' (their statements: YtogopakmebiomaaDoorTotals.lean).
  GIVEN WITH THE SEED: the statements are not yours to turn. If you find one false, say at which input.
  Laid BY PROGRAM, IN A SANDBOX (cutbox-rows.mjs): the forced cells as the released guide's own fill.sh prints them over the translation c317f13f3fa6b83d… (all of the seat's roots in one cut). By AI agents, Wed Nov 11 2026. No macro, syntax, notation, axiom, sorry.
-/
import Derived.Test.YtogopakmebiomaaDoorChecked
import GoSem.Claim
import GoSem.ClaimJoined
import GoSem.ClaimMapViews
import Derived.JoinedTies
import Derived.KernelRfl
namespace Go.Proofs.YtogopakmebiomaaDoor
/- THE CELL 'sum', in the pinned program and in every row, IS THE sha256 OF THE DUMP (.gsa) THAT YtogopakmebiomaaDoorProg.lean LOADS. Nothing in Lean hashes anything: it is a label: what it is worth is what the hold of that sum in a sandbox is worth. -/
noncomputable def Tryd.pinned : Pinned := { name := "ytogopakmebiomaadoor", sum := "c317f13f3fa6b83de360acaa07d888a7ff01c1e44014e0a8680a9344c889262f", checked := Tryd.checked }
namespace Rows
def none {H : Type} : Left H := { results := [], args := [] }

/- WHAT THE LISTED PACKAGE-LEVEL VARIABLES READ AS WHEN THE CALL BEGINS. Each datum BY PROGRAM (the guide's laid-datum.mjs) off the statement by which the dump's own 'gosem.cut.vars' lays the variable. In a bare row this is a premise. The card (YtogopakmebiomaaDoorCards.lean) ties it to the program's text. -/
def laid_loop_example_g00405_impl_highRests {H : Type} : DataW H := .agg [.lit (.int .i64 29), .lit (.int .i64 58), .lit (.int .i64 116), .lit (.int .i64 232), .lit (.int .i64 205), .lit (.int .i64 135), .lit (.int .i64 19)]

/-- 'laws.FnExactGeneratorOf': WHATEVER THE INPUT: true; the input reads as it did. -/
def fnExactGeneratorOfSpec : ChangeSpec := { name := "fnExactGeneratorOf", vars := ["loop.example/g00405/impl.highRests"], fn := fun _ => fun
  | [d, g1] => { results := [.lit (.bool true)], args := [d], vars := [g1] }
  | _ => none }
def fnExactGeneratorOfRow : OpenClaim := { program := "ytogopakmebiomaadoor", sum := "c317f13f3fa6b83de360acaa07d888a7ff01c1e44014e0a8680a9344c889262f", func := "loop.example/g00405/laws.FnExactGeneratorOf", spec := "fnExactGeneratorOf", named := ["loop.example/g00405/impl.highRests"], apart := false, laid := [("loop.example/g00405/impl.highRests", laid_loop_example_g00405_impl_highRests)] }
def FnExactGeneratorOfSaid : Prop := fnExactGeneratorOfRow.holds Tryd.pinned (OpenSpec.ofChange fnExactGeneratorOfSpec)

/-- ITS FALSE NEIGHBOUR: 'it returns false'. Refute it at one input. -/
def fnExactGeneratorOfWrong : ChangeSpec := { name := "fnExactGeneratorOf", vars := ["loop.example/g00405/impl.highRests"], fn := fun _ => fun
  | [d, g1] => { results := [.lit (.bool false)], args := [d], vars := [g1] }
  | _ => none }
def FnExactGeneratorOfWrongFalsely : Prop := fnExactGeneratorOfRow.holds Tryd.pinned (OpenSpec.ofChange fnExactGeneratorOfWrong)

/-- 'laws.FnExactEncodeWord': WHATEVER THE INPUT: true; the input reads as it did. -/
def fnExactEncodeWordSpec : ChangeSpec := { name := "fnExactEncodeWord", vars := ["loop.example/g00405/impl.highRests"], fn := fun _ => fun
  | [d1, d2, g1] => { results := [.lit (.bool true)], args := [d1, d2], vars := [g1] }
  | _ => none }
def fnExactEncodeWordRow : OpenClaim := { program := "ytogopakmebiomaadoor", sum := "c317f13f3fa6b83de360acaa07d888a7ff01c1e44014e0a8680a9344c889262f", func := "loop.example/g00405/laws.FnExactEncodeWord", spec := "fnExactEncodeWord", named := ["loop.example/g00405/impl.highRests"], apart := false, laid := [("loop.example/g00405/impl.highRests", laid_loop_example_g00405_impl_highRests)] }
def FnExactEncodeWordSaid : Prop := fnExactEncodeWordRow.holds Tryd.pinned (OpenSpec.ofChange fnExactEncodeWordSpec)

/-- ITS FALSE NEIGHBOUR: 'it returns false'. Refute it at one input. -/
def fnExactEncodeWordWrong : ChangeSpec := { name := "fnExactEncodeWord", vars := ["loop.example/g00405/impl.highRests"], fn := fun _ => fun
  | [d1, d2, g1] => { results := [.lit (.bool false)], args := [d1, d2], vars := [g1] }
  | _ => none }
def FnExactEncodeWordWrongFalsely : Prop := fnExactEncodeWordRow.holds Tryd.pinned (OpenSpec.ofChange fnExactEncodeWordWrong)

/-- 'laws.FnExactSyndromesOf': WHATEVER THE INPUT: true; the input reads as it did. -/
def fnExactSyndromesOfSpec : ChangeSpec := { name := "fnExactSyndromesOf", vars := ["loop.example/g00405/impl.highRests"], fn := fun _ => fun
  | [d1, d2, g1] => { results := [.lit (.bool true)], args := [d1, d2], vars := [g1] }
  | _ => none }
def fnExactSyndromesOfRow : OpenClaim := { program := "ytogopakmebiomaadoor", sum := "c317f13f3fa6b83de360acaa07d888a7ff01c1e44014e0a8680a9344c889262f", func := "loop.example/g00405/laws.FnExactSyndromesOf", spec := "fnExactSyndromesOf", named := ["loop.example/g00405/impl.highRests"], apart := false, laid := [("loop.example/g00405/impl.highRests", laid_loop_example_g00405_impl_highRests)] }
def FnExactSyndromesOfSaid : Prop := fnExactSyndromesOfRow.holds Tryd.pinned (OpenSpec.ofChange fnExactSyndromesOfSpec)

/-- ITS FALSE NEIGHBOUR: 'it returns false'. Refute it at one input. -/
def fnExactSyndromesOfWrong : ChangeSpec := { name := "fnExactSyndromesOf", vars := ["loop.example/g00405/impl.highRests"], fn := fun _ => fun
  | [d1, d2, g1] => { results := [.lit (.bool false)], args := [d1, d2], vars := [g1] }
  | _ => none }
def FnExactSyndromesOfWrongFalsely : Prop := fnExactSyndromesOfRow.holds Tryd.pinned (OpenSpec.ofChange fnExactSyndromesOfWrong)

/-- 'laws.FnExactIsWord': WHATEVER THE INPUT: true; the input reads as it did. -/
def fnExactIsWordSpec : ChangeSpec := { name := "fnExactIsWord", vars := ["loop.example/g00405/impl.highRests"], fn := fun _ => fun
  | [d1, d2, g1] => { results := [.lit (.bool true)], args := [d1, d2], vars := [g1] }
  | _ => none }
def fnExactIsWordRow : OpenClaim := { program := "ytogopakmebiomaadoor", sum := "c317f13f3fa6b83de360acaa07d888a7ff01c1e44014e0a8680a9344c889262f", func := "loop.example/g00405/laws.FnExactIsWord", spec := "fnExactIsWord", unfollowed := true, recurses := true, named := ["loop.example/g00405/impl.highRests"], apart := false, laid := [("loop.example/g00405/impl.highRests", laid_loop_example_g00405_impl_highRests)] }
def FnExactIsWordSaid : Prop := fnExactIsWordRow.holds Tryd.pinned (OpenSpec.ofChange fnExactIsWordSpec)

/-- ITS FALSE NEIGHBOUR: 'it returns false'. Refute it at one input. -/
def fnExactIsWordWrong : ChangeSpec := { name := "fnExactIsWord", vars := ["loop.example/g00405/impl.highRests"], fn := fun _ => fun
  | [d1, d2, g1] => { results := [.lit (.bool false)], args := [d1, d2], vars := [g1] }
  | _ => none }
def FnExactIsWordWrongFalsely : Prop := fnExactIsWordRow.holds Tryd.pinned (OpenSpec.ofChange fnExactIsWordWrong)

/-- 'laws.FnExactLocatorOf': WHATEVER THE INPUT: true; the input reads as it did. -/
def fnExactLocatorOfSpec : ChangeSpec := { name := "fnExactLocatorOf", vars := ["loop.example/g00405/impl.highRests"], fn := fun _ => fun
  | [d, g1] => { results := [.lit (.bool true)], args := [d], vars := [g1] }
  | _ => none }
def fnExactLocatorOfRow : OpenClaim := { program := "ytogopakmebiomaadoor", sum := "c317f13f3fa6b83de360acaa07d888a7ff01c1e44014e0a8680a9344c889262f", func := "loop.example/g00405/laws.FnExactLocatorOf", spec := "fnExactLocatorOf", named := ["loop.example/g00405/impl.highRests"], apart := false, laid := [("loop.example/g00405/impl.highRests", laid_loop_example_g00405_impl_highRests)] }
def FnExactLocatorOfSaid : Prop := fnExactLocatorOfRow.holds Tryd.pinned (OpenSpec.ofChange fnExactLocatorOfSpec)

/-- ITS FALSE NEIGHBOUR: 'it returns false'. Refute it at one input. -/
def fnExactLocatorOfWrong : ChangeSpec := { name := "fnExactLocatorOf", vars := ["loop.example/g00405/impl.highRests"], fn := fun _ => fun
  | [d, g1] => { results := [.lit (.bool false)], args := [d], vars := [g1] }
  | _ => none }
def FnExactLocatorOfWrongFalsely : Prop := fnExactLocatorOfRow.holds Tryd.pinned (OpenSpec.ofChange fnExactLocatorOfWrong)

/-- 'laws.FnExactDecodeWord': WHATEVER THE INPUT: true; the input reads as it did. -/
def fnExactDecodeWordSpec : ChangeSpec := { name := "fnExactDecodeWord", vars := ["loop.example/g00405/impl.highRests"], fn := fun _ => fun
  | [d1, d2, g1] => { results := [.lit (.bool true)], args := [d1, d2], vars := [g1] }
  | _ => none }
def fnExactDecodeWordRow : OpenClaim := { program := "ytogopakmebiomaadoor", sum := "c317f13f3fa6b83de360acaa07d888a7ff01c1e44014e0a8680a9344c889262f", func := "loop.example/g00405/laws.FnExactDecodeWord", spec := "fnExactDecodeWord", unfollowed := true, recurses := true, named := ["loop.example/g00405/impl.highRests"], apart := false, laid := [("loop.example/g00405/impl.highRests", laid_loop_example_g00405_impl_highRests)] }
def FnExactDecodeWordSaid : Prop := fnExactDecodeWordRow.holds Tryd.pinned (OpenSpec.ofChange fnExactDecodeWordSpec)

/-- ITS FALSE NEIGHBOUR: 'it returns false'. Refute it at one input. -/
def fnExactDecodeWordWrong : ChangeSpec := { name := "fnExactDecodeWord", vars := ["loop.example/g00405/impl.highRests"], fn := fun _ => fun
  | [d1, d2, g1] => { results := [.lit (.bool false)], args := [d1, d2], vars := [g1] }
  | _ => none }
def FnExactDecodeWordWrongFalsely : Prop := fnExactDecodeWordRow.holds Tryd.pinned (OpenSpec.ofChange fnExactDecodeWordWrong)

/-- 'laws.FnWords': WHATEVER THE INPUT: true; the input reads as it did. -/
def fnWordsSpec : ChangeSpec := { name := "fnWords", vars := ["loop.example/g00405/impl.highRests"], fn := fun _ => fun
  | [d1, d2, g1] => { results := [.lit (.bool true)], args := [d1, d2], vars := [g1] }
  | _ => none }
def fnWordsRow : OpenClaim := { program := "ytogopakmebiomaadoor", sum := "c317f13f3fa6b83de360acaa07d888a7ff01c1e44014e0a8680a9344c889262f", func := "loop.example/g00405/laws.FnWords", spec := "fnWords", unfollowed := true, recurses := true, named := ["loop.example/g00405/impl.highRests"], apart := false, laid := [("loop.example/g00405/impl.highRests", laid_loop_example_g00405_impl_highRests)] }
def FnWordsSaid : Prop := fnWordsRow.holds Tryd.pinned (OpenSpec.ofChange fnWordsSpec)

/-- ITS FALSE NEIGHBOUR: 'it returns false'. Refute it at one input. -/
def fnWordsWrong : ChangeSpec := { name := "fnWords", vars := ["loop.example/g00405/impl.highRests"], fn := fun _ => fun
  | [d1, d2, g1] => { results := [.lit (.bool false)], args := [d1, d2], vars := [g1] }
  | _ => none }
def FnWordsWrongFalsely : Prop := fnWordsRow.holds Tryd.pinned (OpenSpec.ofChange fnWordsWrong)

/-- 'laws.FnLocators': WHATEVER THE INPUT: true; the input reads as it did. -/
def fnLocatorsSpec : ChangeSpec := { name := "fnLocators", vars := ["loop.example/g00405/impl.highRests"], fn := fun _ => fun
  | [d1, d2, g1] => { results := [.lit (.bool true)], args := [d1, d2], vars := [g1] }
  | _ => none }
def fnLocatorsRow : OpenClaim := { program := "ytogopakmebiomaadoor", sum := "c317f13f3fa6b83de360acaa07d888a7ff01c1e44014e0a8680a9344c889262f", func := "loop.example/g00405/laws.FnLocators", spec := "fnLocators", unfollowed := true, recurses := true, named := ["loop.example/g00405/impl.highRests"], apart := false, laid := [("loop.example/g00405/impl.highRests", laid_loop_example_g00405_impl_highRests)] }
def FnLocatorsSaid : Prop := fnLocatorsRow.holds Tryd.pinned (OpenSpec.ofChange fnLocatorsSpec)

/-- ITS FALSE NEIGHBOUR: 'it returns false'. Refute it at one input. -/
def fnLocatorsWrong : ChangeSpec := { name := "fnLocators", vars := ["loop.example/g00405/impl.highRests"], fn := fun _ => fun
  | [d1, d2, g1] => { results := [.lit (.bool false)], args := [d1, d2], vars := [g1] }
  | _ => none }
def FnLocatorsWrongFalsely : Prop := fnLocatorsRow.holds Tryd.pinned (OpenSpec.ofChange fnLocatorsWrong)

/-- 'laws.FnErasure': WHATEVER THE INPUT: true; the input reads as it did. -/
def fnErasureSpec : ChangeSpec := { name := "fnErasure", vars := ["loop.example/g00405/impl.highRests"], fn := fun _ => fun
  | [d1, d2, g1] => { results := [.lit (.bool true)], args := [d1, d2], vars := [g1] }
  | _ => none }
def fnErasureRow : OpenClaim := { program := "ytogopakmebiomaadoor", sum := "c317f13f3fa6b83de360acaa07d888a7ff01c1e44014e0a8680a9344c889262f", func := "loop.example/g00405/laws.FnErasure", spec := "fnErasure", unfollowed := true, recurses := true, named := ["loop.example/g00405/impl.highRests"], apart := false, laid := [("loop.example/g00405/impl.highRests", laid_loop_example_g00405_impl_highRests)] }
def FnErasureSaid : Prop := fnErasureRow.holds Tryd.pinned (OpenSpec.ofChange fnErasureSpec)

/-- ITS FALSE NEIGHBOUR: 'it returns false'. Refute it at one input. -/
def fnErasureWrong : ChangeSpec := { name := "fnErasure", vars := ["loop.example/g00405/impl.highRests"], fn := fun _ => fun
  | [d1, d2, g1] => { results := [.lit (.bool false)], args := [d1, d2], vars := [g1] }
  | _ => none }
def FnErasureWrongFalsely : Prop := fnErasureRow.holds Tryd.pinned (OpenSpec.ofChange fnErasureWrong)

/-- 'laws.FnPieces': WHATEVER THE INPUT: true; the input reads as it did. -/
def fnPiecesSpec : ChangeSpec := { name := "fnPieces", vars := ["loop.example/g00405/impl.highRests"], fn := fun _ => fun
  | [d1, d2, g1] => { results := [.lit (.bool true)], args := [d1, d2], vars := [g1] }
  | _ => none }
def fnPiecesRow : OpenClaim := { program := "ytogopakmebiomaadoor", sum := "c317f13f3fa6b83de360acaa07d888a7ff01c1e44014e0a8680a9344c889262f", func := "loop.example/g00405/laws.FnPieces", spec := "fnPieces", unfollowed := true, recurses := true, named := ["loop.example/g00405/impl.highRests"], apart := false, laid := [("loop.example/g00405/impl.highRests", laid_loop_example_g00405_impl_highRests)] }
def FnPiecesSaid : Prop := fnPiecesRow.holds Tryd.pinned (OpenSpec.ofChange fnPiecesSpec)

/-- ITS FALSE NEIGHBOUR: 'it returns false'. Refute it at one input. -/
def fnPiecesWrong : ChangeSpec := { name := "fnPieces", vars := ["loop.example/g00405/impl.highRests"], fn := fun _ => fun
  | [d1, d2, g1] => { results := [.lit (.bool false)], args := [d1, d2], vars := [g1] }
  | _ => none }
def FnPiecesWrongFalsely : Prop := fnPiecesRow.holds Tryd.pinned (OpenSpec.ofChange fnPiecesWrong)

/- THE SECOND FORM. 'bulk': how many values and letters a reading holds, each counted each time it is reached (what is shared counts as often as it is met; a slice's spare places count too). A statement '..UptoSaid' is the law's where the arguments, and the package variables that the reading takes, are together of bulk at most 1048576: NARROWER than '..Said'. Prove '..Said' where nothing that the law and all that it calls make is longer than what came in: it says more and counts as full. Else prove '..UptoSaid'. A law counts once. -/
mutual
def uptoBulk {H : Type} : DataW H → Nat
  | .lit (.string bytes) => bytes.length + 1
  | .lit _ => 1
  | .nil => 1
  | .ptr d => uptoBulk d + 1
  | .slice elems spare => uptoBulkAll elems + uptoBulkAll spare + 1
  | .agg parts => uptoBulkAll parts + 1
  | .iface _ d => uptoBulk d + 1
  | .map entries => uptoBulkEntries entries + 1
  | .held _ => 1
def uptoBulkAll {H : Type} : List (DataW H) → Nat
  | [] => 0
  | d :: r => uptoBulk d + uptoBulkAll r
def uptoBulkEntries {H : Type} : List (Lit × DataW H) → Nat
  | [] => 0
  | x :: r => uptoBulkEntry x + uptoBulkEntries r
def uptoBulkEntry {H : Type} : Lit × DataW H → Nat
  | (.string bytes, d) => bytes.length + uptoBulk d + 1
  | (_, d) => uptoBulk d + 1
 end
def uptoSmall : (H : Type) → List (DataW H) → Bool := fun _ ds => decide (uptoBulkAll ds ≤ 1048576)
def OpenSpec.upto (s : _root_.Go.ChangeSpec) : _root_.Go.OpenSpec := { _root_.Go.OpenSpec.ofChange s with cond := some uptoSmall }

/-- 'laws.FnExactGeneratorOf', WHERE WHAT IT READS IS OF BULK AT MOST 1048576: true; the input reads as it did. -/
def fnExactGeneratorOfUptoRow : OpenClaim := { program := "ytogopakmebiomaadoor", sum := "c317f13f3fa6b83de360acaa07d888a7ff01c1e44014e0a8680a9344c889262f", func := "loop.example/g00405/laws.FnExactGeneratorOf", spec := "fnExactGeneratorOf", named := ["loop.example/g00405/impl.highRests"], apart := false, laid := [("loop.example/g00405/impl.highRests", laid_loop_example_g00405_impl_highRests)], narrowed := true }
def FnExactGeneratorOfUptoSaid : Prop := fnExactGeneratorOfUptoRow.holds Tryd.pinned (OpenSpec.upto fnExactGeneratorOfSpec)

/-- 'laws.FnExactEncodeWord', WHERE WHAT IT READS IS OF BULK AT MOST 1048576: true; the input reads as it did. -/
def fnExactEncodeWordUptoRow : OpenClaim := { program := "ytogopakmebiomaadoor", sum := "c317f13f3fa6b83de360acaa07d888a7ff01c1e44014e0a8680a9344c889262f", func := "loop.example/g00405/laws.FnExactEncodeWord", spec := "fnExactEncodeWord", named := ["loop.example/g00405/impl.highRests"], apart := false, laid := [("loop.example/g00405/impl.highRests", laid_loop_example_g00405_impl_highRests)], narrowed := true }
def FnExactEncodeWordUptoSaid : Prop := fnExactEncodeWordUptoRow.holds Tryd.pinned (OpenSpec.upto fnExactEncodeWordSpec)

/-- 'laws.FnExactSyndromesOf', WHERE WHAT IT READS IS OF BULK AT MOST 1048576: true; the input reads as it did. -/
def fnExactSyndromesOfUptoRow : OpenClaim := { program := "ytogopakmebiomaadoor", sum := "c317f13f3fa6b83de360acaa07d888a7ff01c1e44014e0a8680a9344c889262f", func := "loop.example/g00405/laws.FnExactSyndromesOf", spec := "fnExactSyndromesOf", named := ["loop.example/g00405/impl.highRests"], apart := false, laid := [("loop.example/g00405/impl.highRests", laid_loop_example_g00405_impl_highRests)], narrowed := true }
def FnExactSyndromesOfUptoSaid : Prop := fnExactSyndromesOfUptoRow.holds Tryd.pinned (OpenSpec.upto fnExactSyndromesOfSpec)

/-- 'laws.FnExactIsWord', WHERE WHAT IT READS IS OF BULK AT MOST 1048576: true; the input reads as it did. -/
def fnExactIsWordUptoRow : OpenClaim := { program := "ytogopakmebiomaadoor", sum := "c317f13f3fa6b83de360acaa07d888a7ff01c1e44014e0a8680a9344c889262f", func := "loop.example/g00405/laws.FnExactIsWord", spec := "fnExactIsWord", unfollowed := true, recurses := true, named := ["loop.example/g00405/impl.highRests"], apart := false, laid := [("loop.example/g00405/impl.highRests", laid_loop_example_g00405_impl_highRests)], narrowed := true }
def FnExactIsWordUptoSaid : Prop := fnExactIsWordUptoRow.holds Tryd.pinned (OpenSpec.upto fnExactIsWordSpec)

/-- 'laws.FnExactLocatorOf', WHERE WHAT IT READS IS OF BULK AT MOST 1048576: true; the input reads as it did. -/
def fnExactLocatorOfUptoRow : OpenClaim := { program := "ytogopakmebiomaadoor", sum := "c317f13f3fa6b83de360acaa07d888a7ff01c1e44014e0a8680a9344c889262f", func := "loop.example/g00405/laws.FnExactLocatorOf", spec := "fnExactLocatorOf", named := ["loop.example/g00405/impl.highRests"], apart := false, laid := [("loop.example/g00405/impl.highRests", laid_loop_example_g00405_impl_highRests)], narrowed := true }
def FnExactLocatorOfUptoSaid : Prop := fnExactLocatorOfUptoRow.holds Tryd.pinned (OpenSpec.upto fnExactLocatorOfSpec)

/-- 'laws.FnExactDecodeWord', WHERE WHAT IT READS IS OF BULK AT MOST 1048576: true; the input reads as it did. -/
def fnExactDecodeWordUptoRow : OpenClaim := { program := "ytogopakmebiomaadoor", sum := "c317f13f3fa6b83de360acaa07d888a7ff01c1e44014e0a8680a9344c889262f", func := "loop.example/g00405/laws.FnExactDecodeWord", spec := "fnExactDecodeWord", unfollowed := true, recurses := true, named := ["loop.example/g00405/impl.highRests"], apart := false, laid := [("loop.example/g00405/impl.highRests", laid_loop_example_g00405_impl_highRests)], narrowed := true }
def FnExactDecodeWordUptoSaid : Prop := fnExactDecodeWordUptoRow.holds Tryd.pinned (OpenSpec.upto fnExactDecodeWordSpec)

/-- 'laws.FnWords', WHERE WHAT IT READS IS OF BULK AT MOST 1048576: true; the input reads as it did. -/
def fnWordsUptoRow : OpenClaim := { program := "ytogopakmebiomaadoor", sum := "c317f13f3fa6b83de360acaa07d888a7ff01c1e44014e0a8680a9344c889262f", func := "loop.example/g00405/laws.FnWords", spec := "fnWords", unfollowed := true, recurses := true, named := ["loop.example/g00405/impl.highRests"], apart := false, laid := [("loop.example/g00405/impl.highRests", laid_loop_example_g00405_impl_highRests)], narrowed := true }
def FnWordsUptoSaid : Prop := fnWordsUptoRow.holds Tryd.pinned (OpenSpec.upto fnWordsSpec)

/-- 'laws.FnLocators', WHERE WHAT IT READS IS OF BULK AT MOST 1048576: true; the input reads as it did. -/
def fnLocatorsUptoRow : OpenClaim := { program := "ytogopakmebiomaadoor", sum := "c317f13f3fa6b83de360acaa07d888a7ff01c1e44014e0a8680a9344c889262f", func := "loop.example/g00405/laws.FnLocators", spec := "fnLocators", unfollowed := true, recurses := true, named := ["loop.example/g00405/impl.highRests"], apart := false, laid := [("loop.example/g00405/impl.highRests", laid_loop_example_g00405_impl_highRests)], narrowed := true }
def FnLocatorsUptoSaid : Prop := fnLocatorsUptoRow.holds Tryd.pinned (OpenSpec.upto fnLocatorsSpec)

/-- 'laws.FnErasure', WHERE WHAT IT READS IS OF BULK AT MOST 1048576: true; the input reads as it did. -/
def fnErasureUptoRow : OpenClaim := { program := "ytogopakmebiomaadoor", sum := "c317f13f3fa6b83de360acaa07d888a7ff01c1e44014e0a8680a9344c889262f", func := "loop.example/g00405/laws.FnErasure", spec := "fnErasure", unfollowed := true, recurses := true, named := ["loop.example/g00405/impl.highRests"], apart := false, laid := [("loop.example/g00405/impl.highRests", laid_loop_example_g00405_impl_highRests)], narrowed := true }
def FnErasureUptoSaid : Prop := fnErasureUptoRow.holds Tryd.pinned (OpenSpec.upto fnErasureSpec)

/-- 'laws.FnPieces', WHERE WHAT IT READS IS OF BULK AT MOST 1048576: true; the input reads as it did. -/
def fnPiecesUptoRow : OpenClaim := { program := "ytogopakmebiomaadoor", sum := "c317f13f3fa6b83de360acaa07d888a7ff01c1e44014e0a8680a9344c889262f", func := "loop.example/g00405/laws.FnPieces", spec := "fnPieces", unfollowed := true, recurses := true, named := ["loop.example/g00405/impl.highRests"], apart := false, laid := [("loop.example/g00405/impl.highRests", laid_loop_example_g00405_impl_highRests)], narrowed := true }
def FnPiecesUptoSaid : Prop := fnPiecesUptoRow.holds Tryd.pinned (OpenSpec.upto fnPiecesSpec)

end Rows
end Go.Proofs.YtogopakmebiomaaDoor
