/-
  NARROWER THAN 'FOR EVERY INPUT', by the rows' own cells (each row's printed sentence says how): FnField: laid · FnPolys: laid · FnExactMulGf: laid · FnExactDivGf: laid · FnExactPowGf: laid · FnExactExpTable: laid · FnExactLogTable: laid · FnExactOrderGf: laid · FnExactEvalGf: laid · FnExactMulPoly: laid · FnExactDivPoly: laid.
  DERIVED. THE GIVEN ROWS OF THIS SEAT. 11 by the template 'for every input the law returns true; each argument reads behind the call as it read before'; 0 by the template 'total and deterministic' (their statements: YtghehmoabioobaaDoorTotals.lean).
  GIVEN WITH THE SEED: the statements are not yours to turn. If you find one false, say at which input.
  Laid BY PROGRAM, IN A SANDBOX (cutbox-rows.mjs): the forced cells as the released guide's own fill.sh prints them over the translation ff528b1ae05ad48f… (all of the seat's roots in one cut). By AI agents, Wed Nov 11 2026. No macro, syntax, notation, axiom, sorry.
-/
import Derived.Test.YtghehmoabioobaaDoorChecked
import GoSem.Claim
import GoSem.ClaimJoined
import GoSem.ClaimMapViews
import Derived.JoinedTies
import Derived.KernelRfl
namespace Go.Proofs.YtghehmoabioobaaDoor
/- THE CELL 'sum', in the pinned program and in every row, IS THE sha256 OF THE DUMP (.gsa) THAT YtghehmoabioobaaDoorProg.lean LOADS. Nothing in Lean hashes anything: it is a label: what it is worth is what the hold of that sum in a sandbox is worth. -/
noncomputable def Tryd.pinned : Pinned := { name := "ytghehmoabioobaadoor", sum := "ff528b1ae05ad48f66f53df547bd792ddde8013ecd18f1e62008d4726db23bd9", checked := Tryd.checked }
namespace Rows
def none {H : Type} : Left H := { results := [], args := [] }

/- WHAT THE LISTED PACKAGE-LEVEL VARIABLES READ AS WHEN THE CALL BEGINS. Each datum BY PROGRAM (the guide's laid-datum.mjs) off the statement by which the dump's own 'gosem.cut.vars' lays the variable. In a bare row this is a premise. The card (YtghehmoabioobaaDoorCards.lean) ties it to the program's text. -/
def laid_loop_example_g00405_impl_highRests {H : Type} : DataW H := .agg [.lit (.int .i64 29), .lit (.int .i64 58), .lit (.int .i64 116), .lit (.int .i64 232), .lit (.int .i64 205), .lit (.int .i64 135), .lit (.int .i64 19)]

/-- 'laws.FnField': WHATEVER THE INPUT: true; the input reads as it did. -/
def fnFieldSpec : ChangeSpec := { name := "fnField", vars := ["loop.example/g00405/impl.highRests"], fn := fun _ => fun
  | [d1, d2, g1] => { results := [.lit (.bool true)], args := [d1, d2], vars := [g1] }
  | _ => none }
def fnFieldRow : OpenClaim := { program := "ytghehmoabioobaadoor", sum := "ff528b1ae05ad48f66f53df547bd792ddde8013ecd18f1e62008d4726db23bd9", func := "loop.example/g00405/laws.FnField", spec := "fnField", named := ["loop.example/g00405/impl.highRests"], apart := false, laid := [("loop.example/g00405/impl.highRests", laid_loop_example_g00405_impl_highRests)] }
def FnFieldSaid : Prop := fnFieldRow.holds Tryd.pinned (OpenSpec.ofChange fnFieldSpec)

/-- ITS FALSE NEIGHBOUR: 'it returns false'. Refute it at one input. -/
def fnFieldWrong : ChangeSpec := { name := "fnField", vars := ["loop.example/g00405/impl.highRests"], fn := fun _ => fun
  | [d1, d2, g1] => { results := [.lit (.bool false)], args := [d1, d2], vars := [g1] }
  | _ => none }
def FnFieldWrongFalsely : Prop := fnFieldRow.holds Tryd.pinned (OpenSpec.ofChange fnFieldWrong)

/-- 'laws.FnPolys': WHATEVER THE INPUT: true; the input reads as it did. -/
def fnPolysSpec : ChangeSpec := { name := "fnPolys", vars := ["loop.example/g00405/impl.highRests"], fn := fun _ => fun
  | [d1, d2, g1] => { results := [.lit (.bool true)], args := [d1, d2], vars := [g1] }
  | _ => none }
def fnPolysRow : OpenClaim := { program := "ytghehmoabioobaadoor", sum := "ff528b1ae05ad48f66f53df547bd792ddde8013ecd18f1e62008d4726db23bd9", func := "loop.example/g00405/laws.FnPolys", spec := "fnPolys", named := ["loop.example/g00405/impl.highRests"], apart := false, laid := [("loop.example/g00405/impl.highRests", laid_loop_example_g00405_impl_highRests)] }
def FnPolysSaid : Prop := fnPolysRow.holds Tryd.pinned (OpenSpec.ofChange fnPolysSpec)

/-- ITS FALSE NEIGHBOUR: 'it returns false'. Refute it at one input. -/
def fnPolysWrong : ChangeSpec := { name := "fnPolys", vars := ["loop.example/g00405/impl.highRests"], fn := fun _ => fun
  | [d1, d2, g1] => { results := [.lit (.bool false)], args := [d1, d2], vars := [g1] }
  | _ => none }
def FnPolysWrongFalsely : Prop := fnPolysRow.holds Tryd.pinned (OpenSpec.ofChange fnPolysWrong)

/-- 'laws.FnExactMulGf': WHATEVER THE INPUT: true; the input reads as it did. -/
def fnExactMulGfSpec : ChangeSpec := { name := "fnExactMulGf", vars := ["loop.example/g00405/impl.highRests"], fn := fun _ => fun
  | [d1, d2, g1] => { results := [.lit (.bool true)], args := [d1, d2], vars := [g1] }
  | _ => none }
def fnExactMulGfRow : OpenClaim := { program := "ytghehmoabioobaadoor", sum := "ff528b1ae05ad48f66f53df547bd792ddde8013ecd18f1e62008d4726db23bd9", func := "loop.example/g00405/laws.FnExactMulGf", spec := "fnExactMulGf", named := ["loop.example/g00405/impl.highRests"], apart := false, laid := [("loop.example/g00405/impl.highRests", laid_loop_example_g00405_impl_highRests)] }
def FnExactMulGfSaid : Prop := fnExactMulGfRow.holds Tryd.pinned (OpenSpec.ofChange fnExactMulGfSpec)

/-- ITS FALSE NEIGHBOUR: 'it returns false'. Refute it at one input. -/
def fnExactMulGfWrong : ChangeSpec := { name := "fnExactMulGf", vars := ["loop.example/g00405/impl.highRests"], fn := fun _ => fun
  | [d1, d2, g1] => { results := [.lit (.bool false)], args := [d1, d2], vars := [g1] }
  | _ => none }
def FnExactMulGfWrongFalsely : Prop := fnExactMulGfRow.holds Tryd.pinned (OpenSpec.ofChange fnExactMulGfWrong)

/-- 'laws.FnExactDivGf': WHATEVER THE INPUT: true; the input reads as it did. -/
def fnExactDivGfSpec : ChangeSpec := { name := "fnExactDivGf", vars := ["loop.example/g00405/impl.highRests"], fn := fun _ => fun
  | [d1, d2, g1] => { results := [.lit (.bool true)], args := [d1, d2], vars := [g1] }
  | _ => none }
def fnExactDivGfRow : OpenClaim := { program := "ytghehmoabioobaadoor", sum := "ff528b1ae05ad48f66f53df547bd792ddde8013ecd18f1e62008d4726db23bd9", func := "loop.example/g00405/laws.FnExactDivGf", spec := "fnExactDivGf", named := ["loop.example/g00405/impl.highRests"], apart := false, laid := [("loop.example/g00405/impl.highRests", laid_loop_example_g00405_impl_highRests)] }
def FnExactDivGfSaid : Prop := fnExactDivGfRow.holds Tryd.pinned (OpenSpec.ofChange fnExactDivGfSpec)

/-- ITS FALSE NEIGHBOUR: 'it returns false'. Refute it at one input. -/
def fnExactDivGfWrong : ChangeSpec := { name := "fnExactDivGf", vars := ["loop.example/g00405/impl.highRests"], fn := fun _ => fun
  | [d1, d2, g1] => { results := [.lit (.bool false)], args := [d1, d2], vars := [g1] }
  | _ => none }
def FnExactDivGfWrongFalsely : Prop := fnExactDivGfRow.holds Tryd.pinned (OpenSpec.ofChange fnExactDivGfWrong)

/-- 'laws.FnExactPowGf': WHATEVER THE INPUT: true; the input reads as it did. -/
def fnExactPowGfSpec : ChangeSpec := { name := "fnExactPowGf", vars := ["loop.example/g00405/impl.highRests"], fn := fun _ => fun
  | [d1, d2, g1] => { results := [.lit (.bool true)], args := [d1, d2], vars := [g1] }
  | _ => none }
def fnExactPowGfRow : OpenClaim := { program := "ytghehmoabioobaadoor", sum := "ff528b1ae05ad48f66f53df547bd792ddde8013ecd18f1e62008d4726db23bd9", func := "loop.example/g00405/laws.FnExactPowGf", spec := "fnExactPowGf", named := ["loop.example/g00405/impl.highRests"], apart := false, laid := [("loop.example/g00405/impl.highRests", laid_loop_example_g00405_impl_highRests)] }
def FnExactPowGfSaid : Prop := fnExactPowGfRow.holds Tryd.pinned (OpenSpec.ofChange fnExactPowGfSpec)

/-- ITS FALSE NEIGHBOUR: 'it returns false'. Refute it at one input. -/
def fnExactPowGfWrong : ChangeSpec := { name := "fnExactPowGf", vars := ["loop.example/g00405/impl.highRests"], fn := fun _ => fun
  | [d1, d2, g1] => { results := [.lit (.bool false)], args := [d1, d2], vars := [g1] }
  | _ => none }
def FnExactPowGfWrongFalsely : Prop := fnExactPowGfRow.holds Tryd.pinned (OpenSpec.ofChange fnExactPowGfWrong)

/-- 'laws.FnExactExpTable': WHATEVER THE INPUT: true; the input reads as it did. -/
def fnExactExpTableSpec : ChangeSpec := { name := "fnExactExpTable", vars := ["loop.example/g00405/impl.highRests"], fn := fun _ => fun
  | [g1] => { results := [.lit (.bool true)], args := [], vars := [g1] }
  | _ => none }
def fnExactExpTableRow : OpenClaim := { program := "ytghehmoabioobaadoor", sum := "ff528b1ae05ad48f66f53df547bd792ddde8013ecd18f1e62008d4726db23bd9", func := "loop.example/g00405/laws.FnExactExpTable", spec := "fnExactExpTable", named := ["loop.example/g00405/impl.highRests"], apart := false, laid := [("loop.example/g00405/impl.highRests", laid_loop_example_g00405_impl_highRests)] }
def FnExactExpTableSaid : Prop := fnExactExpTableRow.holds Tryd.pinned (OpenSpec.ofChange fnExactExpTableSpec)

/-- ITS FALSE NEIGHBOUR: 'it returns false'. Refute it at one input. -/
def fnExactExpTableWrong : ChangeSpec := { name := "fnExactExpTable", vars := ["loop.example/g00405/impl.highRests"], fn := fun _ => fun
  | [g1] => { results := [.lit (.bool false)], args := [], vars := [g1] }
  | _ => none }
def FnExactExpTableWrongFalsely : Prop := fnExactExpTableRow.holds Tryd.pinned (OpenSpec.ofChange fnExactExpTableWrong)

/-- 'laws.FnExactLogTable': WHATEVER THE INPUT: true; the input reads as it did. -/
def fnExactLogTableSpec : ChangeSpec := { name := "fnExactLogTable", vars := ["loop.example/g00405/impl.highRests"], fn := fun _ => fun
  | [g1] => { results := [.lit (.bool true)], args := [], vars := [g1] }
  | _ => none }
def fnExactLogTableRow : OpenClaim := { program := "ytghehmoabioobaadoor", sum := "ff528b1ae05ad48f66f53df547bd792ddde8013ecd18f1e62008d4726db23bd9", func := "loop.example/g00405/laws.FnExactLogTable", spec := "fnExactLogTable", named := ["loop.example/g00405/impl.highRests"], apart := false, laid := [("loop.example/g00405/impl.highRests", laid_loop_example_g00405_impl_highRests)] }
def FnExactLogTableSaid : Prop := fnExactLogTableRow.holds Tryd.pinned (OpenSpec.ofChange fnExactLogTableSpec)

/-- ITS FALSE NEIGHBOUR: 'it returns false'. Refute it at one input. -/
def fnExactLogTableWrong : ChangeSpec := { name := "fnExactLogTable", vars := ["loop.example/g00405/impl.highRests"], fn := fun _ => fun
  | [g1] => { results := [.lit (.bool false)], args := [], vars := [g1] }
  | _ => none }
def FnExactLogTableWrongFalsely : Prop := fnExactLogTableRow.holds Tryd.pinned (OpenSpec.ofChange fnExactLogTableWrong)

/-- 'laws.FnExactOrderGf': WHATEVER THE INPUT: true; the input reads as it did. -/
def fnExactOrderGfSpec : ChangeSpec := { name := "fnExactOrderGf", vars := ["loop.example/g00405/impl.highRests"], fn := fun _ => fun
  | [d, g1] => { results := [.lit (.bool true)], args := [d], vars := [g1] }
  | _ => none }
def fnExactOrderGfRow : OpenClaim := { program := "ytghehmoabioobaadoor", sum := "ff528b1ae05ad48f66f53df547bd792ddde8013ecd18f1e62008d4726db23bd9", func := "loop.example/g00405/laws.FnExactOrderGf", spec := "fnExactOrderGf", named := ["loop.example/g00405/impl.highRests"], apart := false, laid := [("loop.example/g00405/impl.highRests", laid_loop_example_g00405_impl_highRests)] }
def FnExactOrderGfSaid : Prop := fnExactOrderGfRow.holds Tryd.pinned (OpenSpec.ofChange fnExactOrderGfSpec)

/-- ITS FALSE NEIGHBOUR: 'it returns false'. Refute it at one input. -/
def fnExactOrderGfWrong : ChangeSpec := { name := "fnExactOrderGf", vars := ["loop.example/g00405/impl.highRests"], fn := fun _ => fun
  | [d, g1] => { results := [.lit (.bool false)], args := [d], vars := [g1] }
  | _ => none }
def FnExactOrderGfWrongFalsely : Prop := fnExactOrderGfRow.holds Tryd.pinned (OpenSpec.ofChange fnExactOrderGfWrong)

/-- 'laws.FnExactEvalGf': WHATEVER THE INPUT: true; the input reads as it did. -/
def fnExactEvalGfSpec : ChangeSpec := { name := "fnExactEvalGf", vars := ["loop.example/g00405/impl.highRests"], fn := fun _ => fun
  | [d1, d2, g1] => { results := [.lit (.bool true)], args := [d1, d2], vars := [g1] }
  | _ => none }
def fnExactEvalGfRow : OpenClaim := { program := "ytghehmoabioobaadoor", sum := "ff528b1ae05ad48f66f53df547bd792ddde8013ecd18f1e62008d4726db23bd9", func := "loop.example/g00405/laws.FnExactEvalGf", spec := "fnExactEvalGf", named := ["loop.example/g00405/impl.highRests"], apart := false, laid := [("loop.example/g00405/impl.highRests", laid_loop_example_g00405_impl_highRests)] }
def FnExactEvalGfSaid : Prop := fnExactEvalGfRow.holds Tryd.pinned (OpenSpec.ofChange fnExactEvalGfSpec)

/-- ITS FALSE NEIGHBOUR: 'it returns false'. Refute it at one input. -/
def fnExactEvalGfWrong : ChangeSpec := { name := "fnExactEvalGf", vars := ["loop.example/g00405/impl.highRests"], fn := fun _ => fun
  | [d1, d2, g1] => { results := [.lit (.bool false)], args := [d1, d2], vars := [g1] }
  | _ => none }
def FnExactEvalGfWrongFalsely : Prop := fnExactEvalGfRow.holds Tryd.pinned (OpenSpec.ofChange fnExactEvalGfWrong)

/-- 'laws.FnExactMulPoly': WHATEVER THE INPUT: true; the input reads as it did. -/
def fnExactMulPolySpec : ChangeSpec := { name := "fnExactMulPoly", vars := ["loop.example/g00405/impl.highRests"], fn := fun _ => fun
  | [d1, d2, g1] => { results := [.lit (.bool true)], args := [d1, d2], vars := [g1] }
  | _ => none }
def fnExactMulPolyRow : OpenClaim := { program := "ytghehmoabioobaadoor", sum := "ff528b1ae05ad48f66f53df547bd792ddde8013ecd18f1e62008d4726db23bd9", func := "loop.example/g00405/laws.FnExactMulPoly", spec := "fnExactMulPoly", named := ["loop.example/g00405/impl.highRests"], apart := false, laid := [("loop.example/g00405/impl.highRests", laid_loop_example_g00405_impl_highRests)] }
def FnExactMulPolySaid : Prop := fnExactMulPolyRow.holds Tryd.pinned (OpenSpec.ofChange fnExactMulPolySpec)

/-- ITS FALSE NEIGHBOUR: 'it returns false'. Refute it at one input. -/
def fnExactMulPolyWrong : ChangeSpec := { name := "fnExactMulPoly", vars := ["loop.example/g00405/impl.highRests"], fn := fun _ => fun
  | [d1, d2, g1] => { results := [.lit (.bool false)], args := [d1, d2], vars := [g1] }
  | _ => none }
def FnExactMulPolyWrongFalsely : Prop := fnExactMulPolyRow.holds Tryd.pinned (OpenSpec.ofChange fnExactMulPolyWrong)

/-- 'laws.FnExactDivPoly': WHATEVER THE INPUT: true; the input reads as it did. -/
def fnExactDivPolySpec : ChangeSpec := { name := "fnExactDivPoly", vars := ["loop.example/g00405/impl.highRests"], fn := fun _ => fun
  | [d1, d2, g1] => { results := [.lit (.bool true)], args := [d1, d2], vars := [g1] }
  | _ => none }
def fnExactDivPolyRow : OpenClaim := { program := "ytghehmoabioobaadoor", sum := "ff528b1ae05ad48f66f53df547bd792ddde8013ecd18f1e62008d4726db23bd9", func := "loop.example/g00405/laws.FnExactDivPoly", spec := "fnExactDivPoly", named := ["loop.example/g00405/impl.highRests"], apart := false, laid := [("loop.example/g00405/impl.highRests", laid_loop_example_g00405_impl_highRests)] }
def FnExactDivPolySaid : Prop := fnExactDivPolyRow.holds Tryd.pinned (OpenSpec.ofChange fnExactDivPolySpec)

/-- ITS FALSE NEIGHBOUR: 'it returns false'. Refute it at one input. -/
def fnExactDivPolyWrong : ChangeSpec := { name := "fnExactDivPoly", vars := ["loop.example/g00405/impl.highRests"], fn := fun _ => fun
  | [d1, d2, g1] => { results := [.lit (.bool false)], args := [d1, d2], vars := [g1] }
  | _ => none }
def FnExactDivPolyWrongFalsely : Prop := fnExactDivPolyRow.holds Tryd.pinned (OpenSpec.ofChange fnExactDivPolyWrong)

/- THE SECOND FORM. 'bulk': how many values and letters a reading holds, each counted each time it is reached (what is shared counts as often as it is met; a slice's spare places count too). A statement '..UptoSaid' is the law's where the arguments, and the package variables that the reading takes, are together of bulk at most 1048576: NARROWER than '..Said'. Prove '..Said' where nothing that the law and all that it calls make is longer than what came in: it says more and counts as full. Else prove '..UptoSaid'. A law counts once. -/
mutual
def uptoBulk {H : Type} : DataW H → Nat
  | .lit (.string bytes) => bytes.length + 1
  | .lit _ => 1
  | .nil => 1
  | .ptr d => uptoBulk d + 1
  | .slice elems spare => uptoBulkAll elems + uptoBulkAll spare + 1
  | .agg parts => uptoBulkAll parts + 1
  | .iface _ d => uptoBulk d + 1
  | .map entries => uptoBulkEntries entries + 1
  | .held _ => 1
def uptoBulkAll {H : Type} : List (DataW H) → Nat
  | [] => 0
  | d :: r => uptoBulk d + uptoBulkAll r
def uptoBulkEntries {H : Type} : List (Lit × DataW H) → Nat
  | [] => 0
  | x :: r => uptoBulkEntry x + uptoBulkEntries r
def uptoBulkEntry {H : Type} : Lit × DataW H → Nat
  | (.string bytes, d) => bytes.length + uptoBulk d + 1
  | (_, d) => uptoBulk d + 1
 end
def uptoSmall : (H : Type) → List (DataW H) → Bool := fun _ ds => decide (uptoBulkAll ds ≤ 1048576)
def OpenSpec.upto (s : _root_.Go.ChangeSpec) : _root_.Go.OpenSpec := { _root_.Go.OpenSpec.ofChange s with cond := some uptoSmall }

/-- 'laws.FnField', WHERE WHAT IT READS IS OF BULK AT MOST 1048576: true; the input reads as it did. -/
def fnFieldUptoRow : OpenClaim := { program := "ytghehmoabioobaadoor", sum := "ff528b1ae05ad48f66f53df547bd792ddde8013ecd18f1e62008d4726db23bd9", func := "loop.example/g00405/laws.FnField", spec := "fnField", named := ["loop.example/g00405/impl.highRests"], apart := false, laid := [("loop.example/g00405/impl.highRests", laid_loop_example_g00405_impl_highRests)], narrowed := true }
def FnFieldUptoSaid : Prop := fnFieldUptoRow.holds Tryd.pinned (OpenSpec.upto fnFieldSpec)

/-- 'laws.FnPolys', WHERE WHAT IT READS IS OF BULK AT MOST 1048576: true; the input reads as it did. -/
def fnPolysUptoRow : OpenClaim := { program := "ytghehmoabioobaadoor", sum := "ff528b1ae05ad48f66f53df547bd792ddde8013ecd18f1e62008d4726db23bd9", func := "loop.example/g00405/laws.FnPolys", spec := "fnPolys", named := ["loop.example/g00405/impl.highRests"], apart := false, laid := [("loop.example/g00405/impl.highRests", laid_loop_example_g00405_impl_highRests)], narrowed := true }
def FnPolysUptoSaid : Prop := fnPolysUptoRow.holds Tryd.pinned (OpenSpec.upto fnPolysSpec)

/-- 'laws.FnExactMulGf', WHERE WHAT IT READS IS OF BULK AT MOST 1048576: true; the input reads as it did. -/
def fnExactMulGfUptoRow : OpenClaim := { program := "ytghehmoabioobaadoor", sum := "ff528b1ae05ad48f66f53df547bd792ddde8013ecd18f1e62008d4726db23bd9", func := "loop.example/g00405/laws.FnExactMulGf", spec := "fnExactMulGf", named := ["loop.example/g00405/impl.highRests"], apart := false, laid := [("loop.example/g00405/impl.highRests", laid_loop_example_g00405_impl_highRests)], narrowed := true }
def FnExactMulGfUptoSaid : Prop := fnExactMulGfUptoRow.holds Tryd.pinned (OpenSpec.upto fnExactMulGfSpec)

/-- 'laws.FnExactDivGf', WHERE WHAT IT READS IS OF BULK AT MOST 1048576: true; the input reads as it did. -/
def fnExactDivGfUptoRow : OpenClaim := { program := "ytghehmoabioobaadoor", sum := "ff528b1ae05ad48f66f53df547bd792ddde8013ecd18f1e62008d4726db23bd9", func := "loop.example/g00405/laws.FnExactDivGf", spec := "fnExactDivGf", named := ["loop.example/g00405/impl.highRests"], apart := false, laid := [("loop.example/g00405/impl.highRests", laid_loop_example_g00405_impl_highRests)], narrowed := true }
def FnExactDivGfUptoSaid : Prop := fnExactDivGfUptoRow.holds Tryd.pinned (OpenSpec.upto fnExactDivGfSpec)

/-- 'laws.FnExactPowGf', WHERE WHAT IT READS IS OF BULK AT MOST 1048576: true; the input reads as it did. -/
def fnExactPowGfUptoRow : OpenClaim := { program := "ytghehmoabioobaadoor", sum := "ff528b1ae05ad48f66f53df547bd792ddde8013ecd18f1e62008d4726db23bd9", func := "loop.example/g00405/laws.FnExactPowGf", spec := "fnExactPowGf", named := ["loop.example/g00405/impl.highRests"], apart := false, laid := [("loop.example/g00405/impl.highRests", laid_loop_example_g00405_impl_highRests)], narrowed := true }
def FnExactPowGfUptoSaid : Prop := fnExactPowGfUptoRow.holds Tryd.pinned (OpenSpec.upto fnExactPowGfSpec)

/-- 'laws.FnExactExpTable', WHERE WHAT IT READS IS OF BULK AT MOST 1048576: true; the input reads as it did. -/
def fnExactExpTableUptoRow : OpenClaim := { program := "ytghehmoabioobaadoor", sum := "ff528b1ae05ad48f66f53df547bd792ddde8013ecd18f1e62008d4726db23bd9", func := "loop.example/g00405/laws.FnExactExpTable", spec := "fnExactExpTable", named := ["loop.example/g00405/impl.highRests"], apart := false, laid := [("loop.example/g00405/impl.highRests", laid_loop_example_g00405_impl_highRests)], narrowed := true }
def FnExactExpTableUptoSaid : Prop := fnExactExpTableUptoRow.holds Tryd.pinned (OpenSpec.upto fnExactExpTableSpec)

/-- 'laws.FnExactLogTable', WHERE WHAT IT READS IS OF BULK AT MOST 1048576: true; the input reads as it did. -/
def fnExactLogTableUptoRow : OpenClaim := { program := "ytghehmoabioobaadoor", sum := "ff528b1ae05ad48f66f53df547bd792ddde8013ecd18f1e62008d4726db23bd9", func := "loop.example/g00405/laws.FnExactLogTable", spec := "fnExactLogTable", named := ["loop.example/g00405/impl.highRests"], apart := false, laid := [("loop.example/g00405/impl.highRests", laid_loop_example_g00405_impl_highRests)], narrowed := true }
def FnExactLogTableUptoSaid : Prop := fnExactLogTableUptoRow.holds Tryd.pinned (OpenSpec.upto fnExactLogTableSpec)

/-- 'laws.FnExactOrderGf', WHERE WHAT IT READS IS OF BULK AT MOST 1048576: true; the input reads as it did. -/
def fnExactOrderGfUptoRow : OpenClaim := { program := "ytghehmoabioobaadoor", sum := "ff528b1ae05ad48f66f53df547bd792ddde8013ecd18f1e62008d4726db23bd9", func := "loop.example/g00405/laws.FnExactOrderGf", spec := "fnExactOrderGf", named := ["loop.example/g00405/impl.highRests"], apart := false, laid := [("loop.example/g00405/impl.highRests", laid_loop_example_g00405_impl_highRests)], narrowed := true }
def FnExactOrderGfUptoSaid : Prop := fnExactOrderGfUptoRow.holds Tryd.pinned (OpenSpec.upto fnExactOrderGfSpec)

/-- 'laws.FnExactEvalGf', WHERE WHAT IT READS IS OF BULK AT MOST 1048576: true; the input reads as it did. -/
def fnExactEvalGfUptoRow : OpenClaim := { program := "ytghehmoabioobaadoor", sum := "ff528b1ae05ad48f66f53df547bd792ddde8013ecd18f1e62008d4726db23bd9", func := "loop.example/g00405/laws.FnExactEvalGf", spec := "fnExactEvalGf", named := ["loop.example/g00405/impl.highRests"], apart := false, laid := [("loop.example/g00405/impl.highRests", laid_loop_example_g00405_impl_highRests)], narrowed := true }
def FnExactEvalGfUptoSaid : Prop := fnExactEvalGfUptoRow.holds Tryd.pinned (OpenSpec.upto fnExactEvalGfSpec)

/-- 'laws.FnExactMulPoly', WHERE WHAT IT READS IS OF BULK AT MOST 1048576: true; the input reads as it did. -/
def fnExactMulPolyUptoRow : OpenClaim := { program := "ytghehmoabioobaadoor", sum := "ff528b1ae05ad48f66f53df547bd792ddde8013ecd18f1e62008d4726db23bd9", func := "loop.example/g00405/laws.FnExactMulPoly", spec := "fnExactMulPoly", named := ["loop.example/g00405/impl.highRests"], apart := false, laid := [("loop.example/g00405/impl.highRests", laid_loop_example_g00405_impl_highRests)], narrowed := true }
def FnExactMulPolyUptoSaid : Prop := fnExactMulPolyUptoRow.holds Tryd.pinned (OpenSpec.upto fnExactMulPolySpec)

/-- 'laws.FnExactDivPoly', WHERE WHAT IT READS IS OF BULK AT MOST 1048576: true; the input reads as it did. -/
def fnExactDivPolyUptoRow : OpenClaim := { program := "ytghehmoabioobaadoor", sum := "ff528b1ae05ad48f66f53df547bd792ddde8013ecd18f1e62008d4726db23bd9", func := "loop.example/g00405/laws.FnExactDivPoly", spec := "fnExactDivPoly", named := ["loop.example/g00405/impl.highRests"], apart := false, laid := [("loop.example/g00405/impl.highRests", laid_loop_example_g00405_impl_highRests)], narrowed := true }
def FnExactDivPolyUptoSaid : Prop := fnExactDivPolyUptoRow.holds Tryd.pinned (OpenSpec.upto fnExactDivPolySpec)

end Rows
end Go.Proofs.YtghehmoabioobaaDoor
