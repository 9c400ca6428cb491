/-
  NARROWER THAN 'FOR EVERY INPUT', by the rows' own cells (each row's printed sentence says how): FnPolys: laid · FnCauchy: laid · FnErasure: laid · FnPieces: laid · FnExactEvalGf: laid · FnExactMulPoly: laid · FnExactDivPoly: laid · FnExactInvertMatrix: laid · FnExactCauchyMatrix: laid · FnExactSolveBy: laid · FnExactCodeMatrix: laid · FnExactEncodePieces: laid · FnExactDecodePieces: laid · FnExactCheckPieces: laid · FnExactUpdatePiece: laid · FnExactMulMatrix: laid.
  DERIVED. THE GIVEN ROWS OF THIS SEAT. 16 by the template 'for every input the law returns true; each argument reads behind the call as it read before'; 0 by the template 'total and deterministic' (their statements: YtoipcoidcaijjaaDoorTotals.lean).
  GIVEN WITH THE SEED: the statements are not yours to turn. If you find one false, say at which input.
  Laid BY PROGRAM, IN A SANDBOX (cutbox-rows.mjs): the forced cells as the released guide's own fill.sh prints them over the translation 3ff6d12707a4b39b… (all of the seat's roots in one cut). By AI agents, Wed Nov 11 2026. No macro, syntax, notation, axiom, sorry.
-/
import Derived.Test.YtoipcoidcaijjaaDoorChecked
import GoSem.Claim
import GoSem.ClaimJoined
import GoSem.ClaimMapViews
import Derived.JoinedTies
import Derived.KernelRfl
namespace Go.Proofs.YtoipcoidcaijjaaDoor
/- THE CELL 'sum', in the pinned program and in every row, IS THE sha256 OF THE DUMP (.gsa) THAT YtoipcoidcaijjaaDoorProg.lean LOADS. Nothing in Lean hashes anything: it is a label: what it is worth is what the hold of that sum in a sandbox is worth. -/
noncomputable def Tryd.pinned : Pinned := { name := "ytoipcoidcaijjaadoor", sum := "3ff6d12707a4b39b72bd30dd9da2b2c5cdc28500bc9befb8eaf2e02c3576ceee", checked := Tryd.checked }
namespace Rows
def none {H : Type} : Left H := { results := [], args := [] }

/- WHAT THE LISTED PACKAGE-LEVEL VARIABLES READ AS WHEN THE CALL BEGINS. Each datum BY PROGRAM (the guide's laid-datum.mjs) off the statement by which the dump's own 'gosem.cut.vars' lays the variable. In a bare row this is a premise. The card (YtoipcoidcaijjaaDoorCards.lean) ties it to the program's text. -/
def laid_loop_example_g00405_impl_highRests {H : Type} : DataW H := .agg [.lit (.int .i64 29), .lit (.int .i64 58), .lit (.int .i64 116), .lit (.int .i64 232), .lit (.int .i64 205), .lit (.int .i64 135), .lit (.int .i64 19)]

/-- 'laws.FnPolys': WHATEVER THE INPUT: true; the input reads as it did. -/
def fnPolysSpec : ChangeSpec := { name := "fnPolys", vars := ["loop.example/g00405/impl.highRests"], fn := fun _ => fun
  | [d1, d2, g1] => { results := [.lit (.bool true)], args := [d1, d2], vars := [g1] }
  | _ => none }
def fnPolysRow : OpenClaim := { program := "ytoipcoidcaijjaadoor", sum := "3ff6d12707a4b39b72bd30dd9da2b2c5cdc28500bc9befb8eaf2e02c3576ceee", func := "loop.example/g00405/laws.FnPolys", spec := "fnPolys", named := ["loop.example/g00405/impl.highRests"], apart := false, laid := [("loop.example/g00405/impl.highRests", laid_loop_example_g00405_impl_highRests)] }
def FnPolysSaid : Prop := fnPolysRow.holds Tryd.pinned (OpenSpec.ofChange fnPolysSpec)

/-- ITS FALSE NEIGHBOUR: 'it returns false'. Refute it at one input. -/
def fnPolysWrong : ChangeSpec := { name := "fnPolys", vars := ["loop.example/g00405/impl.highRests"], fn := fun _ => fun
  | [d1, d2, g1] => { results := [.lit (.bool false)], args := [d1, d2], vars := [g1] }
  | _ => none }
def FnPolysWrongFalsely : Prop := fnPolysRow.holds Tryd.pinned (OpenSpec.ofChange fnPolysWrong)

/-- 'laws.FnCauchy': WHATEVER THE INPUT: true; the input reads as it did. -/
def fnCauchySpec : ChangeSpec := { name := "fnCauchy", vars := ["loop.example/g00405/impl.highRests"], fn := fun _ => fun
  | [d1, d2, g1] => { results := [.lit (.bool true)], args := [d1, d2], vars := [g1] }
  | _ => none }
def fnCauchyRow : OpenClaim := { program := "ytoipcoidcaijjaadoor", sum := "3ff6d12707a4b39b72bd30dd9da2b2c5cdc28500bc9befb8eaf2e02c3576ceee", func := "loop.example/g00405/laws.FnCauchy", spec := "fnCauchy", unfollowed := true, recurses := true, named := ["loop.example/g00405/impl.highRests"], apart := false, laid := [("loop.example/g00405/impl.highRests", laid_loop_example_g00405_impl_highRests)] }
def FnCauchySaid : Prop := fnCauchyRow.holds Tryd.pinned (OpenSpec.ofChange fnCauchySpec)

/-- ITS FALSE NEIGHBOUR: 'it returns false'. Refute it at one input. -/
def fnCauchyWrong : ChangeSpec := { name := "fnCauchy", vars := ["loop.example/g00405/impl.highRests"], fn := fun _ => fun
  | [d1, d2, g1] => { results := [.lit (.bool false)], args := [d1, d2], vars := [g1] }
  | _ => none }
def FnCauchyWrongFalsely : Prop := fnCauchyRow.holds Tryd.pinned (OpenSpec.ofChange fnCauchyWrong)

/-- 'laws.FnErasure': WHATEVER THE INPUT: true; the input reads as it did. -/
def fnErasureSpec : ChangeSpec := { name := "fnErasure", vars := ["loop.example/g00405/impl.highRests"], fn := fun _ => fun
  | [d1, d2, g1] => { results := [.lit (.bool true)], args := [d1, d2], vars := [g1] }
  | _ => none }
def fnErasureRow : OpenClaim := { program := "ytoipcoidcaijjaadoor", sum := "3ff6d12707a4b39b72bd30dd9da2b2c5cdc28500bc9befb8eaf2e02c3576ceee", func := "loop.example/g00405/laws.FnErasure", spec := "fnErasure", unfollowed := true, recurses := true, named := ["loop.example/g00405/impl.highRests"], apart := false, laid := [("loop.example/g00405/impl.highRests", laid_loop_example_g00405_impl_highRests)] }
def FnErasureSaid : Prop := fnErasureRow.holds Tryd.pinned (OpenSpec.ofChange fnErasureSpec)

/-- ITS FALSE NEIGHBOUR: 'it returns false'. Refute it at one input. -/
def fnErasureWrong : ChangeSpec := { name := "fnErasure", vars := ["loop.example/g00405/impl.highRests"], fn := fun _ => fun
  | [d1, d2, g1] => { results := [.lit (.bool false)], args := [d1, d2], vars := [g1] }
  | _ => none }
def FnErasureWrongFalsely : Prop := fnErasureRow.holds Tryd.pinned (OpenSpec.ofChange fnErasureWrong)

/-- 'laws.FnPieces': WHATEVER THE INPUT: true; the input reads as it did. -/
def fnPiecesSpec : ChangeSpec := { name := "fnPieces", vars := ["loop.example/g00405/impl.highRests"], fn := fun _ => fun
  | [d1, d2, g1] => { results := [.lit (.bool true)], args := [d1, d2], vars := [g1] }
  | _ => none }
def fnPiecesRow : OpenClaim := { program := "ytoipcoidcaijjaadoor", sum := "3ff6d12707a4b39b72bd30dd9da2b2c5cdc28500bc9befb8eaf2e02c3576ceee", func := "loop.example/g00405/laws.FnPieces", spec := "fnPieces", unfollowed := true, recurses := true, named := ["loop.example/g00405/impl.highRests"], apart := false, laid := [("loop.example/g00405/impl.highRests", laid_loop_example_g00405_impl_highRests)] }
def FnPiecesSaid : Prop := fnPiecesRow.holds Tryd.pinned (OpenSpec.ofChange fnPiecesSpec)

/-- ITS FALSE NEIGHBOUR: 'it returns false'. Refute it at one input. -/
def fnPiecesWrong : ChangeSpec := { name := "fnPieces", vars := ["loop.example/g00405/impl.highRests"], fn := fun _ => fun
  | [d1, d2, g1] => { results := [.lit (.bool false)], args := [d1, d2], vars := [g1] }
  | _ => none }
def FnPiecesWrongFalsely : Prop := fnPiecesRow.holds Tryd.pinned (OpenSpec.ofChange fnPiecesWrong)

/-- 'laws.FnExactEvalGf': WHATEVER THE INPUT: true; the input reads as it did. -/
def fnExactEvalGfSpec : ChangeSpec := { name := "fnExactEvalGf", vars := ["loop.example/g00405/impl.highRests"], fn := fun _ => fun
  | [d1, d2, g1] => { results := [.lit (.bool true)], args := [d1, d2], vars := [g1] }
  | _ => none }
def fnExactEvalGfRow : OpenClaim := { program := "ytoipcoidcaijjaadoor", sum := "3ff6d12707a4b39b72bd30dd9da2b2c5cdc28500bc9befb8eaf2e02c3576ceee", func := "loop.example/g00405/laws.FnExactEvalGf", spec := "fnExactEvalGf", named := ["loop.example/g00405/impl.highRests"], apart := false, laid := [("loop.example/g00405/impl.highRests", laid_loop_example_g00405_impl_highRests)] }
def FnExactEvalGfSaid : Prop := fnExactEvalGfRow.holds Tryd.pinned (OpenSpec.ofChange fnExactEvalGfSpec)

/-- ITS FALSE NEIGHBOUR: 'it returns false'. Refute it at one input. -/
def fnExactEvalGfWrong : ChangeSpec := { name := "fnExactEvalGf", vars := ["loop.example/g00405/impl.highRests"], fn := fun _ => fun
  | [d1, d2, g1] => { results := [.lit (.bool false)], args := [d1, d2], vars := [g1] }
  | _ => none }
def FnExactEvalGfWrongFalsely : Prop := fnExactEvalGfRow.holds Tryd.pinned (OpenSpec.ofChange fnExactEvalGfWrong)

/-- 'laws.FnExactMulPoly': WHATEVER THE INPUT: true; the input reads as it did. -/
def fnExactMulPolySpec : ChangeSpec := { name := "fnExactMulPoly", vars := ["loop.example/g00405/impl.highRests"], fn := fun _ => fun
  | [d1, d2, g1] => { results := [.lit (.bool true)], args := [d1, d2], vars := [g1] }
  | _ => none }
def fnExactMulPolyRow : OpenClaim := { program := "ytoipcoidcaijjaadoor", sum := "3ff6d12707a4b39b72bd30dd9da2b2c5cdc28500bc9befb8eaf2e02c3576ceee", func := "loop.example/g00405/laws.FnExactMulPoly", spec := "fnExactMulPoly", named := ["loop.example/g00405/impl.highRests"], apart := false, laid := [("loop.example/g00405/impl.highRests", laid_loop_example_g00405_impl_highRests)] }
def FnExactMulPolySaid : Prop := fnExactMulPolyRow.holds Tryd.pinned (OpenSpec.ofChange fnExactMulPolySpec)

/-- ITS FALSE NEIGHBOUR: 'it returns false'. Refute it at one input. -/
def fnExactMulPolyWrong : ChangeSpec := { name := "fnExactMulPoly", vars := ["loop.example/g00405/impl.highRests"], fn := fun _ => fun
  | [d1, d2, g1] => { results := [.lit (.bool false)], args := [d1, d2], vars := [g1] }
  | _ => none }
def FnExactMulPolyWrongFalsely : Prop := fnExactMulPolyRow.holds Tryd.pinned (OpenSpec.ofChange fnExactMulPolyWrong)

/-- 'laws.FnExactDivPoly': WHATEVER THE INPUT: true; the input reads as it did. -/
def fnExactDivPolySpec : ChangeSpec := { name := "fnExactDivPoly", vars := ["loop.example/g00405/impl.highRests"], fn := fun _ => fun
  | [d1, d2, g1] => { results := [.lit (.bool true)], args := [d1, d2], vars := [g1] }
  | _ => none }
def fnExactDivPolyRow : OpenClaim := { program := "ytoipcoidcaijjaadoor", sum := "3ff6d12707a4b39b72bd30dd9da2b2c5cdc28500bc9befb8eaf2e02c3576ceee", func := "loop.example/g00405/laws.FnExactDivPoly", spec := "fnExactDivPoly", named := ["loop.example/g00405/impl.highRests"], apart := false, laid := [("loop.example/g00405/impl.highRests", laid_loop_example_g00405_impl_highRests)] }
def FnExactDivPolySaid : Prop := fnExactDivPolyRow.holds Tryd.pinned (OpenSpec.ofChange fnExactDivPolySpec)

/-- ITS FALSE NEIGHBOUR: 'it returns false'. Refute it at one input. -/
def fnExactDivPolyWrong : ChangeSpec := { name := "fnExactDivPoly", vars := ["loop.example/g00405/impl.highRests"], fn := fun _ => fun
  | [d1, d2, g1] => { results := [.lit (.bool false)], args := [d1, d2], vars := [g1] }
  | _ => none }
def FnExactDivPolyWrongFalsely : Prop := fnExactDivPolyRow.holds Tryd.pinned (OpenSpec.ofChange fnExactDivPolyWrong)

/-- 'laws.FnExactInvertMatrix': WHATEVER THE INPUT: true; the input reads as it did. -/
def fnExactInvertMatrixSpec : ChangeSpec := { name := "fnExactInvertMatrix", vars := ["loop.example/g00405/impl.highRests"], fn := fun _ => fun
  | [d, g1] => { results := [.lit (.bool true)], args := [d], vars := [g1] }
  | _ => none }
def fnExactInvertMatrixRow : OpenClaim := { program := "ytoipcoidcaijjaadoor", sum := "3ff6d12707a4b39b72bd30dd9da2b2c5cdc28500bc9befb8eaf2e02c3576ceee", func := "loop.example/g00405/laws.FnExactInvertMatrix", spec := "fnExactInvertMatrix", unfollowed := true, recurses := true, named := ["loop.example/g00405/impl.highRests"], apart := false, laid := [("loop.example/g00405/impl.highRests", laid_loop_example_g00405_impl_highRests)] }
def FnExactInvertMatrixSaid : Prop := fnExactInvertMatrixRow.holds Tryd.pinned (OpenSpec.ofChange fnExactInvertMatrixSpec)

/-- ITS FALSE NEIGHBOUR: 'it returns false'. Refute it at one input. -/
def fnExactInvertMatrixWrong : ChangeSpec := { name := "fnExactInvertMatrix", vars := ["loop.example/g00405/impl.highRests"], fn := fun _ => fun
  | [d, g1] => { results := [.lit (.bool false)], args := [d], vars := [g1] }
  | _ => none }
def FnExactInvertMatrixWrongFalsely : Prop := fnExactInvertMatrixRow.holds Tryd.pinned (OpenSpec.ofChange fnExactInvertMatrixWrong)

/-- 'laws.FnExactCauchyMatrix': WHATEVER THE INPUT: true; the input reads as it did. -/
def fnExactCauchyMatrixSpec : ChangeSpec := { name := "fnExactCauchyMatrix", vars := ["loop.example/g00405/impl.highRests"], fn := fun _ => fun
  | [d1, d2, g1] => { results := [.lit (.bool true)], args := [d1, d2], vars := [g1] }
  | _ => none }
def fnExactCauchyMatrixRow : OpenClaim := { program := "ytoipcoidcaijjaadoor", sum := "3ff6d12707a4b39b72bd30dd9da2b2c5cdc28500bc9befb8eaf2e02c3576ceee", func := "loop.example/g00405/laws.FnExactCauchyMatrix", spec := "fnExactCauchyMatrix", named := ["loop.example/g00405/impl.highRests"], apart := false, laid := [("loop.example/g00405/impl.highRests", laid_loop_example_g00405_impl_highRests)] }
def FnExactCauchyMatrixSaid : Prop := fnExactCauchyMatrixRow.holds Tryd.pinned (OpenSpec.ofChange fnExactCauchyMatrixSpec)

/-- ITS FALSE NEIGHBOUR: 'it returns false'. Refute it at one input. -/
def fnExactCauchyMatrixWrong : ChangeSpec := { name := "fnExactCauchyMatrix", vars := ["loop.example/g00405/impl.highRests"], fn := fun _ => fun
  | [d1, d2, g1] => { results := [.lit (.bool false)], args := [d1, d2], vars := [g1] }
  | _ => none }
def FnExactCauchyMatrixWrongFalsely : Prop := fnExactCauchyMatrixRow.holds Tryd.pinned (OpenSpec.ofChange fnExactCauchyMatrixWrong)

/-- 'laws.FnExactSolveBy': WHATEVER THE INPUT: true; the input reads as it did. -/
def fnExactSolveBySpec : ChangeSpec := { name := "fnExactSolveBy", vars := ["loop.example/g00405/impl.highRests"], fn := fun _ => fun
  | [d1, d2, g1] => { results := [.lit (.bool true)], args := [d1, d2], vars := [g1] }
  | _ => none }
def fnExactSolveByRow : OpenClaim := { program := "ytoipcoidcaijjaadoor", sum := "3ff6d12707a4b39b72bd30dd9da2b2c5cdc28500bc9befb8eaf2e02c3576ceee", func := "loop.example/g00405/laws.FnExactSolveBy", spec := "fnExactSolveBy", unfollowed := true, recurses := true, named := ["loop.example/g00405/impl.highRests"], apart := false, laid := [("loop.example/g00405/impl.highRests", laid_loop_example_g00405_impl_highRests)] }
def FnExactSolveBySaid : Prop := fnExactSolveByRow.holds Tryd.pinned (OpenSpec.ofChange fnExactSolveBySpec)

/-- ITS FALSE NEIGHBOUR: 'it returns false'. Refute it at one input. -/
def fnExactSolveByWrong : ChangeSpec := { name := "fnExactSolveBy", vars := ["loop.example/g00405/impl.highRests"], fn := fun _ => fun
  | [d1, d2, g1] => { results := [.lit (.bool false)], args := [d1, d2], vars := [g1] }
  | _ => none }
def FnExactSolveByWrongFalsely : Prop := fnExactSolveByRow.holds Tryd.pinned (OpenSpec.ofChange fnExactSolveByWrong)

/-- 'laws.FnExactCodeMatrix': WHATEVER THE INPUT: true; the input reads as it did. -/
def fnExactCodeMatrixSpec : ChangeSpec := { name := "fnExactCodeMatrix", vars := ["loop.example/g00405/impl.highRests"], fn := fun _ => fun
  | [d1, d2, g1] => { results := [.lit (.bool true)], args := [d1, d2], vars := [g1] }
  | _ => none }
def fnExactCodeMatrixRow : OpenClaim := { program := "ytoipcoidcaijjaadoor", sum := "3ff6d12707a4b39b72bd30dd9da2b2c5cdc28500bc9befb8eaf2e02c3576ceee", func := "loop.example/g00405/laws.FnExactCodeMatrix", spec := "fnExactCodeMatrix", named := ["loop.example/g00405/impl.highRests"], apart := false, laid := [("loop.example/g00405/impl.highRests", laid_loop_example_g00405_impl_highRests)] }
def FnExactCodeMatrixSaid : Prop := fnExactCodeMatrixRow.holds Tryd.pinned (OpenSpec.ofChange fnExactCodeMatrixSpec)

/-- ITS FALSE NEIGHBOUR: 'it returns false'. Refute it at one input. -/
def fnExactCodeMatrixWrong : ChangeSpec := { name := "fnExactCodeMatrix", vars := ["loop.example/g00405/impl.highRests"], fn := fun _ => fun
  | [d1, d2, g1] => { results := [.lit (.bool false)], args := [d1, d2], vars := [g1] }
  | _ => none }
def FnExactCodeMatrixWrongFalsely : Prop := fnExactCodeMatrixRow.holds Tryd.pinned (OpenSpec.ofChange fnExactCodeMatrixWrong)

/-- 'laws.FnExactEncodePieces': WHATEVER THE INPUT: true; the input reads as it did. -/
def fnExactEncodePiecesSpec : ChangeSpec := { name := "fnExactEncodePieces", vars := ["loop.example/g00405/impl.highRests"], fn := fun _ => fun
  | [d1, d2, g1] => { results := [.lit (.bool true)], args := [d1, d2], vars := [g1] }
  | _ => none }
def fnExactEncodePiecesRow : OpenClaim := { program := "ytoipcoidcaijjaadoor", sum := "3ff6d12707a4b39b72bd30dd9da2b2c5cdc28500bc9befb8eaf2e02c3576ceee", func := "loop.example/g00405/laws.FnExactEncodePieces", spec := "fnExactEncodePieces", unfollowed := true, recurses := true, named := ["loop.example/g00405/impl.highRests"], apart := false, laid := [("loop.example/g00405/impl.highRests", laid_loop_example_g00405_impl_highRests)] }
def FnExactEncodePiecesSaid : Prop := fnExactEncodePiecesRow.holds Tryd.pinned (OpenSpec.ofChange fnExactEncodePiecesSpec)

/-- ITS FALSE NEIGHBOUR: 'it returns false'. Refute it at one input. -/
def fnExactEncodePiecesWrong : ChangeSpec := { name := "fnExactEncodePieces", vars := ["loop.example/g00405/impl.highRests"], fn := fun _ => fun
  | [d1, d2, g1] => { results := [.lit (.bool false)], args := [d1, d2], vars := [g1] }
  | _ => none }
def FnExactEncodePiecesWrongFalsely : Prop := fnExactEncodePiecesRow.holds Tryd.pinned (OpenSpec.ofChange fnExactEncodePiecesWrong)

/-- 'laws.FnExactDecodePieces': WHATEVER THE INPUT: true; the input reads as it did. -/
def fnExactDecodePiecesSpec : ChangeSpec := { name := "fnExactDecodePieces", vars := ["loop.example/g00405/impl.highRests"], fn := fun _ => fun
  | [d1, d2, d3, d4, g1] => { results := [.lit (.bool true)], args := [d1, d2, d3, d4], vars := [g1] }
  | _ => none }
def fnExactDecodePiecesRow : OpenClaim := { program := "ytoipcoidcaijjaadoor", sum := "3ff6d12707a4b39b72bd30dd9da2b2c5cdc28500bc9befb8eaf2e02c3576ceee", func := "loop.example/g00405/laws.FnExactDecodePieces", spec := "fnExactDecodePieces", unfollowed := true, recurses := true, named := ["loop.example/g00405/impl.highRests"], apart := false, laid := [("loop.example/g00405/impl.highRests", laid_loop_example_g00405_impl_highRests)] }
def FnExactDecodePiecesSaid : Prop := fnExactDecodePiecesRow.holds Tryd.pinned (OpenSpec.ofChange fnExactDecodePiecesSpec)

/-- ITS FALSE NEIGHBOUR: 'it returns false'. Refute it at one input. -/
def fnExactDecodePiecesWrong : ChangeSpec := { name := "fnExactDecodePieces", vars := ["loop.example/g00405/impl.highRests"], fn := fun _ => fun
  | [d1, d2, d3, d4, g1] => { results := [.lit (.bool false)], args := [d1, d2, d3, d4], vars := [g1] }
  | _ => none }
def FnExactDecodePiecesWrongFalsely : Prop := fnExactDecodePiecesRow.holds Tryd.pinned (OpenSpec.ofChange fnExactDecodePiecesWrong)

/-- 'laws.FnExactCheckPieces': WHATEVER THE INPUT: true; the input reads as it did. -/
def fnExactCheckPiecesSpec : ChangeSpec := { name := "fnExactCheckPieces", vars := ["loop.example/g00405/impl.highRests"], fn := fun _ => fun
  | [d1, d2, d3, g1] => { results := [.lit (.bool true)], args := [d1, d2, d3], vars := [g1] }
  | _ => none }
def fnExactCheckPiecesRow : OpenClaim := { program := "ytoipcoidcaijjaadoor", sum := "3ff6d12707a4b39b72bd30dd9da2b2c5cdc28500bc9befb8eaf2e02c3576ceee", func := "loop.example/g00405/laws.FnExactCheckPieces", spec := "fnExactCheckPieces", unfollowed := true, recurses := true, named := ["loop.example/g00405/impl.highRests"], apart := false, laid := [("loop.example/g00405/impl.highRests", laid_loop_example_g00405_impl_highRests)] }
def FnExactCheckPiecesSaid : Prop := fnExactCheckPiecesRow.holds Tryd.pinned (OpenSpec.ofChange fnExactCheckPiecesSpec)

/-- ITS FALSE NEIGHBOUR: 'it returns false'. Refute it at one input. -/
def fnExactCheckPiecesWrong : ChangeSpec := { name := "fnExactCheckPieces", vars := ["loop.example/g00405/impl.highRests"], fn := fun _ => fun
  | [d1, d2, d3, g1] => { results := [.lit (.bool false)], args := [d1, d2, d3], vars := [g1] }
  | _ => none }
def FnExactCheckPiecesWrongFalsely : Prop := fnExactCheckPiecesRow.holds Tryd.pinned (OpenSpec.ofChange fnExactCheckPiecesWrong)

/-- 'laws.FnExactUpdatePiece': WHATEVER THE INPUT: true; the input reads as it did. -/
def fnExactUpdatePieceSpec : ChangeSpec := { name := "fnExactUpdatePiece", vars := ["loop.example/g00405/impl.highRests"], fn := fun _ => fun
  | [d1, d2, d3, d4, d5, g1] => { results := [.lit (.bool true)], args := [d1, d2, d3, d4, d5], vars := [g1] }
  | _ => none }
def fnExactUpdatePieceRow : OpenClaim := { program := "ytoipcoidcaijjaadoor", sum := "3ff6d12707a4b39b72bd30dd9da2b2c5cdc28500bc9befb8eaf2e02c3576ceee", func := "loop.example/g00405/laws.FnExactUpdatePiece", spec := "fnExactUpdatePiece", unfollowed := true, recurses := true, named := ["loop.example/g00405/impl.highRests"], apart := false, laid := [("loop.example/g00405/impl.highRests", laid_loop_example_g00405_impl_highRests)] }
def FnExactUpdatePieceSaid : Prop := fnExactUpdatePieceRow.holds Tryd.pinned (OpenSpec.ofChange fnExactUpdatePieceSpec)

/-- ITS FALSE NEIGHBOUR: 'it returns false'. Refute it at one input. -/
def fnExactUpdatePieceWrong : ChangeSpec := { name := "fnExactUpdatePiece", vars := ["loop.example/g00405/impl.highRests"], fn := fun _ => fun
  | [d1, d2, d3, d4, d5, g1] => { results := [.lit (.bool false)], args := [d1, d2, d3, d4, d5], vars := [g1] }
  | _ => none }
def FnExactUpdatePieceWrongFalsely : Prop := fnExactUpdatePieceRow.holds Tryd.pinned (OpenSpec.ofChange fnExactUpdatePieceWrong)

/-- 'laws.FnExactMulMatrix': WHATEVER THE INPUT: true; the input reads as it did. -/
def fnExactMulMatrixSpec : ChangeSpec := { name := "fnExactMulMatrix", vars := ["loop.example/g00405/impl.highRests"], fn := fun _ => fun
  | [d1, d2, g1] => { results := [.lit (.bool true)], args := [d1, d2], vars := [g1] }
  | _ => none }
def fnExactMulMatrixRow : OpenClaim := { program := "ytoipcoidcaijjaadoor", sum := "3ff6d12707a4b39b72bd30dd9da2b2c5cdc28500bc9befb8eaf2e02c3576ceee", func := "loop.example/g00405/laws.FnExactMulMatrix", spec := "fnExactMulMatrix", unfollowed := true, recurses := true, named := ["loop.example/g00405/impl.highRests"], apart := false, laid := [("loop.example/g00405/impl.highRests", laid_loop_example_g00405_impl_highRests)] }
def FnExactMulMatrixSaid : Prop := fnExactMulMatrixRow.holds Tryd.pinned (OpenSpec.ofChange fnExactMulMatrixSpec)

/-- ITS FALSE NEIGHBOUR: 'it returns false'. Refute it at one input. -/
def fnExactMulMatrixWrong : ChangeSpec := { name := "fnExactMulMatrix", vars := ["loop.example/g00405/impl.highRests"], fn := fun _ => fun
  | [d1, d2, g1] => { results := [.lit (.bool false)], args := [d1, d2], vars := [g1] }
  | _ => none }
def FnExactMulMatrixWrongFalsely : Prop := fnExactMulMatrixRow.holds Tryd.pinned (OpenSpec.ofChange fnExactMulMatrixWrong)

/- THE SECOND FORM. 'bulk': how many values and letters a reading holds, each counted each time it is reached (what is shared counts as often as it is met; a slice's spare places count too). A statement '..UptoSaid' is the law's where the arguments, and the package variables that the reading takes, are together of bulk at most 1048576: NARROWER than '..Said'. Prove '..Said' where nothing that the law and all that it calls make is longer than what came in: it says more and counts as full. Else prove '..UptoSaid'. A law counts once. -/
mutual
def uptoBulk {H : Type} : DataW H → Nat
  | .lit (.string bytes) => bytes.length + 1
  | .lit _ => 1
  | .nil => 1
  | .ptr d => uptoBulk d + 1
  | .slice elems spare => uptoBulkAll elems + uptoBulkAll spare + 1
  | .agg parts => uptoBulkAll parts + 1
  | .iface _ d => uptoBulk d + 1
  | .map entries => uptoBulkEntries entries + 1
  | .held _ => 1
def uptoBulkAll {H : Type} : List (DataW H) → Nat
  | [] => 0
  | d :: r => uptoBulk d + uptoBulkAll r
def uptoBulkEntries {H : Type} : List (Lit × DataW H) → Nat
  | [] => 0
  | x :: r => uptoBulkEntry x + uptoBulkEntries r
def uptoBulkEntry {H : Type} : Lit × DataW H → Nat
  | (.string bytes, d) => bytes.length + uptoBulk d + 1
  | (_, d) => uptoBulk d + 1
 end
def uptoSmall : (H : Type) → List (DataW H) → Bool := fun _ ds => decide (uptoBulkAll ds ≤ 1048576)
def OpenSpec.upto (s : _root_.Go.ChangeSpec) : _root_.Go.OpenSpec := { _root_.Go.OpenSpec.ofChange s with cond := some uptoSmall }

/-- 'laws.FnPolys', WHERE WHAT IT READS IS OF BULK AT MOST 1048576: true; the input reads as it did. -/
def fnPolysUptoRow : OpenClaim := { program := "ytoipcoidcaijjaadoor", sum := "3ff6d12707a4b39b72bd30dd9da2b2c5cdc28500bc9befb8eaf2e02c3576ceee", func := "loop.example/g00405/laws.FnPolys", spec := "fnPolys", named := ["loop.example/g00405/impl.highRests"], apart := false, laid := [("loop.example/g00405/impl.highRests", laid_loop_example_g00405_impl_highRests)], narrowed := true }
def FnPolysUptoSaid : Prop := fnPolysUptoRow.holds Tryd.pinned (OpenSpec.upto fnPolysSpec)

/-- 'laws.FnCauchy', WHERE WHAT IT READS IS OF BULK AT MOST 1048576: true; the input reads as it did. -/
def fnCauchyUptoRow : OpenClaim := { program := "ytoipcoidcaijjaadoor", sum := "3ff6d12707a4b39b72bd30dd9da2b2c5cdc28500bc9befb8eaf2e02c3576ceee", func := "loop.example/g00405/laws.FnCauchy", spec := "fnCauchy", unfollowed := true, recurses := true, named := ["loop.example/g00405/impl.highRests"], apart := false, laid := [("loop.example/g00405/impl.highRests", laid_loop_example_g00405_impl_highRests)], narrowed := true }
def FnCauchyUptoSaid : Prop := fnCauchyUptoRow.holds Tryd.pinned (OpenSpec.upto fnCauchySpec)

/-- 'laws.FnErasure', WHERE WHAT IT READS IS OF BULK AT MOST 1048576: true; the input reads as it did. -/
def fnErasureUptoRow : OpenClaim := { program := "ytoipcoidcaijjaadoor", sum := "3ff6d12707a4b39b72bd30dd9da2b2c5cdc28500bc9befb8eaf2e02c3576ceee", func := "loop.example/g00405/laws.FnErasure", spec := "fnErasure", unfollowed := true, recurses := true, named := ["loop.example/g00405/impl.highRests"], apart := false, laid := [("loop.example/g00405/impl.highRests", laid_loop_example_g00405_impl_highRests)], narrowed := true }
def FnErasureUptoSaid : Prop := fnErasureUptoRow.holds Tryd.pinned (OpenSpec.upto fnErasureSpec)

/-- 'laws.FnPieces', WHERE WHAT IT READS IS OF BULK AT MOST 1048576: true; the input reads as it did. -/
def fnPiecesUptoRow : OpenClaim := { program := "ytoipcoidcaijjaadoor", sum := "3ff6d12707a4b39b72bd30dd9da2b2c5cdc28500bc9befb8eaf2e02c3576ceee", func := "loop.example/g00405/laws.FnPieces", spec := "fnPieces", unfollowed := true, recurses := true, named := ["loop.example/g00405/impl.highRests"], apart := false, laid := [("loop.example/g00405/impl.highRests", laid_loop_example_g00405_impl_highRests)], narrowed := true }
def FnPiecesUptoSaid : Prop := fnPiecesUptoRow.holds Tryd.pinned (OpenSpec.upto fnPiecesSpec)

/-- 'laws.FnExactEvalGf', WHERE WHAT IT READS IS OF BULK AT MOST 1048576: true; the input reads as it did. -/
def fnExactEvalGfUptoRow : OpenClaim := { program := "ytoipcoidcaijjaadoor", sum := "3ff6d12707a4b39b72bd30dd9da2b2c5cdc28500bc9befb8eaf2e02c3576ceee", func := "loop.example/g00405/laws.FnExactEvalGf", spec := "fnExactEvalGf", named := ["loop.example/g00405/impl.highRests"], apart := false, laid := [("loop.example/g00405/impl.highRests", laid_loop_example_g00405_impl_highRests)], narrowed := true }
def FnExactEvalGfUptoSaid : Prop := fnExactEvalGfUptoRow.holds Tryd.pinned (OpenSpec.upto fnExactEvalGfSpec)

/-- 'laws.FnExactMulPoly', WHERE WHAT IT READS IS OF BULK AT MOST 1048576: true; the input reads as it did. -/
def fnExactMulPolyUptoRow : OpenClaim := { program := "ytoipcoidcaijjaadoor", sum := "3ff6d12707a4b39b72bd30dd9da2b2c5cdc28500bc9befb8eaf2e02c3576ceee", func := "loop.example/g00405/laws.FnExactMulPoly", spec := "fnExactMulPoly", named := ["loop.example/g00405/impl.highRests"], apart := false, laid := [("loop.example/g00405/impl.highRests", laid_loop_example_g00405_impl_highRests)], narrowed := true }
def FnExactMulPolyUptoSaid : Prop := fnExactMulPolyUptoRow.holds Tryd.pinned (OpenSpec.upto fnExactMulPolySpec)

/-- 'laws.FnExactDivPoly', WHERE WHAT IT READS IS OF BULK AT MOST 1048576: true; the input reads as it did. -/
def fnExactDivPolyUptoRow : OpenClaim := { program := "ytoipcoidcaijjaadoor", sum := "3ff6d12707a4b39b72bd30dd9da2b2c5cdc28500bc9befb8eaf2e02c3576ceee", func := "loop.example/g00405/laws.FnExactDivPoly", spec := "fnExactDivPoly", named := ["loop.example/g00405/impl.highRests"], apart := false, laid := [("loop.example/g00405/impl.highRests", laid_loop_example_g00405_impl_highRests)], narrowed := true }
def FnExactDivPolyUptoSaid : Prop := fnExactDivPolyUptoRow.holds Tryd.pinned (OpenSpec.upto fnExactDivPolySpec)

/-- 'laws.FnExactInvertMatrix', WHERE WHAT IT READS IS OF BULK AT MOST 1048576: true; the input reads as it did. -/
def fnExactInvertMatrixUptoRow : OpenClaim := { program := "ytoipcoidcaijjaadoor", sum := "3ff6d12707a4b39b72bd30dd9da2b2c5cdc28500bc9befb8eaf2e02c3576ceee", func := "loop.example/g00405/laws.FnExactInvertMatrix", spec := "fnExactInvertMatrix", unfollowed := true, recurses := true, named := ["loop.example/g00405/impl.highRests"], apart := false, laid := [("loop.example/g00405/impl.highRests", laid_loop_example_g00405_impl_highRests)], narrowed := true }
def FnExactInvertMatrixUptoSaid : Prop := fnExactInvertMatrixUptoRow.holds Tryd.pinned (OpenSpec.upto fnExactInvertMatrixSpec)

/-- 'laws.FnExactCauchyMatrix', WHERE WHAT IT READS IS OF BULK AT MOST 1048576: true; the input reads as it did. -/
def fnExactCauchyMatrixUptoRow : OpenClaim := { program := "ytoipcoidcaijjaadoor", sum := "3ff6d12707a4b39b72bd30dd9da2b2c5cdc28500bc9befb8eaf2e02c3576ceee", func := "loop.example/g00405/laws.FnExactCauchyMatrix", spec := "fnExactCauchyMatrix", named := ["loop.example/g00405/impl.highRests"], apart := false, laid := [("loop.example/g00405/impl.highRests", laid_loop_example_g00405_impl_highRests)], narrowed := true }
def FnExactCauchyMatrixUptoSaid : Prop := fnExactCauchyMatrixUptoRow.holds Tryd.pinned (OpenSpec.upto fnExactCauchyMatrixSpec)

/-- 'laws.FnExactSolveBy', WHERE WHAT IT READS IS OF BULK AT MOST 1048576: true; the input reads as it did. -/
def fnExactSolveByUptoRow : OpenClaim := { program := "ytoipcoidcaijjaadoor", sum := "3ff6d12707a4b39b72bd30dd9da2b2c5cdc28500bc9befb8eaf2e02c3576ceee", func := "loop.example/g00405/laws.FnExactSolveBy", spec := "fnExactSolveBy", unfollowed := true, recurses := true, named := ["loop.example/g00405/impl.highRests"], apart := false, laid := [("loop.example/g00405/impl.highRests", laid_loop_example_g00405_impl_highRests)], narrowed := true }
def FnExactSolveByUptoSaid : Prop := fnExactSolveByUptoRow.holds Tryd.pinned (OpenSpec.upto fnExactSolveBySpec)

/-- 'laws.FnExactCodeMatrix', WHERE WHAT IT READS IS OF BULK AT MOST 1048576: true; the input reads as it did. -/
def fnExactCodeMatrixUptoRow : OpenClaim := { program := "ytoipcoidcaijjaadoor", sum := "3ff6d12707a4b39b72bd30dd9da2b2c5cdc28500bc9befb8eaf2e02c3576ceee", func := "loop.example/g00405/laws.FnExactCodeMatrix", spec := "fnExactCodeMatrix", named := ["loop.example/g00405/impl.highRests"], apart := false, laid := [("loop.example/g00405/impl.highRests", laid_loop_example_g00405_impl_highRests)], narrowed := true }
def FnExactCodeMatrixUptoSaid : Prop := fnExactCodeMatrixUptoRow.holds Tryd.pinned (OpenSpec.upto fnExactCodeMatrixSpec)

/-- 'laws.FnExactEncodePieces', WHERE WHAT IT READS IS OF BULK AT MOST 1048576: true; the input reads as it did. -/
def fnExactEncodePiecesUptoRow : OpenClaim := { program := "ytoipcoidcaijjaadoor", sum := "3ff6d12707a4b39b72bd30dd9da2b2c5cdc28500bc9befb8eaf2e02c3576ceee", func := "loop.example/g00405/laws.FnExactEncodePieces", spec := "fnExactEncodePieces", unfollowed := true, recurses := true, named := ["loop.example/g00405/impl.highRests"], apart := false, laid := [("loop.example/g00405/impl.highRests", laid_loop_example_g00405_impl_highRests)], narrowed := true }
def FnExactEncodePiecesUptoSaid : Prop := fnExactEncodePiecesUptoRow.holds Tryd.pinned (OpenSpec.upto fnExactEncodePiecesSpec)

/-- 'laws.FnExactDecodePieces', WHERE WHAT IT READS IS OF BULK AT MOST 1048576: true; the input reads as it did. -/
def fnExactDecodePiecesUptoRow : OpenClaim := { program := "ytoipcoidcaijjaadoor", sum := "3ff6d12707a4b39b72bd30dd9da2b2c5cdc28500bc9befb8eaf2e02c3576ceee", func := "loop.example/g00405/laws.FnExactDecodePieces", spec := "fnExactDecodePieces", unfollowed := true, recurses := true, named := ["loop.example/g00405/impl.highRests"], apart := false, laid := [("loop.example/g00405/impl.highRests", laid_loop_example_g00405_impl_highRests)], narrowed := true }
def FnExactDecodePiecesUptoSaid : Prop := fnExactDecodePiecesUptoRow.holds Tryd.pinned (OpenSpec.upto fnExactDecodePiecesSpec)

/-- 'laws.FnExactCheckPieces', WHERE WHAT IT READS IS OF BULK AT MOST 1048576: true; the input reads as it did. -/
def fnExactCheckPiecesUptoRow : OpenClaim := { program := "ytoipcoidcaijjaadoor", sum := "3ff6d12707a4b39b72bd30dd9da2b2c5cdc28500bc9befb8eaf2e02c3576ceee", func := "loop.example/g00405/laws.FnExactCheckPieces", spec := "fnExactCheckPieces", unfollowed := true, recurses := true, named := ["loop.example/g00405/impl.highRests"], apart := false, laid := [("loop.example/g00405/impl.highRests", laid_loop_example_g00405_impl_highRests)], narrowed := true }
def FnExactCheckPiecesUptoSaid : Prop := fnExactCheckPiecesUptoRow.holds Tryd.pinned (OpenSpec.upto fnExactCheckPiecesSpec)

/-- 'laws.FnExactUpdatePiece', WHERE WHAT IT READS IS OF BULK AT MOST 1048576: true; the input reads as it did. -/
def fnExactUpdatePieceUptoRow : OpenClaim := { program := "ytoipcoidcaijjaadoor", sum := "3ff6d12707a4b39b72bd30dd9da2b2c5cdc28500bc9befb8eaf2e02c3576ceee", func := "loop.example/g00405/laws.FnExactUpdatePiece", spec := "fnExactUpdatePiece", unfollowed := true, recurses := true, named := ["loop.example/g00405/impl.highRests"], apart := false, laid := [("loop.example/g00405/impl.highRests", laid_loop_example_g00405_impl_highRests)], narrowed := true }
def FnExactUpdatePieceUptoSaid : Prop := fnExactUpdatePieceUptoRow.holds Tryd.pinned (OpenSpec.upto fnExactUpdatePieceSpec)

/-- 'laws.FnExactMulMatrix', WHERE WHAT IT READS IS OF BULK AT MOST 1048576: true; the input reads as it did. -/
def fnExactMulMatrixUptoRow : OpenClaim := { program := "ytoipcoidcaijjaadoor", sum := "3ff6d12707a4b39b72bd30dd9da2b2c5cdc28500bc9befb8eaf2e02c3576ceee", func := "loop.example/g00405/laws.FnExactMulMatrix", spec := "fnExactMulMatrix", unfollowed := true, recurses := true, named := ["loop.example/g00405/impl.highRests"], apart := false, laid := [("loop.example/g00405/impl.highRests", laid_loop_example_g00405_impl_highRests)], narrowed := true }
def FnExactMulMatrixUptoSaid : Prop := fnExactMulMatrixUptoRow.holds Tryd.pinned (OpenSpec.upto fnExactMulMatrixSpec)

end Rows
end Go.Proofs.YtoipcoidcaijjaaDoor
