/-
  NARROWER THAN 'FOR EVERY INPUT', by the rows' own cells (each row's printed sentence says how): FnCauchy: laid · FnExactMulMatrix: laid · FnExactInvertMatrix: laid · FnExactRankOf: laid · FnExactCauchyMatrix: laid · FnExactSolveBy: laid.
  DERIVED. THE GIVEN ROWS OF THIS SEAT. 6 by the template 'for every input the law returns true; each argument reads behind the call as it read before'; 0 by the template 'total and deterministic' (their statements: YtfhaffegogdmeaaDoorTotals.lean).
  GIVEN WITH THE SEED: the statements are not yours to turn. If you find one false, say at which input.
  Laid BY PROGRAM, IN A SANDBOX (cutbox-rows.mjs): the forced cells as the released guide's own fill.sh prints them over the translation 8b39c3e86bb684dc… (all of the seat's roots in one cut). By AI agents, Wed Nov 11 2026. No macro, syntax, notation, axiom, sorry.
-/
import Derived.Test.YtfhaffegogdmeaaDoorChecked
import GoSem.Claim
import GoSem.ClaimJoined
import GoSem.ClaimMapViews
import Derived.JoinedTies
import Derived.KernelRfl
namespace Go.Proofs.YtfhaffegogdmeaaDoor
/- THE CELL 'sum', in the pinned program and in every row, IS THE sha256 OF THE DUMP (.gsa) THAT YtfhaffegogdmeaaDoorProg.lean LOADS. Nothing in Lean hashes anything: it is a label: what it is worth is what the hold of that sum in a sandbox is worth. -/
noncomputable def Tryd.pinned : Pinned := { name := "ytfhaffegogdmeaadoor", sum := "8b39c3e86bb684dc894890070d2021e8dbde7f7448f010f80284db009e4dc218", checked := Tryd.checked }
namespace Rows
def none {H : Type} : Left H := { results := [], args := [] }

/- WHAT THE LISTED PACKAGE-LEVEL VARIABLES READ AS WHEN THE CALL BEGINS. Each datum BY PROGRAM (the guide's laid-datum.mjs) off the statement by which the dump's own 'gosem.cut.vars' lays the variable. In a bare row this is a premise. The card (YtfhaffegogdmeaaDoorCards.lean) ties it to the program's text. -/
def laid_loop_example_g00405_impl_highRests {H : Type} : DataW H := .agg [.lit (.int .i64 29), .lit (.int .i64 58), .lit (.int .i64 116), .lit (.int .i64 232), .lit (.int .i64 205), .lit (.int .i64 135), .lit (.int .i64 19)]

/-- 'laws.FnCauchy': WHATEVER THE INPUT: true; the input reads as it did. -/
def fnCauchySpec : ChangeSpec := { name := "fnCauchy", vars := ["loop.example/g00405/impl.highRests"], fn := fun _ => fun
  | [d1, d2, g1] => { results := [.lit (.bool true)], args := [d1, d2], vars := [g1] }
  | _ => none }
def fnCauchyRow : OpenClaim := { program := "ytfhaffegogdmeaadoor", sum := "8b39c3e86bb684dc894890070d2021e8dbde7f7448f010f80284db009e4dc218", func := "loop.example/g00405/laws.FnCauchy", spec := "fnCauchy", unfollowed := true, recurses := true, named := ["loop.example/g00405/impl.highRests"], apart := false, laid := [("loop.example/g00405/impl.highRests", laid_loop_example_g00405_impl_highRests)] }
def FnCauchySaid : Prop := fnCauchyRow.holds Tryd.pinned (OpenSpec.ofChange fnCauchySpec)

/-- ITS FALSE NEIGHBOUR: 'it returns false'. Refute it at one input. -/
def fnCauchyWrong : ChangeSpec := { name := "fnCauchy", vars := ["loop.example/g00405/impl.highRests"], fn := fun _ => fun
  | [d1, d2, g1] => { results := [.lit (.bool false)], args := [d1, d2], vars := [g1] }
  | _ => none }
def FnCauchyWrongFalsely : Prop := fnCauchyRow.holds Tryd.pinned (OpenSpec.ofChange fnCauchyWrong)

/-- 'laws.FnExactMulMatrix': WHATEVER THE INPUT: true; the input reads as it did. -/
def fnExactMulMatrixSpec : ChangeSpec := { name := "fnExactMulMatrix", vars := ["loop.example/g00405/impl.highRests"], fn := fun _ => fun
  | [d1, d2, g1] => { results := [.lit (.bool true)], args := [d1, d2], vars := [g1] }
  | _ => none }
def fnExactMulMatrixRow : OpenClaim := { program := "ytfhaffegogdmeaadoor", sum := "8b39c3e86bb684dc894890070d2021e8dbde7f7448f010f80284db009e4dc218", func := "loop.example/g00405/laws.FnExactMulMatrix", spec := "fnExactMulMatrix", unfollowed := true, recurses := true, named := ["loop.example/g00405/impl.highRests"], apart := false, laid := [("loop.example/g00405/impl.highRests", laid_loop_example_g00405_impl_highRests)] }
def FnExactMulMatrixSaid : Prop := fnExactMulMatrixRow.holds Tryd.pinned (OpenSpec.ofChange fnExactMulMatrixSpec)

/-- ITS FALSE NEIGHBOUR: 'it returns false'. Refute it at one input. -/
def fnExactMulMatrixWrong : ChangeSpec := { name := "fnExactMulMatrix", vars := ["loop.example/g00405/impl.highRests"], fn := fun _ => fun
  | [d1, d2, g1] => { results := [.lit (.bool false)], args := [d1, d2], vars := [g1] }
  | _ => none }
def FnExactMulMatrixWrongFalsely : Prop := fnExactMulMatrixRow.holds Tryd.pinned (OpenSpec.ofChange fnExactMulMatrixWrong)

/-- 'laws.FnExactInvertMatrix': WHATEVER THE INPUT: true; the input reads as it did. -/
def fnExactInvertMatrixSpec : ChangeSpec := { name := "fnExactInvertMatrix", vars := ["loop.example/g00405/impl.highRests"], fn := fun _ => fun
  | [d, g1] => { results := [.lit (.bool true)], args := [d], vars := [g1] }
  | _ => none }
def fnExactInvertMatrixRow : OpenClaim := { program := "ytfhaffegogdmeaadoor", sum := "8b39c3e86bb684dc894890070d2021e8dbde7f7448f010f80284db009e4dc218", func := "loop.example/g00405/laws.FnExactInvertMatrix", spec := "fnExactInvertMatrix", unfollowed := true, recurses := true, named := ["loop.example/g00405/impl.highRests"], apart := false, laid := [("loop.example/g00405/impl.highRests", laid_loop_example_g00405_impl_highRests)] }
def FnExactInvertMatrixSaid : Prop := fnExactInvertMatrixRow.holds Tryd.pinned (OpenSpec.ofChange fnExactInvertMatrixSpec)

/-- ITS FALSE NEIGHBOUR: 'it returns false'. Refute it at one input. -/
def fnExactInvertMatrixWrong : ChangeSpec := { name := "fnExactInvertMatrix", vars := ["loop.example/g00405/impl.highRests"], fn := fun _ => fun
  | [d, g1] => { results := [.lit (.bool false)], args := [d], vars := [g1] }
  | _ => none }
def FnExactInvertMatrixWrongFalsely : Prop := fnExactInvertMatrixRow.holds Tryd.pinned (OpenSpec.ofChange fnExactInvertMatrixWrong)

/-- 'laws.FnExactRankOf': WHATEVER THE INPUT: true; the input reads as it did. -/
def fnExactRankOfSpec : ChangeSpec := { name := "fnExactRankOf", vars := ["loop.example/g00405/impl.highRests"], fn := fun _ => fun
  | [d, g1] => { results := [.lit (.bool true)], args := [d], vars := [g1] }
  | _ => none }
def fnExactRankOfRow : OpenClaim := { program := "ytfhaffegogdmeaadoor", sum := "8b39c3e86bb684dc894890070d2021e8dbde7f7448f010f80284db009e4dc218", func := "loop.example/g00405/laws.FnExactRankOf", spec := "fnExactRankOf", unfollowed := true, recurses := true, named := ["loop.example/g00405/impl.highRests"], apart := false, laid := [("loop.example/g00405/impl.highRests", laid_loop_example_g00405_impl_highRests)] }
def FnExactRankOfSaid : Prop := fnExactRankOfRow.holds Tryd.pinned (OpenSpec.ofChange fnExactRankOfSpec)

/-- ITS FALSE NEIGHBOUR: 'it returns false'. Refute it at one input. -/
def fnExactRankOfWrong : ChangeSpec := { name := "fnExactRankOf", vars := ["loop.example/g00405/impl.highRests"], fn := fun _ => fun
  | [d, g1] => { results := [.lit (.bool false)], args := [d], vars := [g1] }
  | _ => none }
def FnExactRankOfWrongFalsely : Prop := fnExactRankOfRow.holds Tryd.pinned (OpenSpec.ofChange fnExactRankOfWrong)

/-- 'laws.FnExactCauchyMatrix': WHATEVER THE INPUT: true; the input reads as it did. -/
def fnExactCauchyMatrixSpec : ChangeSpec := { name := "fnExactCauchyMatrix", vars := ["loop.example/g00405/impl.highRests"], fn := fun _ => fun
  | [d1, d2, g1] => { results := [.lit (.bool true)], args := [d1, d2], vars := [g1] }
  | _ => none }
def fnExactCauchyMatrixRow : OpenClaim := { program := "ytfhaffegogdmeaadoor", sum := "8b39c3e86bb684dc894890070d2021e8dbde7f7448f010f80284db009e4dc218", func := "loop.example/g00405/laws.FnExactCauchyMatrix", spec := "fnExactCauchyMatrix", named := ["loop.example/g00405/impl.highRests"], apart := false, laid := [("loop.example/g00405/impl.highRests", laid_loop_example_g00405_impl_highRests)] }
def FnExactCauchyMatrixSaid : Prop := fnExactCauchyMatrixRow.holds Tryd.pinned (OpenSpec.ofChange fnExactCauchyMatrixSpec)

/-- ITS FALSE NEIGHBOUR: 'it returns false'. Refute it at one input. -/
def fnExactCauchyMatrixWrong : ChangeSpec := { name := "fnExactCauchyMatrix", vars := ["loop.example/g00405/impl.highRests"], fn := fun _ => fun
  | [d1, d2, g1] => { results := [.lit (.bool false)], args := [d1, d2], vars := [g1] }
  | _ => none }
def FnExactCauchyMatrixWrongFalsely : Prop := fnExactCauchyMatrixRow.holds Tryd.pinned (OpenSpec.ofChange fnExactCauchyMatrixWrong)

/-- 'laws.FnExactSolveBy': WHATEVER THE INPUT: true; the input reads as it did. -/
def fnExactSolveBySpec : ChangeSpec := { name := "fnExactSolveBy", vars := ["loop.example/g00405/impl.highRests"], fn := fun _ => fun
  | [d1, d2, g1] => { results := [.lit (.bool true)], args := [d1, d2], vars := [g1] }
  | _ => none }
def fnExactSolveByRow : OpenClaim := { program := "ytfhaffegogdmeaadoor", sum := "8b39c3e86bb684dc894890070d2021e8dbde7f7448f010f80284db009e4dc218", func := "loop.example/g00405/laws.FnExactSolveBy", spec := "fnExactSolveBy", unfollowed := true, recurses := true, named := ["loop.example/g00405/impl.highRests"], apart := false, laid := [("loop.example/g00405/impl.highRests", laid_loop_example_g00405_impl_highRests)] }
def FnExactSolveBySaid : Prop := fnExactSolveByRow.holds Tryd.pinned (OpenSpec.ofChange fnExactSolveBySpec)

/-- ITS FALSE NEIGHBOUR: 'it returns false'. Refute it at one input. -/
def fnExactSolveByWrong : ChangeSpec := { name := "fnExactSolveBy", vars := ["loop.example/g00405/impl.highRests"], fn := fun _ => fun
  | [d1, d2, g1] => { results := [.lit (.bool false)], args := [d1, d2], vars := [g1] }
  | _ => none }
def FnExactSolveByWrongFalsely : Prop := fnExactSolveByRow.holds Tryd.pinned (OpenSpec.ofChange fnExactSolveByWrong)

/- THE SECOND FORM. 'bulk': how many values and letters a reading holds, each counted each time it is reached (what is shared counts as often as it is met; a slice's spare places count too). A statement '..UptoSaid' is the law's where the arguments, and the package variables that the reading takes, are together of bulk at most 1048576: NARROWER than '..Said'. Prove '..Said' where nothing that the law and all that it calls make is longer than what came in: it says more and counts as full. Else prove '..UptoSaid'. A law counts once. -/
mutual
def uptoBulk {H : Type} : DataW H → Nat
  | .lit (.string bytes) => bytes.length + 1
  | .lit _ => 1
  | .nil => 1
  | .ptr d => uptoBulk d + 1
  | .slice elems spare => uptoBulkAll elems + uptoBulkAll spare + 1
  | .agg parts => uptoBulkAll parts + 1
  | .iface _ d => uptoBulk d + 1
  | .map entries => uptoBulkEntries entries + 1
  | .held _ => 1
def uptoBulkAll {H : Type} : List (DataW H) → Nat
  | [] => 0
  | d :: r => uptoBulk d + uptoBulkAll r
def uptoBulkEntries {H : Type} : List (Lit × DataW H) → Nat
  | [] => 0
  | x :: r => uptoBulkEntry x + uptoBulkEntries r
def uptoBulkEntry {H : Type} : Lit × DataW H → Nat
  | (.string bytes, d) => bytes.length + uptoBulk d + 1
  | (_, d) => uptoBulk d + 1
 end
def uptoSmall : (H : Type) → List (DataW H) → Bool := fun _ ds => decide (uptoBulkAll ds ≤ 1048576)
def OpenSpec.upto (s : _root_.Go.ChangeSpec) : _root_.Go.OpenSpec := { _root_.Go.OpenSpec.ofChange s with cond := some uptoSmall }

/-- 'laws.FnCauchy', WHERE WHAT IT READS IS OF BULK AT MOST 1048576: true; the input reads as it did. -/
def fnCauchyUptoRow : OpenClaim := { program := "ytfhaffegogdmeaadoor", sum := "8b39c3e86bb684dc894890070d2021e8dbde7f7448f010f80284db009e4dc218", func := "loop.example/g00405/laws.FnCauchy", spec := "fnCauchy", unfollowed := true, recurses := true, named := ["loop.example/g00405/impl.highRests"], apart := false, laid := [("loop.example/g00405/impl.highRests", laid_loop_example_g00405_impl_highRests)], narrowed := true }
def FnCauchyUptoSaid : Prop := fnCauchyUptoRow.holds Tryd.pinned (OpenSpec.upto fnCauchySpec)

/-- 'laws.FnExactMulMatrix', WHERE WHAT IT READS IS OF BULK AT MOST 1048576: true; the input reads as it did. -/
def fnExactMulMatrixUptoRow : OpenClaim := { program := "ytfhaffegogdmeaadoor", sum := "8b39c3e86bb684dc894890070d2021e8dbde7f7448f010f80284db009e4dc218", func := "loop.example/g00405/laws.FnExactMulMatrix", spec := "fnExactMulMatrix", unfollowed := true, recurses := true, named := ["loop.example/g00405/impl.highRests"], apart := false, laid := [("loop.example/g00405/impl.highRests", laid_loop_example_g00405_impl_highRests)], narrowed := true }
def FnExactMulMatrixUptoSaid : Prop := fnExactMulMatrixUptoRow.holds Tryd.pinned (OpenSpec.upto fnExactMulMatrixSpec)

/-- 'laws.FnExactInvertMatrix', WHERE WHAT IT READS IS OF BULK AT MOST 1048576: true; the input reads as it did. -/
def fnExactInvertMatrixUptoRow : OpenClaim := { program := "ytfhaffegogdmeaadoor", sum := "8b39c3e86bb684dc894890070d2021e8dbde7f7448f010f80284db009e4dc218", func := "loop.example/g00405/laws.FnExactInvertMatrix", spec := "fnExactInvertMatrix", unfollowed := true, recurses := true, named := ["loop.example/g00405/impl.highRests"], apart := false, laid := [("loop.example/g00405/impl.highRests", laid_loop_example_g00405_impl_highRests)], narrowed := true }
def FnExactInvertMatrixUptoSaid : Prop := fnExactInvertMatrixUptoRow.holds Tryd.pinned (OpenSpec.upto fnExactInvertMatrixSpec)

/-- 'laws.FnExactRankOf', WHERE WHAT IT READS IS OF BULK AT MOST 1048576: true; the input reads as it did. -/
def fnExactRankOfUptoRow : OpenClaim := { program := "ytfhaffegogdmeaadoor", sum := "8b39c3e86bb684dc894890070d2021e8dbde7f7448f010f80284db009e4dc218", func := "loop.example/g00405/laws.FnExactRankOf", spec := "fnExactRankOf", unfollowed := true, recurses := true, named := ["loop.example/g00405/impl.highRests"], apart := false, laid := [("loop.example/g00405/impl.highRests", laid_loop_example_g00405_impl_highRests)], narrowed := true }
def FnExactRankOfUptoSaid : Prop := fnExactRankOfUptoRow.holds Tryd.pinned (OpenSpec.upto fnExactRankOfSpec)

/-- 'laws.FnExactCauchyMatrix', WHERE WHAT IT READS IS OF BULK AT MOST 1048576: true; the input reads as it did. -/
def fnExactCauchyMatrixUptoRow : OpenClaim := { program := "ytfhaffegogdmeaadoor", sum := "8b39c3e86bb684dc894890070d2021e8dbde7f7448f010f80284db009e4dc218", func := "loop.example/g00405/laws.FnExactCauchyMatrix", spec := "fnExactCauchyMatrix", named := ["loop.example/g00405/impl.highRests"], apart := false, laid := [("loop.example/g00405/impl.highRests", laid_loop_example_g00405_impl_highRests)], narrowed := true }
def FnExactCauchyMatrixUptoSaid : Prop := fnExactCauchyMatrixUptoRow.holds Tryd.pinned (OpenSpec.upto fnExactCauchyMatrixSpec)

/-- 'laws.FnExactSolveBy', WHERE WHAT IT READS IS OF BULK AT MOST 1048576: true; the input reads as it did. -/
def fnExactSolveByUptoRow : OpenClaim := { program := "ytfhaffegogdmeaadoor", sum := "8b39c3e86bb684dc894890070d2021e8dbde7f7448f010f80284db009e4dc218", func := "loop.example/g00405/laws.FnExactSolveBy", spec := "fnExactSolveBy", unfollowed := true, recurses := true, named := ["loop.example/g00405/impl.highRests"], apart := false, laid := [("loop.example/g00405/impl.highRests", laid_loop_example_g00405_impl_highRests)], narrowed := true }
def FnExactSolveByUptoSaid : Prop := fnExactSolveByUptoRow.holds Tryd.pinned (OpenSpec.upto fnExactSolveBySpec)

end Rows
end Go.Proofs.YtfhaffegogdmeaaDoor
