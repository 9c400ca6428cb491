/-
  DERIVED. GIVEN WITH THE SEED: THE CARDS: each row of YtoipcoidcaijjaaDoorRows.lean that lists a variable, with what it lists TIED to the program's text (the seventh form; the later family's looks); each row that meets fmt, with fmt's text TOLD by the authors' own Lean function (tested against real Go, not proved from fmt's source: count such statements apart). THE CARD IS WHAT COUNTS. Prove the row's statement (the work); the ties are given (YtoipcoidcaijjaaDoorTie.lean); close each card by the builder's one call (the guide's Derived/Test/ToyasCard.lean, 'card_holds'). Laid BY PROGRAM, IN A SANDBOX (cutbox-door.mjs). By AI agents, Wed Nov 11 2026. No macro, syntax, notation, axiom, sorry.
-/
import Derived.Test.YtoipcoidcaijjaaDoorRows
import GoSem.ClaimSeven
namespace Go.Proofs.YtoipcoidcaijjaaDoor
namespace Rows

/-- THE TIED CARD OF 'laws.FnPolys'. -/
def fnPolysCard : Claim7 := { stood := { row := fnPolysRow, standIns := [], harness := (true, "95b71db071b5ba239005f030a1acd7b0afd728ff933233dd45d677984886ad1f"), looks := false }, kinds := [], alts := [], laidByText := true, laidKinds := [.data], laidTests := true, laidLooks := .later }
def FnPolysCardSaid : Prop := Claim7.holds Tryd.pinned (.plain (OpenSpec.ofChange fnPolysSpec)) fnPolysCard

/-- THE TIED CARD OF 'laws.FnCauchy'. -/
def fnCauchyCard : Claim7 := { stood := { row := fnCauchyRow, standIns := [], harness := (true, "95b71db071b5ba239005f030a1acd7b0afd728ff933233dd45d677984886ad1f"), looks := false }, kinds := [], alts := [], laidByText := true, laidKinds := [.data], laidTests := true, laidLooks := .later }
def FnCauchyCardSaid : Prop := Claim7.holds Tryd.pinned (.plain (OpenSpec.ofChange fnCauchySpec)) fnCauchyCard

/-- THE TIED CARD OF 'laws.FnErasure'. -/
def fnErasureCard : Claim7 := { stood := { row := fnErasureRow, standIns := [], harness := (true, "95b71db071b5ba239005f030a1acd7b0afd728ff933233dd45d677984886ad1f"), looks := false }, kinds := [], alts := [], laidByText := true, laidKinds := [.data], laidTests := true, laidLooks := .later }
def FnErasureCardSaid : Prop := Claim7.holds Tryd.pinned (.plain (OpenSpec.ofChange fnErasureSpec)) fnErasureCard

/-- THE TIED CARD OF 'laws.FnPieces'. -/
def fnPiecesCard : Claim7 := { stood := { row := fnPiecesRow, standIns := [], harness := (true, "95b71db071b5ba239005f030a1acd7b0afd728ff933233dd45d677984886ad1f"), looks := false }, kinds := [], alts := [], laidByText := true, laidKinds := [.data], laidTests := true, laidLooks := .later }
def FnPiecesCardSaid : Prop := Claim7.holds Tryd.pinned (.plain (OpenSpec.ofChange fnPiecesSpec)) fnPiecesCard

/-- THE TIED CARD OF 'laws.FnExactEvalGf'. -/
def fnExactEvalGfCard : Claim7 := { stood := { row := fnExactEvalGfRow, standIns := [], harness := (true, "95b71db071b5ba239005f030a1acd7b0afd728ff933233dd45d677984886ad1f"), looks := false }, kinds := [], alts := [], laidByText := true, laidKinds := [.data], laidTests := true, laidLooks := .later }
def FnExactEvalGfCardSaid : Prop := Claim7.holds Tryd.pinned (.plain (OpenSpec.ofChange fnExactEvalGfSpec)) fnExactEvalGfCard

/-- THE TIED CARD OF 'laws.FnExactMulPoly'. -/
def fnExactMulPolyCard : Claim7 := { stood := { row := fnExactMulPolyRow, standIns := [], harness := (true, "95b71db071b5ba239005f030a1acd7b0afd728ff933233dd45d677984886ad1f"), looks := false }, kinds := [], alts := [], laidByText := true, laidKinds := [.data], laidTests := true, laidLooks := .later }
def FnExactMulPolyCardSaid : Prop := Claim7.holds Tryd.pinned (.plain (OpenSpec.ofChange fnExactMulPolySpec)) fnExactMulPolyCard

/-- THE TIED CARD OF 'laws.FnExactDivPoly'. -/
def fnExactDivPolyCard : Claim7 := { stood := { row := fnExactDivPolyRow, standIns := [], harness := (true, "95b71db071b5ba239005f030a1acd7b0afd728ff933233dd45d677984886ad1f"), looks := false }, kinds := [], alts := [], laidByText := true, laidKinds := [.data], laidTests := true, laidLooks := .later }
def FnExactDivPolyCardSaid : Prop := Claim7.holds Tryd.pinned (.plain (OpenSpec.ofChange fnExactDivPolySpec)) fnExactDivPolyCard

/-- THE TIED CARD OF 'laws.FnExactInvertMatrix'. -/
def fnExactInvertMatrixCard : Claim7 := { stood := { row := fnExactInvertMatrixRow, standIns := [], harness := (true, "95b71db071b5ba239005f030a1acd7b0afd728ff933233dd45d677984886ad1f"), looks := false }, kinds := [], alts := [], laidByText := true, laidKinds := [.data], laidTests := true, laidLooks := .later }
def FnExactInvertMatrixCardSaid : Prop := Claim7.holds Tryd.pinned (.plain (OpenSpec.ofChange fnExactInvertMatrixSpec)) fnExactInvertMatrixCard

/-- THE TIED CARD OF 'laws.FnExactCauchyMatrix'. -/
def fnExactCauchyMatrixCard : Claim7 := { stood := { row := fnExactCauchyMatrixRow, standIns := [], harness := (true, "95b71db071b5ba239005f030a1acd7b0afd728ff933233dd45d677984886ad1f"), looks := false }, kinds := [], alts := [], laidByText := true, laidKinds := [.data], laidTests := true, laidLooks := .later }
def FnExactCauchyMatrixCardSaid : Prop := Claim7.holds Tryd.pinned (.plain (OpenSpec.ofChange fnExactCauchyMatrixSpec)) fnExactCauchyMatrixCard

/-- THE TIED CARD OF 'laws.FnExactSolveBy'. -/
def fnExactSolveByCard : Claim7 := { stood := { row := fnExactSolveByRow, standIns := [], harness := (true, "95b71db071b5ba239005f030a1acd7b0afd728ff933233dd45d677984886ad1f"), looks := false }, kinds := [], alts := [], laidByText := true, laidKinds := [.data], laidTests := true, laidLooks := .later }
def FnExactSolveByCardSaid : Prop := Claim7.holds Tryd.pinned (.plain (OpenSpec.ofChange fnExactSolveBySpec)) fnExactSolveByCard

/-- THE TIED CARD OF 'laws.FnExactCodeMatrix'. -/
def fnExactCodeMatrixCard : Claim7 := { stood := { row := fnExactCodeMatrixRow, standIns := [], harness := (true, "95b71db071b5ba239005f030a1acd7b0afd728ff933233dd45d677984886ad1f"), looks := false }, kinds := [], alts := [], laidByText := true, laidKinds := [.data], laidTests := true, laidLooks := .later }
def FnExactCodeMatrixCardSaid : Prop := Claim7.holds Tryd.pinned (.plain (OpenSpec.ofChange fnExactCodeMatrixSpec)) fnExactCodeMatrixCard

/-- THE TIED CARD OF 'laws.FnExactEncodePieces'. -/
def fnExactEncodePiecesCard : Claim7 := { stood := { row := fnExactEncodePiecesRow, standIns := [], harness := (true, "95b71db071b5ba239005f030a1acd7b0afd728ff933233dd45d677984886ad1f"), looks := false }, kinds := [], alts := [], laidByText := true, laidKinds := [.data], laidTests := true, laidLooks := .later }
def FnExactEncodePiecesCardSaid : Prop := Claim7.holds Tryd.pinned (.plain (OpenSpec.ofChange fnExactEncodePiecesSpec)) fnExactEncodePiecesCard

/-- THE TIED CARD OF 'laws.FnExactDecodePieces'. -/
def fnExactDecodePiecesCard : Claim7 := { stood := { row := fnExactDecodePiecesRow, standIns := [], harness := (true, "95b71db071b5ba239005f030a1acd7b0afd728ff933233dd45d677984886ad1f"), looks := false }, kinds := [], alts := [], laidByText := true, laidKinds := [.data], laidTests := true, laidLooks := .later }
def FnExactDecodePiecesCardSaid : Prop := Claim7.holds Tryd.pinned (.plain (OpenSpec.ofChange fnExactDecodePiecesSpec)) fnExactDecodePiecesCard

/-- THE TIED CARD OF 'laws.FnExactCheckPieces'. -/
def fnExactCheckPiecesCard : Claim7 := { stood := { row := fnExactCheckPiecesRow, standIns := [], harness := (true, "95b71db071b5ba239005f030a1acd7b0afd728ff933233dd45d677984886ad1f"), looks := false }, kinds := [], alts := [], laidByText := true, laidKinds := [.data], laidTests := true, laidLooks := .later }
def FnExactCheckPiecesCardSaid : Prop := Claim7.holds Tryd.pinned (.plain (OpenSpec.ofChange fnExactCheckPiecesSpec)) fnExactCheckPiecesCard

/-- THE TIED CARD OF 'laws.FnExactUpdatePiece'. -/
def fnExactUpdatePieceCard : Claim7 := { stood := { row := fnExactUpdatePieceRow, standIns := [], harness := (true, "95b71db071b5ba239005f030a1acd7b0afd728ff933233dd45d677984886ad1f"), looks := false }, kinds := [], alts := [], laidByText := true, laidKinds := [.data], laidTests := true, laidLooks := .later }
def FnExactUpdatePieceCardSaid : Prop := Claim7.holds Tryd.pinned (.plain (OpenSpec.ofChange fnExactUpdatePieceSpec)) fnExactUpdatePieceCard

/-- THE TIED CARD OF 'laws.FnExactMulMatrix'. -/
def fnExactMulMatrixCard : Claim7 := { stood := { row := fnExactMulMatrixRow, standIns := [], harness := (true, "95b71db071b5ba239005f030a1acd7b0afd728ff933233dd45d677984886ad1f"), looks := false }, kinds := [], alts := [], laidByText := true, laidKinds := [.data], laidTests := true, laidLooks := .later }
def FnExactMulMatrixCardSaid : Prop := Claim7.holds Tryd.pinned (.plain (OpenSpec.ofChange fnExactMulMatrixSpec)) fnExactMulMatrixCard

/-- THE SECOND FORM's CARD OF 'laws.FnPolys'. -/
def fnPolysUptoCard : Claim7 := { stood := { row := fnPolysUptoRow, standIns := [], harness := (true, "95b71db071b5ba239005f030a1acd7b0afd728ff933233dd45d677984886ad1f"), looks := false }, kinds := [], alts := [], laidByText := true, laidKinds := [.data], laidTests := true, laidLooks := .later }
def FnPolysUptoCardSaid : Prop := Claim7.holds Tryd.pinned (.plain (OpenSpec.upto fnPolysSpec)) fnPolysUptoCard

/-- THE SECOND FORM's CARD OF 'laws.FnCauchy'. -/
def fnCauchyUptoCard : Claim7 := { stood := { row := fnCauchyUptoRow, standIns := [], harness := (true, "95b71db071b5ba239005f030a1acd7b0afd728ff933233dd45d677984886ad1f"), looks := false }, kinds := [], alts := [], laidByText := true, laidKinds := [.data], laidTests := true, laidLooks := .later }
def FnCauchyUptoCardSaid : Prop := Claim7.holds Tryd.pinned (.plain (OpenSpec.upto fnCauchySpec)) fnCauchyUptoCard

/-- THE SECOND FORM's CARD OF 'laws.FnErasure'. -/
def fnErasureUptoCard : Claim7 := { stood := { row := fnErasureUptoRow, standIns := [], harness := (true, "95b71db071b5ba239005f030a1acd7b0afd728ff933233dd45d677984886ad1f"), looks := false }, kinds := [], alts := [], laidByText := true, laidKinds := [.data], laidTests := true, laidLooks := .later }
def FnErasureUptoCardSaid : Prop := Claim7.holds Tryd.pinned (.plain (OpenSpec.upto fnErasureSpec)) fnErasureUptoCard

/-- THE SECOND FORM's CARD OF 'laws.FnPieces'. -/
def fnPiecesUptoCard : Claim7 := { stood := { row := fnPiecesUptoRow, standIns := [], harness := (true, "95b71db071b5ba239005f030a1acd7b0afd728ff933233dd45d677984886ad1f"), looks := false }, kinds := [], alts := [], laidByText := true, laidKinds := [.data], laidTests := true, laidLooks := .later }
def FnPiecesUptoCardSaid : Prop := Claim7.holds Tryd.pinned (.plain (OpenSpec.upto fnPiecesSpec)) fnPiecesUptoCard

/-- THE SECOND FORM's CARD OF 'laws.FnExactEvalGf'. -/
def fnExactEvalGfUptoCard : Claim7 := { stood := { row := fnExactEvalGfUptoRow, standIns := [], harness := (true, "95b71db071b5ba239005f030a1acd7b0afd728ff933233dd45d677984886ad1f"), looks := false }, kinds := [], alts := [], laidByText := true, laidKinds := [.data], laidTests := true, laidLooks := .later }
def FnExactEvalGfUptoCardSaid : Prop := Claim7.holds Tryd.pinned (.plain (OpenSpec.upto fnExactEvalGfSpec)) fnExactEvalGfUptoCard

/-- THE SECOND FORM's CARD OF 'laws.FnExactMulPoly'. -/
def fnExactMulPolyUptoCard : Claim7 := { stood := { row := fnExactMulPolyUptoRow, standIns := [], harness := (true, "95b71db071b5ba239005f030a1acd7b0afd728ff933233dd45d677984886ad1f"), looks := false }, kinds := [], alts := [], laidByText := true, laidKinds := [.data], laidTests := true, laidLooks := .later }
def FnExactMulPolyUptoCardSaid : Prop := Claim7.holds Tryd.pinned (.plain (OpenSpec.upto fnExactMulPolySpec)) fnExactMulPolyUptoCard

/-- THE SECOND FORM's CARD OF 'laws.FnExactDivPoly'. -/
def fnExactDivPolyUptoCard : Claim7 := { stood := { row := fnExactDivPolyUptoRow, standIns := [], harness := (true, "95b71db071b5ba239005f030a1acd7b0afd728ff933233dd45d677984886ad1f"), looks := false }, kinds := [], alts := [], laidByText := true, laidKinds := [.data], laidTests := true, laidLooks := .later }
def FnExactDivPolyUptoCardSaid : Prop := Claim7.holds Tryd.pinned (.plain (OpenSpec.upto fnExactDivPolySpec)) fnExactDivPolyUptoCard

/-- THE SECOND FORM's CARD OF 'laws.FnExactInvertMatrix'. -/
def fnExactInvertMatrixUptoCard : Claim7 := { stood := { row := fnExactInvertMatrixUptoRow, standIns := [], harness := (true, "95b71db071b5ba239005f030a1acd7b0afd728ff933233dd45d677984886ad1f"), looks := false }, kinds := [], alts := [], laidByText := true, laidKinds := [.data], laidTests := true, laidLooks := .later }
def FnExactInvertMatrixUptoCardSaid : Prop := Claim7.holds Tryd.pinned (.plain (OpenSpec.upto fnExactInvertMatrixSpec)) fnExactInvertMatrixUptoCard

/-- THE SECOND FORM's CARD OF 'laws.FnExactCauchyMatrix'. -/
def fnExactCauchyMatrixUptoCard : Claim7 := { stood := { row := fnExactCauchyMatrixUptoRow, standIns := [], harness := (true, "95b71db071b5ba239005f030a1acd7b0afd728ff933233dd45d677984886ad1f"), looks := false }, kinds := [], alts := [], laidByText := true, laidKinds := [.data], laidTests := true, laidLooks := .later }
def FnExactCauchyMatrixUptoCardSaid : Prop := Claim7.holds Tryd.pinned (.plain (OpenSpec.upto fnExactCauchyMatrixSpec)) fnExactCauchyMatrixUptoCard

/-- THE SECOND FORM's CARD OF 'laws.FnExactSolveBy'. -/
def fnExactSolveByUptoCard : Claim7 := { stood := { row := fnExactSolveByUptoRow, standIns := [], harness := (true, "95b71db071b5ba239005f030a1acd7b0afd728ff933233dd45d677984886ad1f"), looks := false }, kinds := [], alts := [], laidByText := true, laidKinds := [.data], laidTests := true, laidLooks := .later }
def FnExactSolveByUptoCardSaid : Prop := Claim7.holds Tryd.pinned (.plain (OpenSpec.upto fnExactSolveBySpec)) fnExactSolveByUptoCard

/-- THE SECOND FORM's CARD OF 'laws.FnExactCodeMatrix'. -/
def fnExactCodeMatrixUptoCard : Claim7 := { stood := { row := fnExactCodeMatrixUptoRow, standIns := [], harness := (true, "95b71db071b5ba239005f030a1acd7b0afd728ff933233dd45d677984886ad1f"), looks := false }, kinds := [], alts := [], laidByText := true, laidKinds := [.data], laidTests := true, laidLooks := .later }
def FnExactCodeMatrixUptoCardSaid : Prop := Claim7.holds Tryd.pinned (.plain (OpenSpec.upto fnExactCodeMatrixSpec)) fnExactCodeMatrixUptoCard

/-- THE SECOND FORM's CARD OF 'laws.FnExactEncodePieces'. -/
def fnExactEncodePiecesUptoCard : Claim7 := { stood := { row := fnExactEncodePiecesUptoRow, standIns := [], harness := (true, "95b71db071b5ba239005f030a1acd7b0afd728ff933233dd45d677984886ad1f"), looks := false }, kinds := [], alts := [], laidByText := true, laidKinds := [.data], laidTests := true, laidLooks := .later }
def FnExactEncodePiecesUptoCardSaid : Prop := Claim7.holds Tryd.pinned (.plain (OpenSpec.upto fnExactEncodePiecesSpec)) fnExactEncodePiecesUptoCard

/-- THE SECOND FORM's CARD OF 'laws.FnExactDecodePieces'. -/
def fnExactDecodePiecesUptoCard : Claim7 := { stood := { row := fnExactDecodePiecesUptoRow, standIns := [], harness := (true, "95b71db071b5ba239005f030a1acd7b0afd728ff933233dd45d677984886ad1f"), looks := false }, kinds := [], alts := [], laidByText := true, laidKinds := [.data], laidTests := true, laidLooks := .later }
def FnExactDecodePiecesUptoCardSaid : Prop := Claim7.holds Tryd.pinned (.plain (OpenSpec.upto fnExactDecodePiecesSpec)) fnExactDecodePiecesUptoCard

/-- THE SECOND FORM's CARD OF 'laws.FnExactCheckPieces'. -/
def fnExactCheckPiecesUptoCard : Claim7 := { stood := { row := fnExactCheckPiecesUptoRow, standIns := [], harness := (true, "95b71db071b5ba239005f030a1acd7b0afd728ff933233dd45d677984886ad1f"), looks := false }, kinds := [], alts := [], laidByText := true, laidKinds := [.data], laidTests := true, laidLooks := .later }
def FnExactCheckPiecesUptoCardSaid : Prop := Claim7.holds Tryd.pinned (.plain (OpenSpec.upto fnExactCheckPiecesSpec)) fnExactCheckPiecesUptoCard

/-- THE SECOND FORM's CARD OF 'laws.FnExactUpdatePiece'. -/
def fnExactUpdatePieceUptoCard : Claim7 := { stood := { row := fnExactUpdatePieceUptoRow, standIns := [], harness := (true, "95b71db071b5ba239005f030a1acd7b0afd728ff933233dd45d677984886ad1f"), looks := false }, kinds := [], alts := [], laidByText := true, laidKinds := [.data], laidTests := true, laidLooks := .later }
def FnExactUpdatePieceUptoCardSaid : Prop := Claim7.holds Tryd.pinned (.plain (OpenSpec.upto fnExactUpdatePieceSpec)) fnExactUpdatePieceUptoCard

/-- THE SECOND FORM's CARD OF 'laws.FnExactMulMatrix'. -/
def fnExactMulMatrixUptoCard : Claim7 := { stood := { row := fnExactMulMatrixUptoRow, standIns := [], harness := (true, "95b71db071b5ba239005f030a1acd7b0afd728ff933233dd45d677984886ad1f"), looks := false }, kinds := [], alts := [], laidByText := true, laidKinds := [.data], laidTests := true, laidLooks := .later }
def FnExactMulMatrixUptoCardSaid : Prop := Claim7.holds Tryd.pinned (.plain (OpenSpec.upto fnExactMulMatrixSpec)) fnExactMulMatrixUptoCard
end Rows
end Go.Proofs.YtoipcoidcaijjaaDoor
