/-
  DERIVED. GIVEN WITH THE SEED: THE CARDS: each row of YtfhaffegogdmeaaDoorRows.lean that lists a variable, with what it lists TIED to the program's text (the seventh form; the later family's looks); each row that meets fmt, with fmt's text TOLD by the authors' own Lean function (tested against real Go, not proved from fmt's source: count such statements apart). THE CARD IS WHAT COUNTS. Prove the row's statement (the work); the ties are given (YtfhaffegogdmeaaDoorTie.lean); close each card by the builder's one call (the guide's Derived/Test/ToyasCard.lean, 'card_holds'). Laid BY PROGRAM, IN A SANDBOX (cutbox-door.mjs). By AI agents, Wed Nov 11 2026. No macro, syntax, notation, axiom, sorry.
-/
import Derived.Test.YtfhaffegogdmeaaDoorRows
import GoSem.ClaimSeven
namespace Go.Proofs.YtfhaffegogdmeaaDoor
namespace Rows

/-- THE TIED CARD OF 'laws.FnCauchy'. -/
def fnCauchyCard : Claim7 := { stood := { row := fnCauchyRow, standIns := [], harness := (true, "977dbb14c1816894c68764dde626ec3978cea1657250cf5f5d4bd5e9f5bafdb0"), looks := false }, kinds := [], alts := [], laidByText := true, laidKinds := [.data], laidTests := true, laidLooks := .later }
def FnCauchyCardSaid : Prop := Claim7.holds Tryd.pinned (.plain (OpenSpec.ofChange fnCauchySpec)) fnCauchyCard

/-- THE TIED CARD OF 'laws.FnExactMulMatrix'. -/
def fnExactMulMatrixCard : Claim7 := { stood := { row := fnExactMulMatrixRow, standIns := [], harness := (true, "977dbb14c1816894c68764dde626ec3978cea1657250cf5f5d4bd5e9f5bafdb0"), looks := false }, kinds := [], alts := [], laidByText := true, laidKinds := [.data], laidTests := true, laidLooks := .later }
def FnExactMulMatrixCardSaid : Prop := Claim7.holds Tryd.pinned (.plain (OpenSpec.ofChange fnExactMulMatrixSpec)) fnExactMulMatrixCard

/-- THE TIED CARD OF 'laws.FnExactInvertMatrix'. -/
def fnExactInvertMatrixCard : Claim7 := { stood := { row := fnExactInvertMatrixRow, standIns := [], harness := (true, "977dbb14c1816894c68764dde626ec3978cea1657250cf5f5d4bd5e9f5bafdb0"), looks := false }, kinds := [], alts := [], laidByText := true, laidKinds := [.data], laidTests := true, laidLooks := .later }
def FnExactInvertMatrixCardSaid : Prop := Claim7.holds Tryd.pinned (.plain (OpenSpec.ofChange fnExactInvertMatrixSpec)) fnExactInvertMatrixCard

/-- THE TIED CARD OF 'laws.FnExactRankOf'. -/
def fnExactRankOfCard : Claim7 := { stood := { row := fnExactRankOfRow, standIns := [], harness := (true, "977dbb14c1816894c68764dde626ec3978cea1657250cf5f5d4bd5e9f5bafdb0"), looks := false }, kinds := [], alts := [], laidByText := true, laidKinds := [.data], laidTests := true, laidLooks := .later }
def FnExactRankOfCardSaid : Prop := Claim7.holds Tryd.pinned (.plain (OpenSpec.ofChange fnExactRankOfSpec)) fnExactRankOfCard

/-- THE TIED CARD OF 'laws.FnExactCauchyMatrix'. -/
def fnExactCauchyMatrixCard : Claim7 := { stood := { row := fnExactCauchyMatrixRow, standIns := [], harness := (true, "977dbb14c1816894c68764dde626ec3978cea1657250cf5f5d4bd5e9f5bafdb0"), looks := false }, kinds := [], alts := [], laidByText := true, laidKinds := [.data], laidTests := true, laidLooks := .later }
def FnExactCauchyMatrixCardSaid : Prop := Claim7.holds Tryd.pinned (.plain (OpenSpec.ofChange fnExactCauchyMatrixSpec)) fnExactCauchyMatrixCard

/-- THE TIED CARD OF 'laws.FnExactSolveBy'. -/
def fnExactSolveByCard : Claim7 := { stood := { row := fnExactSolveByRow, standIns := [], harness := (true, "977dbb14c1816894c68764dde626ec3978cea1657250cf5f5d4bd5e9f5bafdb0"), looks := false }, kinds := [], alts := [], laidByText := true, laidKinds := [.data], laidTests := true, laidLooks := .later }
def FnExactSolveByCardSaid : Prop := Claim7.holds Tryd.pinned (.plain (OpenSpec.ofChange fnExactSolveBySpec)) fnExactSolveByCard

/-- THE SECOND FORM's CARD OF 'laws.FnCauchy'. -/
def fnCauchyUptoCard : Claim7 := { stood := { row := fnCauchyUptoRow, standIns := [], harness := (true, "977dbb14c1816894c68764dde626ec3978cea1657250cf5f5d4bd5e9f5bafdb0"), looks := false }, kinds := [], alts := [], laidByText := true, laidKinds := [.data], laidTests := true, laidLooks := .later }
def FnCauchyUptoCardSaid : Prop := Claim7.holds Tryd.pinned (.plain (OpenSpec.upto fnCauchySpec)) fnCauchyUptoCard

/-- THE SECOND FORM's CARD OF 'laws.FnExactMulMatrix'. -/
def fnExactMulMatrixUptoCard : Claim7 := { stood := { row := fnExactMulMatrixUptoRow, standIns := [], harness := (true, "977dbb14c1816894c68764dde626ec3978cea1657250cf5f5d4bd5e9f5bafdb0"), looks := false }, kinds := [], alts := [], laidByText := true, laidKinds := [.data], laidTests := true, laidLooks := .later }
def FnExactMulMatrixUptoCardSaid : Prop := Claim7.holds Tryd.pinned (.plain (OpenSpec.upto fnExactMulMatrixSpec)) fnExactMulMatrixUptoCard

/-- THE SECOND FORM's CARD OF 'laws.FnExactInvertMatrix'. -/
def fnExactInvertMatrixUptoCard : Claim7 := { stood := { row := fnExactInvertMatrixUptoRow, standIns := [], harness := (true, "977dbb14c1816894c68764dde626ec3978cea1657250cf5f5d4bd5e9f5bafdb0"), looks := false }, kinds := [], alts := [], laidByText := true, laidKinds := [.data], laidTests := true, laidLooks := .later }
def FnExactInvertMatrixUptoCardSaid : Prop := Claim7.holds Tryd.pinned (.plain (OpenSpec.upto fnExactInvertMatrixSpec)) fnExactInvertMatrixUptoCard

/-- THE SECOND FORM's CARD OF 'laws.FnExactRankOf'. -/
def fnExactRankOfUptoCard : Claim7 := { stood := { row := fnExactRankOfUptoRow, standIns := [], harness := (true, "977dbb14c1816894c68764dde626ec3978cea1657250cf5f5d4bd5e9f5bafdb0"), looks := false }, kinds := [], alts := [], laidByText := true, laidKinds := [.data], laidTests := true, laidLooks := .later }
def FnExactRankOfUptoCardSaid : Prop := Claim7.holds Tryd.pinned (.plain (OpenSpec.upto fnExactRankOfSpec)) fnExactRankOfUptoCard

/-- THE SECOND FORM's CARD OF 'laws.FnExactCauchyMatrix'. -/
def fnExactCauchyMatrixUptoCard : Claim7 := { stood := { row := fnExactCauchyMatrixUptoRow, standIns := [], harness := (true, "977dbb14c1816894c68764dde626ec3978cea1657250cf5f5d4bd5e9f5bafdb0"), looks := false }, kinds := [], alts := [], laidByText := true, laidKinds := [.data], laidTests := true, laidLooks := .later }
def FnExactCauchyMatrixUptoCardSaid : Prop := Claim7.holds Tryd.pinned (.plain (OpenSpec.upto fnExactCauchyMatrixSpec)) fnExactCauchyMatrixUptoCard

/-- THE SECOND FORM's CARD OF 'laws.FnExactSolveBy'. -/
def fnExactSolveByUptoCard : Claim7 := { stood := { row := fnExactSolveByUptoRow, standIns := [], harness := (true, "977dbb14c1816894c68764dde626ec3978cea1657250cf5f5d4bd5e9f5bafdb0"), looks := false }, kinds := [], alts := [], laidByText := true, laidKinds := [.data], laidTests := true, laidLooks := .later }
def FnExactSolveByUptoCardSaid : Prop := Claim7.holds Tryd.pinned (.plain (OpenSpec.upto fnExactSolveBySpec)) fnExactSolveByUptoCard
end Rows
end Go.Proofs.YtfhaffegogdmeaaDoor
