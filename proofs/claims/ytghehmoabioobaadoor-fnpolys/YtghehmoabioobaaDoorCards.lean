/-
  DERIVED. GIVEN WITH THE SEED: THE CARDS: each row of YtghehmoabioobaaDoorRows.lean that lists a variable, with what it lists TIED to the program's text (the seventh form; the later family's looks); each row that meets fmt, with fmt's text TOLD by the authors' own Lean function (tested against real Go, not proved from fmt's source: count such statements apart). THE CARD IS WHAT COUNTS. Prove the row's statement (the work); the ties are given (YtghehmoabioobaaDoorTie.lean); close each card by the builder's one call (the guide's Derived/Test/ToyasCard.lean, 'card_holds'). Laid BY PROGRAM, IN A SANDBOX (cutbox-door.mjs). By AI agents, Wed Nov 11 2026. No macro, syntax, notation, axiom, sorry.
-/
import Derived.Test.YtghehmoabioobaaDoorRows
import GoSem.ClaimSeven
namespace Go.Proofs.YtghehmoabioobaaDoor
namespace Rows

/-- THE TIED CARD OF 'laws.FnField'. -/
def fnFieldCard : Claim7 := { stood := { row := fnFieldRow, standIns := [], harness := (true, "e519d8540d8cecdb674413300507ec32cabeaee5d2f52a34d864b94e658202e2"), looks := false }, kinds := [], alts := [], laidByText := true, laidKinds := [.data], laidTests := true, laidLooks := .later }
def FnFieldCardSaid : Prop := Claim7.holds Tryd.pinned (.plain (OpenSpec.ofChange fnFieldSpec)) fnFieldCard

/-- THE TIED CARD OF 'laws.FnPolys'. -/
def fnPolysCard : Claim7 := { stood := { row := fnPolysRow, standIns := [], harness := (true, "e519d8540d8cecdb674413300507ec32cabeaee5d2f52a34d864b94e658202e2"), looks := false }, kinds := [], alts := [], laidByText := true, laidKinds := [.data], laidTests := true, laidLooks := .later }
def FnPolysCardSaid : Prop := Claim7.holds Tryd.pinned (.plain (OpenSpec.ofChange fnPolysSpec)) fnPolysCard

/-- THE TIED CARD OF 'laws.FnExactMulGf'. -/
def fnExactMulGfCard : Claim7 := { stood := { row := fnExactMulGfRow, standIns := [], harness := (true, "e519d8540d8cecdb674413300507ec32cabeaee5d2f52a34d864b94e658202e2"), looks := false }, kinds := [], alts := [], laidByText := true, laidKinds := [.data], laidTests := true, laidLooks := .later }
def FnExactMulGfCardSaid : Prop := Claim7.holds Tryd.pinned (.plain (OpenSpec.ofChange fnExactMulGfSpec)) fnExactMulGfCard

/-- THE TIED CARD OF 'laws.FnExactDivGf'. -/
def fnExactDivGfCard : Claim7 := { stood := { row := fnExactDivGfRow, standIns := [], harness := (true, "e519d8540d8cecdb674413300507ec32cabeaee5d2f52a34d864b94e658202e2"), looks := false }, kinds := [], alts := [], laidByText := true, laidKinds := [.data], laidTests := true, laidLooks := .later }
def FnExactDivGfCardSaid : Prop := Claim7.holds Tryd.pinned (.plain (OpenSpec.ofChange fnExactDivGfSpec)) fnExactDivGfCard

/-- THE TIED CARD OF 'laws.FnExactPowGf'. -/
def fnExactPowGfCard : Claim7 := { stood := { row := fnExactPowGfRow, standIns := [], harness := (true, "e519d8540d8cecdb674413300507ec32cabeaee5d2f52a34d864b94e658202e2"), looks := false }, kinds := [], alts := [], laidByText := true, laidKinds := [.data], laidTests := true, laidLooks := .later }
def FnExactPowGfCardSaid : Prop := Claim7.holds Tryd.pinned (.plain (OpenSpec.ofChange fnExactPowGfSpec)) fnExactPowGfCard

/-- THE TIED CARD OF 'laws.FnExactExpTable'. -/
def fnExactExpTableCard : Claim7 := { stood := { row := fnExactExpTableRow, standIns := [], harness := (true, "e519d8540d8cecdb674413300507ec32cabeaee5d2f52a34d864b94e658202e2"), looks := false }, kinds := [], alts := [], laidByText := true, laidKinds := [.data], laidTests := true, laidLooks := .later }
def FnExactExpTableCardSaid : Prop := Claim7.holds Tryd.pinned (.plain (OpenSpec.ofChange fnExactExpTableSpec)) fnExactExpTableCard

/-- THE TIED CARD OF 'laws.FnExactLogTable'. -/
def fnExactLogTableCard : Claim7 := { stood := { row := fnExactLogTableRow, standIns := [], harness := (true, "e519d8540d8cecdb674413300507ec32cabeaee5d2f52a34d864b94e658202e2"), looks := false }, kinds := [], alts := [], laidByText := true, laidKinds := [.data], laidTests := true, laidLooks := .later }
def FnExactLogTableCardSaid : Prop := Claim7.holds Tryd.pinned (.plain (OpenSpec.ofChange fnExactLogTableSpec)) fnExactLogTableCard

/-- THE TIED CARD OF 'laws.FnExactOrderGf'. -/
def fnExactOrderGfCard : Claim7 := { stood := { row := fnExactOrderGfRow, standIns := [], harness := (true, "e519d8540d8cecdb674413300507ec32cabeaee5d2f52a34d864b94e658202e2"), looks := false }, kinds := [], alts := [], laidByText := true, laidKinds := [.data], laidTests := true, laidLooks := .later }
def FnExactOrderGfCardSaid : Prop := Claim7.holds Tryd.pinned (.plain (OpenSpec.ofChange fnExactOrderGfSpec)) fnExactOrderGfCard

/-- THE TIED CARD OF 'laws.FnExactEvalGf'. -/
def fnExactEvalGfCard : Claim7 := { stood := { row := fnExactEvalGfRow, standIns := [], harness := (true, "e519d8540d8cecdb674413300507ec32cabeaee5d2f52a34d864b94e658202e2"), looks := false }, kinds := [], alts := [], laidByText := true, laidKinds := [.data], laidTests := true, laidLooks := .later }
def FnExactEvalGfCardSaid : Prop := Claim7.holds Tryd.pinned (.plain (OpenSpec.ofChange fnExactEvalGfSpec)) fnExactEvalGfCard

/-- THE TIED CARD OF 'laws.FnExactMulPoly'. -/
def fnExactMulPolyCard : Claim7 := { stood := { row := fnExactMulPolyRow, standIns := [], harness := (true, "e519d8540d8cecdb674413300507ec32cabeaee5d2f52a34d864b94e658202e2"), looks := false }, kinds := [], alts := [], laidByText := true, laidKinds := [.data], laidTests := true, laidLooks := .later }
def FnExactMulPolyCardSaid : Prop := Claim7.holds Tryd.pinned (.plain (OpenSpec.ofChange fnExactMulPolySpec)) fnExactMulPolyCard

/-- THE TIED CARD OF 'laws.FnExactDivPoly'. -/
def fnExactDivPolyCard : Claim7 := { stood := { row := fnExactDivPolyRow, standIns := [], harness := (true, "e519d8540d8cecdb674413300507ec32cabeaee5d2f52a34d864b94e658202e2"), looks := false }, kinds := [], alts := [], laidByText := true, laidKinds := [.data], laidTests := true, laidLooks := .later }
def FnExactDivPolyCardSaid : Prop := Claim7.holds Tryd.pinned (.plain (OpenSpec.ofChange fnExactDivPolySpec)) fnExactDivPolyCard

/-- THE SECOND FORM's CARD OF 'laws.FnField'. -/
def fnFieldUptoCard : Claim7 := { stood := { row := fnFieldUptoRow, standIns := [], harness := (true, "e519d8540d8cecdb674413300507ec32cabeaee5d2f52a34d864b94e658202e2"), looks := false }, kinds := [], alts := [], laidByText := true, laidKinds := [.data], laidTests := true, laidLooks := .later }
def FnFieldUptoCardSaid : Prop := Claim7.holds Tryd.pinned (.plain (OpenSpec.upto fnFieldSpec)) fnFieldUptoCard

/-- THE SECOND FORM's CARD OF 'laws.FnPolys'. -/
def fnPolysUptoCard : Claim7 := { stood := { row := fnPolysUptoRow, standIns := [], harness := (true, "e519d8540d8cecdb674413300507ec32cabeaee5d2f52a34d864b94e658202e2"), looks := false }, kinds := [], alts := [], laidByText := true, laidKinds := [.data], laidTests := true, laidLooks := .later }
def FnPolysUptoCardSaid : Prop := Claim7.holds Tryd.pinned (.plain (OpenSpec.upto fnPolysSpec)) fnPolysUptoCard

/-- THE SECOND FORM's CARD OF 'laws.FnExactMulGf'. -/
def fnExactMulGfUptoCard : Claim7 := { stood := { row := fnExactMulGfUptoRow, standIns := [], harness := (true, "e519d8540d8cecdb674413300507ec32cabeaee5d2f52a34d864b94e658202e2"), looks := false }, kinds := [], alts := [], laidByText := true, laidKinds := [.data], laidTests := true, laidLooks := .later }
def FnExactMulGfUptoCardSaid : Prop := Claim7.holds Tryd.pinned (.plain (OpenSpec.upto fnExactMulGfSpec)) fnExactMulGfUptoCard

/-- THE SECOND FORM's CARD OF 'laws.FnExactDivGf'. -/
def fnExactDivGfUptoCard : Claim7 := { stood := { row := fnExactDivGfUptoRow, standIns := [], harness := (true, "e519d8540d8cecdb674413300507ec32cabeaee5d2f52a34d864b94e658202e2"), looks := false }, kinds := [], alts := [], laidByText := true, laidKinds := [.data], laidTests := true, laidLooks := .later }
def FnExactDivGfUptoCardSaid : Prop := Claim7.holds Tryd.pinned (.plain (OpenSpec.upto fnExactDivGfSpec)) fnExactDivGfUptoCard

/-- THE SECOND FORM's CARD OF 'laws.FnExactPowGf'. -/
def fnExactPowGfUptoCard : Claim7 := { stood := { row := fnExactPowGfUptoRow, standIns := [], harness := (true, "e519d8540d8cecdb674413300507ec32cabeaee5d2f52a34d864b94e658202e2"), looks := false }, kinds := [], alts := [], laidByText := true, laidKinds := [.data], laidTests := true, laidLooks := .later }
def FnExactPowGfUptoCardSaid : Prop := Claim7.holds Tryd.pinned (.plain (OpenSpec.upto fnExactPowGfSpec)) fnExactPowGfUptoCard

/-- THE SECOND FORM's CARD OF 'laws.FnExactExpTable'. -/
def fnExactExpTableUptoCard : Claim7 := { stood := { row := fnExactExpTableUptoRow, standIns := [], harness := (true, "e519d8540d8cecdb674413300507ec32cabeaee5d2f52a34d864b94e658202e2"), looks := false }, kinds := [], alts := [], laidByText := true, laidKinds := [.data], laidTests := true, laidLooks := .later }
def FnExactExpTableUptoCardSaid : Prop := Claim7.holds Tryd.pinned (.plain (OpenSpec.upto fnExactExpTableSpec)) fnExactExpTableUptoCard

/-- THE SECOND FORM's CARD OF 'laws.FnExactLogTable'. -/
def fnExactLogTableUptoCard : Claim7 := { stood := { row := fnExactLogTableUptoRow, standIns := [], harness := (true, "e519d8540d8cecdb674413300507ec32cabeaee5d2f52a34d864b94e658202e2"), looks := false }, kinds := [], alts := [], laidByText := true, laidKinds := [.data], laidTests := true, laidLooks := .later }
def FnExactLogTableUptoCardSaid : Prop := Claim7.holds Tryd.pinned (.plain (OpenSpec.upto fnExactLogTableSpec)) fnExactLogTableUptoCard

/-- THE SECOND FORM's CARD OF 'laws.FnExactOrderGf'. -/
def fnExactOrderGfUptoCard : Claim7 := { stood := { row := fnExactOrderGfUptoRow, standIns := [], harness := (true, "e519d8540d8cecdb674413300507ec32cabeaee5d2f52a34d864b94e658202e2"), looks := false }, kinds := [], alts := [], laidByText := true, laidKinds := [.data], laidTests := true, laidLooks := .later }
def FnExactOrderGfUptoCardSaid : Prop := Claim7.holds Tryd.pinned (.plain (OpenSpec.upto fnExactOrderGfSpec)) fnExactOrderGfUptoCard

/-- THE SECOND FORM's CARD OF 'laws.FnExactEvalGf'. -/
def fnExactEvalGfUptoCard : Claim7 := { stood := { row := fnExactEvalGfUptoRow, standIns := [], harness := (true, "e519d8540d8cecdb674413300507ec32cabeaee5d2f52a34d864b94e658202e2"), looks := false }, kinds := [], alts := [], laidByText := true, laidKinds := [.data], laidTests := true, laidLooks := .later }
def FnExactEvalGfUptoCardSaid : Prop := Claim7.holds Tryd.pinned (.plain (OpenSpec.upto fnExactEvalGfSpec)) fnExactEvalGfUptoCard

/-- THE SECOND FORM's CARD OF 'laws.FnExactMulPoly'. -/
def fnExactMulPolyUptoCard : Claim7 := { stood := { row := fnExactMulPolyUptoRow, standIns := [], harness := (true, "e519d8540d8cecdb674413300507ec32cabeaee5d2f52a34d864b94e658202e2"), looks := false }, kinds := [], alts := [], laidByText := true, laidKinds := [.data], laidTests := true, laidLooks := .later }
def FnExactMulPolyUptoCardSaid : Prop := Claim7.holds Tryd.pinned (.plain (OpenSpec.upto fnExactMulPolySpec)) fnExactMulPolyUptoCard

/-- THE SECOND FORM's CARD OF 'laws.FnExactDivPoly'. -/
def fnExactDivPolyUptoCard : Claim7 := { stood := { row := fnExactDivPolyUptoRow, standIns := [], harness := (true, "e519d8540d8cecdb674413300507ec32cabeaee5d2f52a34d864b94e658202e2"), looks := false }, kinds := [], alts := [], laidByText := true, laidKinds := [.data], laidTests := true, laidLooks := .later }
def FnExactDivPolyUptoCardSaid : Prop := Claim7.holds Tryd.pinned (.plain (OpenSpec.upto fnExactDivPolySpec)) fnExactDivPolyUptoCard
end Rows
end Go.Proofs.YtghehmoabioobaaDoor
