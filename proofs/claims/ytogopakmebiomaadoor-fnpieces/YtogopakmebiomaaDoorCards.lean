/-
  DERIVED. GIVEN WITH THE SEED: THE CARDS: each row of YtogopakmebiomaaDoorRows.lean that lists a variable, with what it lists TIED to the program's text (the seventh form; the later family's looks); each row that meets fmt, with fmt's text TOLD by the authors' own Lean function (tested against real Go, not proved from fmt's source: count such statements apart). THE CARD IS WHAT COUNTS. Prove the row's statement (the work); the ties are given (YtogopakmebiomaaDoorTie.lean); close each card by the builder's one call (the guide's Derived/Test/ToyasCard.lean, 'card_holds'). Laid BY PROGRAM, IN A SANDBOX (cutbox-door.mjs). By AI agents, Wed Nov 11 2026. No macro, syntax, notation, axiom, sorry.
-/
import Derived.Test.YtogopakmebiomaaDoorRows
import GoSem.ClaimSeven
namespace Go.Proofs.YtogopakmebiomaaDoor
namespace Rows

/-- THE TIED CARD OF 'laws.FnExactGeneratorOf'. -/
def fnExactGeneratorOfCard : Claim7 := { stood := { row := fnExactGeneratorOfRow, standIns := [], harness := (true, "2d16398bba3eec24acd66621cb1ac1ba80bced1d8a0516ac4b94daf3cba32170"), looks := false }, kinds := [], alts := [], laidByText := true, laidKinds := [.data], laidTests := true, laidLooks := .later }
def FnExactGeneratorOfCardSaid : Prop := Claim7.holds Tryd.pinned (.plain (OpenSpec.ofChange fnExactGeneratorOfSpec)) fnExactGeneratorOfCard

/-- THE TIED CARD OF 'laws.FnExactEncodeWord'. -/
def fnExactEncodeWordCard : Claim7 := { stood := { row := fnExactEncodeWordRow, standIns := [], harness := (true, "2d16398bba3eec24acd66621cb1ac1ba80bced1d8a0516ac4b94daf3cba32170"), looks := false }, kinds := [], alts := [], laidByText := true, laidKinds := [.data], laidTests := true, laidLooks := .later }
def FnExactEncodeWordCardSaid : Prop := Claim7.holds Tryd.pinned (.plain (OpenSpec.ofChange fnExactEncodeWordSpec)) fnExactEncodeWordCard

/-- THE TIED CARD OF 'laws.FnExactSyndromesOf'. -/
def fnExactSyndromesOfCard : Claim7 := { stood := { row := fnExactSyndromesOfRow, standIns := [], harness := (true, "2d16398bba3eec24acd66621cb1ac1ba80bced1d8a0516ac4b94daf3cba32170"), looks := false }, kinds := [], alts := [], laidByText := true, laidKinds := [.data], laidTests := true, laidLooks := .later }
def FnExactSyndromesOfCardSaid : Prop := Claim7.holds Tryd.pinned (.plain (OpenSpec.ofChange fnExactSyndromesOfSpec)) fnExactSyndromesOfCard

/-- THE TIED CARD OF 'laws.FnExactIsWord'. -/
def fnExactIsWordCard : Claim7 := { stood := { row := fnExactIsWordRow, standIns := [], harness := (true, "2d16398bba3eec24acd66621cb1ac1ba80bced1d8a0516ac4b94daf3cba32170"), looks := false }, kinds := [], alts := [], laidByText := true, laidKinds := [.data], laidTests := true, laidLooks := .later }
def FnExactIsWordCardSaid : Prop := Claim7.holds Tryd.pinned (.plain (OpenSpec.ofChange fnExactIsWordSpec)) fnExactIsWordCard

/-- THE TIED CARD OF 'laws.FnExactLocatorOf'. -/
def fnExactLocatorOfCard : Claim7 := { stood := { row := fnExactLocatorOfRow, standIns := [], harness := (true, "2d16398bba3eec24acd66621cb1ac1ba80bced1d8a0516ac4b94daf3cba32170"), looks := false }, kinds := [], alts := [], laidByText := true, laidKinds := [.data], laidTests := true, laidLooks := .later }
def FnExactLocatorOfCardSaid : Prop := Claim7.holds Tryd.pinned (.plain (OpenSpec.ofChange fnExactLocatorOfSpec)) fnExactLocatorOfCard

/-- THE TIED CARD OF 'laws.FnExactDecodeWord'. -/
def fnExactDecodeWordCard : Claim7 := { stood := { row := fnExactDecodeWordRow, standIns := [], harness := (true, "2d16398bba3eec24acd66621cb1ac1ba80bced1d8a0516ac4b94daf3cba32170"), looks := false }, kinds := [], alts := [], laidByText := true, laidKinds := [.data], laidTests := true, laidLooks := .later }
def FnExactDecodeWordCardSaid : Prop := Claim7.holds Tryd.pinned (.plain (OpenSpec.ofChange fnExactDecodeWordSpec)) fnExactDecodeWordCard

/-- THE TIED CARD OF 'laws.FnWords'. -/
def fnWordsCard : Claim7 := { stood := { row := fnWordsRow, standIns := [], harness := (true, "2d16398bba3eec24acd66621cb1ac1ba80bced1d8a0516ac4b94daf3cba32170"), looks := false }, kinds := [], alts := [], laidByText := true, laidKinds := [.data], laidTests := true, laidLooks := .later }
def FnWordsCardSaid : Prop := Claim7.holds Tryd.pinned (.plain (OpenSpec.ofChange fnWordsSpec)) fnWordsCard

/-- THE TIED CARD OF 'laws.FnLocators'. -/
def fnLocatorsCard : Claim7 := { stood := { row := fnLocatorsRow, standIns := [], harness := (true, "2d16398bba3eec24acd66621cb1ac1ba80bced1d8a0516ac4b94daf3cba32170"), looks := false }, kinds := [], alts := [], laidByText := true, laidKinds := [.data], laidTests := true, laidLooks := .later }
def FnLocatorsCardSaid : Prop := Claim7.holds Tryd.pinned (.plain (OpenSpec.ofChange fnLocatorsSpec)) fnLocatorsCard

/-- THE TIED CARD OF 'laws.FnErasure'. -/
def fnErasureCard : Claim7 := { stood := { row := fnErasureRow, standIns := [], harness := (true, "2d16398bba3eec24acd66621cb1ac1ba80bced1d8a0516ac4b94daf3cba32170"), looks := false }, kinds := [], alts := [], laidByText := true, laidKinds := [.data], laidTests := true, laidLooks := .later }
def FnErasureCardSaid : Prop := Claim7.holds Tryd.pinned (.plain (OpenSpec.ofChange fnErasureSpec)) fnErasureCard

/-- THE TIED CARD OF 'laws.FnPieces'. -/
def fnPiecesCard : Claim7 := { stood := { row := fnPiecesRow, standIns := [], harness := (true, "2d16398bba3eec24acd66621cb1ac1ba80bced1d8a0516ac4b94daf3cba32170"), looks := false }, kinds := [], alts := [], laidByText := true, laidKinds := [.data], laidTests := true, laidLooks := .later }
def FnPiecesCardSaid : Prop := Claim7.holds Tryd.pinned (.plain (OpenSpec.ofChange fnPiecesSpec)) fnPiecesCard

/-- THE SECOND FORM's CARD OF 'laws.FnExactGeneratorOf'. -/
def fnExactGeneratorOfUptoCard : Claim7 := { stood := { row := fnExactGeneratorOfUptoRow, standIns := [], harness := (true, "2d16398bba3eec24acd66621cb1ac1ba80bced1d8a0516ac4b94daf3cba32170"), looks := false }, kinds := [], alts := [], laidByText := true, laidKinds := [.data], laidTests := true, laidLooks := .later }
def FnExactGeneratorOfUptoCardSaid : Prop := Claim7.holds Tryd.pinned (.plain (OpenSpec.upto fnExactGeneratorOfSpec)) fnExactGeneratorOfUptoCard

/-- THE SECOND FORM's CARD OF 'laws.FnExactEncodeWord'. -/
def fnExactEncodeWordUptoCard : Claim7 := { stood := { row := fnExactEncodeWordUptoRow, standIns := [], harness := (true, "2d16398bba3eec24acd66621cb1ac1ba80bced1d8a0516ac4b94daf3cba32170"), looks := false }, kinds := [], alts := [], laidByText := true, laidKinds := [.data], laidTests := true, laidLooks := .later }
def FnExactEncodeWordUptoCardSaid : Prop := Claim7.holds Tryd.pinned (.plain (OpenSpec.upto fnExactEncodeWordSpec)) fnExactEncodeWordUptoCard

/-- THE SECOND FORM's CARD OF 'laws.FnExactSyndromesOf'. -/
def fnExactSyndromesOfUptoCard : Claim7 := { stood := { row := fnExactSyndromesOfUptoRow, standIns := [], harness := (true, "2d16398bba3eec24acd66621cb1ac1ba80bced1d8a0516ac4b94daf3cba32170"), looks := false }, kinds := [], alts := [], laidByText := true, laidKinds := [.data], laidTests := true, laidLooks := .later }
def FnExactSyndromesOfUptoCardSaid : Prop := Claim7.holds Tryd.pinned (.plain (OpenSpec.upto fnExactSyndromesOfSpec)) fnExactSyndromesOfUptoCard

/-- THE SECOND FORM's CARD OF 'laws.FnExactIsWord'. -/
def fnExactIsWordUptoCard : Claim7 := { stood := { row := fnExactIsWordUptoRow, standIns := [], harness := (true, "2d16398bba3eec24acd66621cb1ac1ba80bced1d8a0516ac4b94daf3cba32170"), looks := false }, kinds := [], alts := [], laidByText := true, laidKinds := [.data], laidTests := true, laidLooks := .later }
def FnExactIsWordUptoCardSaid : Prop := Claim7.holds Tryd.pinned (.plain (OpenSpec.upto fnExactIsWordSpec)) fnExactIsWordUptoCard

/-- THE SECOND FORM's CARD OF 'laws.FnExactLocatorOf'. -/
def fnExactLocatorOfUptoCard : Claim7 := { stood := { row := fnExactLocatorOfUptoRow, standIns := [], harness := (true, "2d16398bba3eec24acd66621cb1ac1ba80bced1d8a0516ac4b94daf3cba32170"), looks := false }, kinds := [], alts := [], laidByText := true, laidKinds := [.data], laidTests := true, laidLooks := .later }
def FnExactLocatorOfUptoCardSaid : Prop := Claim7.holds Tryd.pinned (.plain (OpenSpec.upto fnExactLocatorOfSpec)) fnExactLocatorOfUptoCard

/-- THE SECOND FORM's CARD OF 'laws.FnExactDecodeWord'. -/
def fnExactDecodeWordUptoCard : Claim7 := { stood := { row := fnExactDecodeWordUptoRow, standIns := [], harness := (true, "2d16398bba3eec24acd66621cb1ac1ba80bced1d8a0516ac4b94daf3cba32170"), looks := false }, kinds := [], alts := [], laidByText := true, laidKinds := [.data], laidTests := true, laidLooks := .later }
def FnExactDecodeWordUptoCardSaid : Prop := Claim7.holds Tryd.pinned (.plain (OpenSpec.upto fnExactDecodeWordSpec)) fnExactDecodeWordUptoCard

/-- THE SECOND FORM's CARD OF 'laws.FnWords'. -/
def fnWordsUptoCard : Claim7 := { stood := { row := fnWordsUptoRow, standIns := [], harness := (true, "2d16398bba3eec24acd66621cb1ac1ba80bced1d8a0516ac4b94daf3cba32170"), looks := false }, kinds := [], alts := [], laidByText := true, laidKinds := [.data], laidTests := true, laidLooks := .later }
def FnWordsUptoCardSaid : Prop := Claim7.holds Tryd.pinned (.plain (OpenSpec.upto fnWordsSpec)) fnWordsUptoCard

/-- THE SECOND FORM's CARD OF 'laws.FnLocators'. -/
def fnLocatorsUptoCard : Claim7 := { stood := { row := fnLocatorsUptoRow, standIns := [], harness := (true, "2d16398bba3eec24acd66621cb1ac1ba80bced1d8a0516ac4b94daf3cba32170"), looks := false }, kinds := [], alts := [], laidByText := true, laidKinds := [.data], laidTests := true, laidLooks := .later }
def FnLocatorsUptoCardSaid : Prop := Claim7.holds Tryd.pinned (.plain (OpenSpec.upto fnLocatorsSpec)) fnLocatorsUptoCard

/-- THE SECOND FORM's CARD OF 'laws.FnErasure'. -/
def fnErasureUptoCard : Claim7 := { stood := { row := fnErasureUptoRow, standIns := [], harness := (true, "2d16398bba3eec24acd66621cb1ac1ba80bced1d8a0516ac4b94daf3cba32170"), looks := false }, kinds := [], alts := [], laidByText := true, laidKinds := [.data], laidTests := true, laidLooks := .later }
def FnErasureUptoCardSaid : Prop := Claim7.holds Tryd.pinned (.plain (OpenSpec.upto fnErasureSpec)) fnErasureUptoCard

/-- THE SECOND FORM's CARD OF 'laws.FnPieces'. -/
def fnPiecesUptoCard : Claim7 := { stood := { row := fnPiecesUptoRow, standIns := [], harness := (true, "2d16398bba3eec24acd66621cb1ac1ba80bced1d8a0516ac4b94daf3cba32170"), looks := false }, kinds := [], alts := [], laidByText := true, laidKinds := [.data], laidTests := true, laidLooks := .later }
def FnPiecesUptoCardSaid : Prop := Claim7.holds Tryd.pinned (.plain (OpenSpec.upto fnPiecesSpec)) fnPiecesUptoCard
end Rows
end Go.Proofs.YtogopakmebiomaaDoor
