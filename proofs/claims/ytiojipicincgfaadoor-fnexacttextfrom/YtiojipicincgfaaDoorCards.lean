/-
  DERIVED. GIVEN WITH THE SEED: THE CARDS: each row of YtiojipicincgfaaDoorRows.lean that lists a variable, with what it lists TIED to the program's text (the seventh form; the later family's looks); each row that meets fmt, with fmt's text TOLD by the authors' own Lean function (tested against real Go, not proved from fmt's source: count such statements apart). THE CARD IS WHAT COUNTS. Prove the row's statement (the work); the ties are given (YtiojipicincgfaaDoorTie.lean); close each card by the builder's one call (the guide's Derived/Test/ToyasCard.lean, 'card_holds'). Laid BY PROGRAM, IN A SANDBOX (cutbox-door.mjs). By AI agents, Wed Nov 11 2026. No macro, syntax, notation, axiom, sorry.
-/
import Derived.Test.YtiojipicincgfaaDoorRows
import GoSem.ClaimSeven
namespace Go.Proofs.YtiojipicincgfaaDoor
namespace Rows

/-- THE TIED CARD OF 'laws.FnExactPiecesFor'. -/
def fnExactPiecesForCard : Claim7 := { stood := { row := fnExactPiecesForRow, standIns := [], harness := (true, "21f9a6bceb274a9eefe8705c82a05131bb5a01c8fa55c4491ceab3e688125b05"), looks := false }, kinds := [], alts := [], laidByText := true, laidKinds := [.data], laidTests := true, laidLooks := .later }
def FnExactPiecesForCardSaid : Prop := Claim7.holds Tryd.pinned (.plain (OpenSpec.ofChange fnExactPiecesForSpec)) fnExactPiecesForCard

/-- THE TIED CARD OF 'laws.FnExactTextFrom'. -/
def fnExactTextFromCard : Claim7 := { stood := { row := fnExactTextFromRow, standIns := [], harness := (true, "21f9a6bceb274a9eefe8705c82a05131bb5a01c8fa55c4491ceab3e688125b05"), looks := false }, kinds := [], alts := [], laidByText := true, laidKinds := [.data], laidTests := true, laidLooks := .later }
def FnExactTextFromCardSaid : Prop := Claim7.holds Tryd.pinned (.plain (OpenSpec.ofChange fnExactTextFromSpec)) fnExactTextFromCard

/-- THE SECOND FORM's CARD OF 'laws.FnExactPiecesFor'. -/
def fnExactPiecesForUptoCard : Claim7 := { stood := { row := fnExactPiecesForUptoRow, standIns := [], harness := (true, "21f9a6bceb274a9eefe8705c82a05131bb5a01c8fa55c4491ceab3e688125b05"), looks := false }, kinds := [], alts := [], laidByText := true, laidKinds := [.data], laidTests := true, laidLooks := .later }
def FnExactPiecesForUptoCardSaid : Prop := Claim7.holds Tryd.pinned (.plain (OpenSpec.upto fnExactPiecesForSpec)) fnExactPiecesForUptoCard

/-- THE SECOND FORM's CARD OF 'laws.FnExactTextFrom'. -/
def fnExactTextFromUptoCard : Claim7 := { stood := { row := fnExactTextFromUptoRow, standIns := [], harness := (true, "21f9a6bceb274a9eefe8705c82a05131bb5a01c8fa55c4491ceab3e688125b05"), looks := false }, kinds := [], alts := [], laidByText := true, laidKinds := [.data], laidTests := true, laidLooks := .later }
def FnExactTextFromUptoCardSaid : Prop := Claim7.holds Tryd.pinned (.plain (OpenSpec.upto fnExactTextFromSpec)) fnExactTextFromUptoCard
end Rows
end Go.Proofs.YtiojipicincgfaaDoor
