/-
  DERIVED. GIVEN WITH THE SEED: THE CARDS: each row of YtdoldboefceliaaDoorRows.lean that lists a variable, with what it lists TIED to the program's text (the seventh form; the later family's looks); each row that meets fmt, with fmt's text TOLD by the authors' own Lean function (tested against real Go, not proved from fmt's source: count such statements apart). THE CARD IS WHAT COUNTS. Prove the row's statement (the work); the ties are given (YtdoldboefceliaaDoorTie.lean); close each card by the builder's one call (the guide's Derived/Test/ToyasCard.lean, 'card_holds'). Laid BY PROGRAM, IN A SANDBOX (cutbox-door.mjs). By AI agents, Wed Nov 11 2026. No macro, syntax, notation, axiom, sorry.
-/
import Derived.Test.YtdoldboefceliaaDoorRows
import GoSem.ClaimSeven
namespace Go.Proofs.YtdoldboefceliaaDoor
namespace Rows

/-- THE TIED CARD OF 'laws.FnExactTextFrom'. -/
def fnExactTextFromCard : Claim7 := { stood := { row := fnExactTextFromRow, standIns := [], harness := (true, "9083d9cc376c797200bf25b76c8634533dea0de9828c516008f7e2a5e93f39e0"), looks := false }, kinds := [], alts := [], laidByText := true, laidKinds := [.data], laidTests := true, laidLooks := .later }
def FnExactTextFromCardSaid : Prop := Claim7.holds Tryd.pinned (.plain (OpenSpec.ofChange fnExactTextFromSpec)) fnExactTextFromCard

/-- THE SECOND FORM's CARD OF 'laws.FnExactTextFrom'. -/
def fnExactTextFromUptoCard : Claim7 := { stood := { row := fnExactTextFromUptoRow, standIns := [], harness := (true, "9083d9cc376c797200bf25b76c8634533dea0de9828c516008f7e2a5e93f39e0"), looks := false }, kinds := [], alts := [], laidByText := true, laidKinds := [.data], laidTests := true, laidLooks := .later }
def FnExactTextFromUptoCardSaid : Prop := Claim7.holds Tryd.pinned (.plain (OpenSpec.upto fnExactTextFromSpec)) fnExactTextFromUptoCard
end Rows
end Go.Proofs.YtdoldboefceliaaDoor
