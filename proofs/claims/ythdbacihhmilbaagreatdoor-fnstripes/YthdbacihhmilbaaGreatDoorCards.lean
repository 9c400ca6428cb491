/-
  DERIVED. GIVEN WITH THE SEED: THE CARDS: each row of YthdbacihhmilbaaGreatDoorRows.lean that lists a variable, with what it lists TIED to the program's text (the seventh form; the later family's looks); each row that meets fmt, with fmt's text TOLD by the authors' own Lean function (tested against real Go, not proved from fmt's source: count such statements apart). THE CARD IS WHAT COUNTS. Prove the row's statement (the work); the ties are given (YthdbacihhmilbaaGreatDoorTie.lean); close each card by the builder's one call (the guide's Derived/Test/ToyasCard.lean, 'card_holds'). Laid BY PROGRAM, IN A SANDBOX (cutbox-door.mjs). By AI agents, Wed Nov 11 2026. No macro, syntax, notation, axiom, sorry.
-/
import Derived.Test.YthdbacihhmilbaaGreatDoorRows
import GoSem.ClaimSeven
namespace Go.Proofs.YthdbacihhmilbaaGreatDoor
namespace Rows

/-- THE TIED CARD OF 'laws.FnStripes'. -/
def fnStripesCard : Claim7 := { stood := { row := fnStripesRow, standIns := [], harness := (true, "cd3b327874682e7308f8ec6a9d24ffa0d198294a5ed0dc041a426d225a2c9969"), looks := true }, kinds := [], alts := [], laidByText := true, laidKinds := [.data], laidTests := true, laidLooks := .later }
def FnStripesCardSaid : Prop := Claim7.holds Tryz.pinned (.plain (OpenSpec.ofChange fnStripesSpec)) fnStripesCard

/-- THE TIED CARD OF 'laws.FnMends'. -/
def fnMendsCard : Claim7 := { stood := { row := fnMendsRow, standIns := [], harness := (true, "cd3b327874682e7308f8ec6a9d24ffa0d198294a5ed0dc041a426d225a2c9969"), looks := true }, kinds := [], alts := [], laidByText := true, laidKinds := [.data], laidTests := true, laidLooks := .later }
def FnMendsCardSaid : Prop := Claim7.holds Tryz.pinned (.plain (OpenSpec.ofChange fnMendsSpec)) fnMendsCard

/-- THE SECOND FORM's CARD OF 'laws.FnStripes'. -/
def fnStripesUptoCard : Claim7 := { stood := { row := fnStripesUptoRow, standIns := [], harness := (true, "cd3b327874682e7308f8ec6a9d24ffa0d198294a5ed0dc041a426d225a2c9969"), looks := true }, kinds := [], alts := [], laidByText := true, laidKinds := [.data], laidTests := true, laidLooks := .later }
def FnStripesUptoCardSaid : Prop := Claim7.holds Tryz.pinned (.plain (OpenSpec.upto fnStripesSpec)) fnStripesUptoCard

/-- THE SECOND FORM's CARD OF 'laws.FnMends'. -/
def fnMendsUptoCard : Claim7 := { stood := { row := fnMendsUptoRow, standIns := [], harness := (true, "cd3b327874682e7308f8ec6a9d24ffa0d198294a5ed0dc041a426d225a2c9969"), looks := true }, kinds := [], alts := [], laidByText := true, laidKinds := [.data], laidTests := true, laidLooks := .later }
def FnMendsUptoCardSaid : Prop := Claim7.holds Tryz.pinned (.plain (OpenSpec.upto fnMendsSpec)) fnMendsUptoCard
end Rows
end Go.Proofs.YthdbacihhmilbaaGreatDoor
