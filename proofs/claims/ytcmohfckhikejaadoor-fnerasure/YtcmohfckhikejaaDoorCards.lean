/-
  DERIVED. GIVEN WITH THE SEED: THE CARDS: each row of YtcmohfckhikejaaDoorRows.lean that lists a variable, with what it lists TIED to the program's text (the seventh form; the later family's looks); each row that meets fmt, with fmt's text TOLD by the authors' own Lean function (tested against real Go, not proved from fmt's source: count such statements apart). THE CARD IS WHAT COUNTS. Prove the row's statement (the work); the ties are given (YtcmohfckhikejaaDoorTie.lean); close each card by the builder's one call (the guide's Derived/Test/ToyasCard.lean, 'card_holds'). Laid BY PROGRAM, IN A SANDBOX (cutbox-door.mjs). By AI agents, Wed Nov 11 2026. No macro, syntax, notation, axiom, sorry.
-/
import Derived.Test.YtcmohfckhikejaaDoorRows
import GoSem.ClaimSeven
namespace Go.Proofs.YtcmohfckhikejaaDoor
namespace Rows

/-- THE TIED CARD OF 'laws.FnErasure'. -/
def fnErasureCard : Claim7 := { stood := { row := fnErasureRow, standIns := [], harness := (true, "36fdb30fd6016a61a5cc0ee08180453a05abfa425965237d285256e7a86baaee"), looks := false }, kinds := [], alts := [], laidByText := true, laidKinds := [.data], laidTests := true, laidLooks := .later }
def FnErasureCardSaid : Prop := Claim7.holds Tryd.pinned (.plain (OpenSpec.ofChange fnErasureSpec)) fnErasureCard

/-- THE SECOND FORM's CARD OF 'laws.FnErasure'. -/
def fnErasureUptoCard : Claim7 := { stood := { row := fnErasureUptoRow, standIns := [], harness := (true, "36fdb30fd6016a61a5cc0ee08180453a05abfa425965237d285256e7a86baaee"), looks := false }, kinds := [], alts := [], laidByText := true, laidKinds := [.data], laidTests := true, laidLooks := .later }
def FnErasureUptoCardSaid : Prop := Claim7.holds Tryd.pinned (.plain (OpenSpec.upto fnErasureSpec)) fnErasureUptoCard
end Rows
end Go.Proofs.YtcmohfckhikejaaDoor
