/-
  DERIVED. GIVEN WITH THE SEED: THE CARDS: each row of YtbgadbokejaomaaGreatDoorRows.lean that lists a variable, with what it lists TIED to the program's text (the seventh form; the later family's looks); each row that meets fmt, with fmt's text TOLD by the authors' own Lean function (tested against real Go, not proved from fmt's source: count such statements apart). THE CARD IS WHAT COUNTS. Prove the row's statement (the work); the ties are given (YtbgadbokejaomaaGreatDoorTie.lean); close each card by the builder's one call (the guide's Derived/Test/ToyasCard.lean, 'card_holds'). Laid BY PROGRAM, IN A SANDBOX (cutbox-door.mjs). By AI agents, Wed Nov 11 2026. No macro, syntax, notation, axiom, sorry.
-/
import Derived.Test.YtbgadbokejaomaaGreatDoorRows
import GoSem.ClaimSeven
namespace Go.Proofs.YtbgadbokejaomaaGreatDoor
namespace Rows

/-- THE TIED CARD OF 'laws.FnExactNewScrub'. -/
def fnExactNewScrubCard : Claim7 := { stood := { row := fnExactNewScrubRow, standIns := [], harness := (true, "a919babfc7579af77a0108aae3c3f7bbf422b790f456300f13e391eeedece58c"), looks := true }, kinds := [], alts := [], laidByText := true, laidKinds := [.data], laidTests := true, laidLooks := .later }
def FnExactNewScrubCardSaid : Prop := Claim7.holds Tryz.pinned (.plain (OpenSpec.ofChange fnExactNewScrubSpec)) fnExactNewScrubCard

/-- THE TIED CARD OF 'laws.FnExactScrubNext'. -/
def fnExactScrubNextCard : Claim7 := { stood := { row := fnExactScrubNextRow, standIns := [], harness := (true, "a919babfc7579af77a0108aae3c3f7bbf422b790f456300f13e391eeedece58c"), looks := true }, kinds := [], alts := [], laidByText := true, laidKinds := [.data], laidTests := true, laidLooks := .later }
def FnExactScrubNextCardSaid : Prop := Claim7.holds Tryz.pinned (.plain (OpenSpec.ofChange fnExactScrubNextSpec)) fnExactScrubNextCard

/-- THE TIED CARD OF 'laws.FnExactScrubAll'. -/
def fnExactScrubAllCard : Claim7 := { stood := { row := fnExactScrubAllRow, standIns := [], harness := (true, "a919babfc7579af77a0108aae3c3f7bbf422b790f456300f13e391eeedece58c"), looks := true }, kinds := [], alts := [], laidByText := true, laidKinds := [.data], laidTests := true, laidLooks := .later }
def FnExactScrubAllCardSaid : Prop := Claim7.holds Tryz.pinned (.plain (OpenSpec.ofChange fnExactScrubAllSpec)) fnExactScrubAllCard

/-- THE TIED CARD OF 'laws.FnExactDamageOf'. -/
def fnExactDamageOfCard : Claim7 := { stood := { row := fnExactDamageOfRow, standIns := [], harness := (true, "a919babfc7579af77a0108aae3c3f7bbf422b790f456300f13e391eeedece58c"), looks := true }, kinds := [], alts := [], laidByText := true, laidKinds := [.data], laidTests := true, laidLooks := .later }
def FnExactDamageOfCardSaid : Prop := Claim7.holds Tryz.pinned (.plain (OpenSpec.ofChange fnExactDamageOfSpec)) fnExactDamageOfCard

/-- THE TIED CARD OF 'laws.FnExactTextAt'. -/
def fnExactTextAtCard : Claim7 := { stood := { row := fnExactTextAtRow, standIns := [], harness := (true, "a919babfc7579af77a0108aae3c3f7bbf422b790f456300f13e391eeedece58c"), looks := true }, kinds := [], alts := [], laidByText := true, laidKinds := [.data], laidTests := true, laidLooks := .later }
def FnExactTextAtCardSaid : Prop := Claim7.holds Tryz.pinned (.plain (OpenSpec.ofChange fnExactTextAtSpec)) fnExactTextAtCard

/-- THE TIED CARD OF 'laws.FnExactRewriteAt'. -/
def fnExactRewriteAtCard : Claim7 := { stood := { row := fnExactRewriteAtRow, standIns := [], harness := (true, "a919babfc7579af77a0108aae3c3f7bbf422b790f456300f13e391eeedece58c"), looks := true }, kinds := [], alts := [], laidByText := true, laidKinds := [.data], laidTests := true, laidLooks := .later }
def FnExactRewriteAtCardSaid : Prop := Claim7.holds Tryz.pinned (.plain (OpenSpec.ofChange fnExactRewriteAtSpec)) fnExactRewriteAtCard

/-- THE TIED CARD OF 'laws.FnScrubs'. -/
def fnScrubsCard : Claim7 := { stood := { row := fnScrubsRow, standIns := [], harness := (true, "a919babfc7579af77a0108aae3c3f7bbf422b790f456300f13e391eeedece58c"), looks := true }, kinds := [], alts := [], laidByText := true, laidKinds := [.data], laidTests := true, laidLooks := .later }
def FnScrubsCardSaid : Prop := Claim7.holds Tryz.pinned (.plain (OpenSpec.ofChange fnScrubsSpec)) fnScrubsCard

/-- THE TIED CARD OF 'laws.FnExactWriteStripe'. -/
def fnExactWriteStripeCard : Claim7 := { stood := { row := fnExactWriteStripeRow, standIns := [], harness := (true, "a919babfc7579af77a0108aae3c3f7bbf422b790f456300f13e391eeedece58c"), looks := true }, kinds := [], alts := [], laidByText := true, laidKinds := [.data], laidTests := true, laidLooks := .later }
def FnExactWriteStripeCardSaid : Prop := Claim7.holds Tryz.pinned (.plain (OpenSpec.ofChange fnExactWriteStripeSpec)) fnExactWriteStripeCard

/-- THE TIED CARD OF 'laws.FnExactReadStripe'. -/
def fnExactReadStripeCard : Claim7 := { stood := { row := fnExactReadStripeRow, standIns := [], harness := (true, "a919babfc7579af77a0108aae3c3f7bbf422b790f456300f13e391eeedece58c"), looks := true }, kinds := [], alts := [], laidByText := true, laidKinds := [.data], laidTests := true, laidLooks := .later }
def FnExactReadStripeCardSaid : Prop := Claim7.holds Tryz.pinned (.plain (OpenSpec.ofChange fnExactReadStripeSpec)) fnExactReadStripeCard

/-- THE TIED CARD OF 'laws.FnExactMendStripe'. -/
def fnExactMendStripeCard : Claim7 := { stood := { row := fnExactMendStripeRow, standIns := [], harness := (true, "a919babfc7579af77a0108aae3c3f7bbf422b790f456300f13e391eeedece58c"), looks := true }, kinds := [], alts := [], laidByText := true, laidKinds := [.data], laidTests := true, laidLooks := .later }
def FnExactMendStripeCardSaid : Prop := Claim7.holds Tryz.pinned (.plain (OpenSpec.ofChange fnExactMendStripeSpec)) fnExactMendStripeCard

/-- THE SECOND FORM's CARD OF 'laws.FnExactNewScrub'. -/
def fnExactNewScrubUptoCard : Claim7 := { stood := { row := fnExactNewScrubUptoRow, standIns := [], harness := (true, "a919babfc7579af77a0108aae3c3f7bbf422b790f456300f13e391eeedece58c"), looks := true }, kinds := [], alts := [], laidByText := true, laidKinds := [.data], laidTests := true, laidLooks := .later }
def FnExactNewScrubUptoCardSaid : Prop := Claim7.holds Tryz.pinned (.plain (OpenSpec.upto fnExactNewScrubSpec)) fnExactNewScrubUptoCard

/-- THE SECOND FORM's CARD OF 'laws.FnExactScrubNext'. -/
def fnExactScrubNextUptoCard : Claim7 := { stood := { row := fnExactScrubNextUptoRow, standIns := [], harness := (true, "a919babfc7579af77a0108aae3c3f7bbf422b790f456300f13e391eeedece58c"), looks := true }, kinds := [], alts := [], laidByText := true, laidKinds := [.data], laidTests := true, laidLooks := .later }
def FnExactScrubNextUptoCardSaid : Prop := Claim7.holds Tryz.pinned (.plain (OpenSpec.upto fnExactScrubNextSpec)) fnExactScrubNextUptoCard

/-- THE SECOND FORM's CARD OF 'laws.FnExactScrubAll'. -/
def fnExactScrubAllUptoCard : Claim7 := { stood := { row := fnExactScrubAllUptoRow, standIns := [], harness := (true, "a919babfc7579af77a0108aae3c3f7bbf422b790f456300f13e391eeedece58c"), looks := true }, kinds := [], alts := [], laidByText := true, laidKinds := [.data], laidTests := true, laidLooks := .later }
def FnExactScrubAllUptoCardSaid : Prop := Claim7.holds Tryz.pinned (.plain (OpenSpec.upto fnExactScrubAllSpec)) fnExactScrubAllUptoCard

/-- THE SECOND FORM's CARD OF 'laws.FnExactDamageOf'. -/
def fnExactDamageOfUptoCard : Claim7 := { stood := { row := fnExactDamageOfUptoRow, standIns := [], harness := (true, "a919babfc7579af77a0108aae3c3f7bbf422b790f456300f13e391eeedece58c"), looks := true }, kinds := [], alts := [], laidByText := true, laidKinds := [.data], laidTests := true, laidLooks := .later }
def FnExactDamageOfUptoCardSaid : Prop := Claim7.holds Tryz.pinned (.plain (OpenSpec.upto fnExactDamageOfSpec)) fnExactDamageOfUptoCard

/-- THE SECOND FORM's CARD OF 'laws.FnExactTextAt'. -/
def fnExactTextAtUptoCard : Claim7 := { stood := { row := fnExactTextAtUptoRow, standIns := [], harness := (true, "a919babfc7579af77a0108aae3c3f7bbf422b790f456300f13e391eeedece58c"), looks := true }, kinds := [], alts := [], laidByText := true, laidKinds := [.data], laidTests := true, laidLooks := .later }
def FnExactTextAtUptoCardSaid : Prop := Claim7.holds Tryz.pinned (.plain (OpenSpec.upto fnExactTextAtSpec)) fnExactTextAtUptoCard

/-- THE SECOND FORM's CARD OF 'laws.FnExactRewriteAt'. -/
def fnExactRewriteAtUptoCard : Claim7 := { stood := { row := fnExactRewriteAtUptoRow, standIns := [], harness := (true, "a919babfc7579af77a0108aae3c3f7bbf422b790f456300f13e391eeedece58c"), looks := true }, kinds := [], alts := [], laidByText := true, laidKinds := [.data], laidTests := true, laidLooks := .later }
def FnExactRewriteAtUptoCardSaid : Prop := Claim7.holds Tryz.pinned (.plain (OpenSpec.upto fnExactRewriteAtSpec)) fnExactRewriteAtUptoCard

/-- THE SECOND FORM's CARD OF 'laws.FnScrubs'. -/
def fnScrubsUptoCard : Claim7 := { stood := { row := fnScrubsUptoRow, standIns := [], harness := (true, "a919babfc7579af77a0108aae3c3f7bbf422b790f456300f13e391eeedece58c"), looks := true }, kinds := [], alts := [], laidByText := true, laidKinds := [.data], laidTests := true, laidLooks := .later }
def FnScrubsUptoCardSaid : Prop := Claim7.holds Tryz.pinned (.plain (OpenSpec.upto fnScrubsSpec)) fnScrubsUptoCard

/-- THE SECOND FORM's CARD OF 'laws.FnExactWriteStripe'. -/
def fnExactWriteStripeUptoCard : Claim7 := { stood := { row := fnExactWriteStripeUptoRow, standIns := [], harness := (true, "a919babfc7579af77a0108aae3c3f7bbf422b790f456300f13e391eeedece58c"), looks := true }, kinds := [], alts := [], laidByText := true, laidKinds := [.data], laidTests := true, laidLooks := .later }
def FnExactWriteStripeUptoCardSaid : Prop := Claim7.holds Tryz.pinned (.plain (OpenSpec.upto fnExactWriteStripeSpec)) fnExactWriteStripeUptoCard

/-- THE SECOND FORM's CARD OF 'laws.FnExactReadStripe'. -/
def fnExactReadStripeUptoCard : Claim7 := { stood := { row := fnExactReadStripeUptoRow, standIns := [], harness := (true, "a919babfc7579af77a0108aae3c3f7bbf422b790f456300f13e391eeedece58c"), looks := true }, kinds := [], alts := [], laidByText := true, laidKinds := [.data], laidTests := true, laidLooks := .later }
def FnExactReadStripeUptoCardSaid : Prop := Claim7.holds Tryz.pinned (.plain (OpenSpec.upto fnExactReadStripeSpec)) fnExactReadStripeUptoCard

/-- THE SECOND FORM's CARD OF 'laws.FnExactMendStripe'. -/
def fnExactMendStripeUptoCard : Claim7 := { stood := { row := fnExactMendStripeUptoRow, standIns := [], harness := (true, "a919babfc7579af77a0108aae3c3f7bbf422b790f456300f13e391eeedece58c"), looks := true }, kinds := [], alts := [], laidByText := true, laidKinds := [.data], laidTests := true, laidLooks := .later }
def FnExactMendStripeUptoCardSaid : Prop := Claim7.holds Tryz.pinned (.plain (OpenSpec.upto fnExactMendStripeSpec)) fnExactMendStripeUptoCard
end Rows
end Go.Proofs.YtbgadbokejaomaaGreatDoor
