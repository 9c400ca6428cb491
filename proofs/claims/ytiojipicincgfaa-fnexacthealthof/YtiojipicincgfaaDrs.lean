/-
  A sector read: the model's ReadSector, call by call. The contract says what it asks.
-/
import Derived.Test.YtiojipicincgfaaDrd
namespace Go.Proofs.Ytiojipicincgfaa
open Go.RowKit
set_option linter.unusedVariables false

end Go.Proofs.Ytiojipicincgfaa
