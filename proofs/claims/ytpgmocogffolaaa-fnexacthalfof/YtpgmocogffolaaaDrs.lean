/-
  A sector read: the model's ReadSector, call by call. The contract says what it asks.
-/
import Derived.Test.YtpgmocogffolaaaDrd
namespace Go.Proofs.Ytpgmocogffolaaa
open Go.RowKit
set_option linter.unusedVariables false

end Go.Proofs.Ytpgmocogffolaaa
